import Derived.Test.YtmganbdbihjbmaaJ08
/-
  ONE MEMBER MORE, OR FEWER, CHANGES AT MOST TWO NODES OF EACH LEVEL of a tree (for layer 12): pure facts.
-/
set_option linter.unusedVariables false
namespace Go.Proofs.Ytmganbdbihjbmaa

/-- what is so many levels below a row of nodes -/
def under : Nat → List Nd → List Nd
  | 0, F => F
  | d + 1, F => under d (kidsF F)
theorem under_app : ∀ (d : Nat) (F G : List Nd), under d (F ++ G) = under d F ++ under d G
  | 0, F, G => rfl
  | d + 1, F, G => by rw [under, under, under, kidsF_app, under_app d]
theorem under_nil : ∀ d : Nat, under d [] = []
  | 0 => rfl
  | d + 1 => under_nil d
theorem under_one (d : Nat) (x : Nd) : under (d + 1) [x] = under d x.kids := by rw [under, kidsF]; simp
theorem under_mid (d : Nat) (p : List Nd) (y : Nd) (s : List Nd) : under d (p ++ y :: s) = under d p ++ under d [y] ++ under d s := by
  rw [show p ++ y :: s = p ++ [y] ++ s by simp, under_app, under_app]
/-- two rows that differ in a stretch, of at most two in the second -/
def near (L M : List Nd) : Prop := ∃ A X Y B, L = A ++ X ++ B ∧ M = A ++ Y ++ B ∧ Y.length ≤ 2
theorem near_all {L M : List Nd} (h : M.length ≤ 2) : near L M := ⟨[], L, M, [], by simp, by simp, h⟩
theorem near_ctx {L M : List Nd} (h : near L M) (P S : List Nd) : near (P ++ L ++ S) (P ++ M ++ S) := by
  obtain ⟨A, X, Y, B, rfl, rfl, h3⟩ := h
  exact ⟨P ++ A, X, Y, B ++ S, by simp, by simp, h3⟩

theorem join_kids {p m s : List Nd} (h1 : 2 ≤ p.length + m.length + s.length) (h2 : p.length + m.length + s.length ≤ 4) : kidsF (joinN p m s) = p ++ m ++ s ∧ ((joinN p m s).length = 1 ∨ (joinN p m s).length = 2) := by
  have hl : (p ++ m ++ s).length = p.length + m.length + s.length := by rw [List.length_append, List.length_append]
  rw [← hl] at h1 h2
  unfold joinN
  clear hl
  generalize p ++ m ++ s = l at *
  match l, h1, h2 with
  | [a, b], _, _ => exact ⟨rfl, .inl rfl⟩
  | [a, b, c], _, _ => exact ⟨rfl, .inl rfl⟩
  | [a, b, c, d], _, _ => exact ⟨rfl, .inr rfl⟩
theorem ins_near : ∀ (h : Nat) (x : Nd) (id : Int), Nd.hi h x → ((withN x id).length = 1 ∨ (withN x id).length = 2) ∧ ∀ d, d ≤ h → near (under d [x]) (under d (withN x id))
  | 0, x, id, hx => by
    obtain ⟨i, rfl⟩ := hi_zero hx
    have h2 : (withN (.leaf i) id).length = 2 := by
      rw [withN]
      split <;> rfl
    refine ⟨.inr h2, fun d hd => ?_⟩
    obtain rfl : d = 0 := by omega
    exact near_all (by rw [under]; omega)
  | h + 1, x, id, hx => by
    obtain ⟨p, y, s, hk, hw, _, _⟩ := with_kids hx id
    obtain ⟨hx1, hx2, _, _⟩ := hi_succ hx
    obtain ⟨i1, i2⟩ := ins_near h y id (hx2 y (by rw [hk]; simp))
    have hl : p.length + 1 + s.length = 2 ∨ p.length + 1 + s.length = 3 := by
      rw [hk] at hx1
      simp only [List.length_append, List.length_cons] at hx1
      omega
    obtain ⟨j1, j2⟩ := join_kids (p := p) (m := withN y id) (s := s) (by omega) (by omega)
    rw [hw]
    refine ⟨j2, fun d hd => ?_⟩
    cases d with
    | zero => exact near_all (by rw [under]; omega)
    | succ d =>
      rw [under_one, hk, under_mid, under, j1, under_app, under_app]
      exact near_ctx (i2 d (by omega)) _ _

theorem mend_form (p : List Nd) (y : Nd) (s : List Nd) (hne : 0 < p.length + s.length) :
    ∃ (A : List Nd) (X : Nd → List Nd) (Y B : List Nd), (∀ z, p ++ z :: s = A ++ X z ++ B) ∧ mendN p y s = A ++ Y ++ B ∧ (∀ z, (X z).length = 2) ∧ (Y.length = 1 ∨ Y.length = 2) := by
  rcases List.eq_nil_or_concat p with rfl | ⟨p', o, rfl⟩
  · match s, hne with
    | o :: s', _ =>
      by_cases h3 : o.kids.length = 3
      · exact ⟨[], fun z => [z, o], [ofKids (y.kids ++ o.kids.take 1), ofKids (o.kids.drop 1)], s', fun z => by simp, by simp [mendN, h3], fun z => rfl, .inr rfl⟩
      · exact ⟨[], fun z => [z, o], [ofKids (y.kids ++ o.kids)], s', fun z => by simp, by simp [mendN, h3], fun z => rfl, .inl rfl⟩
  · by_cases h3 : o.kids.length = 3
    · exact ⟨p', fun z => [o, z], [ofKids (o.kids.take 2), ofKids (o.kids.drop 2 ++ y.kids)], s, fun z => by simp, by simp [mendN, h3], fun z => rfl, .inr rfl⟩
    · exact ⟨p', fun z => [o, z], [ofKids (o.kids ++ y.kids)], s, fun z => by simp, by simp [mendN, h3], fun z => rfl, .inl rfl⟩
theorem del_near : ∀ (h : Nat) (x : Nd) (id : Int), Nd.hi (h + 1) x →
    ∃ ys, withoutN x id = ofKids ys ∧ (ys.length = 1 ∨ ys.length = 2 ∨ ys.length = 3) ∧ allH h ys ∧ ∀ d, d ≤ h + 1 → near (under d [x]) (under d [ofKids ys])
  | h, x, id, hx => by
    obtain ⟨p, y, s, hk, hw, _, _⟩ := without_kids hx id
    obtain ⟨hx1, hx2, _, _⟩ := hi_succ hx
    have hl : p.length + 1 + s.length = 2 ∨ p.length + 1 + s.length = 3 := by
      rw [hk] at hx1
      simp only [List.length_append, List.length_cons] at hx1
      omega
    have hp : allH h p := fun z hz => hx2 z (by rw [hk]; simp [hz])
    have hs : allH h s := fun z hz => hx2 z (by rw [hk]; simp [hz])
    have hy := hx2 y (by rw [hk]; simp)
    rw [hw, outN]
    cases h with
    | zero =>
      obtain ⟨i, rfl⟩ := hi_zero hy
      rw [if_pos (show (Nd.leaf i).kids.length = 0 from rfl)]
      have hq : (p ++ s).length = 1 ∨ (p ++ s).length = 2 ∨ (p ++ s).length = 3 := by rw [List.length_append]; omega
      refine ⟨p ++ s, rfl, hq, fun z hz => ?_, fun d hd => ?_⟩
      · rcases List.mem_append.1 hz with hz | hz
        · exact hp z hz
        · exact hs z hz
      · cases d with
        | zero => exact near_all (by simp [under])
        | succ d =>
          obtain rfl : d = 0 := by omega
          rw [under_one, under_one, ofKids_kids hq, hk]
          exact ⟨p, [.leaf i], [], s, by simp [under], by simp [under], by simp⟩
    | succ h =>
      obtain ⟨ys, e1, e2, e3, e4⟩ := del_near h y id hy
      have hyk := (hi_succ hy).1
      rw [if_neg (by omega), e1, ofKids_kids e2]
      have deep : ∀ (zs : List Nd), (zs.length = 1 ∨ zs.length = 2 ∨ zs.length = 3) → kidsF zs = kidsF (p ++ ofKids ys :: s) → ∀ e, e + 2 ≤ h + 1 + 1 → near (under (e + 2) [x]) (under (e + 2) [ofKids zs]) := by
        intro zs hz1 hz2 e he
        rw [under_one, under_one, ofKids_kids hz1, hk, under, under, hz2, kidsF_app, kidsF_app, kidsF_cons, kidsF_cons, ofKids_kids e2, under_app, under_app, under_app, under_app, ← List.append_assoc, ← List.append_assoc]
        have h5 := e4 (e + 1) (by omega)
        rw [under_one, under_one, ofKids_kids e2] at h5
        exact near_ctx h5 _ _
      by_cases h1 : ys.length = 1
      · rw [if_pos h1]
        have hk1 : (ofKids ys).kids = ys := ofKids_kids e2
        obtain ⟨m1, m2, _⟩ := mend_kids hp hs (y := ofKids ys) (by rw [hk1]; exact h1) (by rw [hk1]; exact e3) (by omega)
        obtain ⟨A, X, Y, B, f1, f2, f3, f4⟩ := mend_form p (ofKids ys) s (by omega)
        have hlen : (mendN p (ofKids ys) s).length = 1 ∨ (mendN p (ofKids ys) s).length = 2 ∨ (mendN p (ofKids ys) s).length = 3 := by
          have h5 := congrArg List.length (f1 y)
          have h6 := f3 y
          rw [f2]
          simp only [List.length_append, List.length_cons] at h5 ⊢
          omega
        refine ⟨_, rfl, hlen, m2, fun d hd => ?_⟩
        match d, hd with
        | 0, _ => exact near_all (by simp [under])
        | 1, _ =>
          rw [under_one, under_one, ofKids_kids hlen, hk, f1 y, f2]
          exact ⟨A, X y, Y, B, by simp [under], by simp [under], by omega⟩
        | e + 2, hd => exact deep _ hlen m1 e hd
      · rw [if_neg h1]
        have hlen : (p ++ ofKids ys :: s).length = 1 ∨ (p ++ ofKids ys :: s).length = 2 ∨ (p ++ ofKids ys :: s).length = 3 := by
          simp only [List.length_append, List.length_cons]
          omega
        refine ⟨_, rfl, hlen, fun z hz => ?_, fun d hd => ?_⟩
        · rcases List.mem_append.1 hz with hz | hz
          · exact hp z hz
          · rcases List.mem_cons.1 hz with rfl | hz
            · exact (ofKids_hi (by omega) e3).1
            · exact hs z hz
        · match d, hd with
          | 0, _ => exact near_all (by simp [under])
          | 1, _ =>
            rw [under_one, under_one, ofKids_kids hlen, hk]
            exact ⟨p, [y], [ofKids ys], s, by simp [under], by simp [under], by simp⟩
          | e + 2, hd => exact deep _ hlen rfl e hd

end Go.Proofs.Ytmganbdbihjbmaa

/-
  HOW MANY NODES OF A LEVEL MANY CHANGES TOUCH (for layer 12's bound): pure facts.
-/
set_option linter.unusedVariables false
namespace Go.Proofs.Ytmganbdbihjbmaa

/-- the nodes of a height, of a tree (no node, or the one above all) so high -/
def atH (h : Nat) (F : List Nd) (k : Nat) : List Nd := if k ≤ h then under (h - k) F else []
theorem near_ins {h : Nat} {x : Nd} (hx : Nd.hi h x) (id : Int) (k : Nat) :
    near (atH h [x] k) (if (withN x id).length = 2 then atH (h + 1) [ofKids (withN x id)] k else atH h (withN x id) k) := by
  obtain ⟨i1, i2⟩ := ins_near h x id hx
  split
  · rename_i h2
    rcases Nat.lt_or_ge h k with hk | hk
    · refine near_all ?_
      rw [atH]
      split
      · rw [show h + 1 - k = 0 by omega, under]
        simp
      · simp
    · rw [atH, if_pos hk, atH, if_pos (by omega), show h + 1 - k = h - k + 1 by omega, under_one, ofKids_kids (.inr (.inl h2))]
      exact i2 _ (by omega)
  · rcases Nat.lt_or_ge h k with hk | hk
    · refine near_all ?_
      rw [atH, if_neg (by omega)]
      simp
    · rw [atH, if_pos hk, atH, if_pos hk]
      exact i2 _ (by omega)
theorem near_del {h : Nat} {x : Nd} {ys : List Nd} (hy : ys.length = 1 ∨ ys.length = 2 ∨ ys.length = 3) (hn : ∀ d, d ≤ h + 1 → near (under d [x]) (under d [ofKids ys])) (k : Nat) :
    near (atH (h + 1) [x] k) (if ys.length = 1 then atH h ys k else atH (h + 1) [ofKids ys] k) := by
  split
  · rename_i h1
    rcases Nat.lt_or_ge h k with hk | hk
    · refine near_all ?_
      rw [atH, if_neg (by omega)]
      simp
    · have := hn (h - k + 1) (by omega)
      rw [under_one (h - k) (ofKids ys), ofKids_kids hy] at this
      rw [atH, if_pos (by omega), atH, if_pos hk, show h + 1 - k = h - k + 1 by omega]
      exact this
  · rcases Nat.lt_or_ge (h + 1) k with hk | hk
    · refine near_all ?_
      rw [atH, if_neg (by omega)]
      simp
    · rw [atH, if_pos hk, atH, if_pos hk]
      exact hn _ (by omega)

/-- how many of a row are not so -/
noncomputable def dirt (S : Nd → Prop) (L : List Nd) : Nat := L.countP (fun x => @decide (¬ S x) (Classical.propDecidable _))
theorem dirt_step {S : Nd → Prop} {L M : List Nd} (h : near L M) : dirt (fun x => S x ∧ x ∈ M) M ≤ dirt S L + 2 := by
  obtain ⟨A, X, Y, B, rfl, rfl, hY⟩ := h
  have e : dirt (fun x => S x ∧ x ∈ A ++ Y ++ B) (A ++ Y ++ B) = dirt S (A ++ Y ++ B) := by
    refine List.countP_congr fun x hx => ?_
    simp only [decide_eq_true_eq]
    constructor
    · intro h1 h2
      exact h1 ⟨h2, hx⟩
    · intro h1 h2
      exact h1 h2.1
  rw [e]
  unfold dirt
  rw [List.countP_append, List.countP_append, List.countP_append, List.countP_append]
  have h3 : Y.countP (fun x => @decide (¬ S x) (Classical.propDecidable _)) ≤ Y.length := List.countP_le_length
  omega
theorem dirt_mono {S T : Nd → Prop} {L : List Nd} (h : ∀ x ∈ L, S x → T x) : dirt T L ≤ dirt S L := by
  refine List.countP_mono_left fun x hx h1 => ?_
  simp only [decide_eq_true_eq] at h1 ⊢
  exact fun h2 => h1 (h x hx h2)
theorem dirt_and {S T : Nd → Prop} : ∀ (L : List Nd), dirt (fun x => S x ∧ T x) L ≤ dirt S L + dirt T L
  | [] => by simp [dirt]
  | x :: L => by
    have h : L.countP (fun x => @decide (¬ (S x ∧ T x)) (Classical.propDecidable _)) ≤ dirt S L + dirt T L := dirt_and (S := S) (T := T) L
    unfold dirt at h ⊢
    rw [List.countP_cons, List.countP_cons, List.countP_cons]
    by_cases h1 : S x <;> by_cases h2 : T x <;> simp only [h1, h2, and_true, and_false, not_true, not_false_eq_true, decide_true, decide_false, if_true, Bool.false_eq_true, if_false] <;> omega
/-- a number is below at most one node of a row -/
theorem dirt_one (id : Int) : ∀ {L : List Nd}, (idsF L).Pairwise (· < ·) → dirt (fun x => id ∉ x.ids) L ≤ 1
  | [], _ => by simp [dirt]
  | x :: L, hs => by
    rw [idsF_cons, List.pairwise_append] at hs
    obtain ⟨h1, h2, h3⟩ := hs
    unfold dirt
    rw [List.countP_cons]
    by_cases hx : id ∈ x.ids
    · have h0 : L.countP (fun x => @decide (¬ id ∉ x.ids) (Classical.propDecidable _)) = 0 := by
        rw [List.countP_eq_zero]
        intro y hy h4
        simp only [decide_eq_true_eq, Classical.not_not] at h4
        have := h3 id hx id (mem_idsF.2 ⟨y, hy, h4⟩)
        omega
      rw [h0]
      split <;> omega
    · have h0 := dirt_one id h2
      unfold dirt at h0
      rw [if_neg (by simpa using hx)]
      exact h0
theorem dirt_many : ∀ (ms : List Int) {L : List Nd}, (idsF L).Pairwise (· < ·) → dirt (fun x => ∀ id ∈ ms, id ∉ x.ids) L ≤ ms.length
  | [], L, hs => by simp [dirt]
  | id :: ms, L, hs => by
    have h1 := dirt_one id hs
    have h2 := dirt_many ms hs
    have h3 := dirt_and (S := fun x => id ∉ x.ids) (T := fun x => ∀ id ∈ ms, id ∉ x.ids) L
    have h4 : dirt (fun x => ∀ v ∈ id :: ms, v ∉ x.ids) L ≤ dirt (fun x => id ∉ x.ids ∧ ∀ v ∈ ms, v ∉ x.ids) L := dirt_mono fun x _ h v hv => by
      rcases List.mem_cons.1 hv with rfl | hv
      · exact h.1
      · exact h.2 v hv
    rw [List.length_cons]
    omega

/-- a tree's levels behind changes: all but two nodes a level and change stand in the old one too, and nothing touched is below them -/
def Seq (old cur : Nat → List Nd) (ts : List Int) : Prop :=
  ∃ S : Nat → Nd → Prop, (∀ k x, S k x → x ∈ old k ∧ x ∈ cur k ∧ ∀ id ∈ ts, id ∉ x.ids) ∧ ∀ k, dirt (S k) (cur k) ≤ 2 * ts.length
theorem Seq.start (old : Nat → List Nd) : Seq old old [] := by
  refine ⟨fun k x => x ∈ old k, fun k x hx => ⟨hx, hx, fun id h => by simp at h⟩, fun k => ?_⟩
  have : dirt (fun x => x ∈ old k) (old k) = 0 := by
    unfold dirt
    rw [List.countP_eq_zero]
    intro x hx h
    simp only [decide_eq_true_eq] at h
    exact h hx
  show dirt (fun x => x ∈ old k) (old k) ≤ 2 * 0
  omega
theorem Seq.step {old cur nxt : Nat → List Nd} {ts : List Int} (h : Seq old cur ts) (hn : ∀ k, near (cur k) (nxt k)) (id : Int) (hid : (∀ k x, x ∈ cur k → id ∉ x.ids) ∨ (∀ k x, x ∈ nxt k → id ∉ x.ids)) : Seq old nxt (ts ++ [id]) := by
  obtain ⟨S, h1, h2⟩ := h
  refine ⟨fun k x => S k x ∧ x ∈ nxt k, fun k x hx => ?_, fun k => ?_⟩
  · obtain ⟨h3, h4, h5⟩ := h1 k x hx.1
    refine ⟨h3, hx.2, fun v hv => ?_⟩
    rcases List.mem_append.1 hv with hv | hv
    · exact h5 v hv
    · rw [List.mem_singleton] at hv
      subst hv
      rcases hid with hid | hid
      · exact hid k x h4
      · exact hid k x hx.2
  · have h3 := dirt_step (S := S k) (hn k)
    have h4 := h2 k
    show dirt (fun x => S k x ∧ x ∈ nxt k) (nxt k) ≤ _
    rw [List.length_append, List.length_singleton]
    omega
/-- what is not kept, of a level: at most two for each change, and one for each other who was touched -/
theorem Seq.fin {old cur : Nat → List Nd} {ts : List Int} (h : Seq old cur ts) (ms : List Int) (k : Nat) (hs : (idsF (cur k)).Pairwise (· < ·)) (K : Nd → Prop)
    (hK : ∀ x ∈ cur k, x ∈ old k → (∀ id ∈ ts, id ∉ x.ids) → (∀ id ∈ ms, id ∉ x.ids) → K x) : dirt K (cur k) ≤ 2 * ts.length + ms.length := by
  obtain ⟨S, h1, h2⟩ := h
  have h3 := dirt_and (S := S k) (T := fun x => ∀ id ∈ ms, id ∉ x.ids) (cur k)
  have h4 := dirt_many ms hs
  have h5 : dirt K (cur k) ≤ dirt (fun x => S k x ∧ ∀ id ∈ ms, id ∉ x.ids) (cur k) := dirt_mono fun x hx h => by
    obtain ⟨g1, g2, g3⟩ := h1 k x h.1
    exact hK x hx g1 g3 h.2
  have h6 := h2 k
  omega

end Go.Proofs.Ytmganbdbihjbmaa

