import Derived.Test.YtbickllpledlbaaG01
/-
  TREES OF NODES: nodes equally deep, their members and levels; the nodes of levels.
-/
set_option linter.unusedVariables false
namespace Go.Proofs.Ytbickllpledlbaa

/-- a node: a leaf, or what it has below -/
inductive Nd where
  | leaf (id : Int)
  | one (a : Nd)
  | two (a b : Nd)
  | three (a b c : Nd)
def Nd.kids : Nd → List Nd
  | .leaf _ => []
  | .one a => [a]
  | .two a b => [a, b]
  | .three a b c => [a, b, c]
def Nd.id : Nd → Int
  | .leaf i => i
  | _ => 0
def Nd.ids : Nd → List Int
  | .leaf i => [i]
  | .one a => a.ids
  | .two a b => a.ids ++ b.ids
  | .three a b c => a.ids ++ b.ids ++ c.ids
/-- all leaves so deep, each group of two or three -/
def Nd.hi : Nat → Nd → Prop
  | 0, .leaf _ => True
  | h + 1, .two a b => Nd.hi h a ∧ Nd.hi h b
  | h + 1, .three a b c => Nd.hi h a ∧ Nd.hi h b ∧ Nd.hi h c
  | _, _ => False
def ofKids : List Nd → Nd
  | [a] => .one a
  | [a, b] => .two a b
  | [a, b, c] => .three a b c
  | _ => .leaf 0
def kidsF (F : List Nd) : List Nd := F.flatMap Nd.kids
def idsF (F : List Nd) : List Int := F.flatMap Nd.ids
def lensF (F : List Nd) : List Nat := F.map (fun x => x.kids.length)
/-- the levels of nodes that are equally deep -/
def levF : Nat → List Nd → List (List Nat)
  | 0, _ => []
  | h + 1, F => levF h (kidsF F) ++ [lensF F]
def allH (h : Nat) (F : List Nd) : Prop := ∀ x ∈ F, Nd.hi h x

theorem hi_succ {h : Nat} {x : Nd} (hx : Nd.hi (h + 1) x) : (x.kids.length = 2 ∨ x.kids.length = 3) ∧ (∀ y ∈ x.kids, Nd.hi h y) ∧ x = ofKids x.kids ∧ x.ids = idsF x.kids := by
  cases x with
  | leaf i => exact absurd hx (by simp [Nd.hi])
  | one a => exact absurd hx (by simp [Nd.hi])
  | two a b =>
    refine ⟨.inl rfl, fun y hy => ?_, rfl, by simp [Nd.ids, idsF, Nd.kids]⟩
    simp only [Nd.kids, List.mem_cons, List.not_mem_nil, or_false] at hy
    rcases hy with rfl | rfl
    · exact hx.1
    · exact hx.2
  | three a b c =>
    refine ⟨.inr rfl, fun y hy => ?_, rfl, by simp [Nd.ids, idsF, Nd.kids]⟩
    simp only [Nd.kids, List.mem_cons, List.not_mem_nil, or_false] at hy
    rcases hy with rfl | rfl | rfl
    · exact hx.1
    · exact hx.2.1
    · exact hx.2.2
theorem hi_zero {x : Nd} (hx : Nd.hi 0 x) : ∃ i, x = .leaf i := by
  cases x with
  | leaf i => exact ⟨i, rfl⟩
  | one a => exact absurd hx (by simp [Nd.hi])
  | two a b => exact absurd hx (by simp [Nd.hi])
  | three a b c => exact absurd hx (by simp [Nd.hi])
theorem ofKids_hi {h : Nat} {l : List Nd} (hl : l.length = 2 ∨ l.length = 3) (ha : allH h l) : Nd.hi (h + 1) (ofKids l) ∧ (ofKids l).kids = l := by
  match l, hl with
  | [a, b], _ => exact ⟨⟨ha a (by simp), ha b (by simp)⟩, rfl⟩
  | [a, b, c], _ => exact ⟨⟨ha a (by simp), ha b (by simp), ha c (by simp)⟩, rfl⟩
theorem kidsF_app (F G : List Nd) : kidsF (F ++ G) = kidsF F ++ kidsF G := by simp [kidsF]
theorem idsF_app (F G : List Nd) : idsF (F ++ G) = idsF F ++ idsF G := by simp [idsF]
theorem lensF_app (F G : List Nd) : lensF (F ++ G) = lensF F ++ lensF G := by simp [lensF]
theorem allH_kids {h : Nat} {F : List Nd} (ha : allH (h + 1) F) : allH h (kidsF F) := by
  intro x hx
  obtain ⟨y, hy, hxy⟩ := List.mem_flatMap.1 hx
  exact (hi_succ (ha y hy)).2.1 x hxy
theorem idsF_kids {h : Nat} : ∀ {F : List Nd}, allH (h + 1) F → idsF (kidsF F) = idsF F
  | [], _ => rfl
  | x :: F, ha => by
    have h1 := (hi_succ (ha x (by simp))).2.2.2
    have h2 := idsF_kids (F := F) (fun y hy => ha y (by simp [hy]))
    rw [show kidsF (x :: F) = x.kids ++ kidsF F from rfl, idsF_app, h2, ← h1]
    rfl
theorem lens_two3 {h : Nat} {F : List Nd} (ha : allH (h + 1) F) : two3 (lensF F) := by
  intro n hn
  obtain ⟨x, hx, rfl⟩ := List.mem_map.1 hn
  exact (hi_succ (ha x hx)).1
theorem lens_sum : ∀ (F : List Nd), (lensF F).sum = (kidsF F).length
  | [] => rfl
  | x :: F => by
    rw [show kidsF (x :: F) = x.kids ++ kidsF F from rfl, List.length_append, ← lens_sum F]
    rfl

/-- groups of nodes -/
def groupF : List Nat → List Nd → List Nd
  | [], _ => []
  | n :: l, F => ofKids (F.take n) :: groupF l (F.drop n)
theorem group_len : ∀ (l : List Nat) (F : List Nd), (groupF l F).length = l.length
  | [], _ => rfl
  | n :: l, F => by simp [groupF, group_len l]
theorem group_spec {h : Nat} : ∀ (l : List Nat) (F : List Nd), two3 l → l.sum = F.length → allH h F → allH (h + 1) (groupF l F) ∧ kidsF (groupF l F) = F ∧ lensF (groupF l F) = l
  | [], F, _, hs, _ => by
    have : F = [] := List.length_eq_zero_iff.1 (by simpa using hs.symm)
    subst this
    exact ⟨fun x hx => by simp [groupF] at hx, rfl, rfl⟩
  | n :: l, F, h23, hs, ha => by
    rw [List.sum_cons] at hs
    have hn := h23 n (by simp)
    have hl : (F.take n).length = n := by rw [List.length_take]; omega
    obtain ⟨g1, g2⟩ := ofKids_hi (l := F.take n) (by omega) (fun x hx => ha x (List.mem_of_mem_take hx))
    obtain ⟨r1, r2, r3⟩ := group_spec l (F.drop n) (fun x hx => h23 x (by simp [hx])) (by rw [List.length_drop]; omega) (fun x hx => ha x (List.mem_of_mem_drop hx))
    refine ⟨fun x hx => ?_, ?_, ?_⟩
    · rcases List.mem_cons.1 hx with rfl | hx
      · exact g1
      · exact r1 x hx
    · rw [groupF, show kidsF (ofKids (F.take n) :: groupF l (F.drop n)) = (ofKids (F.take n)).kids ++ kidsF (groupF l (F.drop n)) from rfl, g2, r2, List.take_append_drop]
    · rw [groupF, show lensF (ofKids (F.take n) :: groupF l (F.drop n)) = (ofKids (F.take n)).kids.length :: lensF (groupF l (F.drop n)) from rfl, g2, hl, r3]
/-- the nodes of levels over nodes -/
def nodesF : List Nd → List (List Nat) → List Nd
  | F, [] => F
  | F, l :: ls => nodesF (groupF l F) ls
theorem nodes_spec : ∀ (lv : List (List Nat)) (h : Nat) (F : List Nd), lvOK F.length lv → allH h F →
    allH (h + lv.length) (nodesF F lv) ∧ levF (h + lv.length) (nodesF F lv) = levF h F ++ lv ∧ idsF (nodesF F lv) = idsF F ∧ (0 < F.length → (nodesF F lv).length = 1)
  | [], h, F, ho, ha => ⟨ha, by simp [nodesF], rfl, fun h0 => by have : F.length ≤ 1 := ho; simp only [nodesF]; omega⟩
  | l :: ls, h, F, ⟨o1, o2, o3, o4⟩, ha => by
    obtain ⟨g1, g2, g3⟩ := group_spec l F o2 o3 ha
    have hl := two3_len o2
    obtain ⟨r1, r2, r3, r4⟩ := nodes_spec ls (h + 1) (groupF l F) (by rw [group_len]; exact o4) g1
    have e : h + (l :: ls).length = h + 1 + ls.length := by simp only [List.length_cons]; omega
    rw [e]
    refine ⟨r1, ?_, ?_, fun h0 => ?_⟩
    · rw [nodesF, r2, levF, g2, g3, List.append_assoc]
      rfl
    · rw [nodesF, r3, ← idsF_kids g1, g2]
    · rw [nodesF, r4 (by rw [group_len]; omega)]

end Go.Proofs.Ytbickllpledlbaa

/-
  A MEMBER MORE: nodes in which one was put have the levels with one more item.
-/
set_option linter.unusedVariables false
namespace Go.Proofs.Ytbickllpledlbaa

/-- the first leaf below a node -/
def Nd.first : Nd → Int
  | .leaf i => i
  | .one a => a.first
  | .two a _ => a.first
  | .three a _ _ => a.first
/-- nodes in which one was put: a node, or two -/
def joinN (l m r : List Nd) : List Nd := if (l ++ m ++ r).length = 4 then [ofKids ((l ++ m ++ r).take 2), ofKids ((l ++ m ++ r).drop 2)] else [ofKids (l ++ m ++ r)]
/-- a node in which a member was put -/
def withN : Nd → Int → List Nd
  | .leaf i, id => if id < i then [.leaf id, .leaf i] else [.leaf i, .leaf id]
  | .one a, id => joinN [] (withN a id) []
  | .two a b, id => if b.first < id then joinN [a] (withN b id) [] else joinN [] (withN a id) [b]
  | .three a b c, id => if c.first < id then joinN [a, b] (withN c id) [] else if b.first < id then joinN [a] (withN b id) [c] else joinN [] (withN a id) [b, c]

/-- levels with one more item below: the levels, and whether there is one group more above all -/
def insM : List (List Nat) → Nat → List (List Nat) × Bool
  | [], _ => ([], true)
  | l :: ls, a => if l[grpT l a]? = some 2 then (l.set (grpT l a) 3 :: ls, false) else (splitT l (grpT l a) :: (insM ls (grpT l a)).1, (insM ls (grpT l a)).2)
/-- in which group of the last level an item is -/
def topT : List (List Nat) → Nat → Nat
  | [], a => a
  | l :: ls, a => topT ls (grpT l a)
theorem insL_insM : ∀ (lv : List (List Nat)) (a : Nat), insL lv a = if (insM lv a).2 then (insM lv a).1 ++ [[2]] else (insM lv a).1
  | [], a => rfl
  | l :: ls, a => by
    rw [insL_cons, insM]
    by_cases h : l[grpT l a]? = some 2
    · rw [if_pos h, if_pos h]; rfl
    · rw [if_neg h, if_neg h, insL_insM ls (grpT l a)]
      by_cases h2 : (insM ls (grpT l a)).2 = true
      · rw [if_pos h2, if_pos h2]; rfl
      · rw [if_neg h2, if_neg h2]
theorem topT_snoc : ∀ (lv : List (List Nat)) (t : List Nat) (a : Nat), topT (lv ++ [t]) a = grpT t (topT lv a)
  | [], t, a => rfl
  | l :: ls, t, a => by rw [List.cons_append, topT, topT_snoc ls]; rfl
theorem insM_snoc : ∀ (lv : List (List Nat)) (t : List Nat) (a : Nat), insM (lv ++ [t]) a =
    if (insM lv a).2 then (if t[grpT t (topT lv a)]? = some 2 then ((insM lv a).1 ++ [t.set (grpT t (topT lv a)) 3], false) else ((insM lv a).1 ++ [splitT t (grpT t (topT lv a))], true))
    else ((insM lv a).1 ++ [t], false)
  | [], t, a => rfl
  | l :: ls, t, a => by
    rw [List.cons_append, insM, insM, topT]
    by_cases h : l[grpT l a]? = some 2
    · rw [if_pos h, if_pos h]; rfl
    · rw [if_neg h, if_neg h, insM_snoc ls]
      by_cases h2 : (insM ls (grpT l a)).2 = true
      · simp only [h2, if_true]
        split <;> rfl
      · simp only [Bool.eq_false_iff.2 h2]
        rfl

theorem ids_ne : ∀ (x : Nd), x.ids ≠ []
  | .leaf i => by simp [Nd.ids]
  | .one a => ids_ne a
  | .two a b => by simp [Nd.ids, ids_ne a]
  | .three a b c => by simp [Nd.ids, ids_ne a]
theorem first_head : ∀ (x : Nd), ∃ r, x.ids = x.first :: r
  | .leaf i => ⟨[], rfl⟩
  | .one a => first_head a
  | .two a b => by
    obtain ⟨r, h⟩ := first_head a
    exact ⟨r ++ b.ids, by rw [Nd.ids, h]; rfl⟩
  | .three a b c => by
    obtain ⟨r, h⟩ := first_head a
    exact ⟨r ++ b.ids ++ c.ids, by rw [Nd.ids, h]; rfl⟩
theorem first_le {x : Nd} (hs : x.ids.Pairwise (· < ·)) {v : Int} (hv : v ∈ x.ids) : x.first ≤ v := by
  obtain ⟨r, h⟩ := first_head x
  rw [h] at hs hv
  rw [List.pairwise_cons] at hs
  rcases List.mem_cons.1 hv with rfl | hv
  · exact Int.le_refl _
  · exact Int.le_of_lt (hs.1 v hv)
theorem first_mem (x : Nd) : x.first ∈ x.ids := by
  obtain ⟨r, h⟩ := first_head x
  rw [h]; simp
theorem with_kids {h : Nat} {x : Nd} (hx : Nd.hi (h + 1) x) (id : Int) : ∃ p y s, x.kids = p ++ y :: s ∧ withN x id = joinN p (withN y id) s ∧ (p ≠ [] → y.first < id) ∧ ∀ z ∈ s, ¬ z.first < id := by
  cases x with
  | leaf i => exact absurd hx (by simp [Nd.hi])
  | one a => exact absurd hx (by simp [Nd.hi])
  | two a b =>
    by_cases h1 : b.first < id
    · exact ⟨[a], b, [], rfl, by rw [withN, if_pos h1], fun _ => h1, by simp⟩
    · exact ⟨[], a, [b], rfl, by rw [withN, if_neg h1], by simp, by simpa using h1⟩
  | three a b c =>
    by_cases h1 : c.first < id
    · exact ⟨[a, b], c, [], rfl, by rw [withN, if_pos h1], fun _ => h1, by simp⟩
    · by_cases h2 : b.first < id
      · exact ⟨[a], b, [c], rfl, by rw [withN, if_neg h1, if_pos h2], fun _ => h2, by simpa using h1⟩
      · refine ⟨[], a, [b, c], rfl, by rw [withN, if_neg h1, if_neg h2], by simp, fun z hz => ?_⟩
        simp only [List.mem_cons, List.not_mem_nil, or_false] at hz
        rcases hz with rfl | rfl
        · exact h2
        · exact h1
theorem first_kid {h : Nat} {x y : Nd} {s : List Nd} (hx : Nd.hi (h + 1) x) (hk : x.kids = y :: s) : y.first = x.first := by
  cases x with
  | leaf i => exact absurd hx (by simp [Nd.hi])
  | one a => exact absurd hx (by simp [Nd.hi])
  | two a b => simp only [Nd.kids, List.cons.injEq] at hk; rw [← hk.1]; rfl
  | three a b c => simp only [Nd.kids, List.cons.injEq] at hk; rw [← hk.1]; rfl
theorem kids_ids {h : Nat} {x y : Nd} (hx : Nd.hi (h + 1) x) (hy : y ∈ x.kids) : ∀ v ∈ y.ids, v ∈ x.ids := by
  intro v hv
  rw [(hi_succ hx).2.2.2]
  exact List.mem_flatMap.2 ⟨y, hy, hv⟩

/-- a list with one more member, in its order -/
def insI (l : List Int) (id : Int) : List Int := l.take (belT l id) ++ id :: l.drop (belT l id)
theorem bel_app (l m : List Int) (id : Int) : belT (l ++ m) id = belT l id + belT m id := by simp [belT, List.countP_append]
theorem bel_all {l : List Int} {id : Int} (h : ∀ v ∈ l, v < id) : belT l id = l.length := by
  rw [belT, List.countP_eq_length]
  intro v hv
  simpa using h v hv
theorem bel_none {l : List Int} {id : Int} (h : ∀ v ∈ l, ¬ v < id) : belT l id = 0 := by
  rw [belT, List.countP_eq_zero]
  intro v hv
  simpa using h v hv
theorem insI_mid {l m : List Int} {id : Int} (hl : ∀ v ∈ l, v < id) (hm : ∀ v ∈ m, ¬ v < id) : insI (l ++ m) id = l ++ id :: m := by
  rw [insI, bel_app, bel_all hl, bel_none hm]
  simp
theorem leaf_ids : ∀ (F : List Nd), allH 0 F → (idsF F).length = F.length
  | [], _ => rfl
  | x :: F, ha => by
    obtain ⟨i, rfl⟩ := hi_zero (ha x (by simp))
    have := leaf_ids F (fun y hy => ha y (by simp [hy]))
    rw [show idsF (.leaf i :: F) = i :: idsF F from rfl, List.length_cons, List.length_cons, this]
theorem mem_idsF {F : List Nd} {v : Int} : v ∈ idsF F ↔ ∃ x ∈ F, v ∈ x.ids := List.mem_flatMap

theorem get_mid {α : Type} (p : List α) (y : α) (s : List α) : (p ++ y :: s)[p.length]? = some y := by simp
theorem set_mid {α : Type} (p : List α) (y z : α) (s : List α) : (p ++ y :: s).set p.length z = p ++ z :: s := by simp
theorem split_mid (p : List Nat) (y : Nat) (s : List Nat) : splitT (p ++ y :: s) p.length = p ++ 2 :: 2 :: s := by simp [splitT]
theorem start_mid (p : List Nat) (y : Nat) (s : List Nat) : startT (p ++ y :: s) p.length = p.sum := by simp [startT]
theorem grp_mid {p s : List Nat} {y k : Nat} (h1 : p.sum ≤ k) (h2 : k < p.sum + y) : grpT (p ++ y :: s) k = p.length := by
  refine grpT_unique (by simp) (by rw [start_mid]; exact h1) ?_
  rw [startT_succ _ (by simp), start_mid]
  simpa using h2
theorem kidsF_cons (x : Nd) (F : List Nd) : kidsF (x :: F) = x.kids ++ kidsF F := rfl
theorem idsF_cons (x : Nd) (F : List Nd) : idsF (x :: F) = x.ids ++ idsF F := rfl
theorem lensF_cons (x : Nd) (F : List Nd) : lensF (x :: F) = x.kids.length :: lensF F := rfl

theorem with_main : ∀ (h : Nat) (P : List Nd) (x : Nd) (S : List Nd) (id : Int), allH h (P ++ x :: S) → (idsF (P ++ x :: S)).Pairwise (· < ·) → (P ≠ [] → x.first < id) → (∀ z ∈ S, ¬ z.first < id) →
    allH h (P ++ withN x id ++ S) ∧ topT (levF h (P ++ x :: S)) (belT (idsF (P ++ x :: S)) id - 1) = P.length ∧
    insM (levF h (P ++ x :: S)) (belT (idsF (P ++ x :: S)) id - 1) = (levF h (P ++ withN x id ++ S), decide ((withN x id).length = 2)) ∧ ((withN x id).length = 1 ∨ (withN x id).length = 2) ∧ idsF (P ++ withN x id ++ S) = insI (idsF (P ++ x :: S)) id
  | 0, P, x, S, id, ha, hs, hP, hS => by
    obtain ⟨i, rfl⟩ := hi_zero (ha x (by simp))
    have haP : allH 0 P := fun y hy => ha y (by simp [hy])
    have haS : allH 0 S := fun y hy => ha y (by simp [hy])
    rw [idsF_app, idsF_cons] at hs
    have hsp := List.pairwise_append.1 hs
    have hlt : ∀ v ∈ idsF P, v < i := fun v hv => hsp.2.2 v hv i (by simp [Nd.ids])
    have hge : ∀ v ∈ idsF S, ¬ v < id := by
      intro v hv
      obtain ⟨y, hy, hvy⟩ := mem_idsF.1 hv
      obtain ⟨k, rfl⟩ := hi_zero (haS y hy)
      simp only [Nd.ids, List.mem_singleton] at hvy
      subst hvy
      exact hS _ hy
    by_cases hi : i < id
    · have hall : ∀ v ∈ idsF P ++ [i], v < id := by
        intro v hv
        rcases List.mem_append.1 hv with hv | hv
        · exact Int.lt_trans (hlt v hv) hi
        · simp at hv; rw [hv]; exact hi
      have hw : withN (.leaf i) id = [.leaf i, .leaf id] := by rw [withN, if_neg (by omega)]
      have hb : belT (idsF (P ++ .leaf i :: S)) id = P.length + 1 := by
        rw [idsF_app, idsF_cons, show Nd.ids (.leaf i) = [i] from rfl, ← List.append_assoc, bel_app, bel_all hall, bel_none hge]
        simp [leaf_ids P haP]
      rw [hw, hb]
      refine ⟨fun y hy => ?_, rfl, rfl, .inr rfl, ?_⟩
      · simp only [List.append_assoc, List.cons_append, List.nil_append, List.mem_append, List.mem_cons] at hy
        rcases hy with hy | rfl | rfl | hy
        · exact haP y hy
        · trivial
        · trivial
        · exact haS y hy
      · have := insI_mid hall hge
        have e : idsF (P ++ [.leaf i, .leaf id] ++ S) = idsF P ++ [i] ++ id :: idsF S := by simp [idsF, Nd.ids]
        have e2 : idsF (P ++ .leaf i :: S) = idsF P ++ [i] ++ idsF S := by simp [idsF, Nd.ids]
        rw [e, e2, this]
    · have hP0 : P = [] := by
        rcases List.eq_nil_or_concat P with h | ⟨q, z, h⟩
        · exact h
        · exact absurd (hP (by rw [h]; simp)) hi
      subst hP0
      have hge2 : ∀ v ∈ i :: idsF S, ¬ v < id := by
        intro v hv
        rcases List.mem_cons.1 hv with rfl | hv
        · exact hi
        · exact hge v hv
      have hb : belT (idsF ([] ++ .leaf i :: S)) id = 0 := bel_none hge2
      rw [hb]
      have hlen : (withN (.leaf i) id).length = 2 := by rw [withN]; split <;> rfl
      refine ⟨fun y hy => ?_, rfl, by rw [hlen]; rfl, .inr hlen, ?_⟩
      · rw [withN] at hy
        split at hy
        all_goals
          simp only [List.nil_append, List.cons_append, List.mem_cons] at hy
          rcases hy with rfl | rfl | hy
          · trivial
          · trivial
          · exact haS y hy
      · have e2 : insI (idsF ([] ++ .leaf i :: S)) id = id :: i :: idsF S := by
          rw [insI, hb]; rfl
        rw [e2, withN]
        by_cases hii : id < i
        · rw [if_pos hii]; rfl
        · have : i = id := by omega
          rw [if_neg hii, this]; rfl
  | h + 1, P, x, S, id, ha, hs, hP, hS => by
    have hx := ha x (by simp)
    obtain ⟨p, y, s, hk, hw, hp, hsn⟩ := with_kids hx id
    obtain ⟨hx1, hx2, _, _⟩ := hi_succ hx
    have hK : kidsF (P ++ x :: S) = (kidsF P ++ p) ++ y :: (s ++ kidsF S) := by rw [kidsF_app, kidsF_cons, hk]; simp
    have hids := idsF_kids ha
    obtain ⟨r1, r2, r3, r4, r5⟩ := with_main h (kidsF P ++ p) y (s ++ kidsF S) id (by rw [← hK]; exact allH_kids ha) (by rw [← hK, hids]; exact hs)
      (fun hne => by
        by_cases hp0 : p = []
        · subst hp0
          have hP0 : P ≠ [] := by
            intro e
            subst e
            exact hne rfl
          rw [first_kid hx hk]
          exact hP hP0
        · exact hp hp0)
      (fun z hz => by
        rcases List.mem_append.1 hz with hz | hz
        · exact hsn z hz
        · obtain ⟨n, hn, hzn⟩ := List.mem_flatMap.1 hz
          have hnF : n ∈ P ++ x :: S := by simp [hn]
          have hsn2 := (List.pairwise_flatMap.1 hs).1 n hnF
          have := first_le hsn2 (kids_ids (ha n hnF) hzn _ (first_mem z))
          have := hS n hn
          omega)
    rw [← hK] at r2 r3 r5
    rw [hids] at r2 r3 r5
    have hm : allH h (withN y id) := fun z hz => r1 z (by simp [hz])
    have hpA : allH h p := fun z hz => hx2 z (by rw [hk]; simp [hz])
    have hsA : allH h s := fun z hz => hx2 z (by rw [hk]; simp [hz])
    have haP : allH (h + 1) P := fun z hz => ha z (by simp [hz])
    have haS : allH (h + 1) S := fun z hz => ha z (by simp [hz])
    have hlen : x.kids.length = p.length + 1 + s.length := by rw [hk]; simp; omega
    have hall : allH h (p ++ withN y id ++ s) := fun z hz => by
      rcases List.mem_append.1 hz with hz | hz
      · rcases List.mem_append.1 hz with hz | hz
        · exact hpA z hz
        · exact hm z hz
      · exact hsA z hz
    have hT : topT (levF (h + 1) (P ++ x :: S)) (belT (idsF (P ++ x :: S)) id - 1) = P.length := by
      rw [levF, topT_snoc, r2, lensF_app, lensF_cons, ← show (lensF P).length = P.length by simp [lensF]]
      refine grp_mid (by rw [lens_sum, List.length_append]; omega) (by rw [lens_sum, List.length_append, hlen]; omega)
    have hgrp : grpT (lensF P ++ x.kids.length :: lensF S) (kidsF P ++ p).length = (lensF P).length :=
      grp_mid (by rw [lens_sum, List.length_append]; omega) (by rw [lens_sum, List.length_append, hlen]; omega)
    have hKm : (kidsF P ++ p) ++ withN y id ++ (s ++ kidsF S) = kidsF P ++ (p ++ withN y id ++ s) ++ kidsF S := by simp
    have hI : insM (levF (h + 1) (P ++ x :: S)) (belT (idsF (P ++ x :: S)) id - 1) =
        if (withN y id).length = 2 then (if x.kids.length = 2 then (levF h (kidsF P ++ (p ++ withN y id ++ s) ++ kidsF S) ++ [lensF P ++ 3 :: lensF S], false) else (levF h (kidsF P ++ (p ++ withN y id ++ s) ++ kidsF S) ++ [lensF P ++ 2 :: 2 :: lensF S], true))
        else (levF h (kidsF P ++ (p ++ withN y id ++ s) ++ kidsF S) ++ [lensF P ++ x.kids.length :: lensF S], false) := by
      rw [levF, insM_snoc, r2, r3, lensF_app, lensF_cons, hgrp, get_mid, set_mid, split_mid, hKm]
      simp
    rw [hw]
    have hfin : ∀ N : List Nd, allH (h + 1) N → kidsF N = p ++ withN y id ++ s → allH (h + 1) (P ++ N ++ S) ∧ levF (h + 1) (P ++ N ++ S) = levF h (kidsF P ++ (p ++ withN y id ++ s) ++ kidsF S) ++ [lensF P ++ lensF N ++ lensF S] ∧ idsF (P ++ N ++ S) = insI (idsF (P ++ x :: S)) id := by
      intro N hN hkN
      have h1 : allH (h + 1) (P ++ N ++ S) := fun z hz => by
        rcases List.mem_append.1 hz with hz | hz
        · rcases List.mem_append.1 hz with hz | hz
          · exact haP z hz
          · exact hN z hz
        · exact haS z hz
      have h2 : kidsF (P ++ N ++ S) = kidsF P ++ (p ++ withN y id ++ s) ++ kidsF S := by rw [kidsF_app, kidsF_app, hkN]
      refine ⟨h1, by rw [levF, h2, lensF_app, lensF_app], ?_⟩
      rw [← idsF_kids h1, h2, ← hKm, r5]
    have hjl : (p ++ withN y id ++ s).length = p.length + (withN y id).length + s.length := by simp; omega
    by_cases h4 : (p ++ withN y id ++ s).length = 4
    · have hj : joinN p (withN y id) s = [ofKids ((p ++ withN y id ++ s).take 2), ofKids ((p ++ withN y id ++ s).drop 2)] := by rw [joinN, if_pos h4]
      obtain ⟨q1, q2⟩ := ofKids_hi (l := (p ++ withN y id ++ s).take 2) (.inl (by rw [List.length_take]; omega)) (fun z hz => hall z (List.mem_of_mem_take hz))
      obtain ⟨q3, q4⟩ := ofKids_hi (l := (p ++ withN y id ++ s).drop 2) (.inl (by rw [List.length_drop]; omega)) (fun z hz => hall z (List.mem_of_mem_drop hz))
      obtain ⟨f1, f2, f3⟩ := hfin (joinN p (withN y id) s) (by rw [hj]; intro z hz; simp only [List.mem_cons, List.not_mem_nil, or_false] at hz; rcases hz with hz | hz <;> rw [hz] <;> first | exact q1 | exact q3)
        (by rw [hj, kidsF_cons, kidsF_cons, q2, q4, show kidsF [] = [] from rfl, List.append_nil, List.take_append_drop])
      have hl2 : lensF (joinN p (withN y id) s) = [2, 2] := by
        rw [hj, lensF_cons, lensF_cons, q2, q4, List.length_take, List.length_drop, h4]; rfl
      have hm2 : (withN y id).length = 2 := by omega
      refine ⟨f1, hT, ?_, .inr (by rw [hj]; rfl), f3⟩
      rw [hI, if_pos hm2, if_neg (by omega), f2, hl2, hj]
      simp
    · have hj : joinN p (withN y id) s = [ofKids (p ++ withN y id ++ s)] := by rw [joinN, if_neg h4]
      obtain ⟨q1, q2⟩ := ofKids_hi (l := p ++ withN y id ++ s) (by omega) hall
      obtain ⟨f1, f2, f3⟩ := hfin (joinN p (withN y id) s) (by rw [hj]; intro z hz; simp only [List.mem_cons, List.not_mem_nil, or_false] at hz; rw [hz]; exact q1)
        (by rw [hj, kidsF_cons, q2, show kidsF [] = [] from rfl, List.append_nil])
      have hl2 : lensF (joinN p (withN y id) s) = [p.length + (withN y id).length + s.length] := by
        rw [hj, lensF_cons, q2, hjl]; rfl
      refine ⟨f1, hT, ?_, .inl (by rw [hj]; rfl), f3⟩
      rw [hI, f2, hl2, hj]
      by_cases hm2 : (withN y id).length = 2
      · rw [if_pos hm2, if_pos (by omega), show p.length + (withN y id).length + s.length = 3 by omega]
        simp
      · rw [if_neg hm2, show p.length + (withN y id).length + s.length = x.kids.length by omega]
        simp

end Go.Proofs.Ytbickllpledlbaa

/-
  A MEMBER FEWER, in levels: with one level more above; the last level left out.
-/
set_option linter.unusedVariables false
namespace Go.Proofs.Ytbickllpledlbaa

/-- a node's kids among which one has one kid alone, mended -/
def mendN (p : List Nd) (y : Nd) (s : List Nd) : List Nd :=
  match p.reverse with
  | o :: p' => if o.kids.length = 3 then p'.reverse ++ ofKids (o.kids.take 2) :: ofKids (o.kids.drop 2 ++ y.kids) :: s else p'.reverse ++ ofKids (o.kids ++ y.kids) :: s
  | [] => match s with
    | o :: s' => if o.kids.length = 3 then ofKids (y.kids ++ o.kids.take 1) :: ofKids (o.kids.drop 1) :: s' else ofKids (y.kids ++ o.kids) :: s'
    | [] => [y]
/-- a node out of one of whose kids (k) one was taken, which is y then -/
def outN (p : List Nd) (k y : Nd) (s : List Nd) : Nd := if k.kids.length = 0 then ofKids (p ++ s) else if y.kids.length = 1 then ofKids (mendN p y s) else ofKids (p ++ y :: s)
/-- a node out of which a member was taken -/
def withoutN : Nd → Int → Nd
  | .leaf i, _ => .leaf i
  | .one a, id => outN [] a (withoutN a id) []
  | .two a b, id => if b.first ≤ id then outN [a] b (withoutN b id) [] else outN [] a (withoutN a id) [b]
  | .three a b c, id => if c.first ≤ id then outN [a, b] c (withoutN c id) [] else if b.first ≤ id then outN [a] b (withoutN b id) [c] else outN [] a (withoutN a id) [b, c]

/-- levels without the item at a place; the last level may have a group of one then -/
def delM : List (List Nat) → Nat → List (List Nat)
  | [], _ => []
  | l :: ls, a =>
    match ls with
    | [] => [l.set (grpT l a) (l.getD (grpT l a) 0 - 1)]
    | l2 :: _ =>
      if l.getD (grpT l a) 0 = 3 then l.set (grpT l a) 2 :: ls
      else if startT l2 (grpT l2 (grpT l a)) < grpT l a then
          if l.getD (grpT l a - 1) 0 = 3 then ((l.set (grpT l a - 1) 2).set (grpT l a) 2) :: ls
          else ((l.set (grpT l a - 1) 3).eraseIdx (grpT l a)) :: delM ls (grpT l a)
        else if l.getD (grpT l a + 1) 0 = 3 then ((l.set (grpT l a + 1) 2).set (grpT l a) 2) :: ls
        else ((l.set (grpT l a + 1) 3).eraseIdx (grpT l a)) :: delM ls (grpT l a)
/-- the last of some levels with a group of one at a place mended, below a level -/
def fixM (l : List Nat) (t : List Nat) (k : Nat) : List (List Nat) :=
  if startT t (grpT t k) < k then
    if l.getD (k - 1) 0 = 3 then [(l.set (k - 1) 2).set k 2, t] else [(l.set (k - 1) 3).eraseIdx k, t.set (grpT t k) (t.getD (grpT t k) 0 - 1)]
  else if l.getD (k + 1) 0 = 3 then [(l.set (k + 1) 2).set k 2, t] else [(l.set (k + 1) 3).eraseIdx k, t.set (grpT t k) (t.getD (grpT t k) 0 - 1)]

theorem delM_one (l : List Nat) (a : Nat) : delM [l] a = [l.set (grpT l a) (l.getD (grpT l a) 0 - 1)] := rfl
theorem delM_two (l l2 : List Nat) (ls : List (List Nat)) (a : Nat) : delM (l :: l2 :: ls) a =
      if l.getD (grpT l a) 0 = 3 then l.set (grpT l a) 2 :: l2 :: ls
      else if startT l2 (grpT l2 (grpT l a)) < grpT l a then
          if l.getD (grpT l a - 1) 0 = 3 then ((l.set (grpT l a - 1) 2).set (grpT l a) 2) :: l2 :: ls
          else ((l.set (grpT l a - 1) 3).eraseIdx (grpT l a)) :: delM (l2 :: ls) (grpT l a)
        else if l.getD (grpT l a + 1) 0 = 3 then ((l.set (grpT l a + 1) 2).set (grpT l a) 2) :: l2 :: ls
        else ((l.set (grpT l a + 1) 3).eraseIdx (grpT l a)) :: delM (l2 :: ls) (grpT l a) := rfl
theorem getD_setT (l : List Nat) (i j n : Nat) : (l.set i n).getD j 0 = if i = j ∧ j < l.length then n else l.getD j 0 := by
  simp only [List.getD_eq_getElem?_getD, List.getElem?_set]
  by_cases h : i = j
  · subst h
    by_cases h2 : i < l.length
    · simp [h2]
    · simp [h2]
  · simp [h]
theorem erase_set_eq (l : List Nat) (k n : Nat) : (l.set k n).eraseIdx k = l.eraseIdx k := by
  apply List.ext_getElem?
  intro i
  simp only [List.getElem?_eraseIdx, List.getElem?_set]
  split
  · rw [if_neg (by omega)]
  · rw [if_neg (by omega)]
/-- one level more above -/
theorem delM_snoc : ∀ (lv : List (List Nat)) (l t : List Nat) (a : Nat), (∀ x ∈ lv ++ [l], two3 x) → grpT l (topT lv a) < l.length →
    ∃ (r : List (List Nat)) (l' : List Nat), delM (lv ++ [l]) a = r ++ [l'] ∧ (l'.getD (grpT l (topT lv a)) 0 ≠ 1 → delM (lv ++ [l, t]) a = r ++ [l', t]) ∧
      (l'.getD (grpT l (topT lv a)) 0 = 1 → delM (lv ++ [l, t]) a = r ++ fixM l' t (grpT l (topT lv a)))
  | [], l, t, a, h23, hk => by
    rw [topT] at hk
    have h2 := h23 l (by simp)
    have e : l.getD (grpT l a) 0 = l[grpT l a] := by rw [List.getD_eq_getElem?_getD, List.getElem?_eq_getElem hk]; rfl
    have h3 := two3_get h2 hk
    rw [← e] at h3
    have hs1 : (l.set (grpT l a) (l.getD (grpT l a) 0 - 1)).getD (grpT l a) 0 = l.getD (grpT l a) 0 - 1 := by rw [getD_setT, if_pos ⟨rfl, hk⟩]
    refine ⟨[], l.set (grpT l a) (l.getD (grpT l a) 0 - 1), rfl, fun hne => ?_, fun he => ?_⟩
    · show delM [l, t] a = _
      rw [delM_two]
      rw [topT, hs1] at hne
      rw [if_pos (by omega), show l.getD (grpT l a) 0 - 1 = 2 by omega]
      rfl
    · show delM [l, t] a = _
      rw [delM_two]
      rw [topT, hs1] at he
      rw [topT]
      generalize grpT l a = k at *
      rw [if_neg (by omega), he, fixM]
      by_cases hs : startT t (grpT t k) < k
      · have hg : (l.set k 1).getD (k - 1) 0 = l.getD (k - 1) 0 := by rw [getD_setT, if_neg (by omega)]
        rw [if_pos hs, if_pos hs, hg]
        by_cases h3 : l.getD (k - 1) 0 = 3
        · rw [if_pos h3, if_pos h3, List.set_comm _ _ (show k ≠ k - 1 by omega), List.set_set]
          rfl
        · rw [if_neg h3, if_neg h3, List.set_comm _ _ (show k ≠ k - 1 by omega), erase_set_eq]
          rfl
      · have hg : (l.set k 1).getD (k + 1) 0 = l.getD (k + 1) 0 := by rw [getD_setT, if_neg (by omega)]
        rw [if_neg hs, if_neg hs, hg]
        by_cases h3 : l.getD (k + 1) 0 = 3
        · rw [if_pos h3, if_pos h3, List.set_comm _ _ (show k ≠ k + 1 by omega), List.set_set]
          rfl
        · rw [if_neg h3, if_neg h3, List.set_comm _ _ (show k ≠ k + 1 by omega), erase_set_eq]
          rfl
  | l0 :: lv, l, t, a, h23, hk => by
    rw [topT] at hk ⊢
    obtain ⟨r, l', e1, e2, e3⟩ := delM_snoc lv l t (grpT l0 a) (fun x hx => h23 x (by simp only [List.cons_append, List.mem_cons]; exact .inr hx)) hk
    obtain ⟨l2, rest, hc⟩ : ∃ l2 rest, lv ++ [l] = l2 :: rest := by
      cases lv with
      | nil => exact ⟨l, [], rfl⟩
      | cons x xs => exact ⟨x, xs ++ [l], rfl⟩
    have hct : lv ++ [l, t] = l2 :: (rest ++ [t]) := by
      have : lv ++ [l, t] = (lv ++ [l]) ++ [t] := by simp
      rw [this, hc]; rfl
    have hll : l.getD (grpT l (topT lv (grpT l0 a))) 0 ≠ 1 := by
      have h2 := h23 l (by simp)
      have e : l.getD (grpT l (topT lv (grpT l0 a))) 0 = l[grpT l (topT lv (grpT l0 a))] := by rw [List.getD_eq_getElem?_getD, List.getElem?_eq_getElem hk]; rfl
      have := two3_get h2 hk
      omega
    rw [List.cons_append, List.cons_append, hc, hct, delM_two, delM_two, ← hc, ← hct, e1]
    have keep : ∀ x : List Nat, ∃ (r' : List (List Nat)) (l'' : List Nat), x :: (lv ++ [l]) = r' ++ [l''] ∧ (l''.getD (grpT l (topT lv (grpT l0 a))) 0 ≠ 1 → x :: (lv ++ [l, t]) = r' ++ [l'', t]) ∧
        (l''.getD (grpT l (topT lv (grpT l0 a))) 0 = 1 → x :: (lv ++ [l, t]) = r' ++ fixM l'' t (grpT l (topT lv (grpT l0 a)))) :=
      fun x => ⟨x :: lv, l, rfl, fun _ => rfl, fun h => absurd h hll⟩
    have go : ∀ x : List Nat, ∃ (r' : List (List Nat)) (l'' : List Nat), x :: (r ++ [l']) = r' ++ [l''] ∧ (l''.getD (grpT l (topT lv (grpT l0 a))) 0 ≠ 1 → x :: delM (lv ++ [l, t]) (grpT l0 a) = r' ++ [l'', t]) ∧
        (l''.getD (grpT l (topT lv (grpT l0 a))) 0 = 1 → x :: delM (lv ++ [l, t]) (grpT l0 a) = r' ++ fixM l'' t (grpT l (topT lv (grpT l0 a)))) :=
      fun x => ⟨x :: r, l', rfl, fun h => by rw [e2 h]; rfl, fun h => by rw [e3 h]; rfl⟩
    split
    · exact keep _
    · split
      · split
        · exact keep _
        · exact go _
      · split
        · exact keep _
        · exact go _

/-- the last level has one group -/
theorem last_one : ∀ (lv : List (List Nat)) (many : Nat), lvOK many lv → lv ≠ [] → ∃ (r : List (List Nat)) (n : Nat), lv = r ++ [[n]] ∧ (n = 2 ∨ n = 3)
  | [], many, h, hne => absurd rfl hne
  | [l], many, h, _ => by
    obtain ⟨n, rfl, hn, rfl⟩ := one_groupT h
    exact ⟨[], many, rfl, hn⟩
  | l :: l2 :: ls, many, ⟨h1, h2, h3, h4⟩, _ => by
    obtain ⟨r, n, e, hn⟩ := last_one (l2 :: ls) l.length h4 (by simp)
    exact ⟨l :: r, n, by rw [e]; rfl, hn⟩
theorem getD_some {l : List Nat} {k n : Nat} (hn : n ≠ 0) : l.getD k 0 = n ↔ l[k]? = some n := by
  rw [List.getD_eq_getElem?_getD]
  cases h : l[k]? with
  | none => simp; omega
  | some x => simp
/-- the levels without an item are these, but for a last group of one -/
theorem delL_delM : ∀ (lv : List (List Nat)) (many a : Nat), lvOK many lv → a < many → lv ≠ [] → ∃ (r : List (List Nat)) (n : Nat), delM lv a = r ++ [[n]] ∧ (n = 1 ∨ n = 2 ∨ n = 3) ∧ delL lv a = if n = 1 then r else r ++ [[n]]
  | [], many, a, h, ha, hne => absurd rfl hne
  | [l], many, a, h, ha, _ => by
    obtain ⟨n, rfl, hn, rfl⟩ := one_groupT h
    have hg : grpT [many] a = 0 := by rw [grpT_cons, if_pos ha]
    rw [delM_one, delL_one, hg]
    rcases hn with rfl | rfl
    · exact ⟨[], 1, rfl, .inl rfl, rfl⟩
    · exact ⟨[], 2, rfl, .inr (.inl rfl), rfl⟩
  | l :: l2 :: ls, many, a, ⟨h1, h2, h3, h4⟩, ha, _ => by
    obtain ⟨g1, g2, g3⟩ := grpT_spec l a (by omega)
    rw [delM_two, delL_two]
    simp only [getD_some (show (3 : Nat) ≠ 0 by omega)]
    obtain ⟨r, n, e, hn⟩ := last_one (l2 :: ls) l.length h4 (by simp)
    obtain ⟨r', n', e1, hn', e2⟩ := delL_delM (l2 :: ls) l.length (grpT l a) h4 g1 (by simp)
    have keep : ∀ x : List Nat, ∃ (r : List (List Nat)) (n : Nat), x :: l2 :: ls = r ++ [[n]] ∧ (n = 1 ∨ n = 2 ∨ n = 3) ∧ x :: l2 :: ls = if n = 1 then r else r ++ [[n]] :=
      fun x => ⟨x :: r, n, by rw [e]; rfl, .inr hn, by rw [if_neg (by omega), e]; rfl⟩
    have go : ∀ x : List Nat, ∃ (r : List (List Nat)) (n : Nat), x :: delM (l2 :: ls) (grpT l a) = r ++ [[n]] ∧ (n = 1 ∨ n = 2 ∨ n = 3) ∧ x :: delL (l2 :: ls) (grpT l a) = if n = 1 then r else r ++ [[n]] :=
      fun x => ⟨x :: r', n', by rw [e1]; rfl, hn', by
        rw [e2]
        by_cases h : n' = 1
        · rw [if_pos h, if_pos h]
        · rw [if_neg h, if_neg h]; rfl⟩
    split
    · exact keep _
    · split
      · split
        · exact keep _
        · exact go _
      · split
        · exact keep _
        · exact go _

end Go.Proofs.Ytbickllpledlbaa

