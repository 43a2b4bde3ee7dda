import Derived.Test.YtmganbdbihjbmaaI46
import Derived.Test.YtmganbdbihjbmaaI47
import Derived.Test.YtmganbdbihjbmaaI30
/-
  PLANS (layer 12): the steps by their places; ways up; nothing changed but by one; all touched: pure facts.
-/
set_option linter.unusedVariables false
namespace Go.Proofs.Ytmganbdbihjbmaa

theorem stepsT_append (now : List RN) (kp : List Int) (at_ : Nat) : ∀ (i : Nat) (a b : List RN), stepsT now kp at_ i (a ++ b) = stepsT now kp at_ i a ++ stepsT now kp at_ (i + a.length) b
  | i, [], b => by simp [stepsT]
  | i, x :: a, b => by
    rw [List.cons_append, stepsT, stepsT_append now kp at_ (i + 1) a b, stepsT, List.length_cons, show i + 1 + a.length = i + (a.length + 1) by omega]
    split <;> simp
/-- the steps ahead of a place, and the one that stands there -/
theorem stepsT_at {now : List RN} {kp : List Int} {at_ i : Nat} {x : RN} (hx : now[i]? = some x) (hs : isStep kp i x = true) : (stepsT now kp at_ 0 now)[(stepsT now kp at_ 0 (now.take i)).length]? = some (stepT now kp at_ i x) := by
  have e := stepsT_append now kp at_ 0 (now.take (i + 1)) (now.drop (i + 1))
  rw [List.take_append_drop, stepsT_take hx, if_pos hs] at e
  rw [e, List.append_assoc, List.getElem?_append_right (Nat.le_refl _), Nat.sub_self]
  rfl
theorem stepsT_lt {now : List RN} {kp : List Int} {at_ i : Nat} {x : RN} (hx : now[i]? = some x) (hs : isStep kp i x = true) : (stepsT now kp at_ 0 (now.take i)).length < (stepsT now kp at_ 0 now).length := (List.getElem?_eq_some_iff.1 (stepsT_at (at_ := at_) hx hs)).1
def posT (kp : List Int) : Nat → List RN → List Nat
  | _, [] => []
  | i, x :: l => if isStep kp i x = true then i :: posT kp (i + 1) l else posT kp (i + 1) l
def stepK (now : List RN) (kp : List Int) (at_ k : Nat) : SI := match now[k]? with
  | some x => stepT now kp at_ k x
  | none => ⟨0, 0, []⟩
theorem stepK_at {now : List RN} {kp : List Int} {at_ k : Nat} {x : RN} (h : now[k]? = some x) : stepK now kp at_ k = stepT now kp at_ k x := by rw [stepK, h]
theorem stepsT_pos (now : List RN) (kp : List Int) (at_ : Nat) : ∀ (i : Nat) (l : List RN), (∀ j x, l[j]? = some x → now[i + j]? = some x) → stepsT now kp at_ i l = (posT kp i l).map (stepK now kp at_)
  | i, [], _ => rfl
  | i, x :: l, h => by
    have h0 := h 0 x rfl
    have hl := stepsT_pos now kp at_ (i + 1) l (fun j y hy => by
      have := h (j + 1) y (by simpa using hy)
      rwa [show i + (j + 1) = i + 1 + j by omega] at this)
    rw [stepsT, posT, hl]
    split
    · rw [List.map_cons, stepK_at (x := x) (by simpa using h0)]
    · rfl
theorem stepsT_all (now : List RN) (kp : List Int) (at_ : Nat) : stepsT now kp at_ 0 now = (posT kp 0 now).map (stepK now kp at_) := stepsT_pos now kp at_ 0 now (fun j x h => by rw [Nat.zero_add]; exact h)
theorem posT_mem (kp : List Int) : ∀ (i : Nat) (l : List RN) (k : Nat), k ∈ posT kp i l ↔ ∃ j x, k = i + j ∧ l[j]? = some x ∧ isStep kp k x = true
  | i, [], k => by simp [posT]
  | i, x :: l, k => by
    have ih := posT_mem kp (i + 1) l k
    rw [posT]
    constructor
    · intro h
      by_cases hs : isStep kp i x = true
      · rw [if_pos hs] at h
        rcases List.mem_cons.1 h with rfl | h
        · exact ⟨0, x, rfl, rfl, hs⟩
        · obtain ⟨j, y, e, hy, hyy⟩ := ih.1 h
          exact ⟨j + 1, y, by omega, by simpa using hy, hyy⟩
      · rw [if_neg hs] at h
        obtain ⟨j, y, e, hy, hyy⟩ := ih.1 h
        exact ⟨j + 1, y, by omega, by simpa using hy, hyy⟩
    · rintro ⟨j, y, e, hy, hyy⟩
      cases j with
      | zero =>
        have hy := Option.some.inj hy
        subst hy
        rw [Nat.add_zero] at e
        subst e
        rw [if_pos hyy]
        simp
      | succ j =>
        have := ih.2 ⟨j, y, by omega, by simpa using hy, hyy⟩
        split
        · exact List.mem_cons_of_mem _ this
        · exact this
theorem posT_in {kp : List Int} {now : List RN} {k : Nat} : k ∈ posT kp 0 now ↔ ∃ x, now[k]? = some x ∧ isStep kp k x = true := by
  rw [posT_mem]
  constructor
  · rintro ⟨j, x, e, hx, hs⟩
    have : j = k := by omega
    subst this
    exact ⟨x, hx, hs⟩
  · rintro ⟨x, hx, hs⟩
    exact ⟨k, x, by omega, hx, hs⟩
theorem posT_rise (kp : List Int) : ∀ (i : Nat) (l : List RN), (posT kp i l).Pairwise (· < ·)
  | i, [] => List.Pairwise.nil
  | i, x :: l => by
    have ih := posT_rise kp (i + 1) l
    rw [posT]
    split
    · refine List.Pairwise.cons (fun k hk => ?_) ih
      obtain ⟨j, y, e, _, _⟩ := (posT_mem kp (i + 1) l k).1 hk
      omega
    · exact ih
theorem sorted_eq : ∀ (A B : List Nat), A.Pairwise (· < ·) → B.Pairwise (· < ·) → (∀ k, k ∈ A ↔ k ∈ B) → A = B
  | [], [], _, _, _ => rfl
  | [], b :: B, _, _, h => by have := (h b).2 (by simp); simp at this
  | a :: A, [], _, _, h => by have := (h a).1 (by simp); simp at this
  | a :: A, b :: B, hA, hB, h => by
    obtain ⟨a1, a2⟩ := List.pairwise_cons.1 hA
    obtain ⟨b1, b2⟩ := List.pairwise_cons.1 hB
    have e : a = b := by
      rcases List.mem_cons.1 ((h a).1 (by simp)) with e | e
      · exact e
      · rcases List.mem_cons.1 ((h b).2 (by simp)) with e' | e'
        · exact e'.symm
        · have := b1 a e; have := a1 b e'; omega
    subst e
    rw [sorted_eq A B a2 b2 (fun k => ⟨fun hk => by
      rcases List.mem_cons.1 ((h k).1 (by simp [hk])) with e | e
      · have := a1 k hk; omega
      · exact e, fun hk => by
      rcases List.mem_cons.1 ((h k).2 (by simp [hk])) with e | e
      · have := b1 k hk; omega
      · exact e⟩)]
/-- from where a secret comes, and to whom it is sent -/
theorem stK_spec (known : Nat → Bool) {kids : List Nat} (hn : kids.Nodup) : ∀ j, j ≤ kids.length →
    (stK known (kids.take j)).2 = (kids.take j).filter (fun (k : Nat) => decide ((k : Int) ≠ (stK known (kids.take j)).1)) ∧
    (((stK known (kids.take j)).1 = -1 ∧ ∀ c ∈ kids.take j, known c = false) ∨ ∃ c ∈ kids.take j, (stK known (kids.take j)).1 = (c : Int) ∧ known c = true)
  | 0, _ => ⟨by simp [stK], .inl ⟨rfl, fun c hc => by simp at hc⟩⟩
  | j + 1, hj => by
    obtain ⟨h1, h2⟩ := stK_spec known hn j (by omega)
    have hjl : j < kids.length := hj
    have hk := List.getElem?_eq_getElem hjl
    have htk := List.take_succ_eq_append_getElem hjl
    have hout : kids[j] ∉ kids.take j := by
      have hn' := hn
      rw [← List.take_append_drop j kids, List.nodup_append] at hn'
      intro hm
      have hd : kids[j] ∈ kids.drop j := by
        have := List.mem_cons_self (a := kids[j]) (l := kids.drop (j + 1))
        rwa [← List.drop_eq_getElem_cons hjl] at this
      exact hn'.2.2 _ hm _ hd rfl
    rw [stK_take hk]
    generalize kids[j] = k at *
    generalize stK known (kids.take j) = st at *
    obtain ⟨f, sd⟩ := st
    simp only at h1 h2 ⊢
    by_cases hc : known k = true ∧ f = -1
    · rw [if_pos hc]
      obtain ⟨hc1, hc2⟩ := hc
      subst hc2
      refine ⟨?_, .inr ⟨k, by rw [htk]; simp, rfl, hc1⟩⟩
      rw [h1, htk, List.filter_append]
      have e1 : (kids.take j).filter (fun c : Nat => decide ((c : Int) ≠ -1)) = kids.take j := List.filter_eq_self.2 (fun c _ => decide_eq_true (by omega))
      have e2 : (kids.take j).filter (fun c : Nat => decide ((c : Int) ≠ (k : Int))) = kids.take j := List.filter_eq_self.2 (fun c hcm => decide_eq_true (fun e => hout (by rw [show k = c by omega]; exact hcm)))
      rw [e1, e2]
      simp
    · rw [if_neg hc]
      simp only
      have hkf : (k : Int) ≠ f := by
        rcases h2 with ⟨e, _⟩ | ⟨c, hcm, e, _⟩
        · rw [e]; omega
        · rw [e]; intro e'; exact hout (by rw [show k = c by omega]; exact hcm)
      refine ⟨by rw [h1, htk, List.filter_append]; simp [hkf], ?_⟩
      rcases h2 with ⟨e, ha⟩ | ⟨c, hcm, e, hkc⟩
      · refine .inl ⟨e, fun c hcm => ?_⟩
        rw [htk, List.mem_append, List.mem_singleton] at hcm
        rcases hcm with hcm | rfl
        · exact ha c hcm
        · rw [Bool.eq_false_iff]; exact fun h => hc ⟨h, e⟩
      · exact .inr ⟨c, by rw [htk]; simp [hcm], e, hkc⟩
theorem stK_all (known : Nat → Bool) {kids : List Nat} (hn : kids.Nodup) :
    (stK known kids).2 = kids.filter (fun (k : Nat) => decide ((k : Int) ≠ (stK known kids).1)) ∧ (((stK known kids).1 = -1 ∧ ∀ c ∈ kids, known c = false) ∨ ∃ c ∈ kids, (stK known kids).1 = (c : Int) ∧ known c = true) := by
  have := stK_spec known hn kids.length (Nat.le_refl _)
  rwa [List.take_length] at this
theorem count_one {c : Nat} : ∀ l : List Nat, l.Nodup → c ∈ l → l.count c = 1
  | [], _, h => by simp at h
  | x :: l, hn, h => by
    obtain ⟨h1, h2⟩ := List.nodup_cons.1 hn
    by_cases e : x = c
    · subst e
      rw [List.count_cons_self, List.count_eq_zero.2 h1]
    · rw [List.count_cons_of_ne e]
      exact count_one l h2 ((List.mem_cons.1 h).resolve_left (fun e' => e e'.symm))
/-- each of those below is sent to once, but the one from whom the secret comes -/
theorem stK_count (known : Nat → Bool) {kids : List Nat} (hn : kids.Nodup) {c : Nat} (hc : c ∈ kids) : ((stK known kids).1 = (c : Int) ∧ (stK known kids).2.count c = 0) ∨ ((stK known kids).1 ≠ (c : Int) ∧ (stK known kids).2.count c = 1) := by
  rw [(stK_all known hn).1]
  by_cases e : (stK known kids).1 = (c : Int)
  · refine .inl ⟨e, ?_⟩
    rw [List.count_eq_zero]
    intro h
    have := (List.mem_filter.1 h).2
    rw [e] at this
    simp at this
  · refine .inr ⟨e, ?_⟩
    rw [List.count_filter (by simpa using fun h => e h.symm)]
    exact count_one _ hn hc

section
variable {kind : Int} {ids : List Int} {L : List RN} {p : Nat} {P : List Nat}
theorem way_kid (hn : NF kind ids L) (hW : WayF L p P) {j : Nat} (hj : j + 1 < P.length) : ∃ x, L[P[j + 1]]? = some x ∧ P[j] ∈ x.kids := by
  obtain ⟨y, hy, hyu⟩ := chainP_at L (-1) P j hW.chain (by omega)
  rw [List.drop_eq_getElem_cons hj] at hyu
  simp only [nextU] at hyu
  rcases hn.up _ y hy with ⟨e, _⟩ | ⟨u, z, e, hz, hm⟩
  · omega
  · have : u = P[j + 1] := by omega
    subst this
    exact ⟨z, hz, hm⟩
theorem way_up (hn : NF kind ids L) (hW : WayF L p P) {k c : Nat} {x : RN} (hx : L[k]? = some x) (hc : c ∈ x.kids) {j : Nat} (hj : j < P.length) (e : c = P[j]) : ∃ hj1 : j + 1 < P.length, P[j + 1] = k := by
  obtain ⟨y, hy, hyu⟩ := chainP_at L (-1) P j hW.chain hj
  obtain ⟨y', hy', hyu', _⟩ := hn.kidUp hx hc
  rw [e, hy] at hy'
  have e' := Option.some.inj hy'
  subst e'
  rcases Nat.lt_or_ge (j + 1) P.length with h | h
  · rw [List.drop_eq_getElem_cons h] at hyu
    simp only [nextU] at hyu
    exact ⟨h, by omega⟩
  · rw [List.drop_eq_nil_of_le h] at hyu
    simp only [nextU] at hyu
    omega
theorem way_leaf (hn : NF kind ids L) (hW : WayF L p P) {k : Nat} {x : RN} (hx : L[k]? = some x) (h0 : x.lev = 0) : k ∈ P ↔ x.at_ = p := by
  constructor
  · intro hk
    obtain ⟨y, hy, hh⟩ := hW.has k hk
    rw [hx] at hy
    have e := Option.some.inj hy
    subst e
    have := hn.leafAt hx h0
    simp only [hasP, Bool.and_eq_true, decide_eq_true_eq] at hh
    omega
  · intro e
    obtain ⟨a, t, z, e1, e2, e3, e4, _⟩ := hW.first
    rw [leaf_one hn hx e2 h0 e3 (by omega), e1]
    simp
theorem way_lev (hn : NF kind ids L) (hW : WayF L p P) {j : Nat} (hj : j + 1 < P.length) {x : RN} (hx : L[P[j + 1]]? = some x) : ¬ x.lev = 0 := fun h0 => by
  obtain ⟨z, hz, hm⟩ := way_kid hn hW hj
  rw [hx] at hz
  have e := Option.some.inj hz
  subst e
  rw [(hn.kids0 hx).2 h0] at hm
  simp at hm
theorem way_first (hn : NF kind ids L) (hW : WayF L p P) (h0 : 0 < P.length) : ∃ x, L[P[0]]? = some x ∧ x.lev = 0 ∧ x.at_ = p := by
  obtain ⟨a, t, z, e1, e2, e3, e4, _⟩ := hW.first
  subst e1
  exact ⟨z, e2, e3, e4⟩
theorem gone_nil (id y : Int) : goneT [] id y = decide (y = id) := by simp [goneT]
/-- nothing changed but by one: the nodes of its way up are others, all else is what it was -/
theorem way_keep (hn : NF kind ids L) (hW : WayF L p P) (hp : p < ids.length) : ∀ (k : Nat) (x : RN), L[k]? = some x → kpA (keepT L ids (lfT L ids [] (ids.getD p 0)) L) k = if k ∈ P then -1 else (k : Int) := by
  intro k
  induction k using Nat.strongRecOn with
  | ind k ih =>
    intro x hx
    have hup := nf_up hn
    by_cases h0 : x.lev = 0
    · rw [keep_leaf hn hx h0]
      have hax := (hn.leafAt hx h0).2.2
      by_cases e : x.at_ = p
      · rw [if_pos ((way_leaf hn hW hx h0).2 e), e, lfT, gone_nil, if_pos (by simp)]
      · rw [if_neg (fun h => e ((way_leaf hn hW hx h0).1 h))]
        exact lfT_leaf hn hx h0 (by rw [gone_nil, decide_eq_false_iff_not]; exact fun h => e (rise_inj hn.rise hax hp h))
    · rw [keep_node hn hx h0]
      have hin : ∀ c ∈ x.kids, kpA (keepT L ids (lfT L ids [] (ids.getD p 0)) L) c = -1 ∨ ∃ q : Nat, kpA (keepT L ids (lfT L ids [] (ids.getD p 0)) L) c = (q : Int) ∧ q < L.length := fun c hc => by
        obtain ⟨y, hy, _, hlt⟩ := hn.kidUp hx hc
        rw [ih c hlt y hy]
        split
        · exact .inl rfl
        · exact .inr ⟨c, rfl, (List.getElem?_eq_some_iff.1 hy).1⟩
      by_cases hk : k ∈ P
      · rw [if_pos hk]
        obtain ⟨j, hj, rfl⟩ := List.mem_iff_getElem.1 hk
        cases j with
        | zero =>
          obtain ⟨z, hz, hz0, _⟩ := way_first hn hW hj
          rw [hx] at hz
          have e := Option.some.inj hz
          subst e
          exact absurd hz0 h0
        | succ j =>
          obtain ⟨z, hz, hm⟩ := way_kid hn hW hj
          rw [hx] at hz
          have e := Option.some.inj hz
          subst e
          obtain ⟨y, hy, _, hlt⟩ := hn.kidUp hx hm
          exact asOld_miss hup hin hm (by rw [ih _ hlt y hy, if_pos (List.getElem_mem _)])
      · rw [if_neg hk]
        have hkid : ∀ c ∈ x.kids, kpA (keepT L ids (lfT L ids [] (ids.getD p 0)) L) c = (c : Int) := fun c hc => by
          obtain ⟨y, hy, _, hlt⟩ := hn.kidUp hx hc
          rw [ih c hlt y hy, if_neg (fun h => by
            obtain ⟨j, hj, e⟩ := List.mem_iff_getElem.1 h
            obtain ⟨hj1, e'⟩ := way_up hn hW hx hc hj e.symm
            exact hk (by rw [← e']; exact List.getElem_mem _))]
        have hm : x.kids.map (kpA (keepT L ids (lfT L ids [] (ids.getD p 0)) L)) = castL x.kids := List.map_congr_left hkid
        obtain ⟨k0, ks, ek⟩ : ∃ k0 ks, x.kids = k0 :: ks := by
          cases h : x.kids with
          | nil => exact absurd ((hn.kids0 hx).1 h) h0
          | cons a l => exact ⟨a, l, rfl⟩
        obtain ⟨y, hy, hyu, _⟩ := hn.kidUp hx (show k0 ∈ x.kids by rw [ek]; simp)
        have hk0 := hkid k0 (by rw [ek]; simp)
        rw [ek] at hm ⊢
        rw [asOld_up hk0 hy hyu hx, if_pos ⟨rfl, by rw [ek]; exact hm⟩]
/-- the steps of a way -/
theorem way_steps (hn : NF kind ids L) (hW : WayF L p P) (hp : p < ids.length) : (stepsT L (keepT L ids (lfT L ids [] (ids.getD p 0)) L) p 0 L).length + 1 = P.length ∧
    ∀ (i : Nat) (hi : i + 1 < P.length), (stepsT L (keepT L ids (lfT L ids [] (ids.getD p 0)) L) p 0 L)[i]? = some ⟨(P[i + 1] : Nat), (P[i] : Nat), castL ((kidsN L P[i + 1]).filter fun k => k != P[i])⟩ := by
  have hk := way_keep hn hW hp
  generalize keepT L ids (lfT L ids [] (ids.getD p 0)) L = kp at *
  obtain ⟨a, t, xa, e1, e2, e3, e4, _⟩ := hW.first
  have hpos : posT kp 0 L = t := by
    have hr := hW.rise
    rw [e1] at hr
    obtain ⟨r1, r2⟩ := List.pairwise_cons.1 hr
    refine sorted_eq _ _ (posT_rise kp 0 L) r2 (fun k => ?_)
    rw [posT_in]
    constructor
    · rintro ⟨x, hx, hs⟩
      rw [isStep, Bool.and_eq_true, hk k x hx] at hs
      have hkP : k ∈ P := by
        by_cases h : k ∈ P
        · exact h
        · rw [if_neg h] at hs
          have := hs.2
          rw [beq_iff_eq] at this
          omega
      rw [e1] at hkP
      rcases List.mem_cons.1 hkP with rfl | h
      · rw [e2] at hx
        have e := Option.some.inj hx
        subst e
        have := hs.1
        rw [e3] at this
        simp at this
      · exact h
    · intro h
      obtain ⟨y, hy, _⟩ := hW.has k (by rw [e1]; simp [h])
      refine ⟨y, hy, ?_⟩
      rw [isStep, Bool.and_eq_true, hk k y hy, if_pos (by rw [e1]; simp [h])]
      refine ⟨?_, by simp⟩
      have hy0 : ¬ y.lev = 0 := fun h0 => by
        have hat := (way_leaf hn hW hy h0).1 (by rw [e1]; simp [h])
        have := leaf_one hn hy e2 h0 e3 (by omega)
        subst this
        have := r1 k h
        omega
      simp [hy0]
  rw [stepsT_all, hpos]
  refine ⟨by rw [List.length_map, e1, List.length_cons], fun i hi => ?_⟩
  have hti : i < t.length := by rw [e1, List.length_cons] at hi; omega
  have hPt : P[i + 1] = t[i] := by simp only [e1, List.getElem_cons_succ]
  rw [List.getElem?_map, List.getElem?_eq_getElem hti, ← hPt]
  obtain ⟨x, hx, hm⟩ := way_kid hn hW hi
  obtain ⟨s1, s2⟩ := stK_all (knownB L kp p) (hn.nodup hx)
  have hfst : (stK (knownB L kp p) x.kids).1 = ((P[i] : Nat) : Int) := by
    have hkn : ∀ c ∈ x.kids, knownB L kp p c = true → c = P[i] := fun c hc hcn => by
      obtain ⟨y, hy, _, _⟩ := hn.kidUp hx hc
      rw [knownB, Bool.and_eq_true, hk c y hy] at hcn
      have hcP : c ∈ P := by
        by_cases h : c ∈ P
        · exact h
        · rw [if_neg h] at hcn
          have := hcn.1
          rw [beq_iff_eq] at this
          omega
      obtain ⟨j, hj, ej⟩ := List.mem_iff_getElem.1 hcP
      obtain ⟨hj1, e'⟩ := way_up hn hW hx hc hj ej.symm
      have hr := List.pairwise_iff_getElem.1 hW.rise
      have : j = i := by
        rcases Nat.lt_trichotomy (j + 1) (i + 1) with h | h | h
        · have := hr _ _ hj1 hi h; omega
        · omega
        · have := hr _ _ hi hj1 h; omega
      subst this
      exact ej.symm
    rcases s2 with ⟨_, ha⟩ | ⟨c, hc, e, hcn⟩
    · exfalso
      have := ha _ hm
      obtain ⟨y, hy, _, _⟩ := hn.kidUp hx hm
      rw [knownB, hk _ y hy, if_pos (List.getElem_mem _), hy] at this
      by_cases h0 : y.lev = 0
      · have := (way_leaf hn hW hy h0).1 (List.getElem_mem _)
        simp_all
      · have : 0 < y.lev := by omega
        simp_all
    · rw [e, hkn c hc hcn]
  show some (stepK L kp p P[i + 1]) = _
  rw [stepK_at hx, stepT, hfst, s1, hfst, kids_at hx]
  congr 3
  apply List.filter_congr
  intro c _
  rw [Bool.eq_iff_iff]
  simp only [decide_eq_true_eq, bne_iff_ne, ne_eq]
  omega
end

end Go.Proofs.Ytmganbdbihjbmaa

/-
  WHAT THE LAWS ABOUT CHANGED TREES SHARE: who changes, drawn; few; two trees in boxes.
-/
set_option linter.unusedVariables false
namespace Go.Proofs.Ytmganbdbihjbmaa
open Go.RowKit

theorem rangeK {w w' : World} {B b o : Nat} {cs : List Value} (h : w.rangeAt b o cs) (hb : b < B) (hw : Below B w w') : w'.rangeAt b o cs := fun j u hu => by
  rw [World.cell?_of_block (hw.block _ hb)]
  exact h j u hu
/-- an index drawn from any int -/
theorem draw_at (b : Int) (n : Nat) (hb1 : -9223372036854775808 ≤ b) (hb2 : b ≤ 9223372036854775807) (hn : 0 < n) (hn2 : n ≤ 1000000) : ∃ (r : Int) (d : Nat), b.tmod (n : Int) = r ∧ IntKind.i64.wrap (r + (n : Int)) = r + (n : Int) ∧ (r + (n : Int)).tmod (n : Int) = (d : Int) ∧ d < n := by
  have h1 : b.tmod (n : Int) < (n : Int) := Int.tmod_lt_of_pos _ (by omega)
  have h2 : -(n : Int) < b.tmod (n : Int) := Int.lt_tmod_of_pos _ (by omega)
  refine ⟨b.tmod (n : Int), ((b.tmod (n : Int) + (n : Int)).tmod (n : Int)).toNat, rfl, ?_, ?_, ?_⟩
  · rw [IntKind.wrap_i64]; omega
  · rw [Int.toNat_of_nonneg]
    rw [Int.tmod_eq_emod_of_nonneg (by omega)]
    exact Int.emod_nonneg _ (by omega)
  · rw [Int.tmod_eq_emod_of_nonneg (by omega)]
    have h3 := Int.emod_nonneg (b.tmod (n : Int) + (n : Int)) (b := (n : Int)) (by omega)
    have h4 := Int.emod_lt_of_pos (b.tmod (n : Int) + (n : Int)) (b := (n : Int)) (by omega)
    omega
/-- what Make asks of changed trees holds -/
theorem chg_make {kind : Int} (hk : kind = 1 ∨ kind = 2) (xs out inn : List Int) {by_ : Int} (hby : by_ ∈ (chgT xs out inn).1.1) : makeB kind (oldS xs).1 (oldS xs).2 (chgT xs out inn).1.1 (chgT xs out inn).1.2 by_ = true ∧ mayB kind (oldS xs).1 (oldS xs).2 = true ∧ mayB kind (chgT xs out inn).1.1 (chgT xs out inn).1.2 = true := by
  have hm : ∀ ids ll, chkT ids ll = true → mayB kind ids ll = true := fun ids ll h => by
    rw [mayB, h]
    rcases hk with rfl | rfl <;> rfl
  have h1 := hm _ _ (old_chk xs)
  have h2 := hm _ _ (chg_chk xs out inn)
  refine ⟨?_, h1, h2⟩
  rw [makeB, h1, h2]
  exact isT_mem.2 hby
end Go.Proofs.Ytmganbdbihjbmaa

/-
  WHAT PlanKeeps' walk asks of what is kept.
-/
set_option linter.unusedVariables false
namespace Go.Proofs.Ytmganbdbihjbmaa
open Go.RowKit

/-- the old nodes that the first so many nodes are kept as -/
def usedL (kp : List Int) (i : Nat) : List Int := (kp.take i).filter (fun k => decide (0 ≤ k))
theorem used_skip {kp : List Int} {i : Nat} {k : Int} (h : kp[i]? = some k) (hk : k < 0) : usedL kp (i + 1) = usedL kp i := by
  have e : decide (0 ≤ k) = false := decide_eq_false (by omega)
  rw [usedL, take_snoc h, List.filter_append, ← usedL, List.filter_cons_of_neg (by rw [e]; simp), List.filter_nil, List.append_nil]
theorem used_put {kp : List Int} {i : Nat} {k : Int} (h : kp[i]? = some k) (hk : 0 ≤ k) : usedL kp (i + 1) = usedL kp i ++ [k] := by
  have e : decide (0 ≤ k) = true := decide_eq_true hk
  rw [usedL, take_snoc h, List.filter_append, ← usedL, List.filter_cons_of_pos (by rw [e]), List.filter_nil]
theorem used_len (kp : List Int) (i : Nat) : (usedL kp i).length ≤ i := by
  have h1 := List.length_filter_le (fun k : Int => decide (0 ≤ k)) (kp.take i)
  rw [List.length_take] at h1
  rw [usedL]
  omega
/-- all that the walk asks -/
structure KPF (oids ids tl kp : List Int) (now was : List RN) : Prop where
  klen : kp.length = now.length
  told : ∀ i x, now[i]? = some x → kpA kp i = -1 ∨ ∃ (q : Nat) (y : RN), kpA kp i = (q : Int) ∧ was[q]? = some y ∧ y.to + x.fr = x.to + y.fr ∧ x.fr < x.to ∧ x.to ≤ ids.length ∧ y.fr < y.to ∧ y.to ≤ oids.length ∧
    (∀ n, x.fr + n < x.to → oids.getD (y.fr + n) 0 = ids.getD (x.fr + n) 0 ∧ ids.getD (x.fr + n) 0 ∉ tl) ∧ (∀ c ∈ x.kids, c < now.length ∧ 0 ≤ kpA kp c)
  fresh : ∀ (i q : Nat), i < kp.length → kpA kp i = (q : Int) → (q : Int) ∉ usedL kp i
theorem kpA_get {kp : List Int} {i : Nat} (h : i < kp.length) : kp[i]? = some (kpA kp i) := by
  rw [kpA, getD_at (List.getElem?_eq_getElem h), List.getElem?_eq_getElem h]
theorem kpf_facts {kind : Int} {oids ids tl : List Int} {by_ : Int} {was now : List RN} (hw : NF kind oids was) (hn : NF kind ids now) : KPF oids ids tl (keepT was ids (lfT was oids tl by_) now) now was := by
  have hkl : (keepT was ids (lfT was oids tl by_) now).length = now.length := keepT_len now
  have hok := keep_ok (touched := tl) (by_ := by_) hw hn
  have hin := keep_in (ids := ids) (now := now) (touched := tl) (by_ := by_) hw
  have hkk := fun (i : Nat) (x : RN) (hx : now[i]? = some x) (hk) (c : Nat) (hc) => keep_kids (touched := tl) (by_ := by_) hw hn hx hk (c := c) hc
  have hij := keep_inj (touched := tl) (by_ := by_) hw hn
  generalize keepT was ids (lfT was oids tl by_) now = kp at *
  refine ⟨hkl, fun i x hx => ?_, fun i q hi e hm => ?_⟩
  · rcases hok i x hx with h | ⟨q, y, h1, h2, h3⟩
    · exact .inl h
    · have hsx := hn.span x (List.mem_of_getElem? hx)
      have hsy := hw.span y (List.mem_of_getElem? h2)
      refine .inr ⟨q, y, h1, h2, h3.wide, hsx.1, hsx.2, hsy.1, hsy.2, fun n hl => ?_, fun c hc => ?_⟩
      · obtain ⟨a1, a2⟩ := h3.mem n hl
        refine ⟨a1, fun hm => ?_⟩
        rw [goneT, Bool.or_eq_false_iff, decide_eq_false_iff_not, decide_eq_false_iff_not] at a2
        exact a2.2 hm
      · have hlt := (hn.kid i x hx).2.2.2 c hc
        have hil := (List.getElem?_eq_some_iff.1 hx).1
        have hcl : c < now.length := by omega
        refine ⟨hcl, ?_⟩
        have hne := hkk i x hx (by omega) c hc
        rcases hin c hcl with h | ⟨q', h', _⟩
        · exact absurd h hne
        · omega
  · rw [usedL, List.mem_filter] at hm
    obtain ⟨j, hj, ej⟩ := List.getElem_of_mem hm.1
    rw [List.length_take] at hj
    have hjl : j < kp.length := by omega
    rw [List.getElem_take] at ej
    have e2 : kpA kp j = (q : Int) := by rw [kpA, getD_at (List.getElem?_eq_getElem hjl)]; exact ej
    have := hij i j _ _ q (List.getElem?_eq_getElem (show i < now.length by omega)) (List.getElem?_eq_getElem (show j < now.length by omega)) e e2
    omega
end Go.Proofs.Ytmganbdbihjbmaa

/-
  THE WALK of PlanKeeps (coterielaw12). Printed by gen_planlaw.py.
-/
set_option linter.unusedVariables false
namespace Go.Proofs.Ytmganbdbihjbmaa
open Go.RowKit

set_option maxRecDepth 100000 in
set_option maxHeartbeats 16000000 in
theorem core_PlanKeeps (kind : Int) (Ax : Option Addr) (nx cx : Nat) (xs : List Int) (Ao : Option Addr) (no co : Nat) (out : List Int) (An : Option Addr) (nn cn : Nat) (inn : List Int) (Am : Option Addr) (nm cm : Nat) (more : List Int) (by_ : Int) (w : World)
    (hx : Rd w w.heap.size Ax nx (xs.map iv)) (hro : Rd w w.heap.size Ao no (out.map iv)) (hrn : Rd w w.heap.size An nn (inn.map iv)) (hrm : Rd w w.heap.size Am nm (more.map iv)) (hm64 : ∀ x ∈ more, I64 x) (hb1 : -9223372036854775808 ≤ by_) (hb2 : by_ ≤ 9223372036854775807) :
    Calls Try.prog 6 #[.int .i64 kind, .slice Ax nx cx, .slice Ao no co, .slice An nn cn, .slice Am nm cm, .int .i64 by_] w fun e w' => e = .returned (.bool true) ∧ Below w.heap.size w w' := by
  obtain ⟨i0, hi0, hz0, hz1, hz2⟩ := info_parts intInfo
  have Hxl := Lib.hid (show xs.length = nx by have := hx.len; rwa [List.length_map] at this)
  have Hol := Lib.hid (show out.length = no by have := hro.len; rwa [List.length_map] at this)
  have Hil := Lib.hid (show inn.length = nn by have := hrn.len; rwa [List.length_map] at this)
  have Hml := Lib.hid (show more.length = nm by have := hrm.len; rwa [List.length_map] at this)
  go_enter Try.func6, Try.ntmps6
  go_wp2_with fail
  refine (live12 _).mono ?_
  rintro e w1 ⟨he, hold1⟩
  subst he
  by_cases c1 : nx ≤ 100
  case neg =>
    have z1 : (100 : Int) < (nx : Int) := by omega
    go_wp2_with fail
    go_ret
    exact ⟨rfl, hold1⟩
  have z1 : ¬ (100 : Int) < (nx : Int) := by omega
  by_cases c2 : no ≤ 40
  case neg =>
    have z2 : (40 : Int) < (no : Int) := by omega
    go_wp2_with fail
    go_ret
    exact ⟨rfl, hold1⟩
  have z2 : ¬ (40 : Int) < (no : Int) := by omega
  by_cases c3 : nn ≤ 40
  case neg =>
    have z3 : (40 : Int) < (nn : Int) := by omega
    go_wp2_with fail
    go_ret
    exact ⟨rfl, hold1⟩
  have z3 : ¬ (40 : Int) < (nn : Int) := by omega
  by_cases c4 : nm ≤ 40
  case neg =>
    have z4 : (40 : Int) < (nm : Int) := by omega
    go_wp2_with fail
    go_ret
    exact ⟨rfl, hold1⟩
  have z4 : ¬ (40 : Int) < (nm : Int) := by omega
  have hcg := Changed_any Ax nx cx xs Ao no co out An nn cn inn Am nm cm more w1 ((hx.below hold1).more hold1.size) ((hro.below hold1).more hold1.size) ((hrn.below hold1).more hold1.size) ((hrm.below hold1).more hold1.size) c1 c2 c3 c4
  by_cases hk0 : kind = 1 ∨ kind = 2
  case neg =>
    have k1b : (kind != 1) = true := by simp only [bne_iff_ne, ne_eq]; exact fun h => hk0 (.inl h)
    have k2b : (kind != 2) = true := by simp only [bne_iff_ne, ne_eq]; exact fun h => hk0 (.inr h)
    clear hk0
    go_wp2_with fail
    go_ret
    exact ⟨rfl, hold1⟩
  have Hk := Lib.hid hk0
  clear hk0
  go_upto_region 4 with fail
  rename_i K6 h6 K4 h4
  have hall : ∀ (v33 v34 v35 v36 v37 v38 v39 v40 v41 v42 v43 v44 v45 v46 v47 v48 v49 v50 v51 v52 v53 v54 v55 v56 v57 v58 v59 v60 v61 : Value), K6 ⟨#[.int .i64 kind, .slice Ax nx cx, .slice Ao no co, .slice An nn cn, .slice Am nm cm, .int .i64 by_, undef, undef, undef, undef, undef, undef, .bool false, .bool true, undef, undef, undef, undef, undef, undef, undef, undef, undef, undef, undef, undef, undef, undef, undef, undef, undef, undef, undef, v33, v34, v35, v36, v37, v38, v39, v40, v41, v42, v43, v44, v45, v46, v47, v48, v49, v50, v51, v52, v53, v54, v55, v56, v57, v58, v59, v60, v61, undef, undef, undef, undef, undef, undef, undef, undef, undef, undef, undef, undef, undef, undef, undef, undef, undef, undef, undef, undef, undef, undef, undef, undef, undef, undef, undef, undef, undef, undef, undef, undef, undef, undef, undef, undef, undef, undef, undef, undef, undef, undef, undef, undef, undef, undef, undef, undef, undef, undef, undef, undef, undef, undef, undef, undef, undef, undef, undef, undef, undef, undef, undef, undef, undef, undef, undef, undef, undef, undef, undef, undef, undef, undef, undef, undef, undef, undef, undef, undef, undef, undef, undef, undef, undef, undef, undef, undef, undef, undef, undef, undef, undef, undef, undef, undef, undef, undef, undef, undef, undef, undef, undef, undef, undef, undef, undef, undef, undef, undef, undef, undef, undef, undef, undef, undef, undef, undef, undef, undef, undef, undef, undef, undef, undef, undef, undef, undef, undef, undef, undef, undef, undef, undef, undef, undef, undef, undef, undef, undef, undef, undef, undef, undef, undef, undef, undef, undef, undef, undef, undef, undef, undef, undef, undef, undef, undef, undef, undef, undef, undef, undef, undef, undef, undef, undef, undef, undef, undef, undef, undef, undef, undef, undef, undef, undef, undef, undef, undef, undef, undef, undef, undef, undef, undef, undef, undef, undef, undef], []⟩ w1 := by
    intro v33 v34 v35 v36 v37 v38 v39 v40 v41 v42 v43 v44 v45 v46 v47 v48 v49 v50 v51 v52 v53 v54 v55 v56 v57 v58 v59 v60 v61
    clear h4
    refine h6 _ _ ?_
    clear h6
    go_wp2_with fail
    refine hcg.mono ?_
    rintro e w2 ⟨hb2', Oi, oi, ocap, Ol, ol, olc, Ai, ni, ci, Al, nl, cl, At, nt, ct, lo, eo, la, ea, he, hO, hOe, hA, hAe, hown, hsp⟩
    subst he
    have hS := hA.sh.more hAe
    have hOR := hO.sh.more hOe
    have hB0 := (((Ms.nil w2).box 25 sh0).box 25 sh0)
    simp only [World.size_alloc] at hB0
    have hB1 := (hB0.subT (L' := [(w2.heap.size, 25, sh0), (w2.heap.size + 1, 25, sh0)]) (fun p hp => by simp only [List.mem_cons, List.not_mem_nil, or_false] at hp ⊢; rcases hp with rfl | rfl <;> simp)).setT (Nat.le_refl _) (fun p hp => by simp only [List.mem_cons, List.not_mem_nil, or_false] at hp; subst hp; simp) (shV Oi oi ocap Ol ol olc)
    have hrA := hB1.get 1 rfl
    have hM := (hB1.subT (L' := [(w2.heap.size + 1, 25, sh0), (w2.heap.size, 25, shV Oi oi ocap Ol ol olc)]) (fun p hp => by simp only [List.mem_cons, List.not_mem_nil, or_false] at hp ⊢; rcases hp with rfl | rfl <;> simp)).setT (Nat.le_succ _) (fun p hp => by simp only [List.mem_cons, List.not_mem_nil, or_false] at hp; subst hp; simp) (shV Ai ni ci Al nl cl)
    have hrO := hB0.get 1 rfl
    go_upto_region 7 with (first
      | ((with_reducible show wpList _ _ _ (⟨none, Op.store 25 (.tmp 14) _, _, _, _, _⟩ :: _) _ _); refine wpList_store_row rfl 25 (.tmp 14) (.tmp 69) rfl w2.heap.size (shV Oi oi ocap Ol ol olc) rfl rfl 25 _ hrO (sizeSh _ _ _ _ _ _) rfl (one_sh _ _ _ _ _ _) ?_)
      | ((with_reducible show wpList _ _ _ (⟨none, Op.store 25 (.tmp 15) _, _, _, _, _⟩ :: _) _ _); refine wpList_store_row rfl 25 (.tmp 15) (.tmp 70) rfl (w2.heap.size + 1) (shV Ai ni ci Al nl cl) rfl rfl 25 _ hrA (sizeSh _ _ _ _ _ _) rfl (one_sh _ _ _ _ _ _) ?_))
    try simp only [Act.put]
    refine wp_gen (fun wx => Ms w2 wx [(w2.heap.size + 1, 25, shV Ai ni ci Al nl cl), (w2.heap.size, 25, shV Oi oi ocap Ol ol olc)]) hM ?_
    clear hB0 hB1 hrA hrO hM hcg
    rintro w3 hM
    have hold2 := hold1.trans (hb2'.mono hold1.size)
    have Hsz12 := Lib.hid hb2'.size
    have hb12 := hb2'
    clear hb2' hx hro hrn hrm
    by_cases hn0 : ni = 0
    case pos =>
      subst hn0
      have hold3 := hold2.trans (hM.old.mono hold2.size)
      clear hM
      go_wp2_with fail
      go_ret
      exact ⟨rfl, hold3⟩
    have hn1 : 0 < ni := by omega
    have hni := hS.hni
    have hfS := few_of_chk (chg_chk xs out inn)
    have hfO := few_of_chk (old_chk xs)
    have hn2 : ni ≤ 1000000 := by have := (chkT_lv (chg_chk xs out inn)).1; omega
    obtain ⟨r, d, zr, zw, zd, hdn⟩ := draw_at by_ ni hb1 hb2 hn1 hn2
    have hMd := hM.drew
    have c0 := (hMd.get 0 rfl).cell (i := 0) (v := .slice Ai ni ci) rfl
    have hSd := hS.below hMd.old
    obtain ⟨bS, oS, rfl, hbS, cS⟩ := rd_num hSd.hids hdn
    have hby : (chgT xs out inn).1.1.getD d 0 ∈ (chgT xs out inn).1.1 := by
      rw [getD_at (List.getElem?_eq_getElem (show d < (chgT xs out inn).1.1.length by omega))]
      exact List.getElem_mem _
    have hby64 := okI_i64 (chg_chk xs out inn) hby
    obtain ⟨hmk, hmo, hms⟩ := chg_make (kind := kind) Hk.out xs out inn hby
    generalize (chgT xs out inn).1.1.getD d 0 = by2 at *
    have zn0 : ¬ (ni : Int) = 0 := by omega
    have zn1 : ((ni : Int) == 0) = false := by simpa using zn0
    have zdd : (d : Int) < (ni : Int) := by omega
    have znp : (0 : Int) < (ni : Int) := by omega
    go_upto_region 9 with fail
    try simp only [Act.put]
    refine wp_region_still_lit (by kernel_rfl) (by kernel_rfl) ?_
    repeat (with_reducible refine wpStill_step (fun K hK => ?_); go_simp; with_reducible refine hK _ ?_; clear hK K)
    with_reducible refine wpStill_nil ?_
    change Exit.then _ _ Exit.normal _ w3.drew
    have hownd := own_below hown hMd.old
    have hOd := hO.below (hMd.old.mono hOe)
    have hAd := hA.below (hMd.old.mono hAe)
    have hMw : Ms w1 w3.drew [(w2.heap.size + 1, 25, shV (some ⟨bS, oS, none⟩) ni ci Al nl cl), (w2.heap.size, 25, shV Oi oi ocap Ol ol olc)] := ⟨hb12.trans (hMd.old.mono hb12.size), hMd.rows⟩
    have hzd := hMd.old.size
    clear hM hMd c0 hSd cS hown hO hA
    generalize w3.drew = w4 at *
    have hlT : ((chgT xs out inn).2 ++ more).length = nt := by have := (Rd.of_own hownd).len; rwa [List.length_map] at this
    have hcl := chg_len xs out inn
    rw [Hol.out, Hil.out] at hcl
    rw [List.length_append, Hml.out] at hlT
    have hnt : nt ≤ 120 := by omega
    have hT64 := Lib.hid (show ∀ x ∈ (chgT xs out inn).2 ++ more, I64 x from fun x hx => (List.mem_append.1 hx).elim (chg_i64 xs out inn x) (hm64 x))
    generalize (chgT xs out inn).2 ++ more = tl at *
    generalize (chgT xs out inn).1.1 = ids at *
    generalize (chgT xs out inn).1.2 = ll at *
    generalize (oldS xs).1 = oids at *
    generalize (oldS xs).2 = oll at *
    have hal := d_al w4 (.cells #[.int .i64 by2] 3)
    have hownA := own_below hownd hal
    have hMA := hMw.call hal
    have hOA := hOd.below (hal.mono (Nat.le_trans hOe hzd))
    have hAA := hAd.below (hal.mono (Nat.le_trans hAe hzd))
    have hzA : (w4.alloc (.cells #[.int .i64 by2] 3)).heap.size = w4.heap.size + 1 := by simp
    have hw14 : w1.heap.size ≤ w4.heap.size := Nat.le_trans hb12.size hzd
    have Hcl := Lib.hid hcl
    have HlT := Lib.hid hlT
    clear hownd hOd hAd hMw hal hcl hlT
    go_upto_region 11 with (at_builtin; refine wpList_append_rd _ rfl (.tmp 93) (.tmp 95) _ rfl w1.heap.size 3 i0 _ 8 Try.underlying22 hi0 hz0 hz1 hz2 rfl (.slice At nt ct) nt _ rfl hownA (w4.heap.size + 1) (some ⟨w4.heap.size, 0, none⟩) 1 1 [iv by2] rfl (Rd.mk_ _ _ _ rfl (by omega) rfl rfl) (by intro u hu; simp at hu; subst hu; rfl) (by simp only [maxLen]; omega) (by omega) (by rw [hzA]; omega) ?_; intro v6 w6 hown6 hgr6 hat6)
    try simp only [Act.put]
    have hM6 := hMA.grownT hgr6 (own_blockT hownA) (fun p hp q hq e => by
      obtain ⟨cs, hcs⟩ := own_tyT hownA hq
      rw [← e] at hcs
      simp only [List.mem_cons, List.not_mem_nil, or_false] at hp
      rcases hp with rfl | rfl
      · exact sh_ne.1 (ty_neT (hMA.get 0 rfl) hcs)
      · exact sh_ne.1 (ty_neT (hMA.get 1 rfl) hcs))
    have hz6 := hgr6.size
    rw [hzA] at hz6
    have hO6 := ((hOA.grownS hgr6 (by rw [hzA]; omega) (fun g hg => (hsp g hg).1)).sh).more (B' := w6.heap.size) (by omega)
    have hA6 := ((hAA.grownS hgr6 (by rw [hzA]; omega) (fun g hg => (hsp g hg).2)).sh).more (B' := w6.heap.size) (by omega)
    obtain ⟨A6, c6, rfl, hc6, hm6⟩ := own_formT hown6
    have hR6 : Rd w6 w6.heap.size A6 (nt + 1) ((tl ++ [by2]).map iv) := by rw [List.map_append]; exact Rd.of_own hown6
    have Hz6 := Lib.hid hz6
    clear hown6 hgr6 hat6 hMA hOA hAA hownA hzA hz6
    have hmkc := PMake_any kind Oi oi ocap Ol ol olc oids oll (some ⟨bS, oS, none⟩) ni ci Al nl cl ids ll A6 (nt + 1) c6 (tl ++ [by2]) by2 w6 hO6 hA6 hfO hfS hR6 (by simp only [maxLen]; omega) (fun _ x hx => by
      rcases List.mem_append.1 hx with hx | hx
      · exact hT64.out x hx
      · rw [List.mem_singleton] at hx; rw [hx]; exact hby64) hby64
    go_wp2_with (first
      | ((with_reducible show wpList _ _ _ (⟨some 99, _, _, _, _, _⟩ :: _) _ _); refine wpList_loadC (by kernel_rfl) 25 (.tmp 14) rfl w2.heap.size rfl 25 (shV Oi oi ocap Ol ol olc) _ (hM6.get 1 rfl) Try.underlying25 rfl shapeInfo2 ?_)
      | ((with_reducible show wpList _ _ _ (⟨some 100, _, _, _, _, _⟩ :: _) _ _); refine wpList_loadC (by kernel_rfl) 25 (.tmp 15) rfl (w2.heap.size + 1) rfl 25 (shV (some ⟨bS, oS, none⟩) ni ci Al nl cl) _ (hM6.get 0 rfl) Try.underlying25 rfl shapeInfo2 ?_))
    refine hmkc.mono ?_
    rintro e w7 ⟨hb7, Ak, nk, ck, As, ns, cs, he, hPl⟩
    subst he
    have hM7 := ((Ms.nil w6).call hb7).put 28 zP (plV Ak nk ck As ns cs)
    have hB5 := below_setRow ((Below.refl w7.heap.size w7).alloc (Nat.le_refl _) (.cells zP 28)) (Nat.le_refl _) (plV Ak nk ck As ns cs)
    have hPl5 := hPl.below hB5
    have hrO := hM6.get 1 rfl
    have hrA := hM6.get 0 rfl
    have hold6 := hold1.trans (hM6.old.mono hold1.size)
    clear hmkc hb7 hPl hM6
    go_upto_region 12 with ((with_reducible show wpList _ _ _ (⟨none, Op.store 28 _ _, _, _, _, _⟩ :: _) _ _); refine wpList_store_row rfl 28 (.tmp 18) (.tmp 104) rfl w7.heap.size (plV Ak nk ck As ns cs) rfl rfl 28 zP (RowC.new _ _ _) plInfo2 rfl (by simp [plV, Value.oneCell']) ?_)
    try simp only [Act.put]
    obtain ⟨g2, hg2⟩ : ∃ g, g = w7.heap.size := ⟨_, rfl⟩
    rw [← hg2] at hM7 hPl5 ⊢
    refine wp_gen (fun wx => Ms w6 wx [(g2, 28, plV Ak nk ck As ns cs)] ∧ PlR wx g2 Ak nk ck As ns cs (keepM kind oids oll ids ll (tl ++ [by2]) by2) (stepsM kind oids oll ids ll (tl ++ [by2]) by2)) ⟨hM7, hPl5⟩ ?_
    clear hM7 hPl5 hB5 hg2
    rintro w8 ⟨hM8, hPl⟩
    have hb8 := hM8.old
    have hnO := PNodes_any kind Oi oi ocap Ol ol olc oids oll w8 ((hO6.below hb8).more hb8.size) hfO
    go_wp2_with ((with_reducible show wpList _ _ _ (⟨some 108, _, _, _, _, _⟩ :: _) _ _); refine wpList_loadC (by kernel_rfl) 25 (.tmp 14) rfl w2.heap.size rfl 25 (shV Oi oi ocap Ol ol olc) _ (hrO.call hb8) Try.underlying25 rfl shapeInfo2 ?_)
    refine hnO.mono ?_
    rintro e w9 ⟨hb9, Ba, ma, da, he, hNa⟩
    subst he
    have hM9 := hM8.call hb9
    have hPl9 := hPl.below (hb9.mono (Nat.le_of_lt (hM8.get 0 rfl).lt))
    clear hM8 hPl hb8 hnO
    have hb9' := hM9.old
    have hnS := PNodes_any kind (some ⟨bS, oS, none⟩) ni ci Al nl cl ids ll w9 ((hA6.below hb9').more hb9'.size) hfS
    go_wp2_with ((with_reducible show wpList _ _ _ (⟨some 114, _, _, _, _, _⟩ :: _) _ _); refine wpList_loadC (by kernel_rfl) 25 (.tmp 15) rfl (w2.heap.size + 1) rfl 25 (shV (some ⟨bS, oS, none⟩) ni ci Al nl cl) _ (hrA.call hb9') Try.underlying25 rfl shapeInfo2 ?_)
    refine hnS.mono ?_
    rintro e wA ⟨hbA, Bb, mb, db, he, hNb⟩
    subst he
    have hMA := hM9.call hbA
    have hPlA := hPl9.below (hbA.mono (Nat.le_of_lt (hM9.get 0 rfl).lt))
    have hNa1 := (hNa.below hbA).more hbA.size
    clear hM9 hPl9 hb9' hnS hNa hb9
    rw [show makeE kind oids oll ids ll by2 = 0 by rw [makeE, hmk]; rfl, show mayE kind oids oll = 0 by rw [mayE, hmo]; rfl, show mayE kind ids ll = 0 by rw [mayE, hms]; rfl]
    rw [show keepM kind oids oll ids ll (tl ++ [by2]) by2 = keepU kind oids oll ids ll (tl ++ [by2]) by2 by rw [keepM, hmk]; rfl] at hPlA
    obtain ⟨ew, NFw⟩ := nf_was hmo
    obtain ⟨es, NFs⟩ := nf_was hms
    rw [ew] at hNa1
    rw [es] at hNb
    have hlw := nodesU_len kind oids oll
    have hls := nodesU_len kind ids ll
    have HL := Lib.hid (show oids.length ≤ 1000 ∧ ids.length ≤ 1000 from ⟨by rw [mayB, Bool.and_eq_true] at hmo; exact (chkT_lv hmo.2).1, by rw [mayB, Bool.and_eq_true] at hms; exact (chkT_lv hms.2).1⟩)
    rw [ew, List.length_map] at hlw
    rw [es, List.length_map] at hls
    have KF : KPF oids ids (tl ++ [by2]) (keepU kind oids oll ids ll (tl ++ [by2]) by2) (wasU kind ids ll) (wasU kind oids oll) := kpf_facts NFw NFs
    generalize keepU kind oids oll ids ll (tl ++ [by2]) by2 = kp at *
    generalize wasU kind ids ll = now at *
    generalize wasU kind oids oll = was at *
    have hnb : now.length = mb := by have := hNb.len; rwa [List.length_map] at this
    have hna : was.length = ma := by have := hNa1.len; rwa [List.length_map] at this
    have hnk : kp.length = nk := by have := hPlA.keep.len; rwa [List.length_map] at this
    have hkb : nk = mb := by rw [← hnk, KF.klen, hnb]
    subst hkb
    have hrP := hMA.get 0 rfl
    have hgA := hrP.lt
    have c0 := hrP.cell (i := 0) (v := .slice Ak nk ck) rfl
    have hPlB := hPlA.more (Nat.le_of_lt hgA)
    have hmm := @run_makeMap Try.prog
    have hnk2 : nk ≤ 2000 := by omega
    have hma2 : ma ≤ 2000 := by omega
    have Hnb := Lib.hid hnb
    have Hna := Lib.hid hna
    have Hnk := Lib.hid hnk
    have HK := Lib.hid KF
    have hcP := hPlB.kcap
    have hcA := hNa1.cap
    have hcB := hNb.cap
    unfold maxLen at hcP hcA hcB
    have holdA := hold6.trans (hMA.old.mono hold6.size)
    have hOA := (hO6.below hMA.old).hids
    have hSA := (hA6.below hMA.old).hids
    have hTA := hR6.below hMA.old
    have hw6A := hMA.old.size
    have hrO1 := hrO.call hMA.old
    have hrA1 := hrA.call hMA.old
    have Hbx := Lib.hid (show oids.length = oi ∧ ids.length = ni from ⟨hO6.hni, hA6.hni⟩)
    clear ew es NFw NFs hlw hls KF hnb hna hnk hMA hPlA hO6 hA6 hR6 hrO hrA hfO hfS hmk hmo hms hold1 hold2 hold6 hbA
    go_upto_region 17 with fail
    try simp only [Act.put]
    obtain ⟨gM, hgM⟩ : ∃ g, g = wA.heap.size := ⟨_, rfl⟩
    have hSM0 := SetM.made wA
    rw [← hgM] at hSM0 ⊢
    refine wp_gen (fun wx => Below wA.heap.size wA wx ∧ SetM wx gM 0 []) ⟨d_al wA _, hSM0⟩ ?_
    have HgM := Lib.hid hgM
    clear hSM0 hmm c0 hgM
    rintro wB ⟨hbB, hSB⟩
    have c0 := (hrP.call hbB).cell (i := 0) (v := .slice Ak nk ck) rfl
    have HbB := Lib.hid hbB
    have HSB := Lib.hid hSB
    clear hbB hSB
    go_wp2_with fail
    go_loopw [140] (fun v140 wr => ∃ (i n : Nat), i ≤ nk ∧ v140 = .int .i64 (i : Int) ∧ n ≤ i ∧ SetM wr gM n (usedL kp i) ∧ Below wA.heap.size wA wr) (fun v140 _ => nk - (intOf v140).toNat)
    case atStart => exact ⟨0, 0, by omega, rfl, Nat.le_refl _, HSB.out, HbB.out⟩
    case round =>
      clear HSB HbB c0
      obtain ⟨i, n, hi, rfl, hni', hSet, hb⟩ := hrel
      by_cases hin : i < nk
      · have hiL : i < now.length := by rw [Hnb.out]; exact hin
        have hx := List.getElem?_eq_getElem hiL
        have hkp := kpA_get (kp := kp) (i := i) (by rw [Hnk.out]; exact hin)
        have hT := HK.out.told i _ hx
        have hfr := HK.out.fresh i
        have hrx := hNb.range (k := i) (x := (now[i]).i) (by rw [List.getElem?_map, hx]; rfl)
        generalize now[i] = x at *
        have zi : (i : Int) < (nk : Int) := by omega
        obtain ⟨bk, ok, rfl, hbk, hck⟩ := rd_num (hPlB.keep.below hb) hin
        rw [← kpA] at hck
        rcases hT with h | ⟨q, y, h1, h2, hwd, hx1, hx2, hy1, hy2, hmem, hkid⟩
        · rw [h] at hck hkp
          have Hno := Lib.hid (used_skip hkp (by omega))
          have HS := Lib.hid hSet
          have Hb := Lib.hid hb
          clear hSet hb hfr hrx hx
          go_wp2_with fail
          go_roundw
          case rel => exact ⟨i + 1, n, by omega, by go_num, by omega, by rw [Hno.out]; exact HS.out, Hb.out⟩
          case measure => simp [intOf]; omega
        · rw [h1] at hck hkp
          have hql : q < ma := by have := (List.getElem?_eq_some_iff.1 h2).1; rw [Hna.out] at this; exact this
          have hfq := hfr q (by rw [Hnk.out]; exact hin) h1
          have Hys := Lib.hid (used_put hkp (Int.natCast_nonneg q))
          have hbd := c_drew hb
          obtain ⟨ba, oa, Ay, cy, rfl, hba, hrgA, _, _, _⟩ := hNa1.range (k := q) (x := y.i) (by rw [List.getElem?_map, h2]; rfl)
          obtain ⟨bb, ob, Au, cu, rfl, hbb, hrgB, hcu, hmu, hku⟩ := hrx
          have hcy : ∀ wx : World, Below wA.heap.size wA wx → wx.cell? ⟨ba, oa + q * 7 + 3, none⟩ = some (.int .i64 (y.fr : Nat)) ∧ wx.cell? ⟨ba, oa + q * 7 + 4, none⟩ = some (.int .i64 (y.to : Nat)) := fun wx h => ⟨(rangeK hrgA hba h) 3 _ rfl, (rangeK hrgA hba h) 4 _ rfl⟩
          have hcx : ∀ wx : World, Below wA.heap.size wA wx → wx.cell? ⟨bb, ob + i * 7 + 3, none⟩ = some (.int .i64 (x.fr : Nat)) ∧ wx.cell? ⟨bb, ob + i * 7 + 4, none⟩ = some (.int .i64 (x.to : Nat)) ∧ wx.cell? ⟨bb, ob + i * 7 + 5, none⟩ = some (.slice Au x.i.kids.length cu) := fun wx h => ⟨(rangeK hrgB hbb h) 3 _ rfl, (rangeK hrgB hbb h) 4 _ rfl, (rangeK hrgB hbb h) 5 _ rfl⟩
          unfold maxLen at hmu
          have hku2 : Rd wA wA.heap.size Au x.i.kids.length ((castL x.kids).map iv) := hku
          have Hkl := Lib.hid (show x.kids.length = x.i.kids.length from (castL_len x.kids).symm)
          generalize x.i.kids.length = kl at *
          obtain ⟨p3, p4⟩ := hcy _ hbd
          obtain ⟨r3, r4, _⟩ := hcx _ hbd
          have Hcx := Lib.hid hcx
          have Hcy := Lib.hid hcy
          clear hrgA hrgB hku hcx hcy hba hbb
          have hSd : SetM wr.drew gM n (usedL kp i) := hSet.below (c_drew (c_refl wr)) hSet.lt
          have hlk := hSd.look (x := (q : Int)) ⟨by omega, by omega⟩
          rw [decide_eq_false hfq] at hlk
          have hon : oids.length ≤ 1000 ∧ ids.length ≤ 1000 := HL.out
          obtain ⟨W, hW⟩ : ∃ W, W = x.to - x.fr := ⟨_, rfl⟩
          have zw1 : IntKind.i64.wrap ((y.to : Int) - (y.fr : Int)) = (W : Int) := by rw [IntKind.wrap_i64]; omega
          have zw2 : IntKind.i64.wrap ((x.to : Int) - (x.fr : Int)) = (W : Int) := by rw [IntKind.wrap_i64]; omega
          have zq1 : ¬ (q : Int) < 0 := by omega
          have zq2 : ¬ (ma : Int) ≤ (q : Int) := by omega
          have zq3 : (q : Int) < (ma : Int) := by omega
          have zq4 : (0 : Int) ≤ (q : Int) := by omega
          have zd1 : decide ((q : Int) < 0) = false := decide_eq_false zq1
          have zd2 : decide ((ma : Int) ≤ (q : Int)) = false := decide_eq_false zq2
          have Hbd := Lib.hid hbd
          have HSd := Lib.hid hSd
          clear hSet hb hSd hbd hx hfr
          go_upto_region 21 with fail
          try simp only [Act.put]
          refine wp_region_still_lit (by kernel_rfl) (by kernel_rfl) ?_
          repeat (with_reducible refine wpStill_step (fun K hK => ?_); go_simp; with_reducible refine hK _ ?_; clear hK K)
          with_reducible refine wpStill_nil ?_
          change Exit.then _ _ Exit.normal _ wr.drew
          generalize wr.drew = wC at *
          clear p3 p4 r3 r4 hlk
          obtain ⟨wE, hrun, hSE, hgE⟩ := HSd.out.put (x := (q : Int)) ⟨by omega, by omega⟩ (by simp only [maxLen]; omega) hfq (s' := usedL kp (i + 1)) (by rw [Hys.out, List.length_append]; rfl) (fun z => by rw [Hys.out, List.mem_append, List.mem_singleton, or_comm])
          have hbE := Hbd.out.grown hgE Hbd.out.size (fun k hk => by injection hk with hk; exact Nat.le_of_eq (by rw [← hk, HgM.out]))
          clear hgE
          go_upto_region 24 with fail
          try simp only [Act.put]
          refine wp_gen (fun wx => Below wA.heap.size wA wx ∧ SetM wx gM (n + 1) (usedL kp (i + 1))) ⟨hbE, hSE⟩ ?_
          clear hbE hSE hrun HSd Hbd hfq
          rintro wF ⟨hbF, hSF⟩
          have hbG := c_drew hbF
          have hSG := hSF.below (c_drew (c_refl wF)) hSF.lt
          obtain ⟨r3, r4, _⟩ := Hcx.out _ hbG
          clear hbF hSF
          have HbG := Lib.hid hbG
          have HSG := Lib.hid hSG
          clear hbG hSG
          refine wp_region_still_lit (by kernel_rfl) (by kernel_rfl) ?_
          repeat (with_reducible refine wpStill_step (fun K hK => ?_); go_simp; with_reducible refine hK _ ?_; clear hK K)
          with_reducible refine wpStill_nil ?_
          change Exit.then _ _ Exit.normal _ wF.drew
          generalize wF.drew = wG at *
          clear r3 r4
          go_wp2_with fail
          go_loopw [194] (fun v194 wx => ∃ t : Nat, t ≤ W ∧ v194 = .int .i64 (t : Int) ∧ Below wA.heap.size wA wx ∧ SetM wx gM (n + 1) (usedL kp (i + 1))) (fun v194 _ => W - (intOf v194).toNat)
          case atStart => exact ⟨0, by omega, rfl, HbG.out, HSG.out⟩
          case round =>
            clear HbG HSG
            obtain ⟨t, ht, rfl, hbt, hSt⟩ := hrel
            by_cases htW : t < W
            · have hmt := hmem t (by omega)
              obtain ⟨pS, hpS⟩ : ∃ p, p = x.fr + t := ⟨_, rfl⟩
              obtain ⟨pO, hpO⟩ : ∃ p, p = y.fr + t := ⟨_, rfl⟩
              rw [← hpS, ← hpO] at hmt
              have zp1 : IntKind.i64.wrap ((x.fr : Int) + (t : Int)) = (pS : Int) := by rw [IntKind.wrap_i64]; omega
              have zp2 : IntKind.i64.wrap ((y.fr : Int) + (t : Int)) = (pO : Int) := by rw [IntKind.wrap_i64]; omega
              have hps : pS < ni := by have := Hbx.out.2; omega
              have hpo : pO < oi := by have := Hbx.out.1; omega
              have zp3 : (pS : Int) < (ni : Int) := by omega
              have zp4 : (pO : Int) < (oi : Int) := by omega
              have zt : (t : Int) < (W : Int) := by omega
              have hb1 := c_drew hbt
              have hb2 := c_drew hb1
              have HS2 := Lib.hid ((hSt.below (c_drew (c_refl wr)) hSt.lt).below (c_drew (c_refl wr.drew)) (hSt.below (c_drew (c_refl wr)) hSt.lt).lt)
              have Hb2 := Lib.hid hb2
              have q0 := (hrA1.call hb1).cell (i := 0) (v := .slice (some ⟨bS, oS, none⟩) ni ci) rfl
              obtain ⟨_, _, e1, _, q1⟩ := rd_num (hSA.below (hb1.mono hw6A)) hps
              injection e1 with e1
              injection e1 with e1 e2
              subst e1 e2
              obtain ⟨r3, _, _⟩ := Hcx.out _ hb1
              have q2 := (hrO1.call hb2).cell (i := 0) (v := .slice Oi oi ocap) rfl
              obtain ⟨bO, oO, rfl, _, q3⟩ := rd_num (hOA.below (hb2.mono hw6A)) hpo
              obtain ⟨p3, _⟩ := Hcy.out _ hb2
              rw [hmt.1] at q3
              obtain ⟨idv, hidv⟩ : ∃ v, v = ids.getD pS 0 := ⟨_, rfl⟩
              rw [← hidv] at hmt q1 q3
              have hnm := hmt.2
              clear hidv hmt hbt hSt hb1 hb2 hpS hpO
              go_upto_region 27 with fail
              try simp only [Act.put]
              refine wp_region_still_lit (by kernel_rfl) (by kernel_rfl) ?_
              repeat (with_reducible refine wpStill_step (fun K hK => ?_); go_simp; with_reducible refine hK _ ?_; clear hK K)
              with_reducible refine wpStill_nil ?_
              change Exit.then _ _ Exit.normal _ wr.drew
              generalize wr.drew = wy at *
              clear q0 q1 r3
              go_upto_region 28 with fail
              try simp only [Act.put]
              refine wp_region_still_lit (by kernel_rfl) (by kernel_rfl) ?_
              repeat (with_reducible refine wpStill_step (fun K hK => ?_); go_simp; with_reducible refine hK _ ?_; clear hK K)
              with_reducible refine wpStill_nil ?_
              change Exit.then _ _ Exit.normal _ wy.drew
              generalize wy.drew = wz at *
              clear q2 q3 p3
              go_wp2_with fail
              go_loopw [223] (fun v223 wv => ∃ u : Nat, u ≤ nt + 1 ∧ v223 = .int .i64 (u : Int) ∧ wv = wz) (fun v223 _ => nt + 1 - (intOf v223).toNat)
              case atStart => exact ⟨0, by omega, rfl, rfl⟩
              case round =>
                obtain ⟨u, hu, rfl, rfl⟩ := hrel
                by_cases hun : u < nt + 1
                · obtain ⟨bt, ot, rfl, _, q4⟩ := rd_numT (hTA.below (Hb2.out.mono hw6A)) hun
                  have hne : (((tl ++ [by2]).getD u 0) == idv) = false := by
                    rw [beq_eq_false_iff_ne]
                    intro h
                    have hl : u < (tl ++ [by2]).length := by have := hTA.len; rw [List.length_map] at this; omega
                    rw [getD_at (List.getElem?_eq_getElem hl)] at h
                    exact hnm (h ▸ List.getElem_mem hl)
                  have hne2 : ¬ ((tl ++ [by2]).getD u 0) = idv := by simpa using hne
                  generalize (tl ++ [by2]).getD u 0 = tv at *
                  have zu : (u : Int) < ((nt + 1 : Nat) : Int) := by omega
                  have zu2 : (u : Int) < (nt : Int) + 1 := by omega
                  go_wp2_with fail
                  go_roundw
                  case rel => exact ⟨u + 1, by omega, by go_num, trivial⟩
                  case measure => simp [intOf]; omega
                · obtain rfl : u = nt + 1 := by omega
                  go_wp2_with fail
                  go_roundw
                  case rel => exact ⟨t + 1, by omega, by go_num, Hb2.out, HS2.out⟩
                  case measure => simp [intOf]; omega
            · obtain rfl : t = W := by omega
              obtain ⟨_, _, r5⟩ := Hcx.out _ hbt
              have q0 := (hrP.call hbt).cell (i := 0) (v := .slice (some ⟨bk, ok, none⟩) nk ck) rfl
              have Hbt := Lib.hid hbt
              have HSt := Lib.hid hSt
              clear hbt hSt
              go_wp2_with fail
              go_loopw [238] (fun v238 wv => ∃ u : Nat, u ≤ kl ∧ v238 = .int .i64 (u : Int) ∧ wv = wr) (fun v238 _ => kl - (intOf v238).toNat)
              case atStart => exact ⟨0, by omega, rfl, rfl⟩
              case round =>
                obtain ⟨u, hu, rfl, rfl⟩ := hrel
                by_cases huk : u < kl
                · have hul : u < x.kids.length := by rw [Hkl.out]; exact huk
                  obtain ⟨hc1, hc2⟩ := hkid _ (List.getElem_mem hul)
                  obtain ⟨bu, ou, rfl, _, q4⟩ := rd_num (hku2.below Hbt.out) huk
                  rw [show (castL x.kids).getD u 0 = ((x.kids[u] : Nat) : Int) from getD_at (by rw [castL, List.getElem?_map, List.getElem?_eq_getElem hul]; rfl)] at q4
                  generalize x.kids[u] = c at *
                  rw [Hnb.out] at hc1
                  obtain ⟨_, _, e1, _, q5⟩ := rd_num (hPlB.keep.below Hbt.out) hc1
                  injection e1 with e1
                  injection e1 with e1 e2
                  subst e1 e2
                  rw [← kpA] at q5
                  generalize kpA kp c = kc at *
                  have zc1 : (c : Int) < (nk : Int) := by omega
                  have zc2 : ¬ kc < 0 := by omega
                  have zc3 : decide (kc < 0) = false := decide_eq_false zc2
                  have zu : (u : Int) < (kl : Int) := by omega
                  go_wp2_with fail
                  go_roundw
                  case rel => exact ⟨u + 1, by omega, by go_num, trivial⟩
                  case measure => simp [intOf]; omega
                · obtain rfl : u = kl := by omega
                  go_wp2_with fail
                  go_roundw
                  case rel => exact ⟨i + 1, n + 1, by omega, by go_num, by omega, HSt.out, Hbt.out⟩
                  case measure => simp [intOf]; omega
      · obtain rfl : i = nk := by omega
        have hfin := holdA.trans (hb.mono holdA.size)
        clear hSet hb
        go_wp2_with fail
        go_ret
        exact ⟨rfl, hfin⟩
  have Hall := Lib.hid hall
  clear h6 hall
  rcases Hk.out with h | h
  · subst h
    clear Hk
    go_wp2_with fail
    exact Hall.out _ _ _ _ _ _ _ _ _ _ _ _ _ _ _ _ _ _ _ _ _ _ _ _ _ _ _ _ _
  · subst h
    clear Hk
    go_wp2_with fail
    exact Hall.out _ _ _ _ _ _ _ _ _ _ _ _ _ _ _ _ _ _ _ _ _ _ _ _ _ _ _ _ _
theorem walk_PlanKeeps (kind : Int) (Ax : Option Addr) (nx cx : Nat) (xs : List Int) (Ao : Option Addr) (no co : Nat) (out : List Int) (An : Option Addr) (nn cn : Nat) (inn : List Int) (Am : Option Addr) (nm cm : Nat) (more : List Int) (by_ : Int) (w : World)
    (_ : -9223372036854775808 ≤ kind) (_ : kind ≤ 9223372036854775807) (_ : nx ≤ cx) (_ : cx ≤ maxLen) (hx : Rd w w.heap.size Ax nx (xs.map iv)) (_ : no ≤ co) (_ : co ≤ maxLen) (hro : Rd w w.heap.size Ao no (out.map iv)) (_ : nn ≤ cn) (_ : cn ≤ maxLen) (hrn : Rd w w.heap.size An nn (inn.map iv)) (_ : nm ≤ cm) (_ : cm ≤ maxLen) (hrm : Rd w w.heap.size Am nm (more.map iv)) (hm64 : ∀ x ∈ more, I64 x) (hb1 : -9223372036854775808 ≤ by_) (hb2 : by_ ≤ 9223372036854775807) :
    Calls Try.prog 6 #[.int .i64 kind, .slice Ax nx cx, .slice Ao no co, .slice An nn cn, .slice Am nm cm, .int .i64 by_] w fun e w' => e = .returned (.bool true) ∧ Below w.heap.size w w' :=
  core_PlanKeeps kind Ax nx cx xs Ao no co out An nn cn inn Am nm cm more by_ w hx hro hrn hrm hm64 hb1 hb2
end Go.Proofs.Ytmganbdbihjbmaa


