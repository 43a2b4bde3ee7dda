import Derived.Test.YtmganbdbihjbmaaK43
import Derived.Test.YtmganbdbihjbmaaK44
import Derived.Test.YtmganbdbihjbmaaK30
/-
  PLANS (layer 12): the steps by their places; ways up; nothing changed but by one; all touched: pure facts.
-/
set_option linter.unusedVariables false
namespace Go.Proofs.Ytmganbdbihjbmaa

theorem stepsT_append (now : List RN) (kp : List Int) (at_ : Nat) : ∀ (i : Nat) (a b : List RN), stepsT now kp at_ i (a ++ b) = stepsT now kp at_ i a ++ stepsT now kp at_ (i + a.length) b
  | i, [], b => by simp [stepsT]
  | i, x :: a, b => by
    rw [List.cons_append, stepsT, stepsT_append now kp at_ (i + 1) a b, stepsT, List.length_cons, show i + 1 + a.length = i + (a.length + 1) by omega]
    split <;> simp
/-- the steps ahead of a place, and the one that stands there -/
theorem stepsT_at {now : List RN} {kp : List Int} {at_ i : Nat} {x : RN} (hx : now[i]? = some x) (hs : isStep kp i x = true) : (stepsT now kp at_ 0 now)[(stepsT now kp at_ 0 (now.take i)).length]? = some (stepT now kp at_ i x) := by
  have e := stepsT_append now kp at_ 0 (now.take (i + 1)) (now.drop (i + 1))
  rw [List.take_append_drop, stepsT_take hx, if_pos hs] at e
  rw [e, List.append_assoc, List.getElem?_append_right (Nat.le_refl _), Nat.sub_self]
  rfl
theorem stepsT_lt {now : List RN} {kp : List Int} {at_ i : Nat} {x : RN} (hx : now[i]? = some x) (hs : isStep kp i x = true) : (stepsT now kp at_ 0 (now.take i)).length < (stepsT now kp at_ 0 now).length := (List.getElem?_eq_some_iff.1 (stepsT_at (at_ := at_) hx hs)).1
def posT (kp : List Int) : Nat → List RN → List Nat
  | _, [] => []
  | i, x :: l => if isStep kp i x = true then i :: posT kp (i + 1) l else posT kp (i + 1) l
def stepK (now : List RN) (kp : List Int) (at_ k : Nat) : SI := match now[k]? with
  | some x => stepT now kp at_ k x
  | none => ⟨0, 0, []⟩
theorem stepK_at {now : List RN} {kp : List Int} {at_ k : Nat} {x : RN} (h : now[k]? = some x) : stepK now kp at_ k = stepT now kp at_ k x := by rw [stepK, h]
theorem stepsT_pos (now : List RN) (kp : List Int) (at_ : Nat) : ∀ (i : Nat) (l : List RN), (∀ j x, l[j]? = some x → now[i + j]? = some x) → stepsT now kp at_ i l = (posT kp i l).map (stepK now kp at_)
  | i, [], _ => rfl
  | i, x :: l, h => by
    have h0 := h 0 x rfl
    have hl := stepsT_pos now kp at_ (i + 1) l (fun j y hy => by
      have := h (j + 1) y (by simpa using hy)
      rwa [show i + (j + 1) = i + 1 + j by omega] at this)
    rw [stepsT, posT, hl]
    split
    · rw [List.map_cons, stepK_at (x := x) (by simpa using h0)]
    · rfl
theorem stepsT_all (now : List RN) (kp : List Int) (at_ : Nat) : stepsT now kp at_ 0 now = (posT kp 0 now).map (stepK now kp at_) := stepsT_pos now kp at_ 0 now (fun j x h => by rw [Nat.zero_add]; exact h)
theorem posT_mem (kp : List Int) : ∀ (i : Nat) (l : List RN) (k : Nat), k ∈ posT kp i l ↔ ∃ j x, k = i + j ∧ l[j]? = some x ∧ isStep kp k x = true
  | i, [], k => by simp [posT]
  | i, x :: l, k => by
    have ih := posT_mem kp (i + 1) l k
    rw [posT]
    constructor
    · intro h
      by_cases hs : isStep kp i x = true
      · rw [if_pos hs] at h
        rcases List.mem_cons.1 h with rfl | h
        · exact ⟨0, x, rfl, rfl, hs⟩
        · obtain ⟨j, y, e, hy, hyy⟩ := ih.1 h
          exact ⟨j + 1, y, by omega, by simpa using hy, hyy⟩
      · rw [if_neg hs] at h
        obtain ⟨j, y, e, hy, hyy⟩ := ih.1 h
        exact ⟨j + 1, y, by omega, by simpa using hy, hyy⟩
    · rintro ⟨j, y, e, hy, hyy⟩
      cases j with
      | zero =>
        have hy := Option.some.inj hy
        subst hy
        rw [Nat.add_zero] at e
        subst e
        rw [if_pos hyy]
        simp
      | succ j =>
        have := ih.2 ⟨j, y, by omega, by simpa using hy, hyy⟩
        split
        · exact List.mem_cons_of_mem _ this
        · exact this
theorem posT_in {kp : List Int} {now : List RN} {k : Nat} : k ∈ posT kp 0 now ↔ ∃ x, now[k]? = some x ∧ isStep kp k x = true := by
  rw [posT_mem]
  constructor
  · rintro ⟨j, x, e, hx, hs⟩
    have : j = k := by omega
    subst this
    exact ⟨x, hx, hs⟩
  · rintro ⟨x, hx, hs⟩
    exact ⟨k, x, by omega, hx, hs⟩
theorem posT_rise (kp : List Int) : ∀ (i : Nat) (l : List RN), (posT kp i l).Pairwise (· < ·)
  | i, [] => List.Pairwise.nil
  | i, x :: l => by
    have ih := posT_rise kp (i + 1) l
    rw [posT]
    split
    · refine List.Pairwise.cons (fun k hk => ?_) ih
      obtain ⟨j, y, e, _, _⟩ := (posT_mem kp (i + 1) l k).1 hk
      omega
    · exact ih
theorem sorted_eq : ∀ (A B : List Nat), A.Pairwise (· < ·) → B.Pairwise (· < ·) → (∀ k, k ∈ A ↔ k ∈ B) → A = B
  | [], [], _, _, _ => rfl
  | [], b :: B, _, _, h => by have := (h b).2 (by simp); simp at this
  | a :: A, [], _, _, h => by have := (h a).1 (by simp); simp at this
  | a :: A, b :: B, hA, hB, h => by
    obtain ⟨a1, a2⟩ := List.pairwise_cons.1 hA
    obtain ⟨b1, b2⟩ := List.pairwise_cons.1 hB
    have e : a = b := by
      rcases List.mem_cons.1 ((h a).1 (by simp)) with e | e
      · exact e
      · rcases List.mem_cons.1 ((h b).2 (by simp)) with e' | e'
        · exact e'.symm
        · have := b1 a e; have := a1 b e'; omega
    subst e
    rw [sorted_eq A B a2 b2 (fun k => ⟨fun hk => by
      rcases List.mem_cons.1 ((h k).1 (by simp [hk])) with e | e
      · have := a1 k hk; omega
      · exact e, fun hk => by
      rcases List.mem_cons.1 ((h k).2 (by simp [hk])) with e | e
      · have := b1 k hk; omega
      · exact e⟩)]
/-- from where a secret comes, and to whom it is sent -/
theorem stK_spec (known : Nat → Bool) {kids : List Nat} (hn : kids.Nodup) : ∀ j, j ≤ kids.length →
    (stK known (kids.take j)).2 = (kids.take j).filter (fun (k : Nat) => decide ((k : Int) ≠ (stK known (kids.take j)).1)) ∧
    (((stK known (kids.take j)).1 = -1 ∧ ∀ c ∈ kids.take j, known c = false) ∨ ∃ c ∈ kids.take j, (stK known (kids.take j)).1 = (c : Int) ∧ known c = true)
  | 0, _ => ⟨by simp [stK], .inl ⟨rfl, fun c hc => by simp at hc⟩⟩
  | j + 1, hj => by
    obtain ⟨h1, h2⟩ := stK_spec known hn j (by omega)
    have hjl : j < kids.length := hj
    have hk := List.getElem?_eq_getElem hjl
    have htk := List.take_succ_eq_append_getElem hjl
    have hout : kids[j] ∉ kids.take j := by
      have hn' := hn
      rw [← List.take_append_drop j kids, List.nodup_append] at hn'
      intro hm
      have hd : kids[j] ∈ kids.drop j := by
        have := List.mem_cons_self (a := kids[j]) (l := kids.drop (j + 1))
        rwa [← List.drop_eq_getElem_cons hjl] at this
      exact hn'.2.2 _ hm _ hd rfl
    rw [stK_take hk]
    generalize kids[j] = k at *
    generalize stK known (kids.take j) = st at *
    obtain ⟨f, sd⟩ := st
    simp only at h1 h2 ⊢
    by_cases hc : known k = true ∧ f = -1
    · rw [if_pos hc]
      obtain ⟨hc1, hc2⟩ := hc
      subst hc2
      refine ⟨?_, .inr ⟨k, by rw [htk]; simp, rfl, hc1⟩⟩
      rw [h1, htk, List.filter_append]
      have e1 : (kids.take j).filter (fun c : Nat => decide ((c : Int) ≠ -1)) = kids.take j := List.filter_eq_self.2 (fun c _ => decide_eq_true (by omega))
      have e2 : (kids.take j).filter (fun c : Nat => decide ((c : Int) ≠ (k : Int))) = kids.take j := List.filter_eq_self.2 (fun c hcm => decide_eq_true (fun e => hout (by rw [show k = c by omega]; exact hcm)))
      rw [e1, e2]
      simp
    · rw [if_neg hc]
      simp only
      have hkf : (k : Int) ≠ f := by
        rcases h2 with ⟨e, _⟩ | ⟨c, hcm, e, _⟩
        · rw [e]; omega
        · rw [e]; intro e'; exact hout (by rw [show k = c by omega]; exact hcm)
      refine ⟨by rw [h1, htk, List.filter_append]; simp [hkf], ?_⟩
      rcases h2 with ⟨e, ha⟩ | ⟨c, hcm, e, hkc⟩
      · refine .inl ⟨e, fun c hcm => ?_⟩
        rw [htk, List.mem_append, List.mem_singleton] at hcm
        rcases hcm with hcm | rfl
        · exact ha c hcm
        · rw [Bool.eq_false_iff]; exact fun h => hc ⟨h, e⟩
      · exact .inr ⟨c, by rw [htk]; simp [hcm], e, hkc⟩
theorem stK_all (known : Nat → Bool) {kids : List Nat} (hn : kids.Nodup) :
    (stK known kids).2 = kids.filter (fun (k : Nat) => decide ((k : Int) ≠ (stK known kids).1)) ∧ (((stK known kids).1 = -1 ∧ ∀ c ∈ kids, known c = false) ∨ ∃ c ∈ kids, (stK known kids).1 = (c : Int) ∧ known c = true) := by
  have := stK_spec known hn kids.length (Nat.le_refl _)
  rwa [List.take_length] at this
theorem count_one {c : Nat} : ∀ l : List Nat, l.Nodup → c ∈ l → l.count c = 1
  | [], _, h => by simp at h
  | x :: l, hn, h => by
    obtain ⟨h1, h2⟩ := List.nodup_cons.1 hn
    by_cases e : x = c
    · subst e
      rw [List.count_cons_self, List.count_eq_zero.2 h1]
    · rw [List.count_cons_of_ne e]
      exact count_one l h2 ((List.mem_cons.1 h).resolve_left (fun e' => e e'.symm))
/-- each of those below is sent to once, but the one from whom the secret comes -/
theorem stK_count (known : Nat → Bool) {kids : List Nat} (hn : kids.Nodup) {c : Nat} (hc : c ∈ kids) : ((stK known kids).1 = (c : Int) ∧ (stK known kids).2.count c = 0) ∨ ((stK known kids).1 ≠ (c : Int) ∧ (stK known kids).2.count c = 1) := by
  rw [(stK_all known hn).1]
  by_cases e : (stK known kids).1 = (c : Int)
  · refine .inl ⟨e, ?_⟩
    rw [List.count_eq_zero]
    intro h
    have := (List.mem_filter.1 h).2
    rw [e] at this
    simp at this
  · refine .inr ⟨e, ?_⟩
    rw [List.count_filter (by simpa using fun h => e h.symm)]
    exact count_one _ hn hc

section
variable {kind : Int} {ids : List Int} {L : List RN} {p : Nat} {P : List Nat}
theorem way_kid (hn : NF kind ids L) (hW : WayF L p P) {j : Nat} (hj : j + 1 < P.length) : ∃ x, L[P[j + 1]]? = some x ∧ P[j] ∈ x.kids := by
  obtain ⟨y, hy, hyu⟩ := chainP_at L (-1) P j hW.chain (by omega)
  rw [List.drop_eq_getElem_cons hj] at hyu
  simp only [nextU] at hyu
  rcases hn.up _ y hy with ⟨e, _⟩ | ⟨u, z, e, hz, hm⟩
  · omega
  · have : u = P[j + 1] := by omega
    subst this
    exact ⟨z, hz, hm⟩
theorem way_up (hn : NF kind ids L) (hW : WayF L p P) {k c : Nat} {x : RN} (hx : L[k]? = some x) (hc : c ∈ x.kids) {j : Nat} (hj : j < P.length) (e : c = P[j]) : ∃ hj1 : j + 1 < P.length, P[j + 1] = k := by
  obtain ⟨y, hy, hyu⟩ := chainP_at L (-1) P j hW.chain hj
  obtain ⟨y', hy', hyu', _⟩ := hn.kidUp hx hc
  rw [e, hy] at hy'
  have e' := Option.some.inj hy'
  subst e'
  rcases Nat.lt_or_ge (j + 1) P.length with h | h
  · rw [List.drop_eq_getElem_cons h] at hyu
    simp only [nextU] at hyu
    exact ⟨h, by omega⟩
  · rw [List.drop_eq_nil_of_le h] at hyu
    simp only [nextU] at hyu
    omega
theorem way_leaf (hn : NF kind ids L) (hW : WayF L p P) {k : Nat} {x : RN} (hx : L[k]? = some x) (h0 : x.lev = 0) : k ∈ P ↔ x.at_ = p := by
  constructor
  · intro hk
    obtain ⟨y, hy, hh⟩ := hW.has k hk
    rw [hx] at hy
    have e := Option.some.inj hy
    subst e
    have := hn.leafAt hx h0
    simp only [hasP, Bool.and_eq_true, decide_eq_true_eq] at hh
    omega
  · intro e
    obtain ⟨a, t, z, e1, e2, e3, e4, _⟩ := hW.first
    rw [leaf_one hn hx e2 h0 e3 (by omega), e1]
    simp
theorem way_lev (hn : NF kind ids L) (hW : WayF L p P) {j : Nat} (hj : j + 1 < P.length) {x : RN} (hx : L[P[j + 1]]? = some x) : ¬ x.lev = 0 := fun h0 => by
  obtain ⟨z, hz, hm⟩ := way_kid hn hW hj
  rw [hx] at hz
  have e := Option.some.inj hz
  subst e
  rw [(hn.kids0 hx).2 h0] at hm
  simp at hm
theorem way_first (hn : NF kind ids L) (hW : WayF L p P) (h0 : 0 < P.length) : ∃ x, L[P[0]]? = some x ∧ x.lev = 0 ∧ x.at_ = p := by
  obtain ⟨a, t, z, e1, e2, e3, e4, _⟩ := hW.first
  subst e1
  exact ⟨z, e2, e3, e4⟩
theorem gone_nil (id y : Int) : goneT [] id y = decide (y = id) := by simp [goneT]
/-- nothing changed but by one: the nodes of its way up are others, all else is what it was -/
theorem way_keep (hn : NF kind ids L) (hW : WayF L p P) (hp : p < ids.length) : ∀ (k : Nat) (x : RN), L[k]? = some x → kpA (keepT L ids (lfT L ids [] (ids.getD p 0)) L) k = if k ∈ P then -1 else (k : Int) := by
  intro k
  induction k using Nat.strongRecOn with
  | ind k ih =>
    intro x hx
    have hup := nf_up hn
    by_cases h0 : x.lev = 0
    · rw [keep_leaf hn hx h0]
      have hax := (hn.leafAt hx h0).2.2
      by_cases e : x.at_ = p
      · rw [if_pos ((way_leaf hn hW hx h0).2 e), e, lfT, gone_nil, if_pos (by simp)]
      · rw [if_neg (fun h => e ((way_leaf hn hW hx h0).1 h))]
        exact lfT_leaf hn hx h0 (by rw [gone_nil, decide_eq_false_iff_not]; exact fun h => e (rise_inj hn.rise hax hp h))
    · rw [keep_node hn hx h0]
      have hin : ∀ c ∈ x.kids, kpA (keepT L ids (lfT L ids [] (ids.getD p 0)) L) c = -1 ∨ ∃ q : Nat, kpA (keepT L ids (lfT L ids [] (ids.getD p 0)) L) c = (q : Int) ∧ q < L.length := fun c hc => by
        obtain ⟨y, hy, _, hlt⟩ := hn.kidUp hx hc
        rw [ih c hlt y hy]
        split
        · exact .inl rfl
        · exact .inr ⟨c, rfl, (List.getElem?_eq_some_iff.1 hy).1⟩
      by_cases hk : k ∈ P
      · rw [if_pos hk]
        obtain ⟨j, hj, rfl⟩ := List.mem_iff_getElem.1 hk
        cases j with
        | zero =>
          obtain ⟨z, hz, hz0, _⟩ := way_first hn hW hj
          rw [hx] at hz
          have e := Option.some.inj hz
          subst e
          exact absurd hz0 h0
        | succ j =>
          obtain ⟨z, hz, hm⟩ := way_kid hn hW hj
          rw [hx] at hz
          have e := Option.some.inj hz
          subst e
          obtain ⟨y, hy, _, hlt⟩ := hn.kidUp hx hm
          exact asOld_miss hup hin hm (by rw [ih _ hlt y hy, if_pos (List.getElem_mem _)])
      · rw [if_neg hk]
        have hkid : ∀ c ∈ x.kids, kpA (keepT L ids (lfT L ids [] (ids.getD p 0)) L) c = (c : Int) := fun c hc => by
          obtain ⟨y, hy, _, hlt⟩ := hn.kidUp hx hc
          rw [ih c hlt y hy, if_neg (fun h => by
            obtain ⟨j, hj, e⟩ := List.mem_iff_getElem.1 h
            obtain ⟨hj1, e'⟩ := way_up hn hW hx hc hj e.symm
            exact hk (by rw [← e']; exact List.getElem_mem _))]
        have hm : x.kids.map (kpA (keepT L ids (lfT L ids [] (ids.getD p 0)) L)) = castL x.kids := List.map_congr_left hkid
        obtain ⟨k0, ks, ek⟩ : ∃ k0 ks, x.kids = k0 :: ks := by
          cases h : x.kids with
          | nil => exact absurd ((hn.kids0 hx).1 h) h0
          | cons a l => exact ⟨a, l, rfl⟩
        obtain ⟨y, hy, hyu, _⟩ := hn.kidUp hx (show k0 ∈ x.kids by rw [ek]; simp)
        have hk0 := hkid k0 (by rw [ek]; simp)
        rw [ek] at hm ⊢
        rw [asOld_up hk0 hy hyu hx, if_pos ⟨rfl, by rw [ek]; exact hm⟩]
/-- the steps of a way -/
theorem way_steps (hn : NF kind ids L) (hW : WayF L p P) (hp : p < ids.length) : (stepsT L (keepT L ids (lfT L ids [] (ids.getD p 0)) L) p 0 L).length + 1 = P.length ∧
    ∀ (i : Nat) (hi : i + 1 < P.length), (stepsT L (keepT L ids (lfT L ids [] (ids.getD p 0)) L) p 0 L)[i]? = some ⟨(P[i + 1] : Nat), (P[i] : Nat), castL ((kidsN L P[i + 1]).filter fun k => k != P[i])⟩ := by
  have hk := way_keep hn hW hp
  generalize keepT L ids (lfT L ids [] (ids.getD p 0)) L = kp at *
  obtain ⟨a, t, xa, e1, e2, e3, e4, _⟩ := hW.first
  have hpos : posT kp 0 L = t := by
    have hr := hW.rise
    rw [e1] at hr
    obtain ⟨r1, r2⟩ := List.pairwise_cons.1 hr
    refine sorted_eq _ _ (posT_rise kp 0 L) r2 (fun k => ?_)
    rw [posT_in]
    constructor
    · rintro ⟨x, hx, hs⟩
      rw [isStep, Bool.and_eq_true, hk k x hx] at hs
      have hkP : k ∈ P := by
        by_cases h : k ∈ P
        · exact h
        · rw [if_neg h] at hs
          have := hs.2
          rw [beq_iff_eq] at this
          omega
      rw [e1] at hkP
      rcases List.mem_cons.1 hkP with rfl | h
      · rw [e2] at hx
        have e := Option.some.inj hx
        subst e
        have := hs.1
        rw [e3] at this
        simp at this
      · exact h
    · intro h
      obtain ⟨y, hy, _⟩ := hW.has k (by rw [e1]; simp [h])
      refine ⟨y, hy, ?_⟩
      rw [isStep, Bool.and_eq_true, hk k y hy, if_pos (by rw [e1]; simp [h])]
      refine ⟨?_, by simp⟩
      have hy0 : ¬ y.lev = 0 := fun h0 => by
        have hat := (way_leaf hn hW hy h0).1 (by rw [e1]; simp [h])
        have := leaf_one hn hy e2 h0 e3 (by omega)
        subst this
        have := r1 k h
        omega
      simp [hy0]
  rw [stepsT_all, hpos]
  refine ⟨by rw [List.length_map, e1, List.length_cons], fun i hi => ?_⟩
  have hti : i < t.length := by rw [e1, List.length_cons] at hi; omega
  have hPt : P[i + 1] = t[i] := by simp only [e1, List.getElem_cons_succ]
  rw [List.getElem?_map, List.getElem?_eq_getElem hti, ← hPt]
  obtain ⟨x, hx, hm⟩ := way_kid hn hW hi
  obtain ⟨s1, s2⟩ := stK_all (knownB L kp p) (hn.nodup hx)
  have hfst : (stK (knownB L kp p) x.kids).1 = ((P[i] : Nat) : Int) := by
    have hkn : ∀ c ∈ x.kids, knownB L kp p c = true → c = P[i] := fun c hc hcn => by
      obtain ⟨y, hy, _, _⟩ := hn.kidUp hx hc
      rw [knownB, Bool.and_eq_true, hk c y hy] at hcn
      have hcP : c ∈ P := by
        by_cases h : c ∈ P
        · exact h
        · rw [if_neg h] at hcn
          have := hcn.1
          rw [beq_iff_eq] at this
          omega
      obtain ⟨j, hj, ej⟩ := List.mem_iff_getElem.1 hcP
      obtain ⟨hj1, e'⟩ := way_up hn hW hx hc hj ej.symm
      have hr := List.pairwise_iff_getElem.1 hW.rise
      have : j = i := by
        rcases Nat.lt_trichotomy (j + 1) (i + 1) with h | h | h
        · have := hr _ _ hj1 hi h; omega
        · omega
        · have := hr _ _ hi hj1 h; omega
      subst this
      exact ej.symm
    rcases s2 with ⟨_, ha⟩ | ⟨c, hc, e, hcn⟩
    · exfalso
      have := ha _ hm
      obtain ⟨y, hy, _, _⟩ := hn.kidUp hx hm
      rw [knownB, hk _ y hy, if_pos (List.getElem_mem _), hy] at this
      by_cases h0 : y.lev = 0
      · have := (way_leaf hn hW hy h0).1 (List.getElem_mem _)
        simp_all
      · have : 0 < y.lev := by omega
        simp_all
    · rw [e, hkn c hc hcn]
  show some (stepK L kp p P[i + 1]) = _
  rw [stepK_at hx, stepT, hfst, s1, hfst, kids_at hx]
  congr 3
  apply List.filter_congr
  intro c _
  rw [Bool.eq_iff_iff]
  simp only [decide_eq_true_eq, bne_iff_ne, ne_eq]
  omega
end

end Go.Proofs.Ytmganbdbihjbmaa

/-
  WHAT THE LAWS ABOUT CHANGED TREES SHARE: who changes, drawn; few; two trees in boxes.
-/
set_option linter.unusedVariables false
namespace Go.Proofs.Ytmganbdbihjbmaa
open Go.RowKit

theorem rangeK {w w' : World} {B b o : Nat} {cs : List Value} (h : w.rangeAt b o cs) (hb : b < B) (hw : Below B w w') : w'.rangeAt b o cs := fun j u hu => by
  rw [World.cell?_of_block (hw.block _ hb)]
  exact h j u hu
/-- an index drawn from any int -/
theorem draw_at (b : Int) (n : Nat) (hb1 : -9223372036854775808 ≤ b) (hb2 : b ≤ 9223372036854775807) (hn : 0 < n) (hn2 : n ≤ 1000000) : ∃ (r : Int) (d : Nat), b.tmod (n : Int) = r ∧ IntKind.i64.wrap (r + (n : Int)) = r + (n : Int) ∧ (r + (n : Int)).tmod (n : Int) = (d : Int) ∧ d < n := by
  have h1 : b.tmod (n : Int) < (n : Int) := Int.tmod_lt_of_pos _ (by omega)
  have h2 : -(n : Int) < b.tmod (n : Int) := Int.lt_tmod_of_pos _ (by omega)
  refine ⟨b.tmod (n : Int), ((b.tmod (n : Int) + (n : Int)).tmod (n : Int)).toNat, rfl, ?_, ?_, ?_⟩
  · rw [IntKind.wrap_i64]; omega
  · rw [Int.toNat_of_nonneg]
    rw [Int.tmod_eq_emod_of_nonneg (by omega)]
    exact Int.emod_nonneg _ (by omega)
  · rw [Int.tmod_eq_emod_of_nonneg (by omega)]
    have h3 := Int.emod_nonneg (b.tmod (n : Int) + (n : Int)) (b := (n : Int)) (by omega)
    have h4 := Int.emod_lt_of_pos (b.tmod (n : Int) + (n : Int)) (b := (n : Int)) (by omega)
    omega
/-- what Make asks of changed trees holds -/
theorem chg_make {kind : Int} (hk : kind = 1 ∨ kind = 2) (xs out inn : List Int) {by_ : Int} (hby : by_ ∈ (chgT xs out inn).1.1) : makeB kind (oldS xs).1 (oldS xs).2 (chgT xs out inn).1.1 (chgT xs out inn).1.2 by_ = true ∧ mayB kind (oldS xs).1 (oldS xs).2 = true ∧ mayB kind (chgT xs out inn).1.1 (chgT xs out inn).1.2 = true := by
  have hm : ∀ ids ll, chkT ids ll = true → mayB kind ids ll = true := fun ids ll h => by
    rw [mayB, h]
    rcases hk with rfl | rfl <;> rfl
  have h1 := hm _ _ (old_chk xs)
  have h2 := hm _ _ (chg_chk xs out inn)
  refine ⟨?_, h1, h2⟩
  rw [makeB, h1, h2]
  exact isT_mem.2 hby
end Go.Proofs.Ytmganbdbihjbmaa

/-
  PLANS (layer 12): the steps of a way up, one behind the other, and what is beside it: pure facts.
-/
set_option linter.unusedVariables false
namespace Go.Proofs.Ytmganbdbihjbmaa

def wsteps (L : List RN) : List Nat → List SI
  | a :: b :: l => ⟨(b : Int), (a : Int), castL ((kidsN L b).filter fun k => k != a)⟩ :: wsteps L (b :: l)
  | _ => []
theorem wsteps_len (L : List RN) : ∀ P : List Nat, P ≠ [] → (wsteps L P).length + 1 = P.length
  | [], h => absurd rfl h
  | [a], _ => rfl
  | a :: b :: l, _ => by rw [wsteps, List.length_cons, wsteps_len L (b :: l) (by simp), List.length_cons (a := a)]
theorem wsteps_at (L : List RN) : ∀ (P : List Nat) (i : Nat) (hi : i + 1 < P.length), (wsteps L P)[i]? = some ⟨(P[i + 1] : Nat), (P[i] : Nat), castL ((kidsN L P[i + 1]).filter fun k => k != P[i])⟩
  | [], i, hi => by simp at hi
  | [a], i, hi => by simp at hi
  | a :: b :: l, 0, hi => rfl
  | a :: b :: l, i + 1, hi => by
    have := wsteps_at L (b :: l) i (by simpa using hi)
    rw [wsteps, List.getElem?_cons_succ, this]
    rfl
theorem wsteps_flat (L : List RN) : ∀ P : List Nat, ((wsteps L P).map SI.send).flatten = castL (besP L P)
  | [] => rfl
  | [a] => rfl
  | a :: b :: l => by
    rw [wsteps, List.map_cons, List.flatten_cons, wsteps_flat L (b :: l), besP_two]
    simp [castL]
theorem sendsT_cons (x : SI) (ss : List SI) : sendsT (x :: ss) = x.send.length + sendsT ss := by simp [sendsT]
theorem flat_len : ∀ ss : List SI, ((ss.map SI.send).flatten).length = sendsT ss
  | [] => rfl
  | x :: ss => by rw [List.map_cons, List.flatten_cons, List.length_append, flat_len ss, sendsT_cons]
theorem flat_at : ∀ (ss : List SI) (i : Nat) (x : SI) (t : Nat) (k : Int), ss[i]? = some x → x.send[t]? = some k → ((ss.map SI.send).flatten)[sendsT (ss.take i) + t]? = some k
  | [], i, x, t, k, h, _ => by simp at h
  | y :: ss, 0, x, t, k, h, hk => by
    have h := Option.some.inj h
    subst h
    have ht := (List.getElem?_eq_some_iff.1 hk).1
    rw [List.take_zero, show sendsT [] = 0 from rfl, Nat.zero_add, List.map_cons, List.flatten_cons, List.getElem?_append_left ht]
    exact hk
  | y :: ss, i + 1, x, t, k, h, hk => by
    have ih := flat_at ss i x t k (by simpa using h) hk
    rw [List.take_succ_cons, sendsT_cons, List.map_cons, List.flatten_cons, List.getElem?_append_right (by omega), show y.send.length + sendsT (ss.take i) + t - y.send.length = sendsT (ss.take i) + t by omega]
    exact ih
theorem sends_small : ∀ (ss : List SI), (∀ x ∈ ss, x.send.length ≤ 3) → sendsT ss ≤ 3 * ss.length
  | [], _ => Nat.le_refl _
  | x :: ss, h => by
    have := sends_small ss (fun y hy => h y (by simp [hy]))
    have := h x (by simp)
    rw [sendsT_cons, List.length_cons]
    omega
theorem steps_three {now : List RN} {kp : List Int} {at_ : Nat} (hk3 : ∀ x ∈ now, x.kids.length ≤ 3) : ∀ (i : Nat) (l : List RN), (∀ x ∈ l, x ∈ now) → ∀ s ∈ stepsT now kp at_ i l, s.send.length ≤ 3
  | i, [], _ => fun s hs => by simp [stepsT] at hs
  | i, x :: l, h => fun s hs => by
    have ih := steps_three (kp := kp) (at_ := at_) hk3 (i + 1) l (fun y hy => h y (by simp [hy])) s
    rw [stepsT] at hs
    split at hs
    · rcases List.mem_cons.1 hs with e | hs
      · subst e
        have h1 := stK_len (knownB now kp at_) x.kids
        have h2 := hk3 x (h x (by simp))
        simp only [stepT, castL_len]
        omega
      · exact ih hs
    · exact ih hs
theorem nf_three {kind : Int} {ids : List Int} {L : List RN} (hn : NF kind ids L) (hk : 1 ≤ kind) : ∀ x ∈ L, x.kids.length ≤ 3 := fun x hx => by
  have h1 := (hn.ok x hx).2.1
  omega
theorem way_wsteps {kind : Int} {ids : List Int} {L : List RN} {p : Nat} {P : List Nat} (hn : NF kind ids L) (hW : WayF L p P) (hp : p < ids.length) : stepsT L (keepT L ids (lfT L ids [] (ids.getD p 0)) L) p 0 L = wsteps L P := by
  obtain ⟨h1, h2⟩ := way_steps hn hW hp
  obtain ⟨a, t, x, e, _⟩ := hW.first
  have hP : P ≠ [] := by rw [e]; simp
  have h3 := wsteps_len L P hP
  apply List.ext_getElem?
  intro i
  rcases Nat.lt_or_ge (i + 1) P.length with hi | hi
  · rw [h2 i hi, wsteps_at L P i hi]
  · rw [List.getElem?_eq_none (by omega), List.getElem?_eq_none (by omega)]

end Go.Proofs.Ytmganbdbihjbmaa

