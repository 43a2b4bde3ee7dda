import Derived.Test.YtbickllpledlbaaG22
/-
  WHAT LAYER 10's CALLS OF THE PROGRAM ANSWER, as hypotheses of the walks, and the walk of the laws' live (coterielaw10).
-/
set_option linter.unusedVariables false
namespace Go.Proofs.Ytbickllpledlbaa
open Go.RowKit

def HTB : Prop := ∀ (A : Option Addr) (n c : Nat) (xs : List Int) (w : World), n ≤ 1000000 → Rd w w.heap.size A n (xs.map iv) → Calls Try.prog 22 #[.slice A n c] w (BuildPost w xs)
def HTC : Prop := ∀ (Ai : Option Addr) (ni ci : Nat) (Al : Option Addr) (nl cl : Nat) (ids : List Int) (ll : List (List Int)) (w : World), ShR w w.heap.size Ai ni ci Al nl cl ids ll → fewT ids ll = true → Calls Try.prog 24 #[.agg (shV Ai ni ci Al nl cl)] w fun e w' => e = .returned (.int .i64 (chkE ids ll)) ∧ Below w.heap.size w w'
def HTF : Prop := ∀ (Ai : Option Addr) (ni ci : Nat) (Al : Option Addr) (nl cl : Nat) (ids : List Int) (ll : List (List Int)) (id : Int) (w : World), ShR w w.heap.size Ai ni ci Al nl cl ids ll → fewT ids ll = true → Calls Try.prog 23 #[.agg (shV Ai ni ci Al nl cl), .int .i64 id] w fun e w' => e = .returned (.tuple #[.int .i64 (belT ids id : Int), .bool (isT ids id)]) ∧ Below w.heap.size w w'
def HTS : Prop := ∀ (Ai : Option Addr) (ni ci : Nat) (Al : Option Addr) (nl cl : Nat) (ids : List Int) (ll : List (List Int)) (level : Int) (w : World), -9223372036854775808 ≤ level → level ≤ 9223372036854775807 → ShR w w.heap.size Ai ni ci Al nl cl ids ll → fewT ids ll = true → Calls Try.prog 25 #[.agg (shV Ai ni ci Al nl cl), .int .i64 level] w (SpansPost w ids ll level)
theorem bld_live : bldS [1, 2, 3, 4] [] [] = (0, [1, 2, 3, 4], [[2, 2], [2]]) := by decide +kernel

end Go.Proofs.Ytbickllpledlbaa

/-
  THE WALK of TreeNear (coterielaw10), over what the program's calls answer; what Insert and Delete answer, as one shape.
-/
set_option linter.unusedVariables false
namespace Go.Proofs.Ytbickllpledlbaa
open Go.RowKit

theorem sh0_shV : (sh0 : Array Value) = shV none 0 0 none 0 0 := rfl
theorem InsPost.shape {w : World} {ids : List Int} {ll : List (List Int)} {id : Int} {e : Ending} {w' : World} (h : InsPost w ids ll id e w') : Below w.heap.size w w' ∧ ∃ Ai ni ci Al nl cl ids1 ll1,
    e = .returned (.tuple #[.agg (shV Ai ni ci Al nl cl), .int .i64 (insE ids ll id)]) ∧ ShN w.heap.size w' w'.heap.size Ai ni ci Al nl cl ids1 ll1 ∧ (insE ids ll id = 0 → ids1 = (insS ids (lvN ll) id).1 ∧ ll1 = levI (insS ids (lvN ll) id).2) := by
  obtain ⟨hb, ⟨h1, h2⟩ | ⟨h1, Ai, ni, ci, Al, nl, cl, h2, h3⟩⟩ := h
  · exact ⟨hb, none, 0, 0, none, 0, 0, [], [], by rw [h2, sh0_shV], ShN.nil _ _ _, fun h => absurd h h1⟩
  · exact ⟨hb, Ai, ni, ci, Al, nl, cl, _, _, by rw [h1]; exact h2, h3, fun _ => ⟨rfl, rfl⟩⟩
theorem DelPost.shape {w : World} {ids : List Int} {ll : List (List Int)} {id : Int} {e : Ending} {w' : World} (h : DelPost w ids ll id e w') : Below w.heap.size w w' ∧ ∃ Ai ni ci Al nl cl ids1 ll1,
    e = .returned (.tuple #[.agg (shV Ai ni ci Al nl cl), .int .i64 (delE ids ll id)]) ∧ ShN w.heap.size w' w'.heap.size Ai ni ci Al nl cl ids1 ll1 ∧ (delE ids ll id = 0 → ids1 = (delS ids (lvN ll) id).1 ∧ ll1 = levI (delS ids (lvN ll) id).2) := by
  obtain ⟨hb, ⟨h1, h2⟩ | ⟨h1, Ai, ni, ci, Al, nl, cl, h2, h3⟩⟩ := h
  · exact ⟨hb, none, 0, 0, none, 0, 0, [], [], by rw [h2, sh0_shV], ShN.nil _ _ _, fun h => absurd h h1⟩
  · exact ⟨hb, Ai, ni, ci, Al, nl, cl, _, _, by rw [h1]; exact h2, h3, fun _ => ⟨rfl, rfl⟩⟩

/-- levels as the law compares them -/
def nearI (few more : List (List Int)) : Prop := few.length ≤ more.length ∧ more.length ≤ few.length + 1 ∧ ∀ i (h : i < few.length) (h' : i < more.length), few[i].length ≤ more[i].length ∧ more[i].length ≤ few[i].length + 1
theorem lvN_len (ll : List (List Int)) : (lvN ll).length = ll.length := by simp [lvN]
theorem nearI_ins {ll : List (List Int)} {lv : List (List Nat)} (h : nearL (lvN ll) lv) : nearI ll (levI lv) := by
  obtain ⟨h1, h2, h3⟩ := h
  rw [lvN_len] at h1 h2
  refine ⟨by simpa [levI] using h1, by simpa [levI] using h2, fun i hi hi' => ?_⟩
  have := h3 i (by rw [lvN_len]; exact hi) (by simpa [levI] using hi')
  simpa [levI, lvN, natL] using this
theorem nearI_del {ll : List (List Int)} {lv : List (List Nat)} (h : nearL lv (lvN ll)) : nearI (levI lv) ll := by
  obtain ⟨h1, h2, h3⟩ := h
  rw [lvN_len] at h1 h2
  refine ⟨by simpa [levI] using h1, by simpa [levI] using h2, fun i hi hi' => ?_⟩
  have := h3 i (by simpa [levI] using hi) (by rw [lvN_len]; exact hi')
  simpa [levI, lvN, natL] using this
theorem lvOK_nil {lv : List (List Nat)} {many : Nat} (h : lvOK many lv) (hm : many ≤ 1) : lv = [] := by
  cases lv with
  | nil => rfl
  | cons l ls => exact absurd h.1 (by omega)
theorem insS_near {ids : List Int} {ll : List (List Int)} {id : Int} (h : insE ids ll id = 0) : nearI ll (levI (insS ids (lvN ll) id).2) := by
  have hc := (chkT_lv (insE_zero h).1).2.2.1
  refine nearI_ins ?_
  unfold insS
  by_cases h0 : ids = []
  · rw [if_pos h0, lvOK_nil hc (by rw [h0]; simp)]
    exact nearL_refl _
  · rw [if_neg h0]
    have hp := List.length_pos_iff.2 h0
    have := belT_le ids id
    exact insL_near _ ids.length _ hc (by omega)
theorem bel_lt {ids : List Int} {id : Int} (h : ids.Pairwise (· < ·)) (hi : id ∈ ids) : belT ids id < ids.length := by
  obtain ⟨E, L, h1, _, _, h2, _⟩ := erase_form h hi
  rw [h2, h1]
  simp
theorem delS_near {ids : List Int} {ll : List (List Int)} {id : Int} (h : delE ids ll id = 0) : nearI (levI (delS ids (lvN ll) id).2) ll := by
  obtain ⟨hc, hi⟩ := delE_zero h
  have hl := (chkT_lv hc).2.2.1
  refine nearI_del ?_
  unfold delS
  by_cases h0 : ids.length = 1
  · rw [if_pos h0, lvOK_nil hl (by omega)]
    exact nearL_refl _
  · rw [if_neg h0]
    exact delL_near _ ids.length _ hl (bel_lt (okI_rise _ (chkT_lv hc).2.1) hi)

theorem few_ll {ids : List Int} {ll : List (List Int)} (h : fewT ids ll = true) : ll.length ≤ 1000000 ∧ ∀ l ∈ ll, l.length ≤ 1000000 := by
  have := (few_len h).2.2
  exact ⟨by omega, few_million h⟩

end Go.Proofs.Ytbickllpledlbaa

/-
  THE WALK of TreeBack (coterielaw10), over what the program's calls answer.
-/
set_option linter.unusedVariables false
namespace Go.Proofs.Ytbickllpledlbaa
open Go.RowKit

theorem delE_mk {ids : List Int} {ll : List (List Int)} {id : Int} (h : chkT ids ll = true) (hi : id ∈ ids) : delE ids ll id = 0 := by
  rw [delE, if_neg (by simp [h]), if_neg (by simp [isT_mem.2 hi])]
theorem insE_mk {ids : List Int} {ll : List (List Int)} {id : Int} (h : chkT ids ll = true) (h1 : 0 ≤ id) (h2 : id ≤ 1048576) (hi : id ∉ ids) (hl : ids.length < 1000) : insE ids ll id = 0 := by
  have hn : ¬ isT ids id = true := fun h => hi (isT_mem.1 h)
  rw [insE, if_neg (by simp [h]; omega), if_neg hn, if_neg (by omega)]
/-- put in, and taken out again -/
theorem back_ins {ids : List Int} {ll : List (List Int)} {id : Int} (h : insE ids ll id = 0) {ids1 : List Int} {ll1 : List (List Int)} (h1 : ids1 = (insS ids (lvN ll) id).1) (h2 : ll1 = levI (insS ids (lvN ll) id).2) :
    fewT ids1 ll1 = true ∧ delE ids1 ll1 id = 0 ∧ isT ids1 id = true ∧ (∃ h : belT ids1 id < ids1.length, ids1[belT ids1 id] = id) ∧
      ∀ ids2 ll2, ids2 = (delS ids1 (lvN ll1) id).1 → ll2 = levI (delS ids1 (lvN ll1) id).2 → ids2 = ids ∧ fewT ids2 ll2 = true ∧ chkT ids2 ll2 = true := by
  obtain ⟨c1, c2, c3⟩ := ins_chk h
  rw [← h1] at c1 c3
  rw [← h2] at c3
  obtain ⟨z1, z2, z3, z4, z5⟩ := insE_zero h
  have hr := okI_rise _ (chkT_lv z1).2.1
  have hr1 := okI_rise _ (chkT_lv c3).2.1
  have hm : id ∈ ids1 := by rw [c1, mem_insI]; exact Or.inl rfl
  have hd := delE_mk c3 hm
  refine ⟨few_of_chk c3, hd, isT_mem.2 hm, rise_bel ids1 id hr1 (isT_mem.2 hm), fun ids2 ll2 e1 e2 => ?_⟩
  obtain ⟨d1, d2, d3⟩ := del_chk hd
  rw [← e1] at d1 d3
  rw [← e2] at d3
  exact ⟨by rw [d1, c1, erase_ins hr z4], few_of_chk d3, d3⟩
/-- taken out, and put in again -/
theorem back_del {ids : List Int} {ll : List (List Int)} {id : Int} (h : delE ids ll id = 0) {ids1 : List Int} {ll1 : List (List Int)} (h1 : ids1 = (delS ids (lvN ll) id).1) (h2 : ll1 = levI (delS ids (lvN ll) id).2) :
    fewT ids1 ll1 = true ∧ insE ids1 ll1 id = 0 ∧
      ∀ ids2 ll2, ids2 = (insS ids1 (lvN ll1) id).1 → ll2 = levI (insS ids1 (lvN ll1) id).2 → ids2 = ids ∧ fewT ids2 ll2 = true ∧ chkT ids2 ll2 = true := by
  obtain ⟨c1, c2, c3⟩ := del_chk h
  rw [← h1] at c1 c3
  rw [← h2] at c3
  obtain ⟨z1, z2⟩ := delE_zero h
  have hk := chkT_lv z1
  have hr := okI_rise _ hk.2.1
  obtain ⟨m1, m2⟩ := okI_mem hk.2.1 id z2
  have hp : 0 < ids.length := List.length_pos_of_mem z2
  have hl : ids1.length < 1000 := by
    have := hk.1
    have := bel_lt hr z2
    rw [c1, List.length_eraseIdx, if_pos this]
    omega
  have hi := insE_mk c3 m1 m2 (by rw [c1, mem_erase hr z2]; exact fun h => h.2 rfl) hl
  refine ⟨few_of_chk c3, hi, fun ids2 ll2 e1 e2 => ?_⟩
  obtain ⟨d1, d2, d3⟩ := ins_chk hi
  rw [← e1] at d1 d3
  rw [← e2] at d3
  exact ⟨by rw [d1, c1, ins_erase hr z2], few_of_chk d3, d3⟩
theorem delE_six {ids : List Int} {ll : List (List Int)} {id : Int} (h : chkT ids ll = true) (hz : ¬ delE ids ll id = 0) : delE ids ll id = 6 ∧ isT ids id = false := by
  have hi : isT ids id = false := by
    by_cases hi : isT ids id = true
    · exact absurd (delE_mk h (isT_mem.1 hi)) hz
    · simpa using hi
  exact ⟨by rw [delE, if_neg (by simp [h]), if_pos hi], hi⟩
theorem len_le_max {ids : List Int} {ll : List (List Int)} (h : fewT ids ll = true) : ids.length ≤ maxLen := by
  have := (few_len h).2.1
  unfold maxLen
  omega

end Go.Proofs.Ytbickllpledlbaa

/-
  Build in whatever order (pure).
-/
set_option linter.unusedVariables false
namespace Go.Proofs.Ytbickllpledlbaa
open Go.RowKit

/-- rising lists with the same members are the same -/
theorem rise_ext : ∀ (a b : List Int), a.Pairwise (· < ·) → b.Pairwise (· < ·) → (∀ x, x ∈ a ↔ x ∈ b) → a = b
  | [], [], _, _, _ => rfl
  | [], y :: b, _, _, h => absurd ((h y).2 (by simp)) (by simp)
  | x :: a, [], _, _, h => absurd ((h x).1 (by simp)) (by simp)
  | x :: a, y :: b, ha, hb, h => by
    rw [List.pairwise_cons] at ha hb
    have hxy : x = y := by
      rcases List.mem_cons.1 ((h x).1 (by simp)) with e | e
      · exact e
      · rcases List.mem_cons.1 ((h y).2 (by simp)) with e' | e'
        · exact e'.symm
        · have := ha.1 y e'
          have := hb.1 x e
          omega
    subst hxy
    rw [rise_ext a b ha.2 hb.2 fun z => ⟨fun hz => ?_, fun hz => ?_⟩]
    · rcases List.mem_cons.1 ((h z).1 (by simp [hz])) with e | e
      · have := ha.1 z hz; omega
      · exact e
    · rcases List.mem_cons.1 ((h z).2 (by simp [hz])) with e | e
      · have := hb.1 z hz; omega
      · exact e
/-- what may be put in, one by one -/
def goodT (r ids : List Int) : Prop := r.Nodup ∧ ∀ x ∈ r, 0 ≤ x ∧ x ≤ 1048576 ∧ x ∉ ids
theorem bld_good : ∀ (r ids : List Int) (lv : List (List Nat)), chkT ids (levI lv) = true → ids.length + r.length < 1000 →
    ((bldS r ids lv).1 = 0 ↔ goodT r ids) ∧ ((bldS r ids lv).1 = 0 → chkT (bldS r ids lv).2.1 (levI (bldS r ids lv).2.2) = true ∧ (bldS r ids lv).2.1.length = ids.length + r.length ∧ ∀ x, x ∈ (bldS r ids lv).2.1 ↔ x ∈ ids ∨ x ∈ r)
  | [], ids, lv, hc, _ => ⟨⟨fun _ => ⟨List.nodup_nil, fun x hx => by simp at hx⟩, fun _ => rfl⟩, fun _ => ⟨hc, by simp [bldS], fun x => by simp [bldS]⟩⟩
  | id :: r, ids, lv, hc, hn => by
    rw [List.length_cons] at hn
    by_cases he : insE ids (levI lv) id = 0
    · obtain ⟨c1, _, c3⟩ := ins_chk he
      obtain ⟨_, z2, z3, z4, _⟩ := insE_zero he
      rw [lvN_levI] at c1 c3
      have hl : (insS ids lv id).1.length = ids.length + 1 := by rw [c1, insI_len]
      obtain ⟨i1, i2⟩ := bld_good r (insS ids lv id).1 (insS ids lv id).2 c3 (by omega)
      have e : bldS (id :: r) ids lv = bldS r (insS ids lv id).1 (insS ids lv id).2 := by rw [bldS, if_pos he]
      rw [e]
      have hg : goodT r (insS ids lv id).1 ↔ goodT (id :: r) ids := by
        unfold goodT
        rw [c1, List.nodup_cons]
        constructor
        · rintro ⟨h1, h2⟩
          refine ⟨⟨fun h => (h2 id h).2.2 (mem_insI.2 (Or.inl rfl)), h1⟩, fun x hx => ?_⟩
          rcases List.mem_cons.1 hx with rfl | hx
          · exact ⟨z2, z3, z4⟩
          · exact ⟨(h2 x hx).1, (h2 x hx).2.1, fun h => (h2 x hx).2.2 (mem_insI.2 (Or.inr h))⟩
        · rintro ⟨⟨h0, h1⟩, h2⟩
          refine ⟨h1, fun x hx => ⟨(h2 x (by simp [hx])).1, (h2 x (by simp [hx])).2.1, fun h => ?_⟩⟩
          rcases mem_insI.1 h with rfl | h
          · exact h0 hx
          · exact (h2 x (by simp [hx])).2.2 h
      refine ⟨i1.trans hg, fun h => ?_⟩
      obtain ⟨j1, j2, j3⟩ := i2 h
      refine ⟨j1, by rw [j2, hl, List.length_cons]; omega, fun x => ?_⟩
      rw [j3, c1, mem_insI, List.mem_cons]
      constructor
      · rintro ((h | h) | h)
        · exact Or.inr (Or.inl h)
        · exact Or.inl h
        · exact Or.inr (Or.inr h)
      · rintro (h | h | h)
        · exact Or.inl (Or.inr h)
        · exact Or.inl (Or.inl h)
        · exact Or.inr h
    · have e : (bldS (id :: r) ids lv).1 = insE ids (levI lv) id := by rw [bldS, if_neg he]
      refine ⟨⟨fun h => absurd (e.symm.trans h) he, fun h => absurd (insE_mk hc (h.2 id (by simp)).1 (h.2 id (by simp)).2.1 (h.2 id (by simp)).2.2 (by omega)) he⟩, fun h => absurd (e.symm.trans h) he⟩
theorem good_perm {r s : List Int} (h : r.Perm s) (hg : goodT r []) : goodT s [] := ⟨(h.nodup_iff).1 hg.1, fun x hx => hg.2 x (h.mem_iff.2 hx)⟩
/-- in whatever order -/
theorem bld_perm {r s : List Int} (h : r.Perm s) (hn : r.length ≤ 100) : ((bldS r [] []).1 = 0 ↔ (bldS s [] []).1 = 0) ∧
    ((bldS r [] []).1 = 0 → (bldS s [] []).2.1 = (bldS r [] []).2.1 ∧ chkT (bldS r [] []).2.1 (levI (bldS r [] []).2.2) = true ∧ chkT (bldS s [] []).2.1 (levI (bldS s [] []).2.2) = true ∧ (bldS r [] []).2.1.length = r.length) := by
  have hl := h.length_eq
  have h0 : chkT [] (levI []) = true := by decide
  obtain ⟨a1, a2⟩ := bld_good r [] [] h0 (by simp; omega)
  obtain ⟨b1, b2⟩ := bld_good s [] [] h0 (by simp; omega)
  have hgg : goodT r [] ↔ goodT s [] := ⟨good_perm h, good_perm h.symm⟩
  have hz := a1.trans (hgg.trans b1.symm)
  refine ⟨hz, fun hr => ?_⟩
  obtain ⟨c1, c2, c3⟩ := a2 hr
  obtain ⟨d1, d2, d3⟩ := b2 (hz.1 hr)
  refine ⟨rise_ext _ _ (okI_rise _ (chkT_lv d1).2.1) (okI_rise _ (chkT_lv c1).2.1) fun x => ?_, c1, d1, by simpa using c2⟩
  rw [c3, d3, h.mem_iff]

end Go.Proofs.Ytbickllpledlbaa

/-
  THE WALK of TreeOrder (coterielaw10), over what the program's calls answer.
-/
set_option linter.unusedVariables false
namespace Go.Proofs.Ytbickllpledlbaa
open Go.RowKit

theorem tmod_nat (a n : Nat) : Int.tmod (a : Int) (n : Int) = ((a % n : Nat) : Int) := by
  rw [Int.tmod_eq_emod_of_nonneg (by omega)]
  exact (Int.natCast_emod a n).symm

end Go.Proofs.Ytbickllpledlbaa

/-
  THE WALK of TreeSpans (coterielaw10), over what the program's calls answer.
-/
set_option linter.unusedVariables false
namespace Go.Proofs.Ytbickllpledlbaa
open Go.RowKit

theorem startT_ones (n a : Nat) (h : a ≤ n) : startT (List.replicate n 1) a = a := by
  simp [startT, List.take_replicate, List.sum_replicate_nat]
  omega
theorem scanTo_get (W : List Nat) (x i : Nat) (h : i ≤ x) : (scanTo W x)[i]? = some (startT W i) := by
  rw [scanTo, List.getElem?_map, List.getElem?_range (by omega)]
  rfl
/-- what a member's path and a level's spans have to do with each other -/
theorem span_facts {ids : List Int} {ll : List (List Int)} {id : Int} {k : Nat} (hc : chkT ids ll = true) (hi : isT ids id = true) (hk : k < ll.length) :
    ∃ g x y : Nat, (pathL (lvN ll) (belT ids id))[k]? = some g ∧ (spansL ids.length (lvN ll) k).length = ll[k].length + 1 ∧ g < ll[k].length ∧ (spansL ids.length (lvN ll) k)[0]? = some 0 ∧
      (spansL ids.length (lvN ll) k)[ll[k].length]? = some ids.length ∧ (spansL ids.length (lvN ll) k)[g]? = some x ∧ (spansL ids.length (lvN ll) k)[g + 1]? = some y ∧ x ≤ belT ids id ∧ belT ids id < y ∧ (k + 1 = ll.length → g = 0) := by
  have hlv := (chkT_lv hc).2.2.1
  have hb := bel_lt (okI_rise _ (chkT_lv hc).2.1) (isT_mem.1 hi)
  have hk1 : k < (lvN ll).length := by rw [lvN_len]; exact hk
  have hp : k < (pathL (lvN ll) (belT ids id)).length := by rw [pathL_len]; exact hk1
  obtain ⟨f1, f2, f3, f4⟩ := spanT_path (lvN ll) (List.replicate ids.length 1) ids.length (belT ids id) (belT ids id) hlv (by simp) hb (by rw [startT_ones _ _ (by omega)]; exact Nat.le_refl _) (by rw [startT_ones _ _ (by omega)]; omega) k hk1 hp
  have hs := wideT_sum (lvN ll) (List.replicate ids.length 1) ids.length k hlv (by simp) hk1
  rw [List.sum_replicate_nat, Nat.mul_one] at hs
  have hl : (lvN ll)[k].length = ll[k].length := by simp [lvN, natL]
  rw [hl] at f1 f2
  have e : spansL ids.length (lvN ll) k = scanTo (wideL (List.replicate ids.length 1) ((lvN ll).take (k + 1))) ll[k].length := by rw [spansL, scanT, f2]
  rw [e]
  generalize wideL (List.replicate ids.length 1) ((lvN ll).take (k + 1)) = W at *
  refine ⟨(pathL (lvN ll) (belT ids id))[k], _, _, List.getElem?_eq_getElem hp, by simp [scanTo], f1, ?_, ?_, scanTo_get _ _ _ (by omega), scanTo_get _ _ _ (by omega), f3, f4, fun h => ?_⟩
  · rw [scanTo_get _ _ _ (by omega), startT_zero]
  · rw [scanTo_get _ _ _ (by omega), ← f2, startT_all, hs]
  · have hx := pathL_last (lvN ll) ids.length (belT ids id) hlv hb (by rw [lvN_len, ← h]; exact hp)
    rw [← hx]
    congr 1
    rw [lvN_len, ← h]
    omega
theorem ivn_def (n : Nat) : ivn n = .int .i64 (n : Int) := rfl

end Go.Proofs.Ytbickllpledlbaa

/-
  A WORLD IN WHICH ONLY NUMBERS OF NEW BLOCKS CHANGED (for TreeDoes, which counts up in what Insert and Delete told).
-/
set_option linter.unusedVariables false
namespace Go.Proofs.Ytbickllpledlbaa
open Go.RowKit

def isI (v : Value) : Prop := ∃ x, v = .int .i64 x
/-- a block of cells of which no string shares a byte -/
def thawed (w : World) (b : Nat) : Prop := ∃ cs t, w.heap[b]? = some (.cells cs t (0, 0))
theorem thawed.free {w : World} {b : Nat} (h : thawed w b) (j : Nat) : w.frozen? ⟨b, j, none⟩ = false := by
  obtain ⟨cs, t, h⟩ := h
  exact frozen_of_row w b j _ t h
structure Mut (lo : Nat) (w0 w : World) : Prop where
  low : Below lo w0 w
  non : ∀ ad v, w0.cell? ad = some v → ¬ isI v → w.cell? ad = some v
  int : ∀ ad v, w0.cell? ad = some v → isI v → ∃ x, w.cell? ad = some (.int .i64 x)
  froz : ∀ b, thawed w0 b → thawed w b
theorem Mut.refl (lo : Nat) (w : World) : Mut lo w w := ⟨Below.refl _ _, fun _ _ h _ => h, fun _ _ h ⟨x, e⟩ => ⟨x, e ▸ h⟩, fun _ h => h⟩
theorem Mut.trans {lo : Nat} {a b c : World} (h : Mut lo a b) (h' : Mut lo b c) : Mut lo a c :=
  ⟨h.low.trans h'.low, fun ad v hv hn => h'.non ad v (h.non ad v hv hn) hn, fun ad v hv hi => by
    obtain ⟨x, hx⟩ := h.int ad v hv hi
    exact h'.int ad _ hx ⟨x, rfl⟩, fun b hb => h'.froz b (h.froz b hb)⟩
theorem Mut.of_below {lo : Nat} {w w' : World} (h : Below w.heap.size w w') (hl : lo ≤ w.heap.size) : Mut lo w w' := by
  have key : ∀ ad v, w.cell? ad = some v → w'.cell? ad = some v := fun ad v hv => by
    have hlt : ad.block < w.heap.size := by
      unfold World.cell? at hv
      rcases Nat.lt_or_ge ad.block w.heap.size with h | h
      · exact h
      · rw [Array.getElem?_eq_none h] at hv
        cases hv
    rw [World.cell?_of_block (h.block _ hlt), hv]
  refine ⟨h.mono hl, fun ad v hv _ => key ad v hv, fun ad v hv ⟨x, e⟩ => ⟨x, e ▸ key ad v hv⟩, fun b ⟨cs, t, hb⟩ => ⟨cs, t, ?_⟩⟩
  have hlt : b < w.heap.size := by
    rcases Nat.lt_or_ge b w.heap.size with h | h
    · exact h
    · rw [Array.getElem?_eq_none h] at hb
      cases hb
  rw [h.block _ hlt, hb]
theorem Mut.set {lo : Nat} {a w : World} (h : Mut lo a w) {p : Addr} {x : Int} (hc : w.cell? p = some (.int .i64 x)) (hl : lo ≤ p.block) (y : Int) : Mut lo a (w.setCell p (.int .i64 y)) := by
  refine h.trans ⟨(Below.refl _ _).setCell hl _, fun ad v hv hn => ?_, fun ad v hv hi => ?_, fun b ⟨cs, t, hb⟩ => ?_⟩
  · rw [World.cell?_setCell_other _ _ _ _ (fun e => hn ⟨x, by rw [← e, hc] at hv; injection hv with hv; exact hv.symm⟩), hv]
  · by_cases e : p = ad
    · subst e
      exact ⟨y, World.cell?_setCell_same _ _ _ hc⟩
    · obtain ⟨z, rfl⟩ := hi
      exact ⟨z, by rw [World.cell?_setCell_other _ _ _ _ e, hv]⟩
  · by_cases e : b = p.block
    · subst e
      unfold thawed World.setCell
      simp only [Array.getElem?_modify, hb]
      by_cases hs : p.spot.isSome = true
      · exact ⟨cs, t, by simp [hs]⟩
      · exact ⟨cs.setIfInBounds p.off (.int .i64 y), t, by simp [hs]⟩
    · exact ⟨cs, t, by rw [Below.heap_setCell w p _ b e, hb]⟩
/-- numbers that may be counted up -/
def IntsM (lo : Nat) (w : World) (A : Option Addr) (n : Nat) : Prop := ∀ j, j < n → ∃ b o, A = some ⟨b, o, none⟩ ∧ lo ≤ b ∧ thawed w b ∧ ∃ x, w.cell? ⟨b, o + j, none⟩ = some (.int .i64 x)
def LvsM (lo : Nat) (w : World) (A : Option Addr) (n : Nat) : Prop := ∀ j, j < n → ∃ b o A' m c, A = some ⟨b, o, none⟩ ∧ w.cell? ⟨b, o + j, none⟩ = some (.slice A' m c) ∧ m ≤ maxLen ∧ IntsM lo w A' m
theorem IntsM.mut {lo : Nat} {w w' : World} {A : Option Addr} {n : Nat} (h : IntsM lo w A n) (hm : Mut lo w w') : IntsM lo w' A n := fun j hj => by
  obtain ⟨b, o, e, hb, ht, x, hx⟩ := h j hj
  exact ⟨b, o, e, hb, hm.froz b ht, hm.int _ _ hx ⟨x, rfl⟩⟩
theorem LvsM.mut {lo : Nat} {w w' : World} {A : Option Addr} {n : Nat} (h : LvsM lo w A n) (hm : Mut lo w w') : LvsM lo w' A n := fun j hj => by
  obtain ⟨b, o, A', m, c, e, hc, hle, hi⟩ := h j hj
  exact ⟨b, o, A', m, c, e, hm.non _ _ hc (fun ⟨x, h⟩ => by cases h), hle, hi.mut hm⟩
/-- a tree's rows are such that no string shares a byte of them -/
def ThawS (w : World) (Ai Al : Option Addr) (nl : Nat) : Prop := (∀ ad, Ai = some ad → thawed w ad.block) ∧ ∀ b o j, Al = some ⟨b, o, none⟩ → j < nl → ∀ A m c, w.cell? ⟨b, o + j, none⟩ = some (.slice A m c) → ∀ ad, A = some ad → thawed w ad.block
theorem IntsM.of {lo : Nat} {w : World} {B : Nat} {A : Option Addr} {n : Nat} {l : List Int} (hr : Rd w B A n (l.map iv)) (hn : NewA lo A) (ht : ∀ ad, A = some ad → thawed w ad.block) : IntsM lo w A n := fun j hj => by
  obtain ⟨b, o, rfl, h2, h3⟩ := hr.pos (by omega)
  have hl : l.length = n := by simpa using hr.len
  exact ⟨b, o, rfl, hn _ rfl, ht _ rfl, l[j]'(by omega), h3 j _ (by rw [List.getElem?_map, List.getElem?_eq_getElem (by omega)]; rfl)⟩
theorem ShN.muts {lo : Nat} {w : World} {B : Nat} {Ai : Option Addr} {ni ci : Nat} {Al : Option Addr} {nl cl : Nat} {ids : List Int} {ll : List (List Int)} (h : ShN lo w B Ai ni ci Al nl cl ids ll) (ht : ThawS w Ai Al nl) : IntsM lo w Ai ni ∧ LvsM lo w Al nl := by
  refine ⟨IntsM.of h.sh.hids h.hi ht.1, fun j hj => ?_⟩
  obtain ⟨vs, h1, h2, h3⟩ := h.hv
  obtain ⟨b, o, rfl, hb, hc⟩ := h1.pos (by omega)
  have hjl : j < ll.length := by rw [h.sh.hnl]; exact hj
  obtain ⟨A, c, e, q1, q2, q3⟩ := h2.get hjl
  have hcell := hc j _ e
  exact ⟨b, o, A, _, c, rfl, hcell, by omega, IntsM.of q3 (h3 _ (List.mem_of_getElem? e) A _ c rfl) (ht.2 b o j rfl hj A _ c hcell)⟩

/-- a told tree's rows: no string shares a byte of them -/
def TellsThawed (e : Ending) (w' : World) : Prop := ∀ Ai ni ci Al nl cl er, e = .returned (.tuple #[.agg (shV Ai ni ci Al nl cl), er]) → ThawS w' Ai Al nl

end Go.Proofs.Ytbickllpledlbaa

