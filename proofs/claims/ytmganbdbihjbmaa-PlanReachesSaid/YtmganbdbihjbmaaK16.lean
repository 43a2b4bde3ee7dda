import Derived.Test.YtmganbdbihjbmaaK07
import Derived.Test.YtmganbdbihjbmaaK15
/-
  CONTRACTS of slices.Delete at []int and [][]int, over rows of the call's own.
-/
set_option linter.unusedVariables false
namespace Go.Proofs.Ytmganbdbihjbmaa
open Go.RowKit

set_option maxRecDepth 100000 in
set_option maxHeartbeats 1000000 in
theorem DelI_any (base g n c i p : Nat) (j : Int) (xs : List Value) (w : World) (hj : j = (i : Int) + 1) (hp : p + 1 = n) (hi : i ≤ p) (hn6 : n ≤ 1000000) (h1 : ∀ u ∈ xs, u.oneCell' = true)
    (h : w.ownsRow base 3 1 (.slice (some ⟨g, 0, none⟩) n c) n xs) :
    Calls Try.prog 68 #[.slice (some ⟨g, 0, none⟩) n c, .int .i64 (i : Nat), .int .i64 j] w fun e w' =>
      e = .returned (.slice (some ⟨g, 0, none⟩) p c) ∧ w'.ownsRow base 3 1 (.slice (some ⟨g, 0, none⟩) p c) p (xs.eraseIdx i) ∧ w.grownBy w' (some g) := by
  obtain ⟨i0, hi0, hz0, hz1, hz2⟩ := info_parts intInfo
  obtain ⟨cur, hg, hb, hnc, hm, hcs, ht⟩ := own_rowT h
  have hxl : xs.length = n := by simpa using h.1
  clear h
  rw [maxLen] at hm
  subst hj
  have a1 : ((i : Int) + 1).toNat = i + 1 := by omega
  have a2 : (0 : Int) ≤ (i : Int) + 1 := by omega
  have a3 : (i : Int) + 1 ≤ (n : Int) := by omega
  have a4 : (i : Int) ≤ (i : Int) + 1 := by omega
  have a5 : ¬ (i : Int) = (i : Int) + 1 := by omega
  have a6 : (i : Int) ≤ (c : Int) := by omega
  have a7 : i ≤ i + 1 := by omega
  have a8 : (p : Int) ≤ (n : Int) := by omega
  have a9 : (n : Int) ≤ (c : Int) := by omega
  have a10 : ¬ c = p := by omega
  have a11 : n - p = 1 := by omega
  have hrd : ∀ (A : Option Addr), (A = some ⟨g, i + 1, none⟩ ∨ (p = i ∧ A = some ⟨g, 0, none⟩)) → ∃ ad, A = some ad ∧ ∀ j u, (xs.drop (i + 1))[j]? = some u → w.drew.cell? (ad.add j) = some u := by
    rintro A (rfl | ⟨rfl, rfl⟩)
    · refine ⟨_, rfl, fun j u hu => ?_⟩
      rw [Addr.add_lit]
      rw [← ht, List.getElem?_drop, List.getElem?_take] at hu
      split at hu
      · exact hg.drew.cell (by simpa using hu)
      · cases hu
    · refine ⟨_, rfl, fun j u hu => ?_⟩
      rw [List.drop_of_length_le (by omega)] at hu
      simp at hu
  have hdl : (xs.drop (i + 1)).length = n - (i + 1) := by rw [List.length_drop, hxl]
  have h1d : ∀ u ∈ xs.drop (i + 1), u.oneCell' = true := fun u hu => h1 u (List.mem_of_mem_drop hu)
  have hcl : cur.toList.length = c := by rw [Array.length_toList]; exact hcs
  have hta : (cur.toList.take i ++ (xs.drop (i + 1) ++ cur.toList.drop p)).toArray.size = c := by
    simp only [List.size_toArray, List.length_append, List.length_take, List.length_drop, hcl, hxl]; omega
  have hG : RowC (w.drew.setRow g (cur.toList.take i ++ (xs.drop (i + 1) ++ cur.toList.drop p)).toArray) g 3 _ := hg.drew.row _
  have hclr := run_clear_one (P := Try.prog) (w := w.drew.setRow g (cur.toList.take i ++ (xs.drop (i + 1) ++ cur.toList.drop p)).toArray) 22 0 3 i0 (Value.int .i64 0) Try.underlying22 hi0 hz0 rfl rfl g p (c - p) _ _ hG (by rw [hta]; omega)
  have hown : ∀ w' : World, w' = (w.drew.setRow g (cur.toList.take i ++ (xs.drop (i + 1) ++ cur.toList.drop p)).toArray).setRow g ((cur.toList.take i ++ (xs.drop (i + 1) ++ cur.toList.drop p)).toArray.toList.take p ++ [(Value.int .i64 0)] ++ (cur.toList.take i ++ (xs.drop (i + 1) ++ cur.toList.drop p)).toArray.toList.drop (p + 1)).toArray →
      w'.ownsRow base 3 1 (.slice (some ⟨g, 0, none⟩) p c) p (xs.eraseIdx i) ∧ w.grownBy w' (some g) := by
    rintro w' rfl
    have htl : (cur.toList.take i ++ xs.drop (i + 1)).length = p := by simp only [List.length_append, List.length_take, List.length_drop, hcl, hxl]; omega
    have hte : cur.toList.take i ++ xs.drop (i + 1) = xs.eraseIdx i := by
      rw [List.eraseIdx_eq_take_drop_succ, ← ht, List.take_take, Nat.min_eq_left (by omega)]
    refine ⟨own_ofT (hG.row _) hb (by omega) (by rw [maxLen]; exact hm) ?_ ?_, ((grown_drew w _).trans (grown_setRow _ _ _)).trans (grown_setRow _ _ _)⟩
    · simp only [List.size_toArray, List.length_append, List.length_take, List.length_drop, hcl, hxl, List.length_cons, List.length_nil]; omega
    · rw [List.append_assoc, List.take_append_of_le_length (by simp only [List.length_take, List.length_append, List.length_drop, hcl, hxl]; omega), List.take_take, Nat.min_self, ← List.append_assoc, List.take_append_of_le_length (by omega), List.take_of_length_le (by omega), hte]
  have Hown := Lib.hid hown
  have Hclr := Lib.hid hclr
  clear hown hclr hta hp
  have Hn := Lib.hid (show i + (n - (i + 1)) = p by omega)
  by_cases hci : i + 1 = c
  · obtain rfl : p = i := by omega
    have hclr2 := run_clear_one (P := Try.prog) (w := w.drew) 22 0 3 i0 (Value.int .i64 0) Try.underlying22 hi0 hz0 rfl rfl g p (c - p) _ _ hg.drew (by omega)
    have hown2 : ∀ w' : World, w' = w.drew.setRow g (cur.toList.take p ++ [(Value.int .i64 0)] ++ cur.toList.drop (p + 1)).toArray → w'.ownsRow base 3 1 (.slice (some ⟨g, 0, none⟩) p c) p (xs.eraseIdx p) ∧ w.grownBy w' (some g) := by
      rintro w' rfl
      refine ⟨own_ofT (hg.drew.row _) hb (by omega) (by rw [maxLen]; exact hm) ?_ ?_, (grown_drew w _).trans (grown_setRow _ _ _)⟩
      · simp only [List.size_toArray, List.length_append, List.length_take, List.length_drop, hcl, List.length_cons, List.length_nil]; omega
      · rw [List.append_assoc, List.take_append_of_le_length (by simp only [List.length_take, hcl]; omega), List.take_take, Nat.min_self, List.eraseIdx_eq_take_drop_succ, List.drop_of_length_le (by omega), List.append_nil, ← ht, List.take_take, Nat.min_eq_left (by omega)]
    have Hown2 := Lib.hid hown2
    have Hclr2 := Lib.hid hclr2
    clear hown2 hclr2 hrd Hown Hclr
    go_enter Try.func68, Try.ntmps68
    go_wp2_with fail
    go_still_tail 6, (by kernel_rfl)
    change wpList _ _ _ _ _ w.drew
    go_wp2_with ((with_reducible show wpList _ _ _ (⟨none, Op.call _, _, _, _, _⟩ :: _) _ _); refine wpList_clearT (by kernel_rfl) (.tmp 31) _ rfl _ rfl (Hclr2.out) ?_)
    go_ret
    exact ⟨rfl, Hown2.out _ (by simp [hci])⟩
  · have hci2 : ¬ c = i + 1 := fun e => hci e.symm
    obtain ⟨ad, e1, hcell⟩ := hrd (some ⟨g, i + 1, none⟩) (.inl rfl)
    injection e1 with e1
    subst e1
    have hap := run_append_here (P := Try.prog) (w := w.drew) 22 22 3 i0 Try.underlying22 hi0 hz1 g i c (n - (i + 1)) (c - (i + 1)) p ⟨g, i + 1, none⟩ cur _ _ hg.drew hdl hcell h1d Hn.out (by omega) hcs
    rw [List.append_assoc] at hap
    have Hap := Lib.hid hap
    clear hap hcell hrd
    go_enter Try.func68, Try.ntmps68
    go_wp2_with fail
    go_still_tail 6, (by kernel_rfl)
    change wpList _ _ _ _ _ w.drew
    go_wp2_with (first
      | (at_builtin; refine wpList_appendT (by kernel_rfl) (.tmp 22) (.tmp 25) _ _ rfl _ _ rfl rfl (Hap.out) ?_)
      | ((with_reducible show wpList _ _ _ (⟨none, Op.call _, _, _, _, _⟩ :: _) _ _); refine wpList_clearT (by kernel_rfl) (.tmp 31) _ rfl _ rfl (Hclr.out) ?_))
    go_ret
    exact ⟨rfl, Hown.out _ (by simp)⟩

set_option maxRecDepth 100000 in
set_option maxHeartbeats 1000000 in
theorem DelL_any (base g n c i p : Nat) (j : Int) (xs : List Value) (w : World) (hj : j = (i : Int) + 1) (hp : p + 1 = n) (hi : i ≤ p) (hn6 : n ≤ 1000000) (h1 : ∀ u ∈ xs, u.oneCell' = true)
    (h : w.ownsRow base 22 1 (.slice (some ⟨g, 0, none⟩) n c) n xs) :
    Calls Try.prog 69 #[.slice (some ⟨g, 0, none⟩) n c, .int .i64 (i : Nat), .int .i64 j] w fun e w' =>
      e = .returned (.slice (some ⟨g, 0, none⟩) p c) ∧ w'.ownsRow base 22 1 (.slice (some ⟨g, 0, none⟩) p c) p (xs.eraseIdx i) ∧ w.grownBy w' (some g) := by
  obtain ⟨i0, hi0, hz0, hz1, hz2⟩ := info_parts listInfo
  obtain ⟨cur, hg, hb, hnc, hm, hcs, ht⟩ := own_rowT h
  have hxl : xs.length = n := by simpa using h.1
  clear h
  rw [maxLen] at hm
  subst hj
  have a1 : ((i : Int) + 1).toNat = i + 1 := by omega
  have a2 : (0 : Int) ≤ (i : Int) + 1 := by omega
  have a3 : (i : Int) + 1 ≤ (n : Int) := by omega
  have a4 : (i : Int) ≤ (i : Int) + 1 := by omega
  have a5 : ¬ (i : Int) = (i : Int) + 1 := by omega
  have a6 : (i : Int) ≤ (c : Int) := by omega
  have a7 : i ≤ i + 1 := by omega
  have a8 : (p : Int) ≤ (n : Int) := by omega
  have a9 : (n : Int) ≤ (c : Int) := by omega
  have a10 : ¬ c = p := by omega
  have a11 : n - p = 1 := by omega
  have hrd : ∀ (A : Option Addr), (A = some ⟨g, i + 1, none⟩ ∨ (p = i ∧ A = some ⟨g, 0, none⟩)) → ∃ ad, A = some ad ∧ ∀ j u, (xs.drop (i + 1))[j]? = some u → w.drew.cell? (ad.add j) = some u := by
    rintro A (rfl | ⟨rfl, rfl⟩)
    · refine ⟨_, rfl, fun j u hu => ?_⟩
      rw [Addr.add_lit]
      rw [← ht, List.getElem?_drop, List.getElem?_take] at hu
      split at hu
      · exact hg.drew.cell (by simpa using hu)
      · cases hu
    · refine ⟨_, rfl, fun j u hu => ?_⟩
      rw [List.drop_of_length_le (by omega)] at hu
      simp at hu
  have hdl : (xs.drop (i + 1)).length = n - (i + 1) := by rw [List.length_drop, hxl]
  have h1d : ∀ u ∈ xs.drop (i + 1), u.oneCell' = true := fun u hu => h1 u (List.mem_of_mem_drop hu)
  have hcl : cur.toList.length = c := by rw [Array.length_toList]; exact hcs
  have hta : (cur.toList.take i ++ (xs.drop (i + 1) ++ cur.toList.drop p)).toArray.size = c := by
    simp only [List.size_toArray, List.length_append, List.length_take, List.length_drop, hcl, hxl]; omega
  have hG : RowC (w.drew.setRow g (cur.toList.take i ++ (xs.drop (i + 1) ++ cur.toList.drop p)).toArray) g 22 _ := hg.drew.row _
  have hclr := run_clear_one (P := Try.prog) (w := w.drew.setRow g (cur.toList.take i ++ (xs.drop (i + 1) ++ cur.toList.drop p)).toArray) 23 0 22 i0 (Value.slice none 0 0) Try.underlying23 hi0 hz0 rfl rfl g p (c - p) _ _ hG (by rw [hta]; omega)
  have hown : ∀ w' : World, w' = (w.drew.setRow g (cur.toList.take i ++ (xs.drop (i + 1) ++ cur.toList.drop p)).toArray).setRow g ((cur.toList.take i ++ (xs.drop (i + 1) ++ cur.toList.drop p)).toArray.toList.take p ++ [(Value.slice none 0 0)] ++ (cur.toList.take i ++ (xs.drop (i + 1) ++ cur.toList.drop p)).toArray.toList.drop (p + 1)).toArray →
      w'.ownsRow base 22 1 (.slice (some ⟨g, 0, none⟩) p c) p (xs.eraseIdx i) ∧ w.grownBy w' (some g) := by
    rintro w' rfl
    have htl : (cur.toList.take i ++ xs.drop (i + 1)).length = p := by simp only [List.length_append, List.length_take, List.length_drop, hcl, hxl]; omega
    have hte : cur.toList.take i ++ xs.drop (i + 1) = xs.eraseIdx i := by
      rw [List.eraseIdx_eq_take_drop_succ, ← ht, List.take_take, Nat.min_eq_left (by omega)]
    refine ⟨own_ofT (hG.row _) hb (by omega) (by rw [maxLen]; exact hm) ?_ ?_, ((grown_drew w _).trans (grown_setRow _ _ _)).trans (grown_setRow _ _ _)⟩
    · simp only [List.size_toArray, List.length_append, List.length_take, List.length_drop, hcl, hxl, List.length_cons, List.length_nil]; omega
    · rw [List.append_assoc, List.take_append_of_le_length (by simp only [List.length_take, List.length_append, List.length_drop, hcl, hxl]; omega), List.take_take, Nat.min_self, ← List.append_assoc, List.take_append_of_le_length (by omega), List.take_of_length_le (by omega), hte]
  have Hown := Lib.hid hown
  have Hclr := Lib.hid hclr
  clear hown hclr hta hp
  have Hn := Lib.hid (show i + (n - (i + 1)) = p by omega)
  by_cases hci : i + 1 = c
  · obtain rfl : p = i := by omega
    have hclr2 := run_clear_one (P := Try.prog) (w := w.drew) 23 0 22 i0 (Value.slice none 0 0) Try.underlying23 hi0 hz0 rfl rfl g p (c - p) _ _ hg.drew (by omega)
    have hown2 : ∀ w' : World, w' = w.drew.setRow g (cur.toList.take p ++ [(Value.slice none 0 0)] ++ cur.toList.drop (p + 1)).toArray → w'.ownsRow base 22 1 (.slice (some ⟨g, 0, none⟩) p c) p (xs.eraseIdx p) ∧ w.grownBy w' (some g) := by
      rintro w' rfl
      refine ⟨own_ofT (hg.drew.row _) hb (by omega) (by rw [maxLen]; exact hm) ?_ ?_, (grown_drew w _).trans (grown_setRow _ _ _)⟩
      · simp only [List.size_toArray, List.length_append, List.length_take, List.length_drop, hcl, List.length_cons, List.length_nil]; omega
      · rw [List.append_assoc, List.take_append_of_le_length (by simp only [List.length_take, hcl]; omega), List.take_take, Nat.min_self, List.eraseIdx_eq_take_drop_succ, List.drop_of_length_le (by omega), List.append_nil, ← ht, List.take_take, Nat.min_eq_left (by omega)]
    have Hown2 := Lib.hid hown2
    have Hclr2 := Lib.hid hclr2
    clear hown2 hclr2 hrd Hown Hclr
    go_enter Try.func69, Try.ntmps69
    go_wp2_with fail
    go_still_tail 6, (by kernel_rfl)
    change wpList _ _ _ _ _ w.drew
    go_wp2_with ((with_reducible show wpList _ _ _ (⟨none, Op.call _, _, _, _, _⟩ :: _) _ _); refine wpList_clearT (by kernel_rfl) (.tmp 31) _ rfl _ rfl (Hclr2.out) ?_)
    go_ret
    exact ⟨rfl, Hown2.out _ (by simp [hci])⟩
  · have hci2 : ¬ c = i + 1 := fun e => hci e.symm
    obtain ⟨ad, e1, hcell⟩ := hrd (some ⟨g, i + 1, none⟩) (.inl rfl)
    injection e1 with e1
    subst e1
    have hap := run_append_here (P := Try.prog) (w := w.drew) 23 23 22 i0 Try.underlying23 hi0 hz1 g i c (n - (i + 1)) (c - (i + 1)) p ⟨g, i + 1, none⟩ cur _ _ hg.drew hdl hcell h1d Hn.out (by omega) hcs
    rw [List.append_assoc] at hap
    have Hap := Lib.hid hap
    clear hap hcell hrd
    go_enter Try.func69, Try.ntmps69
    go_wp2_with fail
    go_still_tail 6, (by kernel_rfl)
    change wpList _ _ _ _ _ w.drew
    go_wp2_with (first
      | (at_builtin; refine wpList_appendT (by kernel_rfl) (.tmp 22) (.tmp 25) _ _ rfl _ _ rfl rfl (Hap.out) ?_)
      | ((with_reducible show wpList _ _ _ (⟨none, Op.call _, _, _, _, _⟩ :: _) _ _); refine wpList_clearT (by kernel_rfl) (.tmp 31) _ rfl _ rfl (Hclr.out) ?_))
    go_ret
    exact ⟨rfl, Hown.out _ (by simp)⟩

end Go.Proofs.Ytmganbdbihjbmaa

/-
  CONTRACTS of slices.Clone and slices.Insert (of one number) at []int, over rows of the call's own.
-/
set_option linter.unusedVariables false
namespace Go.Proofs.Ytmganbdbihjbmaa
open Go.RowKit

theorem Clone_any (A : Option Addr) (n c : Nat) (xs : List Value) (w : World) (hc : n ≤ c) (hn6 : n ≤ 1000000) (h1 : ∀ u ∈ xs, u.oneCell' = true) (h : Rd w w.heap.size A n xs) :
    Calls Try.prog 48 #[.slice A n c] w fun e w' => ∃ A' c', e = .returned (.slice A' n c') ∧ w'.ownsRow w.heap.size 3 1 (.slice A' n c') n xs ∧ Below w.heap.size w w' := by
  obtain ⟨i0, hi0, hz0, hz1, hz2⟩ := info_parts intInfo
  have qn : ∀ (w : World) (A : Option Addr) (n c : Nat), (binOp .eql 22 (.slice A n c) (.slice none 0 0)).run Try.prog w = .ok (.bool A.isNone) w := fun w A n c => Lib.run_eql_slice_nil w _ _ A n c 0 0 Try.underlying22
  go_enter Try.func48, Try.ntmps48
  rcases A with _ | ad
  · have hn0 : n = 0 := by
      rcases Nat.eq_zero_or_pos n with h0 | h0
      · exact h0
      · obtain ⟨b, o, e, _⟩ := h.pos h0
        cases e
    subst hn0
    obtain rfl := List.eq_nil_of_length_eq_zero h.len
    go_wp2_with fail
    go_ret
    exact ⟨none, 0, rfl, World.ownsRow_nil _ _ _ _, Below.refl _ _⟩
  · have hown := own_new w w.heap.size 3 #[] (Nat.le_refl _) (by simp)
    go_wp2_with (at_builtin; refine wpList_append_rd _ rfl (.tmp 5) (.tmp 6) _ rfl w.heap.size 3 i0 _ 8 Try.underlying22 hi0 hz0 hz1 hz2 rfl _ 0 [] rfl hown w.heap.size (some ad) n c xs rfl (h.alloc (Nat.le_refl _) _) h1 (by simp only [maxLen]; omega) (by omega) (by simp) ?_; intro v3 w3 hown3 hgr3 hat3)
    go_ret
    obtain ⟨A', c', rfl, _, _⟩ := own_form hown3
    rw [Nat.zero_add, List.nil_append] at hown3
    rw [Nat.zero_add]
    exact ⟨A', c', rfl, hown3, ((Below.refl _ _).alloc (Nat.le_refl _) _).grown hgr3 (by simp) (fun k hk => by have := own_blockT hown k hk; omega)⟩

/-- what an insertion leaves -/
def InsOf (w : World) (base : Nat) (A : Option Addr) (n : Nat) (xs : List Value) (e : Ending) (w' : World) : Prop :=
  ∃ A' c', e = .returned (.slice A' n c') ∧ w'.ownsRow base 3 1 (.slice A' n c') n xs ∧ w.grownBy w' (A.map (·.block)) ∧ (A'.map (·.block) = A.map (·.block) ∨ ∀ ad, A' = some ad → w.heap.size ≤ ad.block)

set_option maxRecDepth 100000 in
theorem InsI_end (base : Nat) (A : Option Addr) (n c vb : Nat) (x : Value) (xs : List Value) (w : World) (hn6 : n ≤ 1000000) (hbase : base ≤ w.heap.size) (h1x : x.oneCell' = true)
    (h : w.ownsRow base 3 1 (.slice A n c) n xs) (hv : RowC w vb 3 #[x]) :
    Calls Try.prog 63 #[.slice A n c, .int .i64 (n : Nat), .slice (some ⟨vb, 0, none⟩) 1 1] w (InsOf w base A (n + 1) (xs ++ [x])) := by
  obtain ⟨i0, hi0, hz0, hz1, hz2⟩ := info_parts intInfo
  obtain ⟨_, _, e0, hc, hm⟩ := own_formT h
  injection e0 with e1 e2 e3
  subst e1 e3
  rw [maxLen] at hm
  have hrd : Rd w w.heap.size (some ⟨vb, 0, none⟩) 1 [x] := ⟨rfl, fun _ => ⟨vb, 0, rfl, hv.lt, fun j u hu => by
    rw [Nat.zero_add]
    exact hv.cell (by simpa using hu)⟩⟩
  have hpost : ∀ v' w', w'.ownsRow base 3 1 v' (n + 1) (xs ++ [x]) → w.grownBy w' (Value.slice A n c).ownBlock → (v'.ownBlock = (Value.slice A n c).ownBlock ∨ v'.ownBlock = some w.heap.size) → InsOf w base A (n + 1) (xs ++ [x]) (.returned v') w' := by
    intro v' w' h1 h2 h3
    obtain ⟨A', c', rfl, _, _⟩ := own_form h1
    have eb : ∀ (A : Option Addr) n c, (Value.slice A n c).ownBlock = A.map (·.block) := fun A n c => by cases A <;> rfl
    rw [eb] at h2 h3
    rw [eb] at h3
    refine ⟨A', c', rfl, h1, h2, ?_⟩
    rcases h3 with h3 | h3
    · exact .inl h3
    · right
      rintro ad rfl
      simp at h3
      omega
  have Hpost := Lib.hid hpost
  clear hpost
  generalize InsOf w base A (n + 1) (xs ++ [x]) = PO at *
  have q1 : (n : Int) ≤ (n : Int) := by omega
  go_enter Try.func63, Try.ntmps63
  by_cases hcn : c = n
  · have hz : ∀ z : Int, (z == z) = true := fun z => by simp
    go_wp2_with (at_builtin; refine wpList_append_rd _ rfl (.tmp 23) (.tmp 24) _ rfl base 3 i0 _ 8 Try.underlying22 hi0 hz0 hz1 hz2 rfl _ n xs rfl h w.heap.size _ 1 1 [x] rfl hrd (by simpa using h1x) (by simp only [maxLen]; omega) (by omega) hbase ?_; intro v3 w3 hown3 hgr3 hat3)
    exact Hpost.out _ _ hown3 hgr3 hat3
  · have hz : ∀ z : Int, (z == z) = true := fun z => by simp
    go_wp2_with (at_builtin; refine wpList_append_rd _ rfl (.tmp 23) (.tmp 24) _ rfl base 3 i0 _ 8 Try.underlying22 hi0 hz0 hz1 hz2 rfl _ n xs rfl h w.heap.size _ 1 1 [x] rfl hrd (by simpa using h1x) (by simp only [maxLen]; omega) (by omega) hbase ?_; intro v3 w3 hown3 hgr3 hat3)
    exact Hpost.out _ _ hown3 hgr3 hat3

end Go.Proofs.Ytmganbdbihjbmaa

