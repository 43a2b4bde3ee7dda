import Derived.Test.YtmganbdbihjbmaaK16
import Derived.Laws.Externs
/-
  CONTRACT of slices.Insert (of one number, ahead of the end) at []int, where there is room.
-/
set_option linter.unusedVariables false
namespace Go.Proofs.Ytmganbdbihjbmaa
open Go.RowKit

set_option maxRecDepth 100000 in
set_option maxHeartbeats 2000000 in
theorem InsI_room (base g n c i vb : Nat) (x : Value) (xs : List Value) (w : World) (hn6 : n ≤ 1000000) (hin : i < n) (hroom : n + 1 ≤ c) (h1x : x.oneCell' = true) (h1 : ∀ u ∈ xs, u.oneCell' = true)
    (h : w.ownsRow base 3 1 (.slice (some ⟨g, 0, none⟩) n c) n xs) (hv : RowC w vb 3 #[x]) (hne : vb ≠ g) :
    Calls Try.prog 63 #[.slice (some ⟨g, 0, none⟩) n c, .int .i64 (i : Nat), .slice (some ⟨vb, 0, none⟩) 1 1] w (InsOf w base (some ⟨g, 0, none⟩) (n + 1) (xs.take i ++ x :: xs.drop i)) := by
  obtain ⟨i0, hi0, hz0, hz1, hz2⟩ := info_parts intInfo
  have hsz : (Try.prog.info? 3).map (·.size) = some 1 := by rw [hi0]; simp [hz1]
  obtain ⟨cur, hg, hb, hnc, hm, hcs, ht⟩ := own_rowT h
  have hxl : xs.length = n := by simpa using h.1
  clear h
  rw [maxLen] at hm
  have hcl : cur.toList.length = c := by rw [Array.length_toList]; exact hcs
  have hov : ∀ lb cb, (callFunc 77 #[.slice (some ⟨vb, 0, none⟩) 1 1, .slice (some ⟨g, i + 1, none⟩) lb cb]).run Try.prog w = .ok (.value (.bool false)) w := fun lb cb => by
    rw [run_callFunc_extern Try.func77 (by kernel_rfl) (by kernel_rfl) (by kernel_rfl) (e := Extern.SlicesOverlaps.overlaps #[22, 22] #[4]) (by kernel_rfl),
      Lib.run_overlaps_apart w 22 4 3 Try.underlying22 1 (fun w => by simp [sizeOf, typeInfo, hi0, hz1]) ⟨vb, 0, none⟩ ⟨g, i + 1, none⟩ 1 1 lb cb hne 3 3 1 c (by simp [World.shape?, hv.at_]) (by simp [World.shape?, hg.at_, hcs]) (by omega) (hv.frozen _) (hv.frozen _)]
    rfl
  have hxd : (xs.drop i).length = n - i := by rw [List.length_drop, hxl]
  have h1d : ∀ u ∈ xs.drop i, u.oneCell' = true := fun u hu => h1 u (List.mem_of_mem_drop hu)
  obtain ⟨C1, hC1⟩ : ∃ C1, C1 = cur.toList.take (i + 1) ++ xs.drop i ++ cur.toList.drop (n + 1) := ⟨_, rfl⟩
  have hC1l : C1.length = c := by rw [hC1]; simp only [List.length_append, List.length_take, List.length_drop, hcl, hxl]; omega
  have hcp1 : ∀ ty dl dc sl sc, dl = n - i → n - i ≤ sl → (Builtin.copy_ #[22, 22] ty #[.slice (some ⟨g, i + 1, none⟩) dl dc, .slice (some ⟨g, i, none⟩) sl sc]).run Try.prog w.drew = .ok (.int .i64 ((n - i : Nat) : Int)) (w.drew.setRow g C1.toArray) := by
    rintro ty dl dc sl sc rfl hsl
    have := run_copy_row (P := Try.prog) w.drew 22 22 ty 3 g (i + 1) (n - i) dc ⟨g, i, none⟩ sl sc cur 3 (xs.drop i) Try.underlying22 hsz hg (by rw [hxd]; exact (Nat.min_eq_right hsl).symm) (fun j u hu => by
      rw [Addr.add_lit]
      rw [← ht, List.getElem?_drop, List.getElem?_take] at hu
      split at hu
      · exact hg.drew.cell (by simpa using hu)
      · cases hu) (by rw [hxd]; omega) h1d
    rw [this, hxd, hC1, show i + 1 + (n - i) = n + 1 by omega]
    rfl
  have hG1 : RowC (w.drew.setRow g C1.toArray) g 3 C1.toArray := hg.drew.row _
  have hcp2 : ∀ ty dl dc, 1 ≤ dl → (Builtin.copy_ #[22, 22] ty #[.slice (some ⟨g, i, none⟩) dl dc, .slice (some ⟨vb, 0, none⟩) 1 1]).run Try.prog (w.drew.setRow g C1.toArray) = .ok (.int .i64 1) ((w.drew.setRow g C1.toArray).setRow g (C1.take i ++ [x] ++ C1.drop (i + 1)).toArray) := by
    intro ty dl dc hdl
    have := run_copy_row (P := Try.prog) (w.drew.setRow g C1.toArray) 22 22 ty 3 g i dl dc ⟨vb, 0, none⟩ 1 1 C1.toArray 3 [x] Try.underlying22 hsz hG1 (by simp only [List.length_cons, List.length_nil]; exact (Nat.min_eq_left hdl).symm) (fun j u hu => by
      rw [Addr.add_lit, Nat.zero_add]
      exact (hv.drew.rowFar hne _).cell (by simpa using hu)) (by simp; omega) (by simpa using h1x)
    rw [this]
    rfl
  have hown : ∀ w' : World, w' = (w.drew.setRow g C1.toArray).setRow g (C1.take i ++ [x] ++ C1.drop (i + 1)).toArray → InsOf w base (some ⟨g, 0, none⟩) (n + 1) (xs.take i ++ x :: xs.drop i) (.returned (.slice (some ⟨g, 0, none⟩) (n + 1) c)) w' := by
    rintro w' rfl
    have e1 : C1.take i = xs.take i := by
      rw [hC1, List.append_assoc, List.take_append_of_le_length (by simp only [List.length_take, hcl]; omega), List.take_take, ← ht, List.take_take]
      congr 1
      omega
    have e2 : C1.drop (i + 1) = xs.drop i ++ cur.toList.drop (n + 1) := by
      rw [hC1, List.append_assoc, List.drop_append_of_le_length (by simp only [List.length_take, hcl]; omega), List.drop_of_length_le (by simp only [List.length_take, hcl]; omega), List.nil_append]
    refine ⟨_, _, rfl, own_ofT (hG1.row _) hb hroom (by rw [maxLen]; exact hm) ?_ ?_, ((grown_drew w _).trans (grown_setRow _ _ _)).trans (grown_setRow _ _ _), .inl rfl⟩
    · simp only [List.size_toArray, List.length_append, List.length_take, List.length_drop, hC1l, List.length_cons, List.length_nil]; omega
    · rw [e1, e2, ← List.append_assoc]
      show ((xs.take i ++ [x] ++ xs.drop i) ++ cur.toList.drop (n + 1)).take (n + 1) = _
      rw [List.take_append_of_le_length (by simp only [List.length_append, List.length_take, List.length_drop, hxl, List.length_cons, List.length_nil]; omega), List.take_of_length_le (by simp only [List.length_append, List.length_take, List.length_drop, hxl, List.length_cons, List.length_nil]; omega)]
      simp
  have Hown := Lib.hid hown
  have Hcp1 := Lib.hid hcp1
  have Hcp2 := Lib.hid hcp2
  clear hown hcp1 hcp2 hC1 hC1l hG1
  generalize InsOf w base (some ⟨g, 0, none⟩) (n + 1) (xs.take i ++ x :: xs.drop i) = PO at *
  have a1 : ¬ c = i := by omega
  have a2 : ¬ c = i + 1 := by omega
  have a3 : ¬ (i : Int) = (n : Int) := by omega
  have a4 : IntKind.i64.wrap ((n : Int) + 1) = (n : Int) + 1 := by rw [IntKind.wrap_i64]; omega
  have a5 : IntKind.i64.wrap ((i : Int) + 1) = (i : Int) + 1 := by rw [IntKind.wrap_i64]; omega
  have a6 : ¬ (c : Int) < (n : Int) + 1 := by omega
  have a7 : ((n : Int) + 1).toNat = n + 1 := by omega
  have a8 : ((i : Int) + 1).toNat = i + 1 := by omega
  have a9 : (0 : Int) ≤ (n : Int) + 1 := by omega
  have a10 : (n : Int) + 1 ≤ (c : Int) := by omega
  have a11 : (0 : Int) ≤ (i : Int) + 1 := by omega
  have a12 : (i : Int) + 1 ≤ (n : Int) + 1 := by omega
  have a13 : (i : Int) ≤ (n : Int) + 1 := by omega
  have a14 : (i : Int) ≤ (n : Int) := by omega
  go_enter Try.func63, Try.ntmps63
  go_wp2_with (simp only [hov])
  go_still_tail 8, (by kernel_rfl)
  change wpList _ _ _ _ _ w.drew
  go_wp2_with (first
    | ((with_reducible show wpList _ _ _ (⟨some 77, _, _, _, _, _⟩ :: _) _ _); refine wpList_copyT (by kernel_rfl) (.tmp 73) (.tmp 76) _ _ rfl _ _ rfl rfl (Hcp1.out _ _ _ _ _ rfl (by omega)) ?_)
    | ((with_reducible show wpList _ _ _ (⟨some 82, _, _, _, _, _⟩ :: _) _ _); refine wpList_copyT (by kernel_rfl) (.tmp 80) (.tmp 81) _ _ rfl _ _ rfl rfl (Hcp2.out _ _ _ (by omega)) ?_))
  refine Hown.out _ ?_
  simp

end Go.Proofs.Ytmganbdbihjbmaa

/-
  CONTRACT of slices.Insert (of one number) at []int: where there is no room, and all together.
-/
set_option linter.unusedVariables false
namespace Go.Proofs.Ytmganbdbihjbmaa
open Go.RowKit

theorem zero_size (z : Value) (k : Nat) (h : z.cells.size = 1) : (Builtin.zeroCells z.cells k).size = k := by simp [Builtin.zeroCells, h]

set_option maxRecDepth 100000 in
set_option maxHeartbeats 2000000 in
theorem InsI_grow (base g n c i vb : Nat) (x : Value) (xs : List Value) (w : World) (hn6 : n ≤ 1000000) (hin : i < n) (hcn : c = n) (h1x : x.oneCell' = true) (h1 : ∀ u ∈ xs, u.oneCell' = true) (hbase : base ≤ w.heap.size)
    (h : w.ownsRow base 3 1 (.slice (some ⟨g, 0, none⟩) n c) n xs) (hv : RowC w vb 3 #[x]) (hne : vb ≠ g) :
    Calls Try.prog 63 #[.slice (some ⟨g, 0, none⟩) n c, .int .i64 (i : Nat), .slice (some ⟨vb, 0, none⟩) 1 1] w (InsOf w base (some ⟨g, 0, none⟩) (n + 1) (xs.take i ++ x :: xs.drop i)) := by
  obtain ⟨i0, hi0, hz0, hz1, hz2⟩ := info_parts intInfo
  have hsz : (Try.prog.info? 3).map (·.size) = some 1 := by rw [hi0]; simp [hz1]
  obtain ⟨cur, hg, hb, hnc, hm, hcs, ht⟩ := own_rowT h
  have hxl : xs.length = n := by simpa using h.1
  clear h
  rw [maxLen] at hm
  have hcl : cur.toList.length = c := by rw [Array.length_toList]; exact hcs
  have htl : (xs.take i).length = i := by rw [List.length_take, hxl]; omega
  have hold : (Builtin.firstCells i0.size i (.slice (some ⟨g, 0, none⟩) i c)).run Try.prog w.drew = .ok (xs.take i).toArray w.drew := by
    rw [hz1]
    refine run_firstCells_some w.drew 1 i ⟨g, 0, none⟩ i c (xs.take i) (by rw [htl]; omega) (fun j u hu => ?_)
    rw [Addr.add_lit, Nat.zero_add]
    rw [← ht, List.take_take, List.getElem?_take] at hu
    split at hu
    · exact hg.drew.cell (by simpa using hu)
    · cases hu
  have hgw := grownCap_ge w (n + 1) c 3
  have hgl := grownCap_le_maxLen w (n + 1) c 3 (by simp only [maxLen]; omega)
  have hap : ∀ ty, (Builtin.append_ #[22, 3] ty #[.slice (some ⟨g, 0, none⟩) i c, .int .i64 ((n + 1 - i : Nat) : Int)]).run Try.prog w =
      .ok (.slice (some ⟨w.heap.size, 0, none⟩) (n + 1) (grownCap w (n + 1) c 3)) (w.drew.alloc (.cells ((xs.take i).toArray ++ Builtin.zeroCells (Value.int .i64 0).cells (n + 1 - i) ++ Builtin.zeroCells (Value.int .i64 0).cells (grownCap w (n + 1) c 3 - (n + 1))) 3)) := by
    intro ty
    have := Lib.run_append_grow_zeros (P := Try.prog) w 22 3 ty 3 i0 _ .i64 .i64 Try.underlying22 Try.underlying3 hi0 hz0 (some ⟨g, 0, none⟩) i c (xs.take i) hold (n + 1 - i) (by omega) (by rw [hz1]; omega) (by omega) (by omega) (by rw [hz2]; omega)
      (by rw [hz2]; have := nextslicecap_le (need := i + (n + 1 - i)) (old := c) (by omega); omega)
    rw [show i + (n + 1 - i) = n + 1 by omega] at this
    exact this
  generalize grownCap w (n + 1) c 3 = cap at *
  obtain ⟨C0, hC0⟩ : ∃ C0, C0 = (xs.take i).toArray ++ Builtin.zeroCells (Value.int .i64 0).cells (n + 1 - i) ++ Builtin.zeroCells (Value.int .i64 0).cells (cap - (n + 1)) := ⟨_, rfl⟩
  rw [← hC0] at hap
  have hC0l : C0.toList.length = cap := by
    rw [hC0, Array.length_toList, Array.size_append, Array.size_append, zero_size _ _ rfl, zero_size _ _ rfl, List.size_toArray, htl]
    omega
  have hC0t : C0.toList.take i = xs.take i := by
    rw [hC0, Array.toList_append, Array.toList_append, List.append_assoc, List.take_append_of_le_length (by rw [List.toList_toArray, htl]; exact Nat.le_refl _), List.toList_toArray, List.take_of_length_le (by omega)]
  clear hC0
  have hgG : g < w.heap.size := hg.lt
  have hvG : vb < w.heap.size := hv.lt
  obtain ⟨G, hGe⟩ : ∃ G, G = w.heap.size := ⟨_, rfl⟩
  rw [← hGe] at hap hgG hvG
  obtain ⟨w1, hw1⟩ : ∃ w1, w1 = w.drew.alloc (.cells C0 3) := ⟨_, rfl⟩
  rw [← hw1] at hap
  have hG1 : RowC w1 G 3 C0 := by rw [hw1, hGe]; exact RowC.new w.drew 3 C0
  have hg1 : RowC w1 g 3 cur := by rw [hw1]; exact hg.drew.alloc _
  have hv1 : RowC w1 vb 3 #[x] := by rw [hw1]; exact hv.drew.alloc _
  have hgr1 : ∀ row, w.grownBy w1 row := fun row => by rw [hw1]; exact (grown_drew w _).trans (World.grownBy_alloc _ _ _)
  obtain ⟨C1, hC1⟩ : ∃ C1, C1 = C0.toList.take i ++ [x] ++ C0.toList.drop (i + 1) := ⟨_, rfl⟩
  have hC1l : C1.length = cap := by rw [hC1]; simp only [List.length_append, List.length_take, List.length_drop, hC0l, List.length_cons, List.length_nil]; omega
  have hcp1 : ∀ ty dl dc, 1 ≤ dl → (Builtin.copy_ #[22, 22] ty #[.slice (some ⟨G, i, none⟩) dl dc, .slice (some ⟨vb, 0, none⟩) 1 1]).run Try.prog w1 = .ok (.int .i64 1) (w1.setRow G C1.toArray) := by
    intro ty dl dc hdl
    have := run_copy_row (P := Try.prog) w1 22 22 ty 3 G i dl dc ⟨vb, 0, none⟩ 1 1 C0 3 [x] Try.underlying22 hsz hG1 (by simp only [List.length_cons, List.length_nil]; exact (Nat.min_eq_left hdl).symm) (fun j u hu => by
      rw [Addr.add_lit, Nat.zero_add]
      exact hv1.cell (by simpa using hu)) (by rw [← Array.length_toList, hC0l]; simp; omega) (by simpa using h1x)
    rw [this, hC1]
    rfl
  have hG2 : RowC (w1.setRow G C1.toArray) G 3 C1.toArray := hG1.row _
  have hg2 : RowC (w1.setRow G C1.toArray) g 3 cur := hg1.rowFar (by omega) _
  have hxd : (xs.drop i).length = n - i := by rw [List.length_drop, hxl]
  have h1d : ∀ u ∈ xs.drop i, u.oneCell' = true := fun u hu => h1 u (List.mem_of_mem_drop hu)
  have hcp2 : ∀ ty dl dc sl sc, n - i ≤ dl → sl = n - i → (Builtin.copy_ #[22, 22] ty #[.slice (some ⟨G, i + 1, none⟩) dl dc, .slice (some ⟨g, i, none⟩) sl sc]).run Try.prog (w1.setRow G C1.toArray).drew = .ok (.int .i64 ((n - i : Nat) : Int)) ((w1.setRow G C1.toArray).drew.setRow G (C1.take (i + 1) ++ xs.drop i ++ C1.drop (n + 1)).toArray) := by
    rintro ty dl dc sl sc hdl rfl
    have := run_copy_row (P := Try.prog) (w1.setRow G C1.toArray).drew 22 22 ty 3 G (i + 1) dl dc ⟨g, i, none⟩ (n - i) sc C1.toArray 3 (xs.drop i) Try.underlying22 hsz hG2 (by rw [hxd]; exact (Nat.min_eq_left hdl).symm) (fun j u hu => by
      rw [Addr.add_lit]
      rw [← ht, List.getElem?_drop, List.getElem?_take] at hu
      split at hu
      · exact hg2.drew.cell (by simpa using hu)
      · cases hu) (by rw [hxd, List.size_toArray]; omega) h1d
    rw [this, hxd, show i + 1 + (n - i) = n + 1 by omega]
    rfl
  have hown : ∀ w' : World, w' = (w1.setRow G C1.toArray).drew.setRow G (C1.take (i + 1) ++ xs.drop i ++ C1.drop (n + 1)).toArray → InsOf w base (some ⟨g, 0, none⟩) (n + 1) (xs.take i ++ x :: xs.drop i) (.returned (.slice (some ⟨G, 0, none⟩) (n + 1) cap)) w' := by
    rintro w' rfl
    have e1 : C1.take (i + 1) = xs.take i ++ [x] := by
      have hl : (C0.toList.take i ++ [x]).length = i + 1 := by simp only [List.length_append, List.length_take, hC0l, List.length_cons, List.length_nil]; omega
      rw [hC1, List.take_append_of_le_length (by omega), List.take_of_length_le (by omega), hC0t]
    have hgr : w.grownBy ((w1.setRow G C1.toArray).drew.setRow G (C1.take (i + 1) ++ xs.drop i ++ C1.drop (n + 1)).toArray) ((some (⟨g, 0, none⟩ : Addr)).map (·.block)) := by
      have q := hgr1 ((some (⟨g, 0, none⟩ : Addr)).map (·.block))
      refine ⟨q.os, q.tape, q.output, by rw [size_setRowT', drew_size', size_setRowT']; exact q.size, fun k hk hne2 => ?_⟩
      rw [setRow_other _ _ _ _ (by omega)]
      show (w1.setRow G C1.toArray).heap[k]? = _
      rw [setRow_other _ _ _ _ (by omega)]
      exact q.block k hk hne2
    refine ⟨_, _, rfl, own_ofT (hG2.drew.row _) (by omega) hgw hgl ?_ ?_, hgr, .inr (fun ad e => by injection e with e; subst e; show w.heap.size ≤ G; omega)⟩
    · simp only [List.size_toArray, List.length_append, List.length_take, List.length_drop, hC1l, hxl]; omega
    · rw [e1]
      show ((xs.take i ++ [x] ++ xs.drop i) ++ C1.drop (n + 1)).take (n + 1) = _
      rw [List.take_append_of_le_length (by simp only [List.length_append, List.length_take, List.length_drop, hxl, List.length_cons, List.length_nil]; omega), List.take_of_length_le (by simp only [List.length_append, List.length_take, List.length_drop, hxl, List.length_cons, List.length_nil]; omega)]
      simp
  have Hown := Lib.hid hown
  have Hcp1 := Lib.hid hcp1
  have Hcp2 := Lib.hid hcp2
  have Hap := Lib.hid hap
  clear hown hcp1 hcp2 hap hC1 hC1l hG1 hG2 hg2 hg1 hv1 hgr1 hw1 hGe hC0l hC0t
  generalize InsOf w base (some ⟨g, 0, none⟩) (n + 1) (xs.take i ++ x :: xs.drop i) = PO at *
  have a1 : ¬ c = i := by omega
  have a2 : ¬ cap = i + 1 := by omega
  have a2' : ¬ cap = i := by omega
  have a3 : ¬ (i : Int) = (n : Int) := by omega
  have a4 : IntKind.i64.wrap ((n : Int) + 1) = (n : Int) + 1 := by rw [IntKind.wrap_i64]; omega
  have a5 : IntKind.i64.wrap ((i : Int) + 1) = (i : Int) + 1 := by rw [IntKind.wrap_i64]; omega
  have a6 : (c : Int) < (n : Int) + 1 := by omega
  have a7 : IntKind.i64.wrap ((n : Int) + 1 - (i : Int)) = ((n + 1 - i : Nat) : Int) := by rw [IntKind.wrap_i64]; omega
  have a8 : ((i : Int) + 1).toNat = i + 1 := by omega
  have a11 : (0 : Int) ≤ (i : Int) + 1 := by omega
  have a12 : (i : Int) + 1 ≤ (n : Int) + 1 := by omega
  have a13 : (i : Int) ≤ (n : Int) + 1 := by omega
  have a14 : (i : Int) ≤ (n : Int) := by omega
  have a15 : (i : Int) ≤ (c : Int) := by omega
  have a16 : i ≤ n + 1 := by omega
  have a17 : i + 1 ≤ n + 1 := by omega
  clear hcn hgw hgl
  go_enter Try.func63, Try.ntmps63
  go_wp2_with (first
    | (at_builtin; refine wpList_appendT (by kernel_rfl) (.tmp 34) (.tmp 39) _ _ rfl _ _ rfl rfl (Hap.out _) ?_)
    | ((with_reducible show wpList _ _ _ (⟨some 45, _, _, _, _, _⟩ :: _) _ _); refine wpList_copyT (by kernel_rfl) (.tmp 43) (.tmp 44) _ _ rfl _ _ rfl rfl (Hcp1.out _ _ _ (by omega)) ?_))
  go_still_tail 8, (by kernel_rfl)
  change wpList _ _ _ _ _ (w1.setRow G C1.toArray).drew
  go_wp2_with ((with_reducible show wpList _ _ _ (⟨some 54, _, _, _, _, _⟩ :: _) _ _); refine wpList_copyT (by kernel_rfl) (.tmp 50) (.tmp 53) _ _ rfl _ _ rfl rfl (Hcp2.out _ _ _ _ _ (by omega) rfl) ?_)
  refine Hown.out _ ?_
  simp

end Go.Proofs.Ytmganbdbihjbmaa

