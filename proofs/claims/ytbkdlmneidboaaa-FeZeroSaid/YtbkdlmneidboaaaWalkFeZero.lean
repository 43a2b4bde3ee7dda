/-
  THE WALK of FeZero (coterielaw05).
-/
import Derived.Test.YtbkdlmneidboaaaFeKit
set_option linter.unusedVariables false
namespace Go.Proofs.Ytbkdlmneidboaaa
open Go.RowKit

theorem z1 (a : Fe5) : valF (addQ a zeroF) % P25 = valF a % P25 := by rw [addQ_val]; rfl
theorem z2 (a : Fe5) : valF (mulQ a oneF) % P25 = valF a % P25 := by rw [mulQ_val, show valF oneF = 1 from rfl, Nat.mul_one]
theorem z3 (a : Fe5) : valF (mulQ a zeroF) % P25 = valF zeroF % P25 := by rw [mulQ_val, show valF zeroF = 0 from rfl, Nat.mul_zero]
theorem z4 (a : Fe5) : valF (addQ a a) % P25 = valF (mulQ twoF a) % P25 := by rw [mulQ_val, addQ_val, show valF twoF = 2 from rfl, Nat.two_mul]
theorem z5 {a : Fe5} (h : MayF a) : valF (subQ a a) % P25 = valF zeroF % P25 := add_cancel (c := valF a) (by rw [subQ_val h, show valF zeroF = 0 from rfl, Nat.zero_add])

set_option maxRecDepth 100000 in
set_option maxHeartbeats 4000000 in
theorem walk_FeZero (a : Fe5) (w : World) (ha : WordF a) :
    Calls Try.prog 11 #[.agg (feC a)] w fun e w' => e = .returned (.bool true) ∧ Below w.heap.size w w' := by
  by_cases hm : MayF a
  · have Hm := Lib.hid hm
    clear hm ha
    have hM0 := (Ms.nil w).box 37 (feC a)
    go_enter Try.func11, Try.ntmps11
    go_wp2_with fail
    refine (live05 _).mono ?_
    rintro e w1 ⟨rfl, hb1⟩
    have hM1 := hM0.call hb1
    clear hM0 hb1
    go_wp2_with ((with_reducible show wpList _ _ _ (⟨some 17, _, _, _, _, _⟩ :: _) _ _); refine wpList_loadC (by kernel_rfl) 37 (.tmp 1) rfl (w.heap.size) rfl 37 (feC (a)) _ (hM1.get 0 rfl) Try.underlying37 rfl (sizeFe _) ?_)
    refine (May_true (a) _ (Hm.out)).mono ?_
    rintro e w2 ⟨rfl, hb2⟩
    have hM2 := hM1.call hb2
    clear hM1 hb2
    go_wp2_with ((with_reducible show wpList _ _ _ (⟨some 22, _, _, _, _, _⟩ :: _) _ _); refine wpList_loadC (by kernel_rfl) 37 (.tmp 1) rfl (w.heap.size) rfl 37 (feC (a)) _ (hM2.get 0 rfl) Try.underlying37 rfl (sizeFe _) ?_)
    have hk := fun wx => Add_ok (a) (zeroF) wx (Hm.out) (zeroF_may)
    simp only [cells_zero] at hk
    refine (hk _).mono ?_
    clear hk
    rintro e w3 ⟨rfl, hb3⟩
    have hM3 := hM2.call hb3
    clear hM2 hb3
    have hP3 := hM3.put 37 #[.int .u64 0, .int .u64 0, .int .u64 0, .int .u64 0, .int .u64 0] (feC (addQ (a) (zeroF)))
    go_wp2_with (first
      | ((with_reducible show wpList _ _ _ (⟨none, Op.store 37 _ _, _, _, _, _⟩ :: _) _ _); refine wpList_store_row rfl 37 (.tmp 4) (.tmp 25) rfl (w3.heap.size) (feC (addQ (a) (zeroF))) rfl rfl 37 _ (RowC.new _ _ _) (sizeFe _) (fe_zero _) (one_fe _) ?_)
      | ((with_reducible show wpList _ _ _ (⟨some 28, _, _, _, _, _⟩ :: _) _ _); refine wpList_loadC (by kernel_rfl) 37 (.tmp 1) rfl (w.heap.size) rfl 37 (feC (a)) _ (hP3.get 1 rfl) Try.underlying37 rfl (sizeFe _) ?_))
    have hk := fun wx => Mul_ok (a) (oneF) wx (Hm.out) (oneF_may)
    simp only [cells_one] at hk
    refine (hk _).mono ?_
    clear hk
    rintro e w4 ⟨rfl, hb4⟩
    have hM4 := hP3.call hb4
    clear hP3 hb4
    have hP4 := hM4.put 37 #[.int .u64 0, .int .u64 0, .int .u64 0, .int .u64 0, .int .u64 0] (feC (mulQ (a) (oneF)))
    go_wp2_with (first
      | ((with_reducible show wpList _ _ _ (⟨none, Op.store 37 _ _, _, _, _, _⟩ :: _) _ _); refine wpList_store_row rfl 37 (.tmp 6) (.tmp 31) rfl (w4.heap.size) (feC (mulQ (a) (oneF))) rfl rfl 37 _ (RowC.new _ _ _) (sizeFe _) (fe_zero _) (one_fe _) ?_)
      | ((with_reducible show wpList _ _ _ (⟨some 34, _, _, _, _, _⟩ :: _) _ _); refine wpList_loadC (by kernel_rfl) 37 (.tmp 1) rfl (w.heap.size) rfl 37 (feC (a)) _ (hP4.get 2 rfl) Try.underlying37 rfl (sizeFe _) ?_))
    have hk := fun wx => Mul_ok (a) (zeroF) wx (Hm.out) (zeroF_may)
    simp only [cells_zero] at hk
    refine (hk _).mono ?_
    clear hk
    rintro e w5 ⟨rfl, hb5⟩
    have hM5 := hP4.call hb5
    clear hP4 hb5
    have hP5 := hM5.put 37 #[.int .u64 0, .int .u64 0, .int .u64 0, .int .u64 0, .int .u64 0] (feC (mulQ (a) (zeroF)))
    go_wp2_with (first
      | ((with_reducible show wpList _ _ _ (⟨none, Op.store 37 _ _, _, _, _, _⟩ :: _) _ _); refine wpList_store_row rfl 37 (.tmp 8) (.tmp 37) rfl (w5.heap.size) (feC (mulQ (a) (zeroF))) rfl rfl 37 _ (RowC.new _ _ _) (sizeFe _) (fe_zero _) (one_fe _) ?_)
      | ((with_reducible show wpList _ _ _ (⟨some 40, _, _, _, _, _⟩ :: _) _ _); refine wpList_loadC (by kernel_rfl) 37 (.tmp 1) rfl (w.heap.size) rfl 37 (feC (a)) _ (hP5.get 3 rfl) Try.underlying37 rfl (sizeFe _) ?_)
      | ((with_reducible show wpList _ _ _ (⟨some 41, _, _, _, _, _⟩ :: _) _ _); refine wpList_loadC (by kernel_rfl) 37 (.tmp 1) rfl (w.heap.size) rfl 37 (feC (a)) _ (hP5.get 3 rfl) Try.underlying37 rfl (sizeFe _) ?_))
    refine (Add_ok (a) (a) _ (Hm.out) (Hm.out)).mono ?_
    rintro e w6 ⟨rfl, hb6⟩
    have hM6 := hP5.call hb6
    clear hP5 hb6
    have hP6 := hM6.put 37 #[.int .u64 0, .int .u64 0, .int .u64 0, .int .u64 0, .int .u64 0] (feC (addQ (a) (a)))
    go_wp2_with (first
      | ((with_reducible show wpList _ _ _ (⟨none, Op.store 37 _ _, _, _, _, _⟩ :: _) _ _); refine wpList_store_row rfl 37 (.tmp 10) (.tmp 43) rfl (w6.heap.size) (feC (addQ (a) (a))) rfl rfl 37 _ (RowC.new _ _ _) (sizeFe _) (fe_zero _) (one_fe _) ?_)
      | ((with_reducible show wpList _ _ _ (⟨some 47, _, _, _, _, _⟩ :: _) _ _); refine wpList_loadC (by kernel_rfl) 37 (.tmp 1) rfl (w.heap.size) rfl 37 (feC (a)) _ (hP6.get 4 rfl) Try.underlying37 rfl (sizeFe _) ?_))
    have hk := fun wx => Mul_ok (twoF) (a) wx (twoF_may) (Hm.out)
    simp only [cells_two] at hk
    refine (hk _).mono ?_
    clear hk
    rintro e w7 ⟨rfl, hb7⟩
    have hM7 := hP6.call hb7
    clear hP6 hb7
    have hP7 := hM7.put 37 #[.int .u64 0, .int .u64 0, .int .u64 0, .int .u64 0, .int .u64 0] (feC (mulQ (twoF) (a)))
    go_wp2_with (first
      | ((with_reducible show wpList _ _ _ (⟨none, Op.store 37 _ _, _, _, _, _⟩ :: _) _ _); refine wpList_store_row rfl 37 (.tmp 12) (.tmp 49) rfl (w7.heap.size) (feC (mulQ (twoF) (a))) rfl rfl 37 _ (RowC.new _ _ _) (sizeFe _) (fe_zero _) (one_fe _) ?_)
      | ((with_reducible show wpList _ _ _ (⟨some 52, _, _, _, _, _⟩ :: _) _ _); refine wpList_loadC (by kernel_rfl) 37 (.tmp 1) rfl (w.heap.size) rfl 37 (feC (a)) _ (hP7.get 5 rfl) Try.underlying37 rfl (sizeFe _) ?_)
      | ((with_reducible show wpList _ _ _ (⟨some 53, _, _, _, _, _⟩ :: _) _ _); refine wpList_loadC (by kernel_rfl) 37 (.tmp 1) rfl (w.heap.size) rfl 37 (feC (a)) _ (hP7.get 5 rfl) Try.underlying37 rfl (sizeFe _) ?_))
    refine (Sub_ok (a) (a) _ (Hm.out) (Hm.out)).mono ?_
    rintro e w8 ⟨rfl, hb8⟩
    have hM8 := hP7.call hb8
    clear hP7 hb8
    have hP8 := hM8.put 37 #[.int .u64 0, .int .u64 0, .int .u64 0, .int .u64 0, .int .u64 0] (feC (subQ (a) (a)))
    go_wp2_with (first
      | ((with_reducible show wpList _ _ _ (⟨none, Op.store 37 _ _, _, _, _, _⟩ :: _) _ _); refine wpList_store_row rfl 37 (.tmp 14) (.tmp 55) rfl (w8.heap.size) (feC (subQ (a) (a))) rfl rfl 37 _ (RowC.new _ _ _) (sizeFe _) (fe_zero _) (one_fe _) ?_)
      | ((with_reducible show wpList _ _ _ (⟨some 83, _, _, _, _, _⟩ :: _) _ _); refine wpList_loadC (by kernel_rfl) 37 (.tmp 4) rfl (w3.heap.size) rfl 37 (feC (addQ (a) (zeroF))) _ (hP8.get 5 rfl) Try.underlying37 rfl (sizeFe _) ?_)
      | ((with_reducible show wpList _ _ _ (⟨some 84, _, _, _, _, _⟩ :: _) _ _); refine wpList_loadC (by kernel_rfl) 37 (.tmp 1) rfl (w.heap.size) rfl 37 (feC (a)) _ (hP8.get 6 rfl) Try.underlying37 rfl (sizeFe _) ?_))
    refine (Same_true (addQ (a) (zeroF)) (a) _ (addQ_may (Hm.out) (zeroF_may)) (Hm.out) (z1 a)).mono ?_
    rintro e w9 ⟨rfl, hb9⟩
    have hM9 := hP8.call hb9
    clear hP8 hb9
    go_wp2_with (first
      | ((with_reducible show wpList _ _ _ (⟨some 88, _, _, _, _, _⟩ :: _) _ _); refine wpList_loadC (by kernel_rfl) 37 (.tmp 6) rfl (w4.heap.size) rfl 37 (feC (mulQ (a) (oneF))) _ (hM9.get 4 rfl) Try.underlying37 rfl (sizeFe _) ?_)
      | ((with_reducible show wpList _ _ _ (⟨some 89, _, _, _, _, _⟩ :: _) _ _); refine wpList_loadC (by kernel_rfl) 37 (.tmp 1) rfl (w.heap.size) rfl 37 (feC (a)) _ (hM9.get 6 rfl) Try.underlying37 rfl (sizeFe _) ?_))
    refine (Same_true (mulQ (a) (oneF)) (a) _ (mulQ_may (Hm.out) (oneF_may)) (Hm.out) (z2 a)).mono ?_
    rintro e w10 ⟨rfl, hb10⟩
    have hM10 := hM9.call hb10
    clear hM9 hb10
    go_wp2_with ((with_reducible show wpList _ _ _ (⟨some 93, _, _, _, _, _⟩ :: _) _ _); refine wpList_loadC (by kernel_rfl) 37 (.tmp 8) rfl (w5.heap.size) rfl 37 (feC (mulQ (a) (zeroF))) _ (hM10.get 3 rfl) Try.underlying37 rfl (sizeFe _) ?_)
    have hk := fun wx => Same_true (mulQ (a) (zeroF)) (zeroF) wx (mulQ_may (Hm.out) (zeroF_may)) (zeroF_may) (z3 a)
    simp only [cells_zero] at hk
    refine (hk _).mono ?_
    clear hk
    rintro e w11 ⟨rfl, hb11⟩
    have hM11 := hM10.call hb11
    clear hM10 hb11
    go_wp2_with (first
      | ((with_reducible show wpList _ _ _ (⟨some 98, _, _, _, _, _⟩ :: _) _ _); refine wpList_loadC (by kernel_rfl) 37 (.tmp 10) rfl (w6.heap.size) rfl 37 (feC (addQ (a) (a))) _ (hM11.get 2 rfl) Try.underlying37 rfl (sizeFe _) ?_)
      | ((with_reducible show wpList _ _ _ (⟨some 99, _, _, _, _, _⟩ :: _) _ _); refine wpList_loadC (by kernel_rfl) 37 (.tmp 12) rfl (w7.heap.size) rfl 37 (feC (mulQ (twoF) (a))) _ (hM11.get 1 rfl) Try.underlying37 rfl (sizeFe _) ?_))
    refine (Same_true (addQ (a) (a)) (mulQ (twoF) (a)) _ (addQ_may (Hm.out) (Hm.out)) (mulQ_may (twoF_may) (Hm.out)) (z4 a)).mono ?_
    rintro e w12 ⟨rfl, hb12⟩
    have hM12 := hM11.call hb12
    clear hM11 hb12
    go_wp2_with ((with_reducible show wpList _ _ _ (⟨some 103, _, _, _, _, _⟩ :: _) _ _); refine wpList_loadC (by kernel_rfl) 37 (.tmp 14) rfl (w8.heap.size) rfl 37 (feC (subQ (a) (a))) _ (hM12.get 0 rfl) Try.underlying37 rfl (sizeFe _) ?_)
    have hk := fun wx => Same_true (subQ (a) (a)) (zeroF) wx (subQ_may (Hm.out) (Hm.out)) (zeroF_may) (z5 Hm.out)
    simp only [cells_zero] at hk
    refine (hk _).mono ?_
    clear hk
    rintro e w13 ⟨rfl, hb13⟩
    have hM13 := hM12.call hb13
    clear hM12 hb13
    go_wp2_with fail
    go_ret
    exact ⟨rfl, hM13.old⟩
  · have Hn := Lib.hid hm
    have Hw := Lib.hid ha
    clear hm ha
    have hM0 := (Ms.nil w).box 37 (feC a)
    go_enter Try.func11, Try.ntmps11
    go_wp2_with fail
    refine (live05 _).mono ?_
    rintro e w1 ⟨rfl, hb1⟩
    have hM1 := hM0.call hb1
    clear hM0 hb1
    go_wp2_with ((with_reducible show wpList _ _ _ (⟨some 17, _, _, _, _, _⟩ :: _) _ _); refine wpList_loadC (by kernel_rfl) 37 (.tmp 1) rfl (w.heap.size) rfl 37 (feC (a)) _ (hM1.get 0 rfl) Try.underlying37 rfl (sizeFe _) ?_)
    refine (May_false (a) _ Hw.out Hn.out).mono ?_
    rintro e w2 ⟨rfl, hb2⟩
    have hM2 := hM1.call hb2
    clear hM1 hb2
    go_wp2_with fail
    go_ret
    exact ⟨rfl, hM2.old⟩

end Go.Proofs.Ytbkdlmneidboaaa
