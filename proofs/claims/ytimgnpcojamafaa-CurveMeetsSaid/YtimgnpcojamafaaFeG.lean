/-
  CONTRACTS of the program's inverse, Invert (package fe).
-/
import Derived.Test.YtimgnpcojamafaaFeF
set_option linter.unusedVariables false
namespace Go.Proofs.Ytimgnpcojamafaa
open Go.RowKit

theorem i5_mid (a : Fe5) : behU (behU (i2U a) (i2U a) 2) a 1 = i5U a := rfl
set_option maxRecDepth 100000 in
set_option maxHeartbeats 4000000 in
theorem feInverse_any (a : Fe5) (w : World) (ha : MayF a) :
    Calls Try.prog 46 #[.agg (feC a)] w fun e w' => e = .returned (.agg (feC (invU a))) ∧ Below w.heap.size w w' := by
  have hM0 := ((Ms.nil w).box 35 (feC a)).box 35 #[.int .u64 0, .int .u64 0, .int .u64 0, .int .u64 0, .int .u64 0]
  have hP0 := hM0.put 35 #[.int .u64 0, .int .u64 0, .int .u64 0, .int .u64 0, .int .u64 0] (feC a)
  simp only [World.size_alloc] at hM0 hP0
  have hsz := fun x => Lib.hid (sizeFe x)
  have hso := fun x => Lib.hid (one_fe x)
  have hzz := fun x => Lib.hid (fe_zero x)
  have Ha := Lib.hid ha
  clear ha
  have hnew : RowC (((w.alloc (.cells (feC a) 35)).alloc (.cells #[.int .u64 0, .int .u64 0, .int .u64 0, .int .u64 0, .int .u64 0] 35)).alloc (.cells #[.int .u64 0, .int .u64 0, .int .u64 0, .int .u64 0, .int .u64 0] 35)) (w.heap.size + 1 + 1) 35 #[.int .u64 0, .int .u64 0, .int .u64 0, .int .u64 0, .int .u64 0] := RowC.mk_ _ _ _ (by simp)
  go_enter Try.func46, Try.ntmps46
  go_wp2_with (first
    | ((with_reducible show wpList _ _ _ (⟨some 11, _, _, _, _, _⟩ :: _) _ _); refine wpList_loadC (by kernel_rfl) 35 (.tmp 1) rfl (w.heap.size) rfl 35 (feC a) _ (hM0.get 1 rfl) Try.underlying35 rfl (hsz a).out ?_)
    | ((with_reducible show wpList _ _ _ (⟨none, Op.store 35 _ _, _, _, _, _⟩ :: _) _ _); refine wpList_store_row rfl 35 (.tmp 3) (.tmp 11) rfl (w.heap.size + 1 + 1) (feC a) rfl rfl 35 _ (hnew) (hsz a).out (hzz a).out (hso a).out ?_)
    | ((with_reducible show wpList _ _ _ (⟨some 14, _, _, _, _, _⟩ :: _) _ _); refine wpList_loadC (by kernel_rfl) 35 (.tmp 1) rfl (w.heap.size) rfl 35 (feC a) _ (hP0.get 2 rfl) Try.underlying35 rfl (hsz a).out ?_))
  refine calls_gen (fun wx => Ms w wx [(w.heap.size + 1 + 1, 35, feC (a)), (w.heap.size + 1, 35, #[.int .u64 0, .int .u64 0, .int .u64 0, .int .u64 0, .int .u64 0]), (w.heap.size, 35, feC (a))]) hP0 ?_
  clear hP0 hM0 hnew
  rintro v1 hV1
  have hk1 := behind_any (a) (a) 1 (w.heap.size + 1 + 1) v1 Ha.out Ha.out (by omega) (hV1.get 0 rfl)
  rw [show behU (a) (a) 1 = i2U a from rfl, show ((1 : Nat) : Int) = 1 from rfl] at hk1
  refine hk1.mono ?_
  clear hk1
  rintro e w1 ⟨rfl, hr1, hf1, hb1⟩
  have hM1 := hV1.beh (by omega) (fun p hp => by simp only [List.mem_cons, List.not_mem_nil, or_false] at hp; rcases hp with rfl | rfl <;> simp only <;> omega) hr1 hf1 hb1
  clear hV1 hr1 hf1 hb1
  have hl1 := (hM1.get 0 rfl).lt
  have hP1 := (hM1.put 35 #[.int .u64 0, .int .u64 0, .int .u64 0, .int .u64 0, .int .u64 0] (feC (i2U a))).swap
  go_wp2_with (first
    | ((with_reducible show wpList _ _ _ (⟨none, Op.store 35 _ _, _, _, _, _⟩ :: _) _ _); refine wpList_store_row rfl 35 (.tmp 5) (.tmp 15) rfl (w1.heap.size) (feC (i2U a)) rfl rfl 35 _ (RowC.new _ _ _) (hsz _).out (hzz _).out (hso _).out ?_)
    | ((with_reducible show wpList _ _ _ (⟨some 17, _, _, _, _, _⟩ :: _) _ _); refine wpList_loadC (by kernel_rfl) 35 (.tmp 5) rfl (w1.heap.size) rfl 35 (feC (i2U a)) _ (hP1.get 1 rfl) Try.underlying35 rfl (hsz _).out ?_))
  refine calls_gen (fun wx => Ms w wx [(w.heap.size + 1 + 1, 35, feC (i2U a)), (w1.heap.size, 35, feC (i2U a)), (w.heap.size + 1, 35, #[.int .u64 0, .int .u64 0, .int .u64 0, .int .u64 0, .int .u64 0]), (w.heap.size, 35, feC (a))]) hP1 ?_
  clear hP1
  rintro v2 hV2
  have hk2 := behind_any (i2U a) (i2U a) 2 (w.heap.size + 1 + 1) v2 (i2U_may Ha.out) (i2U_may Ha.out) (by omega) (hV2.get 0 rfl)
  rw [show ((2 : Nat) : Int) = 2 from rfl] at hk2
  refine hk2.mono ?_
  clear hk2
  rintro e w2 ⟨rfl, hr2, hf2, hb2⟩
  have hM2 := hV2.beh (by omega) (fun p hp => by simp only [List.mem_cons, List.not_mem_nil, or_false] at hp; rcases hp with rfl | rfl | rfl <;> simp only <;> omega) hr2 hf2 hb2
  clear hV2 hr2 hf2 hb2
  go_wp2_with (first
    | ((with_reducible show wpList _ _ _ (⟨some 20, _, _, _, _, _⟩ :: _) _ _); refine wpList_loadC (by kernel_rfl) 35 (.tmp 1) rfl (w.heap.size) rfl 35 (feC (a)) _ (hM2.get 3 rfl) Try.underlying35 rfl (hsz _).out ?_))
  refine calls_gen (fun wx => Ms w wx [(w.heap.size + 1 + 1, 35, feC (behU (i2U a) (i2U a) 2)), (w1.heap.size, 35, feC (i2U a)), (w.heap.size + 1, 35, #[.int .u64 0, .int .u64 0, .int .u64 0, .int .u64 0, .int .u64 0]), (w.heap.size, 35, feC (a))]) hM2 ?_
  clear hM2
  rintro v3 hV3
  have hk3 := behind_any (behU (i2U a) (i2U a) 2) (a) 1 (w.heap.size + 1 + 1) v3 (behU_may (i2U_may Ha.out) (i2U_may Ha.out) 2) Ha.out (by omega) (hV3.get 0 rfl)
  rw [show behU (behU (i2U a) (i2U a) 2) (a) 1 = i5U a from rfl, show ((1 : Nat) : Int) = 1 from rfl] at hk3
  refine hk3.mono ?_
  clear hk3
  rintro e w3 ⟨rfl, hr3, hf3, hb3⟩
  have hM3 := hV3.beh (by omega) (fun p hp => by simp only [List.mem_cons, List.not_mem_nil, or_false] at hp; rcases hp with rfl | rfl | rfl <;> simp only <;> omega) hr3 hf3 hb3
  clear hV3 hr3 hf3 hb3
  have hl3 := (hM3.get 0 rfl).lt
  have hP3 := (hM3.put 35 #[.int .u64 0, .int .u64 0, .int .u64 0, .int .u64 0, .int .u64 0] (feC (i5U a))).swap
  go_wp2_with (first
    | ((with_reducible show wpList _ _ _ (⟨none, Op.store 35 _ _, _, _, _, _⟩ :: _) _ _); refine wpList_store_row rfl 35 (.tmp 6) (.tmp 21) rfl (w3.heap.size) (feC (i5U a)) rfl rfl 35 _ (RowC.new _ _ _) (hsz _).out (hzz _).out (hso _).out ?_)
    | ((with_reducible show wpList _ _ _ (⟨some 23, _, _, _, _, _⟩ :: _) _ _); refine wpList_loadC (by kernel_rfl) 35 (.tmp 6) rfl (w3.heap.size) rfl 35 (feC (i5U a)) _ (hP3.get 1 rfl) Try.underlying35 rfl (hsz _).out ?_))
  refine calls_gen (fun wx => Ms w wx [(w.heap.size + 1 + 1, 35, feC (i5U a)), (w3.heap.size, 35, feC (i5U a)), (w1.heap.size, 35, feC (i2U a)), (w.heap.size + 1, 35, #[.int .u64 0, .int .u64 0, .int .u64 0, .int .u64 0, .int .u64 0]), (w.heap.size, 35, feC (a))]) hP3 ?_
  clear hP3
  rintro v4 hV4
  have hk4 := behind_any (i5U a) (i5U a) 5 (w.heap.size + 1 + 1) v4 (i5U_may Ha.out) (i5U_may Ha.out) (by omega) (hV4.get 0 rfl)
  rw [show behU (i5U a) (i5U a) 5 = i10U a from rfl, show ((5 : Nat) : Int) = 5 from rfl] at hk4
  refine hk4.mono ?_
  clear hk4
  rintro e w4 ⟨rfl, hr4, hf4, hb4⟩
  have hM4 := hV4.beh (by omega) (fun p hp => by simp only [List.mem_cons, List.not_mem_nil, or_false] at hp; rcases hp with rfl | rfl | rfl | rfl <;> simp only <;> omega) hr4 hf4 hb4
  clear hV4 hr4 hf4 hb4
  have hl4 := (hM4.get 0 rfl).lt
  have hP4 := (hM4.put 35 #[.int .u64 0, .int .u64 0, .int .u64 0, .int .u64 0, .int .u64 0] (feC (i10U a))).swap
  go_wp2_with (first
    | ((with_reducible show wpList _ _ _ (⟨none, Op.store 35 _ _, _, _, _, _⟩ :: _) _ _); refine wpList_store_row rfl 35 (.tmp 7) (.tmp 24) rfl (w4.heap.size) (feC (i10U a)) rfl rfl 35 _ (RowC.new _ _ _) (hsz _).out (hzz _).out (hso _).out ?_)
    | ((with_reducible show wpList _ _ _ (⟨some 26, _, _, _, _, _⟩ :: _) _ _); refine wpList_loadC (by kernel_rfl) 35 (.tmp 7) rfl (w4.heap.size) rfl 35 (feC (i10U a)) _ (hP4.get 1 rfl) Try.underlying35 rfl (hsz _).out ?_))
  refine calls_gen (fun wx => Ms w wx [(w.heap.size + 1 + 1, 35, feC (i10U a)), (w4.heap.size, 35, feC (i10U a)), (w3.heap.size, 35, feC (i5U a)), (w1.heap.size, 35, feC (i2U a)), (w.heap.size + 1, 35, #[.int .u64 0, .int .u64 0, .int .u64 0, .int .u64 0, .int .u64 0]), (w.heap.size, 35, feC (a))]) hP4 ?_
  clear hP4
  rintro v5 hV5
  have hk5 := behind_any (i10U a) (i10U a) 10 (w.heap.size + 1 + 1) v5 (i10U_may Ha.out) (i10U_may Ha.out) (by omega) (hV5.get 0 rfl)
  rw [show behU (i10U a) (i10U a) 10 = i20U a from rfl, show ((10 : Nat) : Int) = 10 from rfl] at hk5
  refine hk5.mono ?_
  clear hk5
  rintro e w5 ⟨rfl, hr5, hf5, hb5⟩
  have hM5 := hV5.beh (by omega) (fun p hp => by simp only [List.mem_cons, List.not_mem_nil, or_false] at hp; rcases hp with rfl | rfl | rfl | rfl | rfl <;> simp only <;> omega) hr5 hf5 hb5
  clear hV5 hr5 hf5 hb5
  have hl5 := (hM5.get 0 rfl).lt
  have hP5 := (hM5.put 35 #[.int .u64 0, .int .u64 0, .int .u64 0, .int .u64 0, .int .u64 0] (feC (i20U a))).swap
  go_wp2_with (first
    | ((with_reducible show wpList _ _ _ (⟨none, Op.store 35 _ _, _, _, _, _⟩ :: _) _ _); refine wpList_store_row rfl 35 (.tmp 8) (.tmp 27) rfl (w5.heap.size) (feC (i20U a)) rfl rfl 35 _ (RowC.new _ _ _) (hsz _).out (hzz _).out (hso _).out ?_)
    | ((with_reducible show wpList _ _ _ (⟨some 29, _, _, _, _, _⟩ :: _) _ _); refine wpList_loadC (by kernel_rfl) 35 (.tmp 8) rfl (w5.heap.size) rfl 35 (feC (i20U a)) _ (hP5.get 1 rfl) Try.underlying35 rfl (hsz _).out ?_))
  refine calls_gen (fun wx => Ms w wx [(w.heap.size + 1 + 1, 35, feC (i20U a)), (w5.heap.size, 35, feC (i20U a)), (w4.heap.size, 35, feC (i10U a)), (w3.heap.size, 35, feC (i5U a)), (w1.heap.size, 35, feC (i2U a)), (w.heap.size + 1, 35, #[.int .u64 0, .int .u64 0, .int .u64 0, .int .u64 0, .int .u64 0]), (w.heap.size, 35, feC (a))]) hP5 ?_
  clear hP5
  rintro v6 hV6
  have hk6 := behind_any (i20U a) (i20U a) 20 (w.heap.size + 1 + 1) v6 (i20U_may Ha.out) (i20U_may Ha.out) (by omega) (hV6.get 0 rfl)
  rw [show behU (i20U a) (i20U a) 20 = i40U a from rfl, show ((20 : Nat) : Int) = 20 from rfl] at hk6
  refine hk6.mono ?_
  clear hk6
  rintro e w6 ⟨rfl, hr6, hf6, hb6⟩
  have hM6 := hV6.beh (by omega) (fun p hp => by simp only [List.mem_cons, List.not_mem_nil, or_false] at hp; rcases hp with rfl | rfl | rfl | rfl | rfl | rfl <;> simp only <;> omega) hr6 hf6 hb6
  clear hV6 hr6 hf6 hb6
  go_wp2_with (first
    | ((with_reducible show wpList _ _ _ (⟨some 32, _, _, _, _, _⟩ :: _) _ _); refine wpList_loadC (by kernel_rfl) 35 (.tmp 7) rfl (w4.heap.size) rfl 35 (feC (i10U a)) _ (hM6.get 2 rfl) Try.underlying35 rfl (hsz _).out ?_))
  refine calls_gen (fun wx => Ms w wx [(w.heap.size + 1 + 1, 35, feC (i40U a)), (w5.heap.size, 35, feC (i20U a)), (w4.heap.size, 35, feC (i10U a)), (w3.heap.size, 35, feC (i5U a)), (w1.heap.size, 35, feC (i2U a)), (w.heap.size + 1, 35, #[.int .u64 0, .int .u64 0, .int .u64 0, .int .u64 0, .int .u64 0]), (w.heap.size, 35, feC (a))]) hM6 ?_
  clear hM6
  rintro v7 hV7
  have hk7 := behind_any (i40U a) (i10U a) 10 (w.heap.size + 1 + 1) v7 (i40U_may Ha.out) (i10U_may Ha.out) (by omega) (hV7.get 0 rfl)
  rw [show behU (i40U a) (i10U a) 10 = i50U a from rfl, show ((10 : Nat) : Int) = 10 from rfl] at hk7
  refine hk7.mono ?_
  clear hk7
  rintro e w7 ⟨rfl, hr7, hf7, hb7⟩
  have hM7 := hV7.beh (by omega) (fun p hp => by simp only [List.mem_cons, List.not_mem_nil, or_false] at hp; rcases hp with rfl | rfl | rfl | rfl | rfl | rfl <;> simp only <;> omega) hr7 hf7 hb7
  clear hV7 hr7 hf7 hb7
  have hl7 := (hM7.get 0 rfl).lt
  have hP7 := (hM7.put 35 #[.int .u64 0, .int .u64 0, .int .u64 0, .int .u64 0, .int .u64 0] (feC (i50U a))).swap
  go_wp2_with (first
    | ((with_reducible show wpList _ _ _ (⟨none, Op.store 35 _ _, _, _, _, _⟩ :: _) _ _); refine wpList_store_row rfl 35 (.tmp 9) (.tmp 33) rfl (w7.heap.size) (feC (i50U a)) rfl rfl 35 _ (RowC.new _ _ _) (hsz _).out (hzz _).out (hso _).out ?_)
    | ((with_reducible show wpList _ _ _ (⟨some 35, _, _, _, _, _⟩ :: _) _ _); refine wpList_loadC (by kernel_rfl) 35 (.tmp 9) rfl (w7.heap.size) rfl 35 (feC (i50U a)) _ (hP7.get 1 rfl) Try.underlying35 rfl (hsz _).out ?_))
  refine calls_gen (fun wx => Ms w wx [(w.heap.size + 1 + 1, 35, feC (i50U a)), (w7.heap.size, 35, feC (i50U a)), (w5.heap.size, 35, feC (i20U a)), (w4.heap.size, 35, feC (i10U a)), (w3.heap.size, 35, feC (i5U a)), (w1.heap.size, 35, feC (i2U a)), (w.heap.size + 1, 35, #[.int .u64 0, .int .u64 0, .int .u64 0, .int .u64 0, .int .u64 0]), (w.heap.size, 35, feC (a))]) hP7 ?_
  clear hP7
  rintro v8 hV8
  have hk8 := behind_any (i50U a) (i50U a) 50 (w.heap.size + 1 + 1) v8 (i50U_may Ha.out) (i50U_may Ha.out) (by omega) (hV8.get 0 rfl)
  rw [show behU (i50U a) (i50U a) 50 = i100U a from rfl, show ((50 : Nat) : Int) = 50 from rfl] at hk8
  refine hk8.mono ?_
  clear hk8
  rintro e w8 ⟨rfl, hr8, hf8, hb8⟩
  have hM8 := hV8.beh (by omega) (fun p hp => by simp only [List.mem_cons, List.not_mem_nil, or_false] at hp; rcases hp with rfl | rfl | rfl | rfl | rfl | rfl | rfl <;> simp only <;> omega) hr8 hf8 hb8
  clear hV8 hr8 hf8 hb8
  have hl8 := (hM8.get 0 rfl).lt
  have hP8 := (hM8.put 35 #[.int .u64 0, .int .u64 0, .int .u64 0, .int .u64 0, .int .u64 0] (feC (i100U a))).swap
  go_wp2_with (first
    | ((with_reducible show wpList _ _ _ (⟨none, Op.store 35 _ _, _, _, _, _⟩ :: _) _ _); refine wpList_store_row rfl 35 (.tmp 10) (.tmp 36) rfl (w8.heap.size) (feC (i100U a)) rfl rfl 35 _ (RowC.new _ _ _) (hsz _).out (hzz _).out (hso _).out ?_)
    | ((with_reducible show wpList _ _ _ (⟨some 38, _, _, _, _, _⟩ :: _) _ _); refine wpList_loadC (by kernel_rfl) 35 (.tmp 10) rfl (w8.heap.size) rfl 35 (feC (i100U a)) _ (hP8.get 1 rfl) Try.underlying35 rfl (hsz _).out ?_))
  refine calls_gen (fun wx => Ms w wx [(w.heap.size + 1 + 1, 35, feC (i100U a)), (w8.heap.size, 35, feC (i100U a)), (w7.heap.size, 35, feC (i50U a)), (w5.heap.size, 35, feC (i20U a)), (w4.heap.size, 35, feC (i10U a)), (w3.heap.size, 35, feC (i5U a)), (w1.heap.size, 35, feC (i2U a)), (w.heap.size + 1, 35, #[.int .u64 0, .int .u64 0, .int .u64 0, .int .u64 0, .int .u64 0]), (w.heap.size, 35, feC (a))]) hP8 ?_
  clear hP8
  rintro v9 hV9
  have hk9 := behind_any (i100U a) (i100U a) 100 (w.heap.size + 1 + 1) v9 (i100U_may Ha.out) (i100U_may Ha.out) (by omega) (hV9.get 0 rfl)
  rw [show behU (i100U a) (i100U a) 100 = i200U a from rfl, show ((100 : Nat) : Int) = 100 from rfl] at hk9
  refine hk9.mono ?_
  clear hk9
  rintro e w9 ⟨rfl, hr9, hf9, hb9⟩
  have hM9 := hV9.beh (by omega) (fun p hp => by simp only [List.mem_cons, List.not_mem_nil, or_false] at hp; rcases hp with rfl | rfl | rfl | rfl | rfl | rfl | rfl | rfl <;> simp only <;> omega) hr9 hf9 hb9
  clear hV9 hr9 hf9 hb9
  go_wp2_with (first
    | ((with_reducible show wpList _ _ _ (⟨some 41, _, _, _, _, _⟩ :: _) _ _); refine wpList_loadC (by kernel_rfl) 35 (.tmp 9) rfl (w7.heap.size) rfl 35 (feC (i50U a)) _ (hM9.get 2 rfl) Try.underlying35 rfl (hsz _).out ?_))
  refine calls_gen (fun wx => Ms w wx [(w.heap.size + 1 + 1, 35, feC (i200U a)), (w8.heap.size, 35, feC (i100U a)), (w7.heap.size, 35, feC (i50U a)), (w5.heap.size, 35, feC (i20U a)), (w4.heap.size, 35, feC (i10U a)), (w3.heap.size, 35, feC (i5U a)), (w1.heap.size, 35, feC (i2U a)), (w.heap.size + 1, 35, #[.int .u64 0, .int .u64 0, .int .u64 0, .int .u64 0, .int .u64 0]), (w.heap.size, 35, feC (a))]) hM9 ?_
  clear hM9
  rintro v10 hV10
  have hk10 := behind_any (i200U a) (i50U a) 50 (w.heap.size + 1 + 1) v10 (i200U_may Ha.out) (i50U_may Ha.out) (by omega) (hV10.get 0 rfl)
  rw [show behU (i200U a) (i50U a) 50 = i250U a from rfl, show ((50 : Nat) : Int) = 50 from rfl] at hk10
  refine hk10.mono ?_
  clear hk10
  rintro e w10 ⟨rfl, hr10, hf10, hb10⟩
  have hM10 := hV10.beh (by omega) (fun p hp => by simp only [List.mem_cons, List.not_mem_nil, or_false] at hp; rcases hp with rfl | rfl | rfl | rfl | rfl | rfl | rfl | rfl <;> simp only <;> omega) hr10 hf10 hb10
  clear hV10 hr10 hf10 hb10
  go_wp2_with (first
    | ((with_reducible show wpList _ _ _ (⟨some 44, _, _, _, _, _⟩ :: _) _ _); refine wpList_loadC (by kernel_rfl) 35 (.tmp 1) rfl (w.heap.size) rfl 35 (feC (a)) _ (hM10.get 8 rfl) Try.underlying35 rfl (hsz _).out ?_))
  refine calls_gen (fun wx => Ms w wx [(w.heap.size + 1 + 1, 35, feC (i250U a)), (w8.heap.size, 35, feC (i100U a)), (w7.heap.size, 35, feC (i50U a)), (w5.heap.size, 35, feC (i20U a)), (w4.heap.size, 35, feC (i10U a)), (w3.heap.size, 35, feC (i5U a)), (w1.heap.size, 35, feC (i2U a)), (w.heap.size + 1, 35, #[.int .u64 0, .int .u64 0, .int .u64 0, .int .u64 0, .int .u64 0]), (w.heap.size, 35, feC (a))]) hM10 ?_
  clear hM10
  rintro v11 hV11
  have hk11 := behind_any (i250U a) (a) 2 (w.heap.size + 1 + 1) v11 (i250U_may Ha.out) Ha.out (by omega) (hV11.get 0 rfl)
  rw [show behU (i250U a) (a) 2 = i252U a from rfl, show ((2 : Nat) : Int) = 2 from rfl] at hk11
  refine hk11.mono ?_
  clear hk11
  rintro e w11 ⟨rfl, hr11, hf11, hb11⟩
  have hM11 := hV11.beh (by omega) (fun p hp => by simp only [List.mem_cons, List.not_mem_nil, or_false] at hp; rcases hp with rfl | rfl | rfl | rfl | rfl | rfl | rfl | rfl <;> simp only <;> omega) hr11 hf11 hb11
  clear hV11 hr11 hf11 hb11
  go_wp2_with (first
    | ((with_reducible show wpList _ _ _ (⟨some 47, _, _, _, _, _⟩ :: _) _ _); refine wpList_loadC (by kernel_rfl) 35 (.tmp 5) rfl (w1.heap.size) rfl 35 (feC (i2U a)) _ (hM11.get 6 rfl) Try.underlying35 rfl (hsz _).out ?_))
  refine calls_gen (fun wx => Ms w wx [(w.heap.size + 1 + 1, 35, feC (i252U a)), (w8.heap.size, 35, feC (i100U a)), (w7.heap.size, 35, feC (i50U a)), (w5.heap.size, 35, feC (i20U a)), (w4.heap.size, 35, feC (i10U a)), (w3.heap.size, 35, feC (i5U a)), (w1.heap.size, 35, feC (i2U a)), (w.heap.size + 1, 35, #[.int .u64 0, .int .u64 0, .int .u64 0, .int .u64 0, .int .u64 0]), (w.heap.size, 35, feC (a))]) hM11 ?_
  clear hM11
  rintro v12 hV12
  have hk12 := behind_any (i252U a) (i2U a) 3 (w.heap.size + 1 + 1) v12 (i252U_may Ha.out) (i2U_may Ha.out) (by omega) (hV12.get 0 rfl)
  rw [show behU (i252U a) (i2U a) 3 = invU a from rfl, show ((3 : Nat) : Int) = 3 from rfl] at hk12
  refine hk12.mono ?_
  clear hk12
  rintro e w12 ⟨rfl, hr12, hf12, hb12⟩
  have hM12 := hV12.beh (by omega) (fun p hp => by simp only [List.mem_cons, List.not_mem_nil, or_false] at hp; rcases hp with rfl | rfl | rfl | rfl | rfl | rfl | rfl | rfl <;> simp only <;> omega) hr12 hf12 hb12
  clear hV12 hr12 hf12 hb12
  go_wp2_with ((with_reducible show wpList _ _ _ (⟨none, Op.store 35 _ _, _, _, _, _⟩ :: _) _ _); refine wpList_store_row rfl 35 (.tmp 2) (.tmp 48) rfl (w.heap.size + 1) (feC (invU a)) rfl rfl 35 _ (hM12.get 7 rfl) (hsz _).out (hzz _).out (hso _).out ?_)
  exact bodyPost_ret (results_cell_one rfl _ _ (w.heap.size + 1) 35 _ _ rfl ((hM12.get 7 rfl).row _) Try.underlying35 rfl (hsz _).out) rfl ⟨rfl, below_setRow hM12.old (by omega) _⟩

set_option maxRecDepth 100000 in
theorem Invert_bad (a : Fe5) (w : World) (ha : WordF a) (h : ¬ MayF a) :
    Calls Try.prog 38 #[.agg (feC a)] w fun e w' => e = .returned (.tuple #[.agg (feC zeroF), .int .i64 1]) ∧ Below w.heap.size w w' := by
  have hM0 := ((Ms.nil w).box 35 (feC a)).box 35 #[.int .u64 0, .int .u64 0, .int .u64 0, .int .u64 0, .int .u64 0]
  simp only [World.size_alloc] at hM0
  have hs0 := Lib.hid (sizeFe a)
  have hz := Lib.hid (sizeFe zeroF)
  have hzo := Lib.hid (one_fe zeroF)
  have hzc : feC zeroF = #[.int .u64 0, .int .u64 0, .int .u64 0, .int .u64 0, .int .u64 0] := rfl
  have hma := fun wx => mayBe_any a wx ha
  rw [mayB_false h] at hma
  rw [hzc] at hz hzo ⊢
  clear ha h hzc
  generalize feC a = ca at *
  go_enter Try.func38, Try.ntmps38
  go_wp2_with ((with_reducible show wpList _ _ _ (⟨some 4, _, _, _, _, _⟩ :: _) _ _); refine wpList_loadC (by kernel_rfl) 35 (.tmp 1) rfl (w.heap.size) rfl 35 ca _ (hM0.get 1 rfl) Try.underlying35 rfl hs0.out ?_)
  refine (hma _).mono ?_
  rintro e w1 ⟨rfl, hb9⟩
  have hM1 := hM0.call hb9
  go_wp2_with ((with_reducible show wpList _ _ _ (⟨none, Op.store 35 _ _, _, _, _, _⟩ :: _) _ _); refine wpList_store_row rfl 35 (.tmp 2) (.tmp 7) rfl (w.heap.size + 1) #[.int .u64 0, .int .u64 0, .int .u64 0, .int .u64 0, .int .u64 0] rfl rfl 35 _ (hM1.get 0 rfl) hz.out rfl hzo.out ?_)
  exact bodyPost_ret (results_cell_two rfl _ _ (w.heap.size + 1) 35 _ _ rfl ((hM1.get 0 rfl).row _) Try.underlying35 rfl hz.out) rfl ⟨rfl, below_setRow hM1.old (by omega) _⟩

set_option maxRecDepth 100000 in
theorem Invert_ok (a : Fe5) (w : World) (ha : MayF a) :
    Calls Try.prog 38 #[.agg (feC a)] w fun e w' => e = .returned (.tuple #[.agg (feC (invU a)), .int .i64 0]) ∧ Below w.heap.size w w' := by
  have hM0 := ((Ms.nil w).box 35 (feC a)).box 35 #[.int .u64 0, .int .u64 0, .int .u64 0, .int .u64 0, .int .u64 0]
  simp only [World.size_alloc] at hM0
  have hs0 := Lib.hid (sizeFe a)
  have hz := Lib.hid (sizeFe (invU a))
  have hzz := Lib.hid (fe_zero (invU a))
  have hzo := Lib.hid (one_fe (invU a))
  have hma := fun wx => mayBe_any a wx ha.word
  rw [mayB_true ha] at hma
  have hp := fun wx => feInverse_any a wx ha
  clear ha
  generalize feC (invU a) = fa at *
  generalize feC a = ca at *
  go_enter Try.func38, Try.ntmps38
  go_wp2_with ((with_reducible show wpList _ _ _ (⟨some 4, _, _, _, _, _⟩ :: _) _ _); refine wpList_loadC (by kernel_rfl) 35 (.tmp 1) rfl (w.heap.size) rfl 35 ca _ (hM0.get 1 rfl) Try.underlying35 rfl hs0.out ?_)
  refine (hma _).mono ?_
  rintro e w1 ⟨rfl, hb9⟩
  have hM1 := hM0.call hb9
  go_wp2_with ((with_reducible show wpList _ _ _ (⟨some 8, _, _, _, _, _⟩ :: _) _ _); refine wpList_loadC (by kernel_rfl) 35 (.tmp 1) rfl (w.heap.size) rfl 35 ca _ (hM1.get 1 rfl) Try.underlying35 rfl hs0.out ?_)
  refine (hp _).mono ?_
  rintro e w2 ⟨rfl, hb8⟩
  have hM2 := hM1.call hb8
  go_wp2_with ((with_reducible show wpList _ _ _ (⟨none, Op.store 35 _ _, _, _, _, _⟩ :: _) _ _); refine wpList_store_row rfl 35 (.tmp 2) (.tmp 9) rfl (w.heap.size + 1) fa rfl rfl 35 _ (hM2.get 0 rfl) hz.out hzz.out hzo.out ?_)
  exact bodyPost_ret (results_cell_two rfl _ _ (w.heap.size + 1) 35 _ _ rfl ((hM2.get 0 rfl).row _) Try.underlying35 rfl hz.out) rfl ⟨rfl, below_setRow hM2.old (by omega) _⟩

end Go.Proofs.Ytimgnpcojamafaa
