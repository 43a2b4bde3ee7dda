/-
  THE WALK of FeRing (coterielaw05).
-/
import Derived.Test.YtbkdlmneidboaaaFeKit
set_option linter.unusedVariables false
namespace Go.Proofs.Ytbkdlmneidboaaa
open Go.RowKit

theorem r1 (a b : Fe5) : valF (mulQ a b) % P25 = valF (mulQ b a) % P25 := by rw [mulQ_val, mulQ_val, Nat.mul_comm]
theorem r2 (a b c : Fe5) : valF (mulQ (mulQ a b) c) % P25 = valF (mulQ a (mulQ b c)) % P25 := by
  rw [mulQ_val, mulQ_val, mul_cong (mulQ_val a b) (rfl : valF c % P25 = valF c % P25), mul_cong (rfl : valF a % P25 = valF a % P25) (mulQ_val b c), Nat.mul_assoc]
theorem r3 (a b : Fe5) : valF (addQ a b) % P25 = valF (addQ b a) % P25 := by rw [addQ_val, addQ_val, Nat.add_comm]
theorem r4 (a b c : Fe5) : valF (mulQ a (addQ b c)) % P25 = valF (addQ (mulQ a b) (mulQ a c)) % P25 := by
  rw [mulQ_val, addQ_val, mul_cong (rfl : valF a % P25 = valF a % P25) (addQ_val b c), add_cong (mulQ_val a b) (mulQ_val a c), Nat.mul_add]
theorem r5 (b : Fe5) {c : Fe5} (hc : MayF c) : valF (subQ (addQ b c) c) % P25 = valF b % P25 := add_cancel (c := valF c) (by rw [subQ_val hc, addQ_val])
theorem r6 (a : Fe5) {b : Fe5} (hb : MayF b) : valF (addQ (subQ a b) b) % P25 = valF a % P25 := by rw [addQ_val, subQ_val hb]

set_option maxRecDepth 100000 in
set_option maxHeartbeats 4000000 in
theorem walk_FeRing (a b c : Fe5) (w : World) (ha : WordF a) (hb : WordF b) (hc : WordF c) :
    Calls Try.prog 6 #[.agg (feC a), .agg (feC b), .agg (feC c)] w fun e w' => e = .returned (.bool true) ∧ Below w.heap.size w w' := by
  by_cases hma : MayF a
  · by_cases hmb : MayF b
    · by_cases hmc : MayF c
      · have Ha := Lib.hid hma
        have Hb := Lib.hid hmb
        have Hc := Lib.hid hmc
        clear hma hmb hmc ha hb hc
        have hM0 := (((Ms.nil w).box 37 (feC a)).box 37 (feC b)).box 37 (feC c)
        simp only [World.size_alloc] at hM0
        go_enter Try.func6, Try.ntmps6
        go_wp2_with fail
        refine (live05 _).mono ?_
        rintro e w1 ⟨rfl, hb1⟩
        have hM1 := hM0.call hb1
        clear hM0 hb1
        go_wp2_with ((with_reducible show wpList _ _ _ (⟨some 31, _, _, _, _, _⟩ :: _) _ _); refine wpList_loadC (by kernel_rfl) 37 (.tmp 3) rfl (w.heap.size) rfl 37 (feC (a)) _ (hM1.get 2 rfl) Try.underlying37 rfl (sizeFe _) ?_)
        refine (May_true (a) _ (Ha.out)).mono ?_
        rintro e w2 ⟨rfl, hb2⟩
        have hM2 := hM1.call hb2
        clear hM1 hb2
        go_wp2_with ((with_reducible show wpList _ _ _ (⟨some 35, _, _, _, _, _⟩ :: _) _ _); refine wpList_loadC (by kernel_rfl) 37 (.tmp 4) rfl (w.heap.size + 1) rfl 37 (feC (b)) _ (hM2.get 1 rfl) Try.underlying37 rfl (sizeFe _) ?_)
        refine (May_true (b) _ (Hb.out)).mono ?_
        rintro e w3 ⟨rfl, hb3⟩
        have hM3 := hM2.call hb3
        clear hM2 hb3
        go_wp2_with ((with_reducible show wpList _ _ _ (⟨some 40, _, _, _, _, _⟩ :: _) _ _); refine wpList_loadC (by kernel_rfl) 37 (.tmp 5) rfl (w.heap.size + 1 + 1) rfl 37 (feC (c)) _ (hM3.get 0 rfl) Try.underlying37 rfl (sizeFe _) ?_)
        refine (May_true (c) _ (Hc.out)).mono ?_
        rintro e w4 ⟨rfl, hb4⟩
        have hM4 := hM3.call hb4
        clear hM3 hb4
        go_wp2_with (first
          | ((with_reducible show wpList _ _ _ (⟨some 46, _, _, _, _, _⟩ :: _) _ _); refine wpList_loadC (by kernel_rfl) 37 (.tmp 3) rfl (w.heap.size) rfl 37 (feC (a)) _ (hM4.get 2 rfl) Try.underlying37 rfl (sizeFe _) ?_)
          | ((with_reducible show wpList _ _ _ (⟨some 47, _, _, _, _, _⟩ :: _) _ _); refine wpList_loadC (by kernel_rfl) 37 (.tmp 4) rfl (w.heap.size + 1) rfl 37 (feC (b)) _ (hM4.get 1 rfl) Try.underlying37 rfl (sizeFe _) ?_))
        refine (Mul_ok (a) (b) _ (Ha.out) (Hb.out)).mono ?_
        rintro e w5 ⟨rfl, hb5⟩
        have hM5 := hM4.call hb5
        clear hM4 hb5
        have hP5 := hM5.put 37 #[.int .u64 0, .int .u64 0, .int .u64 0, .int .u64 0, .int .u64 0] (feC (mulQ (a) (b)))
        go_wp2_with (first
          | ((with_reducible show wpList _ _ _ (⟨none, Op.store 37 _ _, _, _, _, _⟩ :: _) _ _); refine wpList_store_row rfl 37 (.tmp 8) (.tmp 49) rfl (w5.heap.size) (feC (mulQ (a) (b))) rfl rfl 37 _ (RowC.new _ _ _) (sizeFe _) (fe_zero _) (one_fe _) ?_)
          | ((with_reducible show wpList _ _ _ (⟨some 52, _, _, _, _, _⟩ :: _) _ _); refine wpList_loadC (by kernel_rfl) 37 (.tmp 4) rfl (w.heap.size + 1) rfl 37 (feC (b)) _ (hP5.get 2 rfl) Try.underlying37 rfl (sizeFe _) ?_)
          | ((with_reducible show wpList _ _ _ (⟨some 53, _, _, _, _, _⟩ :: _) _ _); refine wpList_loadC (by kernel_rfl) 37 (.tmp 3) rfl (w.heap.size) rfl 37 (feC (a)) _ (hP5.get 3 rfl) Try.underlying37 rfl (sizeFe _) ?_))
        refine (Mul_ok (b) (a) _ (Hb.out) (Ha.out)).mono ?_
        rintro e w6 ⟨rfl, hb6⟩
        have hM6 := hP5.call hb6
        clear hP5 hb6
        have hP6 := hM6.put 37 #[.int .u64 0, .int .u64 0, .int .u64 0, .int .u64 0, .int .u64 0] (feC (mulQ (b) (a)))
        go_wp2_with (first
          | ((with_reducible show wpList _ _ _ (⟨none, Op.store 37 _ _, _, _, _, _⟩ :: _) _ _); refine wpList_store_row rfl 37 (.tmp 10) (.tmp 55) rfl (w6.heap.size) (feC (mulQ (b) (a))) rfl rfl 37 _ (RowC.new _ _ _) (sizeFe _) (fe_zero _) (one_fe _) ?_)
          | ((with_reducible show wpList _ _ _ (⟨some 58, _, _, _, _, _⟩ :: _) _ _); refine wpList_loadC (by kernel_rfl) 37 (.tmp 8) rfl (w5.heap.size) rfl 37 (feC (mulQ (a) (b))) _ (hP6.get 1 rfl) Try.underlying37 rfl (sizeFe _) ?_)
          | ((with_reducible show wpList _ _ _ (⟨some 59, _, _, _, _, _⟩ :: _) _ _); refine wpList_loadC (by kernel_rfl) 37 (.tmp 5) rfl (w.heap.size + 1 + 1) rfl 37 (feC (c)) _ (hP6.get 2 rfl) Try.underlying37 rfl (sizeFe _) ?_))
        refine (Mul_ok (mulQ (a) (b)) (c) _ (mulQ_may (Ha.out) (Hb.out)) (Hc.out)).mono ?_
        rintro e w7 ⟨rfl, hb7⟩
        have hM7 := hP6.call hb7
        clear hP6 hb7
        have hP7 := hM7.put 37 #[.int .u64 0, .int .u64 0, .int .u64 0, .int .u64 0, .int .u64 0] (feC (mulQ (mulQ (a) (b)) (c)))
        go_wp2_with (first
          | ((with_reducible show wpList _ _ _ (⟨none, Op.store 37 _ _, _, _, _, _⟩ :: _) _ _); refine wpList_store_row rfl 37 (.tmp 12) (.tmp 61) rfl (w7.heap.size) (feC (mulQ (mulQ (a) (b)) (c))) rfl rfl 37 _ (RowC.new _ _ _) (sizeFe _) (fe_zero _) (one_fe _) ?_)
          | ((with_reducible show wpList _ _ _ (⟨some 64, _, _, _, _, _⟩ :: _) _ _); refine wpList_loadC (by kernel_rfl) 37 (.tmp 4) rfl (w.heap.size + 1) rfl 37 (feC (b)) _ (hP7.get 4 rfl) Try.underlying37 rfl (sizeFe _) ?_)
          | ((with_reducible show wpList _ _ _ (⟨some 65, _, _, _, _, _⟩ :: _) _ _); refine wpList_loadC (by kernel_rfl) 37 (.tmp 5) rfl (w.heap.size + 1 + 1) rfl 37 (feC (c)) _ (hP7.get 3 rfl) Try.underlying37 rfl (sizeFe _) ?_))
        refine (Mul_ok (b) (c) _ (Hb.out) (Hc.out)).mono ?_
        rintro e w8 ⟨rfl, hb8⟩
        have hM8 := hP7.call hb8
        clear hP7 hb8
        have hP8 := hM8.put 37 #[.int .u64 0, .int .u64 0, .int .u64 0, .int .u64 0, .int .u64 0] (feC (mulQ (b) (c)))
        go_wp2_with (first
          | ((with_reducible show wpList _ _ _ (⟨none, Op.store 37 _ _, _, _, _, _⟩ :: _) _ _); refine wpList_store_row rfl 37 (.tmp 14) (.tmp 67) rfl (w8.heap.size) (feC (mulQ (b) (c))) rfl rfl 37 _ (RowC.new _ _ _) (sizeFe _) (fe_zero _) (one_fe _) ?_)
          | ((with_reducible show wpList _ _ _ (⟨some 70, _, _, _, _, _⟩ :: _) _ _); refine wpList_loadC (by kernel_rfl) 37 (.tmp 3) rfl (w.heap.size) rfl 37 (feC (a)) _ (hP8.get 6 rfl) Try.underlying37 rfl (sizeFe _) ?_)
          | ((with_reducible show wpList _ _ _ (⟨some 71, _, _, _, _, _⟩ :: _) _ _); refine wpList_loadC (by kernel_rfl) 37 (.tmp 14) rfl (w8.heap.size) rfl 37 (feC (mulQ (b) (c))) _ (hP8.get 0 rfl) Try.underlying37 rfl (sizeFe _) ?_))
        refine (Mul_ok (a) (mulQ (b) (c)) _ (Ha.out) (mulQ_may (Hb.out) (Hc.out))).mono ?_
        rintro e w9 ⟨rfl, hb9⟩
        have hM9 := hP8.call hb9
        clear hP8 hb9
        have hP9 := hM9.put 37 #[.int .u64 0, .int .u64 0, .int .u64 0, .int .u64 0, .int .u64 0] (feC (mulQ (a) (mulQ (b) (c))))
        go_wp2_with (first
          | ((with_reducible show wpList _ _ _ (⟨none, Op.store 37 _ _, _, _, _, _⟩ :: _) _ _); refine wpList_store_row rfl 37 (.tmp 16) (.tmp 73) rfl (w9.heap.size) (feC (mulQ (a) (mulQ (b) (c)))) rfl rfl 37 _ (RowC.new _ _ _) (sizeFe _) (fe_zero _) (one_fe _) ?_)
          | ((with_reducible show wpList _ _ _ (⟨some 94, _, _, _, _, _⟩ :: _) _ _); refine wpList_loadC (by kernel_rfl) 37 (.tmp 8) rfl (w5.heap.size) rfl 37 (feC (mulQ (a) (b))) _ (hP9.get 4 rfl) Try.underlying37 rfl (sizeFe _) ?_)
          | ((with_reducible show wpList _ _ _ (⟨some 95, _, _, _, _, _⟩ :: _) _ _); refine wpList_loadC (by kernel_rfl) 37 (.tmp 10) rfl (w6.heap.size) rfl 37 (feC (mulQ (b) (a))) _ (hP9.get 3 rfl) Try.underlying37 rfl (sizeFe _) ?_))
        refine (Same_true (mulQ (a) (b)) (mulQ (b) (a)) _ (mulQ_may (Ha.out) (Hb.out)) (mulQ_may (Hb.out) (Ha.out)) (r1 a b)).mono ?_
        rintro e w10 ⟨rfl, hb10⟩
        have hM10 := hP9.call hb10
        clear hP9 hb10
        go_wp2_with (first
          | ((with_reducible show wpList _ _ _ (⟨some 100, _, _, _, _, _⟩ :: _) _ _); refine wpList_loadC (by kernel_rfl) 37 (.tmp 12) rfl (w7.heap.size) rfl 37 (feC (mulQ (mulQ (a) (b)) (c))) _ (hM10.get 2 rfl) Try.underlying37 rfl (sizeFe _) ?_)
          | ((with_reducible show wpList _ _ _ (⟨some 101, _, _, _, _, _⟩ :: _) _ _); refine wpList_loadC (by kernel_rfl) 37 (.tmp 16) rfl (w9.heap.size) rfl 37 (feC (mulQ (a) (mulQ (b) (c)))) _ (hM10.get 0 rfl) Try.underlying37 rfl (sizeFe _) ?_))
        refine (Same_true (mulQ (mulQ (a) (b)) (c)) (mulQ (a) (mulQ (b) (c))) _ (mulQ_may (mulQ_may (Ha.out) (Hb.out)) (Hc.out)) (mulQ_may (Ha.out) (mulQ_may (Hb.out) (Hc.out))) (r2 a b c)).mono ?_
        rintro e w11 ⟨rfl, hb11⟩
        have hM11 := hM10.call hb11
        clear hM10 hb11
        go_wp2_with (first
          | ((with_reducible show wpList _ _ _ (⟨some 106, _, _, _, _, _⟩ :: _) _ _); refine wpList_loadC (by kernel_rfl) 37 (.tmp 4) rfl (w.heap.size + 1) rfl 37 (feC (b)) _ (hM11.get 6 rfl) Try.underlying37 rfl (sizeFe _) ?_)
          | ((with_reducible show wpList _ _ _ (⟨some 107, _, _, _, _, _⟩ :: _) _ _); refine wpList_loadC (by kernel_rfl) 37 (.tmp 5) rfl (w.heap.size + 1 + 1) rfl 37 (feC (c)) _ (hM11.get 5 rfl) Try.underlying37 rfl (sizeFe _) ?_))
        refine (Add_ok (b) (c) _ (Hb.out) (Hc.out)).mono ?_
        rintro e w12 ⟨rfl, hb12⟩
        have hM12 := hM11.call hb12
        clear hM11 hb12
        have hP12 := hM12.put 37 #[.int .u64 0, .int .u64 0, .int .u64 0, .int .u64 0, .int .u64 0] (feC (addQ (b) (c)))
        go_wp2_with (first
          | ((with_reducible show wpList _ _ _ (⟨none, Op.store 37 _ _, _, _, _, _⟩ :: _) _ _); refine wpList_store_row rfl 37 (.tmp 18) (.tmp 109) rfl (w12.heap.size) (feC (addQ (b) (c))) rfl rfl 37 _ (RowC.new _ _ _) (sizeFe _) (fe_zero _) (one_fe _) ?_)
          | ((with_reducible show wpList _ _ _ (⟨some 112, _, _, _, _, _⟩ :: _) _ _); refine wpList_loadC (by kernel_rfl) 37 (.tmp 5) rfl (w.heap.size + 1 + 1) rfl 37 (feC (c)) _ (hP12.get 6 rfl) Try.underlying37 rfl (sizeFe _) ?_)
          | ((with_reducible show wpList _ _ _ (⟨some 113, _, _, _, _, _⟩ :: _) _ _); refine wpList_loadC (by kernel_rfl) 37 (.tmp 4) rfl (w.heap.size + 1) rfl 37 (feC (b)) _ (hP12.get 7 rfl) Try.underlying37 rfl (sizeFe _) ?_))
        refine (Add_ok (c) (b) _ (Hc.out) (Hb.out)).mono ?_
        rintro e w13 ⟨rfl, hb13⟩
        have hM13 := hP12.call hb13
        clear hP12 hb13
        have hP13 := hM13.put 37 #[.int .u64 0, .int .u64 0, .int .u64 0, .int .u64 0, .int .u64 0] (feC (addQ (c) (b)))
        go_wp2_with (first
          | ((with_reducible show wpList _ _ _ (⟨none, Op.store 37 _ _, _, _, _, _⟩ :: _) _ _); refine wpList_store_row rfl 37 (.tmp 19) (.tmp 115) rfl (w13.heap.size) (feC (addQ (c) (b))) rfl rfl 37 _ (RowC.new _ _ _) (sizeFe _) (fe_zero _) (one_fe _) ?_)
          | ((with_reducible show wpList _ _ _ (⟨some 118, _, _, _, _, _⟩ :: _) _ _); refine wpList_loadC (by kernel_rfl) 37 (.tmp 3) rfl (w.heap.size) rfl 37 (feC (a)) _ (hP13.get 9 rfl) Try.underlying37 rfl (sizeFe _) ?_)
          | ((with_reducible show wpList _ _ _ (⟨some 119, _, _, _, _, _⟩ :: _) _ _); refine wpList_loadC (by kernel_rfl) 37 (.tmp 18) rfl (w12.heap.size) rfl 37 (feC (addQ (b) (c))) _ (hP13.get 1 rfl) Try.underlying37 rfl (sizeFe _) ?_))
        refine (Mul_ok (a) (addQ (b) (c)) _ (Ha.out) (addQ_may (Hb.out) (Hc.out))).mono ?_
        rintro e w14 ⟨rfl, hb14⟩
        have hM14 := hP13.call hb14
        clear hP13 hb14
        have hP14 := hM14.put 37 #[.int .u64 0, .int .u64 0, .int .u64 0, .int .u64 0, .int .u64 0] (feC (mulQ (a) (addQ (b) (c))))
        go_wp2_with (first
          | ((with_reducible show wpList _ _ _ (⟨none, Op.store 37 _ _, _, _, _, _⟩ :: _) _ _); refine wpList_store_row rfl 37 (.tmp 20) (.tmp 121) rfl (w14.heap.size) (feC (mulQ (a) (addQ (b) (c)))) rfl rfl 37 _ (RowC.new _ _ _) (sizeFe _) (fe_zero _) (one_fe _) ?_)
          | ((with_reducible show wpList _ _ _ (⟨some 124, _, _, _, _, _⟩ :: _) _ _); refine wpList_loadC (by kernel_rfl) 37 (.tmp 3) rfl (w.heap.size) rfl 37 (feC (a)) _ (hP14.get 10 rfl) Try.underlying37 rfl (sizeFe _) ?_)
          | ((with_reducible show wpList _ _ _ (⟨some 125, _, _, _, _, _⟩ :: _) _ _); refine wpList_loadC (by kernel_rfl) 37 (.tmp 5) rfl (w.heap.size + 1 + 1) rfl 37 (feC (c)) _ (hP14.get 8 rfl) Try.underlying37 rfl (sizeFe _) ?_))
        refine (Mul_ok (a) (c) _ (Ha.out) (Hc.out)).mono ?_
        rintro e w15 ⟨rfl, hb15⟩
        have hM15 := hP14.call hb15
        clear hP14 hb15
        have hP15 := hM15.put 37 #[.int .u64 0, .int .u64 0, .int .u64 0, .int .u64 0, .int .u64 0] (feC (mulQ (a) (c)))
        go_wp2_with (first
          | ((with_reducible show wpList _ _ _ (⟨none, Op.store 37 _ _, _, _, _, _⟩ :: _) _ _); refine wpList_store_row rfl 37 (.tmp 21) (.tmp 127) rfl (w15.heap.size) (feC (mulQ (a) (c))) rfl rfl 37 _ (RowC.new _ _ _) (sizeFe _) (fe_zero _) (one_fe _) ?_)
          | ((with_reducible show wpList _ _ _ (⟨some 130, _, _, _, _, _⟩ :: _) _ _); refine wpList_loadC (by kernel_rfl) 37 (.tmp 8) rfl (w5.heap.size) rfl 37 (feC (mulQ (a) (b))) _ (hP15.get 8 rfl) Try.underlying37 rfl (sizeFe _) ?_)
          | ((with_reducible show wpList _ _ _ (⟨some 131, _, _, _, _, _⟩ :: _) _ _); refine wpList_loadC (by kernel_rfl) 37 (.tmp 21) rfl (w15.heap.size) rfl 37 (feC (mulQ (a) (c))) _ (hP15.get 0 rfl) Try.underlying37 rfl (sizeFe _) ?_))
        refine (Add_ok (mulQ (a) (b)) (mulQ (a) (c)) _ (mulQ_may (Ha.out) (Hb.out)) (mulQ_may (Ha.out) (Hc.out))).mono ?_
        rintro e w16 ⟨rfl, hb16⟩
        have hM16 := hP15.call hb16
        clear hP15 hb16
        have hP16 := hM16.put 37 #[.int .u64 0, .int .u64 0, .int .u64 0, .int .u64 0, .int .u64 0] (feC (addQ (mulQ (a) (b)) (mulQ (a) (c))))
        go_wp2_with (first
          | ((with_reducible show wpList _ _ _ (⟨none, Op.store 37 _ _, _, _, _, _⟩ :: _) _ _); refine wpList_store_row rfl 37 (.tmp 22) (.tmp 133) rfl (w16.heap.size) (feC (addQ (mulQ (a) (b)) (mulQ (a) (c)))) rfl rfl 37 _ (RowC.new _ _ _) (sizeFe _) (fe_zero _) (one_fe _) ?_)
          | ((with_reducible show wpList _ _ _ (⟨some 136, _, _, _, _, _⟩ :: _) _ _); refine wpList_loadC (by kernel_rfl) 37 (.tmp 18) rfl (w12.heap.size) rfl 37 (feC (addQ (b) (c))) _ (hP16.get 4 rfl) Try.underlying37 rfl (sizeFe _) ?_)
          | ((with_reducible show wpList _ _ _ (⟨some 137, _, _, _, _, _⟩ :: _) _ _); refine wpList_loadC (by kernel_rfl) 37 (.tmp 5) rfl (w.heap.size + 1 + 1) rfl 37 (feC (c)) _ (hP16.get 10 rfl) Try.underlying37 rfl (sizeFe _) ?_))
        refine (Sub_ok (addQ (b) (c)) (c) _ (addQ_may (Hb.out) (Hc.out)) (Hc.out)).mono ?_
        rintro e w17 ⟨rfl, hb17⟩
        have hM17 := hP16.call hb17
        clear hP16 hb17
        have hP17 := hM17.put 37 #[.int .u64 0, .int .u64 0, .int .u64 0, .int .u64 0, .int .u64 0] (feC (subQ (addQ (b) (c)) (c)))
        go_wp2_with (first
          | ((with_reducible show wpList _ _ _ (⟨none, Op.store 37 _ _, _, _, _, _⟩ :: _) _ _); refine wpList_store_row rfl 37 (.tmp 23) (.tmp 139) rfl (w17.heap.size) (feC (subQ (addQ (b) (c)) (c))) rfl rfl 37 _ (RowC.new _ _ _) (sizeFe _) (fe_zero _) (one_fe _) ?_)
          | ((with_reducible show wpList _ _ _ (⟨some 142, _, _, _, _, _⟩ :: _) _ _); refine wpList_loadC (by kernel_rfl) 37 (.tmp 3) rfl (w.heap.size) rfl 37 (feC (a)) _ (hP17.get 13 rfl) Try.underlying37 rfl (sizeFe _) ?_)
          | ((with_reducible show wpList _ _ _ (⟨some 143, _, _, _, _, _⟩ :: _) _ _); refine wpList_loadC (by kernel_rfl) 37 (.tmp 4) rfl (w.heap.size + 1) rfl 37 (feC (b)) _ (hP17.get 12 rfl) Try.underlying37 rfl (sizeFe _) ?_))
        refine (Sub_ok (a) (b) _ (Ha.out) (Hb.out)).mono ?_
        rintro e w18 ⟨rfl, hb18⟩
        have hM18 := hP17.call hb18
        clear hP17 hb18
        have hP18 := hM18.put 37 #[.int .u64 0, .int .u64 0, .int .u64 0, .int .u64 0, .int .u64 0] (feC (subQ (a) (b)))
        go_wp2_with (first
          | ((with_reducible show wpList _ _ _ (⟨none, Op.store 37 _ _, _, _, _, _⟩ :: _) _ _); refine wpList_store_row rfl 37 (.tmp 25) (.tmp 145) rfl (w18.heap.size) (feC (subQ (a) (b))) rfl rfl 37 _ (RowC.new _ _ _) (sizeFe _) (fe_zero _) (one_fe _) ?_)
          | ((with_reducible show wpList _ _ _ (⟨some 148, _, _, _, _, _⟩ :: _) _ _); refine wpList_loadC (by kernel_rfl) 37 (.tmp 25) rfl (w18.heap.size) rfl 37 (feC (subQ (a) (b))) _ (hP18.get 0 rfl) Try.underlying37 rfl (sizeFe _) ?_)
          | ((with_reducible show wpList _ _ _ (⟨some 149, _, _, _, _, _⟩ :: _) _ _); refine wpList_loadC (by kernel_rfl) 37 (.tmp 4) rfl (w.heap.size + 1) rfl 37 (feC (b)) _ (hP18.get 13 rfl) Try.underlying37 rfl (sizeFe _) ?_))
        refine (Add_ok (subQ (a) (b)) (b) _ (subQ_may (Ha.out) (Hb.out)) (Hb.out)).mono ?_
        rintro e w19 ⟨rfl, hb19⟩
        have hM19 := hP18.call hb19
        clear hP18 hb19
        have hP19 := hM19.put 37 #[.int .u64 0, .int .u64 0, .int .u64 0, .int .u64 0, .int .u64 0] (feC (addQ (subQ (a) (b)) (b)))
        go_wp2_with (first
          | ((with_reducible show wpList _ _ _ (⟨none, Op.store 37 _ _, _, _, _, _⟩ :: _) _ _); refine wpList_store_row rfl 37 (.tmp 27) (.tmp 151) rfl (w19.heap.size) (feC (addQ (subQ (a) (b)) (b))) rfl rfl 37 _ (RowC.new _ _ _) (sizeFe _) (fe_zero _) (one_fe _) ?_)
          | ((with_reducible show wpList _ _ _ (⟨some 188, _, _, _, _, _⟩ :: _) _ _); refine wpList_loadC (by kernel_rfl) 37 (.tmp 18) rfl (w12.heap.size) rfl 37 (feC (addQ (b) (c))) _ (hP19.get 7 rfl) Try.underlying37 rfl (sizeFe _) ?_)
          | ((with_reducible show wpList _ _ _ (⟨some 189, _, _, _, _, _⟩ :: _) _ _); refine wpList_loadC (by kernel_rfl) 37 (.tmp 19) rfl (w13.heap.size) rfl 37 (feC (addQ (c) (b))) _ (hP19.get 6 rfl) Try.underlying37 rfl (sizeFe _) ?_))
        refine (Same_true (addQ (b) (c)) (addQ (c) (b)) _ (addQ_may (Hb.out) (Hc.out)) (addQ_may (Hc.out) (Hb.out)) (r3 b c)).mono ?_
        rintro e w20 ⟨rfl, hb20⟩
        have hM20 := hP19.call hb20
        clear hP19 hb20
        go_wp2_with (first
          | ((with_reducible show wpList _ _ _ (⟨some 193, _, _, _, _, _⟩ :: _) _ _); refine wpList_loadC (by kernel_rfl) 37 (.tmp 20) rfl (w14.heap.size) rfl 37 (feC (mulQ (a) (addQ (b) (c)))) _ (hM20.get 5 rfl) Try.underlying37 rfl (sizeFe _) ?_)
          | ((with_reducible show wpList _ _ _ (⟨some 194, _, _, _, _, _⟩ :: _) _ _); refine wpList_loadC (by kernel_rfl) 37 (.tmp 22) rfl (w16.heap.size) rfl 37 (feC (addQ (mulQ (a) (b)) (mulQ (a) (c)))) _ (hM20.get 3 rfl) Try.underlying37 rfl (sizeFe _) ?_))
        refine (Same_true (mulQ (a) (addQ (b) (c))) (addQ (mulQ (a) (b)) (mulQ (a) (c))) _ (mulQ_may (Ha.out) (addQ_may (Hb.out) (Hc.out))) (addQ_may (mulQ_may (Ha.out) (Hb.out)) (mulQ_may (Ha.out) (Hc.out))) (r4 a b c)).mono ?_
        rintro e w21 ⟨rfl, hb21⟩
        have hM21 := hM20.call hb21
        clear hM20 hb21
        go_wp2_with (first
          | ((with_reducible show wpList _ _ _ (⟨some 198, _, _, _, _, _⟩ :: _) _ _); refine wpList_loadC (by kernel_rfl) 37 (.tmp 23) rfl (w17.heap.size) rfl 37 (feC (subQ (addQ (b) (c)) (c))) _ (hM21.get 2 rfl) Try.underlying37 rfl (sizeFe _) ?_)
          | ((with_reducible show wpList _ _ _ (⟨some 199, _, _, _, _, _⟩ :: _) _ _); refine wpList_loadC (by kernel_rfl) 37 (.tmp 4) rfl (w.heap.size + 1) rfl 37 (feC (b)) _ (hM21.get 14 rfl) Try.underlying37 rfl (sizeFe _) ?_))
        refine (Same_true (subQ (addQ (b) (c)) (c)) (b) _ (subQ_may (addQ_may (Hb.out) (Hc.out)) (Hc.out)) (Hb.out) (r5 b Hc.out)).mono ?_
        rintro e w22 ⟨rfl, hb22⟩
        have hM22 := hM21.call hb22
        clear hM21 hb22
        go_wp2_with (first
          | ((with_reducible show wpList _ _ _ (⟨some 203, _, _, _, _, _⟩ :: _) _ _); refine wpList_loadC (by kernel_rfl) 37 (.tmp 27) rfl (w19.heap.size) rfl 37 (feC (addQ (subQ (a) (b)) (b))) _ (hM22.get 0 rfl) Try.underlying37 rfl (sizeFe _) ?_)
          | ((with_reducible show wpList _ _ _ (⟨some 204, _, _, _, _, _⟩ :: _) _ _); refine wpList_loadC (by kernel_rfl) 37 (.tmp 3) rfl (w.heap.size) rfl 37 (feC (a)) _ (hM22.get 15 rfl) Try.underlying37 rfl (sizeFe _) ?_))
        refine (Same_true (addQ (subQ (a) (b)) (b)) (a) _ (addQ_may (subQ_may (Ha.out) (Hb.out)) (Hb.out)) (Ha.out) (r6 a Hb.out)).mono ?_
        rintro e w23 ⟨rfl, hb23⟩
        have hM23 := hM22.call hb23
        clear hM22 hb23
        go_wp2_with fail
        go_ret
        exact ⟨rfl, hM23.old⟩
      · have Ha := Lib.hid hma
        have Hb := Lib.hid hmb
        have Hn := Lib.hid hmc
        have Hw := Lib.hid hc
        clear hma hmb hmc ha hb hc
        have hM0 := (((Ms.nil w).box 37 (feC a)).box 37 (feC b)).box 37 (feC c)
        simp only [World.size_alloc] at hM0
        go_enter Try.func6, Try.ntmps6
        go_wp2_with fail
        refine (live05 _).mono ?_
        rintro e w1 ⟨rfl, hb1⟩
        have hM1 := hM0.call hb1
        clear hM0 hb1
        go_wp2_with ((with_reducible show wpList _ _ _ (⟨some 31, _, _, _, _, _⟩ :: _) _ _); refine wpList_loadC (by kernel_rfl) 37 (.tmp 3) rfl (w.heap.size) rfl 37 (feC (a)) _ (hM1.get 2 rfl) Try.underlying37 rfl (sizeFe _) ?_)
        refine (May_true (a) _ (Ha.out)).mono ?_
        rintro e w2 ⟨rfl, hb2⟩
        have hM2 := hM1.call hb2
        clear hM1 hb2
        go_wp2_with ((with_reducible show wpList _ _ _ (⟨some 35, _, _, _, _, _⟩ :: _) _ _); refine wpList_loadC (by kernel_rfl) 37 (.tmp 4) rfl (w.heap.size + 1) rfl 37 (feC (b)) _ (hM2.get 1 rfl) Try.underlying37 rfl (sizeFe _) ?_)
        refine (May_true (b) _ (Hb.out)).mono ?_
        rintro e w3 ⟨rfl, hb3⟩
        have hM3 := hM2.call hb3
        clear hM2 hb3
        go_wp2_with ((with_reducible show wpList _ _ _ (⟨some 40, _, _, _, _, _⟩ :: _) _ _); refine wpList_loadC (by kernel_rfl) 37 (.tmp 5) rfl (w.heap.size + 1 + 1) rfl 37 (feC (c)) _ (hM3.get 0 rfl) Try.underlying37 rfl (sizeFe _) ?_)
        refine (May_false (c) _ Hw.out Hn.out).mono ?_
        rintro e w4 ⟨rfl, hb4⟩
        have hM4 := hM3.call hb4
        clear hM3 hb4
        go_wp2_with fail
        go_ret
        exact ⟨rfl, hM4.old⟩
    · have Ha := Lib.hid hma
      have Hn := Lib.hid hmb
      have Hw := Lib.hid hb
      clear hma hmb ha hb hc
      have hM0 := (((Ms.nil w).box 37 (feC a)).box 37 (feC b)).box 37 (feC c)
      simp only [World.size_alloc] at hM0
      go_enter Try.func6, Try.ntmps6
      go_wp2_with fail
      refine (live05 _).mono ?_
      rintro e w1 ⟨rfl, hb1⟩
      have hM1 := hM0.call hb1
      clear hM0 hb1
      go_wp2_with ((with_reducible show wpList _ _ _ (⟨some 31, _, _, _, _, _⟩ :: _) _ _); refine wpList_loadC (by kernel_rfl) 37 (.tmp 3) rfl (w.heap.size) rfl 37 (feC (a)) _ (hM1.get 2 rfl) Try.underlying37 rfl (sizeFe _) ?_)
      refine (May_true (a) _ (Ha.out)).mono ?_
      rintro e w2 ⟨rfl, hb2⟩
      have hM2 := hM1.call hb2
      clear hM1 hb2
      go_wp2_with ((with_reducible show wpList _ _ _ (⟨some 35, _, _, _, _, _⟩ :: _) _ _); refine wpList_loadC (by kernel_rfl) 37 (.tmp 4) rfl (w.heap.size + 1) rfl 37 (feC (b)) _ (hM2.get 1 rfl) Try.underlying37 rfl (sizeFe _) ?_)
      refine (May_false (b) _ Hw.out Hn.out).mono ?_
      rintro e w3 ⟨rfl, hb3⟩
      have hM3 := hM2.call hb3
      clear hM2 hb3
      go_wp2_with fail
      go_ret
      exact ⟨rfl, hM3.old⟩
  · have Hn := Lib.hid hma
    have Hw := Lib.hid ha
    clear hma ha hb hc
    have hM0 := (((Ms.nil w).box 37 (feC a)).box 37 (feC b)).box 37 (feC c)
    simp only [World.size_alloc] at hM0
    go_enter Try.func6, Try.ntmps6
    go_wp2_with fail
    refine (live05 _).mono ?_
    rintro e w1 ⟨rfl, hb1⟩
    have hM1 := hM0.call hb1
    clear hM0 hb1
    go_wp2_with ((with_reducible show wpList _ _ _ (⟨some 31, _, _, _, _, _⟩ :: _) _ _); refine wpList_loadC (by kernel_rfl) 37 (.tmp 3) rfl (w.heap.size) rfl 37 (feC (a)) _ (hM1.get 2 rfl) Try.underlying37 rfl (sizeFe _) ?_)
    refine (May_false (a) _ Hw.out Hn.out).mono ?_
    rintro e w2 ⟨rfl, hb2⟩
    have hM2 := hM1.call hb2
    clear hM1 hb2
    go_wp2_with fail
    go_ret
    exact ⟨rfl, hM2.old⟩

end Go.Proofs.Ytbkdlmneidboaaa
