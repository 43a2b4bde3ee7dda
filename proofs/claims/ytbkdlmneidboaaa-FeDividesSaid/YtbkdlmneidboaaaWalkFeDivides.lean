/-
  THE WALK of FeDivides (coterielaw05).
-/
import Derived.Test.YtbkdlmneidboaaaFeKit
set_option linter.unusedVariables false
namespace Go.Proofs.Ytbkdlmneidboaaa
open Go.RowKit

theorem pow_pred (a m : Nat) : a * a ^ m = a ^ (m + 1) := (Nat.pow_succ').symm
theorem inv_inv {p a b c m : Nat} (hb : b % p = a ^ m % p) (hc : c % p = b ^ m % p) (hm : m * m = (m + 1) * (m - 1) + 1) (hF : a ^ (m + 1) % p = 1 % p) : c % p = a % p := by
  rw [hc, pow_cong hb, ← Nat.pow_mul, hm, Nat.pow_add, Nat.pow_mul, Nat.pow_one, mul_cong (pow_one_mod hF) (rfl : a % p = a % p), Nat.one_mul]
theorem inv_zero {p a b c m : Nat} (hb : b % p = a ^ m % p) (ha : a % p = 0 % p) (hm : m ≠ 0) : b % p = 0 % p := by
  rw [hb, pow_cong ha, Nat.zero_pow (by omega)]
theorem P25_e1 : P25 - 1 = P25 - 2 + 1 := by decide +kernel
theorem P25_e2 : (P25 - 2) * (P25 - 2) = (P25 - 2 + 1) * (P25 - 2 - 1) + 1 := by decide +kernel
theorem P25_e3 : P25 - 2 ≠ 0 := by decide +kernel
theorem d_zero {a : Fe5} (h : valF a % P25 = valF zeroF % P25) : valF (invU a) % P25 = valF zeroF % P25 := inv_zero (c := 0) (invU_val a) h P25_e3
theorem d_one {a : Fe5} (h : valF a % P25 ≠ valF zeroF % P25) : valF (mulQ a (invU a)) % P25 = valF oneF % P25 := by
  have hF := fermat25 (a := valF a) h
  rw [P25_e1] at hF
  rw [mulQ_val, mul_cong (rfl : valF a % P25 = valF a % P25) (invU_val a), pow_pred, hF]
  rfl
theorem d_back (a : Fe5) : valF (invU (invU a)) % P25 = valF a % P25 := by
  by_cases h : valF a % P25 = valF zeroF % P25
  · rw [d_zero (d_zero h), h]
  · have hF := fermat25 (a := valF a) h
    rw [P25_e1] at hF
    exact inv_inv (invU_val a) (invU_val (invU a)) P25_e2 hF

set_option maxRecDepth 100000 in
set_option maxHeartbeats 4000000 in
theorem walk_FeDivides (a : Fe5) (w : World) (ha : WordF a) :
    Calls Try.prog 7 #[.agg (feC a)] w fun e w' => e = .returned (.bool true) ∧ Below w.heap.size w w' := by
  by_cases hm : MayF a
  · by_cases hz : valF a % P25 = valF zeroF % P25
    · have Ha := Lib.hid hm
      have Hz := Lib.hid hz
      clear hm hz ha
      have hM0 := (Ms.nil w).box 37 (feC a)
      go_enter Try.func7, Try.ntmps7
      go_wp2_with fail
      refine (live05 _).mono ?_
      rintro e w1 ⟨rfl, hb1⟩
      have hM1 := hM0.call hb1
      clear hM0 hb1
      go_wp2_with ((with_reducible show wpList _ _ _ (⟨some 11, _, _, _, _, _⟩ :: _) _ _); refine wpList_loadC (by kernel_rfl) 37 (.tmp 1) rfl (w.heap.size) rfl 37 (feC (a)) _ (hM1.get 0 rfl) Try.underlying37 rfl (sizeFe _) ?_)
      refine (May_true (a) _ (Ha.out)).mono ?_
      rintro e w2 ⟨rfl, hb2⟩
      have hM2 := hM1.call hb2
      clear hM1 hb2
      go_wp2_with ((with_reducible show wpList _ _ _ (⟨some 16, _, _, _, _, _⟩ :: _) _ _); refine wpList_loadC (by kernel_rfl) 37 (.tmp 1) rfl (w.heap.size) rfl 37 (feC (a)) _ (hM2.get 0 rfl) Try.underlying37 rfl (sizeFe _) ?_)
      refine (Invert_ok (a) _ (Ha.out)).mono ?_
      rintro e w3 ⟨rfl, hb3⟩
      have hM3 := hM2.call hb3
      clear hM2 hb3
      have hP3 := hM3.put 37 #[.int .u64 0, .int .u64 0, .int .u64 0, .int .u64 0, .int .u64 0] (feC (invU (a)))
      go_wp2_with (first
        | ((with_reducible show wpList _ _ _ (⟨none, Op.store 37 _ _, _, _, _, _⟩ :: _) _ _); refine wpList_store_row rfl 37 (.tmp 4) (.tmp 18) rfl (w3.heap.size) (feC (invU (a))) rfl rfl 37 _ (RowC.new _ _ _) (sizeFe _) (fe_zero _) (one_fe _) ?_)
        | ((with_reducible show wpList _ _ _ (⟨some 21, _, _, _, _, _⟩ :: _) _ _); refine wpList_loadC (by kernel_rfl) 37 (.tmp 1) rfl (w.heap.size) rfl 37 (feC (a)) _ (hP3.get 1 rfl) Try.underlying37 rfl (sizeFe _) ?_)
        | ((with_reducible show wpList _ _ _ (⟨some 22, _, _, _, _, _⟩ :: _) _ _); refine wpList_loadC (by kernel_rfl) 37 (.tmp 4) rfl (w3.heap.size) rfl 37 (feC (invU (a))) _ (hP3.get 0 rfl) Try.underlying37 rfl (sizeFe _) ?_))
      refine (Mul_ok (a) (invU (a)) _ (Ha.out) (invU_may (Ha.out))).mono ?_
      rintro e w4 ⟨rfl, hb4⟩
      have hM4 := hP3.call hb4
      clear hP3 hb4
      have hP4 := hM4.put 37 #[.int .u64 0, .int .u64 0, .int .u64 0, .int .u64 0, .int .u64 0] (feC (mulQ (a) (invU (a))))
      go_wp2_with (first
        | ((with_reducible show wpList _ _ _ (⟨none, Op.store 37 _ _, _, _, _, _⟩ :: _) _ _); refine wpList_store_row rfl 37 (.tmp 6) (.tmp 24) rfl (w4.heap.size) (feC (mulQ (a) (invU (a)))) rfl rfl 37 _ (RowC.new _ _ _) (sizeFe _) (fe_zero _) (one_fe _) ?_)
        | ((with_reducible show wpList _ _ _ (⟨some 27, _, _, _, _, _⟩ :: _) _ _); refine wpList_loadC (by kernel_rfl) 37 (.tmp 4) rfl (w3.heap.size) rfl 37 (feC (invU (a))) _ (hP4.get 1 rfl) Try.underlying37 rfl (sizeFe _) ?_))
      refine (Invert_ok (invU (a)) _ (invU_may (Ha.out))).mono ?_
      rintro e w5 ⟨rfl, hb5⟩
      have hM5 := hP4.call hb5
      clear hP4 hb5
      have hP5 := hM5.put 37 #[.int .u64 0, .int .u64 0, .int .u64 0, .int .u64 0, .int .u64 0] (feC (invU (invU (a))))
      go_wp2_with (first
        | ((with_reducible show wpList _ _ _ (⟨none, Op.store 37 _ _, _, _, _, _⟩ :: _) _ _); refine wpList_store_row rfl 37 (.tmp 8) (.tmp 29) rfl (w5.heap.size) (feC (invU (invU (a)))) rfl rfl 37 _ (RowC.new _ _ _) (sizeFe _) (fe_zero _) (one_fe _) ?_)
        | ((with_reducible show wpList _ _ _ (⟨some 42, _, _, _, _, _⟩ :: _) _ _); refine wpList_loadC (by kernel_rfl) 37 (.tmp 8) rfl (w5.heap.size) rfl 37 (feC (invU (invU (a)))) _ (hP5.get 0 rfl) Try.underlying37 rfl (sizeFe _) ?_)
        | ((with_reducible show wpList _ _ _ (⟨some 43, _, _, _, _, _⟩ :: _) _ _); refine wpList_loadC (by kernel_rfl) 37 (.tmp 1) rfl (w.heap.size) rfl 37 (feC (a)) _ (hP5.get 3 rfl) Try.underlying37 rfl (sizeFe _) ?_))
      refine (Same_true (invU (invU (a))) (a) _ (invU_may (invU_may (Ha.out))) (Ha.out) (d_back a)).mono ?_
      rintro e w6 ⟨rfl, hb6⟩
      have hM6 := hP5.call hb6
      clear hP5 hb6
      go_wp2_with ((with_reducible show wpList _ _ _ (⟨some 47, _, _, _, _, _⟩ :: _) _ _); refine wpList_loadC (by kernel_rfl) 37 (.tmp 1) rfl (w.heap.size) rfl 37 (feC (a)) _ (hM6.get 3 rfl) Try.underlying37 rfl (sizeFe _) ?_)
      have hk := fun wx => Same_val (a) (zeroF) wx (Ha.out) (zeroF_may) true (beq_iff_eq.2 Hz.out)
      simp only [cells_zero] at hk
      refine (hk _).mono ?_
      clear hk
      rintro e w7 ⟨rfl, hb7⟩
      have hM7 := hM6.call hb7
      clear hM6 hb7
      go_wp2_with ((with_reducible show wpList _ _ _ (⟨some 52, _, _, _, _, _⟩ :: _) _ _); refine wpList_loadC (by kernel_rfl) 37 (.tmp 4) rfl (w3.heap.size) rfl 37 (feC (invU (a))) _ (hM7.get 2 rfl) Try.underlying37 rfl (sizeFe _) ?_)
      have hk := fun wx => Same_true (invU (a)) (zeroF) wx (invU_may (Ha.out)) (zeroF_may) (d_zero Hz.out)
      simp only [cells_zero] at hk
      refine (hk _).mono ?_
      clear hk
      rintro e w8 ⟨rfl, hb8⟩
      have hM8 := hM7.call hb8
      clear hM7 hb8
      go_wp2_with fail
      go_ret
      exact ⟨rfl, hM8.old⟩
    · have Ha := Lib.hid hm
      have Hz := Lib.hid hz
      clear hm hz ha
      have hM0 := (Ms.nil w).box 37 (feC a)
      go_enter Try.func7, Try.ntmps7
      go_wp2_with fail
      refine (live05 _).mono ?_
      rintro e w1 ⟨rfl, hb1⟩
      have hM1 := hM0.call hb1
      clear hM0 hb1
      go_wp2_with ((with_reducible show wpList _ _ _ (⟨some 11, _, _, _, _, _⟩ :: _) _ _); refine wpList_loadC (by kernel_rfl) 37 (.tmp 1) rfl (w.heap.size) rfl 37 (feC (a)) _ (hM1.get 0 rfl) Try.underlying37 rfl (sizeFe _) ?_)
      refine (May_true (a) _ (Ha.out)).mono ?_
      rintro e w2 ⟨rfl, hb2⟩
      have hM2 := hM1.call hb2
      clear hM1 hb2
      go_wp2_with ((with_reducible show wpList _ _ _ (⟨some 16, _, _, _, _, _⟩ :: _) _ _); refine wpList_loadC (by kernel_rfl) 37 (.tmp 1) rfl (w.heap.size) rfl 37 (feC (a)) _ (hM2.get 0 rfl) Try.underlying37 rfl (sizeFe _) ?_)
      refine (Invert_ok (a) _ (Ha.out)).mono ?_
      rintro e w3 ⟨rfl, hb3⟩
      have hM3 := hM2.call hb3
      clear hM2 hb3
      have hP3 := hM3.put 37 #[.int .u64 0, .int .u64 0, .int .u64 0, .int .u64 0, .int .u64 0] (feC (invU (a)))
      go_wp2_with (first
        | ((with_reducible show wpList _ _ _ (⟨none, Op.store 37 _ _, _, _, _, _⟩ :: _) _ _); refine wpList_store_row rfl 37 (.tmp 4) (.tmp 18) rfl (w3.heap.size) (feC (invU (a))) rfl rfl 37 _ (RowC.new _ _ _) (sizeFe _) (fe_zero _) (one_fe _) ?_)
        | ((with_reducible show wpList _ _ _ (⟨some 21, _, _, _, _, _⟩ :: _) _ _); refine wpList_loadC (by kernel_rfl) 37 (.tmp 1) rfl (w.heap.size) rfl 37 (feC (a)) _ (hP3.get 1 rfl) Try.underlying37 rfl (sizeFe _) ?_)
        | ((with_reducible show wpList _ _ _ (⟨some 22, _, _, _, _, _⟩ :: _) _ _); refine wpList_loadC (by kernel_rfl) 37 (.tmp 4) rfl (w3.heap.size) rfl 37 (feC (invU (a))) _ (hP3.get 0 rfl) Try.underlying37 rfl (sizeFe _) ?_))
      refine (Mul_ok (a) (invU (a)) _ (Ha.out) (invU_may (Ha.out))).mono ?_
      rintro e w4 ⟨rfl, hb4⟩
      have hM4 := hP3.call hb4
      clear hP3 hb4
      have hP4 := hM4.put 37 #[.int .u64 0, .int .u64 0, .int .u64 0, .int .u64 0, .int .u64 0] (feC (mulQ (a) (invU (a))))
      go_wp2_with (first
        | ((with_reducible show wpList _ _ _ (⟨none, Op.store 37 _ _, _, _, _, _⟩ :: _) _ _); refine wpList_store_row rfl 37 (.tmp 6) (.tmp 24) rfl (w4.heap.size) (feC (mulQ (a) (invU (a)))) rfl rfl 37 _ (RowC.new _ _ _) (sizeFe _) (fe_zero _) (one_fe _) ?_)
        | ((with_reducible show wpList _ _ _ (⟨some 27, _, _, _, _, _⟩ :: _) _ _); refine wpList_loadC (by kernel_rfl) 37 (.tmp 4) rfl (w3.heap.size) rfl 37 (feC (invU (a))) _ (hP4.get 1 rfl) Try.underlying37 rfl (sizeFe _) ?_))
      refine (Invert_ok (invU (a)) _ (invU_may (Ha.out))).mono ?_
      rintro e w5 ⟨rfl, hb5⟩
      have hM5 := hP4.call hb5
      clear hP4 hb5
      have hP5 := hM5.put 37 #[.int .u64 0, .int .u64 0, .int .u64 0, .int .u64 0, .int .u64 0] (feC (invU (invU (a))))
      go_wp2_with (first
        | ((with_reducible show wpList _ _ _ (⟨none, Op.store 37 _ _, _, _, _, _⟩ :: _) _ _); refine wpList_store_row rfl 37 (.tmp 8) (.tmp 29) rfl (w5.heap.size) (feC (invU (invU (a)))) rfl rfl 37 _ (RowC.new _ _ _) (sizeFe _) (fe_zero _) (one_fe _) ?_)
        | ((with_reducible show wpList _ _ _ (⟨some 42, _, _, _, _, _⟩ :: _) _ _); refine wpList_loadC (by kernel_rfl) 37 (.tmp 8) rfl (w5.heap.size) rfl 37 (feC (invU (invU (a)))) _ (hP5.get 0 rfl) Try.underlying37 rfl (sizeFe _) ?_)
        | ((with_reducible show wpList _ _ _ (⟨some 43, _, _, _, _, _⟩ :: _) _ _); refine wpList_loadC (by kernel_rfl) 37 (.tmp 1) rfl (w.heap.size) rfl 37 (feC (a)) _ (hP5.get 3 rfl) Try.underlying37 rfl (sizeFe _) ?_))
      refine (Same_true (invU (invU (a))) (a) _ (invU_may (invU_may (Ha.out))) (Ha.out) (d_back a)).mono ?_
      rintro e w6 ⟨rfl, hb6⟩
      have hM6 := hP5.call hb6
      clear hP5 hb6
      go_wp2_with ((with_reducible show wpList _ _ _ (⟨some 47, _, _, _, _, _⟩ :: _) _ _); refine wpList_loadC (by kernel_rfl) 37 (.tmp 1) rfl (w.heap.size) rfl 37 (feC (a)) _ (hM6.get 3 rfl) Try.underlying37 rfl (sizeFe _) ?_)
      have hk := fun wx => Same_val (a) (zeroF) wx (Ha.out) (zeroF_may) false (beq_eq_false_iff_ne.2 Hz.out)
      simp only [cells_zero] at hk
      refine (hk _).mono ?_
      clear hk
      rintro e w7 ⟨rfl, hb7⟩
      have hM7 := hM6.call hb7
      clear hM6 hb7
      go_wp2_with ((with_reducible show wpList _ _ _ (⟨some 58, _, _, _, _, _⟩ :: _) _ _); refine wpList_loadC (by kernel_rfl) 37 (.tmp 6) rfl (w4.heap.size) rfl 37 (feC (mulQ (a) (invU (a)))) _ (hM7.get 1 rfl) Try.underlying37 rfl (sizeFe _) ?_)
      have hk := fun wx => Same_true (mulQ (a) (invU (a))) (oneF) wx (mulQ_may (Ha.out) (invU_may (Ha.out))) (oneF_may) (d_one Hz.out)
      simp only [cells_one] at hk
      refine (hk _).mono ?_
      clear hk
      rintro e w8 ⟨rfl, hb8⟩
      have hM8 := hM7.call hb8
      clear hM7 hb8
      go_wp2_with fail
      go_ret
      exact ⟨rfl, hM8.old⟩
  · have Hn := Lib.hid hm
    have Hw := Lib.hid ha
    clear hm ha
    have hM0 := (Ms.nil w).box 37 (feC a)
    go_enter Try.func7, Try.ntmps7
    go_wp2_with fail
    refine (live05 _).mono ?_
    rintro e w1 ⟨rfl, hb1⟩
    have hM1 := hM0.call hb1
    clear hM0 hb1
    go_wp2_with ((with_reducible show wpList _ _ _ (⟨some 11, _, _, _, _, _⟩ :: _) _ _); refine wpList_loadC (by kernel_rfl) 37 (.tmp 1) rfl (w.heap.size) rfl 37 (feC (a)) _ (hM1.get 0 rfl) Try.underlying37 rfl (sizeFe _) ?_)
    refine (May_false (a) _ Hw.out Hn.out).mono ?_
    rintro e w2 ⟨rfl, hb2⟩
    have hM2 := hM1.call hb2
    clear hM1 hb2
    go_wp2_with fail
    go_ret
    exact ⟨rfl, hM2.old⟩

end Go.Proofs.Ytbkdlmneidboaaa
