/-
  THE WALK of FeSquares (coterielaw05).
-/
import Derived.Test.YtbkdlmneidboaaaFeKit
set_option linter.unusedVariables false
namespace Go.Proofs.Ytbkdlmneidboaaa
open Go.RowKit

theorem s1 (a : Fe5) (i k : Nat) : valF (sqU a (i + k)) % P25 = valF (sqU (sqU a i) k) % P25 := by
  rw [sqU_val, sqU_val, pow_cong (sqU_val a i), ← Nat.pow_mul, Nat.pow_add]

set_option maxRecDepth 100000 in
set_option maxHeartbeats 4000000 in
theorem walk_FeSquares (a : Fe5) (m n : Nat) (w : World) (ha : WordF a) :
    Calls Try.prog 9 #[.agg (feC a), .int .u8 (m : Int), .int .u8 (n : Int)] w fun e w' => e = .returned (.bool true) ∧ Below w.heap.size w w' := by
  by_cases hm : MayF a
  · have Ha := Lib.hid hm
    have hi0 : m % 100 < 100 := Nat.mod_lt _ (by omega)
    have hk0 : n % 100 < 100 := Nat.mod_lt _ (by omega)
    have hi : (m : Int) % 100 = ((m % 100 : Nat) : Int) := by omega
    have hk : (n : Int) % 100 = ((n % 100 : Nat) : Int) := by omega
    have hwi : IntKind.i64.wrap ((m % 100 : Nat) : Int) = ((m % 100 : Nat) : Int) := by rw [IntKind.wrap_i64]; omega
    have hwk : IntKind.i64.wrap ((n % 100 : Nat) : Int) = ((n % 100 : Nat) : Int) := by rw [IntKind.wrap_i64]; omega
    have hw : IntKind.i64.wrap (((m % 100 : Nat) : Int) + ((n % 100 : Nat) : Int)) = ((m % 100 + n % 100 : Nat) : Int) := by rw [IntKind.wrap_i64]; omega
    have Hs := Lib.hid (s1 a (m % 100) (n % 100))
    have Hb := Lib.hid (show m % 100 + n % 100 ≤ 300 by omega)
    have Hbi := Lib.hid (show m % 100 ≤ 300 by omega)
    have Hbk := Lib.hid (show n % 100 ≤ 300 by omega)
    clear hi0 hk0
    generalize m % 100 + n % 100 = j at *
    generalize m % 100 = i at *
    generalize n % 100 = k at *
    clear hm ha
    have hM0 := (Ms.nil w).box 37 (feC a)
    go_enter Try.func9, Try.ntmps9
    go_wp2_with fail
    refine (live05 _).mono ?_
    rintro e w1 ⟨rfl, hb1⟩
    have hM1 := hM0.call hb1
    clear hM0 hb1
    go_wp2_with ((with_reducible show wpList _ _ _ (⟨some 23, _, _, _, _, _⟩ :: _) _ _); refine wpList_loadC (by kernel_rfl) 37 (.tmp 3) rfl (w.heap.size) rfl 37 (feC (a)) _ (hM1.get 0 rfl) Try.underlying37 rfl (sizeFe _) ?_)
    refine (May_true (a) _ (Ha.out)).mono ?_
    rintro e w2 ⟨rfl, hb2⟩
    have hM2 := hM1.call hb2
    clear hM1 hb2
    go_wp2_with ((with_reducible show wpList _ _ _ (⟨some 34, _, _, _, _, _⟩ :: _) _ _); refine wpList_loadC (by kernel_rfl) 37 (.tmp 3) rfl (w.heap.size) rfl 37 (feC (a)) _ (hM2.get 0 rfl) Try.underlying37 rfl (sizeFe _) ?_)
    refine (Square_ok (a) (j) _ (Ha.out) (Hb.out)).mono ?_
    rintro e w3 ⟨rfl, hb3⟩
    have hM3 := hM2.call hb3
    clear hM2 hb3
    have hP3 := hM3.put 37 #[.int .u64 0, .int .u64 0, .int .u64 0, .int .u64 0, .int .u64 0] (feC (sqU (a) (j)))
    go_wp2_with (first
      | ((with_reducible show wpList _ _ _ (⟨none, Op.store 37 _ _, _, _, _, _⟩ :: _) _ _); refine wpList_store_row rfl 37 (.tmp 10) (.tmp 39) rfl (w3.heap.size) (feC (sqU (a) (j))) rfl rfl 37 _ (RowC.new _ _ _) (sizeFe _) (fe_zero _) (one_fe _) ?_)
      | ((with_reducible show wpList _ _ _ (⟨some 42, _, _, _, _, _⟩ :: _) _ _); refine wpList_loadC (by kernel_rfl) 37 (.tmp 3) rfl (w.heap.size) rfl 37 (feC (a)) _ (hP3.get 1 rfl) Try.underlying37 rfl (sizeFe _) ?_))
    refine (Square_ok (a) (i) _ (Ha.out) (Hbi.out)).mono ?_
    rintro e w4 ⟨rfl, hb4⟩
    have hM4 := hP3.call hb4
    clear hP3 hb4
    have hP4 := hM4.put 37 #[.int .u64 0, .int .u64 0, .int .u64 0, .int .u64 0, .int .u64 0] (feC (sqU (a) (i)))
    go_wp2_with (first
      | ((with_reducible show wpList _ _ _ (⟨none, Op.store 37 _ _, _, _, _, _⟩ :: _) _ _); refine wpList_store_row rfl 37 (.tmp 12) (.tmp 45) rfl (w4.heap.size) (feC (sqU (a) (i))) rfl rfl 37 _ (RowC.new _ _ _) (sizeFe _) (fe_zero _) (one_fe _) ?_)
      | ((with_reducible show wpList _ _ _ (⟨some 48, _, _, _, _, _⟩ :: _) _ _); refine wpList_loadC (by kernel_rfl) 37 (.tmp 12) rfl (w4.heap.size) rfl 37 (feC (sqU (a) (i))) _ (hP4.get 0 rfl) Try.underlying37 rfl (sizeFe _) ?_))
    refine (Square_ok (sqU (a) (i)) (k) _ (sqU_may (Ha.out) _) (Hbk.out)).mono ?_
    rintro e w5 ⟨rfl, hb5⟩
    have hM5 := hP4.call hb5
    clear hP4 hb5
    have hP5 := hM5.put 37 #[.int .u64 0, .int .u64 0, .int .u64 0, .int .u64 0, .int .u64 0] (feC (sqU (sqU (a) (i)) (k)))
    go_wp2_with (first
      | ((with_reducible show wpList _ _ _ (⟨none, Op.store 37 _ _, _, _, _, _⟩ :: _) _ _); refine wpList_store_row rfl 37 (.tmp 14) (.tmp 51) rfl (w5.heap.size) (feC (sqU (sqU (a) (i)) (k))) rfl rfl 37 _ (RowC.new _ _ _) (sizeFe _) (fe_zero _) (one_fe _) ?_)
      | ((with_reducible show wpList _ _ _ (⟨some 54, _, _, _, _, _⟩ :: _) _ _); refine wpList_loadC (by kernel_rfl) 37 (.tmp 3) rfl (w.heap.size) rfl 37 (feC (a)) _ (hP5.get 3 rfl) Try.underlying37 rfl (sizeFe _) ?_))
    have hk := fun wx => Square_ok (a) (1) wx (Ha.out) ((by omega))
    simp only [show ((1 : Nat) : Int) = 1 from rfl] at hk
    refine (hk _).mono ?_
    clear hk
    rintro e w6 ⟨rfl, hb6⟩
    have hM6 := hP5.call hb6
    clear hP5 hb6
    have hP6 := hM6.put 37 #[.int .u64 0, .int .u64 0, .int .u64 0, .int .u64 0, .int .u64 0] (feC (sqU (a) (1)))
    go_wp2_with (first
      | ((with_reducible show wpList _ _ _ (⟨none, Op.store 37 _ _, _, _, _, _⟩ :: _) _ _); refine wpList_store_row rfl 37 (.tmp 16) (.tmp 56) rfl (w6.heap.size) (feC (sqU (a) (1))) rfl rfl 37 _ (RowC.new _ _ _) (sizeFe _) (fe_zero _) (one_fe _) ?_)
      | ((with_reducible show wpList _ _ _ (⟨some 59, _, _, _, _, _⟩ :: _) _ _); refine wpList_loadC (by kernel_rfl) 37 (.tmp 3) rfl (w.heap.size) rfl 37 (feC (a)) _ (hP6.get 4 rfl) Try.underlying37 rfl (sizeFe _) ?_)
      | ((with_reducible show wpList _ _ _ (⟨some 60, _, _, _, _, _⟩ :: _) _ _); refine wpList_loadC (by kernel_rfl) 37 (.tmp 3) rfl (w.heap.size) rfl 37 (feC (a)) _ (hP6.get 4 rfl) Try.underlying37 rfl (sizeFe _) ?_))
    refine (Mul_ok (a) (a) _ (Ha.out) (Ha.out)).mono ?_
    rintro e w7 ⟨rfl, hb7⟩
    have hM7 := hP6.call hb7
    clear hP6 hb7
    have hP7 := hM7.put 37 #[.int .u64 0, .int .u64 0, .int .u64 0, .int .u64 0, .int .u64 0] (feC (mulQ (a) (a)))
    go_wp2_with (first
      | ((with_reducible show wpList _ _ _ (⟨none, Op.store 37 _ _, _, _, _, _⟩ :: _) _ _); refine wpList_store_row rfl 37 (.tmp 18) (.tmp 62) rfl (w7.heap.size) (feC (mulQ (a) (a))) rfl rfl 37 _ (RowC.new _ _ _) (sizeFe _) (fe_zero _) (one_fe _) ?_)
      | ((with_reducible show wpList _ _ _ (⟨some 65, _, _, _, _, _⟩ :: _) _ _); refine wpList_loadC (by kernel_rfl) 37 (.tmp 3) rfl (w.heap.size) rfl 37 (feC (a)) _ (hP7.get 5 rfl) Try.underlying37 rfl (sizeFe _) ?_))
    have hk := fun wx => Square_ok (a) (0) wx (Ha.out) ((by omega))
    simp only [show ((0 : Nat) : Int) = 0 from rfl] at hk
    refine (hk _).mono ?_
    clear hk
    rintro e w8 ⟨rfl, hb8⟩
    have hM8 := hP7.call hb8
    clear hP7 hb8
    have hP8 := hM8.put 37 #[.int .u64 0, .int .u64 0, .int .u64 0, .int .u64 0, .int .u64 0] (feC (sqU (a) (0)))
    go_wp2_with (first
      | ((with_reducible show wpList _ _ _ (⟨none, Op.store 37 _ _, _, _, _, _⟩ :: _) _ _); refine wpList_store_row rfl 37 (.tmp 20) (.tmp 67) rfl (w8.heap.size) (feC (sqU (a) (0))) rfl rfl 37 _ (RowC.new _ _ _) (sizeFe _) (fe_zero _) (one_fe _) ?_)
      | ((with_reducible show wpList _ _ _ (⟨some 95, _, _, _, _, _⟩ :: _) _ _); refine wpList_loadC (by kernel_rfl) 37 (.tmp 10) rfl (w3.heap.size) rfl 37 (feC (sqU (a) (j))) _ (hP8.get 5 rfl) Try.underlying37 rfl (sizeFe _) ?_)
      | ((with_reducible show wpList _ _ _ (⟨some 96, _, _, _, _, _⟩ :: _) _ _); refine wpList_loadC (by kernel_rfl) 37 (.tmp 14) rfl (w5.heap.size) rfl 37 (feC (sqU (sqU (a) (i)) (k))) _ (hP8.get 3 rfl) Try.underlying37 rfl (sizeFe _) ?_))
    refine (Same_true (sqU (a) (j)) (sqU (sqU (a) (i)) (k)) _ (sqU_may (Ha.out) _) (sqU_may (sqU_may (Ha.out) _) _) Hs.out).mono ?_
    rintro e w9 ⟨rfl, hb9⟩
    have hM9 := hP8.call hb9
    clear hP8 hb9
    go_wp2_with (first
      | ((with_reducible show wpList _ _ _ (⟨some 100, _, _, _, _, _⟩ :: _) _ _); refine wpList_loadC (by kernel_rfl) 37 (.tmp 16) rfl (w6.heap.size) rfl 37 (feC (sqU (a) (1))) _ (hM9.get 2 rfl) Try.underlying37 rfl (sizeFe _) ?_)
      | ((with_reducible show wpList _ _ _ (⟨some 101, _, _, _, _, _⟩ :: _) _ _); refine wpList_loadC (by kernel_rfl) 37 (.tmp 18) rfl (w7.heap.size) rfl 37 (feC (mulQ (a) (a))) _ (hM9.get 1 rfl) Try.underlying37 rfl (sizeFe _) ?_))
    refine (Same_true (sqU (a) (1)) (mulQ (a) (a)) _ (sqU_may (Ha.out) _) (mulQ_may (Ha.out) (Ha.out)) rfl).mono ?_
    rintro e w10 ⟨rfl, hb10⟩
    have hM10 := hM9.call hb10
    clear hM9 hb10
    go_wp2_with (first
      | ((with_reducible show wpList _ _ _ (⟨some 105, _, _, _, _, _⟩ :: _) _ _); refine wpList_loadC (by kernel_rfl) 37 (.tmp 20) rfl (w8.heap.size) rfl 37 (feC (sqU (a) (0))) _ (hM10.get 0 rfl) Try.underlying37 rfl (sizeFe _) ?_)
      | ((with_reducible show wpList _ _ _ (⟨some 106, _, _, _, _, _⟩ :: _) _ _); refine wpList_loadC (by kernel_rfl) 37 (.tmp 3) rfl (w.heap.size) rfl 37 (feC (a)) _ (hM10.get 6 rfl) Try.underlying37 rfl (sizeFe _) ?_))
    refine (Same_true (sqU (a) (0)) (a) _ (sqU_may (Ha.out) _) (Ha.out) rfl).mono ?_
    rintro e w11 ⟨rfl, hb11⟩
    have hM11 := hM10.call hb11
    clear hM10 hb11
    go_wp2_with fail
    go_ret
    exact ⟨rfl, hM11.old⟩
  · have Hn := Lib.hid hm
    have Hw := Lib.hid ha
    clear hm ha
    have hM0 := (Ms.nil w).box 37 (feC a)
    go_enter Try.func9, Try.ntmps9
    go_wp2_with fail
    refine (live05 _).mono ?_
    rintro e w1 ⟨rfl, hb1⟩
    have hM1 := hM0.call hb1
    clear hM0 hb1
    go_wp2_with ((with_reducible show wpList _ _ _ (⟨some 23, _, _, _, _, _⟩ :: _) _ _); refine wpList_loadC (by kernel_rfl) 37 (.tmp 3) rfl (w.heap.size) rfl 37 (feC (a)) _ (hM1.get 0 rfl) Try.underlying37 rfl (sizeFe _) ?_)
    refine (May_false (a) _ Hw.out Hn.out).mono ?_
    rintro e w2 ⟨rfl, hb2⟩
    have hM2 := hM1.call hb2
    clear hM1 hb2
    go_wp2_with fail
    go_ret
    exact ⟨rfl, hM2.old⟩

end Go.Proofs.Ytbkdlmneidboaaa
