/-
  THE WALK of FeSmall (coterielaw05).
-/
import Derived.Test.YtbkdlmneidboaaaFeKit
set_option linter.unusedVariables false
namespace Go.Proofs.Ytbkdlmneidboaaa
open Go.RowKit

def smallF (x : Nat) : Fe5 := ⟨x, 0, 0, 0, 0⟩
theorem cells_small (x : Nat) : feC (smallF x) = #[.int .u64 (x : Int), .int .u64 0, .int .u64 0, .int .u64 0, .int .u64 0] := rfl
theorem small_may {x : Nat} (h : x < 4503599627370496) : MayF (smallF x) := ⟨h, show (0 : Nat) < 4503599627370496 by decide, show (0 : Nat) < 4503599627370496 by decide, show (0 : Nat) < 4503599627370496 by decide, show (0 : Nat) < 4503599627370496 by decide⟩
theorem small_val (x : Nat) : valF (smallF x) = x := by simp [valF, smallF]
theorem q1 (x y : Nat) : valF (addQ (smallF x) (smallF y)) % P25 = valF (smallF (x + y)) % P25 := by rw [addQ_val, small_val, small_val, small_val]
theorem q2 {x y : Nat} (h : MayF (smallF y)) (hle : y ≤ x) : valF (subQ (smallF x) (smallF y)) % P25 = valF (smallF (x - y)) % P25 := add_cancel (c := valF (smallF y)) (by rw [subQ_val h, small_val, small_val, small_val]; congr 1; omega)
theorem q3 (x y : Nat) : valF (mulQ (smallF x) (smallF y)) % P25 = valF (smallF (x * y)) % P25 := by rw [mulQ_val, small_val, small_val, small_val]

set_option maxRecDepth 100000 in
set_option maxHeartbeats 4000000 in
theorem walk_FeSmall (a b : Nat) (w : World) (ha : a < 4294967296) (hb : b < 4294967296) :
    Calls Try.prog 10 #[.int .u32 (a : Int), .int .u32 (b : Int)] w fun e w' => e = .returned (.bool true) ∧ Below w.heap.size w w' := by
  obtain ⟨x, hx⟩ : ∃ x, x = a % 33554432 := ⟨_, rfl⟩
  obtain ⟨y, hy⟩ : ∃ y, y = b % 33554432 := ⟨_, rfl⟩
  have hxl : x < 33554432 := by omega
  have hyl : y < 33554432 := by omega
  have hxr : (a : Int) % 33554432 = (x : Int) := by omega
  have hyr : (b : Int) % 33554432 = (y : Int) := by omega
  have hwx : IntKind.u64.wrap (x : Int) = (x : Int) := wrap_nat rfl (by omega)
  have hwy : IntKind.u64.wrap (y : Int) = (y : Int) := wrap_nat rfl (by omega)
  clear hx hy ha hb
  obtain ⟨lo, hlo⟩ : ∃ l, l = min x y := ⟨_, rfl⟩
  obtain ⟨hi, hhi⟩ : ∃ l, l = max x y := ⟨_, rfl⟩
  have hmin : min (x : Int) (y : Int) = (lo : Int) := by omega
  have hmax : max (x : Int) (y : Int) = (hi : Int) := by omega
  have hle : lo ≤ hi := by omega
  have hil : hi < 33554432 := by omega
  obtain ⟨s, hs⟩ : ∃ s, s = x + y := ⟨_, rfl⟩
  obtain ⟨d, hd⟩ : ∃ d, d = hi - lo := ⟨_, rfl⟩
  obtain ⟨p, hp⟩ : ∃ p, p = x * y := ⟨_, rfl⟩
  have hpl : p ≤ 33554431 * 33554431 := by rw [hp]; exact Nat.mul_le_mul (by omega) (by omega)
  have hws : IntKind.u64.wrap ((x : Int) + (y : Int)) = (s : Int) := wrap_nat (by omega) (by omega)
  have hwd : IntKind.u64.wrap ((hi : Int) - (lo : Int)) = (d : Int) := wrap_nat (by omega) (by omega)
  have hwp : IntKind.u64.wrap ((x : Int) * (y : Int)) = (p : Int) := wrap_nat (by rw [hp]; simp) (by omega)
  have Hx := Lib.hid (small_may (show x < 4503599627370496 by omega))
  have Hy := Lib.hid (small_may (show y < 4503599627370496 by omega))
  have Hlo := Lib.hid (small_may (show lo < 4503599627370496 by omega))
  have Hhi := Lib.hid (small_may (show hi < 4503599627370496 by omega))
  have Hs := Lib.hid (small_may (show s < 4503599627370496 by omega))
  have Hd := Lib.hid (small_may (show d < 4503599627370496 by omega))
  have Hp := Lib.hid (small_may (show p < 4503599627370496 by omega))
  have Q1 := Lib.hid (q1 x y)
  have Q2 := Lib.hid (q2 Hlo.out hle)
  have Q3 := Lib.hid (q3 x y)
  rw [← hs] at Q1
  rw [← hd] at Q2
  rw [← hp] at Q3
  clear hxl hyl hle hil hs hd hp hpl hlo hhi
  have hM0 : Ms w w [] := Ms.nil w
  go_enter Try.func10, Try.ntmps10
  go_wp2_with fail
  refine (live05 _).mono ?_
  rintro e w1 ⟨rfl, hb1⟩
  have hM1 := hM0.call hb1
  clear hM0 hb1
  go_wp2_with fail
  have hk := fun wx => Add_ok (smallF x) (smallF y) wx (Hx.out) (Hy.out)
  simp only [cells_small] at hk
  refine (hk _).mono ?_
  clear hk
  rintro e w2 ⟨rfl, hb2⟩
  have hM2 := hM1.call hb2
  clear hM1 hb2
  have hP2 := hM2.put 37 #[.int .u64 0, .int .u64 0, .int .u64 0, .int .u64 0, .int .u64 0] (feC (addQ (smallF x) (smallF y)))
  go_wp2_with ((with_reducible show wpList _ _ _ (⟨none, Op.store 37 _ _, _, _, _, _⟩ :: _) _ _); refine wpList_store_row rfl 37 (.tmp 10) (.tmp 37) rfl (w2.heap.size) (feC (addQ (smallF x) (smallF y))) rfl rfl 37 _ (RowC.new _ _ _) (sizeFe _) (fe_zero _) (one_fe _) ?_)
  have hk := fun wx => Sub_ok (smallF hi) (smallF lo) wx (Hhi.out) (Hlo.out)
  simp only [cells_small] at hk
  refine (hk _).mono ?_
  clear hk
  rintro e w3 ⟨rfl, hb3⟩
  have hM3 := hP2.call hb3
  clear hP2 hb3
  have hP3 := hM3.put 37 #[.int .u64 0, .int .u64 0, .int .u64 0, .int .u64 0, .int .u64 0] (feC (subQ (smallF hi) (smallF lo)))
  go_wp2_with ((with_reducible show wpList _ _ _ (⟨none, Op.store 37 _ _, _, _, _, _⟩ :: _) _ _); refine wpList_store_row rfl 37 (.tmp 12) (.tmp 45) rfl (w3.heap.size) (feC (subQ (smallF hi) (smallF lo))) rfl rfl 37 _ (RowC.new _ _ _) (sizeFe _) (fe_zero _) (one_fe _) ?_)
  have hk := fun wx => Mul_ok (smallF x) (smallF y) wx (Hx.out) (Hy.out)
  simp only [cells_small] at hk
  refine (hk _).mono ?_
  clear hk
  rintro e w4 ⟨rfl, hb4⟩
  have hM4 := hP3.call hb4
  clear hP3 hb4
  have hP4 := hM4.put 37 #[.int .u64 0, .int .u64 0, .int .u64 0, .int .u64 0, .int .u64 0] (feC (mulQ (smallF x) (smallF y)))
  go_wp2_with (first
    | ((with_reducible show wpList _ _ _ (⟨none, Op.store 37 _ _, _, _, _, _⟩ :: _) _ _); refine wpList_store_row rfl 37 (.tmp 14) (.tmp 53) rfl (w4.heap.size) (feC (mulQ (smallF x) (smallF y))) rfl rfl 37 _ (RowC.new _ _ _) (sizeFe _) (fe_zero _) (one_fe _) ?_)
    | ((with_reducible show wpList _ _ _ (⟨some 69, _, _, _, _, _⟩ :: _) _ _); refine wpList_loadC (by kernel_rfl) 37 (.tmp 10) rfl (w2.heap.size) rfl 37 (feC (addQ (smallF x) (smallF y))) _ (hP4.get 2 rfl) Try.underlying37 rfl (sizeFe _) ?_))
  have hk := fun wx => Same_true (addQ (smallF x) (smallF y)) (smallF s) wx (addQ_may (Hx.out) (Hy.out)) (Hs.out) Q1.out
  simp only [cells_small] at hk
  refine (hk _).mono ?_
  clear hk
  rintro e w5 ⟨rfl, hb5⟩
  have hM5 := hP4.call hb5
  clear hP4 hb5
  go_wp2_with ((with_reducible show wpList _ _ _ (⟨some 77, _, _, _, _, _⟩ :: _) _ _); refine wpList_loadC (by kernel_rfl) 37 (.tmp 12) rfl (w3.heap.size) rfl 37 (feC (subQ (smallF hi) (smallF lo))) _ (hM5.get 1 rfl) Try.underlying37 rfl (sizeFe _) ?_)
  have hk := fun wx => Same_true (subQ (smallF hi) (smallF lo)) (smallF d) wx (subQ_may (Hhi.out) (Hlo.out)) (Hd.out) Q2.out
  simp only [cells_small] at hk
  refine (hk _).mono ?_
  clear hk
  rintro e w6 ⟨rfl, hb6⟩
  have hM6 := hM5.call hb6
  clear hM5 hb6
  go_wp2_with ((with_reducible show wpList _ _ _ (⟨some 85, _, _, _, _, _⟩ :: _) _ _); refine wpList_loadC (by kernel_rfl) 37 (.tmp 14) rfl (w4.heap.size) rfl 37 (feC (mulQ (smallF x) (smallF y))) _ (hM6.get 0 rfl) Try.underlying37 rfl (sizeFe _) ?_)
  have hk := fun wx => Same_true (mulQ (smallF x) (smallF y)) (smallF p) wx (mulQ_may (Hx.out) (Hy.out)) (Hp.out) Q3.out
  simp only [cells_small] at hk
  refine (hk _).mono ?_
  clear hk
  rintro e w7 ⟨rfl, hb7⟩
  have hM7 := hM6.call hb7
  clear hM6 hb7
  go_wp2_with fail
  go_ret
  exact ⟨rfl, hM7.old⟩

end Go.Proofs.Ytbkdlmneidboaaa
