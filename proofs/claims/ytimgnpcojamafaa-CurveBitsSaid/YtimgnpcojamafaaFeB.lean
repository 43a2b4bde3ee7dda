/-
  CONTRACTS of math/bits.Mul64 and Add64 as they are called here, and of the program's sums of products (package fe, wide), and product.
-/
import Derived.Test.YtimgnpcojamafaaFeA
set_option linter.unusedVariables false
namespace Go.Proofs.Ytimgnpcojamafaa
open Go.RowKit

theorem divN32 (a : Nat) : (a : Int) / 4294967296 = ((a / 4294967296 : Nat) : Int) := by omega
theorem mulNN (a b : Nat) : (a : Int) * (b : Int) = ((a * b : Nat) : Int) := (Int.natCast_mul a b).symm
theorem addN (a b : Nat) : (a : Int) + (b : Int) = ((a + b : Nat) : Int) := (Int.natCast_add a b).symm
theorem wrapN {a : Nat} (ha : a < 18446744073709551616) : IntKind.u64.wrap (a : Int) = (a : Int) := by rw [IntKind.wrap_u64]; omega
theorem wrapM (a : Nat) : IntKind.u64.wrap (a : Int) = ((a % 18446744073709551616 : Nat) : Int) := by rw [IntKind.wrap_u64]; omega

set_option maxHeartbeats 1000000 in
theorem Mul64_any (x y : Nat) (hx : x < 18446744073709551616) (hy : y < 18446744073709551616) (w : World) :
    Calls Try.prog 53 #[.int .u64 (x : Int), .int .u64 (y : Int)] w fun e w' => e = .returned (.tuple #[.int .u64 ((x * y / 18446744073709551616 : Nat) : Int), .int .u64 ((x * y % 18446744073709551616 : Nat) : Int)]) ∧ w' = w := by
  obtain ⟨bd, bt, bw, hhi⟩ := Lib.mul64_hi x y hx hy
  have ba := Lib.half_mul_le (a := x / 4294967296) (b := y / 4294967296) (by omega) (by omega)
  have bb := Lib.half_mul_le (a := x / 4294967296) (b := y % 4294967296) (by omega) (by omega)
  have bc := Lib.half_mul_le (a := x % 4294967296) (b := y / 4294967296) (by omega) (by omega)
  have ba' : x / 4294967296 * (y / 4294967296) < 18446744073709551616 := by omega
  have bb' : x / 4294967296 * (y % 4294967296) < 18446744073709551616 := by omega
  have bc' : x % 4294967296 * (y / 4294967296) < 18446744073709551616 := by omega
  have bh1 : x / 4294967296 * (y / 4294967296) + (x / 4294967296 * (y % 4294967296) + x % 4294967296 * (y % 4294967296) / 4294967296) / 4294967296 < 18446744073709551616 := by omega
  have bh : x / 4294967296 * (y / 4294967296) + (x / 4294967296 * (y % 4294967296) + x % 4294967296 * (y % 4294967296) / 4294967296) / 4294967296 + ((x / 4294967296 * (y % 4294967296) + x % 4294967296 * (y % 4294967296) / 4294967296) % 4294967296 + x % 4294967296 * (y / 4294967296)) / 4294967296 < 18446744073709551616 := by
    rw [hhi]
    refine Nat.div_lt_of_lt_mul ?_
    exact Nat.lt_of_lt_of_le (Nat.mul_lt_mul_of_lt_of_lt hx hy) (by omega)
  go_enter Try.func53, Try.ntmps53
  go_wp2
  simp only [mask32 hx, mask32 hy, divN32, mulNN, addN, wrapN bd, wrapN bb', wrapN bt, mask32 bt, wrapN bc', wrapN bw, wrapN ba', wrapN bh1, wrapN bh, wrapM (x * y)]
  rw [hhi]
  go_ret2
  exact ⟨rfl, rfl⟩

theorem Add64_any (x y c : Nat) (hc : c ≤ 1) (w : World) :
    (callFunc 54 #[.int .u64 (x : Int), .int .u64 (y : Int), .int .u64 (c : Int)]).run Try.prog w =
      .ok (.value (.tuple #[.int .u64 (((x + y + c) % 18446744073709551616 : Nat) : Int), .int .u64 (((x + y + c) / 18446744073709551616 : Nat) : Int)])) w := by
  rw [run_callFunc_extern Try.func54 (by kernel_rfl) (by kernel_rfl) (by kernel_rfl) (e := add64Entry) (by kernel_rfl), run_add64 x y c (by omega) (by omega) (by omega) (by omega)]
  simp only [Result.andThen]
  congr 5 <;> omega

/-- a sum of two words as a value -/
def wideV (W : Nat) : Value := .agg #[.int .u64 ((W / 18446744073709551616 : Nat) : Int), .int .u64 ((W % 18446744073709551616 : Nat) : Int)]

set_option maxHeartbeats 1000000 in
theorem plus_any (W x y : Nat) (hx : x < 18446744073709551616) (hy : y < 18446744073709551616) (hW : W + x * y < 340282366920938463463374607431768211456) (w : World) :
    Calls Try.prog 49 #[wideV W, .int .u64 (x : Int), .int .u64 (y : Int)] w fun e w' => e = .returned (wideV (W + x * y)) ∧ Below w.heap.size w w' := by
  have hm := fun wx => Mul64_any x y hx hy wx
  have e1 : (W + x * y) / 18446744073709551616 = (W / 18446744073709551616 + x * y / 18446744073709551616 + (W % 18446744073709551616 + x * y % 18446744073709551616) / 18446744073709551616) % 18446744073709551616 := by omega
  have e2 : (W + x * y) % 18446744073709551616 = (W % 18446744073709551616 + x * y % 18446744073709551616 + 0) % 18446744073709551616 := by omega
  have hc1 : (W % 18446744073709551616 + x * y % 18446744073709551616 + 0) / 18446744073709551616 ≤ 1 := by omega
  unfold wideV
  rw [e1, e2]
  clear e1 e2 hW
  generalize W / 18446744073709551616 = p at *
  generalize W % 18446744073709551616 = q at *
  generalize x * y / 18446744073709551616 = s at *
  generalize x * y % 18446744073709551616 = t at *
  have ha := fun wx => Add64_any q t 0 (by omega) wx
  rw [show ((0 : Nat) : Int) = 0 from rfl] at ha
  generalize (q + t + 0) / 18446744073709551616 = c at *
  generalize (q + t + 0) % 18446744073709551616 = r at *
  have hb := fun wx => Add64_any p s c hc1 wx
  generalize (p + s + c) / 18446744073709551616 = u at *
  generalize (p + s + c) % 18446744073709551616 = v at *
  clear hc1
  go_enter Try.func49, Try.ntmps49
  go_wp2_with fail
  refine (hm _).mono ?_
  rintro e w2 ⟨rfl, rfl⟩
  go_wp2_with fail
  refine bodyPost_ret (results_cell_one rfl _ _ (w.heap.size + 1) _ _ _ rfl (heap_at1 _ _ _) Try.underlying72 rfl (by kernel_rfl)) rfl ⟨rfl, ((Below.refl _ _).alloc (Nat.le_refl _) _).alloc (al0 _ _) _⟩

theorem kept_any (W : Nat) (w : World) :
    Calls Try.prog 50 #[wideV W] w fun e w' => e = .returned (.int .u64 ((W % 2251799813685248 : Nat) : Int)) ∧ Below w.heap.size w w' := by
  have k := mask51 (x := W % 18446744073709551616) (by omega)
  rw [show W % 18446744073709551616 % 2251799813685248 = W % 2251799813685248 by omega] at k
  unfold wideV
  generalize W / 18446744073709551616 = p at *
  generalize W % 18446744073709551616 = q at *
  generalize W % 2251799813685248 = r at *
  go_enter Try.func50, Try.ntmps50
  go_wp2_with fail
  go_ret
  exact ⟨rfl, (Below.refl _ _).alloc (Nat.le_refl _) _⟩

theorem over_or {p q : Nat} (hp : p < 2251799813685248) (hq : q < 18446744073709551616) : p * 8192 ||| q / 2251799813685248 = p * 8192 + q / 2251799813685248 := by
  have := Nat.two_pow_add_eq_or_of_lt (i := 13) (b := q / 2251799813685248) (by omega) p
  rw [← Nat.mul_comm, ← this]

set_option maxHeartbeats 1000000 in
theorem over_any (W : Nat) (hW : W < 41538374868278621028243970633760768) (w : World) :
    Calls Try.prog 51 #[wideV W] w fun e w' => e = .returned (.int .u64 ((W / 2251799813685248 : Nat) : Int)) ∧ Below w.heap.size w w' := by
  have hp : W / 18446744073709551616 < 2251799813685248 := by omega
  have hq : W % 18446744073709551616 < 18446744073709551616 := by omega
  have ho := bits_or_u64_nat (W / 18446744073709551616 * 8192) (W % 18446744073709551616 / 2251799813685248) (by omega) (by omega)
  rw [over_or hp hq, show W / 18446744073709551616 * 8192 + W % 18446744073709551616 / 2251799813685248 = W / 2251799813685248 by omega] at ho
  have e1 : IntKind.u64.wrap (((W / 18446744073709551616 : Nat) : Int) * 8192) = ((W / 18446744073709551616 * 8192 : Nat) : Int) := wrap_nat (by omega) (by omega)
  have e2 : ((W % 18446744073709551616 : Nat) : Int) / 2251799813685248 = ((W % 18446744073709551616 / 2251799813685248 : Nat) : Int) := by omega
  unfold wideV
  go_enter Try.func51, Try.ntmps51
  go_wp2_with fail
  have ho2 : bits .or .u64 ((W : Int) / 18446744073709551616 * 8192) ((W : Int) % 18446744073709551616 / 2251799813685248) = ((W / 2251799813685248 : Nat) : Int) := by
    rw [← ho]
    congr 1 <;> omega
  rw [ho2]
  go_ret
  exact ⟨rfl, (Below.refl _ _).alloc (Nat.le_refl _) _⟩

end Go.Proofs.Ytimgnpcojamafaa
