/-
  CONTRACTS of the program's small functions of package sha: turns, mixtures of words.
-/
import Derived.Test.YtmkkghlpdnoogaaDoorShaE
import Derived.Deep.MidRow
set_option linter.unusedVariables false
namespace Go.Proofs.YtmkkghlpdnoogaaDoor
open Go.RowKit

theorem and31 : ∀ j : Fin 32, 1 ≤ j.val → bits .and .u64 (IntKind.u64.wrap (-(j.val : Int))) 31 = 32 - (j.val : Int) := by decide +kernel

theorem or_ror' (x : UInt32) (k : Nat) (h1 : 1 ≤ k) (h2 : k ≤ 31) :
    bits .or .u32 ((x.toNat : Int) * 2 ^ (32 - k) % 4294967296) ((x.toNat : Int) / 2 ^ k) = ((rorU x k).toNat : Int) := by
  rw [← or_ror x k h1 h2]
  have hx := u32_lt x
  have e1 : (x.toNat : Int) / 2 ^ k = ((x.toNat / 2 ^ k : Nat) : Int) := by
    rw [Int.natCast_ediv, Int.natCast_pow]; rfl
  have e2 : (x.toNat : Int) * 2 ^ (32 - k) % 4294967296 = ((x.toNat * 2 ^ (32 - k) % 4294967296 : Nat) : Int) := by
    rw [Int.natCast_emod, Int.natCast_mul, Int.natCast_pow]; rfl
  rw [e1, e2, u32_or_nat _ _ (Nat.lt_of_le_of_lt (Nat.div_le_self _ _) hx) (Nat.mod_lt _ (by omega)), u32_or_nat _ _ (Nat.mod_lt _ (by omega)) (Nat.lt_of_le_of_lt (Nat.div_le_self _ _) hx), Nat.or_comm]

theorem ret_u32 {a b : Int} (h : a = b) : Ending.returned (.int .u32 a) = .returned (.int .u32 b) := by rw [h]

theorem S0_val (x : UInt32) : bits .xor .u32 (bits .xor .u32 ((rorU x 2).toNat : Int) ((rorU x 13).toNat : Int)) ((rorU x 22).toNat : Int) = ((S0 x).toNat : Int) := by
  rw [w_xor, w_xor]; rfl
theorem S1_val (x : UInt32) : bits .xor .u32 (bits .xor .u32 ((rorU x 6).toNat : Int) ((rorU x 11).toNat : Int)) ((rorU x 25).toNat : Int) = ((S1 x).toNat : Int) := by
  rw [w_xor, w_xor]; rfl

theorem rot_any (x : UInt32) (k : Nat) (w : World) (h1 : 1 ≤ k) (h2 : k ≤ 31) :
    Calls Tryd.prog 74 #[.int .u32 (x.toNat : Int), .int .i64 (-(k : Int))] w fun e w' => e = .returned (.int .u32 ((rorU x k).toNat : Int)) ∧ w = w' := by
  have hx := u32_lt x
  have hk := and31 ⟨k, by omega⟩ h1
  have k0 : 0 ≤ 32 - (k : Int) := by omega
  have k1 : 32 - (k : Int) ≤ 32 := by omega
  have k2 : 32 - (32 - (k : Int)) = (k : Int) := by omega
  go_enter Tryd.func74, Tryd.ntmps74
  go_wp2_with fail
  go_ret
  refine ⟨?_, rfl⟩
  exact ret_u32 (or_ror' x k h1 h2)

theorem pror_any (x : UInt32) (d : Int) (w : World) (h1 : 1 ≤ d) (h2 : d ≤ 31) :
    Calls Tryd.prog 73 #[.int .u32 (x.toNat : Int), .int .i64 d] w fun e w' => e = .returned (.int .u32 ((rorU x d.toNat).toNat : Int)) ∧ w = w' := by
  obtain ⟨k, rfl⟩ := Int.eq_ofNat_of_zero_le (show 0 ≤ d by omega)
  go_enter Tryd.func73, Tryd.ntmps73
  go_wp2_with (go_at_call 74; refine (rot_any x k _ (by omega) (by omega)).mono ?_; rintro e w' ⟨rfl, rfl⟩)
  go_ret
  exact ⟨by simp, rfl⟩

theorem smallS0_any (x : UInt32) (w : World) :
    Calls Tryd.prog 71 #[.int .u32 (x.toNat : Int)] w fun e w' => e = .returned (.int .u32 ((sig0 x).toNat : Int)) ∧ w = w' := by
  have hx := u32_lt x
  go_enter Tryd.func71, Tryd.ntmps71
  go_wp2_with (go_at_call 73; refine (pror_any x _ _ (by omega) (by omega)).mono ?_; rintro e w' ⟨rfl, rfl⟩)
  go_ret
  exact ⟨ret_u32 (sig0_val x), rfl⟩

theorem smallS1_any (x : UInt32) (w : World) :
    Calls Tryd.prog 72 #[.int .u32 (x.toNat : Int)] w fun e w' => e = .returned (.int .u32 ((sig1 x).toNat : Int)) ∧ w = w' := by
  have hx := u32_lt x
  go_enter Tryd.func72, Tryd.ntmps72
  go_wp2_with (go_at_call 73; refine (pror_any x _ _ (by omega) (by omega)).mono ?_; rintro e w' ⟨rfl, rfl⟩)
  go_ret
  exact ⟨ret_u32 (sig1_val x), rfl⟩

theorem bigS0_any (x : UInt32) (w : World) :
    Calls Tryd.prog 67 #[.int .u32 (x.toNat : Int)] w fun e w' => e = .returned (.int .u32 ((S0 x).toNat : Int)) ∧ w = w' := by
  have hx := u32_lt x
  go_enter Tryd.func67, Tryd.ntmps67
  go_wp2_with (go_at_call 73; refine (pror_any x _ _ (by omega) (by omega)).mono ?_; rintro e w' ⟨rfl, rfl⟩)
  go_ret
  exact ⟨ret_u32 (S0_val x), rfl⟩

theorem bigS1_any (x : UInt32) (w : World) :
    Calls Tryd.prog 66 #[.int .u32 (x.toNat : Int)] w fun e w' => e = .returned (.int .u32 ((S1 x).toNat : Int)) ∧ w = w' := by
  have hx := u32_lt x
  go_enter Tryd.func66, Tryd.ntmps66
  go_wp2_with (go_at_call 73; refine (pror_any x _ _ (by omega) (by omega)).mono ?_; rintro e w' ⟨rfl, rfl⟩)
  go_ret
  exact ⟨ret_u32 (S1_val x), rfl⟩

end Go.Proofs.YtmkkghlpdnoogaaDoor
