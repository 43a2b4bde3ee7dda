/-
  CONTRACTS of the program's twice, times, spread (package aes), and of bits.RotateLeft8 as it is called there.
-/
import Derived.Test.YtbkdlmneidboaaaAesSpec
set_option linter.unusedVariables false
namespace Go.Proofs.Ytbkdlmneidboaaa
open Go.RowKit

theorem ret_u8 {a b : Int} (h : a = b) : Ending.returned (.int .u8 a) = .returned (.int .u8 b) := by rw [h]

theorem tw_val (x : UInt8) : bits .xor .u8 ((x.toNat : Int) * 2 % 256) ((x.toNat : Int) / 128 * 27) = ((twU x).toNat : Int) := by
  have hx := b_lt x
  have e : (x.toNat : Int) / 128 * 27 = (x.toNat : Int) / 128 * 27 % 256 := by omega
  rw [e, show ((x.toNat : Int) * 2 % 256) = (x.toNat : Int) * 2 ^ 1 % 256 from rfl, b_shl x 1 (by omega), show ((x.toNat : Int) / 128) = (x.toNat : Int) / 2 ^ 7 from rfl, b_shr x 7 (by omega),
    show (27 : Int) = (((27 : UInt8).toNat : Nat) : Int) from rfl, b_mul, b_xor]
  rfl

theorem twice_any (x : UInt8) (w : World) :
    Calls Try.prog 57 #[.int .u8 (x.toNat : Int)] w fun e w' => e = .returned (.int .u8 ((twU x).toNat : Int)) ∧ w = w' := by
  have hx := b_lt x
  go_enter Try.func57, Try.ntmps57
  go_wp2_with fail
  go_ret
  exact ⟨ret_u8 (tw_val x), rfl⟩

theorem times_any (a b : UInt8) (w : World) :
    Calls Try.prog 80 #[.int .u8 (a.toNat : Int), .int .u8 (b.toNat : Int)] w fun e w' => e = .returned (.int .u8 ((timesU a b).toNat : Int)) ∧ w = w' := by
  go_enter Try.func80, Try.ntmps80
  go_wp2_with fail
  go_loopw [0, 1, 5] (fun sa sb sp wr => ∃ (n : Nat) (p a1 b1 : UInt8), sa = .int .u8 (a1.toNat : Int) ∧ sb = .int .u8 (b1.toNat : Int) ∧ sp = .int .u8 (p.toNat : Int) ∧ b1.toNat < 2 ^ n ∧ Hid (tmU n p a1 b1 = timesU a b) ∧ w = wr) (fun _ sb _ _ => (intOf sb).toNat)
  case atStart => exact ⟨8, 0, a, b, rfl, rfl, rfl, b_lt b, rfl, rfl⟩
  case round =>
    obtain ⟨n, p, a1, b1, rfl, rfl, rfl, hn, Ht, rfl⟩ := hrel
    have h1 := b_lt a1
    have h2 := b_lt b1
    by_cases hlt : b1.toNat = 0
    · obtain rfl : b1 = 0 := UInt8.toNat_inj.1 hlt
      have Hp := Lib.hid (show p = timesU a b by rw [← Ht.out, tmU_zero])
      rw [show (((0 : UInt8).toNat : Nat) : Int) = 0 from rfl]
      go_wp2_with fail
      rw [Hp.out]
      go_ret
      exact ⟨rfl, rfl⟩
    · have hb : ¬ (b1.toNat : Int) = 0 := by omega
      obtain ⟨m, rfl⟩ : ∃ m, n = m + 1 := ⟨n - 1, by
        rcases n with _ | n
        · simp at hn; omega
        · rfl⟩
      have Hs := Lib.hid (show tmU m (p ^^^ a1 * (b1 &&& 1)) (twU a1) (b1 >>> 1) = timesU a b by rw [← Ht.out, tmU])
      have E1 := Lib.hid (show bits .and .u8 (b1.toNat : Int) 1 = ((b1 &&& 1).toNat : Int) from b_and b1 1)
      have E4 := Lib.hid (show (b1.toNat : Int) / (2 : Int) = ((b1 >>> 1).toNat : Int) by
        have := b_shr b1 1 (by omega)
        rwa [show (2 : Int) ^ 1 = 2 from rfl] at this)
      have e5 : (b1 >>> 1).toNat = b1.toNat / 2 := by rw [UInt8.toNat_shiftRight]; exact Nat.shiftRight_eq_div_pow _ _
      go_wp2_with (go_at_call 57; refine (twice_any a1 _).mono ?_; rintro e w' ⟨rfl, rfl⟩)
      refine ⟨⟨m, p ^^^ a1 * (b1 &&& 1), twU a1, b1 >>> 1, rfl, by rw [E4.out], ?_, ?_, Hs, trivial⟩, ?_⟩
      · rw [E1.out, b_mul, b_xor]
      · rw [e5]
        rw [Nat.pow_succ] at hn
        omega
      · simp [intOf]; omega

theorem or_rot (x : UInt8) (k : Nat) (h1 : 1 ≤ k) (h2 : k ≤ 7) :
    bits .or .u8 ((x.toNat : Int) * 2 ^ k % 256) ((x.toNat : Int) / 2 ^ (8 - k)) = ((rotU x k).toNat : Int) := by
  rw [b_shl x k (by omega), b_shr x (8 - k) (by omega), b_orr]
  rfl

theorem rot8_any (x : UInt8) (d : Int) (w : World) (h : d = 1 ∨ d = 2 ∨ d = 3 ∨ d = 4) :
    Calls Try.prog 81 #[.int .u8 (x.toNat : Int), .int .i64 d] w fun e w' => e = .returned (.int .u8 ((rotU x d.toNat).toNat : Int)) ∧ w = w' := by
  have hx := b_lt x
  go_enter Try.func81, Try.ntmps81
  have a1 : bits .and .u64 1 7 = 1 := by decide
  have a2 : bits .and .u64 2 7 = 2 := by decide
  have a3 : bits .and .u64 3 7 = 3 := by decide
  have a4 : bits .and .u64 4 7 = 4 := by decide
  rcases h with rfl | rfl | rfl | rfl
  · go_wp2_with fail
    go_ret
    exact ⟨ret_u8 (or_rot x 1 (by omega) (by omega)), rfl⟩
  · go_wp2_with fail
    go_ret
    exact ⟨ret_u8 (or_rot x 2 (by omega) (by omega)), rfl⟩
  · go_wp2_with fail
    go_ret
    exact ⟨ret_u8 (or_rot x 3 (by omega) (by omega)), rfl⟩
  · go_wp2_with fail
    go_ret
    exact ⟨ret_u8 (or_rot x 4 (by omega) (by omega)), rfl⟩

theorem spread_any (x : UInt8) (w : World) :
    Calls Try.prog 73 #[.int .u8 (x.toNat : Int)] w fun e w' => e = .returned (.int .u8 ((spU x).toNat : Int)) ∧ w = w' := by
  have hx := b_lt x
  go_enter Try.func73, Try.ntmps73
  go_wp2_with fail
  go_loopw [3, 7] (fun o i wr => ∃ n : Nat, n ≤ 4 ∧ i = .int .i64 (n : Int) ∧ o = .int .u8 ((spTo x n).toNat : Int) ∧ w = wr) (fun _ i _ => (4 - intOf i).toNat)
  case atStart => exact ⟨0, by omega, rfl, by rw [spTo, ← b_xor]; rfl, rfl⟩
  case round =>
    obtain ⟨n, hn, rfl, rfl, rfl⟩ := hrel
    by_cases hlt : n < 4
    · have hs : spTo x (n + 1) = spTo x n ^^^ rotU x (n + 1) := rfl
      have Hs := Lib.hid hs
      clear hs
      generalize spTo x n = y at *
      have hy := b_lt y
      have e2 : ((n : Int) + 1).toNat = n + 1 := by omega
      go_wp2_with (go_at_call 81; refine (rot8_any x _ _ (by omega)).mono ?_; rintro e w' ⟨rfl, rfl⟩)
      refine ⟨⟨n + 1, by omega, by go_num, ?_, trivial⟩, by simp [intOf]; omega⟩
      rw [Hs.out, ← b_xor]
    · obtain rfl : n = 4 := by omega
      rw [show ((4 : Nat) : Int) = 4 from rfl]
      go_wp2_with fail
      go_ret
      exact ⟨rfl, rfl⟩

end Go.Proofs.Ytbkdlmneidboaaa
