import Derived.Test.YtbiijdboolpaeaaGreatDoorH07
import Derived.StillTailTactics
import Derived.Test.YtbiijdboolpaeaaGreatDoorH04
set_option linter.unusedVariables false
namespace Go.Proofs.YtbiijdboolpaeaaGreatDoor
open Go.RowKit
def boxN : List Nat := [
 99, 124, 119, 123, 242, 107, 111, 197, 48, 1, 103, 43, 254, 215, 171, 118, 202, 130, 201, 125, 250, 89, 71,
 240, 173, 212, 162, 175, 156, 164, 114, 192, 183, 253, 147, 38, 54, 63, 247, 204, 52, 165, 229, 241, 113,
 216, 49, 21, 4, 199, 35, 195, 24, 150, 5, 154, 7, 18, 128, 226, 235, 39, 178, 117, 9, 131, 44, 26, 27, 110,
 90, 160, 82, 59, 214, 179, 41, 227, 47, 132, 83, 209, 0, 237, 32, 252, 177, 91, 106, 203, 190, 57, 74, 76,
 88, 207, 208, 239, 170, 251, 67, 77, 51, 133, 69, 249, 2, 127, 80, 60, 159, 168, 81, 163, 64, 143, 146, 157,
 56, 245, 188, 182, 218, 33, 16, 255, 243, 210, 205, 12, 19, 236, 95, 151, 68, 23, 196, 167, 126, 61, 100,
 93, 25, 115, 96, 129, 79, 220, 34, 42, 144, 136, 70, 238, 184, 20, 222, 94, 11, 219, 224, 50, 58, 10, 73, 6,
 36, 92, 194, 211, 172, 98, 145, 149, 228, 121, 231, 200, 55, 109, 141, 213, 78, 169, 108, 86, 244, 234, 101,
 122, 174, 8, 186, 120, 37, 46, 28, 166, 180, 198, 232, 221, 116, 31, 75, 189, 139, 138, 112, 62, 181, 102,
 72, 3, 246, 14, 97, 53, 87, 185, 134, 193, 29, 158, 225, 248, 152, 17, 105, 217, 142, 148, 155, 30, 135,
 233, 206, 85, 40, 223, 140, 161, 137, 13, 191, 230, 66, 104, 65, 153, 45, 15, 176, 84, 187, 22]
set_option maxRecDepth 100000 in
theorem boxT_lit : boxT.map UInt8.toNat = boxN := by kernel_rfl
theorem boxU_nat (x : UInt8) : (boxU x).toNat = boxN.getD x.toNat 0 := by
 have h := boxU_at x
 rw [← boxT_lit, List.getD_eq_getElem?_getD, List.getElem?_map, h]
 rfl
def clTo (a b : Nat) : Nat → Nat
 | 0 => 0
 | j + 1 => clTo a b j ^^^ (a * 2 ^ j) * (b / 2 ^ j % 2)
def redTo (p : Nat) : Nat → Nat
 | 0 => p
 | n + 1 => redTo p n ^^^ (283 * 2 ^ (6 - n)) * (redTo p n / 2 ^ (14 - n) % 2)
def mulN (a b : Nat) : Nat := redTo (clTo a b 8) 7 % 256
theorem bit01 (n : Nat) : n % 2 = 0 ∨ n % 2 = 1 := by omega
theorem clTo_lt {a b : Nat} (ha : a < 256) : ∀ j, j ≤ 8 → clTo a b j < 32768
 | 0, _ => by simp [clTo]
 | j + 1, hj => by
  have ih := clTo_lt (b := b) ha j (by omega)
  rw [clTo]
  have h2 : a * 2 ^ j < 32768 := by
   have : 2 ^ j ≤ 2 ^ 7 := Nat.pow_le_pow_right (by omega) (by omega)
   have := Nat.mul_le_mul (show a ≤ 255 by omega) this
   omega
  have h3 : (a * 2 ^ j) * (b / 2 ^ j % 2) < 32768 := by
   rcases bit01 (b / 2 ^ j) with h | h <;> rw [h] <;> omega
  exact Nat.xor_lt_two_pow (n := 15) ih h3
theorem redTo_lt {p : Nat} (hp : p < 32768) : ∀ n, n ≤ 7 → redTo p n < 32768
 | 0, _ => hp
 | n + 1, hn => by
  have ih := redTo_lt hp n (by omega)
  rw [redTo]
  have h2 : 283 * 2 ^ (6 - n) < 32768 := by
   have : 2 ^ (6 - n) ≤ 2 ^ 6 := Nat.pow_le_pow_right (by omega) (by omega)
   omega
  have h3 : (283 * 2 ^ (6 - n)) * (redTo p n / 2 ^ (14 - n) % 2) < 32768 := by
   rcases bit01 (redTo p n / 2 ^ (14 - n)) with h | h <;> rw [h] <;> omega
  exact Nat.xor_lt_two_pow (n := 15) ih h3
theorem mulN_lt (a b : Nat) : mulN a b < 256 := Nat.mod_lt _ (by omega)
def powN (x : Nat) : Nat → Nat
 | 0 => 1
 | n + 1 => mulN (powN x n) x
theorem powN_lt (x : Nat) : ∀ n, powN x n < 256
 | 0 => by simp [powN]
 | n + 1 => mulN_lt _ _
def affBit (y i : Nat) : Nat := (99 / 2 ^ i ^^^ y / 2 ^ i ^^^ y / 2 ^ ((i + 4) % 8) ^^^ y / 2 ^ ((i + 5) % 8) ^^^ y / 2 ^ ((i + 6) % 8) ^^^ y / 2 ^ ((i + 7) % 8)) % 2
def affTo (y : Nat) : Nat → Nat
 | 0 => 0
 | i + 1 => affTo y i + affBit y i * 2 ^ i
def boxR (x : Nat) : Nat := affTo (powN x 254) 8
set_option maxRecDepth 100000 in
theorem boxR_lit : (List.range 256).map boxR = boxN := by kernel_rfl
theorem boxR_box (x : UInt8) : boxR x.toNat = (boxU x).toNat := by
 rw [boxU_nat, ← boxR_lit, List.getD_eq_getElem?_getD, List.getElem?_map, List.getElem?_range (b_lt x)]
 rfl
theorem mul2_lit : ∀ n, n < 256 → mulN 2 n = (twU (UInt8.ofNat n)).toNat ∧ mulN n 2 = (twU (UInt8.ofNat n)).toNat ∧ mulN 3 n = (twU (UInt8.ofNat n) ^^^ UInt8.ofNat n).toNat := by decide +kernel
theorem mul_left2 (x : UInt8) : mulN 2 x.toNat = (twU x).toNat := by
 have := (mul2_lit x.toNat (b_lt x)).1
 rwa [UInt8.ofNat_toNat] at this
theorem mul_right2 (x : UInt8) : mulN x.toNat 2 = (twU x).toNat := by
 have := (mul2_lit x.toNat (b_lt x)).2.1
 rwa [UInt8.ofNat_toNat] at this
theorem mul_left3 (x : UInt8) : mulN 3 x.toNat = (twU x ^^^ x).toNat := by
 have := (mul2_lit x.toNat (b_lt x)).2.2
 rwa [UInt8.ofNat_toNat] at this
theorem i64_xor_nat (a b : Nat) (ha : a < 32768) (hb : b < 32768) : bits .xor .i64 (a : Int) (b : Int) = ((a ^^^ b : Nat) : Int) := by
 have hx : a ^^^ b < 2 ^ 15 := Nat.xor_lt_two_pow (n := 15) (by omega) (by omega)
 have e : ∀ n : Nat, n < 32768 → (BitVec.ofInt 64 (n : Int)).toNat = n := fun n hn => by
  rw [BitVec.toNat_ofInt]
  omega
 show IntKind.i64.wrap ((BitVec.ofInt 64 (a : Int) ^^^ BitVec.ofInt 64 (b : Int)).toNat : Int) = _
 rw [BitVec.toNat_xor, e a ha, e b hb]
 exact IntWalk.i64_in _ (by omega)
theorem shl_int (a j : Nat) (h : a * 2 ^ j < 32768) : wrap64 ((a : Int) * 2 ^ j) = ((a * 2 ^ j : Nat) : Int) := by
 rw [Int.natCast_mul, Int.natCast_pow]
 refine IntWalk.wrap64_in _ ?_
 have : ((a : Int) * 2 ^ j) = ((a * 2 ^ j : Nat) : Int) := by rw [Int.natCast_mul, Int.natCast_pow]; rfl
 rw [this]
 omega
theorem sh_lt {a j : Nat} (ha : a < 256) (hj : j < 8) : a * 2 ^ j < 32768 := by
 have : 2 ^ j ≤ 2 ^ 7 := Nat.pow_le_pow_right (by omega) (by omega)
 have := Nat.mul_le_mul (show a ≤ 255 by omega) this
 omega
theorem bit_int (b j : Nat) : (((b : Int) / 2 ^ j).tmod 2 == 1) = decide (b / 2 ^ j % 2 = 1) := by
 have e : ((b : Int) / 2 ^ j) = ((b / 2 ^ j : Nat) : Int) := by rw [Int.natCast_ediv, Int.natCast_pow]; rfl
 generalize b / 2 ^ j = n at *
 rw [e, Int.tmod_eq_emod_of_nonneg (by omega)]
 rcases bit01 n with h | h
 ·
  rw [show (n : Int) % 2 = 0 by omega, h]; rfl
 ·
  rw [show (n : Int) % 2 = 1 by omega, h]; rfl
set_option maxHeartbeats 2000000 in
theorem Mul_any (a b : Nat) (w : World) (ha : a < 256) (hb : b < 256) :
  Calls Tryz.prog 137 #[.int .u8 (a : Int), .int .u8 (b : Int)] w fun e w' => e = .returned (.int .u8 ((mulN a b : Nat) : Int)) ∧ w = w' := by
 have Hm := Lib.hid (show mulN a b = redTo (clTo a b 8) 7 % 256 from rfl)
 have Hcl := Lib.hid (fun j hj => clTo_lt (b := b) ha j hj)
 go_enter Tryz.func137, Tryz.ntmps137
 go_wp2_with fail
 go_loopw [5, 8] (fun p i wr => ∃ j : Nat, j ≤ 8 ∧ i = .int .i64 (j : Int) ∧ p = .int .i64 ((clTo a b j : Nat) : Int) ∧ w = wr) (fun _ i _ => (8 - intOf i).toNat)
 case atStart => exact ⟨0, by omega, rfl, rfl, rfl⟩
 case round =>
  obtain ⟨j, hj, rfl, rfl, rfl⟩ := hrel
  by_cases hlt : j < 8
  ·
   have hc := Hcl.out j hj
   have Hst := Lib.hid (show clTo a b (j + 1) = clTo a b j ^^^ (a * 2 ^ j) * (b / 2 ^ j % 2) from rfl)
   generalize clTo a b j = c at *
   have hb2 := bit_int b j
   by_cases hbit : b / 2 ^ j % 2 = 1
   ·
    rw [decide_eq_true hbit] at hb2
    go_wp2_with fail
    refine ⟨⟨j + 1, by omega, by go_num, ?_, trivial⟩, by simp [intOf]; omega⟩
    rw [Hst.out, hbit, Nat.mul_one, shl_int _ _ (sh_lt ha hlt), i64_xor_nat _ _ hc (sh_lt ha hlt)]
   ·
    rw [decide_eq_false hbit] at hb2
    go_wp2_with fail
    refine ⟨⟨j + 1, by omega, by go_num, ?_, trivial⟩, by simp [intOf]; omega⟩
    rw [Hst.out, show b / 2 ^ j % 2 = 0 by omega, Nat.mul_zero, Nat.xor_zero]
  ·
   obtain rfl : j = 8 := by omega
   rw [show ((8 : Nat) : Int) = 8 from rfl]
   have Hr := Lib.hid (fun n hn => redTo_lt (Hcl.out 8 (by omega)) n hn)
   generalize clTo a b 8 = c at *
   go_wp2_with fail
   go_loopw [5, 7] (fun p i wr => ∃ n : Nat, n ≤ 7 ∧ i = .int .i64 (14 - (n : Int)) ∧ p = .int .i64 ((redTo c n : Nat) : Int) ∧ w = wr) (fun _ i _ => (intOf i - 7).toNat)
   case atStart => exact ⟨0, by omega, rfl, rfl, rfl⟩
   case round =>
    obtain ⟨n, hn, rfl, rfl, rfl⟩ := hrel
    by_cases hlt : n < 7
    ·
     have hc := Hr.out n hn
     have Hst := Lib.hid (show redTo c (n + 1) = redTo c n ^^^ (283 * 2 ^ (6 - n)) * (redTo c n / 2 ^ (14 - n) % 2) from rfl)
     generalize redTo c n = q at *
     have hb2 := bit_int q (14 - n)
     have j1 : (8 : Int) ≤ 14 - (n : Int) := by omega
     have j2 : 0 ≤ 14 - (n : Int) := by omega
     have j3 : (14 - (n : Int)).toNat = 14 - n := by omega
     have j4 : 0 ≤ 14 - (n : Int) - 8 := by omega
     have j5 : (14 - (n : Int) - 8).toNat = 6 - n := by omega
     by_cases hbit : q / 2 ^ (14 - n) % 2 = 1
     ·
      rw [decide_eq_true hbit] at hb2
      go_wp2_with fail
      have hp : 283 * 2 ^ (6 - n) < 32768 := by
       have : 2 ^ (6 - n) ≤ 2 ^ 6 := Nat.pow_le_pow_right (by omega) (by omega)
       omega
      refine ⟨⟨n + 1, by omega, by go_num, ?_, trivial⟩, by simp [intOf]; omega⟩
      have e := shl_int 283 (6 - n) hp
      rw [Hst.out, hbit, Nat.mul_one, ← i64_xor_nat _ _ hc hp, ← e]
      rfl
     ·
      rw [decide_eq_false hbit] at hb2
      go_wp2_with fail
      refine ⟨⟨n + 1, by omega, by go_num, ?_, trivial⟩, by simp [intOf]; omega⟩
      rw [Hst.out, show q / 2 ^ (14 - n) % 2 = 0 by omega, Nat.mul_zero, Nat.xor_zero]
    ·
     obtain rfl : n = 7 := by omega
     rw [show (14 - ((7 : Nat) : Int)) = 7 from rfl]
     generalize redTo c 7 = q at *
     go_wp2_with fail
     go_ret
     exact ⟨by rw [Hm.out]; rfl, rfl⟩
set_option maxRecDepth 100000 in
theorem inverse_any (x : Nat) (w : World) (hx : x < 256) :
  Calls Tryz.prog 147 #[.int .u8 (x : Int)] w fun e w' => e = .returned (.int .u8 ((powN x 254 : Nat) : Int)) ∧ w = w' := by
 go_enter Tryz.func147, Tryz.ntmps147
 go_wp2_with fail
 go_loopw [3, 4] (fun y i wr => ∃ n : Nat, n ≤ 254 ∧ i = .int .i64 (n : Int) ∧ y = .int .u8 ((powN x n : Nat) : Int) ∧ w = wr) (fun _ i _ => (254 - intOf i).toNat)
 case atStart => exact ⟨0, by omega, rfl, rfl, rfl⟩
 case round =>
  obtain ⟨n, hn, rfl, rfl, rfl⟩ := hrel
  by_cases hlt : n < 254
  ·
   have hp := powN_lt x n
   have Hst := Lib.hid (show powN x (n + 1) = mulN (powN x n) x from rfl)
   generalize powN x n = q at *
   go_wp2_with (go_at_call 137; refine (Mul_any q x _ hp hx).mono ?_; rintro e w' ⟨rfl, rfl⟩)
   exact ⟨⟨n + 1, by omega, by go_num, by rw [Hst.out], trivial⟩, by simp [intOf]; omega⟩
  ·
   obtain rfl : n = 254 := by omega
   rw [show ((254 : Nat) : Int) = 254 from rfl]
   generalize hq : powN x 254 = q at *
   go_wp2_with fail
   go_ret
   exact ⟨by rw [hq]; rfl, rfl⟩
theorem div_int (y j : Nat) : ((y : Int) / 2 ^ j) = ((y / 2 ^ j : Nat) : Int) := by rw [Int.natCast_ediv, Int.natCast_pow]; rfl
theorem div_lt (y j : Nat) (hy : y < 256) : y / 2 ^ j < 256 := Nat.lt_of_le_of_lt (Nat.div_le_self _ _) hy
theorem x8 {a b : Nat} (ha : a < 256) (hb : b < 256) : a ^^^ b < 256 := Nat.xor_lt_two_pow (n := 8) ha hb
theorem aff_int (y a b c d e f : Nat) (hy : y < 256) :
  bits .xor .u8 (bits .xor .u8 (bits .xor .u8 (bits .xor .u8 (bits .xor .u8 ((99 : Int) / 2 ^ a) ((y : Int) / 2 ^ b)) ((y : Int) / 2 ^ c)) ((y : Int) / 2 ^ d)) ((y : Int) / 2 ^ e)) ((y : Int) / 2 ^ f) =
   ((99 / 2 ^ a ^^^ y / 2 ^ b ^^^ y / 2 ^ c ^^^ y / 2 ^ d ^^^ y / 2 ^ e ^^^ y / 2 ^ f : Nat) : Int) := by
 have h9 : ((99 : Int) / 2 ^ a) = ((99 / 2 ^ a : Nat) : Int) := div_int 99 a
 have q0 := div_lt 99 a (by omega)
 rw [h9, div_int, div_int, div_int, div_int, div_int, u8_xor_nat _ _ q0 (div_lt y b hy), u8_xor_nat _ _ (x8 q0 (div_lt y b hy)) (div_lt y c hy), u8_xor_nat _ _ (x8 (x8 q0 (div_lt y b hy)) (div_lt y c hy)) (div_lt y d hy),
  u8_xor_nat _ _ (x8 (x8 (x8 q0 (div_lt y b hy)) (div_lt y c hy)) (div_lt y d hy)) (div_lt y e hy), u8_xor_nat _ _ (x8 (x8 (x8 (x8 q0 (div_lt y b hy)) (div_lt y c hy)) (div_lt y d hy)) (div_lt y e hy)) (div_lt y f hy)]
theorem affBit_01 (y i : Nat) : affBit y i = 0 ∨ affBit y i = 1 := bit01 _
theorem affTo_lt (y : Nat) : ∀ i, affTo y i < 2 ^ i
 | 0 => by simp [affTo]
 | i + 1 => by
  have := affTo_lt y i
  rw [affTo, Nat.pow_succ]
  rcases affBit_01 y i with h | h <;> rw [h] <;> omega
theorem aff_step {o y j : Nat} (ho : o < 2 ^ j) (hj : j < 8) :
  ((o : Int) + ((99 / 2 ^ j ^^^ y / 2 ^ j ^^^ y / 2 ^ ((j + 4) % 8) ^^^ y / 2 ^ ((j + 5) % 8) ^^^ y / 2 ^ ((j + 6) % 8) ^^^ y / 2 ^ ((j + 7) % 8) : Nat) : Int).tmod 2 * 2 ^ j % 256) % 256 = ((o + affBit y j * 2 ^ j : Nat) : Int) := by
 have e : affBit y j = (99 / 2 ^ j ^^^ y / 2 ^ j ^^^ y / 2 ^ ((j + 4) % 8) ^^^ y / 2 ^ ((j + 5) % 8) ^^^ y / 2 ^ ((j + 6) % 8) ^^^ y / 2 ^ ((j + 7) % 8)) % 2 := rfl
 rw [e]
 generalize (99 / 2 ^ j ^^^ y / 2 ^ j ^^^ y / 2 ^ ((j + 4) % 8) ^^^ y / 2 ^ ((j + 5) % 8) ^^^ y / 2 ^ ((j + 6) % 8) ^^^ y / 2 ^ ((j + 7) % 8)) = n
 have hp : 2 ^ j ≤ 2 ^ 7 := Nat.pow_le_pow_right (by omega) (by omega)
 have hi : ((2 : Int) ^ j) = ((2 ^ j : Nat) : Int) := by rw [Int.natCast_pow]; rfl
 rw [hi, Int.tmod_eq_emod_of_nonneg (by omega)]
 generalize 2 ^ j = m at *
 rcases bit01 n with h | h
 ·
  rw [show (n : Int) % 2 = 0 by omega, h]; omega
 ·
  rw [show (n : Int) % 2 = 1 by omega, h]; omega
set_option maxRecDepth 100000 in
set_option maxHeartbeats 1000000 in
theorem RBox_nat (x : Nat) (w : World) (hx : x < 256) :
  Calls Tryz.prog 136 #[.int .u8 (x : Int)] w fun e w' => e = .returned (.int .u8 ((boxR x : Nat) : Int)) ∧ ∃ q, w' = w.drewN q := by
 have Hb := Lib.hid (show boxR x = affTo (powN x 254) 8 from rfl)
 have hy := powN_lt x 254
 go_enter Tryz.func136, Tryz.ntmps136
 go_wp2_with fail
 refine (inverse_any x _ hx).mono ?_
 rintro e w2 ⟨rfl, rfl⟩
 generalize powN x 254 = y at *
 go_wp2_with fail
 go_loopw [4, 9] (fun o i wr => ∃ j q : Nat, j ≤ 8 ∧ i = .int .i64 (j : Int) ∧ o = .int .u8 ((affTo y j : Nat) : Int) ∧ wr = w.drewN q) (fun _ i _ => (8 - intOf i).toNat)
 case atStart => exact ⟨0, 0, by omega, rfl, rfl, rfl⟩
 case round =>
  obtain ⟨j, q, hj, rfl, rfl, rfl⟩ := hrel
  by_cases hlt : j < 8
  ·
   have j0 : 0 ≤ (j : Int) := by omega
   have j1 : (j : Int) < 8 := by omega
   have Hst := Lib.hid (show affTo y (j + 1) = affTo y j + affBit y j * 2 ^ j from rfl)
   have ho := Lib.hid (affTo_lt y j)
   generalize affTo y j = o at *
   go_wp2_with fail
   go_quiet (fail)
   go_wp2_with fail
   refine ⟨⟨j + 1, q + nq, by omega, by go_num, ?_, rfl⟩, by simp [intOf]; omega⟩
   rw [aff_int _ _ _ _ _ _ _ hy, Hst.out, ← aff_step ho.out hlt]
  ·
   obtain rfl : j = 8 := by omega
   rw [show ((8 : Nat) : Int) = 8 from rfl]
   go_wp2_with fail
   rw [← Hb.out]
   go_ret
   exact ⟨rfl, _, rfl⟩
theorem RBox_any (x : UInt8) (w : World) :
  Calls Tryz.prog 136 #[.int .u8 (x.toNat : Int)] w fun e w' => e = .returned (.int .u8 ((boxU x).toNat : Int)) ∧ ∃ q, w' = w.drewN q := by
 have h := RBox_nat x.toNat w (b_lt x)
 rwa [boxR_box] at h
theorem RMul_2l (x : UInt8) (w : World) :
  Calls Tryz.prog 137 #[.int .u8 2, .int .u8 (x.toNat : Int)] w fun e w' => e = .returned (.int .u8 ((twU x).toNat : Int)) ∧ w = w' := by
 have h := Mul_any 2 x.toNat w (by omega) (b_lt x)
 rwa [mul_left2] at h
theorem RMul_3l (x : UInt8) (w : World) :
  Calls Tryz.prog 137 #[.int .u8 3, .int .u8 (x.toNat : Int)] w fun e w' => e = .returned (.int .u8 ((twU x ^^^ x).toNat : Int)) ∧ w = w' := by
 have h := Mul_any 3 x.toNat w (by omega) (b_lt x)
 rwa [mul_left3] at h
theorem RMul_2r (x : UInt8) (w : World) :
  Calls Tryz.prog 137 #[.int .u8 (x.toNat : Int), .int .u8 2] w fun e w' => e = .returned (.int .u8 ((twU x).toNat : Int)) ∧ w = w' := by
 have h := Mul_any x.toNat 2 w (b_lt x) (by omega)
 rwa [mul_right2] at h
set_option maxRecDepth 100000 in
set_option maxHeartbeats 800000 in
theorem Rxor_any (b k : List UInt8) (w : World) (hb : b.length = 16) (hk : k.length = 16) :
  Calls Tryz.prog 121 #[.agg (b.map bv).toArray, .agg (k.map bv).toArray] w fun e w' => e = .returned (.agg ((addU b k).map bv).toArray) ∧ Below w.heap.size w w' := by
 have Hiz := Lib.hid (size16 (addU_len b k))
 have Hsz := Lib.hid (same16 (addU_len b k) zero16_len)
 have Hb := Lib.hid hb
 have Hk := Lib.hid hk
 clear hb hk
 go_enter Tryz.func121, Tryz.ntmps121
 go_wp2_with fail
 go_loopw [6] (fun i wr => ∃ j : Nat, j ≤ 16 ∧ i = .int .i64 (j : Int) ∧ ArrB wr w.heap.size 83 (upto (addF b k) (at0 b) 16 j) ∧ ArrB wr (w.heap.size + 1) 83 k ∧ ArrB wr (w.heap.size + 1 + 1) 83 zero16 ∧ Below w.heap.size w wr) (fun i _ => (16 - intOf i).toNat)
 case atStart =>
  refine ⟨0, by omega, rfl, ?_, (ArrB.mk_ _ _ _ k (by simp) rfl).alloc _, ArrB.mk_ _ _ _ _ (by simp) rfl, (((Below.refl _ _).alloc (Nat.le_refl _) _).alloc (al0 _ _) _).alloc (by simp; omega) _⟩
  rw [upto_zero, map_at0 Hb.out]
  exact ((ArrB.mk_ w _ _ b rfl rfl).alloc _).alloc _
 case round =>
  obtain ⟨j, hj, rfl, g0, g1, g2, hbel⟩ := hrel
  by_cases hlt : j < 16
  ·
   have c0 := g0.cell (upto_old _ _ hlt (Nat.le_refl j))
   have f0 := g0.frozen j
   have hs := g0.set_ j (addF b k j)
   rw [← upto_succ, addF] at hs
   have c1 := g1.cell (at0_of (show j < k.length by rw [Hk.out]; exact hlt))
   have j0 : 0 ≤ (j : Int) := by omega
   have j1 : (j : Int) < 16 := by omega
   go_wp2_with fail
   go_still_tail 8, (by kernel_rfl)
   change wpList _ _ _ _ _ wr.drew
   rw [b_xor]
   clear c1
   go_wp2_with fail
   exact ⟨⟨j + 1, by omega, by go_num, hs.drew, (g1.far (by simp; try omega) _).drew, (g2.far (by simp; try omega) _).drew, (hbel.setCell (by simp) _).drew⟩, by simp [intOf]; omega⟩
  ·
   obtain rfl : j = 16 := by omega
   rw [show ((16 : Nat) : Int) = 16 from rfl]
   rw [upto_all] at g0
   rw [show (List.range 16).map (addF b k) = addU b k from rfl] at g0
   generalize hq : addU b k = q at *
   have Hq := Lib.hid hq
   clear hq
   go_wp2_with (first
    | ((with_reducible refine tdQ 18 ?_); refine wpList_load_row rfl 83 (.tmp 2) rfl w.heap.size rfl 83 (q.map bv).toArray (0, 0) _ g0 Tryz.underlying83 rfl Hiz.out ?_)
    | ((with_reducible refine tsQ 83 ?_); refine wpList_store_row rfl 83 (.tmp 4) (.tmp 18) rfl (w.heap.size + 1 + 1) (q.map bv).toArray rfl rfl 83 _ g2 Hiz.out Hsz.out (one_bvA q) ?_))
   exact bodyPost_ret (results_cell_row rfl _ _ (w.heap.size + 1 + 1) 83 _ (0, 0) _ rfl (g2.row q) Tryz.underlying83 rfl Hiz.out) rfl ⟨by rw [Hq.out], below_setRow hbel (by omega) _⟩
def btF (b : List UInt8) (i : Nat) : UInt8 := boxU (at0 b (i % 4 + 4 * ((i / 4 + i % 4) % 4)))
theorem bt_eq (b : List UInt8) : (List.range 16).map (btF b) = turnU (boxL b) := by
 apply List.map_congr_left
 intro i hi
 rw [List.mem_range] at hi
 unfold btF turnF boxL
 rw [at0_map (boxF b) (by omega)]
 rfl
set_option maxRecDepth 100000 in
set_option maxHeartbeats 1600000 in
theorem Rturned_any (b : List UInt8) (w : World) (hb : b.length = 16) :
  Calls Tryz.prog 122 #[.agg (b.map bv).toArray] w fun e w' => e = .returned (.agg ((turnU (boxL b)).map bv).toArray) ∧ Below w.heap.size w w' := by
 have Hiz := Lib.hid (size16 (turnU_len (boxL b)))
 have Hsz := Lib.hid (same16 (turnU_len (boxL b)) zero16_len)
 have Hb := Lib.hid hb
 clear hb
 go_enter Tryz.func122, Tryz.ntmps122
 go_wp2_with fail
 go_loopw [6] (fun i wr => ∃ c : Nat, c ≤ 4 ∧ i = .int .i64 (c : Int) ∧ ArrB wr w.heap.size 83 b ∧ ArrB wr (w.heap.size + 1) 83 zero16 ∧ ArrB wr (w.heap.size + 1 + 1) 83 (upto (btF b) (fun _ => 0) 16 (4 * c)) ∧ Below w.heap.size w wr) (fun i _ => (4 - intOf i).toNat)
 case atStart =>
  refine ⟨0, by omega, rfl, ((ArrB.mk_ w _ _ b rfl rfl).alloc _).alloc _, (ArrB.mk_ _ _ _ zero16 (by simp) rfl).alloc _, ArrB.mk_ _ _ _ _ (by simp) (by rw [Nat.mul_zero, upto_zero]; rfl), (((Below.refl _ _).alloc (Nat.le_refl _) _).alloc (al0 _ _) _).alloc (by simp; omega) _⟩
 case round =>
  obtain ⟨c, hc, rfl, g0, g1, g2, hbel⟩ := hrel
  by_cases hlt : c < 4
  ·
   have j0 : 0 ≤ (c : Int) := by omega
   have j1 : (c : Int) < 4 := by omega
   go_wp2_with fail
   go_loopw [9] (fun i wr => ∃ r : Nat, r ≤ 4 ∧ i = .int .i64 (r : Int) ∧ ArrB wr w.heap.size 83 b ∧ ArrB wr (w.heap.size + 1) 83 zero16 ∧ ArrB wr (w.heap.size + 1 + 1) 83 (upto (btF b) (fun _ => 0) 16 (4 * c + r)) ∧ Below w.heap.size w wr) (fun i _ => (4 - intOf i).toNat)
   case atStart => exact ⟨0, by omega, rfl, g0, g1, g2, hbel⟩
   case round =>
    obtain ⟨r, hr, rfl, g0, g1, g2, hbel⟩ := hrel
    by_cases hlr : r < 4
    ·
     have hq : 4 * ((c + r) % 4) + r < 16 := by omega
     have cs := g0.cell (at0_of (show 4 * ((c + r) % 4) + r < b.length by rw [Hb.out]; exact hq))
     have c2 := g2.cell (upto_old (btF b) (fun _ => 0) (show 4 * c + r < 16 by omega) (Nat.le_refl _))
     have f2 := g2.frozen (4 * c + r)
     have hs := g2.set_ (4 * c + r) (btF b (4 * c + r))
     rw [← upto_succ, btF, show (4 * c + r) % 4 = r by omega, show (4 * c + r) / 4 = c by omega, show r + 4 * ((c + r) % 4) = 4 * ((c + r) % 4) + r by omega] at hs
     generalize at0 b (4 * ((c + r) % 4) + r) = x at *
     have j2 : 0 ≤ (r : Int) := by omega
     have j3 : (r : Int) < 4 := by omega
     go_wp2_with fail
     refine (RBox_any x _).mono ?_
     rintro e w4 ⟨rfl, q, rfl⟩
     generalize boxU x = y at *
     go_wp2_with fail
     exact ⟨⟨r + 1, by omega, by go_num, (g0.drewN _).far (by simp; try omega) _, (g1.drewN _).far (by simp; try omega) _, hs.of rfl, (hbel.trans ⟨rfl, rfl, rfl, Nat.le_refl _, fun _ _ => rfl⟩ : Below w.heap.size w (wr.drewN q)).setCell (by simp; try omega) _⟩, by simp [intOf]; omega⟩
    ·
     obtain rfl : r = 4 := by omega
     rw [show ((4 : Nat) : Int) = 4 from rfl]
     go_wp2_with fail
     exact ⟨⟨c + 1, by omega, by go_num, g0, g1, g2, hbel⟩, by simp [intOf]; omega⟩
  ·
   obtain rfl : c = 4 := by omega
   rw [show ((4 : Nat) : Int) = 4 from rfl]
   rw [show 4 * 4 = 16 from rfl, upto_all, bt_eq] at g2
   generalize hq : turnU (boxL b) = q at *
   have Hq := Lib.hid hq
   clear hq
   go_wp2_with (first
    | ((with_reducible refine tdQ 29 ?_); refine wpList_load_row rfl 83 (.tmp 3) rfl (w.heap.size + 1 + 1) rfl 83 (q.map bv).toArray (0, 0) _ g2 Tryz.underlying83 rfl Hiz.out ?_)
    | ((with_reducible refine tsQ 83 ?_); refine wpList_store_row rfl 83 (.tmp 2) (.tmp 29) rfl (w.heap.size + 1) (q.map bv).toArray rfl rfl 83 _ g1 Hiz.out Hsz.out (one_bvA q) ?_))
   exact bodyPost_ret (results_cell_row rfl _ _ (w.heap.size + 1) 83 _ (0, 0) _ rfl (g1.row q) Tryz.underlying83 rfl Hiz.out) rfl ⟨by rw [Hq.out], below_setRow hbel (by omega) _⟩
set_option maxRecDepth 100000 in
theorem Rat_any (b : List UInt8) (c r : Nat) (d : Int) (w : World) (hb : b.length = 16) (hc : c < 4) (hr : r < 8) (hd : d = (r : Int)) :
  Calls Tryz.prog 138 #[.agg (b.map bv).toArray, .int .i64 (c : Int), .int .i64 d] w fun e w' => e = .returned (.int .u8 ((at0 b (4 * c + r % 4)).toNat : Int)) ∧ Below w.heap.size w w' := by
 subst hd
 have cs := (ArrB.mk_ w 83 _ b rfl rfl).cell (at0_of (show 4 * c + r % 4 < b.length by rw [hb]; omega))
 have j0 : 0 ≤ (c : Int) := by omega
 have j1 : (c : Int) < 4 := by omega
 have j2 : 0 ≤ (r : Int) := by omega
 have j3 : (r : Int) < 8 := by omega
 generalize hx : at0 b (4 * c + r % 4) = x at *
 go_enter Tryz.func138, Tryz.ntmps138
 go_wp2_with fail
 go_ret
 exact ⟨rfl, (Below.refl _ _).alloc (Nat.le_refl _) _⟩
theorem mixF_ref (b : List UInt8) {c r : Nat} (hc : c < 4) (hr : r < 4) :
  mixF b (4 * c + r) = twU (at0 b (4 * c + r % 4)) ^^^ (twU (at0 b (4 * c + (r + 1) % 4)) ^^^ at0 b (4 * c + (r + 1) % 4)) ^^^ at0 b (4 * c + (r + 2) % 4) ^^^ at0 b (4 * c + (r + 3) % 4) := by
 rw [mixF_at b hc hr, ← UInt8.xor_assoc (twU (at0 b (4 * c + r % 4))), Nat.mod_eq_of_lt hr]
theorem Rat_c (b : List UInt8) (c r : Nat) (d : Int) (x : UInt8) (w : World) (hb : b.length = 16) (hc : c < 4) (hr : r < 8) (hd : d = (r : Int)) (hx : at0 b (4 * c + r % 4) = x) :
  Calls Tryz.prog 138 #[.agg (b.map bv).toArray, .int .i64 (c : Int), .int .i64 d] w fun e w' => e = .returned (.int .u8 (x.toNat : Int)) ∧ Below w.heap.size w w' := by
 subst hx
 exact Rat_any b c r d w hb hc hr hd
set_option maxRecDepth 100000 in
set_option maxHeartbeats 3000000 in
theorem Rmixed_any (b : List UInt8) (w : World) (hb : b.length = 16) :
  Calls Tryz.prog 123 #[.agg (b.map bv).toArray] w fun e w' => e = .returned (.agg ((mixU b).map bv).toArray) ∧ Below w.heap.size w w' := by
 have Hiz := Lib.hid (size16 (mixU_len b))
 have Hsz := Lib.hid (same16 (mixU_len b) zero16_len)
 have Hb := Lib.hid hb
 clear hb
 go_enter Tryz.func123, Tryz.ntmps123
 go_wp2_with fail
 go_loopw [6] (fun i wr => ∃ c : Nat, c ≤ 4 ∧ i = .int .i64 (c : Int) ∧ ArrB wr w.heap.size 83 b ∧ ArrB wr (w.heap.size + 1) 83 zero16 ∧ ArrB wr (w.heap.size + 1 + 1) 83 (upto (mixF b) (fun _ => 0) 16 (4 * c)) ∧ Below w.heap.size w wr) (fun i _ => (4 - intOf i).toNat)
 case atStart =>
  refine ⟨0, by omega, rfl, ((ArrB.mk_ w _ _ b rfl rfl).alloc _).alloc _, (ArrB.mk_ _ _ _ zero16 (by simp) rfl).alloc _, ArrB.mk_ _ _ _ _ (by simp) (by rw [Nat.mul_zero, upto_zero]; rfl), (((Below.refl _ _).alloc (Nat.le_refl _) _).alloc (al0 _ _) _).alloc (by simp; omega) _⟩
 case round =>
  obtain ⟨c, hc, rfl, g0, g1, g2, hbel⟩ := hrel
  by_cases hlt : c < 4
  ·
   have j0 : 0 ≤ (c : Int) := by omega
   have j1 : (c : Int) < 4 := by omega
   go_wp2_with fail
   go_loopw [9] (fun i wr => ∃ r : Nat, r ≤ 4 ∧ i = .int .i64 (r : Int) ∧ ArrB wr w.heap.size 83 b ∧ ArrB wr (w.heap.size + 1) 83 zero16 ∧ ArrB wr (w.heap.size + 1 + 1) 83 (upto (mixF b) (fun _ => 0) 16 (4 * c + r)) ∧ Below w.heap.size w wr) (fun i _ => (4 - intOf i).toNat)
   case atStart => exact ⟨0, by omega, rfl, g0, g1, g2, hbel⟩
   case round =>
    obtain ⟨r, hr, rfl, g0, g1, g2, hbel⟩ := hrel
    by_cases hlr : r < 4
    ·
     have Hm := Lib.hid (mixF_ref b hlt hlr)
     have ha0 : ∀ wx, _ := fun wx => Rat_c b c r (r : Int) _ wx Hb.out hlt (by omega) rfl rfl
     have ha1 : ∀ wx, _ := fun wx => Rat_c b c (r + 1) ((r : Int) + 1) _ wx Hb.out hlt (by omega) (by omega) rfl
     have ha2 : ∀ wx, _ := fun wx => Rat_c b c (r + 2) ((r : Int) + 2) _ wx Hb.out hlt (by omega) (by omega) rfl
     have ha3 : ∀ wx, _ := fun wx => Rat_c b c (r + 3) ((r : Int) + 3) _ wx Hb.out hlt (by omega) (by omega) rfl
     generalize at0 b (4 * c + r % 4) = x0 at *
     generalize at0 b (4 * c + (r + 1) % 4) = x1 at *
     generalize at0 b (4 * c + (r + 2) % 4) = x2 at *
     generalize at0 b (4 * c + (r + 3) % 4) = x3 at *
     have Hc0 := Lib.hid ha0
     have Hc1 := Lib.hid ha1
     have Hc2 := Lib.hid ha2
     have Hc3 := Lib.hid ha3
     clear ha0 ha1 ha2 ha3
     have j2 : 0 ≤ (r : Int) := by omega
     have j3 : (r : Int) < 4 := by omega
     have hu := Tryz.underlying83
     have hi0 := size16L Hb.out
     have v0 : IntKind.i64.wrap (4 * (c : Int) + (r : Int)) = 4 * (c : Int) + (r : Int) := IntWalk.i64_in _ (by omega)
     have v1 : IntKind.i64.wrap ((r : Int) + 1) = (r : Int) + 1 := IntWalk.i64_in _ (by omega)
     have v2 : IntKind.i64.wrap ((r : Int) + 2) = (r : Int) + 2 := IntWalk.i64_in _ (by omega)
     have v3 : IntKind.i64.wrap ((r : Int) + 3) = (r : Int) + 3 := IntWalk.i64_in _ (by omega)
     have v4 : 0 ≤ 4 * (c : Int) + (r : Int) := by omega
     have v5 : 4 * (c : Int) + (r : Int) < 16 := by omega
     have v6 : (4 * (c : Int) + (r : Int)).toNat = 4 * c + r := by omega
     have v7 : IntKind.i64.wrap (4 * (c : Int)) = 4 * (c : Int) := IntWalk.i64_in _ (by omega)
     go_wp2_with fail
     have hkeep : ∀ wx : World, Below wr.heap.size wr wx → wx.rangeAt w.heap.size 0 (b.map bv) := fun wx hw => (g0.below hw g0.lt).range
     refine beginT (fun wx => wx.rangeAt w.heap.size 0 (b.map bv)) 29 (by kernel_rfl) ?_
     have hS := hkeep _ (c_drew (c_refl _))
     refine tk 0 (some 12) (.int .i64 (c : Int)) (fun _ _ _ h => h) hS ?_
     simp only [Act.put, sA, sZ, sS]
     refine tk 1 (some 13) (.int .i64 (4 * (c : Int))) (fun _ _ _ h => h) hS ?_
     simp only [Act.put, sA, sZ, sS]
     refine tk 2 (some 14) (.int .i64 (r : Int)) (fun _ _ _ h => h) hS ?_
     simp only [Act.put, sA, sZ, sS]
     refine tk 3 (some 15) (.int .i64 (4 * (c : Int) + (r : Int))) (fun _ _ _ h => h) hS ?_
     simp only [Act.put, sA, sZ, sS]
     refine ldQ 4 (some 16) 83 (.tmp 1) w.heap.size 0 (b.map bv) (fun wx hSw => hSw) hu hi0 (fun _ _ _ h => h) hS ?_
     simp only [Act.put, sA, sZ, sS]
     refine tk 5 (some 17) (.int .i64 (c : Int)) (fun _ _ _ h => h) hS ?_
     simp only [Act.put, sA, sZ, sS]
     refine tk 6 (some 18) (.int .i64 (r : Int)) (fun _ _ _ h => h) hS ?_
     simp only [Act.put, sA, sZ, sS]
     refine ldQ 9 (some 21) 83 (.tmp 1) w.heap.size 0 (b.map bv) (fun wx hSw => hSw) hu hi0 (fun _ _ _ h => h) hS ?_
     simp only [Act.put, sA, sZ, sS]
     refine tk 10 (some 22) (.int .i64 (c : Int)) (fun _ _ _ h => h) hS ?_
     simp only [Act.put, sA, sZ, sS]
     refine tk 11 (some 23) (.int .i64 (r : Int)) (fun _ _ _ h => h) hS ?_
     simp only [Act.put, sA, sZ, sS]
     refine tk 12 (some 24) (.int .i64 ((r : Int) + 1)) (fun _ _ _ h => h) hS ?_
     simp only [Act.put, sA, sZ, sS]
     refine ldQ 16 (some 28) 83 (.tmp 1) w.heap.size 0 (b.map bv) (fun wx hSw => hSw) hu hi0 (fun _ _ _ h => h) hS ?_
     simp only [Act.put, sA, sZ, sS]
     refine tk 17 (some 29) (.int .i64 (c : Int)) (fun _ _ _ h => h) hS ?_
     simp only [Act.put, sA, sZ, sS]
     refine tk 18 (some 30) (.int .i64 (r : Int)) (fun _ _ _ h => h) hS ?_
     simp only [Act.put, sA, sZ, sS]
     refine tk 19 (some 31) (.int .i64 ((r : Int) + 2)) (fun _ _ _ h => h) hS ?_
     simp only [Act.put, sA, sZ, sS]
     refine ldQ 22 (some 34) 83 (.tmp 1) w.heap.size 0 (b.map bv) (fun wx hSw => hSw) hu hi0 (fun _ _ _ h => h) hS ?_
     simp only [Act.put, sA, sZ, sS]
     refine tk 23 (some 35) (.int .i64 (c : Int)) (fun _ _ _ h => h) hS ?_
     simp only [Act.put, sA, sZ, sS]
     refine tk 24 (some 36) (.int .i64 (r : Int)) (fun _ _ _ h => h) hS ?_
     simp only [Act.put, sA, sZ, sS]
     refine tk 25 (some 37) (.int .i64 ((r : Int) + 3)) (fun _ _ _ h => h) hS ?_
     simp only [Act.put, sA, sZ, sS]
     refine on1 7 fun K hK => ?_
     go_simp
     refine (Hc0.out _).mono ?_
     rintro e wa ⟨rfl, hba⟩
     refine kp hK hkeep ?_
     clear hK K
     refine on1 8 fun K hK => ?_
     go_simp
     refine (RMul_2l x0 _).mono ?_
     rintro e wz ⟨rfl, rfl⟩
     generalize twU x0 = t0 at *
     refine kp hK hkeep ?_
     clear hK K
     refine on1 13 fun K hK => ?_
     go_simp
     refine (Hc1.out _).mono ?_
     rintro e wb ⟨rfl, hbb⟩
     refine kp hK hkeep ?_
     clear hK K
     refine on1 14 fun K hK => ?_
     go_simp
     refine (RMul_3l x1 _).mono ?_
     rintro e wz ⟨rfl, rfl⟩
     generalize twU x1 ^^^ x1 = m1 at *
     refine kp hK hkeep ?_
     clear hK K
     have hSb := hkeep wb bl
     refine tk 15 (some 27) (.int .u8 (bits .xor .u8 (t0.toNat : Int) (m1.toNat : Int))) (fun _ _ _ h => h) hSb ?_
     simp only [Act.put, sA, sZ, sS]
     rw [b_xor]
     generalize t0 ^^^ m1 = y1 at *
     refine on1 20 fun K hK => ?_
     go_simp
     refine (Hc2.out _).mono ?_
     rintro e wd ⟨rfl, hbd⟩
     refine kp hK hkeep ?_
     clear hK K
     have hSd := hkeep wd bl
     refine tk 21 (some 33) (.int .u8 (bits .xor .u8 (y1.toNat : Int) (x2.toNat : Int))) (fun _ _ _ h => h) hSd ?_
     simp only [Act.put, sA, sZ, sS]
     rw [b_xor]
     generalize y1 ^^^ x2 = y2 at *
     refine on1 26 fun K hK => ?_
     go_simp
     refine (Hc3.out _).mono ?_
     rintro e we ⟨rfl, hbe⟩
     refine kp hK hkeep ?_
     clear hK K
     have hE : Below wr.heap.size wr we := bl
     have hSe := hkeep we hE
     refine tk 27 (some 39) (.int .u8 (bits .xor .u8 (y2.toNat : Int) (x3.toNat : Int))) (fun _ _ _ h => h) hSe ?_
     simp only [Act.put, sA, sZ, sS]
     rw [b_xor]
     generalize y2 ^^^ x3 = y at *
     refine tk 28 (some 40) (.pointer (some ⟨w.heap.size + 1 + 1, 4 * c + r, none⟩)) (fun _ _ _ h => h) hSe ?_
     simp only [Act.put, sA, sZ, sS]
     have e2 := g2.below hE g2.lt
     have cs := e2.cell (upto_old (mixF b) (fun _ => 0) (show 4 * c + r < 16 by omega) (Nat.le_refl _))
     have fs := e2.frozen (4 * c + r)
     have hs := e2.set_ (4 * c + r) (mixF b (4 * c + r))
     rw [← upto_succ, Hm.out] at hs
     refine on1 29 fun K hK => ?_
     go_simp
     refine hK.out _ _ (fun h => absurd rfl h) ?_
     clear hK K
     refine doneT (by kernel_rfl) ?_ _
     go_wp2_with fail
     refine ⟨⟨r + 1, by omega, by go_num, (g0.below hE g0.lt).far (by simp; try omega) _, (g1.below hE g1.lt).far (by simp; try omega) _, hs, (hbel.trans (hE.mono hbel.size)).setCell (by simp; try omega) _⟩, by simp [intOf]; omega⟩
    ·
     obtain rfl : r = 4 := by omega
     rw [show ((4 : Nat) : Int) = 4 from rfl]
     go_wp2_with fail
     exact ⟨⟨c + 1, by omega, by go_num, g0, g1, g2, hbel⟩, by simp [intOf]; omega⟩
  ·
   obtain rfl : c = 4 := by omega
   rw [show ((4 : Nat) : Int) = 4 from rfl]
   rw [show 4 * 4 = 16 from rfl, upto_all, show (List.range 16).map (mixF b) = mixU b from rfl] at g2
   generalize hq : mixU b = q at *
   have Hq := Lib.hid hq
   clear hq
   go_wp2_with (first
    | ((with_reducible refine tdQ 43 ?_); refine wpList_load_row rfl 83 (.tmp 3) rfl (w.heap.size + 1 + 1) rfl 83 (q.map bv).toArray (0, 0) _ g2 Tryz.underlying83 rfl Hiz.out ?_)
    | ((with_reducible refine tsQ 83 ?_); refine wpList_store_row rfl 83 (.tmp 2) (.tmp 43) rfl (w.heap.size + 1) (q.map bv).toArray rfl rfl 83 _ g1 Hiz.out Hsz.out (one_bvA q) ?_))
   exact bodyPost_ret (results_cell_row rfl _ _ (w.heap.size + 1) 83 _ (0, 0) _ rfl (g1.row q) Tryz.underlying83 rfl Hiz.out) rfl ⟨by rw [Hq.out], below_setRow hbel (by omega) _⟩
end Go.Proofs.YtbiijdboolpaeaaGreatDoor
