import Derived.Test.YtajbaaamhddgiaaDoorG18
/-
  THE BOXES AS NUMBERS: what the program's way of making them comes to, reckoned by the kernel; no two bytes have one box.
-/
set_option linter.unusedVariables false
namespace Go.Proofs.YtajbaaamhddgiaaDoor
open Go.RowKit

def boxN : List Nat := [
  99, 124, 119, 123, 242, 107, 111, 197, 48, 1, 103, 43, 254, 215, 171, 118, 202, 130, 201, 125, 250, 89, 71,
  240, 173, 212, 162, 175, 156, 164, 114, 192, 183, 253, 147, 38, 54, 63, 247, 204, 52, 165, 229, 241, 113,
  216, 49, 21, 4, 199, 35, 195, 24, 150, 5, 154, 7, 18, 128, 226, 235, 39, 178, 117, 9, 131, 44, 26, 27, 110,
  90, 160, 82, 59, 214, 179, 41, 227, 47, 132, 83, 209, 0, 237, 32, 252, 177, 91, 106, 203, 190, 57, 74, 76,
  88, 207, 208, 239, 170, 251, 67, 77, 51, 133, 69, 249, 2, 127, 80, 60, 159, 168, 81, 163, 64, 143, 146, 157,
  56, 245, 188, 182, 218, 33, 16, 255, 243, 210, 205, 12, 19, 236, 95, 151, 68, 23, 196, 167, 126, 61, 100,
  93, 25, 115, 96, 129, 79, 220, 34, 42, 144, 136, 70, 238, 184, 20, 222, 94, 11, 219, 224, 50, 58, 10, 73, 6,
  36, 92, 194, 211, 172, 98, 145, 149, 228, 121, 231, 200, 55, 109, 141, 213, 78, 169, 108, 86, 244, 234, 101,
  122, 174, 8, 186, 120, 37, 46, 28, 166, 180, 198, 232, 221, 116, 31, 75, 189, 139, 138, 112, 62, 181, 102,
  72, 3, 246, 14, 97, 53, 87, 185, 134, 193, 29, 158, 225, 248, 152, 17, 105, 217, 142, 148, 155, 30, 135,
  233, 206, 85, 40, 223, 140, 161, 137, 13, 191, 230, 66, 104, 65, 153, 45, 15, 176, 84, 187, 22]
def unN : List Nat := [
  82, 9, 106, 213, 48, 54, 165, 56, 191, 64, 163, 158, 129, 243, 215, 251, 124, 227, 57, 130, 155, 47, 255,
  135, 52, 142, 67, 68, 196, 222, 233, 203, 84, 123, 148, 50, 166, 194, 35, 61, 238, 76, 149, 11, 66, 250,
  195, 78, 8, 46, 161, 102, 40, 217, 36, 178, 118, 91, 162, 73, 109, 139, 209, 37, 114, 248, 246, 100, 134,
  104, 152, 22, 212, 164, 92, 204, 93, 101, 182, 146, 108, 112, 72, 80, 253, 237, 185, 218, 94, 21, 70, 87,
  167, 141, 157, 132, 144, 216, 171, 0, 140, 188, 211, 10, 247, 228, 88, 5, 184, 179, 69, 6, 208, 44, 30, 143,
  202, 63, 15, 2, 193, 175, 189, 3, 1, 19, 138, 107, 58, 145, 17, 65, 79, 103, 220, 234, 151, 242, 207, 206,
  240, 180, 230, 115, 150, 172, 116, 34, 231, 173, 53, 133, 226, 249, 55, 232, 28, 117, 223, 110, 71, 241, 26,
  113, 29, 41, 197, 137, 111, 183, 98, 14, 170, 24, 190, 27, 252, 86, 62, 75, 198, 210, 121, 32, 154, 219,
  192, 254, 120, 205, 90, 244, 31, 221, 168, 51, 136, 7, 199, 49, 177, 18, 16, 89, 39, 128, 236, 95, 96, 81,
  127, 169, 25, 181, 74, 13, 45, 229, 122, 159, 147, 201, 156, 239, 160, 224, 59, 77, 174, 42, 245, 176, 200,
  235, 187, 60, 131, 83, 153, 97, 23, 43, 4, 126, 186, 119, 214, 38, 225, 105, 20, 99, 85, 33, 12, 125]

set_option maxRecDepth 100000 in
theorem boxT_lit : boxT.map UInt8.toNat = boxN := by kernel_rfl
theorem un_box : ∀ i, i < 256 → unN.getD (boxN.getD i 0) 0 = i := by decide +kernel

theorem boxU_nat (x : UInt8) : (boxU x).toNat = boxN.getD x.toNat 0 := by
  have h := boxU_at x
  rw [← boxT_lit, List.getD_eq_getElem?_getD, List.getElem?_map, h]
  rfl
theorem boxU_inj {x y : UInt8} (h : boxU x = boxU y) : x = y := by
  have hx := un_box x.toNat (b_lt x)
  have hy := un_box y.toNat (b_lt y)
  rw [← boxU_nat, h, boxU_nat, hy] at hx
  exact UInt8.toNat_inj.1 hx.symm
theorem box_0 : boxU 0 = 99 := UInt8.toNat_inj.1 (boxU_nat 0)
theorem box_83 : boxU 83 = 237 := UInt8.toNat_inj.1 (boxU_nat 83)

end Go.Proofs.YtajbaaamhddgiaaDoor

/-
  THE DOCUMENT'S PRODUCTS, POWERS AND BOXES IN NUMBERS; each box reckoned by the kernel. Nothing of the program.
-/
set_option linter.unusedVariables false
namespace Go.Proofs.YtajbaaamhddgiaaDoor
open Go.RowKit

/-- the product of polynomials, j bits of the second one -/
def clTo (a b : Nat) : Nat → Nat
  | 0 => 0
  | j + 1 => clTo a b j ^^^ (a * 2 ^ j) * (b / 2 ^ j % 2)
/-- what it leaves, n steps: bits 14, 13 .. -/
def redTo (p : Nat) : Nat → Nat
  | 0 => p
  | n + 1 => redTo p n ^^^ (283 * 2 ^ (6 - n)) * (redTo p n / 2 ^ (14 - n) % 2)
def mulN (a b : Nat) : Nat := redTo (clTo a b 8) 7 % 256

theorem bit01 (n : Nat) : n % 2 = 0 ∨ n % 2 = 1 := by omega
theorem clTo_lt {a b : Nat} (ha : a < 256) : ∀ j, j ≤ 8 → clTo a b j < 32768
  | 0, _ => by simp [clTo]
  | j + 1, hj => by
    have ih := clTo_lt (b := b) ha j (by omega)
    rw [clTo]
    have h2 : a * 2 ^ j < 32768 := by
      have : 2 ^ j ≤ 2 ^ 7 := Nat.pow_le_pow_right (by omega) (by omega)
      have := Nat.mul_le_mul (show a ≤ 255 by omega) this
      omega
    have h3 : (a * 2 ^ j) * (b / 2 ^ j % 2) < 32768 := by
      rcases bit01 (b / 2 ^ j) with h | h <;> rw [h] <;> omega
    exact Nat.xor_lt_two_pow (n := 15) ih h3
theorem redTo_lt {p : Nat} (hp : p < 32768) : ∀ n, n ≤ 7 → redTo p n < 32768
  | 0, _ => hp
  | n + 1, hn => by
    have ih := redTo_lt hp n (by omega)
    rw [redTo]
    have h2 : 283 * 2 ^ (6 - n) < 32768 := by
      have : 2 ^ (6 - n) ≤ 2 ^ 6 := Nat.pow_le_pow_right (by omega) (by omega)
      omega
    have h3 : (283 * 2 ^ (6 - n)) * (redTo p n / 2 ^ (14 - n) % 2) < 32768 := by
      rcases bit01 (redTo p n / 2 ^ (14 - n)) with h | h <;> rw [h] <;> omega
    exact Nat.xor_lt_two_pow (n := 15) ih h3
theorem mulN_lt (a b : Nat) : mulN a b < 256 := Nat.mod_lt _ (by omega)

/-- a number so often multiplied by itself -/
def powN (x : Nat) : Nat → Nat
  | 0 => 1
  | n + 1 => mulN (powN x n) x
theorem powN_lt (x : Nat) : ∀ n, powN x n < 256
  | 0 => by simp [powN]
  | n + 1 => mulN_lt _ _

/-- bit i of a byte's box, of its inverse -/
def affBit (y i : Nat) : Nat := (99 / 2 ^ i ^^^ y / 2 ^ i ^^^ y / 2 ^ ((i + 4) % 8) ^^^ y / 2 ^ ((i + 5) % 8) ^^^ y / 2 ^ ((i + 6) % 8) ^^^ y / 2 ^ ((i + 7) % 8)) % 2
def affTo (y : Nat) : Nat → Nat
  | 0 => 0
  | i + 1 => affTo y i + affBit y i * 2 ^ i
def boxR (x : Nat) : Nat := affTo (powN x 254) 8

set_option maxRecDepth 100000 in
theorem boxR_lit : (List.range 256).map boxR = boxN := by kernel_rfl

theorem boxR_box (x : UInt8) : boxR x.toNat = (boxU x).toNat := by
  rw [boxU_nat, ← boxR_lit, List.getD_eq_getElem?_getD, List.getElem?_map, List.getElem?_range (b_lt x)]
  rfl
theorem mul2_lit : ∀ n, n < 256 → mulN 2 n = (twU (UInt8.ofNat n)).toNat ∧ mulN n 2 = (twU (UInt8.ofNat n)).toNat ∧ mulN 3 n = (twU (UInt8.ofNat n) ^^^ UInt8.ofNat n).toNat := by decide +kernel
theorem mul_left2 (x : UInt8) : mulN 2 x.toNat = (twU x).toNat := by
  have := (mul2_lit x.toNat (b_lt x)).1
  rwa [UInt8.ofNat_toNat] at this
theorem mul_right2 (x : UInt8) : mulN x.toNat 2 = (twU x).toNat := by
  have := (mul2_lit x.toNat (b_lt x)).2.1
  rwa [UInt8.ofNat_toNat] at this
theorem mul_left3 (x : UInt8) : mulN 3 x.toNat = (twU x ^^^ x).toNat := by
  have := (mul2_lit x.toNat (b_lt x)).2.2
  rwa [UInt8.ofNat_toNat] at this

end Go.Proofs.YtajbaaamhddgiaaDoor

/-
  CONTRACTS of the document's Mul, inverse, Box (coterieref04), in numbers.
-/
set_option linter.unusedVariables false
namespace Go.Proofs.YtajbaaamhddgiaaDoor
open Go.RowKit

theorem i64_xor_nat (a b : Nat) (ha : a < 32768) (hb : b < 32768) : bits .xor .i64 (a : Int) (b : Int) = ((a ^^^ b : Nat) : Int) := by
  have hx : a ^^^ b < 2 ^ 15 := Nat.xor_lt_two_pow (n := 15) (by omega) (by omega)
  have e : ∀ n : Nat, n < 32768 → (BitVec.ofInt 64 (n : Int)).toNat = n := fun n hn => by
    rw [BitVec.toNat_ofInt]
    omega
  show IntKind.i64.wrap ((BitVec.ofInt 64 (a : Int) ^^^ BitVec.ofInt 64 (b : Int)).toNat : Int) = _
  rw [BitVec.toNat_xor, e a ha, e b hb]
  exact IntWalk.i64_in _ (by omega)
theorem shl_int (a j : Nat) (h : a * 2 ^ j < 32768) : wrap64 ((a : Int) * 2 ^ j) = ((a * 2 ^ j : Nat) : Int) := by
  rw [Int.natCast_mul, Int.natCast_pow]
  refine IntWalk.wrap64_in _ ?_
  have : ((a : Int) * 2 ^ j) = ((a * 2 ^ j : Nat) : Int) := by rw [Int.natCast_mul, Int.natCast_pow]; rfl
  rw [this]
  omega
theorem sh_lt {a j : Nat} (ha : a < 256) (hj : j < 8) : a * 2 ^ j < 32768 := by
  have : 2 ^ j ≤ 2 ^ 7 := Nat.pow_le_pow_right (by omega) (by omega)
  have := Nat.mul_le_mul (show a ≤ 255 by omega) this
  omega

theorem bit_int (b j : Nat) : (((b : Int) / 2 ^ j).tmod 2 == 1) = decide (b / 2 ^ j % 2 = 1) := by
  have e : ((b : Int) / 2 ^ j) = ((b / 2 ^ j : Nat) : Int) := by rw [Int.natCast_ediv, Int.natCast_pow]; rfl
  generalize b / 2 ^ j = n at *
  rw [e, Int.tmod_eq_emod_of_nonneg (by omega)]
  rcases bit01 n with h | h
  · rw [show (n : Int) % 2 = 0 by omega, h]; rfl
  · rw [show (n : Int) % 2 = 1 by omega, h]; rfl

set_option maxHeartbeats 2000000 in
theorem Mul_any (a b : Nat) (w : World) (ha : a < 256) (hb : b < 256) :
    Calls Tryd.prog 80 #[.int .u8 (a : Int), .int .u8 (b : Int)] w fun e w' => e = .returned (.int .u8 ((mulN a b : Nat) : Int)) ∧ w = w' := by
  have Hm := Lib.hid (show mulN a b = redTo (clTo a b 8) 7 % 256 from rfl)
  have Hcl := Lib.hid (fun j hj => clTo_lt (b := b) ha j hj)
  go_enter Tryd.func80, Tryd.ntmps80
  go_wp2_with fail
  go_loopw [5, 8] (fun p i wr => ∃ j : Nat, j ≤ 8 ∧ i = .int .i64 (j : Int) ∧ p = .int .i64 ((clTo a b j : Nat) : Int) ∧ w = wr) (fun _ i _ => (8 - intOf i).toNat)
  case atStart => exact ⟨0, by omega, rfl, rfl, rfl⟩
  case round =>
    obtain ⟨j, hj, rfl, rfl, rfl⟩ := hrel
    by_cases hlt : j < 8
    · have hc := Hcl.out j hj
      have Hst := Lib.hid (show clTo a b (j + 1) = clTo a b j ^^^ (a * 2 ^ j) * (b / 2 ^ j % 2) from rfl)
      generalize clTo a b j = c at *
      have hb2 := bit_int b j
      by_cases hbit : b / 2 ^ j % 2 = 1
      · rw [decide_eq_true hbit] at hb2
        go_wp2_with fail
        refine ⟨⟨j + 1, by omega, by go_num, ?_, trivial⟩, by simp [intOf]; omega⟩
        rw [Hst.out, hbit, Nat.mul_one, shl_int _ _ (sh_lt ha hlt), i64_xor_nat _ _ hc (sh_lt ha hlt)]
      · rw [decide_eq_false hbit] at hb2
        go_wp2_with fail
        refine ⟨⟨j + 1, by omega, by go_num, ?_, trivial⟩, by simp [intOf]; omega⟩
        rw [Hst.out, show b / 2 ^ j % 2 = 0 by omega, Nat.mul_zero, Nat.xor_zero]
    · obtain rfl : j = 8 := by omega
      rw [show ((8 : Nat) : Int) = 8 from rfl]
      have Hr := Lib.hid (fun n hn => redTo_lt (Hcl.out 8 (by omega)) n hn)
      generalize clTo a b 8 = c at *
      go_wp2_with fail
      go_loopw [5, 7] (fun p i wr => ∃ n : Nat, n ≤ 7 ∧ i = .int .i64 (14 - (n : Int)) ∧ p = .int .i64 ((redTo c n : Nat) : Int) ∧ w = wr) (fun _ i _ => (intOf i - 7).toNat)
      case atStart => exact ⟨0, by omega, rfl, rfl, rfl⟩
      case round =>
        obtain ⟨n, hn, rfl, rfl, rfl⟩ := hrel
        by_cases hlt : n < 7
        · have hc := Hr.out n hn
          have Hst := Lib.hid (show redTo c (n + 1) = redTo c n ^^^ (283 * 2 ^ (6 - n)) * (redTo c n / 2 ^ (14 - n) % 2) from rfl)
          generalize redTo c n = q at *
          have hb2 := bit_int q (14 - n)
          have j1 : (8 : Int) ≤ 14 - (n : Int) := by omega
          have j2 : 0 ≤ 14 - (n : Int) := by omega
          have j3 : (14 - (n : Int)).toNat = 14 - n := by omega
          have j4 : 0 ≤ 14 - (n : Int) - 8 := by omega
          have j5 : (14 - (n : Int) - 8).toNat = 6 - n := by omega
          by_cases hbit : q / 2 ^ (14 - n) % 2 = 1
          · rw [decide_eq_true hbit] at hb2
            go_wp2_with fail
            have hp : 283 * 2 ^ (6 - n) < 32768 := by
              have : 2 ^ (6 - n) ≤ 2 ^ 6 := Nat.pow_le_pow_right (by omega) (by omega)
              omega
            refine ⟨⟨n + 1, by omega, by go_num, ?_, trivial⟩, by simp [intOf]; omega⟩
            have e := shl_int 283 (6 - n) hp
            rw [Hst.out, hbit, Nat.mul_one, ← i64_xor_nat _ _ hc hp, ← e]
            rfl
          · rw [decide_eq_false hbit] at hb2
            go_wp2_with fail
            refine ⟨⟨n + 1, by omega, by go_num, ?_, trivial⟩, by simp [intOf]; omega⟩
            rw [Hst.out, show q / 2 ^ (14 - n) % 2 = 0 by omega, Nat.mul_zero, Nat.xor_zero]
        · obtain rfl : n = 7 := by omega
          rw [show (14 - ((7 : Nat) : Int)) = 7 from rfl]
          generalize redTo c 7 = q at *
          go_wp2_with fail
          go_ret
          exact ⟨by rw [Hm.out]; rfl, rfl⟩


set_option maxRecDepth 100000 in
theorem inverse_any (x : Nat) (w : World) (hx : x < 256) :
    Calls Tryd.prog 90 #[.int .u8 (x : Int)] w fun e w' => e = .returned (.int .u8 ((powN x 254 : Nat) : Int)) ∧ w = w' := by
  go_enter Tryd.func90, Tryd.ntmps90
  go_wp2_with fail
  go_loopw [3, 4] (fun y i wr => ∃ n : Nat, n ≤ 254 ∧ i = .int .i64 (n : Int) ∧ y = .int .u8 ((powN x n : Nat) : Int) ∧ w = wr) (fun _ i _ => (254 - intOf i).toNat)
  case atStart => exact ⟨0, by omega, rfl, rfl, rfl⟩
  case round =>
    obtain ⟨n, hn, rfl, rfl, rfl⟩ := hrel
    by_cases hlt : n < 254
    · have hp := powN_lt x n
      have Hst := Lib.hid (show powN x (n + 1) = mulN (powN x n) x from rfl)
      generalize powN x n = q at *
      go_wp2_with (go_at_call 80; refine (Mul_any q x _ hp hx).mono ?_; rintro e w' ⟨rfl, rfl⟩)
      exact ⟨⟨n + 1, by omega, by go_num, by rw [Hst.out], trivial⟩, by simp [intOf]; omega⟩
    · obtain rfl : n = 254 := by omega
      rw [show ((254 : Nat) : Int) = 254 from rfl]
      generalize hq : powN x 254 = q at *
      go_wp2_with fail
      go_ret
      exact ⟨by rw [hq]; rfl, rfl⟩


theorem div_int (y j : Nat) : ((y : Int) / 2 ^ j) = ((y / 2 ^ j : Nat) : Int) := by rw [Int.natCast_ediv, Int.natCast_pow]; rfl
theorem div_lt (y j : Nat) (hy : y < 256) : y / 2 ^ j < 256 := Nat.lt_of_le_of_lt (Nat.div_le_self _ _) hy
theorem x8 {a b : Nat} (ha : a < 256) (hb : b < 256) : a ^^^ b < 256 := Nat.xor_lt_two_pow (n := 8) ha hb
theorem aff_int (y a b c d e f : Nat) (hy : y < 256) :
    bits .xor .u8 (bits .xor .u8 (bits .xor .u8 (bits .xor .u8 (bits .xor .u8 ((99 : Int) / 2 ^ a) ((y : Int) / 2 ^ b)) ((y : Int) / 2 ^ c)) ((y : Int) / 2 ^ d)) ((y : Int) / 2 ^ e)) ((y : Int) / 2 ^ f) =
      ((99 / 2 ^ a ^^^ y / 2 ^ b ^^^ y / 2 ^ c ^^^ y / 2 ^ d ^^^ y / 2 ^ e ^^^ y / 2 ^ f : Nat) : Int) := by
  have h9 : ((99 : Int) / 2 ^ a) = ((99 / 2 ^ a : Nat) : Int) := div_int 99 a
  have q0 := div_lt 99 a (by omega)
  rw [h9, div_int, div_int, div_int, div_int, div_int, u8_xor_nat _ _ q0 (div_lt y b hy), u8_xor_nat _ _ (x8 q0 (div_lt y b hy)) (div_lt y c hy), u8_xor_nat _ _ (x8 (x8 q0 (div_lt y b hy)) (div_lt y c hy)) (div_lt y d hy),
    u8_xor_nat _ _ (x8 (x8 (x8 q0 (div_lt y b hy)) (div_lt y c hy)) (div_lt y d hy)) (div_lt y e hy), u8_xor_nat _ _ (x8 (x8 (x8 (x8 q0 (div_lt y b hy)) (div_lt y c hy)) (div_lt y d hy)) (div_lt y e hy)) (div_lt y f hy)]

theorem affBit_01 (y i : Nat) : affBit y i = 0 ∨ affBit y i = 1 := bit01 _
theorem affTo_lt (y : Nat) : ∀ i, affTo y i < 2 ^ i
  | 0 => by simp [affTo]
  | i + 1 => by
    have := affTo_lt y i
    rw [affTo, Nat.pow_succ]
    rcases affBit_01 y i with h | h <;> rw [h] <;> omega
theorem aff_step {o y j : Nat} (ho : o < 2 ^ j) (hj : j < 8) :
    ((o : Int) + ((99 / 2 ^ j ^^^ y / 2 ^ j ^^^ y / 2 ^ ((j + 4) % 8) ^^^ y / 2 ^ ((j + 5) % 8) ^^^ y / 2 ^ ((j + 6) % 8) ^^^ y / 2 ^ ((j + 7) % 8) : Nat) : Int).tmod 2 * 2 ^ j % 256) % 256 = ((o + affBit y j * 2 ^ j : Nat) : Int) := by
  have e : affBit y j = (99 / 2 ^ j ^^^ y / 2 ^ j ^^^ y / 2 ^ ((j + 4) % 8) ^^^ y / 2 ^ ((j + 5) % 8) ^^^ y / 2 ^ ((j + 6) % 8) ^^^ y / 2 ^ ((j + 7) % 8)) % 2 := rfl
  rw [e]
  generalize (99 / 2 ^ j ^^^ y / 2 ^ j ^^^ y / 2 ^ ((j + 4) % 8) ^^^ y / 2 ^ ((j + 5) % 8) ^^^ y / 2 ^ ((j + 6) % 8) ^^^ y / 2 ^ ((j + 7) % 8)) = n
  have hp : 2 ^ j ≤ 2 ^ 7 := Nat.pow_le_pow_right (by omega) (by omega)
  have hi : ((2 : Int) ^ j) = ((2 ^ j : Nat) : Int) := by rw [Int.natCast_pow]; rfl
  rw [hi, Int.tmod_eq_emod_of_nonneg (by omega)]
  generalize 2 ^ j = m at *
  rcases bit01 n with h | h
  · rw [show (n : Int) % 2 = 0 by omega, h]; omega
  · rw [show (n : Int) % 2 = 1 by omega, h]; omega

set_option maxRecDepth 100000 in
set_option maxHeartbeats 1000000 in
theorem RBox_nat (x : Nat) (w : World) (hx : x < 256) :
    Calls Tryd.prog 79 #[.int .u8 (x : Int)] w fun e w' => e = .returned (.int .u8 ((boxR x : Nat) : Int)) ∧ ∃ q, w' = w.drewN q := by
  have Hb := Lib.hid (show boxR x = affTo (powN x 254) 8 from rfl)
  have hy := powN_lt x 254
  go_enter Tryd.func79, Tryd.ntmps79
  go_wp2_with fail
  refine (inverse_any x _ hx).mono ?_
  rintro e w2 ⟨rfl, rfl⟩
  generalize powN x 254 = y at *
  go_wp2_with fail
  go_loopw [4, 9] (fun o i wr => ∃ j q : Nat, j ≤ 8 ∧ i = .int .i64 (j : Int) ∧ o = .int .u8 ((affTo y j : Nat) : Int) ∧ wr = w.drewN q) (fun _ i _ => (8 - intOf i).toNat)
  case atStart => exact ⟨0, 0, by omega, rfl, rfl, rfl⟩
  case round =>
    obtain ⟨j, q, hj, rfl, rfl, rfl⟩ := hrel
    by_cases hlt : j < 8
    · have j0 : 0 ≤ (j : Int) := by omega
      have j1 : (j : Int) < 8 := by omega
      have Hst := Lib.hid (show affTo y (j + 1) = affTo y j + affBit y j * 2 ^ j from rfl)
      have ho := Lib.hid (affTo_lt y j)
      generalize affTo y j = o at *
      go_wp2_with fail
      go_quiet (fail)
      go_wp2_with fail
      refine ⟨⟨j + 1, q + nq, by omega, by go_num, ?_, rfl⟩, by simp [intOf]; omega⟩
      rw [aff_int _ _ _ _ _ _ _ hy, Hst.out, ← aff_step ho.out hlt]
    · obtain rfl : j = 8 := by omega
      rw [show ((8 : Nat) : Int) = 8 from rfl]
      go_wp2_with fail
      rw [← Hb.out]
      go_ret
      exact ⟨rfl, _, rfl⟩

theorem RBox_any (x : UInt8) (w : World) :
    Calls Tryd.prog 79 #[.int .u8 (x.toNat : Int)] w fun e w' => e = .returned (.int .u8 ((boxU x).toNat : Int)) ∧ ∃ q, w' = w.drewN q := by
  have h := RBox_nat x.toNat w (b_lt x)
  rwa [boxR_box] at h
theorem RMul_2l (x : UInt8) (w : World) :
    Calls Tryd.prog 80 #[.int .u8 2, .int .u8 (x.toNat : Int)] w fun e w' => e = .returned (.int .u8 ((twU x).toNat : Int)) ∧ w = w' := by
  have h := Mul_any 2 x.toNat w (by omega) (b_lt x)
  rwa [mul_left2] at h
theorem RMul_3l (x : UInt8) (w : World) :
    Calls Tryd.prog 80 #[.int .u8 3, .int .u8 (x.toNat : Int)] w fun e w' => e = .returned (.int .u8 ((twU x ^^^ x).toNat : Int)) ∧ w = w' := by
  have h := Mul_any 3 x.toNat w (by omega) (b_lt x)
  rwa [mul_left3] at h
theorem RMul_2r (x : UInt8) (w : World) :
    Calls Tryd.prog 80 #[.int .u8 (x.toNat : Int), .int .u8 2] w fun e w' => e = .returned (.int .u8 ((twU x).toNat : Int)) ∧ w = w' := by
  have h := Mul_any x.toNat 2 w (b_lt x) (by omega)
  rwa [mul_right2] at h

end Go.Proofs.YtajbaaamhddgiaaDoor

