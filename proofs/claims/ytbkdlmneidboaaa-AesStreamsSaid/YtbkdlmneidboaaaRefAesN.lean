/-
  THE DOCUMENT'S PRODUCTS, POWERS AND BOXES IN NUMBERS; each box reckoned by the kernel. Nothing of the program.
-/
import Derived.Test.YtbkdlmneidboaaaAesBox
set_option linter.unusedVariables false
namespace Go.Proofs.Ytbkdlmneidboaaa
open Go.RowKit

/-- the product of polynomials, j bits of the second one -/
def clTo (a b : Nat) : Nat → Nat
  | 0 => 0
  | j + 1 => clTo a b j ^^^ (a * 2 ^ j) * (b / 2 ^ j % 2)
/-- what it leaves, n steps: bits 14, 13 .. -/
def redTo (p : Nat) : Nat → Nat
  | 0 => p
  | n + 1 => redTo p n ^^^ (283 * 2 ^ (6 - n)) * (redTo p n / 2 ^ (14 - n) % 2)
def mulN (a b : Nat) : Nat := redTo (clTo a b 8) 7 % 256

theorem bit01 (n : Nat) : n % 2 = 0 ∨ n % 2 = 1 := by omega
theorem clTo_lt {a b : Nat} (ha : a < 256) : ∀ j, j ≤ 8 → clTo a b j < 32768
  | 0, _ => by simp [clTo]
  | j + 1, hj => by
    have ih := clTo_lt (b := b) ha j (by omega)
    rw [clTo]
    have h2 : a * 2 ^ j < 32768 := by
      have : 2 ^ j ≤ 2 ^ 7 := Nat.pow_le_pow_right (by omega) (by omega)
      have := Nat.mul_le_mul (show a ≤ 255 by omega) this
      omega
    have h3 : (a * 2 ^ j) * (b / 2 ^ j % 2) < 32768 := by
      rcases bit01 (b / 2 ^ j) with h | h <;> rw [h] <;> omega
    exact Nat.xor_lt_two_pow (n := 15) ih h3
theorem redTo_lt {p : Nat} (hp : p < 32768) : ∀ n, n ≤ 7 → redTo p n < 32768
  | 0, _ => hp
  | n + 1, hn => by
    have ih := redTo_lt hp n (by omega)
    rw [redTo]
    have h2 : 283 * 2 ^ (6 - n) < 32768 := by
      have : 2 ^ (6 - n) ≤ 2 ^ 6 := Nat.pow_le_pow_right (by omega) (by omega)
      omega
    have h3 : (283 * 2 ^ (6 - n)) * (redTo p n / 2 ^ (14 - n) % 2) < 32768 := by
      rcases bit01 (redTo p n / 2 ^ (14 - n)) with h | h <;> rw [h] <;> omega
    exact Nat.xor_lt_two_pow (n := 15) ih h3
theorem mulN_lt (a b : Nat) : mulN a b < 256 := Nat.mod_lt _ (by omega)

/-- a number so often multiplied by itself -/
def powN (x : Nat) : Nat → Nat
  | 0 => 1
  | n + 1 => mulN (powN x n) x
theorem powN_lt (x : Nat) : ∀ n, powN x n < 256
  | 0 => by simp [powN]
  | n + 1 => mulN_lt _ _

/-- bit i of a byte's box, of its inverse -/
def affBit (y i : Nat) : Nat := (99 / 2 ^ i ^^^ y / 2 ^ i ^^^ y / 2 ^ ((i + 4) % 8) ^^^ y / 2 ^ ((i + 5) % 8) ^^^ y / 2 ^ ((i + 6) % 8) ^^^ y / 2 ^ ((i + 7) % 8)) % 2
def affTo (y : Nat) : Nat → Nat
  | 0 => 0
  | i + 1 => affTo y i + affBit y i * 2 ^ i
def boxR (x : Nat) : Nat := affTo (powN x 254) 8

set_option maxRecDepth 100000 in
theorem boxR_lit : (List.range 256).map boxR = boxN := by kernel_rfl

theorem boxR_box (x : UInt8) : boxR x.toNat = (boxU x).toNat := by
  rw [boxU_nat, ← boxR_lit, List.getD_eq_getElem?_getD, List.getElem?_map, List.getElem?_range (b_lt x)]
  rfl
theorem mul2_lit : ∀ n, n < 256 → mulN 2 n = (twU (UInt8.ofNat n)).toNat ∧ mulN n 2 = (twU (UInt8.ofNat n)).toNat ∧ mulN 3 n = (twU (UInt8.ofNat n) ^^^ UInt8.ofNat n).toNat := by decide +kernel
theorem mul_left2 (x : UInt8) : mulN 2 x.toNat = (twU x).toNat := by
  have := (mul2_lit x.toNat (b_lt x)).1
  rwa [UInt8.ofNat_toNat] at this
theorem mul_right2 (x : UInt8) : mulN x.toNat 2 = (twU x).toNat := by
  have := (mul2_lit x.toNat (b_lt x)).2.1
  rwa [UInt8.ofNat_toNat] at this
theorem mul_left3 (x : UInt8) : mulN 3 x.toNat = (twU x ^^^ x).toNat := by
  have := (mul2_lit x.toNat (b_lt x)).2.2
  rwa [UInt8.ofNat_toNat] at this

end Go.Proofs.Ytbkdlmneidboaaa
