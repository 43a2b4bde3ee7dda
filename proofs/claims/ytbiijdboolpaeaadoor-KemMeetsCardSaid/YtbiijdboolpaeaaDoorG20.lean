import Derived.Test.YtbiijdboolpaeaaDoorG18
import Derived.Test.YtbiijdboolpaeaaDoorG19
import Derived.StillTailTactics
set_option linter.unusedVariables false
namespace Go.Proofs.YtbiijdboolpaeaaDoor
open Go.RowKit
def addAt (r : Nat → Nat) (m t j : Nat) : Nat := if j = m then r j + t else r j
def BndF (r : Nat → Nat) (i k : Nat) : Prop := ∀ j, j < 32 → r j ≤ (i + (if j < i + k then 1 else 0)) * 4294967296
theorem BndF.step {r : Nat → Nat} {i k t : Nat} (h : BndF r i k) (hk : k < 16) (ht : t ≤ 4294836225) : BndF (addAt r (i + k) t) i (k + 1) := fun j hj => by
 have h1 := h j hj
 unfold addAt
 by_cases he : j = i + k
 ·
  subst he
  rw [if_neg (by omega)] at h1
  rw [if_pos rfl, if_pos (by omega)]
  omega
 ·
  rw [if_neg he]
  by_cases hl : j < i + k
  ·
   rw [if_pos hl] at h1
   rw [if_pos (by omega)]
   exact h1
  ·
   rw [if_neg hl] at h1
   rw [if_neg (by omega)]
   exact h1
def stpN (v o m : Nat) : Nat := if m = 2 ∨ m = 4 then o * o % P25 else o * o % P25 * v % P25
def invN (v : Nat) : Nat → Nat
 | 0 => 1
 | k + 1 => stpN v (invN v k) (254 - k)
def expN : Nat → Nat
 | 0 => 0
 | k + 1 => if 254 - k = 2 ∨ 254 - k = 4 then 2 * expN k else 2 * expN k + 1
theorem expN_all : expN 255 = P25 - 2 := by decide +kernel
theorem invN_val (v : Nat) : ∀ k, invN v k = v ^ expN k % P25
 | 0 => by
  rw [invN, expN, Nat.pow_zero]
  decide +kernel
 | k + 1 => by
  have ih := invN_val v k
  have e : invN v k * invN v k % P25 = v ^ (2 * expN k) % P25 := by rw [ih, ← Nat.mul_mod, ← Nat.pow_add, Nat.two_mul]
  rw [invN, stpN, expN]
  split
  ·
   exact e
  ·
   rw [e, Nat.mod_mul_mod, ← Nat.pow_succ]
def BndO (r : Nat → Nat) (m : Nat) : Prop := ∀ j, j < 32 → r j ≤ m * 32768
theorem BndO.up {r : Nat → Nat} {m : Nat} (h : BndO r m) : BndO r (m + 1) := fun j hj => Nat.le_trans (h j hj) (Nat.mul_le_mul_right _ (Nat.le_succ m))
theorem BndO.add {r : Nat → Nat} {m q t : Nat} (h : BndO r m) (ht : t ≤ 32768) : BndO (addAt r q t) (m + 1) := fun j hj => by
 unfold addAt
 split
 ·
  rw [Nat.add_mul, Nat.one_mul]
  exact Nat.add_le_add (h j hj) ht
 ·
  exact h.up j hj
end Go.Proofs.YtbiijdboolpaeaaDoor
