/-
  WHAT THE LAWS OF LAYER 5 ARE WALKED BY: the document's May; the program's calls as they answer for numbers that may be; congruences.
-/
import Derived.Test.YtimgnpcojamafaaFeLive
import Derived.Test.YtimgnpcojamafaaFeG
set_option linter.unusedVariables false
namespace Go.Proofs.Ytimgnpcojamafaa
open Go.RowKit



theorem same_of {x y : Fe5} (hx : MayF x) (hy : MayF y) (h : valF x % P25 = valF y % P25) : sameU x y = true := by
  rw [sameU, mayB_true hx, mayB_true hy, h]
  simp

theorem add_cong {n a b c d : Nat} (h : a % n = b % n) (k : c % n = d % n) : (a + c) % n = (b + d) % n := by
  rw [Nat.add_mod, h, k, ← Nat.add_mod]
theorem add_cancel {a b c : Nat} (h : (a + c) % P25 = (b + c) % P25) : a % P25 = b % P25 := by
  unfold P25 at *
  omega
theorem fermatP : Fermat P25 := fermat255
theorem fermat25 {a : Nat} (h : a % P25 ≠ 0) : a ^ (P25 - 1) % P25 = 1 % P25 := fermatP a h

def oneF : Fe5 := ⟨1, 0, 0, 0, 0⟩
def twoF : Fe5 := ⟨2, 0, 0, 0, 0⟩
theorem oneF_may : MayF oneF := by decide
theorem twoF_may : MayF twoF := by decide
theorem cells_zero : feC zeroF = #[.int .u64 0, .int .u64 0, .int .u64 0, .int .u64 0, .int .u64 0] := rfl
theorem cells_one : feC oneF = #[.int .u64 1, .int .u64 0, .int .u64 0, .int .u64 0, .int .u64 0] := rfl
theorem cells_two : feC twoF = #[.int .u64 2, .int .u64 0, .int .u64 0, .int .u64 0, .int .u64 0] := rfl

end Go.Proofs.Ytimgnpcojamafaa
