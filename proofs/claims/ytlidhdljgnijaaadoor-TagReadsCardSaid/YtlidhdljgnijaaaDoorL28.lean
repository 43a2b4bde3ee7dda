import Derived.Test.YtlidhdljgnijaaaDoorL27
import Derived.Lib.SmallJoins
/-
  THE WALK of the laws' live (coterielaw02): the chapter's two examples.
-/
set_option linter.unusedVariables false
namespace Go.Proofs.YtlidhdljgnijaaaDoor
open Go.RowKit

theorem sum_nothing : (sumU []).take 4 = [0xe3, 0xb0, 0xc4, 0x42] := by decide +kernel
theorem sum_abc : (sumU [97, 98, 99]).take 4 = [0xba, 0x78, 0x16, 0xbf] := by decide +kernel
theorem sumU_len (l : List UInt8) : (sumU l).length = 32 := by rw [sumU, bytesU_len, blocksTo_len rfl]

theorem take4 {l : List UInt8} {a b c d : UInt8} (h : l.take 4 = [a, b, c, d]) : l[0]? = some a ∧ l[1]? = some b ∧ l[2]? = some c ∧ l[3]? = some d := by
  have h0 : ∀ i, i < 4 → l[i]? = [a, b, c, d][i]? := fun i hi => by rw [← h, List.getElem?_take_of_lt hi]
  exact ⟨h0 0 (by omega), h0 1 (by omega), h0 2 (by omega), h0 3 (by omega)⟩

theorem al22 (w : World) (o o' : Obj) : w.heap.size + 1 + 1 ≤ ((w.alloc o).alloc o').heap.size := by simp
end Go.Proofs.YtlidhdljgnijaaaDoor

