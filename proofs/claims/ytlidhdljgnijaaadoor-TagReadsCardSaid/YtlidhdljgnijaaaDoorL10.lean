import Derived.Test.YtlidhdljgnijaaaDoorL05
import Derived.Test.YtlidhdljgnijaaaDoorL09
import Derived.Laws.Externs
/-
  CONTRACTS of slices.Delete at []int and [][]int, over rows of the call's own.
-/
set_option linter.unusedVariables false
namespace Go.Proofs.YtlidhdljgnijaaaDoor
open Go.RowKit

end Go.Proofs.YtlidhdljgnijaaaDoor

/-
  CONTRACTS of slices.Clone and slices.Insert (of one number) at []int, over rows of the call's own.
-/
set_option linter.unusedVariables false
namespace Go.Proofs.YtlidhdljgnijaaaDoor
open Go.RowKit

/-- what an insertion leaves -/
def InsOf (w : World) (base : Nat) (A : Option Addr) (n : Nat) (xs : List Value) (e : Ending) (w' : World) : Prop :=
  ∃ A' c', e = .returned (.slice A' n c') ∧ w'.ownsRow base 3 1 (.slice A' n c') n xs ∧ w.grownBy w' (A.map (·.block)) ∧ (A'.map (·.block) = A.map (·.block) ∨ ∀ ad, A' = some ad → w.heap.size ≤ ad.block)

end Go.Proofs.YtlidhdljgnijaaaDoor

/-
  CONTRACT of slices.Insert (of one number, ahead of the end) at []int, where there is room.
-/
set_option linter.unusedVariables false
namespace Go.Proofs.YtlidhdljgnijaaaDoor
open Go.RowKit

end Go.Proofs.YtlidhdljgnijaaaDoor

/-
  CONTRACT of slices.Insert (of one number) at []int: where there is no room, and all together.
-/
set_option linter.unusedVariables false
namespace Go.Proofs.YtlidhdljgnijaaaDoor
open Go.RowKit

theorem zero_size (z : Value) (k : Nat) (h : z.cells.size = 1) : (Builtin.zeroCells z.cells k).size = k := by simp [Builtin.zeroCells, h]

end Go.Proofs.YtlidhdljgnijaaaDoor

