import Derived.Test.YtlidhdljgnijaaaDoorN05
import Derived.Test.YtlidhdljgnijaaaDoorN09
import Derived.Laws.Externs
/-
  CONTRACTS of slices.Delete at []int and [][]int, over rows of the call's own.
-/
set_option linter.unusedVariables false
namespace Go.Proofs.YtlidhdljgnijaaaDoor
open Go.RowKit

end Go.Proofs.YtlidhdljgnijaaaDoor

/-
  CONTRACTS of slices.Clone and slices.Insert (of one number) at []int, over rows of the call's own.
-/
set_option linter.unusedVariables false
namespace Go.Proofs.YtlidhdljgnijaaaDoor
open Go.RowKit

end Go.Proofs.YtlidhdljgnijaaaDoor

/-
  CONTRACT of slices.Insert (of one number, ahead of the end) at []int, where there is room.
-/
set_option linter.unusedVariables false
namespace Go.Proofs.YtlidhdljgnijaaaDoor
open Go.RowKit

end Go.Proofs.YtlidhdljgnijaaaDoor

/-
  CONTRACT of slices.Insert (of one number) at []int: where there is no room, and all together.
-/
set_option linter.unusedVariables false
namespace Go.Proofs.YtlidhdljgnijaaaDoor
open Go.RowKit

end Go.Proofs.YtlidhdljgnijaaaDoor

