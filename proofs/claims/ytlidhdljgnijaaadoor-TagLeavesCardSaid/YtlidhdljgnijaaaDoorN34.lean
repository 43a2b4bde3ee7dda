import Derived.Test.YtlidhdljgnijaaaDoorN04
/-
  CONTRACTS of slices.Equal and EqualFunc (over lists of numbers), and of the program's Same (tree). Printed by gen_treepm.py.
-/
set_option linter.unusedVariables false
namespace Go.Proofs.YtlidhdljgnijaaaDoor
open Go.RowKit

end Go.Proofs.YtlidhdljgnijaaaDoor

