import Derived.Test.YtlidhdljgnijaaaDoorN26
import Derived.Lib.SmallJoins
/-
  THE WALK of the laws' live (coterielaw02): the chapter's two examples.
-/
set_option linter.unusedVariables false
namespace Go.Proofs.YtlidhdljgnijaaaDoor
open Go.RowKit


end Go.Proofs.YtlidhdljgnijaaaDoor

