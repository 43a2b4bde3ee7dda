import Derived.Test.YtlidhdljgnijaaaDoorN17
/-
  CONTRACT of the document's Few (coterieref01), which many laws call.
-/
set_option linter.unusedVariables false
namespace Go.Proofs.YtlidhdljgnijaaaDoor
open Go.RowKit

end Go.Proofs.YtlidhdljgnijaaaDoor

