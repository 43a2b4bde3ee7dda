import Derived.Test.YtbiijdboolpaeaaDoorG12
set_option linter.unusedVariables false
namespace Go.Proofs.YtbiijdboolpaeaaDoor
open Go.RowKit
end Go.Proofs.YtbiijdboolpaeaaDoor
