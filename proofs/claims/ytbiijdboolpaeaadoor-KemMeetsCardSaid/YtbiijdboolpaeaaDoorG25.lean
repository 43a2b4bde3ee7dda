import Derived.Test.YtbiijdboolpaeaaDoorG03
set_option linter.unusedVariables false
namespace Go.Proofs.YtbiijdboolpaeaaDoor
open Go.RowKit
end Go.Proofs.YtbiijdboolpaeaaDoor
