import Derived.Test.YtbiijdboolpaeaaDoorG07
import Derived.StillTailTactics
import Derived.Test.YtbiijdboolpaeaaDoorG04
set_option linter.unusedVariables false
namespace Go.Proofs.YtbiijdboolpaeaaDoor
open Go.RowKit
end Go.Proofs.YtbiijdboolpaeaaDoor
