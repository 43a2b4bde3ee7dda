import Derived.Test.YtbiijdboolpaeaaDoorG08
import Derived.Test.YtbiijdboolpaeaaDoorG11
import Derived.Test.YtbiijdboolpaeaaDoorG33
import Derived.Test.YtbiijdboolpaeaaDoorG04
set_option linter.unusedVariables false
namespace Go.Proofs.YtbiijdboolpaeaaDoor
open Go.RowKit
end Go.Proofs.YtbiijdboolpaeaaDoor
