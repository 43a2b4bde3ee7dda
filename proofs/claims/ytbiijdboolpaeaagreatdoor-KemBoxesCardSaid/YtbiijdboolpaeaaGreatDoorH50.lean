import Derived.Test.YtbiijdboolpaeaaGreatDoorH48
set_option linter.unusedVariables false
namespace Go.Proofs.YtbiijdboolpaeaaGreatDoor
open Go.ChangeShapes Go.WideShapes Go.ChangeAt Go.RowKit Go.Deep
end Go.Proofs.YtbiijdboolpaeaaGreatDoor
