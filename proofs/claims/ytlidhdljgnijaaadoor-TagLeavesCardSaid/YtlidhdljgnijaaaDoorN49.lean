import Derived.Test.YtlidhdljgnijaaaDoorN46
import Derived.Test.YtlidhdljgnijaaaDoorN09
import Derived.Test.YtlidhdljgnijaaaDoorN47
import Derived.Test.YtlidhdljgnijaaaDoorN18
/-
  OPENING a law's argument that is an array of bytes (by value), or one byte.
-/
set_option linter.unusedVariables false
namespace Go.Proofs.YtlidhdljgnijaaaDoor
open Go.ChangeShapes Go.WideShapes Go.ChangeAt Go.RowKit Go.Deep

section
variable {H : Type} {enc : TypeId × Value → H} {w : World} {base : Nat} {spare : Nat → Bool} {held : Bool}

end

end Go.Proofs.YtlidhdljgnijaaaDoor

/-
  OPENING a law's argument that is a key (api.Key, by value), or one byte.
-/
set_option linter.unusedVariables false
namespace Go.Proofs.YtlidhdljgnijaaaDoor
open Go.ChangeShapes Go.WideShapes Go.ChangeAt Go.RowKit Go.Deep

theorem cellsKey : Tryd.prog.cellsOf 36 = 32 := by kernel_rfl

section
variable {H : Type} {enc : TypeId × Value → H} {w : World} {base : Nat} {spare : Nat → Bool} {held : Bool}

end

end Go.Proofs.YtlidhdljgnijaaaDoor

