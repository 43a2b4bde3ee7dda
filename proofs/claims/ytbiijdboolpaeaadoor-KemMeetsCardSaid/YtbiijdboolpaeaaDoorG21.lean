import Derived.Test.YtbiijdboolpaeaaDoorG17
set_option linter.unusedVariables false
namespace Go.Proofs.YtbiijdboolpaeaaDoor
def byteK (l : List UInt8) (k : Nat) : UInt8 := l.getD k 0
theorem byteK_at {l : List UInt8} {k : Nat} (hk : k < l.length) : l[k]? = some (byteK l k) := by
 rw [byteK, List.getD_eq_getElem?_getD, List.getElem?_eq_getElem hk]
 rfl
end Go.Proofs.YtbiijdboolpaeaaDoor
