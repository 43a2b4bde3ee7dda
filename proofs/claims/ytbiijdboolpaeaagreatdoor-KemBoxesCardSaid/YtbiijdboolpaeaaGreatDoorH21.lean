import Derived.Test.YtbiijdboolpaeaaGreatDoorH17
set_option linter.unusedVariables false
namespace Go.Proofs.YtbiijdboolpaeaaGreatDoor
def byteK (l : List UInt8) (k : Nat) : UInt8 := l.getD k 0
theorem byteK_at {l : List UInt8} {k : Nat} (hk : k < l.length) : l[k]? = some (byteK l k) := by
 rw [byteK, List.getD_eq_getElem?_getD, List.getElem?_eq_getElem hk]
 rfl
theorem byteK_val {l : List UInt8} {k : Nat} (hk : k < l.length) : keyV l / 256 ^ k % 256 = (byteK l k).toNat := by
 rw [keyV_at l k hk, byteK, List.getD_eq_getElem?_getD, List.getElem?_eq_getElem hk]
 rfl
end Go.Proofs.YtbiijdboolpaeaaGreatDoor
