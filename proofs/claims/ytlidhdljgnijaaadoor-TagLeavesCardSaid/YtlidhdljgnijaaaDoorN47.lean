import Derived.Test.YtlidhdljgnijaaaDoorN46
import Derived.Test.YtlidhdljgnijaaaDoorN26
import Derived.Lib.LaidTab
import Derived.Test.YtlidhdljgnijaaaDoorN24
import Derived.Stop.LaidErr
/-
  OPENING a law's argument that is a sum that is not done (api.Sha, by value); the tables of k that the rows list.
-/
set_option linter.unusedVariables false
namespace Go.Proofs.YtlidhdljgnijaaaDoor
open Go.ChangeShapes Go.WideShapes Go.ChangeAt Go.RowKit Go.Deep

theorem cells64w : Tryd.prog.cellsOf 130 = 64 := by kernel_rfl
section
variable {H : Type} {enc : TypeId × Value → H} {w : World} {base : Nat} {spare : Nat → Bool} {held : Bool} {fuel : Nat} {x : DataW H × List MemPlace}

end

end Go.Proofs.YtlidhdljgnijaaaDoor

/-
  THE TABLES OF k, out of what a row lists.
-/
set_option linter.unusedVariables false
namespace Go.Proofs.YtlidhdljgnijaaaDoor
open Go.ChangeShapes Go.WideShapes Go.ChangeAt Go.RowKit Go.Deep

def zsK : List Int := [1116352408, 1899447441, 3049323471, 3921009573, 961987163, 1508970993, 2453635748, 2870763221, 3624381080, 310598401, 607225278, 1426881987, 1925078388, 2162078206, 2614888103, 3248222580, 3835390401, 4022224774, 264347078, 604807628, 770255983, 1249150122, 1555081692, 1996064986, 2554220882, 2821834349, 2952996808, 3210313671, 3336571891, 3584528711, 113926993, 338241895, 666307205, 773529912, 1294757372, 1396182291, 1695183700, 1986661051, 2177026350, 2456956037, 2730485921, 2820302411, 3259730800, 3345764771, 3516065817, 3600352804, 4094571909, 275423344, 430227734, 506948616, 659060556, 883997877, 958139571, 1322822218, 1537002063, 1747873779, 1955562222, 2024104815, 2227730452, 2361852424, 2428436474, 2756734187, 3204031479, 3329325298]
theorem zsK_of : kU.map (fun x => (x.toNat : Int)) = zsK := by decide +kernel
theorem zsK_at {i : Nat} {x : UInt32} (h : kU[i]? = some x) : i < zsK.length ∧ zsK.getD i 0 = (x.toNat : Int) := by
  have hi : i < kU.length := (List.getElem?_eq_some_iff.1 h).1
  refine ⟨by rw [← zsK_of]; simpa using hi, ?_⟩
  rw [← zsK_of, List.getD_eq_getElem?_getD, List.getElem?_map, h]
  rfl

theorem gC : Tryd.prog.globalNamed "coterie/sha.cubeRoots" = some 1 := by kernel_rfl
theorem gCType : (Tryd.prog.globals[1]?).map (·.type) = some 130 := by kernel_rfl
theorem ctab_of {W : World} {rest : List (String × DataW Unit)} (h : laidMet Tryd.prog (("coterie/sha.cubeRoots", Lib.tabData .u32 zsK) :: rest) W) : CTab W := fun i x hx => by
  obtain ⟨h1, h2⟩ := zsK_at hx
  rw [← h2]
  exact (Lib.tabIs_of_head gC gCType Tryd.underlying130 Tryd.underlying93 word_cells cells64w h).cell gC i h1
end Go.Proofs.YtlidhdljgnijaaaDoor

