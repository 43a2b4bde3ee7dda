import Derived.Test.YtbiijdboolpaeaaDoorG48
import Derived.Test.YtbiijdboolpaeaaDoorG05
import Derived.Lib.LaidTab
import Derived.Stop.LaidErr
import Derived.Test.YtbiijdboolpaeaaDoorG04
set_option linter.unusedVariables false
namespace Go.Proofs.YtbiijdboolpaeaaDoor
open Go.ChangeShapes Go.WideShapes Go.ChangeAt Go.RowKit Go.Deep
theorem cells64w : Tryd.prog.cellsOf 136 = 64 := by kernel_rfl
section
variable {H : Type} {enc : TypeId × Value → H} {w : World} {base : Nat} {spare : Nat → Bool} {held : Bool} {fuel : Nat} {x : DataW H × List MemPlace}
end
end Go.Proofs.YtbiijdboolpaeaaDoor
namespace Go.Proofs.YtbiijdboolpaeaaDoor
open Go.ChangeShapes Go.WideShapes Go.ChangeAt Go.RowKit Go.Deep
def zsK : List Int := [1116352408, 1899447441, 3049323471, 3921009573, 961987163, 1508970993, 2453635748, 2870763221, 3624381080, 310598401, 607225278, 1426881987, 1925078388, 2162078206, 2614888103, 3248222580, 3835390401, 4022224774, 264347078, 604807628, 770255983, 1249150122, 1555081692, 1996064986, 2554220882, 2821834349, 2952996808, 3210313671, 3336571891, 3584528711, 113926993, 338241895, 666307205, 773529912, 1294757372, 1396182291, 1695183700, 1986661051, 2177026350, 2456956037, 2730485921, 2820302411, 3259730800, 3345764771, 3516065817, 3600352804, 4094571909, 275423344, 430227734, 506948616, 659060556, 883997877, 958139571, 1322822218, 1537002063, 1747873779, 1955562222, 2024104815, 2227730452, 2361852424, 2428436474, 2756734187, 3204031479, 3329325298]
theorem zsK_of : kU.map (fun x => (x.toNat : Int)) = zsK := by decide +kernel
theorem zsK_at {i : Nat} {x : UInt32} (h : kU[i]? = some x) : i < zsK.length ∧ zsK.getD i 0 = (x.toNat : Int) := by
 have hi : i < kU.length := (List.getElem?_eq_some_iff.1 h).1
 refine ⟨by rw [← zsK_of]; simpa using hi, ?_⟩
 rw [← zsK_of, List.getD_eq_getElem?_getD, List.getElem?_map, h]
 rfl
theorem gC : Tryd.prog.globalNamed "coterie/sha.cubeRoots" = some 0 := by kernel_rfl
theorem gCType : (Tryd.prog.globals[0]?).map (·.type) = some 136 := by kernel_rfl
theorem ctab_of {W : World} {rest : List (String × DataW Unit)} (h : laidMet Tryd.prog (("coterie/sha.cubeRoots", Lib.tabData .u32 zsK) :: rest) W) : CTab W := fun i x hx => by
 obtain ⟨h1, h2⟩ := zsK_at hx
 rw [← h2]
 exact (Lib.tabIs_of_head gC gCType Tryd.underlying136 Tryd.underlying72 word_cells cells64w h).cell gC i h1
end Go.Proofs.YtbiijdboolpaeaaDoor
namespace Go.Proofs.YtbiijdboolpaeaaDoor
open Go.ChangeShapes Go.WideShapes Go.ChangeAt Go.RowKit Go.Deep
section
variable {H : Type} {enc : TypeId × Value → H} {w : World} {base : Nat} {spare : Nat → Bool} {held : Bool}
end
end Go.Proofs.YtbiijdboolpaeaaDoor
namespace Go.Proofs.YtbiijdboolpaeaaDoor
open Go.ChangeShapes Go.WideShapes Go.ChangeAt Go.RowKit Go.Deep
theorem cellsKey : Tryd.prog.cellsOf 23 = 32 := by kernel_rfl
section
variable {H : Type} {enc : TypeId × Value → H} {w : World} {base : Nat} {spare : Nat → Bool} {held : Bool}
set_option maxRecDepth 1000000 in
theorem open_key {b0 : Nat} {v : Value} {d : DataW H} {p : List MemPlace} (hv : Value.okWide Tryd.prog w .any b0 23 v) (h : DataW.Trod enc Tryd.prog w base spare held 23 v d p) :
  ∃ l : List UInt8, v = .agg (l.map bv).toArray ∧ l.length = 32 := by
 simp only [Value.okWide, Tryd.underlying23] at hv
 obtain ⟨cs, rfl, hsz, _⟩ := hv
 obtain ⟨fuel, hf⟩ := h
 obtain ⟨xs, m, _, _, hcl, hxl, hi⟩ := DataW.trod_array Tryd.underlying23 hf
 have hcs : (Value.agg cs).cells.toList = cs.toList := rfl
 rw [hcs] at hcl hi
 rw [cellsKey] at hsz
 have each : ∀ i, i < 32 → ∃ z : Int, cs.toList[i]? = some (.int .u8 z) ∧ (Lit.int .u8 z).wf = true := by
  intro i hi8
  have h1 := hi i hi8
  rw [byteCells, Nat.mul_one, List.getElem?_eq_getElem (show i < xs.length by omega)] at h1
  obtain ⟨z, hc, _, hz⟩ := DataW.trod_int Tryd.underlying5 h1
  have := congrArg (·[0]?) hc
  exact ⟨z, by simpa [List.getElem?_take, List.getElem?_drop] using this, hz⟩
 refine ⟨cs.toList.map fun v => match v with | .int _ z => UInt8.ofNat z.toNat | _ => 0, ?_, by simp [hsz]⟩
 congr 1
 apply Array.ext'
 apply List.ext_getElem?
 intro i
 by_cases hi8 : i < 32
 ·
  obtain ⟨z, hz, hw⟩ := each i hi8
  have hb : 0 ≤ z ∧ z ≤ 255 := by simpa [Lit.wf, IntKind.min, IntKind.max, IntKind.signed, IntKind.bits] using hw
  simp only [List.map_map, List.getElem?_map, hz, Option.map_some, Function.comp]
  congr 1
  show _ = Value.int .u8 ((UInt8.ofNat z.toNat).toNat : Int)
  rw [UInt8.toNat_ofNat', Nat.mod_eq_of_lt (by omega), Int.toNat_of_nonneg hb.1]
 ·
  rw [List.getElem?_eq_none (by simp; omega), List.getElem?_eq_none (by simp; omega)]
end
end Go.Proofs.YtbiijdboolpaeaaDoor
