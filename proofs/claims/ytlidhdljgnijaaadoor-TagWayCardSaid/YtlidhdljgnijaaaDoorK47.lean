import Derived.Test.YtlidhdljgnijaaaDoorK44
import Derived.Test.YtlidhdljgnijaaaDoorK09
import Derived.Test.YtlidhdljgnijaaaDoorK45
import Derived.Test.YtlidhdljgnijaaaDoorK18
/-
  OPENING a law's argument that is an array of bytes (by value), or one byte.
-/
set_option linter.unusedVariables false
namespace Go.Proofs.YtlidhdljgnijaaaDoor
open Go.ChangeShapes Go.WideShapes Go.ChangeAt Go.RowKit Go.Deep

theorem byte_of (z : Int) (h1 : 0 ≤ z) (h2 : z ≤ 255) : ∃ x : UInt8, z = (x.toNat : Int) :=
  ⟨UInt8.ofNat z.toNat, by rw [UInt8.toNat_ofNat', Nat.mod_eq_of_lt (by omega), Int.toNat_of_nonneg h1]⟩
section
variable {H : Type} {enc : TypeId × Value → H} {w : World} {base : Nat} {spare : Nat → Bool} {held : Bool}

set_option maxRecDepth 100000 in
theorem open_arr {n : Nat} {t : TypeId} (hu : Tryd.prog.underlying t = some (.array n 5)) (hc : Tryd.prog.cellsOf t = n) {b0 : Nat} {v : Value} {d : DataW H} {p : List MemPlace} (hv : Value.okWide Tryd.prog w .any b0 t v) (h : DataW.Trod enc Tryd.prog w base spare held t v d p) :
    ∃ l : List UInt8, v = .agg (l.map bv).toArray ∧ l.length = n := by
  simp only [Value.okWide, hu] at hv
  obtain ⟨cs, rfl, hsz, _⟩ := hv
  obtain ⟨fuel, hf⟩ := h
  obtain ⟨xs, m, _, _, hcl, hxl, hi⟩ := DataW.trod_array hu hf
  have hcs : (Value.agg cs).cells.toList = cs.toList := rfl
  rw [hcs] at hcl hi
  rw [hc] at hsz
  have each : ∀ i, i < n → ∃ z : Int, cs.toList[i]? = some (.int .u8 z) ∧ (Lit.int .u8 z).wf = true := by
    intro i hi8
    have h1 := hi i hi8
    rw [byteCells, Nat.mul_one, List.getElem?_eq_getElem (show i < xs.length by omega)] at h1
    obtain ⟨z, hc, _, hz⟩ := DataW.trod_int Tryd.underlying5 h1
    have := congrArg (·[0]?) hc
    exact ⟨z, by simpa [List.getElem?_take, List.getElem?_drop] using this, hz⟩
  refine ⟨cs.toList.map fun v => match v with | .int _ z => UInt8.ofNat z.toNat | _ => 0, ?_, by simp [hsz]⟩
  congr 1
  apply Array.ext'
  apply List.ext_getElem?
  intro i
  by_cases hi8 : i < n
  · obtain ⟨z, hz, hw⟩ := each i hi8
    have hb : 0 ≤ z ∧ z ≤ 255 := by simpa [Lit.wf, IntKind.min, IntKind.max, IntKind.signed, IntKind.bits] using hw
    simp only [List.map_map, List.getElem?_map, hz, Option.map_some, Function.comp]
    congr 1
    show _ = Value.int .u8 ((UInt8.ofNat z.toNat).toNat : Int)
    rw [UInt8.toNat_ofNat', Nat.mod_eq_of_lt (by omega), Int.toNat_of_nonneg hb.1]
  · rw [List.getElem?_eq_none (by simp; omega), List.getElem?_eq_none (by simp; omega)]
end

end Go.Proofs.YtlidhdljgnijaaaDoor

/-
  OPENING a law's argument that is a key (api.Key, by value), or one byte.
-/
set_option linter.unusedVariables false
namespace Go.Proofs.YtlidhdljgnijaaaDoor
open Go.ChangeShapes Go.WideShapes Go.ChangeAt Go.RowKit Go.Deep

theorem cellsKey : Tryd.prog.cellsOf 36 = 32 := by kernel_rfl

section
variable {H : Type} {enc : TypeId × Value → H} {w : World} {base : Nat} {spare : Nat → Bool} {held : Bool}

set_option maxRecDepth 1000000 in
theorem open_key {b0 : Nat} {v : Value} {d : DataW H} {p : List MemPlace} (hv : Value.okWide Tryd.prog w .any b0 36 v) (h : DataW.Trod enc Tryd.prog w base spare held 36 v d p) :
    ∃ l : List UInt8, v = .agg (l.map bv).toArray ∧ l.length = 32 := by
  simp only [Value.okWide, Tryd.underlying36] at hv
  obtain ⟨cs, rfl, hsz, _⟩ := hv
  obtain ⟨fuel, hf⟩ := h
  obtain ⟨xs, m, _, _, hcl, hxl, hi⟩ := DataW.trod_array Tryd.underlying36 hf
  have hcs : (Value.agg cs).cells.toList = cs.toList := rfl
  rw [hcs] at hcl hi
  rw [cellsKey] at hsz
  have each : ∀ i, i < 32 → ∃ z : Int, cs.toList[i]? = some (.int .u8 z) ∧ (Lit.int .u8 z).wf = true := by
    intro i hi8
    have h1 := hi i hi8
    rw [byteCells, Nat.mul_one, List.getElem?_eq_getElem (show i < xs.length by omega)] at h1
    obtain ⟨z, hc, _, hz⟩ := DataW.trod_int Tryd.underlying5 h1
    have := congrArg (·[0]?) hc
    exact ⟨z, by simpa [List.getElem?_take, List.getElem?_drop] using this, hz⟩
  refine ⟨cs.toList.map fun v => match v with | .int _ z => UInt8.ofNat z.toNat | _ => 0, ?_, by simp [hsz]⟩
  congr 1
  apply Array.ext'
  apply List.ext_getElem?
  intro i
  by_cases hi8 : i < 32
  · obtain ⟨z, hz, hw⟩ := each i hi8
    have hb : 0 ≤ z ∧ z ≤ 255 := by simpa [Lit.wf, IntKind.min, IntKind.max, IntKind.signed, IntKind.bits] using hw
    simp only [List.map_map, List.getElem?_map, hz, Option.map_some, Function.comp]
    congr 1
    show _ = Value.int .u8 ((UInt8.ofNat z.toNat).toNat : Int)
    rw [UInt8.toNat_ofNat', Nat.mod_eq_of_lt (by omega), Int.toNat_of_nonneg hb.1]
  · rw [List.getElem?_eq_none (by simp; omega), List.getElem?_eq_none (by simp; omega)]
end

end Go.Proofs.YtlidhdljgnijaaaDoor

