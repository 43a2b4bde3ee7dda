/-
  OPENING a law's argument that is a number of five parts (by value).
-/
import Derived.Test.YtimgnpcojamafaaOpenArr
import Derived.Test.YtimgnpcojamafaaFeD
import Derived.Test.YtimgnpcojamafaaFeH
set_option linter.unusedVariables false
namespace Go.Proofs.Ytimgnpcojamafaa
open Go.ChangeShapes Go.WideShapes Go.ChangeAt Go.RowKit Go.Deep
section
variable {H : Type} {enc : TypeId × Value → H} {w : World} {base : Nat} {spare : Nat → Bool} {held : Bool}

set_option maxRecDepth 100000 in
theorem open_fe {b0 : Nat} {v : Value} {d : DataW H} {p : List MemPlace} (hv : Value.okWide Try.prog w .any b0 35 v) (h : DataW.Trod enc Try.prog w base spare held 35 v d p) :
    ∃ f : Fe5, v = .agg (feC f) ∧ WordF f := by
  have hu := Try.underlying35
  have hc : Try.prog.cellsOf 35 = 5 := by kernel_rfl
  simp only [Value.okWide, hu] at hv
  obtain ⟨cs, rfl, hsz, _⟩ := hv
  obtain ⟨fuel, hf⟩ := h
  obtain ⟨xs, m, _, _, hcl, hxl, hi⟩ := DataW.trod_array hu hf
  have hcs : (Value.agg cs).cells.toList = cs.toList := rfl
  rw [hcs] at hcl hi
  rw [hc] at hsz
  have each : ∀ i, i < 5 → ∃ z : Nat, cs.toList[i]? = some (.int .u64 (z : Int)) ∧ z < 18446744073709551616 := by
    intro i hi8
    have h1 := hi i hi8
    rw [quadCells, Nat.mul_one, List.getElem?_eq_getElem (show i < xs.length by omega)] at h1
    obtain ⟨z, hc, _, hz⟩ := DataW.trod_int Try.underlying33 h1
    have h2 := congrArg (·[0]?) hc
    have hb : 0 ≤ z ∧ z ≤ 18446744073709551615 := by simpa [Lit.wf, IntKind.min, IntKind.max, IntKind.signed, IntKind.bits] using hz
    obtain ⟨y, rfl⟩ := Int.eq_ofNat_of_zero_le hb.1
    exact ⟨y, by simpa [List.getElem?_take, List.getElem?_drop] using h2, by omega⟩
  obtain ⟨x0, e0, h0⟩ := each 0 (by omega)
  obtain ⟨x1, e1, h1⟩ := each 1 (by omega)
  obtain ⟨x2, e2, h2⟩ := each 2 (by omega)
  obtain ⟨x3, e3, h3⟩ := each 3 (by omega)
  obtain ⟨x4, e4, h4⟩ := each 4 (by omega)
  refine ⟨⟨x0, x1, x2, x3, x4⟩, ?_, h0, h1, h2, h3, h4⟩
  congr 1
  apply Array.ext'
  apply List.ext_getElem?
  intro i
  by_cases hi5 : i < 5
  · have h : i = 0 ∨ i = 1 ∨ i = 2 ∨ i = 3 ∨ i = 4 := by omega
    rcases h with rfl | rfl | rfl | rfl | rfl
    · rw [e0]; rfl
    · rw [e1]; rfl
    · rw [e2]; rfl
    · rw [e3]; rfl
    · rw [e4]; rfl
  · rw [List.getElem?_eq_none (by simp; omega), List.getElem?_eq_none (by simp [feC]; omega)]
end

end Go.Proofs.Ytimgnpcojamafaa
