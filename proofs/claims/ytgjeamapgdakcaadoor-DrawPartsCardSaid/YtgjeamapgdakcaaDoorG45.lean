import Derived.Test.YtgjeamapgdakcaaDoorG44
import Derived.Test.YtgjeamapgdakcaaDoorG21
/-
  OPENING a law's argument that is a source (api.Draws, by value).
-/
set_option linter.unusedVariables false
namespace Go.Proofs.YtgjeamapgdakcaaDoor
open Go.ChangeShapes Go.WideShapes Go.ChangeAt Go.RowKit Go.Deep

theorem cellsDr : Tryd.prog.cellsOf 27 = 33 := by kernel_rfl
set_option maxRecDepth 1000000 in
theorem dr_fields : ∃ f0 f1, Tryd.prog.underlying 27 = some (.struct #[f0, f1]) ∧ (f0.type = 24 ∧ f0.offset = 0) ∧ (f1.type = 25 ∧ f1.offset = 32) := ⟨_, _, rfl, ⟨rfl, rfl⟩, ⟨rfl, rfl⟩⟩
theorem cellsQuadD : Tryd.prog.cellsOf 25 = 1 := by kernel_rfl

section
variable {H : Type} {enc : TypeId × Value → H} {w : World} {base : Nat} {spare : Nat → Bool} {held : Bool} {fuel : Nat} {x : DataW H × List MemPlace}

theorem open_bytes32 {cs : List Value} (h : DataW.trod enc Tryd.prog w base spare held fuel 24 cs = some x) : ∃ l : List UInt8, l.length = 32 ∧ cs = l.map bv := by
  obtain ⟨xs, m, _, _, hcl, hxl, hi⟩ := DataW.trod_array Tryd.underlying24 h
  rw [cellsKey] at hcl
  have each : ∀ i, i < 32 → ∃ z : Int, cs[i]? = some (.int .u8 z) ∧ (Lit.int .u8 z).wf = true := by
    intro i hi8
    have h1 := hi i hi8
    rw [byteCells, Nat.mul_one, List.getElem?_eq_getElem (show i < xs.length by omega)] at h1
    obtain ⟨z, hc, _, hz⟩ := DataW.trod_int Tryd.underlying5 h1
    have := congrArg (·[0]?) hc
    exact ⟨z, by simpa [List.getElem?_take, List.getElem?_drop] using this, hz⟩
  refine ⟨cs.map fun v => match v with | .int _ z => UInt8.ofNat z.toNat | _ => 0, by simp [hcl], ?_⟩
  apply List.ext_getElem?
  intro i
  by_cases hi8 : i < 32
  · obtain ⟨z, hz, hw⟩ := each i hi8
    have hb : 0 ≤ z ∧ z ≤ 255 := by simpa [Lit.wf, IntKind.min, IntKind.max, IntKind.signed, IntKind.bits] using hw
    simp only [List.map_map, List.getElem?_map, hz, Option.map_some, Function.comp]
    congr 1
    show _ = Value.int .u8 ((UInt8.ofNat z.toNat).toNat : Int)
    rw [UInt8.toNat_ofNat', Nat.mod_eq_of_lt (by omega), Int.toNat_of_nonneg hb.1]
  · rw [List.getElem?_eq_none (by omega), List.getElem?_eq_none (by simp; omega)]

set_option maxRecDepth 1000000 in
theorem open_draws {b0 : Nat} {v : Value} {d : DataW H} {p : List MemPlace} (hv : Value.okWide Tryd.prog w .any b0 27 v) (h : DataW.Trod enc Tryd.prog w base spare held 27 v d p) :
    ∃ (s : List UInt8) (N : Nat), v = .agg (drC s N) ∧ s.length = 32 ∧ N < 18446744073709551616 := by
  obtain ⟨f0, f1, hu, ⟨t0, o0⟩, ⟨t1, o1⟩⟩ := dr_fields
  obtain ⟨cs, rfl, hsz⟩ := okWide_struct hu hv
  obtain ⟨fuel, hf⟩ := h
  obtain ⟨xs, m, _, _, hcl, hxl, hg⟩ := DataW.trod_struct hu hf
  have h0 := hg 0 f0 rfl
  have h1 := hg 1 f1 rfl
  simp only [List.size_toArray, List.length_cons, List.length_nil] at hxl
  rw [t0, o0, cellsKey, List.drop_zero, List.getElem?_eq_getElem (by omega)] at h0
  rw [t1, o1, cellsQuadD, List.getElem?_eq_getElem (by omega)] at h1
  rw [cellsDr] at hsz
  obtain ⟨l, hl, hl8⟩ := open_bytes32 h0
  obtain ⟨z, hz, _, hzw⟩ := DataW.trod_int Tryd.underlying25 h1
  have hzb : 0 ≤ z ∧ z ≤ 18446744073709551615 := by simpa [Lit.wf, IntKind.min, IntKind.max, IntKind.signed, IntKind.bits] using hzw
  refine ⟨l, z.toNat, ?_, hl, by omega⟩
  have e : cs.toList = cs.toList.take 32 ++ List.take 1 (List.drop 32 cs.toList) := by
    conv => lhs; rw [← List.take_append_drop 32 cs.toList]
    congr 1
    rw [List.take_of_length_le (by simp; omega)]
  have e0 : cs.toList.take 32 = l.map bv := hl8
  have e1 : List.take 1 (List.drop 32 cs.toList) = [.int .u64 z] := hz
  rw [e0, e1] at e
  congr 1
  apply Array.ext'
  rw [e, drC_list, Int.toNat_of_nonneg hzb.1]
end

end Go.Proofs.YtgjeamapgdakcaaDoor

