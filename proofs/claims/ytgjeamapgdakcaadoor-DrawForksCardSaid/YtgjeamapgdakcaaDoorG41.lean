import Derived.Test.YtgjeamapgdakcaaDoorG40
import Derived.Test.YtgjeamapgdakcaaDoorG13
import Derived.Lib.LaidTab
/-
  OPENING a law's argument that is a sum that is not done (api.Sha, by value); the tables of k that the rows list.
-/
set_option linter.unusedVariables false
namespace Go.Proofs.YtgjeamapgdakcaaDoor
open Go.ChangeShapes Go.WideShapes Go.ChangeAt Go.RowKit Go.Deep

theorem cells8 : Tryd.prog.cellsOf 57 = 8 := by kernel_rfl
theorem cellsQuad1 : Tryd.prog.cellsOf 25 = 1 := by kernel_rfl
theorem cells64w : Tryd.prog.cellsOf 75 = 64 := by kernel_rfl
theorem cellsSha : Tryd.prog.cellsOf 59 = 10 := by kernel_rfl
set_option maxRecDepth 1000000 in
theorem sha_fields : ∃ f0 f1 f2, Tryd.prog.underlying 59 = some (.struct #[f0, f1, f2]) ∧ (f0.type = 57 ∧ f0.offset = 0) ∧ (f1.type = 25 ∧ f1.offset = 8) ∧ (f2.type = 45 ∧ f2.offset = 9) := ⟨_, _, _, rfl, ⟨rfl, rfl⟩, ⟨rfl, rfl⟩, ⟨rfl, rfl⟩⟩

section
variable {H : Type} {enc : TypeId × Value → H} {w : World} {base : Nat} {spare : Nat → Bool} {held : Bool} {fuel : Nat} {x : DataW H × List MemPlace}

theorem open_words8 {cs : List Value} (h : DataW.trod enc Tryd.prog w base spare held fuel 57 cs = some x) : ∃ l : List UInt32, l.length = 8 ∧ cs = l.map wv := by
  obtain ⟨xs, m, _, _, hcl, hxl, hi⟩ := DataW.trod_array Tryd.underlying57 h
  rw [cells8] at hcl
  have each : ∀ i, i < 8 → ∃ z : Int, cs[i]? = some (.int .u32 z) ∧ (Lit.int .u32 z).wf = true := by
    intro i hi8
    have h1 := hi i hi8
    rw [word_cells, Nat.mul_one, List.getElem?_eq_getElem (show i < xs.length by omega)] at h1
    obtain ⟨z, hc, _, hz⟩ := DataW.trod_int Tryd.underlying56 h1
    have := congrArg (·[0]?) hc
    exact ⟨z, by simpa [List.getElem?_take, List.getElem?_drop] using this, hz⟩
  refine ⟨cs.map fun v => match v with | .int _ z => UInt32.ofNat z.toNat | _ => 0, by simp [hcl], ?_⟩
  apply List.ext_getElem?
  intro i
  by_cases hi8 : i < 8
  · obtain ⟨z, hz, hw⟩ := each i hi8
    have hb : 0 ≤ z ∧ z ≤ 4294967295 := by simpa [Lit.wf, IntKind.min, IntKind.max, IntKind.signed, IntKind.bits] using hw
    simp only [List.map_map, List.getElem?_map, hz, Option.map_some, Function.comp]
    congr 1
    show _ = Value.int .u32 ((UInt32.ofNat z.toNat).toNat : Int)
    rw [UInt32.toNat_ofNat', Nat.mod_eq_of_lt (by omega), Int.toNat_of_nonneg hb.1]
  · rw [List.getElem?_eq_none (by omega), List.getElem?_eq_none (by simp; omega)]

set_option maxRecDepth 1000000 in
theorem open_sha {b0 : Nat} {v : Value} {d : DataW H} {p : List MemPlace} (hs : ∀ b, spare b = true) (hv : Value.okWide Tryd.prog w .any b0 59 v) (h : DataW.Trod enc Tryd.prog w base spare held 59 v d p) :
    ∃ (h : List UInt32) (n : Nat) (A : Option Addr) (k c : Nat) (rest : List UInt8), v = .agg (shaL h n (.slice A k c)).toArray ∧ h.length = 8 ∧ n < 18446744073709551616 ∧ k ≤ c ∧ c ≤ maxLen ∧ Rd w w.heap.size A k (rest.map bv) := by
  obtain ⟨f0, f1, f2, hu, ⟨t0, o0⟩, ⟨t1, o1⟩, ⟨t2, o2⟩⟩ := sha_fields
  obtain ⟨cs, rfl, hsz⟩ := okWide_struct hu hv
  obtain ⟨fuel, hf⟩ := h
  obtain ⟨xs, m, _, _, hcl, hxl, hg⟩ := DataW.trod_struct hu hf
  have h0 := hg 0 f0 rfl
  have h1 := hg 1 f1 rfl
  have h2 := hg 2 f2 rfl
  simp only [List.size_toArray, List.length_cons, List.length_nil] at hxl
  rw [t0, o0, cells8, List.drop_zero, List.getElem?_eq_getElem (by omega)] at h0
  rw [t1, o1, cellsQuad1, List.getElem?_eq_getElem (by omega)] at h1
  rw [t2, o2, cellsText, List.getElem?_eq_getElem (by omega)] at h2
  rw [cellsSha] at hsz
  obtain ⟨l, hl, hl8⟩ := open_words8 h0
  obtain ⟨z, hz, _, hzw⟩ := DataW.trod_int Tryd.underlying25 h1
  have hzb : 0 ≤ z ∧ z ≤ 18446744073709551615 := by simpa [Lit.wf, IntKind.min, IntKind.max, IntKind.signed, IntKind.bits] using hzw
  have hform : ∃ A n c, (List.take 1 (List.drop 9 (Value.agg cs).cells.toList)) = [.slice A n c] := by
    rcases open_ints Tryd.underlying45 Tryd.underlying5 cellsByte h2 with ⟨hcs, _⟩ | ⟨a', l', cap', zs, hcs, _⟩
    · exact ⟨_, _, _, hcs⟩
    · exact ⟨_, _, _, hcs⟩
  obtain ⟨A, k, c, hA⟩ := hform
  rw [hA] at h2
  obtain ⟨hkc, hcm, rest, hr⟩ := open_bytes hs h2
  refine ⟨l, z.toNat, A, k, c, rest, ?_, hl, by omega, hkc, hcm, hr⟩
  have e : cs.toList = cs.toList.take 8 ++ (List.take 1 (List.drop 8 cs.toList) ++ List.take 1 (List.drop 9 cs.toList)) := by
    conv => lhs; rw [← List.take_append_drop 8 cs.toList]
    congr 1
    conv => lhs; rw [← List.take_append_drop 1 (cs.toList.drop 8)]
    congr 1
    rw [List.drop_drop, List.take_of_length_le (by simp; omega)]
  have e0 : cs.toList.take 8 = l.map wv := hl8
  have e1 : List.take 1 (List.drop 8 cs.toList) = [.int .u64 z] := hz
  have e2 : List.take 1 (List.drop 9 cs.toList) = [.slice A k c] := hA
  rw [e0, e1, e2] at e
  congr 1
  apply Array.ext'
  rw [e]
  simp [shaL, Int.toNat_of_nonneg hzb.1]
end

end Go.Proofs.YtgjeamapgdakcaaDoor

