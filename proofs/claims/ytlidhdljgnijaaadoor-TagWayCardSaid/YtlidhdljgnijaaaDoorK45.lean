import Derived.Test.YtlidhdljgnijaaaDoorK44
import Derived.Test.YtlidhdljgnijaaaDoorK29
import Derived.Lib.LaidTab
import Derived.Test.YtlidhdljgnijaaaDoorK27
import Derived.Stop.LaidErr
/-
  OPENING a law's argument that is a sum that is not done (api.Sha, by value); the tables of k that the rows list.
-/
set_option linter.unusedVariables false
namespace Go.Proofs.YtlidhdljgnijaaaDoor
open Go.ChangeShapes Go.WideShapes Go.ChangeAt Go.RowKit Go.Deep

theorem cells8 : Tryd.prog.cellsOf 94 = 8 := by kernel_rfl
theorem cellsQuad1 : Tryd.prog.cellsOf 57 = 1 := by kernel_rfl
theorem cells64w : Tryd.prog.cellsOf 130 = 64 := by kernel_rfl
theorem cellsSha : Tryd.prog.cellsOf 96 = 10 := by kernel_rfl
set_option maxRecDepth 1000000 in
theorem sha_fields : ∃ f0 f1 f2, Tryd.prog.underlying 96 = some (.struct #[f0, f1, f2]) ∧ (f0.type = 94 ∧ f0.offset = 0) ∧ (f1.type = 57 ∧ f1.offset = 8) ∧ (f2.type = 41 ∧ f2.offset = 9) := ⟨_, _, _, rfl, ⟨rfl, rfl⟩, ⟨rfl, rfl⟩, ⟨rfl, rfl⟩⟩

section
variable {H : Type} {enc : TypeId × Value → H} {w : World} {base : Nat} {spare : Nat → Bool} {held : Bool} {fuel : Nat} {x : DataW H × List MemPlace}

theorem open_words8 {cs : List Value} (h : DataW.trod enc Tryd.prog w base spare held fuel 94 cs = some x) : ∃ l : List UInt32, l.length = 8 ∧ cs = l.map wv := by
  obtain ⟨xs, m, _, _, hcl, hxl, hi⟩ := DataW.trod_array Tryd.underlying94 h
  rw [cells8] at hcl
  have each : ∀ i, i < 8 → ∃ z : Int, cs[i]? = some (.int .u32 z) ∧ (Lit.int .u32 z).wf = true := by
    intro i hi8
    have h1 := hi i hi8
    rw [word_cells, Nat.mul_one, List.getElem?_eq_getElem (show i < xs.length by omega)] at h1
    obtain ⟨z, hc, _, hz⟩ := DataW.trod_int Tryd.underlying93 h1
    have := congrArg (·[0]?) hc
    exact ⟨z, by simpa [List.getElem?_take, List.getElem?_drop] using this, hz⟩
  refine ⟨cs.map fun v => match v with | .int _ z => UInt32.ofNat z.toNat | _ => 0, by simp [hcl], ?_⟩
  apply List.ext_getElem?
  intro i
  by_cases hi8 : i < 8
  · obtain ⟨z, hz, hw⟩ := each i hi8
    have hb : 0 ≤ z ∧ z ≤ 4294967295 := by simpa [Lit.wf, IntKind.min, IntKind.max, IntKind.signed, IntKind.bits] using hw
    simp only [List.map_map, List.getElem?_map, hz, Option.map_some, Function.comp]
    congr 1
    show _ = Value.int .u32 ((UInt32.ofNat z.toNat).toNat : Int)
    rw [UInt32.toNat_ofNat', Nat.mod_eq_of_lt (by omega), Int.toNat_of_nonneg hb.1]
  · rw [List.getElem?_eq_none (by omega), List.getElem?_eq_none (by simp; omega)]

set_option maxRecDepth 1000000 in
theorem open_sha {b0 : Nat} {v : Value} {d : DataW H} {p : List MemPlace} (hs : ∀ b, spare b = true) (hv : Value.okWide Tryd.prog w .any b0 96 v) (h : DataW.Trod enc Tryd.prog w base spare held 96 v d p) :
    ∃ (h : List UInt32) (n : Nat) (A : Option Addr) (k c : Nat) (rest : List UInt8), v = .agg (shaL h n (.slice A k c)).toArray ∧ h.length = 8 ∧ n < 18446744073709551616 ∧ k ≤ c ∧ c ≤ maxLen ∧ Rd w w.heap.size A k (rest.map bv) := by
  obtain ⟨f0, f1, f2, hu, ⟨t0, o0⟩, ⟨t1, o1⟩, ⟨t2, o2⟩⟩ := sha_fields
  obtain ⟨cs, rfl, hsz⟩ := okWide_struct hu hv
  obtain ⟨fuel, hf⟩ := h
  obtain ⟨xs, m, _, _, hcl, hxl, hg⟩ := DataW.trod_struct hu hf
  have h0 := hg 0 f0 rfl
  have h1 := hg 1 f1 rfl
  have h2 := hg 2 f2 rfl
  simp only [List.size_toArray, List.length_cons, List.length_nil] at hxl
  rw [t0, o0, cells8, List.drop_zero, List.getElem?_eq_getElem (by omega)] at h0
  rw [t1, o1, cellsQuad1, List.getElem?_eq_getElem (by omega)] at h1
  rw [t2, o2, cellsText, List.getElem?_eq_getElem (by omega)] at h2
  rw [cellsSha] at hsz
  obtain ⟨l, hl, hl8⟩ := open_words8 h0
  obtain ⟨z, hz, _, hzw⟩ := DataW.trod_int Tryd.underlying57 h1
  have hzb : 0 ≤ z ∧ z ≤ 18446744073709551615 := by simpa [Lit.wf, IntKind.min, IntKind.max, IntKind.signed, IntKind.bits] using hzw
  have hform : ∃ A n c, (List.take 1 (List.drop 9 (Value.agg cs).cells.toList)) = [.slice A n c] := by
    rcases open_ints Tryd.underlying41 Tryd.underlying5 cellsByte h2 with ⟨hcs, _⟩ | ⟨a', l', cap', zs, hcs, _⟩
    · exact ⟨_, _, _, hcs⟩
    · exact ⟨_, _, _, hcs⟩
  obtain ⟨A, k, c, hA⟩ := hform
  rw [hA] at h2
  obtain ⟨hkc, hcm, rest, hr⟩ := open_bytes hs h2
  refine ⟨l, z.toNat, A, k, c, rest, ?_, hl, by omega, hkc, hcm, hr⟩
  have e : cs.toList = cs.toList.take 8 ++ (List.take 1 (List.drop 8 cs.toList) ++ List.take 1 (List.drop 9 cs.toList)) := by
    conv => lhs; rw [← List.take_append_drop 8 cs.toList]
    congr 1
    conv => lhs; rw [← List.take_append_drop 1 (cs.toList.drop 8)]
    congr 1
    rw [List.drop_drop, List.take_of_length_le (by simp; omega)]
  have e0 : cs.toList.take 8 = l.map wv := hl8
  have e1 : List.take 1 (List.drop 8 cs.toList) = [.int .u64 z] := hz
  have e2 : List.take 1 (List.drop 9 cs.toList) = [.slice A k c] := hA
  rw [e0, e1, e2] at e
  congr 1
  apply Array.ext'
  rw [e]
  simp [shaL, Int.toNat_of_nonneg hzb.1]
end

end Go.Proofs.YtlidhdljgnijaaaDoor

/-
  THE TABLES OF k, out of what a row lists.
-/
set_option linter.unusedVariables false
namespace Go.Proofs.YtlidhdljgnijaaaDoor
open Go.ChangeShapes Go.WideShapes Go.ChangeAt Go.RowKit Go.Deep

def zsK : List Int := [1116352408, 1899447441, 3049323471, 3921009573, 961987163, 1508970993, 2453635748, 2870763221, 3624381080, 310598401, 607225278, 1426881987, 1925078388, 2162078206, 2614888103, 3248222580, 3835390401, 4022224774, 264347078, 604807628, 770255983, 1249150122, 1555081692, 1996064986, 2554220882, 2821834349, 2952996808, 3210313671, 3336571891, 3584528711, 113926993, 338241895, 666307205, 773529912, 1294757372, 1396182291, 1695183700, 1986661051, 2177026350, 2456956037, 2730485921, 2820302411, 3259730800, 3345764771, 3516065817, 3600352804, 4094571909, 275423344, 430227734, 506948616, 659060556, 883997877, 958139571, 1322822218, 1537002063, 1747873779, 1955562222, 2024104815, 2227730452, 2361852424, 2428436474, 2756734187, 3204031479, 3329325298]
theorem zsK_of : kU.map (fun x => (x.toNat : Int)) = zsK := by decide +kernel
theorem zsK_at {i : Nat} {x : UInt32} (h : kU[i]? = some x) : i < zsK.length ∧ zsK.getD i 0 = (x.toNat : Int) := by
  have hi : i < kU.length := (List.getElem?_eq_some_iff.1 h).1
  refine ⟨by rw [← zsK_of]; simpa using hi, ?_⟩
  rw [← zsK_of, List.getD_eq_getElem?_getD, List.getElem?_map, h]
  rfl

theorem gC : Tryd.prog.globalNamed "coterie/sha.cubeRoots" = some 1 := by kernel_rfl
theorem gCType : (Tryd.prog.globals[1]?).map (·.type) = some 130 := by kernel_rfl
theorem ctab_of {W : World} {rest : List (String × DataW Unit)} (h : laidMet Tryd.prog (("coterie/sha.cubeRoots", Lib.tabData .u32 zsK) :: rest) W) : CTab W := fun i x hx => by
  obtain ⟨h1, h2⟩ := zsK_at hx
  rw [← h2]
  exact (Lib.tabIs_of_head gC gCType Tryd.underlying130 Tryd.underlying93 word_cells cells64w h).cell gC i h1
theorem gK : Tryd.prog.globalNamed "coterie/coterieref02.k" = some 0 := by kernel_rfl
theorem gKType : (Tryd.prog.globals[0]?).map (·.type) = some 130 := by kernel_rfl
theorem ktab_of {W : World} {rest : List (String × DataW Unit)} (h : laidMet Tryd.prog (("coterie/coterieref02.k", Lib.tabData .u32 zsK) :: rest) W) : KTab W := fun i x hx => by
  obtain ⟨h1, h2⟩ := zsK_at hx
  rw [← h2]
  exact (Lib.tabIs_of_head gK gKType Tryd.underlying130 Tryd.underlying93 word_cells cells64w h).cell gK i h1

end Go.Proofs.YtlidhdljgnijaaaDoor

