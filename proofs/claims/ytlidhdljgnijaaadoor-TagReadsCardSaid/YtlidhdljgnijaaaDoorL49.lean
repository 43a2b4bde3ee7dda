import Derived.Test.YtlidhdljgnijaaaDoorL48
import Derived.Test.YtlidhdljgnijaaaDoorL27
import Derived.Lib.LaidTab
import Derived.Test.YtlidhdljgnijaaaDoorL25
import Derived.Stop.LaidErr
import Derived.Test.YtlidhdljgnijaaaDoorL04
import Derived.Test.YtlidhdljgnijaaaDoorL09
import Derived.Test.YtlidhdljgnijaaaDoorL18
/-
  OPENING a law's argument that is a sum that is not done (api.Sha, by value); the tables of k that the rows list.
-/
set_option linter.unusedVariables false
namespace Go.Proofs.YtlidhdljgnijaaaDoor
open Go.ChangeShapes Go.WideShapes Go.ChangeAt Go.RowKit Go.Deep

theorem cells8 : Tryd.prog.cellsOf 94 = 8 := by kernel_rfl
theorem cellsQuad1 : Tryd.prog.cellsOf 57 = 1 := by kernel_rfl
theorem cells64w : Tryd.prog.cellsOf 130 = 64 := by kernel_rfl
theorem cellsSha : Tryd.prog.cellsOf 96 = 10 := by kernel_rfl
set_option maxRecDepth 1000000 in
theorem sha_fields : ∃ f0 f1 f2, Tryd.prog.underlying 96 = some (.struct #[f0, f1, f2]) ∧ (f0.type = 94 ∧ f0.offset = 0) ∧ (f1.type = 57 ∧ f1.offset = 8) ∧ (f2.type = 41 ∧ f2.offset = 9) := ⟨_, _, _, rfl, ⟨rfl, rfl⟩, ⟨rfl, rfl⟩, ⟨rfl, rfl⟩⟩

section
variable {H : Type} {enc : TypeId × Value → H} {w : World} {base : Nat} {spare : Nat → Bool} {held : Bool} {fuel : Nat} {x : DataW H × List MemPlace}

theorem open_words8 {cs : List Value} (h : DataW.trod enc Tryd.prog w base spare held fuel 94 cs = some x) : ∃ l : List UInt32, l.length = 8 ∧ cs = l.map wv := by
  obtain ⟨xs, m, _, _, hcl, hxl, hi⟩ := DataW.trod_array Tryd.underlying94 h
  rw [cells8] at hcl
  have each : ∀ i, i < 8 → ∃ z : Int, cs[i]? = some (.int .u32 z) ∧ (Lit.int .u32 z).wf = true := by
    intro i hi8
    have h1 := hi i hi8
    rw [word_cells, Nat.mul_one, List.getElem?_eq_getElem (show i < xs.length by omega)] at h1
    obtain ⟨z, hc, _, hz⟩ := DataW.trod_int Tryd.underlying93 h1
    have := congrArg (·[0]?) hc
    exact ⟨z, by simpa [List.getElem?_take, List.getElem?_drop] using this, hz⟩
  refine ⟨cs.map fun v => match v with | .int _ z => UInt32.ofNat z.toNat | _ => 0, by simp [hcl], ?_⟩
  apply List.ext_getElem?
  intro i
  by_cases hi8 : i < 8
  · obtain ⟨z, hz, hw⟩ := each i hi8
    have hb : 0 ≤ z ∧ z ≤ 4294967295 := by simpa [Lit.wf, IntKind.min, IntKind.max, IntKind.signed, IntKind.bits] using hw
    simp only [List.map_map, List.getElem?_map, hz, Option.map_some, Function.comp]
    congr 1
    show _ = Value.int .u32 ((UInt32.ofNat z.toNat).toNat : Int)
    rw [UInt32.toNat_ofNat', Nat.mod_eq_of_lt (by omega), Int.toNat_of_nonneg hb.1]
  · rw [List.getElem?_eq_none (by omega), List.getElem?_eq_none (by simp; omega)]

set_option maxRecDepth 1000000 in
theorem open_sha {b0 : Nat} {v : Value} {d : DataW H} {p : List MemPlace} (hs : ∀ b, spare b = true) (hv : Value.okWide Tryd.prog w .any b0 96 v) (h : DataW.Trod enc Tryd.prog w base spare held 96 v d p) :
    ∃ (h : List UInt32) (n : Nat) (A : Option Addr) (k c : Nat) (rest : List UInt8), v = .agg (shaL h n (.slice A k c)).toArray ∧ h.length = 8 ∧ n < 18446744073709551616 ∧ k ≤ c ∧ c ≤ maxLen ∧ Rd w w.heap.size A k (rest.map bv) := by
  obtain ⟨f0, f1, f2, hu, ⟨t0, o0⟩, ⟨t1, o1⟩, ⟨t2, o2⟩⟩ := sha_fields
  obtain ⟨cs, rfl, hsz⟩ := okWide_struct hu hv
  obtain ⟨fuel, hf⟩ := h
  obtain ⟨xs, m, _, _, hcl, hxl, hg⟩ := DataW.trod_struct hu hf
  have h0 := hg 0 f0 rfl
  have h1 := hg 1 f1 rfl
  have h2 := hg 2 f2 rfl
  simp only [List.size_toArray, List.length_cons, List.length_nil] at hxl
  rw [t0, o0, cells8, List.drop_zero, List.getElem?_eq_getElem (by omega)] at h0
  rw [t1, o1, cellsQuad1, List.getElem?_eq_getElem (by omega)] at h1
  rw [t2, o2, cellsText, List.getElem?_eq_getElem (by omega)] at h2
  rw [cellsSha] at hsz
  obtain ⟨l, hl, hl8⟩ := open_words8 h0
  obtain ⟨z, hz, _, hzw⟩ := DataW.trod_int Tryd.underlying57 h1
  have hzb : 0 ≤ z ∧ z ≤ 18446744073709551615 := by simpa [Lit.wf, IntKind.min, IntKind.max, IntKind.signed, IntKind.bits] using hzw
  have hform : ∃ A n c, (List.take 1 (List.drop 9 (Value.agg cs).cells.toList)) = [.slice A n c] := by
    rcases open_ints Tryd.underlying41 Tryd.underlying5 cellsByte h2 with ⟨hcs, _⟩ | ⟨a', l', cap', zs, hcs, _⟩
    · exact ⟨_, _, _, hcs⟩
    · exact ⟨_, _, _, hcs⟩
  obtain ⟨A, k, c, hA⟩ := hform
  rw [hA] at h2
  obtain ⟨hkc, hcm, rest, hr⟩ := open_bytes hs h2
  refine ⟨l, z.toNat, A, k, c, rest, ?_, hl, by omega, hkc, hcm, hr⟩
  have e : cs.toList = cs.toList.take 8 ++ (List.take 1 (List.drop 8 cs.toList) ++ List.take 1 (List.drop 9 cs.toList)) := by
    conv => lhs; rw [← List.take_append_drop 8 cs.toList]
    congr 1
    conv => lhs; rw [← List.take_append_drop 1 (cs.toList.drop 8)]
    congr 1
    rw [List.drop_drop, List.take_of_length_le (by simp; omega)]
  have e0 : cs.toList.take 8 = l.map wv := hl8
  have e1 : List.take 1 (List.drop 8 cs.toList) = [.int .u64 z] := hz
  have e2 : List.take 1 (List.drop 9 cs.toList) = [.slice A k c] := hA
  rw [e0, e1, e2] at e
  congr 1
  apply Array.ext'
  rw [e]
  simp [shaL, Int.toNat_of_nonneg hzb.1]
end

end Go.Proofs.YtlidhdljgnijaaaDoor

/-
  THE TABLES OF k, out of what a row lists.
-/
set_option linter.unusedVariables false
namespace Go.Proofs.YtlidhdljgnijaaaDoor
open Go.ChangeShapes Go.WideShapes Go.ChangeAt Go.RowKit Go.Deep

def zsK : List Int := [1116352408, 1899447441, 3049323471, 3921009573, 961987163, 1508970993, 2453635748, 2870763221, 3624381080, 310598401, 607225278, 1426881987, 1925078388, 2162078206, 2614888103, 3248222580, 3835390401, 4022224774, 264347078, 604807628, 770255983, 1249150122, 1555081692, 1996064986, 2554220882, 2821834349, 2952996808, 3210313671, 3336571891, 3584528711, 113926993, 338241895, 666307205, 773529912, 1294757372, 1396182291, 1695183700, 1986661051, 2177026350, 2456956037, 2730485921, 2820302411, 3259730800, 3345764771, 3516065817, 3600352804, 4094571909, 275423344, 430227734, 506948616, 659060556, 883997877, 958139571, 1322822218, 1537002063, 1747873779, 1955562222, 2024104815, 2227730452, 2361852424, 2428436474, 2756734187, 3204031479, 3329325298]
theorem zsK_of : kU.map (fun x => (x.toNat : Int)) = zsK := by decide +kernel
theorem zsK_at {i : Nat} {x : UInt32} (h : kU[i]? = some x) : i < zsK.length ∧ zsK.getD i 0 = (x.toNat : Int) := by
  have hi : i < kU.length := (List.getElem?_eq_some_iff.1 h).1
  refine ⟨by rw [← zsK_of]; simpa using hi, ?_⟩
  rw [← zsK_of, List.getD_eq_getElem?_getD, List.getElem?_map, h]
  rfl

theorem gC : Tryd.prog.globalNamed "coterie/sha.cubeRoots" = some 1 := by kernel_rfl
theorem gCType : (Tryd.prog.globals[1]?).map (·.type) = some 130 := by kernel_rfl
theorem ctab_of {W : World} {rest : List (String × DataW Unit)} (h : laidMet Tryd.prog (("coterie/sha.cubeRoots", Lib.tabData .u32 zsK) :: rest) W) : CTab W := fun i x hx => by
  obtain ⟨h1, h2⟩ := zsK_at hx
  rw [← h2]
  exact (Lib.tabIs_of_head gC gCType Tryd.underlying130 Tryd.underlying93 word_cells cells64w h).cell gC i h1
theorem gK : Tryd.prog.globalNamed "coterie/coterieref02.k" = some 0 := by kernel_rfl
theorem gKType : (Tryd.prog.globals[0]?).map (·.type) = some 130 := by kernel_rfl
theorem ktab_of {W : World} {rest : List (String × DataW Unit)} (h : laidMet Tryd.prog (("coterie/coterieref02.k", Lib.tabData .u32 zsK) :: rest) W) : KTab W := fun i x hx => by
  obtain ⟨h1, h2⟩ := zsK_at hx
  rw [← h2]
  exact (Lib.tabIs_of_head gK gKType Tryd.underlying130 Tryd.underlying93 word_cells cells64w h).cell gK i h1

end Go.Proofs.YtlidhdljgnijaaaDoor

/-
  OPENING a law's argument that is a list of numbers, a list of such lists, a tree (api.Shape, by value), or a list of members that come and go.
-/
set_option linter.unusedVariables false
namespace Go.Proofs.YtlidhdljgnijaaaDoor
open Go.ChangeShapes Go.WideShapes Go.ChangeAt Go.RowKit Go.Deep

theorem cellsIntT : Tryd.prog.cellsOf 3 = 1 := by kernel_rfl
theorem cellsListT : Tryd.prog.cellsOf 22 = 1 := by kernel_rfl

section
variable {H : Type} {enc : TypeId × Value → H} {w : World} {base : Nat} {spare : Nat → Bool} {held : Bool} {fuel : Nat} {A : Option Addr} {n c : Nat} {x : DataW H × List MemPlace}

theorem open_ivs (hs : ∀ b, spare b = true) (h : DataW.trod enc Tryd.prog w base spare held fuel 22 [.slice A n c] = some x) : n ≤ c ∧ c ≤ maxLen ∧ ∃ zs : List Int, Rd w w.heap.size A n (zs.map iv) := by
  obtain ⟨h1, h2, zs, _, hr⟩ := open_nums Tryd.underlying22 Tryd.underlying3 cellsIntT hs h
  exact ⟨h1, h2, zs, hr⟩
theorem form_ivs {cs : List Value} (h : DataW.trod enc Tryd.prog w base spare held fuel 22 cs = some x) : ∃ A n c, cs = [.slice A n c] := by
  rcases open_ints Tryd.underlying22 Tryd.underlying3 cellsIntT h with ⟨hcs, _⟩ | ⟨a', l', cap', zs, hcs, _⟩
  · exact ⟨_, _, _, hcs⟩
  · exact ⟨_, _, _, hcs⟩
theorem open_lists (hs : ∀ b, spare b = true) {cs : List Value} (h : DataW.trod enc Tryd.prog w base spare held fuel 23 cs = some x) :
    ∃ A n c, cs = [.slice A n c] ∧ n ≤ c ∧ c ≤ maxLen ∧ ∃ (vs : List Value) (ll : List (List Int)), ll.length = n ∧ Rd w w.heap.size A n vs ∧ Lvs w w.heap.size vs ll := by
  rcases open_slice Tryd.underlying23 h with ⟨hcs, hx⟩ | ⟨ad, l, cap, m, q, D, Pl, hcs, _, hl, hm, hmm, hx, hi⟩
  · exact ⟨none, 0, 0, hcs, Nat.le_refl _, by simp [maxLen], [], [], rfl, Rd.zero _ _ _, Lvs.nil _ _⟩
  · rw [hs ad.block, if_pos rfl] at hmm
    subst hmm
    rw [cellsListT] at hi
    have each : ∀ i, i < l → ∃ (v : Value) (t : List Int), w.cell? (ad.add i) = some v ∧ ∃ A c, v = .slice A t.length c ∧ t.length ≤ c ∧ c ≤ maxLen ∧ Rd w w.heap.size A t.length (t.map iv) := by
      intro i hin
      obtain ⟨cs', hc, ht⟩ := hi i (by omega)
      obtain ⟨_, hcl, hat⟩ := World.cells?_some hc
      obtain ⟨A', n', c', rfl⟩ := form_ivs ht
      have hv : w.cell? (ad.add i) = some (.slice A' n' c') := by
        have := hat 0 (by omega)
        simpa [Addr.add] using this
      obtain ⟨h1, h2, t, hr⟩ := open_ivs hs ht
      obtain rfl : n' = t.length := by have := hr.len; simpa using this.symm
      exact ⟨_, t, hv, A', c', rfl, h1, h2, hr⟩
    obtain ⟨vs, ts, hvl, htl, hP⟩ := pick_lists _ l each
    refine ⟨some ad, l, _, hcs, hl, hm, vs, ts, htl, ⟨hvl, fun hn => ?_⟩, ⟨by omega, fun i v t hv ht => (hP i v t hv ht).2⟩⟩
    obtain ⟨b, o, sp⟩ := ad
    obtain ⟨v0, t0, h0, _⟩ := each 0 hn
    obtain rfl : sp = none := by simpa [Addr.add] using World.cell?_spot h0
    refine ⟨b, o, rfl, World.block_lt_of_cell? w _ (by simpa [Addr.add] using h0), fun j u hu => ?_⟩
    have hj : j < l := by have := (List.getElem?_eq_some_iff.1 hu).1; omega
    have h1 := (hP j u _ hu (List.getElem?_eq_getElem (show j < ts.length by omega))).1
    rwa [Addr.add_lit] at h1
end

theorem cellsShT : Tryd.prog.cellsOf 25 = 2 := by kernel_rfl
theorem cellsListsT : Tryd.prog.cellsOf 23 = 1 := by kernel_rfl
set_option maxRecDepth 1000000 in
theorem sh_fields : ∃ f0 f1, Tryd.prog.underlying 25 = some (.struct #[f0, f1]) ∧ (f0.type = 22 ∧ f0.offset = 0) ∧ (f1.type = 23 ∧ f1.offset = 1) := ⟨_, _, rfl, ⟨rfl, rfl⟩, ⟨rfl, rfl⟩⟩
set_option maxRecDepth 1000000 in
theorem open_shape {H : Type} {enc : TypeId × Value → H} {w : World} {base : Nat} {spare : Nat → Bool} {held : Bool} {b0 : Nat} {v : Value} {d : DataW H} {p : List MemPlace} (hs : ∀ b, spare b = true) (hv : Value.okWide Tryd.prog w .any b0 25 v)
    (h : DataW.Trod enc Tryd.prog w base spare held 25 v d p) : ∃ Ai ni ci Al nl cl ids ll, v = .agg (shV Ai ni ci Al nl cl) ∧ ShR w w.heap.size Ai ni ci Al nl cl ids ll := by
  obtain ⟨f0, f1, hu, ⟨t0, o0⟩, ⟨t1, o1⟩⟩ := sh_fields
  obtain ⟨cs, rfl, hsz⟩ := okWide_struct hu hv
  obtain ⟨fuel, hf⟩ := h
  obtain ⟨xs, m, _, _, hcl, hxl, hg⟩ := DataW.trod_struct hu hf
  have h0 := hg 0 f0 rfl
  have h1 := hg 1 f1 rfl
  simp only [List.size_toArray, List.length_cons, List.length_nil] at hxl
  rw [t0, o0, cellsListT, List.drop_zero, List.getElem?_eq_getElem (by omega)] at h0
  rw [t1, o1, cellsListsT, List.getElem?_eq_getElem (by omega)] at h1
  rw [cellsShT] at hsz
  obtain ⟨Ai, ni, ci, e0⟩ := form_ivs h0
  rw [e0] at h0
  obtain ⟨a1, a2, ids, hr⟩ := open_ivs hs h0
  obtain ⟨Al, nl, cl, e1, b1, b2, vs, ll, hll, hrv, hlv⟩ := open_lists hs h1
  have hcs : cs.toList.length = 2 := by simpa using hsz
  have e : cs = shV Ai ni ci Al nl cl := by
    apply Array.ext'
    have e0' : cs.toList.take 1 = [.slice Ai ni ci] := e0
    have e1' : List.take 1 (List.drop 1 cs.toList) = [.slice Al nl cl] := e1
    rw [← List.take_append_drop 1 cs.toList, e0']
    rw [List.take_of_length_le (by simp; omega)] at e1'
    rw [e1']
    rfl
  exact ⟨Ai, ni, ci, Al, nl, cl, ids, ll, by rw [e], by simpa using hr.len, hll, a1, b1, a2, b2, hr, vs, hrv, hlv⟩

end Go.Proofs.YtlidhdljgnijaaaDoor

/-
  OPENING a law's argument that is an array of bytes (by value), or one byte.
-/
set_option linter.unusedVariables false
namespace Go.Proofs.YtlidhdljgnijaaaDoor
open Go.ChangeShapes Go.WideShapes Go.ChangeAt Go.RowKit Go.Deep

theorem byte_of (z : Int) (h1 : 0 ≤ z) (h2 : z ≤ 255) : ∃ x : UInt8, z = (x.toNat : Int) :=
  ⟨UInt8.ofNat z.toNat, by rw [UInt8.toNat_ofNat', Nat.mod_eq_of_lt (by omega), Int.toNat_of_nonneg h1]⟩
section
variable {H : Type} {enc : TypeId × Value → H} {w : World} {base : Nat} {spare : Nat → Bool} {held : Bool}

set_option maxRecDepth 100000 in
theorem open_arr {n : Nat} {t : TypeId} (hu : Tryd.prog.underlying t = some (.array n 5)) (hc : Tryd.prog.cellsOf t = n) {b0 : Nat} {v : Value} {d : DataW H} {p : List MemPlace} (hv : Value.okWide Tryd.prog w .any b0 t v) (h : DataW.Trod enc Tryd.prog w base spare held t v d p) :
    ∃ l : List UInt8, v = .agg (l.map bv).toArray ∧ l.length = n := by
  simp only [Value.okWide, hu] at hv
  obtain ⟨cs, rfl, hsz, _⟩ := hv
  obtain ⟨fuel, hf⟩ := h
  obtain ⟨xs, m, _, _, hcl, hxl, hi⟩ := DataW.trod_array hu hf
  have hcs : (Value.agg cs).cells.toList = cs.toList := rfl
  rw [hcs] at hcl hi
  rw [hc] at hsz
  have each : ∀ i, i < n → ∃ z : Int, cs.toList[i]? = some (.int .u8 z) ∧ (Lit.int .u8 z).wf = true := by
    intro i hi8
    have h1 := hi i hi8
    rw [byteCells, Nat.mul_one, List.getElem?_eq_getElem (show i < xs.length by omega)] at h1
    obtain ⟨z, hc, _, hz⟩ := DataW.trod_int Tryd.underlying5 h1
    have := congrArg (·[0]?) hc
    exact ⟨z, by simpa [List.getElem?_take, List.getElem?_drop] using this, hz⟩
  refine ⟨cs.toList.map fun v => match v with | .int _ z => UInt8.ofNat z.toNat | _ => 0, ?_, by simp [hsz]⟩
  congr 1
  apply Array.ext'
  apply List.ext_getElem?
  intro i
  by_cases hi8 : i < n
  · obtain ⟨z, hz, hw⟩ := each i hi8
    have hb : 0 ≤ z ∧ z ≤ 255 := by simpa [Lit.wf, IntKind.min, IntKind.max, IntKind.signed, IntKind.bits] using hw
    simp only [List.map_map, List.getElem?_map, hz, Option.map_some, Function.comp]
    congr 1
    show _ = Value.int .u8 ((UInt8.ofNat z.toNat).toNat : Int)
    rw [UInt8.toNat_ofNat', Nat.mod_eq_of_lt (by omega), Int.toNat_of_nonneg hb.1]
  · rw [List.getElem?_eq_none (by simp; omega), List.getElem?_eq_none (by simp; omega)]
end

end Go.Proofs.YtlidhdljgnijaaaDoor

/-
  OPENING a law's argument that is a key (api.Key, by value), or one byte.
-/
set_option linter.unusedVariables false
namespace Go.Proofs.YtlidhdljgnijaaaDoor
open Go.ChangeShapes Go.WideShapes Go.ChangeAt Go.RowKit Go.Deep

theorem cellsKey : Tryd.prog.cellsOf 36 = 32 := by kernel_rfl

section
variable {H : Type} {enc : TypeId × Value → H} {w : World} {base : Nat} {spare : Nat → Bool} {held : Bool}

set_option maxRecDepth 1000000 in
theorem open_key {b0 : Nat} {v : Value} {d : DataW H} {p : List MemPlace} (hv : Value.okWide Tryd.prog w .any b0 36 v) (h : DataW.Trod enc Tryd.prog w base spare held 36 v d p) :
    ∃ l : List UInt8, v = .agg (l.map bv).toArray ∧ l.length = 32 := by
  simp only [Value.okWide, Tryd.underlying36] at hv
  obtain ⟨cs, rfl, hsz, _⟩ := hv
  obtain ⟨fuel, hf⟩ := h
  obtain ⟨xs, m, _, _, hcl, hxl, hi⟩ := DataW.trod_array Tryd.underlying36 hf
  have hcs : (Value.agg cs).cells.toList = cs.toList := rfl
  rw [hcs] at hcl hi
  rw [cellsKey] at hsz
  have each : ∀ i, i < 32 → ∃ z : Int, cs.toList[i]? = some (.int .u8 z) ∧ (Lit.int .u8 z).wf = true := by
    intro i hi8
    have h1 := hi i hi8
    rw [byteCells, Nat.mul_one, List.getElem?_eq_getElem (show i < xs.length by omega)] at h1
    obtain ⟨z, hc, _, hz⟩ := DataW.trod_int Tryd.underlying5 h1
    have := congrArg (·[0]?) hc
    exact ⟨z, by simpa [List.getElem?_take, List.getElem?_drop] using this, hz⟩
  refine ⟨cs.toList.map fun v => match v with | .int _ z => UInt8.ofNat z.toNat | _ => 0, ?_, by simp [hsz]⟩
  congr 1
  apply Array.ext'
  apply List.ext_getElem?
  intro i
  by_cases hi8 : i < 32
  · obtain ⟨z, hz, hw⟩ := each i hi8
    have hb : 0 ≤ z ∧ z ≤ 255 := by simpa [Lit.wf, IntKind.min, IntKind.max, IntKind.signed, IntKind.bits] using hw
    simp only [List.map_map, List.getElem?_map, hz, Option.map_some, Function.comp]
    congr 1
    show _ = Value.int .u8 ((UInt8.ofNat z.toNat).toNat : Int)
    rw [UInt8.toNat_ofNat', Nat.mod_eq_of_lt (by omega), Int.toNat_of_nonneg hb.1]
  · rw [List.getElem?_eq_none (by simp; omega), List.getElem?_eq_none (by simp; omega)]
end

end Go.Proofs.YtlidhdljgnijaaaDoor

