import Derived.Test.YtlidhdljgnijaaaDoorN48
import Derived.Test.YtlidhdljgnijaaaDoorN49
import Derived.Test.YtlidhdljgnijaaaDoorN20
/-
  OPENING a law's argument that is a tree with points (api.Tree, by value).
-/
set_option linter.unusedVariables false
namespace Go.Proofs.YtlidhdljgnijaaaDoor
open Go.ChangeShapes Go.WideShapes Go.ChangeAt Go.RowKit Go.Deep

theorem cellsTgT : Tryd.prog.cellsOf 28 = 4 := by kernel_rfl
theorem cellsKeysT : Tryd.prog.cellsOf 26 = 1 := by kernel_rfl
set_option maxRecDepth 1000000 in
theorem tg_fields : ∃ f0 f1 f2, Tryd.prog.underlying 28 = some (.struct #[f0, f1, f2]) ∧ (f0.type = 3 ∧ f0.offset = 0) ∧ (f1.type = 25 ∧ f1.offset = 1) ∧ (f2.type = 26 ∧ f2.offset = 3) := ⟨_, _, _, rfl, ⟨rfl, rfl⟩, ⟨rfl, rfl⟩, ⟨rfl, rfl⟩⟩
section
variable {H : Type} {enc : TypeId × Value → H} {w : World} {base : Nat} {spare : Nat → Bool} {held : Bool} {fuel : Nat} {A : Option Addr} {n c : Nat} {x : DataW H × List MemPlace}

theorem open_b32 {cs : List Value} (h : DataW.trod enc Tryd.prog w base spare held fuel 36 cs = some x) : ∃ l : List UInt8, l.length = 32 ∧ cs = l.map bv := by
  obtain ⟨xs, m, _, _, hcl, hxl, hi⟩ := DataW.trod_array Tryd.underlying36 h
  rw [cellsKey] at hcl
  have each : ∀ i, i < 32 → ∃ z : Int, cs[i]? = some (.int .u8 z) ∧ (Lit.int .u8 z).wf = true := by
    intro i hi8
    have h1 := hi i hi8
    rw [byteCells, Nat.mul_one, List.getElem?_eq_getElem (show i < xs.length by omega)] at h1
    obtain ⟨z, hc, _, hz⟩ := DataW.trod_int Tryd.underlying5 h1
    have := congrArg (·[0]?) hc
    exact ⟨z, by simpa [List.getElem?_take, List.getElem?_drop] using this, hz⟩
  refine ⟨cs.map fun v => match v with | .int _ z => UInt8.ofNat z.toNat | _ => 0, by simp [hcl], ?_⟩
  apply List.ext_getElem?
  intro i
  by_cases hi8 : i < 32
  · obtain ⟨z, hz, hw⟩ := each i hi8
    have hb : 0 ≤ z ∧ z ≤ 255 := by simpa [Lit.wf, IntKind.min, IntKind.max, IntKind.signed, IntKind.bits] using hw
    simp only [List.map_map, List.getElem?_map, hz, Option.map_some, Function.comp]
    congr 1
    show _ = Value.int .u8 ((UInt8.ofNat z.toNat).toNat : Int)
    rw [UInt8.toNat_ofNat', Nat.mod_eq_of_lt (by omega), Int.toNat_of_nonneg hb.1]
  · rw [List.getElem?_eq_none (by omega), List.getElem?_eq_none (by simp; omega)]
theorem open_shC {cs : List Value} (hs : ∀ b, spare b = true) (h : DataW.trod enc Tryd.prog w base spare held fuel 25 cs = some x) :
    ∃ Ai ni ci Al nl cl ids ll, cs = (shV Ai ni ci Al nl cl).toList ∧ ShR w w.heap.size Ai ni ci Al nl cl ids ll := by
  obtain ⟨f0, f1, hu, ⟨t0, o0⟩, ⟨t1, o1⟩⟩ := sh_fields
  obtain ⟨xs, m, _, _, hcl, hxl, hg⟩ := DataW.trod_struct hu h
  have h0 := hg 0 f0 rfl
  have h1 := hg 1 f1 rfl
  simp only [List.size_toArray, List.length_cons, List.length_nil] at hxl
  rw [t0, o0, cellsListT, List.drop_zero, List.getElem?_eq_getElem (by omega)] at h0
  rw [t1, o1, cellsListsT, List.getElem?_eq_getElem (by omega)] at h1
  rw [cellsShT] at hcl
  obtain ⟨Ai, ni, ci, e0⟩ := form_ivs h0
  rw [e0] at h0
  obtain ⟨a1, a2, ids, hr⟩ := open_ivs hs h0
  obtain ⟨Al, nl, cl, e1, b1, b2, vs, ll, hll, hrv, hlv⟩ := open_lists hs h1
  refine ⟨Ai, ni, ci, Al, nl, cl, ids, ll, ?_, by simpa using hr.len, hll, a1, b1, a2, b2, hr, vs, hrv, hlv⟩
  have e0' : cs.take 1 = [.slice Ai ni ci] := e0
  have e1' : List.take 1 (List.drop 1 cs) = [.slice Al nl cl] := e1
  rw [← List.take_append_drop 1 cs, e0']
  rw [List.take_of_length_le (by simp; omega)] at e1'
  rw [e1']
  rfl
theorem form_keys {cs : List Value} (h : DataW.trod enc Tryd.prog w base spare held fuel 26 cs = some x) : ∃ A n c, cs = [.slice A n c] := by
  rcases open_slice Tryd.underlying26 h with ⟨hcs, _⟩ | ⟨ad, l, cap, m, q, D, Pl, hcs, _⟩
  · exact ⟨_, _, _, hcs⟩
  · exact ⟨_, _, _, hcs⟩
theorem open_keys (hs : ∀ b, spare b = true) (h : DataW.trod enc Tryd.prog w base spare held fuel 26 [.slice A n c] = some x) : ∃ ps : List UInt8, KyR w w.heap.size A n c ps := by
  rcases open_slice Tryd.underlying26 h with ⟨hcs, hx⟩ | ⟨ad, l, cap, m, q, D, Pl, hcs, _, hl, hm, hmm, hx, hi⟩
  · simp at hcs
    obtain ⟨rfl, rfl, rfl⟩ := hcs
    exact ⟨[], ⟨Rd.zero _ _ _, Nat.le_refl _, by simp [maxLen]⟩⟩
  · simp at hcs
    obtain ⟨rfl, rfl, rfl⟩ := hcs
    rw [hs ad.block, if_pos rfl] at hmm
    subst hmm
    rw [cellsKey] at hi
    have each : ∀ i, i < n → ∃ k : List UInt8, k.length = 32 ∧ ∀ j v, (k.map bv)[j]? = some v → w.cell? ((ad.add (i * 32)).add j) = some v := by
      intro i hin
      obtain ⟨cs', hc, ht⟩ := hi i (by omega)
      obtain ⟨_, hcl, hat⟩ := World.cells?_some hc
      obtain ⟨k, hk, rfl⟩ := open_b32 ht
      refine ⟨k, hk, fun j v hv => ?_⟩
      have hj : j < 32 := by
        have := (List.getElem?_eq_some_iff.1 hv).1
        rwa [List.length_map, hk] at this
      rw [hat j hj]
      exact hv
    have hspn : 0 < n → ad.spot = none := fun hn => by
      obtain ⟨k, hk, hc⟩ := each 0 hn
      obtain ⟨v0, hv0⟩ : ∃ v0, (k.map bv)[0]? = some v0 := ⟨_, List.getElem?_eq_getElem (by rw [List.length_map]; omega)⟩
      have h0 := hc 0 v0 hv0
      obtain ⟨b, o, sp⟩ := ad
      simpa [Addr.add] using World.cell?_spot h0
    have all : ∀ m, m ≤ n → ∃ ps : List UInt8, ps.length = m * 32 ∧ ∀ q v, (ps.map bv)[q]? = some v → w.cell? (ad.add q) = some v := by
      intro m
      induction m with
      | zero => exact fun _ => ⟨[], rfl, fun q v hv => by simp at hv⟩
      | succ m ih =>
        intro hmn
        obtain ⟨ps, hp, hc⟩ := ih (by omega)
        obtain ⟨k, hk, hck⟩ := each m (by omega)
        refine ⟨ps ++ k, by rw [List.length_append, hp, hk]; omega, fun q v hv => ?_⟩
        rw [List.map_append, List.getElem?_append, List.length_map, hp] at hv
        split at hv
        · exact hc q v hv
        · next hq =>
          have := hck _ v hv
          have hsp := hspn (by omega)
          obtain ⟨b, o, sp⟩ := ad
          obtain rfl : sp = none := hsp
          rw [Addr.add_lit, Addr.add_lit, show o + m * 32 + (q - m * 32) = o + q by omega] at this
          rwa [Addr.add_lit]
    obtain ⟨ps, hp, hc⟩ := all n (Nat.le_refl _)
    refine ⟨ps, ⟨by simpa using hp, fun hn => ?_⟩, hl, hm⟩
    obtain ⟨b, o, sp⟩ := ad
    obtain ⟨v0, hv0⟩ : ∃ v0, (ps.map bv)[0]? = some v0 := ⟨_, List.getElem?_eq_getElem (by rw [List.length_map]; omega)⟩
    have h0 := hc 0 v0 hv0
    obtain rfl : sp = none := by simpa [Addr.add] using World.cell?_spot h0
    refine ⟨b, o, rfl, World.block_lt_of_cell? w _ (by simpa [Addr.add] using h0), fun j u hu => ?_⟩
    have := hc j u hu
    rwa [Addr.add_lit] at this
end
set_option maxRecDepth 1000000 in
theorem open_tree {H : Type} {enc : TypeId × Value → H} {w : World} {base : Nat} {spare : Nat → Bool} {held : Bool} {b0 : Nat} {v : Value} {d : DataW H} {p : List MemPlace} (hs : ∀ b, spare b = true) (hv : Value.okWide Tryd.prog w .any b0 28 v)
    (h : DataW.Trod enc Tryd.prog w base spare held 28 v d p) : ∃ kind Ai ni ci Al nl cl ids ll Ap np cp ps, v = .agg (tgV kind Ai ni ci Al nl cl Ap np cp) ∧ TgR w w.heap.size Ai ni ci Al nl cl ids ll Ap np cp ps := by
  obtain ⟨f0, f1, f2, hu, ⟨t0, o0⟩, ⟨t1, o1⟩, ⟨t2, o2⟩⟩ := tg_fields
  obtain ⟨cs, rfl, hsz⟩ := okWide_struct hu hv
  obtain ⟨fuel, hf⟩ := h
  obtain ⟨xs, m, _, _, hcl, hxl, hg⟩ := DataW.trod_struct hu hf
  have h0 := hg 0 f0 rfl
  have h1 := hg 1 f1 rfl
  have h2 := hg 2 f2 rfl
  simp only [List.size_toArray, List.length_cons, List.length_nil] at hxl
  rw [t0, o0, cellsIntT, List.drop_zero, List.getElem?_eq_getElem (by omega)] at h0
  rw [t1, o1, cellsShT, List.getElem?_eq_getElem (by omega)] at h1
  rw [t2, o2, cellsKeysT, List.getElem?_eq_getElem (by omega)] at h2
  rw [cellsTgT] at hsz
  obtain ⟨kind, e0, _⟩ := DataW.trod_int Tryd.underlying3 h0
  obtain ⟨Ai, ni, ci, Al, nl, cl, ids, ll, e1, hsh⟩ := open_shC hs h1
  obtain ⟨Ap, np, cp, e2⟩ := form_keys h2
  rw [e2] at h2
  obtain ⟨ps, hps⟩ := open_keys hs h2
  have hcs : cs.toList.length = 4 := by simpa using hsz
  have e : cs = tgV kind Ai ni ci Al nl cl Ap np cp := by
    apply Array.ext'
    have e0' : cs.toList.take 1 = [.int .i64 kind] := e0
    have e1' : List.take 2 (List.drop 1 cs.toList) = [.slice Ai ni ci, .slice Al nl cl] := e1
    have e2' : List.take 1 (List.drop 3 cs.toList) = [.slice Ap np cp] := e2
    rw [← List.take_append_drop 1 cs.toList, e0', ← List.take_append_drop 2 (List.drop 1 cs.toList), e1', List.drop_drop]
    rw [List.take_of_length_le (by simp; omega)] at e2'
    rw [show 1 + 2 = 3 from rfl, e2']
    rfl
  exact ⟨kind, Ai, ni, ci, Al, nl, cl, ids, ll, Ap, np, cp, ps, by rw [e], hsh, hps⟩

end Go.Proofs.YtlidhdljgnijaaaDoor

