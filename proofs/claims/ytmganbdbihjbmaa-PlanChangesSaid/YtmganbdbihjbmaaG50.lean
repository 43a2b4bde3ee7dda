import Derived.Test.YtmganbdbihjbmaaG44
import Derived.Test.YtmganbdbihjbmaaG03
/-
  OPENING a law's argument that is a plan (api.Plan, by value): what is kept, and the steps.
-/
set_option linter.unusedVariables false
namespace Go.Proofs.Ytmganbdbihjbmaa
open Go.ChangeShapes Go.WideShapes Go.ChangeAt Go.RowKit Go.Deep

theorem cellsStepT : Try.prog.cellsOf 51 = 3 := by kernel_rfl
theorem cellsPlanT : Try.prog.cellsOf 28 = 2 := by kernel_rfl
theorem cellsStepsT : Try.prog.cellsOf 26 = 1 := by kernel_rfl
theorem len3 {α : Type} {cs : List α} (h : cs.length = 3) : ∃ a b c, cs = [a, b, c] := by
  match cs, h with
  | [a, b, c], _ => exact ⟨a, b, c, rfl⟩
theorem len2 {α : Type} {cs : List α} (h : cs.length = 2) : ∃ a b, cs = [a, b] := by
  match cs, h with
  | [a, b], _ => exact ⟨a, b, rfl⟩
set_option maxRecDepth 1000000 in
theorem st_fields : ∃ f0 f1 f2, Try.prog.underlying 51 = some (.struct #[f0, f1, f2]) ∧ (f0.type = 3 ∧ f0.offset = 0) ∧ (f1.type = 3 ∧ f1.offset = 1) ∧ (f2.type = 22 ∧ f2.offset = 2) := ⟨_, _, _, rfl, ⟨rfl, rfl⟩, ⟨rfl, rfl⟩, ⟨rfl, rfl⟩⟩
set_option maxRecDepth 1000000 in
theorem pl_fields : ∃ f0 f1, Try.prog.underlying 28 = some (.struct #[f0, f1]) ∧ (f0.type = 22 ∧ f0.offset = 0) ∧ (f1.type = 26 ∧ f1.offset = 1) := ⟨_, _, rfl, ⟨rfl, rfl⟩, ⟨rfl, rfl⟩⟩
theorem addr0P (a : Addr) : a.add 0 = a := by simp [Addr.add]

section
variable {H : Type} {enc : TypeId × Value → H} {w : World} {base : Nat} {spare : Nat → Bool} {held : Bool} {fuel : Nat} {A : Option Addr} {n c : Nat} {x : DataW H × List MemPlace}

theorem cell_intP {v : Value} (h : DataW.trod enc Try.prog w base spare held fuel 3 [v] = some x) : ∃ z : Int, v = iv z := by
  obtain ⟨z, e, _⟩ := DataW.trod_int Try.underlying3 h
  exact ⟨z, (List.cons.inj e).1⟩
theorem open_st {cs : List Value} (hs : ∀ b, spare b = true) (h : DataW.trod enc Try.prog w base spare held fuel 51 cs = some x) :
    ∃ (r : SI) (u : Value), cs = siC r u ∧ ∃ Au cu, u = .slice Au r.send.length cu ∧ r.send.length ≤ cu ∧ cu ≤ maxLen ∧ Rd w w.heap.size Au r.send.length (r.send.map iv) := by
  obtain ⟨f0, f1, f2, hu, ⟨t0, o0⟩, ⟨t1, o1⟩, ⟨t2, o2⟩⟩ := st_fields
  obtain ⟨xs, m, _, _, hcl, hxl, hg⟩ := DataW.trod_struct hu h
  have h0 := hg 0 f0 rfl
  have h1 := hg 1 f1 rfl
  have h2 := hg 2 f2 rfl
  simp only [List.size_toArray, List.length_cons, List.length_nil] at hxl
  rw [cellsStepT] at hcl
  rw [t0, o0, cellsIntT, List.getElem?_eq_getElem (by omega)] at h0
  rw [t1, o1, cellsIntT, List.getElem?_eq_getElem (by omega)] at h1
  rw [t2, o2, cellsListT, List.getElem?_eq_getElem (by omega)] at h2
  clear hg h
  obtain ⟨c0, c1, c2, rfl⟩ := len3 hcl
  obtain ⟨z0, rfl⟩ := cell_intP h0
  obtain ⟨z1, rfl⟩ := cell_intP h1
  obtain ⟨Au, nu, cu, e2⟩ := form_ivs h2
  obtain rfl : c2 = .slice Au nu cu := by simpa using e2
  obtain ⟨g1, g2, ks, hr⟩ := open_ivs hs h2
  obtain rfl : nu = ks.length := by have := hr.len; simpa using this.symm
  exact ⟨⟨z0, z1, ks⟩, _, rfl, Au, cu, rfl, g1, g2, hr⟩
theorem open_sts (hs : ∀ b, spare b = true) {cs : List Value} (h : DataW.trod enc Try.prog w base spare held fuel 26 cs = some x) : ∃ A n c ss, cs = [.slice A n c] ∧ StR w w.heap.size A n c ss := by
  rcases open_slice Try.underlying26 h with ⟨hcs, hx⟩ | ⟨ad, l, cap, m, q, D, Pl, hcs, _, hl, hm, hmm, hx, hi⟩
  · exact ⟨none, 0, 0, [], hcs, StR.zero _ _⟩
  · rw [hs ad.block, if_pos rfl] at hmm
    subst hmm
    rw [cellsStepT] at hi
    have each : ∀ i, i < l → ∃ (r : SI) (u : Value), (∀ j v, (siC r u)[j]? = some v → w.cell? ((ad.add (i * 3)).add j) = some v) ∧ ∃ Au cu, u = .slice Au r.send.length cu ∧ r.send.length ≤ cu ∧ cu ≤ maxLen ∧ Rd w w.heap.size Au r.send.length (r.send.map iv) := by
      intro i hin
      obtain ⟨cs', hc, ht⟩ := hi i (by omega)
      obtain ⟨_, hcl, hat⟩ := World.cells?_some hc
      obtain ⟨r, u, rfl, hk⟩ := open_st hs ht
      refine ⟨r, u, fun j v hv => ?_, hk⟩
      have hj : j < 3 := (List.getElem?_eq_some_iff.1 hv).1
      rw [hat j hj]
      exact hv
    obtain ⟨ss, us, hnl, hul, hP⟩ := pick_lists _ l each
    refine ⟨some ad, l, _, ss, hcs, hnl, ⟨hl, hm⟩, fun k r hr => ?_⟩
    have hk : k < l := by have := (List.getElem?_eq_some_iff.1 hr).1; omega
    obtain ⟨h1, Au, cu, h2, h3, h4, h5⟩ := hP k r _ hr (List.getElem?_eq_getElem (show k < us.length by omega))
    rw [h2] at h1
    obtain ⟨b, o, sp⟩ := ad
    obtain ⟨r0, u0, h0, _⟩ := each 0 (by omega)
    have h00 := h0 0 _ rfl
    rw [Nat.zero_mul, addr0P, addr0P] at h00
    obtain rfl : sp = none := by simpa using World.cell?_spot h00
    refine ⟨b, o, Au, cu, rfl, World.block_lt_of_cell? w _ h00, fun j v hv => ?_, h3, h4, h5⟩
    have := h1 j v hv
    rw [Addr.add_lit, Addr.add_lit] at this
    exact this
end

set_option maxRecDepth 1000000 in
theorem open_plan {H : Type} {enc : TypeId × Value → H} {w : World} {base : Nat} {spare : Nat → Bool} {held : Bool} {b0 : Nat} {v : Value} {d : DataW H} {p : List MemPlace} (hs : ∀ b, spare b = true) (hv : Value.okWide Try.prog w .any b0 28 v)
    (h : DataW.Trod enc Try.prog w base spare held 28 v d p) : ∃ Ak nk ck As ns cs ks ss, v = .agg (plV Ak nk ck As ns cs) ∧ PlR w w.heap.size Ak nk ck As ns cs ks ss := by
  obtain ⟨f0, f1, hu, ⟨t0, o0⟩, ⟨t1, o1⟩⟩ := pl_fields
  obtain ⟨cs, rfl, hsz⟩ := okWide_struct hu hv
  obtain ⟨fuel, hf⟩ := h
  obtain ⟨xs, m, _, _, hcl, hxl, hg⟩ := DataW.trod_struct hu hf
  have h0 := hg 0 f0 rfl
  have h1 := hg 1 f1 rfl
  simp only [List.size_toArray, List.length_cons, List.length_nil] at hxl
  rw [t0, o0, cellsListT, List.getElem?_eq_getElem (by omega)] at h0
  rw [t1, o1, cellsStepsT, List.getElem?_eq_getElem (by omega)] at h1
  rw [cellsPlanT] at hsz
  have hcs : cs.toList.length = 2 := by simpa using hsz
  obtain ⟨a, b, e⟩ := len2 hcs
  have hc : cs = #[a, b] := Array.ext' e
  subst hc
  obtain ⟨Ak, nk, ck, e0⟩ := form_ivs h0
  have e0' : [a] = [.slice Ak nk ck] := e0
  obtain rfl := (List.cons.inj e0').1
  obtain ⟨g1, g2, ks, hr⟩ := open_ivs hs h0
  obtain ⟨As, ns, cs', ss, e1, hst⟩ := open_sts hs h1
  have e1' : [b] = [.slice As ns cs'] := e1
  obtain rfl := (List.cons.inj e1').1
  exact ⟨Ak, nk, ck, As, ns, cs', ks, ss, rfl, ⟨g1, g2⟩, hr, hst⟩

end Go.Proofs.Ytmganbdbihjbmaa

