import Derived.Test.YtbickllpledlbaaG43
import Derived.Test.YtbickllpledlbaaG28
/-
  OPENING a law's argument that is a list of nodes of a tree ([]api.Node): what each node's cells hold, and its children's.
-/
set_option linter.unusedVariables false
namespace Go.Proofs.Ytbickllpledlbaa
open Go.ChangeShapes Go.WideShapes Go.ChangeAt Go.RowKit Go.Deep

theorem cellsNodeT : Try.prog.cellsOf 42 = 7 := by kernel_rfl
theorem cellsFlagT : Try.prog.cellsOf 4 = 1 := by kernel_rfl
theorem seven {α : Type} {cs : List α} (h : cs.length = 7) : ∃ a b c d e f g, cs = [a, b, c, d, e, f, g] := by
  match cs, h with
  | [a, b, c, d, e, f, g], _ => exact ⟨a, b, c, d, e, f, g, rfl⟩
set_option maxRecDepth 1000000 in
theorem nd_fields : ∃ f0 f1 f2 f3 f4 f5 f6, Try.prog.underlying 42 = some (.struct #[f0, f1, f2, f3, f4, f5, f6]) ∧ (f0.type = 3 ∧ f0.offset = 0) ∧ (f1.type = 3 ∧ f1.offset = 1) ∧ (f2.type = 4 ∧ f2.offset = 2) ∧ (f3.type = 3 ∧ f3.offset = 3) ∧ (f4.type = 3 ∧ f4.offset = 4) ∧ (f5.type = 22 ∧ f5.offset = 5) ∧ (f6.type = 3 ∧ f6.offset = 6) := ⟨_, _, _, _, _, _, _, rfl, ⟨rfl, rfl⟩, ⟨rfl, rfl⟩, ⟨rfl, rfl⟩, ⟨rfl, rfl⟩, ⟨rfl, rfl⟩, ⟨rfl, rfl⟩, ⟨rfl, rfl⟩⟩

theorem addr0 (a : Addr) : a.add 0 = a := by simp [Addr.add]
section
variable {H : Type} {enc : TypeId × Value → H} {w : World} {base : Nat} {spare : Nat → Bool} {held : Bool} {fuel : Nat} {A : Option Addr} {n c : Nat} {x : DataW H × List MemPlace}

theorem cell_int {v : Value} (h : DataW.trod enc Try.prog w base spare held fuel 3 [v] = some x) : ∃ z : Int, v = iv z := by
  obtain ⟨z, e, _⟩ := DataW.trod_int Try.underlying3 h
  exact ⟨z, (List.cons.inj e).1⟩
theorem cell_bool {v : Value} (h : DataW.trod enc Try.prog w base spare held fuel 4 [v] = some x) : ∃ b : Bool, v = .bool b := by
  obtain ⟨b, e, _⟩ := DataW.trod_bool Try.underlying4 h
  exact ⟨b, (List.cons.inj e).1⟩
theorem open_nd {cs : List Value} (hs : ∀ b, spare b = true) (h : DataW.trod enc Try.prog w base spare held fuel 42 cs = some x) :
    ∃ (r : RI) (u : Value), cs = riC r u ∧ ∃ Au cu, u = .slice Au r.kids.length cu ∧ r.kids.length ≤ cu ∧ cu ≤ maxLen ∧ Rd w w.heap.size Au r.kids.length (r.kids.map iv) := by
  obtain ⟨f0, f1, f2, f3, f4, f5, f6, hu, ⟨t0, o0⟩, ⟨t1, o1⟩, ⟨t2, o2⟩, ⟨t3, o3⟩, ⟨t4, o4⟩, ⟨t5, o5⟩, ⟨t6, o6⟩⟩ := nd_fields
  obtain ⟨xs, m, _, _, hcl, hxl, hg⟩ := DataW.trod_struct hu h
  have h0 := hg 0 f0 rfl
  have h1 := hg 1 f1 rfl
  have h2 := hg 2 f2 rfl
  have h3 := hg 3 f3 rfl
  have h4 := hg 4 f4 rfl
  have h5 := hg 5 f5 rfl
  have h6 := hg 6 f6 rfl
  simp only [List.size_toArray, List.length_cons, List.length_nil] at hxl
  rw [cellsNodeT] at hcl
  rw [t0, o0, cellsIntT, List.getElem?_eq_getElem (by omega)] at h0
  rw [t1, o1, cellsIntT, List.getElem?_eq_getElem (by omega)] at h1
  rw [t2, o2, cellsFlagT, List.getElem?_eq_getElem (by omega)] at h2
  rw [t3, o3, cellsIntT, List.getElem?_eq_getElem (by omega)] at h3
  rw [t4, o4, cellsIntT, List.getElem?_eq_getElem (by omega)] at h4
  rw [t5, o5, cellsListT, List.getElem?_eq_getElem (by omega)] at h5
  rw [t6, o6, cellsIntT, List.getElem?_eq_getElem (by omega)] at h6
  clear hg h
  obtain ⟨c0, c1, c2, c3, c4, c5, c6, rfl⟩ := seven hcl
  obtain ⟨z0, rfl⟩ := cell_int h0
  obtain ⟨z1, rfl⟩ := cell_int h1
  obtain ⟨b2, rfl⟩ := cell_bool h2
  obtain ⟨z3, rfl⟩ := cell_int h3
  obtain ⟨z4, rfl⟩ := cell_int h4
  obtain ⟨z6, rfl⟩ := cell_int h6
  obtain ⟨Au, nu, cu, e5⟩ := form_ivs h5
  obtain rfl : c5 = .slice Au nu cu := by simpa using e5
  obtain ⟨g1, g2, ks, hr⟩ := open_ivs hs h5
  obtain rfl : nu = ks.length := by have := hr.len; simpa using this.symm
  exact ⟨⟨z0, z1, b2, z3, z4, ks, z6⟩, _, rfl, Au, cu, rfl, g1, g2, hr⟩
theorem open_nds (hs : ∀ b, spare b = true) (h : DataW.trod enc Try.prog w base spare held fuel 28 [.slice A n c] = some x) : ∃ ns, NdR w w.heap.size A n c ns := by
  rcases open_slice Try.underlying28 h with ⟨hcs, hx⟩ | ⟨ad, l, cap, m, q, D, Pl, hcs, _, hl, hm, hmm, hx, hi⟩
  · simp at hcs
    obtain ⟨rfl, rfl, rfl⟩ := hcs
    exact ⟨[], NdR.zero _ _⟩
  · simp at hcs
    obtain ⟨rfl, rfl, rfl⟩ := hcs
    rw [hs ad.block, if_pos rfl] at hmm
    subst hmm
    rw [cellsNodeT] at hi
    have each : ∀ i, i < n → ∃ (r : RI) (u : Value), (∀ j v, (riC r u)[j]? = some v → w.cell? ((ad.add (i * 7)).add j) = some v) ∧ ∃ Au cu, u = .slice Au r.kids.length cu ∧ r.kids.length ≤ cu ∧ cu ≤ maxLen ∧ Rd w w.heap.size Au r.kids.length (r.kids.map iv) := by
      intro i hin
      obtain ⟨cs', hc, ht⟩ := hi i (by omega)
      obtain ⟨_, hcl, hat⟩ := World.cells?_some hc
      obtain ⟨r, u, rfl, hk⟩ := open_nd hs ht
      refine ⟨r, u, fun j v hv => ?_, hk⟩
      have hj : j < 7 := (List.getElem?_eq_some_iff.1 hv).1
      rw [hat j hj]
      exact hv
    obtain ⟨ns, us, hnl, hul, hP⟩ := pick_lists _ n each
    refine ⟨ns, hnl, ⟨hl, hm⟩, us, hul, ⟨by rw [cellsI_len ns us (by omega), hnl], fun hn => ?_⟩, fun k r u hr hu => (hP k r u hr hu).2⟩
    obtain ⟨b, o, sp⟩ := ad
    obtain ⟨r0, u0, h0, _⟩ := each 0 (by omega)
    have h00 := h0 0 _ rfl
    rw [Nat.zero_mul, addr0, addr0] at h00
    obtain rfl : sp = none := by simpa using World.cell?_spot h00
    refine ⟨b, o, rfl, World.block_lt_of_cell? w _ h00, fun j v hv => ?_⟩
    have hj : j < n * 7 := by have := (List.getElem?_eq_some_iff.1 hv).1; rw [cellsI_len ns us (by omega)] at this; omega
    have e : j = j / 7 * 7 + j % 7 := by omega
    have hr := List.getElem?_eq_getElem (show j / 7 < ns.length by omega)
    have hu := List.getElem?_eq_getElem (show j / 7 < us.length by omega)
    rw [e, cellsI_at ns us (j / 7) (j % 7) _ _ (by omega) hr hu (Nat.mod_lt _ (by decide))] at hv
    have := (hP _ _ _ hr hu).1 _ _ hv
    rw [Addr.add_lit, Addr.add_lit, Nat.add_assoc, ← e] at this
    exact this
end

end Go.Proofs.Ytbickllpledlbaa

