import Derived.Test.YtlidhdljgnijaaaDoorN46
import Derived.Test.YtlidhdljgnijaaaDoorN04
/-
  OPENING a law's argument that is a list of numbers, a list of such lists, a tree (api.Shape, by value), or a list of members that come and go.
-/
set_option linter.unusedVariables false
namespace Go.Proofs.YtlidhdljgnijaaaDoor
open Go.ChangeShapes Go.WideShapes Go.ChangeAt Go.RowKit Go.Deep

theorem cellsIntT : Tryd.prog.cellsOf 3 = 1 := by kernel_rfl
theorem cellsListT : Tryd.prog.cellsOf 22 = 1 := by kernel_rfl

section
variable {H : Type} {enc : TypeId × Value → H} {w : World} {base : Nat} {spare : Nat → Bool} {held : Bool} {fuel : Nat} {A : Option Addr} {n c : Nat} {x : DataW H × List MemPlace}

theorem open_ivs (hs : ∀ b, spare b = true) (h : DataW.trod enc Tryd.prog w base spare held fuel 22 [.slice A n c] = some x) : n ≤ c ∧ c ≤ maxLen ∧ ∃ zs : List Int, Rd w w.heap.size A n (zs.map iv) := by
  obtain ⟨h1, h2, zs, _, hr⟩ := open_nums Tryd.underlying22 Tryd.underlying3 cellsIntT hs h
  exact ⟨h1, h2, zs, hr⟩
theorem form_ivs {cs : List Value} (h : DataW.trod enc Tryd.prog w base spare held fuel 22 cs = some x) : ∃ A n c, cs = [.slice A n c] := by
  rcases open_ints Tryd.underlying22 Tryd.underlying3 cellsIntT h with ⟨hcs, _⟩ | ⟨a', l', cap', zs, hcs, _⟩
  · exact ⟨_, _, _, hcs⟩
  · exact ⟨_, _, _, hcs⟩
theorem open_lists (hs : ∀ b, spare b = true) {cs : List Value} (h : DataW.trod enc Tryd.prog w base spare held fuel 23 cs = some x) :
    ∃ A n c, cs = [.slice A n c] ∧ n ≤ c ∧ c ≤ maxLen ∧ ∃ (vs : List Value) (ll : List (List Int)), ll.length = n ∧ Rd w w.heap.size A n vs ∧ Lvs w w.heap.size vs ll := by
  rcases open_slice Tryd.underlying23 h with ⟨hcs, hx⟩ | ⟨ad, l, cap, m, q, D, Pl, hcs, _, hl, hm, hmm, hx, hi⟩
  · exact ⟨none, 0, 0, hcs, Nat.le_refl _, by simp [maxLen], [], [], rfl, Rd.zero _ _ _, Lvs.nil _ _⟩
  · rw [hs ad.block, if_pos rfl] at hmm
    subst hmm
    rw [cellsListT] at hi
    have each : ∀ i, i < l → ∃ (v : Value) (t : List Int), w.cell? (ad.add i) = some v ∧ ∃ A c, v = .slice A t.length c ∧ t.length ≤ c ∧ c ≤ maxLen ∧ Rd w w.heap.size A t.length (t.map iv) := by
      intro i hin
      obtain ⟨cs', hc, ht⟩ := hi i (by omega)
      obtain ⟨_, hcl, hat⟩ := World.cells?_some hc
      obtain ⟨A', n', c', rfl⟩ := form_ivs ht
      have hv : w.cell? (ad.add i) = some (.slice A' n' c') := by
        have := hat 0 (by omega)
        simpa [Addr.add] using this
      obtain ⟨h1, h2, t, hr⟩ := open_ivs hs ht
      obtain rfl : n' = t.length := by have := hr.len; simpa using this.symm
      exact ⟨_, t, hv, A', c', rfl, h1, h2, hr⟩
    obtain ⟨vs, ts, hvl, htl, hP⟩ := pick_lists _ l each
    refine ⟨some ad, l, _, hcs, hl, hm, vs, ts, htl, ⟨hvl, fun hn => ?_⟩, ⟨by omega, fun i v t hv ht => (hP i v t hv ht).2⟩⟩
    obtain ⟨b, o, sp⟩ := ad
    obtain ⟨v0, t0, h0, _⟩ := each 0 hn
    obtain rfl : sp = none := by simpa [Addr.add] using World.cell?_spot h0
    refine ⟨b, o, rfl, World.block_lt_of_cell? w _ (by simpa [Addr.add] using h0), fun j u hu => ?_⟩
    have hj : j < l := by have := (List.getElem?_eq_some_iff.1 hu).1; omega
    have h1 := (hP j u _ hu (List.getElem?_eq_getElem (show j < ts.length by omega))).1
    rwa [Addr.add_lit] at h1
end

theorem cellsShT : Tryd.prog.cellsOf 25 = 2 := by kernel_rfl
theorem cellsListsT : Tryd.prog.cellsOf 23 = 1 := by kernel_rfl
set_option maxRecDepth 1000000 in
theorem sh_fields : ∃ f0 f1, Tryd.prog.underlying 25 = some (.struct #[f0, f1]) ∧ (f0.type = 22 ∧ f0.offset = 0) ∧ (f1.type = 23 ∧ f1.offset = 1) := ⟨_, _, rfl, ⟨rfl, rfl⟩, ⟨rfl, rfl⟩⟩
end Go.Proofs.YtlidhdljgnijaaaDoor

