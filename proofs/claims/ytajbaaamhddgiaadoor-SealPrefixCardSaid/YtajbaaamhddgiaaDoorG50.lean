import Derived.Test.YtajbaaamhddgiaaDoorG45
/-
  OPENING a law's text: what its length says (for the bound that a world has).
-/
set_option linter.unusedVariables false
namespace Go.Proofs.YtajbaaamhddgiaaDoor
open Go.ChangeShapes Go.WideShapes Go.ChangeAt Go.RowKit Go.Deep

theorem bytes_form {H : Type} {enc : TypeId × Value → H} {w : World} {base : Nat} {spare : Nat → Bool} {held : Bool} {fuel : Nat} {A : Option Addr} {n c : Nat} {x : DataW H × List MemPlace}
    (h : DataW.trod enc Tryd.prog w base spare held fuel 24 [.slice A n c] = some x) : (x.1 = .nil ∧ n = 0) ∨ ∃ el re, x.1 = .slice el re ∧ el.length = n := by
  rcases open_slice Tryd.underlying24 h with ⟨hcs, hx⟩ | ⟨ad, l, cap, m, q, D, Pl, hcs, _, hl, hm, hmm, hx, hi⟩
  · simp at hcs
    obtain ⟨rfl, rfl, rfl⟩ := hcs
    exact .inl ⟨by rw [hx], rfl⟩
  · simp at hcs
    obtain ⟨rfl, rfl, rfl⟩ := hcs
    exact .inr ⟨_, _, by rw [hx], by rw [List.length_map, List.length_range]⟩

end Go.Proofs.YtajbaaamhddgiaaDoor

