import Derived.Test.YtmganbdbihjbmaaK51
import Derived.Test.YtmganbdbihjbmaaK28
/-
  OPENING a list of numbers, each of which an int may be.
-/
set_option linter.unusedVariables false
namespace Go.Proofs.Ytmganbdbihjbmaa
open Go.ChangeShapes Go.WideShapes Go.ChangeAt Go.RowKit Go.Deep

section
variable {H : Type} {enc : TypeId × Value → H} {w : World} {base : Nat} {spare : Nat → Bool} {held : Bool} {fuel : Nat} {A : Option Addr} {n c : Nat} {x : DataW H × List MemPlace}

theorem open_ivs64 (hs : ∀ b, spare b = true) (h : DataW.trod enc Try.prog w base spare held fuel 22 [.slice A n c] = some x) : n ≤ c ∧ c ≤ maxLen ∧ ∃ zs : List Int, (∀ z ∈ zs, I64 z) ∧ Rd w w.heap.size A n (zs.map iv) := by
  obtain ⟨h1, h2, zs, hz, hr⟩ := open_nums Try.underlying22 Try.underlying3 cellsIntT hs h
  refine ⟨h1, h2, zs, fun z hm => ?_, hr⟩
  have := hz z hm
  simpa [I64, Lit.wf, IntKind.min, IntKind.max, IntKind.signed, IntKind.bits] using this
end
end Go.Proofs.Ytmganbdbihjbmaa

