import Derived.Test.YtjhcnhihmgpgbaaG37
import Derived.Test.YtjhcnhihmgpgbaaG38
/-
  THE WALK of TreeDoes (coterielaw10): true, whatever the input.
-/
set_option linter.unusedVariables false
namespace Go.Proofs.Ytjhcnhihmgpgbaa
open Go.RowKit

theorem htI2 : HTI2 := fun Ai ni ci Al nl cl ids ll id w h hf => PInsert_any Ai ni ci Al nl cl ids ll id w h hf
theorem htD2 : HTD2 := fun Ai ni ci Al nl cl ids ll id w h hf => PDelete_any Ai ni ci Al nl cl ids ll id w h hf

theorem walk_TreeDoes (Ai : Option Addr) (ni ci : Nat) (Al : Option Addr) (nl cl : Nat) (ids : List Int) (ll : List (List Int)) (id : Int) (w : World) (h : ShR w w.heap.size Ai ni ci Al nl cl ids ll) (hi1 : -9223372036854775808 ≤ id) (hi2 : id ≤ 9223372036854775807) :
    Calls Try.prog 3 #[.agg (shV Ai ni ci Al nl cl), .int .i64 id] w fun e w' => e = .returned (.bool true) ∧ Below w.heap.size w w' :=
  walkH_TreeDoes htB htC htM htI2 htD2 Ai ni ci Al nl cl ids ll id w h

end Go.Proofs.Ytjhcnhihmgpgbaa

