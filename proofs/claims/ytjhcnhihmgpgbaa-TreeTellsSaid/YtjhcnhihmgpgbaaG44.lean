import Derived.Test.YtjhcnhihmgpgbaaG37
import Derived.Test.YtjhcnhihmgpgbaaG43
/-
  THE WALK of TreeTells (coterielaw10): true, whatever the input.
-/
set_option linter.unusedVariables false
namespace Go.Proofs.Ytjhcnhihmgpgbaa
open Go.RowKit

theorem walk_TreeTells (Ai : Option Addr) (ni ci : Nat) (Al : Option Addr) (nl cl : Nat) (ids : List Int) (ll : List (List Int)) (Ai' : Option Addr) (ni' ci' : Nat) (Al' : Option Addr) (nl' cl' : Nat) (ids' : List Int) (ll' : List (List Int)) (id level : Int) (w : World) (h : ShR w w.heap.size Ai ni ci Al nl cl ids ll) (h' : ShR w w.heap.size Ai' ni' ci' Al' nl' cl' ids' ll') (hi1 : -9223372036854775808 ≤ id) (hi2 : id ≤ 9223372036854775807) (hl1 : -9223372036854775808 ≤ level) (hl2 : level ≤ 9223372036854775807) :
    Calls Try.prog 4 #[.agg (shV Ai ni ci Al nl cl), .agg (shV Ai' ni' ci' Al' nl' cl'), .int .i64 id, .int .i64 level] w fun e w' => e = .returned (.bool true) ∧ Below w.heap.size w w' :=
  walkH_TreeTells htB htC htM htF htP htS Ai ni ci Al nl cl ids ll Ai' ni' ci' Al' nl' cl' ids' ll' id level w h h' hl1 hl2

end Go.Proofs.Ytjhcnhihmgpgbaa

