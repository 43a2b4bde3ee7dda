import Derived.Test.YtjhcnhihmgpgbaaG37
import Derived.Test.YtjhcnhihmgpgbaaG45
/-
  THE WALK of TreeBuilds (coterielaw10): true, whatever the input.
-/
set_option linter.unusedVariables false
namespace Go.Proofs.Ytjhcnhihmgpgbaa
open Go.RowKit

theorem walk_TreeBuilds (A : Option Addr) (n c : Nat) (xs : List Int) (w : World) (hc : n ≤ c) (hm : c ≤ maxLen) (hr : Rd w w.heap.size A n (xs.map iv)) :
    Calls Try.prog 5 #[.slice A n c] w fun e w' => e = .returned (.bool true) ∧ Below w.heap.size w w' :=
  walkH_TreeBuilds htB htC htM A n c xs w (Nat.le_trans hc hm) hr

end Go.Proofs.Ytjhcnhihmgpgbaa

