import Derived.Test.YtjhcnhihmgpgbaaG37
import Derived.Test.YtjhcnhihmgpgbaaG48
/-
  THE WALK of TreeStays (coterielaw10): true, whatever the input.
-/
set_option linter.unusedVariables false
namespace Go.Proofs.Ytjhcnhihmgpgbaa
open Go.RowKit

theorem walk_TreeStays (A : Option Addr) (n c : Nat) (ops : List (Int × Bool)) (w : World) (hc : n ≤ c) (hm : c ≤ maxLen) (hl : ops.length = n) (hi64 : ∀ p ∈ ops, -9223372036854775808 ≤ p.1 ∧ p.1 ≤ 9223372036854775807)
    (hops : ∀ j (hj : j < ops.length), ∃ b o, A = some ⟨b, o, none⟩ ∧ b < w.heap.size ∧ w.rangeAt b (o + j * 2) [iv ops[j].1, .bool ops[j].2]) :
    Calls Try.prog 6 #[.slice A n c] w fun e w' => e = .returned (.bool true) ∧ Below w.heap.size w w' :=
  walkH_TreeStays htB htC htM htI htD A n c ops w (Nat.le_trans hc hm) hl hi64 hops

end Go.Proofs.Ytjhcnhihmgpgbaa

