import Derived.Test.YtjhcnhihmgpgbaaG37
import Derived.Test.YtjhcnhihmgpgbaaG27
import Derived.Test.YtjhcnhihmgpgbaaG28
/-
  THE WALK of TreeBack (coterielaw10): true, whatever the input.
-/
set_option linter.unusedVariables false
namespace Go.Proofs.Ytjhcnhihmgpgbaa
open Go.RowKit

theorem walk_TreeBack (Ai : Option Addr) (ni ci : Nat) (Al : Option Addr) (nl cl : Nat) (ids : List Int) (ll : List (List Int)) (id : Int) (w : World) (h : ShR w w.heap.size Ai ni ci Al nl cl ids ll) (hi1 : -9223372036854775808 ≤ id) (hi2 : id ≤ 9223372036854775807) :
    Calls Try.prog 7 #[.agg (shV Ai ni ci Al nl cl), .int .i64 id] w fun e w' => e = .returned (.bool true) ∧ Below w.heap.size w w' :=
  walkH_TreeBack htB htC htM htI htD htF Ai ni ci Al nl cl ids ll id w h

end Go.Proofs.Ytjhcnhihmgpgbaa

/-
  THE WALK of TreeSpans (coterielaw10): true, whatever the input.
-/
set_option linter.unusedVariables false
namespace Go.Proofs.Ytjhcnhihmgpgbaa
open Go.RowKit

theorem walk_TreeSpans (Ai : Option Addr) (ni ci : Nat) (Al : Option Addr) (nl cl : Nat) (ids : List Int) (ll : List (List Int)) (id : Int) (w : World) (h : ShR w w.heap.size Ai ni ci Al nl cl ids ll) (hi1 : -9223372036854775808 ≤ id) (hi2 : id ≤ 9223372036854775807) :
    Calls Try.prog 8 #[.agg (shV Ai ni ci Al nl cl), .int .i64 id] w fun e w' => e = .returned (.bool true) ∧ Below w.heap.size w w' :=
  walkH_TreeSpans htB htC htM htF htP htS Ai ni ci Al nl cl ids ll id w h

end Go.Proofs.Ytjhcnhihmgpgbaa

/-
  THE WALK of TreeOrder (coterielaw10): true, whatever the input.
-/
set_option linter.unusedVariables false
namespace Go.Proofs.Ytjhcnhihmgpgbaa
open Go.RowKit

theorem walk_TreeOrder (A : Option Addr) (n c : Nat) (xs : List Int) (At : Option Addr) (m ct : Nat) (ts : List UInt8) (w : World) (hc : n ≤ c) (hm : c ≤ maxLen) (hr : Rd w w.heap.size A n (xs.map iv)) (hc2 : m ≤ ct) (hm2 : ct ≤ maxLen) (ht : Rd w w.heap.size At m (ts.map bv)) :
    Calls Try.prog 9 #[.slice A n c, .slice At m ct] w fun e w' => e = .returned (.bool true) ∧ Below w.heap.size w w' :=
  walkH_TreeOrder htB htC htM A n c xs At m ct ts w (Nat.le_trans hc hm) (Nat.le_trans hc2 hm2) hr ht

end Go.Proofs.Ytjhcnhihmgpgbaa

/-
  THE WALK of TreeNear (coterielaw10): true, whatever the input.
-/
set_option linter.unusedVariables false
namespace Go.Proofs.Ytjhcnhihmgpgbaa
open Go.RowKit

theorem walk_TreeNear (Ai : Option Addr) (ni ci : Nat) (Al : Option Addr) (nl cl : Nat) (ids : List Int) (ll : List (List Int)) (id : Int) (w : World) (h : ShR w w.heap.size Ai ni ci Al nl cl ids ll) (hi1 : -9223372036854775808 ≤ id) (hi2 : id ≤ 9223372036854775807) :
    Calls Try.prog 10 #[.agg (shV Ai ni ci Al nl cl), .int .i64 id] w fun e w' => e = .returned (.bool true) ∧ Below w.heap.size w w' :=
  walkH_TreeNear htB htC htM htI htD Ai ni ci Al nl cl ids ll id w h

end Go.Proofs.Ytjhcnhihmgpgbaa

