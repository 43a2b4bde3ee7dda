import Derived.Test.YtlidhdljgnijaaaDoorN15
import Derived.Test.YtlidhdljgnijaaaDoorN19
/-
  TREES WITH POINTS (layer 13), as functions of lists; a tree's cells.
-/
set_option linter.unusedVariables false
namespace Go.Proofs.YtlidhdljgnijaaaDoor
open Go.RowKit

/-- a tree's cells -/
def tgV (kind : Int) (Ai : Option Addr) (ni ci : Nat) (Al : Option Addr) (nl cl : Nat) (Ap : Option Addr) (np cp : Nat) : Array Value := #[.int .i64 kind, .slice Ai ni ci, .slice Al nl cl, .slice Ap np cp]
theorem tgInfo2 {kind : Int} {Ai : Option Addr} {ni ci : Nat} {Al : Option Addr} {nl cl : Nat} {Ap : Option Addr} {np cp : Nat} : (Tryd.prog.info? 28).map (·.size) = some (tgV kind Ai ni ci Al nl cl Ap np cp).size := by kernel_rfl
/-- a tree is read -/
structure TgR (w : World) (B : Nat) (Ai : Option Addr) (ni ci : Nat) (Al : Option Addr) (nl cl : Nat) (ids : List Int) (ll : List (List Int)) (Ap : Option Addr) (np cp : Nat) (ps : List UInt8) : Prop where
  sh : ShR w B Ai ni ci Al nl cl ids ll
  pts : KyR w B Ap np cp ps
theorem TgR.below {w w' : World} {B : Nat} {Ai : Option Addr} {ni ci : Nat} {Al : Option Addr} {nl cl : Nat} {ids : List Int} {ll : List (List Int)} {Ap : Option Addr} {np cp : Nat} {ps : List UInt8} (h : TgR w B Ai ni ci Al nl cl ids ll Ap np cp ps) (hb : Below B w w') : TgR w' B Ai ni ci Al nl cl ids ll Ap np cp ps := ⟨h.sh.below hb, h.pts.below hb⟩
theorem TgR.more {w : World} {B B' : Nat} {Ai : Option Addr} {ni ci : Nat} {Al : Option Addr} {nl cl : Nat} {ids : List Int} {ll : List (List Int)} {Ap : Option Addr} {np cp : Nat} {ps : List UInt8} (h : TgR w B Ai ni ci Al nl cl ids ll Ap np cp ps) (hb : B ≤ B') : TgR w B' Ai ni ci Al nl cl ids ll Ap np cp ps := ⟨h.sh.more hb, h.pts.more hb⟩

/-- the first so many points are some -/
def someP (ps : List UInt8) : Nat → Bool
  | 0 => true
  | j + 1 => someP ps j && !(keyI ps j == zeroK)
/-- may the tree be? -/
def okG (kind : Int) (ids : List Int) (ll : List (List Int)) (np : Nat) (ps : List UInt8) : Bool := mayB kind ids ll && (decide (0 < (nodesI kind ids ll).length) && (decide ((nodesI kind ids ll).length = np) && someP ps np))
def chkG (kind : Int) (ids : List Int) (ll : List (List Int)) (np : Nat) (ps : List UInt8) : Int := if okG kind ids ll np ps = true then 0 else 1
theorem someP_no {ps : List UInt8} {j : Nat} (h : keyI ps j = zeroK) : ∀ m, j < m → someP ps m = false
  | 0, hm => absurd hm (by omega)
  | m + 1, hm => by
    rw [someP]
    by_cases e : j = m
    · subst e
      simp [h]
    · rw [someP_no h m (by omega), Bool.false_and]

/-- is the tree few? -/
def fewG (ids : List Int) (ll : List (List Int)) (np : Nat) : Bool := fewT ids ll && (decide (ids.length ≤ 100) && decide (np ≤ 400))
theorem tg_sh {w : World} {g : Nat} {kind : Int} {Ai : Option Addr} {ni ci : Nat} {Al : Option Addr} {nl cl : Nat} {Ap : Option Addr} {np cp : Nat} (h : RowC w g 28 (tgV kind Ai ni ci Al nl cl Ap np cp)) : w.rangeAt g 1 (shV Ai ni ci Al nl cl).toList :=
  h.mid 1 _ fun j u hu => by
    match j, hu with
    | 0, hu => exact hu
    | 1, hu => exact hu

end Go.Proofs.YtlidhdljgnijaaaDoor

/-
  CONTRACT of the document's Nodes (coterieref11).
-/
set_option linter.unusedVariables false
namespace Go.Proofs.YtlidhdljgnijaaaDoor
open Go.RowKit

end Go.Proofs.YtlidhdljgnijaaaDoor

/-
  CONTRACT of coterieref13's Check.
-/
set_option linter.unusedVariables false
namespace Go.Proofs.YtlidhdljgnijaaaDoor
open Go.RowKit

end Go.Proofs.YtlidhdljgnijaaaDoor

