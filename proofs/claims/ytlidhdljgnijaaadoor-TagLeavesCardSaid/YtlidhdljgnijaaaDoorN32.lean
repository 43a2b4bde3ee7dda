import Derived.Test.YtlidhdljgnijaaaDoorN20
import Derived.Test.YtlidhdljgnijaaaDoorN31
import Derived.Test.YtlidhdljgnijaaaDoorN11
import Derived.Test.YtlidhdljgnijaaaDoorN22
import Derived.Test.YtlidhdljgnijaaaDoorN30
/-
  CONTRACT of coterieref13's (*reader).num. Printed by gen_tagnum.py.
-/
set_option linter.unusedVariables false
namespace Go.Proofs.YtlidhdljgnijaaaDoor
open Go.RowKit

/-- a number read, and what is left -/
def numV (l : List UInt8) (p wd : Nat) : Nat := if p + wd ≤ l.length then val ((l.drop p).take wd) else 0
def numP (l : List UInt8) (p wd : Nat) (sh : Bool) : Nat := if p + wd ≤ l.length ∧ sh = false then p + wd else p
def numS (l : List UInt8) (p wd : Nat) (sh : Bool) : Bool := sh || decide (l.length < p + wd)
end Go.Proofs.YtlidhdljgnijaaaDoor

/-
  WHAT BYTES ARE AS A TREE (layer 13), as functions of lists.
-/
set_option linter.unusedVariables false
namespace Go.Proofs.YtlidhdljgnijaaaDoor
open Go.RowKit

/-- so many numbers of a width, as far as there are bytes -/
def numsL (l : List UInt8) (wd : Nat) : Nat → Nat → Bool → List Int × (Nat × Bool)
  | 0, p, sh => ([], p, sh)
  | n + 1, p, sh => if sh = true then ([], p, sh) else (((numV l p wd : Nat) : Int) :: (numsL l wd n (numP l p wd sh) (numS l p wd sh)).1, (numsL l wd n (numP l p wd sh) (numS l p wd sh)).2)
/-- so many levels -/
def lvsL (l : List UInt8) : Nat → Nat → Bool → List (List Int) × (Nat × Bool)
  | 0, p, sh => ([], p, sh)
  | n + 1, p, sh => if sh = true then ([], p, sh) else
    ((numsL l 1 (numV l p 2) (numP l p 2 sh) (numS l p 2 sh)).1 :: (lvsL l n (numsL l 1 (numV l p 2) (numP l p 2 sh) (numS l p 2 sh)).2.1 (numsL l 1 (numV l p 2) (numP l p 2 sh) (numS l p 2 sh)).2.2).1,
      (lvsL l n (numsL l 1 (numV l p 2) (numP l p 2 sh) (numS l p 2 sh)).2.1 (numsL l 1 (numV l p 2) (numP l p 2 sh) (numS l p 2 sh)).2.2).2)
/-- a tree's members, and its levels, and where they end -/
def idsR (l : List UInt8) (a : Nat) : List Int × (Nat × Bool) := numsL l 4 (numV l (numP l a 1 false) 2) (numP l (numP l a 1 false) 2 (numS l a 1 false)) (numS l (numP l a 1 false) 2 (numS l a 1 false))
def lvsR (l : List UInt8) (a : Nat) : List (List Int) × (Nat × Bool) := lvsL l (numV l (idsR l a).2.1 1) (numP l (idsR l a).2.1 1 (idsR l a).2.2) (numS l (idsR l a).2.1 1 (idsR l a).2.2)
def kindR (l : List UInt8) (a : Nat) : Int := ((numV l a 1 : Nat) : Int)
/-- how many nodes there are; the points -/
def manyR (l : List UInt8) (a : Nat) : Nat := (nodesI (kindR l a) (idsR l a).1 (lvsR l a).1).length
def ptsR (l : List UInt8) (a : Nat) : List UInt8 := (l.drop (lvsR l a).2.1).take (manyR l a * 32)
/-- why there is no tree -/
def readE (l : List UInt8) (d : Int) : Int :=
  if d < 0 ∨ (l.length : Int) < d then 1
  else if (lvsR l d.toNat).2.2 = true then 2
  else if mayB (kindR l d.toNat) (idsR l d.toNat).1 (lvsR l d.toNat).1 = false then 3
  else if l.length < (lvsR l d.toNat).2.1 + manyR l d.toNat * 32 then 2
  else if okG (kindR l d.toNat) (idsR l d.toNat).1 (lvsR l d.toNat).1 (manyR l d.toNat) (ptsR l d.toNat) = false then 3 else 0
def readN (l : List UInt8) (d : Int) : Int := ((lvsR l d.toNat).2.1 + manyR l d.toNat * 32 : Nat)
def ReadPost (w : World) (l : List UInt8) (d : Int) (e : Ending) (w' : World) : Prop :=
  Below w.heap.size w w' ∧ ((readE l d ≠ 0 ∧ e = .returned (.tuple #[.agg (tgV 0 none 0 0 none 0 0 none 0 0), .int .i64 0, .int .i64 (readE l d)])) ∨
    (readE l d = 0 ∧ ∃ Ai ni ci Al nl cl Ap cp, e = .returned (.tuple #[.agg (tgV (kindR l d.toNat) Ai ni ci Al nl cl Ap (manyR l d.toNat) cp), .int .i64 (readN l d), .int .i64 0]) ∧
      TgR w' w'.heap.size Ai ni ci Al nl cl (idsR l d.toNat).1 (lvsR l d.toNat).1 Ap (manyR l d.toNat) cp (ptsR l d.toNat)))
theorem numP_le {l : List UInt8} {p wd : Nat} {sh : Bool} (h : p ≤ l.length) : numP l p wd sh ≤ l.length := by
  rw [numP]
  split
  · next c => exact c.1
  · exact h
theorem numsL_le {l : List UInt8} (wd : Nat) : ∀ (n p : Nat) (sh : Bool), p ≤ l.length → (numsL l wd n p sh).2.1 ≤ l.length ∧ (numsL l wd n p sh).1.length ≤ n
  | 0, p, sh, h => ⟨h, by simp [numsL]⟩
  | n + 1, p, sh, h => by
    rw [numsL]
    split
    · exact ⟨h, by simp⟩
    · obtain ⟨h1, h2⟩ := numsL_le wd n (numP l p wd sh) (numS l p wd sh) (numP_le h)
      exact ⟨h1, by simp only [List.length_cons]; omega⟩

end Go.Proofs.YtlidhdljgnijaaaDoor

/-
  CONTRACT of the document's Nodes (coterieref11), for shapes that are not few.
-/
set_option linter.unusedVariables false
namespace Go.Proofs.YtlidhdljgnijaaaDoor
open Go.RowKit

end Go.Proofs.YtlidhdljgnijaaaDoor

/-
  CONTRACT of coterieref13's Read.
-/
set_option linter.unusedVariables false
namespace Go.Proofs.YtlidhdljgnijaaaDoor
open Go.RowKit

theorem results_c2 {P : Program} {fn : Func} {p q r : Tmp} {ty : TypeId} (h : fn.results = #[.cell p ty, .tmp q, .tmp r]) (tmps : Array Value) (w : World) (g : Nat) (t : TypeId) (cs : Array Value) (d : TypeDesc)
    (hq : tmps.getD p undef = .pointer (some ⟨g, 0, none⟩)) (hg : RowC w g t cs) (hu : P.underlying ty = some d) (hd : (match d with | .struct _ | .array _ _ => true | _ => false) = true) (hi : (P.info? ty).map (·.size) = some cs.size) :
    (results fn tmps).run P w = .ok (.tuple #[.agg cs, tmps.getD q undef, tmps.getD r undef]) w := by
  have hq' : tmps[p]?.getD undef = .pointer (some ⟨g, 0, none⟩) := by simpa using hq
  simp [results, h, hq', asAddr, run_loadVar_row w g t ty cs (0, 0) d hg hu hd hi]
theorem numV_lt4 (l : List UInt8) (p : Nat) {wd : Nat} (h : wd ≤ 4) : numV l p wd < 256 ^ wd := by
  rw [numV]
  split
  · have h1 := val_lt ((l.drop p).take wd)
    have h2 : ((l.drop p).take wd).length ≤ wd := by rw [List.length_take]; omega
    have h3 : 256 ^ ((l.drop p).take wd).length ≤ 256 ^ wd := Nat.pow_le_pow_right (by omega) h2
    omega
  · exact Nat.pow_pos (by omega)
theorem lvsL_le (l : List UInt8) : ∀ (n p : Nat) (sh : Bool), p ≤ l.length → ∀ x ∈ (lvsL l n p sh).1, x.length ≤ 65535
  | 0, p, sh, h => by intro x hx; simp [lvsL] at hx
  | n + 1, p, sh, h => by
    intro x hx
    rw [lvsL] at hx
    split at hx
    · simp at hx
    · have h1 := numsL_le (l := l) 1 (numV l p 2) (numP l p 2 sh) (numS l p 2 sh) (numP_le h)
      rcases List.mem_cons.1 hx with rfl | hx
      · have h2 := numV_lt4 l p (wd := 2) (by omega)
        have h3 := h1.2
        omega
      · exact lvsL_le l n _ _ h1.1 x hx
end Go.Proofs.YtlidhdljgnijaaaDoor

