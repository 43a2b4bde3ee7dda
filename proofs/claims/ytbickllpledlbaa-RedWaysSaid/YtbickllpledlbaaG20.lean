import Derived.Test.YtbickllpledlbaaG19
import Derived.Deep.DeepCutAuto
import Derived.Deep.MidRow
/-
  CONTRACT of the document's with (coterieref10), of a node that has some below.
-/
set_option linter.unusedVariables false
namespace Go.Proofs.Ytbickllpledlbaa
open Go.RowKit

theorem NdL.more {w : World} {B B' : Nat} {F : List Nd} {vs : List Value} (h : NdL w B F vs) (hb : B ≤ B') : NdL w B' F vs := NdL.keep (fun _ _ _ hr => hr.more hb) F vs h
theorem SlN.drewV {gs : List Nat} {w : World} {B : Nat} {A : Option Addr} {n c : Nat} {K : List Nd} (h : SlN (vw gs w) B A n c K) (hc : Cells gs w) : SlN (vw gs w.drew) B A n c K :=
  h.keep (vw_keep (w := w) (w' := w.drew) hc (fun g hg => hc g hg) (fun _ _ _ hr => hr.drew))
end Go.Proofs.Ytbickllpledlbaa

/-
  AN OWN ROW OF NODES: what it reads, a node stored into it.
-/
set_option linter.unusedVariables false
namespace Go.Proofs.Ytbickllpledlbaa
open Go.RowKit

theorem hid1_setCells (g : Nat) : ∀ (vs : List Value) (o : Nat) (w : World), hid1 (w.setCells g o vs) g = hid1 w g
  | [], _, _ => rfl
  | v :: r, o, w => by rw [World.setCells, hid1_setCells g r, hid1_setCell]
theorem vw_setCells (g : Nat) (gs : List Nat) (vs : List Value) (o : Nat) (w : World) : vw (g :: gs) (w.setCells g o vs) = vw (g :: gs) w := by rw [vw, vw, hid1_setCells]
theorem size_setCellsT (g : Nat) : ∀ (vs : List Value) (o : Nat) (w : World), (w.setCells g o vs).heap.size = w.heap.size
  | [], _, _ => rfl
  | v :: r, o, w => by rw [World.setCells, size_setCellsT g r]; simp
theorem flatV_set : ∀ {F : List Nd} {vs : List Value} (i : Nat) (x : Nd) (v : Value), vs.length = F.length → i < F.length → ((flatV F vs).set (i * 2) (iv x.id)).set (i * 2 + 1) v = flatV (F.set i x) (vs.set i v)
  | [], _, i, _, _, _, hi => by simp at hi
  | y :: F, u :: vs, 0, x, v, _, _ => by simp [flatV]
  | y :: F, u :: vs, i + 1, x, v, h, hi => by
    rw [flatV, List.set_cons_succ, List.set_cons_succ, flatV, ← flatV_set i x v (by simpa using h) (by simpa using hi), show (i + 1) * 2 = i * 2 + 1 + 1 by omega, List.set_cons_succ, List.set_cons_succ, List.set_cons_succ, List.set_cons_succ]
theorem NdL.set {w : World} {B : Nat} : ∀ {F : List Nd} {vs : List Value} (i : Nat) {x : Nd} {v : Value}, NdL w B F vs → NdV w B x v → NdL w B (F.set i x) (vs.set i v)
  | [], [], _, _, _, h, _ => h
  | y :: F, u :: vs, 0, _, _, ⟨_, h2⟩, hx => ⟨hx, h2⟩
  | y :: F, u :: vs, i + 1, _, _, ⟨h1, h2⟩, hx => ⟨h1, NdL.set i h2 hx⟩

/-- a node is stored into a row: one step of a region that draws its order -/
theorem step_store_midT {P : Program} {ops : Array Oper} {o : Oper} {a : Act} {w : World} {K : Act → World → Prop} {Q : Exit → Act → World → Prop} {E : Prop} (hgd : o.guard = none) (hd : o.dst = none) (ty : TypeId) (x y : Operand) (ho : o.op = .store ty x y)
    (b off : Nat) (cells : Array Value) (hx : a.eval x = .pointer (some ⟨b, off, none⟩)) (hy : a.eval y = .agg cells)
    (ht : w.there b off cells.size) (hi : (P.info? ty).map (·.size) = some cells.size) (h1 : cells.all (·.oneCell') = true)
    (h : K a (w.setCells b off cells.toList)) : if Region.wanted o (yielded ops a.tmps) = true then Oper.wp P o a w K Q else E := by
  rw [if_pos (by simp [Region.wanted, hgd])]
  refine wp_store_mid ty x y ho b off cells hx hy ht hi h1 ?_
  rw [hd]
  exact h

end Go.Proofs.Ytbickllpledlbaa

