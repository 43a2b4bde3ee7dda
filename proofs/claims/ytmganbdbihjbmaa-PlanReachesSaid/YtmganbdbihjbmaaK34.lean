import Derived.Test.YtmganbdbihjbmaaK28
import Derived.Carry
/-
  A MAP OF NUMBERS TO PLACES, as a function (-1: none), for the program's plan.places, Make, kept.
-/
set_option linter.unusedVariables false
set_option maxRecDepth 1000000
namespace Go.Proofs.Ytmganbdbihjbmaa
open Go.RowKit
open Go.Maps


theorem zero_int (w : World) : (zeroValue 3).run Try.prog w = .ok (.int .i64 0) w := by kernel_rfl
theorem elem_i64 {x : Int} (h : I64 x) : plainElem (H := Nat) Try.prog 3 (.int .i64 x) = some (.lit (.int .i64 x), []) := plainElem_int Try.underlying3 (WalkArith.wf_i64 h)
def wellF (f : Int → Int) : Prop := ∀ x, f x = -1 ∨ (0 ≤ f x ∧ f x ≤ 1000000)
/-- a map that the call made: of each number its place, -1 if there is none -/
def MapI (w : World) (b n : Nat) (f : Int → Int) : Prop := ∃ D : DataW Nat, w.ownsMap Try.prog 3 (plainElem Try.prog 3) b n D ∧
  ∀ x : Int, Maps.has D (.int .i64 x) = decide (f x ≠ -1) ∧ D.atKey (.int .i64 x) (.lit (.int .i64 0)) = .lit (.int .i64 (if f x = -1 then 0 else f x))
theorem run_makeMapH {t : TypeId} {k e : TypeId} (ht : Try.prog.underlying t = some (.map k e)) (n : Int) (w : World) : (Instr.makeMap t (some (.int .i64 n))).run Try.prog w = .ok (.map (some w.heap.size)) (w.alloc (.map #[] 0)) := by
  simp [Instr.makeMap, run_underlying ht, asInt, asIntOf, Result.andThen]
theorem MapI.made (w : World) : MapI (w.alloc (.map #[] 0)) w.heap.size 0 (fun _ => -1) := ⟨_, World.ownsMap_made _ _ _ _, fun x => ⟨by simp [Maps.has], by simp [DataW.atKey]⟩⟩
theorem MapI.look {w : World} {b n : Nat} {f : Int → Int} (h : MapI w b n f) {x : Int} (hx : I64 x) : (Instr.lookup 70 (.map (some b)) (.int .i64 x) true).run Try.prog w = .ok (.tuple #[.int .i64 (if f x = -1 then 0 else f x), .bool (decide (f x ≠ -1))]) w := by
  obtain ⟨D, h1, h3⟩ := h
  obtain ⟨v, ps, hrun, hv⟩ := h1.look_ok key_int Try.underlying70 (zero_int w) (elem_i64 (x := 0) ⟨by decide, by decide⟩) (keyOf_i64 hx)
  obtain ⟨c, rfl, hc, _⟩ := plainElem_int_inv Try.underlying3 hv
  simp only [Prod.mk.injEq] at hc
  rw [(h3 x).2] at hc
  have e := hc.1
  injection e with e
  injection e with _ e
  rw [hrun, (h3 x).1, e]
theorem MapI.put {w : World} {b n : Nat} {f : Int → Int} (h : MapI w b n f) {x : Int} (hx : I64 x) (hn : n < maxLen) {p : Nat} (hp : p ≤ 1000000) :
    ∃ w', (Instr.mapUpdate 70 (.map (some b)) (.int .i64 x) (.int .i64 (p : Nat))).run Try.prog w = .ok () w' ∧ MapI w' b (n + 1) (fun y => if y = x then (p : Int) else f y) ∧ w.grownBy w' (some b) := by
  obtain ⟨D, h1, h3⟩ := h
  obtain ⟨w', hrun, r1, r2⟩ := h1.update key_int Try.underlying70 hn (keyOf_i64 hx) (elem_i64 (x := (p : Int)) ⟨by omega, by omega⟩)
  refine ⟨w', hrun, ⟨_, r1, fun y => ?_⟩, r2⟩
  dsimp only
  by_cases e : y = x
  · subst e
    simp only [if_true]
    rw [has_put_same h1.isMap (key_lit _), atKey_put_same h1.isMap (key_lit _), if_neg (by omega)]
    exact ⟨(decide_eq_true (by omega)).symm, rfl⟩
  · simp only [e, if_false]
    rw [has_put_other (lit_ne e), atKey_put_other (lit_ne e)]
    exact h3 y
theorem MapI.del {w : World} {b n : Nat} {f : Int → Int} (h : MapI w b n f) {x : Int} (hx : I64 x) (ty : TypeId) :
    ∃ w', (Builtin.delete_ #[70, 3] ty #[.map (some b), .int .i64 x]).run Try.prog w = .ok (.tuple #[]) w' ∧ MapI w' b n (fun y => if y = x then -1 else f y) ∧ w.grownBy w' (some b) := by
  obtain ⟨D, h1, h3⟩ := h
  obtain ⟨w', hrun, r1, r2⟩ := h1.drop key_int Try.underlying70 (keyOf_i64 hx) ty
  refine ⟨w', hrun, ⟨_, r1, fun y => ?_⟩, r2.grown⟩
  dsimp only
  by_cases e : y = x
  · subst e
    simp only [if_true]
    rw [has_del_same, atKey_del_same]
    exact ⟨rfl, rfl⟩
  · simp only [e, if_false]
    rw [has_del_other (lit_ne e), atKey_del_other (lit_ne e)]
    exact h3 y
theorem MapI.below {w w' : World} {b n : Nat} {f : Int → Int} (h : MapI w b n f) {B : Nat} (hb : Below B w w') (hB : b < B) : MapI w' b n f := by
  obtain ⟨D, ⟨es, clock, q1, q2⟩, h2⟩ := h
  exact ⟨D, ⟨es, clock, by rw [hb.block b hB, q1], q2⟩, h2⟩
theorem MapI.kept {w w' : World} {b n : Nat} {f : Int → Int} (h : MapI w b n f) {row : Option Nat} (hg : w.grownBy w' row) (hne : some b ≠ row) : MapI w' b n f := by
  obtain ⟨D, h1, h2⟩ := h
  exact ⟨D, h1.kept hg hne, h2⟩
theorem MapI.lt {w : World} {b n : Nat} {f : Int → Int} (h : MapI w b n f) : b < w.heap.size := by
  obtain ⟨D, h1, _⟩ := h
  exact h1.lt
theorem MapI.more {w : World} {b n n' : Nat} {f : Int → Int} (h : MapI w b n f) (hn : n ≤ n') : MapI w b n' f := by
  obtain ⟨D, h1, h2⟩ := h
  exact ⟨D, h1.mono hn, h2⟩
theorem MapI.ext {w : World} {b n : Nat} {f f' : Int → Int} (h : MapI w b n f) (e : ∀ x, f x = f' x) : MapI w b n f' := by
  rw [show f' = f from funext fun x => (e x).symm]
  exact h

end Go.Proofs.Ytmganbdbihjbmaa

