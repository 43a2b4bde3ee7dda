import Derived.Test.YtmganbdbihjbmaaK34
import Derived.Test.YtmganbdbihjbmaaK31
/-
  A MAP OF NUMBERS TO STEPS, as a function to values (none: no entry), for coterielaw12.PlanReaches.
-/
set_option linter.unusedVariables false
set_option maxRecDepth 1000000
namespace Go.Proofs.Ytmganbdbihjbmaa
open Go.RowKit
open Go.Maps

/-- an element, read as itself -/
def heldV (v : Value) : Option (DataW Value × List MemPlace) := some (.held v, [])
def stepZ : Value := .agg #[.int .i64 0, .int .i64 0, .slice none 0 0]
theorem zero_step (w : World) : (zeroValue 51).run Try.prog w = .ok stepZ w := by kernel_rfl
/-- a map that the call made: of each number its step, if there is one -/
def MapS (w : World) (b n : Nat) (f : Int → Option Value) : Prop := ∃ D : DataW Value, w.ownsMap Try.prog 3 heldV b n D ∧
  ∀ x : Int, Maps.has D (.int .i64 x) = (f x).isSome ∧ D.atKey (.int .i64 x) (.held stepZ) = .held ((f x).getD stepZ)
theorem MapS.made (w : World) : MapS (w.alloc (.map #[] 0)) w.heap.size 0 (fun _ => none) := ⟨_, World.ownsMap_made _ _ _ _, fun x => ⟨by simp [Maps.has], by simp [DataW.atKey]⟩⟩
theorem MapS.look {w : World} {b n : Nat} {f : Int → Option Value} (h : MapS w b n f) {x : Int} (hx : I64 x) : (Instr.lookup 49 (.map (some b)) (.int .i64 x) true).run Try.prog w = .ok (.tuple #[(f x).getD stepZ, .bool (f x).isSome]) w := by
  obtain ⟨D, h1, h3⟩ := h
  obtain ⟨v, ps, hrun, hv⟩ := h1.look_ok key_int Try.underlying49 (zero_step w) (rfl : heldV stepZ = some (.held stepZ, [])) (keyOf_i64 hx)
  rw [(h3 x).2] at hv
  have e : v = (f x).getD stepZ := by
    have := Option.some.inj hv
    injection this with e1 _
    injection e1
  rw [hrun, (h3 x).1, e]
theorem MapS.put {w : World} {b n : Nat} {f : Int → Option Value} (h : MapS w b n f) {x : Int} (hx : I64 x) (hn : n < maxLen) (v : Value) :
    ∃ w', (Instr.mapUpdate 49 (.map (some b)) (.int .i64 x) v).run Try.prog w = .ok () w' ∧ MapS w' b (n + 1) (fun y => if y = x then some v else f y) ∧ w.grownBy w' (some b) := by
  obtain ⟨D, h1, h3⟩ := h
  obtain ⟨w', hrun, r1, r2⟩ := h1.update key_int Try.underlying49 hn (keyOf_i64 hx) (rfl : heldV v = some (.held v, []))
  refine ⟨w', hrun, ⟨_, r1, fun y => ?_⟩, r2⟩
  dsimp only
  by_cases e : y = x
  · subst e
    simp only [if_true]
    rw [has_put_same h1.isMap (key_lit _), atKey_put_same h1.isMap (key_lit _)]
    exact ⟨rfl, rfl⟩
  · simp only [e, if_false]
    rw [has_put_other (lit_ne e), atKey_put_other (lit_ne e)]
    exact h3 y
theorem MapS.below {w w' : World} {b n : Nat} {f : Int → Option Value} (h : MapS w b n f) {B : Nat} (hb : Below B w w') (hB : b < B) : MapS w' b n f := by
  obtain ⟨D, ⟨es, clock, q1, q2⟩, h2⟩ := h
  exact ⟨D, ⟨es, clock, by rw [hb.block b hB, q1], q2⟩, h2⟩
theorem MapS.lt {w : World} {b n : Nat} {f : Int → Option Value} (h : MapS w b n f) : b < w.heap.size := by
  obtain ⟨D, h1, _⟩ := h
  exact h1.lt
theorem MapS.ext {w : World} {b n : Nat} {f f' : Int → Option Value} (h : MapS w b n f) (e : ∀ x, f x = f' x) : MapS w b n f' := by
  rw [show f' = f from funext fun x => (e x).symm]
  exact h

end Go.Proofs.Ytmganbdbihjbmaa

