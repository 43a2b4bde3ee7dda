import Derived.Test.YtmganbdbihjbmaaK07
import Derived.Maps.OwnOps
import Derived.Maps.OwnSet
import Derived.WalkArith
/-
  A MAP OF NUMBERS TO TRUE, AS A SET (for TreeStays).
-/
set_option linter.unusedVariables false
set_option maxRecDepth 1000000
namespace Go.Proofs.Ytmganbdbihjbmaa
open Go.RowKit
open Go.Maps

theorem key_int : Keyed Try.prog 3 := int_keyed Try.underlying3
def I64 (x : Int) : Prop := -9223372036854775808 ≤ x ∧ x ≤ 9223372036854775807
theorem keyOf_i64 {x : Int} (h : I64 x) : keyOf Try.prog 3 (.int .i64 x) = some (.int .i64 x) := keyOf_int_mk Try.underlying3 (WalkArith.wf_i64 h)

theorem zero_bool (w : World) : (zeroValue 4).run Try.prog w = .ok (.bool false) w := by kernel_rfl
theorem elem_bool (x : Bool) : plainElem (H := Nat) Try.prog 4 (.bool x) = some (.lit (.bool x), []) := plainElem_bool Try.underlying4 x
theorem elem_bool_inv {v : Value} {z : DataW Nat × List MemPlace} (h : plainElem Try.prog 4 v = some z) : ∃ x, v = .bool x ∧ z = (.lit (.bool x), []) := by
  unfold plainElem at h
  rw [Try.underlying4] at h
  cases v <;> simp at h
  exact ⟨_, rfl, h.symm⟩
/-- a set of numbers: a map that the call made, its elements true -/
def SetM (w : World) (b n : Nat) (s : List Int) : Prop := ∃ D : DataW Nat, w.ownsMap Try.prog 3 (plainElem Try.prog 4) b n D ∧ Maps.size D = s.length ∧
  ∀ x : Int, Maps.has D (.int .i64 x) = decide (x ∈ s) ∧ D.atKey (.int .i64 x) (.lit (.bool false)) = .lit (.bool (decide (x ∈ s)))
theorem SetM.made (w : World) : SetM (w.alloc (.map #[] 0)) w.heap.size 0 [] := ⟨_, World.ownsMap_made _ _ _ _, rfl, fun x => ⟨rfl, rfl⟩⟩
theorem SetM.look {w : World} {b n : Nat} {s : List Int} (h : SetM w b n s) {x : Int} (hx : I64 x) : (Instr.lookup 55 (.map (some b)) (.int .i64 x) false).run Try.prog w = .ok (.bool (decide (x ∈ s))) w := by
  obtain ⟨D, h1, _, h3⟩ := h
  obtain ⟨v, ps, hrun, hv⟩ := h1.lookup key_int Try.underlying55 (zero_bool w) (elem_bool false) (keyOf_i64 hx)
  obtain ⟨y, rfl, hy⟩ := elem_bool_inv hv
  rw [(h3 x).2] at hy
  injection hy with hy
  injection hy with hy
  injection hy with hy
  rw [hrun, hy]
theorem SetM.len {w : World} {b n : Nat} {s : List Int} (h : SetM w b n s) (ty : TypeId) : (Builtin.len_ #[55] ty #[.map (some b)]).run Try.prog w = .ok (.int .i64 (s.length : Int)) w := by
  obtain ⟨D, h1, h2, _⟩ := h
  rw [← h2]
  exact h1.len Try.underlying55 ty
theorem key_lit (x : Int) : WideAt.IsKeyLit (.int .i64 x) := trivial
theorem lit_ne {x y : Int} (h : y ≠ x) : (Lit.int .i64 y) ≠ .int .i64 x := fun e => h (by injection e)
theorem SetM.put {w : World} {b n : Nat} {s : List Int} (h : SetM w b n s) {x : Int} (hx : I64 x) (hn : n < maxLen) (hs : x ∉ s) {s' : List Int} (hl : s'.length = s.length + 1) (hm : ∀ y, y ∈ s' ↔ y = x ∨ y ∈ s) :
    ∃ w', (Instr.mapUpdate 55 (.map (some b)) (.int .i64 x) (.bool true)).run Try.prog w = .ok () w' ∧ SetM w' b (n + 1) s' ∧ w.grownBy w' (some b) := by
  obtain ⟨D, h1, h2, h3⟩ := h
  obtain ⟨w', hrun, r1, r2⟩ := h1.update key_int Try.underlying55 hn (keyOf_i64 hx) (elem_bool true)
  refine ⟨w', hrun, ⟨_, r1, ?_, fun y => ?_⟩, r2⟩
  · rw [Maps.size_put (h1.tidy key_int), (h3 x).1, if_neg (by simpa using hs), h2, hl]
  · by_cases e : y = x
    · subst e
      have ht : decide (y ∈ s') = true := by simp [hm]
      rw [ht, has_put_same h1.isMap (key_lit _), atKey_put_same h1.isMap (key_lit _)]
      exact ⟨rfl, rfl⟩
    · have ht : decide (y ∈ s') = decide (y ∈ s) := by simp [hm, e]
      rw [ht, has_put_other (lit_ne e), atKey_put_other (lit_ne e)]
      exact h3 y
theorem SetM.del {w : World} {b n : Nat} {s : List Int} (h : SetM w b n s) {x : Int} (hx : I64 x) (hs : x ∈ s) {s' : List Int} (hl : s'.length + 1 = s.length) (hm : ∀ y, y ∈ s' ↔ y ∈ s ∧ y ≠ x) (ty : TypeId) :
    ∃ w', (Builtin.delete_ #[55, 3] ty #[.map (some b), .int .i64 x]).run Try.prog w = .ok (.tuple #[]) w' ∧ SetM w' b n s' ∧ w.grownBy w' (some b) := by
  obtain ⟨D, h1, h2, h3⟩ := h
  obtain ⟨w', hrun, r1, r2⟩ := h1.drop key_int Try.underlying55 (keyOf_i64 hx) ty
  refine ⟨w', hrun, ⟨_, r1, ?_, fun y => ?_⟩, r2.grown⟩
  · have := Maps.size_del (k := .int .i64 x) (h1.tidy key_int)
    rw [(h3 x).1, if_pos (by simpa using hs), h2] at this
    omega
  · by_cases e : y = x
    · subst e
      have ht : decide (y ∈ s') = false := by simp [hm]
      rw [ht, has_del_same, atKey_del_same]
      exact ⟨rfl, rfl⟩
    · have ht : decide (y ∈ s') = decide (y ∈ s) := by simp [hm, e]
      rw [ht, has_del_other (lit_ne e), atKey_del_other (lit_ne e)]
      exact h3 y
theorem SetM.below {w w' : World} {b n : Nat} {s : List Int} (h : SetM w b n s) {B : Nat} (hb : Below B w w') (hB : b < B) : SetM w' b n s := by
  obtain ⟨D, ⟨es, clock, q1, q2⟩, h2⟩ := h
  exact ⟨D, ⟨es, clock, by rw [hb.block b hB, q1], q2⟩, h2⟩
theorem SetM.more {w : World} {b n n' : Nat} {s : List Int} (h : SetM w b n s) (hn : n ≤ n') : SetM w b n' s := by
  obtain ⟨D, h1, h2⟩ := h
  exact ⟨D, h1.mono hn, h2⟩
theorem SetM.lt {w : World} {b n : Nat} {s : List Int} (h : SetM w b n s) : b < w.heap.size := by
  obtain ⟨D, h1, _⟩ := h
  exact h1.lt

end Go.Proofs.Ytmganbdbihjbmaa

