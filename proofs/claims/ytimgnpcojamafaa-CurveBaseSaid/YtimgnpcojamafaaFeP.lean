/-
  WHAT THE PROGRAM's PRODUCT IS WALKED BY (package fe): sums of two words, rows stored behind calls, a region found in a function's body.
-/
import Derived.Test.YtimgnpcojamafaaFeB
import Derived.Test.YtimgnpcojamafaaReg
import Derived.Deep.RegionHeld3
import Derived.Deep.DeepCutAuto
set_option linter.unusedVariables false
namespace Go.Proofs.Ytimgnpcojamafaa
open Go.RowKit

/-- two words are a sum of n products, each of a part and (nineteen times) a part -/
def IsW (p q W n : Nat) : Prop := p = W / 18446744073709551616 ∧ q = W % 18446744073709551616 ∧ W ≤ n * 385365782469381566994211942137856 ∧ n ≤ 5
theorem IsW.zero : IsW 0 0 0 0 := ⟨rfl, rfl, Nat.le_refl _, by omega⟩
/-- a part; nineteen times one -/
def Part (x : Nat) : Prop := x < 4503599627370496
def Part19 (y : Nat) : Prop := y ≤ 85568392920039405

theorem plus_more (p q W n : Nat) (hw : IsW p q W n) (hn : n ≤ 4) (x y : Nat) (hx : Part x) (hy : Part19 y) (w : World) :
    Calls Try.prog 49 #[.agg #[.int .u64 (p : Int), .int .u64 (q : Int)], .int .u64 (x : Int), .int .u64 (y : Int)] w fun e w' =>
      ∃ p' q' : Nat, e = .returned (.agg #[.int .u64 (p' : Int), .int .u64 (q' : Int)]) ∧ IsW p' q' (W + x * y) (n + 1) ∧ Below w.heap.size w w' := by
  obtain ⟨rfl, rfl, hW, hn5⟩ := hw
  unfold Part at hx
  unfold Part19 at hy
  have hxy : x * y ≤ 385365782469381566994211942137856 := Nat.le_trans (Nat.mul_le_mul (show x ≤ 4503599627370495 by omega) hy) (by decide)
  refine (plus_any W x y (by omega) (by omega) (by omega) w).mono ?_
  rintro e w' ⟨rfl, hb⟩
  exact ⟨_, _, rfl, ⟨rfl, rfl, by omega, by omega⟩, hb⟩

theorem IsW.wide {p q W n : Nat} (h : IsW p q W n) : (.agg #[.int .u64 (p : Int), .int .u64 (q : Int)] : Value) = wideV W := by
  obtain ⟨rfl, rfl, _⟩ := h
  rfl

theorem plus_zero (x y : Nat) (hx : Part x) (hy : Part19 y) (w : World) :
    Calls Try.prog 49 #[.agg #[.int .u64 0, .int .u64 0], .int .u64 (x : Int), .int .u64 (y : Int)] w fun e w' =>
      ∃ p' q' : Nat, e = .returned (.agg #[.int .u64 (p' : Int), .int .u64 (q' : Int)]) ∧ IsW p' q' (x * y) 1 ∧ Below w.heap.size w w' :=
  (plus_more 0 0 0 0 IsW.zero (by omega) x y hx hy w).mono fun e w' ⟨p, q, he, hi, hb⟩ => ⟨p, q, he, by rwa [Nat.zero_add, Nat.zero_add] at hi, hb⟩

def wideC (p q : Nat) : Array Value := #[.int .u64 (p : Int), .int .u64 (q : Int)]

theorem info_wide : (Try.prog.info? 72).map (·.size) = some 2 := by kernel_rfl
theorem one_wide (p q : Nat) : (wideC p q).all (·.oneCell') = true := by simp [wideC, Value.oneCell']
theorem alloc_wide (ρ : Operand → Value) (o : Oper) (ho : o.op = .alloc 72) (w : World) :
    (execOp ρ o).run Try.prog w = .ok (.value (.pointer (some ⟨w.heap.size, 0, none⟩))) (w.alloc (.cells #[.int .u64 0, .int .u64 0] 72)) := by
  unfold execOp
  rw [ho]
  go_simp
/-- a row stored behind the calls of a region -/
theorem Ms.finRow {w0 w1 wE : World} {L : List (Nat × TypeId × Array Value)} (h : Ms w0 w1 L) (hb : Below w1.heap.size w1 wE) {g : Nat} (hg : w1.heap.size ≤ g) {t : TypeId} {z : Array Value} (hr : RowC wE g t z) (cs : Array Value) :
    Ms w0 (wE.setRow g cs) ((g, t, cs) :: L) :=
  ⟨below_setRow (h.old.trans (hb.mono h.old.size)) (Nat.le_trans h.old.size hg) cs, fun p hp => by
    rcases List.mem_cons.1 hp with rfl | hp
    · exact hr.row cs
    · have h1 := h.rows p hp
      exact (h1.call hb).rowFar (Nat.ne_of_lt (Nat.lt_of_lt_of_le h1.lt hg)) cs⟩
/-- the ten parts lie in two blocks -/
def PartsAt (bx b : Nat) (x0 x1 x2 x3 x4 y0 y1 y2 y3 y4 : Nat) (wx : World) : Prop :=
  wx.cell? ⟨bx, 0, none⟩ = some (.int .u64 (x0 : Int)) ∧ wx.cell? ⟨bx, 1, none⟩ = some (.int .u64 (x1 : Int)) ∧ wx.cell? ⟨bx, 2, none⟩ = some (.int .u64 (x2 : Int)) ∧ wx.cell? ⟨bx, 3, none⟩ = some (.int .u64 (x3 : Int)) ∧ wx.cell? ⟨bx, 4, none⟩ = some (.int .u64 (x4 : Int)) ∧
  wx.cell? ⟨b, 0, none⟩ = some (.int .u64 (y0 : Int)) ∧ wx.cell? ⟨b, 1, none⟩ = some (.int .u64 (y1 : Int)) ∧ wx.cell? ⟨b, 2, none⟩ = some (.int .u64 (y2 : Int)) ∧ wx.cell? ⟨b, 3, none⟩ = some (.int .u64 (y3 : Int)) ∧ wx.cell? ⟨b, 4, none⟩ = some (.int .u64 (y4 : Int))
/-- a struct of two cells stored behind the calls of a region -/
theorem Ms.fin {w0 w1 wE : World} {L : List (Nat × TypeId × Array Value)} (h : Ms w0 w1 L) (hb : Below w1.heap.size w1 wE) {g : Nat} (hg : w1.heap.size ≤ g) {t : TypeId} {z0 z1 : Value} (hr : RowC wE g t #[z0, z1]) (u v : Value) :
    Ms w0 ((wE.setCell ⟨g, 0, none⟩ u).setCell ⟨g, 1, none⟩ v) ((g, t, #[u, v]) :: L) :=
  ⟨((h.old.trans (hb.mono h.old.size)).setCell (Nat.le_trans h.old.size hg) u).setCell (p := ⟨g, 1, none⟩) (Nat.le_trans h.old.size hg) v, fun p hp => by
    rcases List.mem_cons.1 hp with rfl | hp
    · have h1 := (hr.set_ 0 u).set_ 1 v
      simpa using h1
    · have h1 := h.rows p hp
      have hne : p.1 ≠ g := Nat.ne_of_lt (Nat.lt_of_lt_of_le h1.lt hg)
      exact ((h1.call hb).far hne u).far (p := ⟨g, 1, none⟩) hne v⟩

/-- the region of a number in a piece of code -/
def findR (n : Nat) : Code → Code
  | .region id ops d => .region id ops d
  | .seq (.region id ops d) c => match n == id with
    | true => .region id ops d
    | false => findR n c
  | c => c

end Go.Proofs.Ytimgnpcojamafaa
