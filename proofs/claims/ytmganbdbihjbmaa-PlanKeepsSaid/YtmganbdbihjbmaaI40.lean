import Derived.Test.YtmganbdbihjbmaaI06
import Derived.Test.YtmganbdbihjbmaaI21
/-
  CONTRACTS of the program's Path and ahead (tree). Printed by gen_treepk.py.
-/
set_option linter.unusedVariables false
namespace Go.Proofs.Ytmganbdbihjbmaa
open Go.RowKit

theorem wpList_makeT {P : Program} {ops : Array Oper} {rest : List Oper} {o : Oper} {a : Act} {w : World} {Q : Exit → Act → World → Prop} (hgd : Region.wanted o (yielded ops a.tmps) = true) (l c : Operand) (t : TypeId)
    (ho : o.op = .makeSlice t l c) (v u : Value) (hl : a.eval l = v) (hc : a.eval c = u) {v' : Value} {w' : World}
    (hr : (Instr.makeSlice t v u).run P w = .ok v' w') (h : wpList P ops Q rest (a.put o.dst v') w') : wpList P ops Q (o :: rest) a w := by
  refine wpList_step fun _ hK => ?_
  rw [if_pos hgd]
  unfold Oper.wp
  simp [execOp, ho, hl, hc, hr, Result.andThen]
  exact hK _ _ h
theorem own_madeT (w : World) (base : Nat) (e : TypeId) (z : Value) (cap : Nat) (hb : base ≤ w.heap.size) (hm : cap ≤ maxLen) (h1 : 1 ≤ cap) : (w.alloc (.cells (madeCells #[z] cap) e)).ownsRow base e 1 (.slice (some ⟨w.heap.size, 0, none⟩) 1 cap) 1 [z] := by
  refine ⟨rfl, .inr ⟨w.heap.size, cap, madeCells #[z] cap, rfl, hb, heap_alloc_new w _, h1, hm, by rw [size_madeCells]; omega, ?_⟩⟩
  rw [toList_madeCells_one, Nat.mul_one, List.take_replicate, Nat.min_eq_left h1]
  rfl
theorem scan_succ (l : List Nat) {k : Nat} (hk : k < l.length) : scanTo l (k + 1) = scanTo l k ++ [startT l k + l[k]] := by
  rw [scanTo, List.range_succ, List.map_append, ← scanTo, List.map_cons, List.map_nil, startT_succ l hk]

end Go.Proofs.Ytmganbdbihjbmaa

