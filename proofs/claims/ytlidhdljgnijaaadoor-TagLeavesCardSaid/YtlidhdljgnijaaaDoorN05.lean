import Derived.Test.YtlidhdljgnijaaaDoorN04
import Derived.Lib.AppendZerosOnto
import Derived.Lib.Overlaps
/-
  ROWS OF THE CALL'S OWN that grow and shrink: copy, append and clear in place, and slices.Clone, Insert and Delete over them.
-/
set_option linter.unusedVariables false
namespace Go.Proofs.YtlidhdljgnijaaaDoor
open Go.RowKit

section
variable {P : Program} {ops : Array Oper} {rest : List Oper} {o : Oper} {a : Act} {w : World} {Q : Exit → Act → World → Prop}
theorem wpList_appendT (hgd : Region.wanted o (yielded ops a.tmps) = true) (d s : Operand) (dT sT : TypeId)
    (ho : o.op = .call { callee := .builtin .append, args := #[d, s], argTypes := #[dT, sT] }) (v u : Value) (hd : a.eval d = v) (hs : a.eval s = u) {v' : Value} {w' : World}
    (hr : (Builtin.append_ #[dT, sT] o.type #[v, u]).run P w = .ok v' w') (h : wpList P ops Q rest (a.put o.dst v') w') : wpList P ops Q (o :: rest) a w := by
  refine wpList_step fun _ hK => ?_
  rw [if_pos hgd]
  unfold Oper.wp execOp
  simp only [ho, resolve, invoke, builtin, Sem.run_bind, Sem.run_pure, Result.andThen_ok, List.map_toArray, List.map_cons, List.map_nil, hd, hs, hr]
  exact hK _ _ h
end

section
variable {w : World} {base g n c : Nat} {e : TypeId} {xs : List Value} {cur : Array Value}
theorem own_ofT (hg : RowC w g e cur) (hb : base ≤ g) (hn : n ≤ c) (hm : c ≤ maxLen) (hs : cur.size = c) (ht : cur.toList.take n = xs) : w.ownsRow base e 1 (.slice (some ⟨g, 0, none⟩) n c) n xs :=
  ⟨by rw [← ht, List.length_take, Array.length_toList]; omega, .inr ⟨g, c, cur, rfl, hb, hg, hn, hm, by omega, by rw [Nat.mul_one]; exact ht⟩⟩
theorem grown_drew (w : World) (row : Option Nat) : w.grownBy w.drew row := ⟨rfl, rfl, rfl, Nat.le_refl _, fun _ _ _ => rfl⟩
end

end Go.Proofs.YtlidhdljgnijaaaDoor

/-
  CONTRACT of the document's Spans (coterieref10).
-/
set_option linter.unusedVariables false
namespace Go.Proofs.YtlidhdljgnijaaaDoor
open Go.RowKit

end Go.Proofs.YtlidhdljgnijaaaDoor

