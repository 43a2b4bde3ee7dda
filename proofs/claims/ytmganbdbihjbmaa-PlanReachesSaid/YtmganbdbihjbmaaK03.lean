import Derived.Test.YtmganbdbihjbmaaK01
import Derived.Test.YtmganbdbihjbmaaK02
import Derived.BigRegion
import Derived.Laws.Rows
import Derived.Deep.MidRow
import Derived.Deep.WholeRow
/-
  ROWS IN MEMORY: blocks that hold arrays (their cells in one value), kept over calls and stores; a list of them that a walk carries along. Nothing of one layer.
-/
set_option linter.unusedVariables false
namespace Go.Proofs.Ytmganbdbihjbmaa
open Go.RowKit

/-- block g holds the cells cs -/
def RowC (w : World) (g : Nat) (t : TypeId) (cs : Array Value) : Prop := w.heap[g]? = some (.cells cs t (0, 0))

section
variable {w w' : World} {g : Nat} {t : TypeId} {cs : Array Value}
theorem RowC.at_ (h : RowC w g t cs) : w.heap[g]? = some (.cells cs t (0, 0)) := h
theorem RowC.lt (h : RowC w g t cs) : g < w.heap.size := by
  unfold RowC at h
  exact (Array.getElem?_eq_some_iff.1 h).1
theorem RowC.cell (h : RowC w g t cs) {i : Nat} {v : Value} (hv : cs[i]? = some v) : w.cell? ⟨g, i, none⟩ = some v := by
  unfold RowC at h
  rw [cell_of_row w g i _ t (0, 0) h]
  exact hv
theorem RowC.range (h : RowC w g t cs) : w.rangeAt g 0 cs.toList := fun j v hv => by
  rw [Nat.zero_add]
  exact h.cell (by simpa using hv)
theorem RowC.frozen (h : RowC w g t cs) (i : Nat) : w.frozen? ⟨g, i, none⟩ = false := frozen_of_row w g i _ t h
theorem RowC.new (w : World) (t : TypeId) (cs : Array Value) : RowC (w.alloc (.cells cs t)) w.heap.size t cs := heap_alloc_new w _
theorem RowC.mk_ (w : World) (t : TypeId) (cs : Array Value) {b : Nat} (hb : w.heap.size = b) : RowC (w.alloc (.cells cs t)) b t cs := by
  subst hb
  exact heap_alloc_new w _
theorem RowC.of (h : RowC w g t cs) (e : w'.heap[g]? = w.heap[g]?) : RowC w' g t cs := by unfold RowC at h ⊢; rw [e]; exact h
theorem RowC.drew (h : RowC w g t cs) : RowC w.drew g t cs := h.of rfl
theorem RowC.drewN (h : RowC w g t cs) (n : Nat) : RowC (w.drewN n) g t cs := h.of rfl
theorem RowC.alloc (h : RowC w g t cs) (o : Obj) : RowC (w.alloc o) g t cs := h.of (heap_alloc_old w o h.lt)
theorem RowC.below {B : Nat} (h : RowC w g t cs) (hb : Below B w w') (hg : g < B) : RowC w' g t cs := h.of (hb.block g hg)
theorem RowC.call (h : RowC w g t cs) (hb : Below w.heap.size w w') : RowC w' g t cs := h.below hb h.lt
theorem RowC.row (h : RowC w g t cs) (cs' : Array Value) : RowC (w.setRow g cs') g t cs' := setRow_heap w g _ _ t _ h
theorem RowC.rowFar {g' : Nat} (h : RowC w g t cs) (hne : g ≠ g') (cs' : Array Value) : RowC (w.setRow g' cs') g t cs := h.of (setRow_other w g' g cs' hne)
theorem RowC.far (h : RowC w g t cs) {p : Addr} (hp : g ≠ p.block) (u : Value) : RowC (w.setCell p u) g t cs := h.of (Below.heap_setCell w p u g hp)
theorem RowC.set_ (h : RowC w g t cs) (i : Nat) (v : Value) : RowC (w.setCell ⟨g, i, none⟩ v) g t (cs.setIfInBounds i v) := by
  unfold RowC at h ⊢
  simp only [World.setCell, Array.getElem?_modify, h, Option.map_some]
  simp
end

/-- the blocks of a walk that began in w0 -/
structure Ms (w0 w : World) (L : List (Nat × TypeId × Array Value)) : Prop where
  old : Below w0.heap.size w0 w
  rows : ∀ p ∈ L, RowC w p.1 p.2.1 p.2.2
section
variable {w0 w w' : World} {L : List (Nat × TypeId × Array Value)}
theorem Ms.nil (w : World) : Ms w w [] := ⟨Below.refl _ _, fun _ h => by cases h⟩
theorem Ms.call (h : Ms w0 w L) (hb : Below w.heap.size w w') : Ms w0 w' L := ⟨h.old.trans (hb.mono h.old.size), fun p hp => (h.rows p hp).call hb⟩
theorem below_drewN {B : Nat} {a w : World} (h : Below B a w) (n : Nat) : Below B a (w.drewN n) := h.trans ⟨rfl, rfl, rfl, Nat.le_refl _, fun _ _ => rfl⟩
theorem Ms.drewN (h : Ms w0 w L) (n : Nat) : Ms w0 (w.drewN n) L := ⟨below_drewN h.old n, fun p hp => (h.rows p hp).drewN n⟩
theorem Ms.drew (h : Ms w0 w L) : Ms w0 w.drew L := ⟨h.old.drew, fun p hp => (h.rows p hp).drew⟩
theorem Ms.box (h : Ms w0 w L) (t : TypeId) (cs : Array Value) : Ms w0 (w.alloc (.cells cs t)) ((w.heap.size, t, cs) :: L) :=
  ⟨h.old.alloc h.old.size _, fun p hp => by
    rcases List.mem_cons.1 hp with rfl | hp
    · exact RowC.new _ _ _
    · exact (h.rows p hp).alloc _⟩
theorem Ms.put (h : Ms w0 w L) (t : TypeId) (z cs : Array Value) : Ms w0 ((w.alloc (.cells z t)).setRow w.heap.size cs) ((w.heap.size, t, cs) :: L) :=
  ⟨below_setRow (h.old.alloc h.old.size _) h.old.size cs, fun p hp => by
    rcases List.mem_cons.1 hp with rfl | hp
    · exact (RowC.new _ _ _).row cs
    · exact ((h.rows p hp).alloc _).rowFar (Nat.ne_of_lt (h.rows p hp).lt) cs⟩
theorem Ms.get (h : Ms w0 w L) (i : Nat) {g : Nat} {t : TypeId} {cs : Array Value} (hi : L[i]? = some (g, t, cs)) : RowC w g t cs := h.rows _ (List.mem_of_getElem? hi)
end

/-- a whole row is read, whether guarded (and wanted) or not -/
theorem wpList_loadC {P : Program} {ops : Array Oper} {rest : List Oper} {o : Oper} {a : Act} {w : World} {Q : Exit → Act → World → Prop} (hgd : Region.wanted o (yielded ops a.tmps) = true) (ty : TypeId) (x : Operand) (ho : o.op = .load ty x)
    (g : Nat) (hx : a.eval x = .pointer (some ⟨g, 0, none⟩)) (t : TypeId) (cs : Array Value) (d : TypeDesc) (hg : RowC w g t cs)
    (hu : P.underlying ty = some d) (hd : (match d with | .struct _ | .array _ _ => true | _ => false) = true) (hi : (P.info? ty).map (·.size) = some cs.size)
    (h : wpList P ops Q rest (a.put o.dst (.agg cs)) w) : wpList P ops Q (o :: rest) a w := by
  refine wpList_step fun _ hK => ?_
  rw [if_pos hgd]
  exact wp_load_row ty x ho g hx t cs (0, 0) d hg hu hd hi (hK _ _ h)

/-- an array as result, and a number or bool beside -/
theorem results_cell_two {P : Program} {fn : Func} {p q : Tmp} {ty : TypeId} (h : fn.results = #[.cell p ty, .tmp q]) (tmps : Array Value) (w : World) (g : Nat) (t : TypeId) (cs : Array Value) (d : TypeDesc)
    (hp : tmps.getD p undef = .pointer (some ⟨g, 0, none⟩)) (hg : RowC w g t cs)
    (hu : P.underlying ty = some d) (hd : (match d with | .struct _ | .array _ _ => true | _ => false) = true) (hi : (P.info? ty).map (·.size) = some cs.size) :
    (results fn tmps).run P w = .ok (.tuple #[.agg cs, tmps.getD q undef]) w := by
  have hp' : tmps[p]?.getD undef = .pointer (some ⟨g, 0, none⟩) := by simpa using hp
  simp [results, h, hp', asAddr, run_loadVar_row w g t ty cs (0, 0) d hg hu hd hi]
theorem results_cell_one {P : Program} {fn : Func} {p : Tmp} {ty : TypeId} (h : fn.results = #[.cell p ty]) (tmps : Array Value) (w : World) (g : Nat) (t : TypeId) (cs : Array Value) (d : TypeDesc)
    (hp : tmps.getD p undef = .pointer (some ⟨g, 0, none⟩)) (hg : RowC w g t cs)
    (hu : P.underlying ty = some d) (hd : (match d with | .struct _ | .array _ _ => true | _ => false) = true) (hi : (P.info? ty).map (·.size) = some cs.size) :
    (results fn tmps).run P w = .ok (.agg cs) w := results_cell_row h tmps w g t cs (0, 0) d hp hg hu hd hi

/-- a call of a function of the program, as an operation of a region: one step -/
theorem step_callF {P : Program} {w : World} {ops : Array Oper} {o : Oper} {a : Act} {K : Act → World → Prop} {Q : Exit → Act → World → Prop} {E : Prop} (hgd : Region.wanted o (yielded ops a.tmps) = true) (dst : Option Tmp) (hd : o.dst = dst) (f : FuncId) (xs : List Operand) (tys : Array TypeId)
    (ho : o.op = .call { callee := .value (.func f), args := xs.toArray, argTypes := tys }) (vs : List Value) (hv : xs.map a.eval = vs)
    (hent : ∀ args w, (callFunc f args).run P w = .ok (.enter f args) w) (R : Ending → World → Prop) (hc : Calls P f vs.toArray w R)
    (h : ∀ e w', R e w' → ∃ v, e = .returned v ∧ K (a.put dst v) w') : if Region.wanted o (yielded ops a.tmps) = true then Oper.wp P o a w K Q else E := by
  subst hd
  rw [if_pos hgd]
  unfold Oper.wp execOp
  have hf : a.eval (.func f) = .func (.func f) #[] #[] := rfl
  simp only [ho, resolve, hf, Deferred.ofValue, invoke, List.map_toArray, hv, Sem.run_bind, Sem.run_pure, Result.andThen_ok, Array.append_empty, Array.empty_append, hent, Oper.upon_enter]
  refine hc.mono fun e w' hr => ?_
  obtain ⟨v, rfl, hk⟩ := h e w' hr
  exact hk

/-- an operation that yields a value, as one step of a region -/
theorem step_val {P : Program} {w w' : World} {ops : Array Oper} {o : Oper} {a : Act} {K : Act → World → Prop} {Q : Exit → Act → World → Prop} {E : Prop} (hgd : Region.wanted o (yielded ops a.tmps) = true) (dst : Option Tmp) (hd : o.dst = dst) (v : Value)
    (hr : (execOp a.eval o).run P w = .ok (.value v) w') (h : K (a.put dst v) w') : if Region.wanted o (yielded ops a.tmps) = true then Oper.wp P o a w K Q else E := by
  subst hd
  rw [if_pos hgd]
  unfold Oper.wp
  rw [hr]
  exact h

theorem one_ints (k : IntKind) (l : List Int) : ((l.map (fun x => Value.int k x)).toArray).all (·.oneCell') = true := by
  rw [Array.all_eq_true_iff_forall_mem]
  intro v hv
  obtain ⟨x, _, rfl⟩ := List.mem_map.1 (by simpa using hv)
  rfl

/-- m values, the first j by f, the others by g -/
def uptoN {α : Type} (f g : Nat → α) (m j : Nat) : List α := (List.range m).map fun k => if k < j then f k else g k
section
variable {α : Type} (f g : Nat → α) {m j : Nat}
theorem uptoN_len : (uptoN f g m j).length = m := by simp [uptoN]
theorem uptoN_at {i : Nat} (hi : i < m) : (uptoN f g m j)[i]? = some (if i < j then f i else g i) := by simp [uptoN, hi]
theorem uptoN_old {i : Nat} (hi : i < m) (hj : j ≤ i) : (uptoN f g m j)[i]? = some (g i) := by rw [uptoN_at f g hi, if_neg (by omega)]
theorem uptoN_done {i : Nat} (hi : i < m) (hj : i < j) : (uptoN f g m j)[i]? = some (f i) := by rw [uptoN_at f g hi, if_pos hj]
theorem uptoN_succ : uptoN f g m (j + 1) = (uptoN f g m j).set j (f j) := by
  apply List.ext_getElem?
  intro i
  by_cases hi : i < m
  · rw [uptoN_at f g hi, List.getElem?_set, uptoN_at f g hi, uptoN_len]
    by_cases h : j = i
    · subst h
      rw [if_pos (by omega), if_pos rfl, if_pos hi]
    · rw [if_neg h]
      by_cases h2 : i < j
      · rw [if_pos (by omega), if_pos h2]
      · rw [if_neg (by omega), if_neg h2]
  · rw [List.getElem?_eq_none (by rw [uptoN_len]; omega), List.getElem?_eq_none (by rw [List.length_set, uptoN_len]; omega)]
theorem uptoN_zero : uptoN f g m 0 = (List.range m).map g := by simp [uptoN]
theorem uptoN_all : uptoN f g m m = (List.range m).map f := by
  unfold uptoN
  apply List.map_congr_left
  intro k hk
  rw [if_pos (by simpa using hk)]
end

/-- a list of numbers as cells -/
def qC (l : List Nat) : Array Value := (l.map qv).toArray
theorem qC_size (l : List Nat) : (qC l).size = l.length := by simp [qC]
theorem qC_at {l : List Nat} {i x : Nat} (h : l[i]? = some x) : (qC l)[i]? = some (.int .u64 (x : Int)) := by simp [qC, h, qv]
theorem qC_set (l : List Nat) (i x : Nat) : (qC l).setIfInBounds i (.int .u64 (x : Int)) = qC (l.set i x) := by
  simp [qC, List.map_set, qv]
theorem qC_one (l : List Nat) : (qC l).all (·.oneCell') = true := by
  rw [Array.all_eq_true_iff_forall_mem]
  intro v hv
  obtain ⟨x, _, rfl⟩ := List.mem_map.1 (by simpa [qC] using hv)
  rfl
theorem RowC.setN {w : World} {g : Nat} {t : TypeId} {l : List Nat} (h : RowC w g t (qC l)) (i x : Nat) : RowC (w.setCell ⟨g, i, none⟩ (.int .u64 (x : Int))) g t (qC (l.set i x)) := by
  have := h.set_ i (.int .u64 (x : Int))
  rwa [qC_set] at this

theorem calls_gen' {P : Program} {f : FuncId} {args : Array Value} {w0 : World} {Q : Ending → World → Prop} (R : World → Prop) (h0 : R w0) (h : ∀ w1, R w1 → Calls P f args w1 Q) : Calls P f args w0 Q := h w0 h0

end Go.Proofs.Ytmganbdbihjbmaa

