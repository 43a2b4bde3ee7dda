import Derived.Test.YtlidhdljgnijaaaDoorL02
import Derived.Test.YtlidhdljgnijaaaDoorL03
import Derived.BigRegion
import Derived.Laws.Rows
import Derived.Deep.MidRow
import Derived.Deep.WholeRow
import Derived.WalkSpells
import Derived.StillTailTactics
import Derived.Test.YtlidhdljgnijaaaDoorL01
/-
  ROWS IN MEMORY: blocks that hold arrays (their cells in one value), kept over calls and stores; a list of them that a walk carries along. Nothing of one layer.
-/
set_option linter.unusedVariables false
namespace Go.Proofs.YtlidhdljgnijaaaDoor
open Go.RowKit

/-- block g holds the cells cs -/
def RowC (w : World) (g : Nat) (t : TypeId) (cs : Array Value) : Prop := w.heap[g]? = some (.cells cs t (0, 0))

section
variable {w w' : World} {g : Nat} {t : TypeId} {cs : Array Value}
theorem RowC.at_ (h : RowC w g t cs) : w.heap[g]? = some (.cells cs t (0, 0)) := h
theorem RowC.lt (h : RowC w g t cs) : g < w.heap.size := by
  unfold RowC at h
  exact (Array.getElem?_eq_some_iff.1 h).1
theorem RowC.cell (h : RowC w g t cs) {i : Nat} {v : Value} (hv : cs[i]? = some v) : w.cell? ⟨g, i, none⟩ = some v := by
  unfold RowC at h
  rw [cell_of_row w g i _ t (0, 0) h]
  exact hv
theorem RowC.range (h : RowC w g t cs) : w.rangeAt g 0 cs.toList := fun j v hv => by
  rw [Nat.zero_add]
  exact h.cell (by simpa using hv)
theorem RowC.frozen (h : RowC w g t cs) (i : Nat) : w.frozen? ⟨g, i, none⟩ = false := frozen_of_row w g i _ t h
theorem RowC.new (w : World) (t : TypeId) (cs : Array Value) : RowC (w.alloc (.cells cs t)) w.heap.size t cs := heap_alloc_new w _
theorem RowC.mk_ (w : World) (t : TypeId) (cs : Array Value) {b : Nat} (hb : w.heap.size = b) : RowC (w.alloc (.cells cs t)) b t cs := by
  subst hb
  exact heap_alloc_new w _
theorem RowC.of (h : RowC w g t cs) (e : w'.heap[g]? = w.heap[g]?) : RowC w' g t cs := by unfold RowC at h ⊢; rw [e]; exact h
theorem RowC.drew (h : RowC w g t cs) : RowC w.drew g t cs := h.of rfl
theorem RowC.drewN (h : RowC w g t cs) (n : Nat) : RowC (w.drewN n) g t cs := h.of rfl
theorem RowC.alloc (h : RowC w g t cs) (o : Obj) : RowC (w.alloc o) g t cs := h.of (heap_alloc_old w o h.lt)
theorem RowC.below {B : Nat} (h : RowC w g t cs) (hb : Below B w w') (hg : g < B) : RowC w' g t cs := h.of (hb.block g hg)
theorem RowC.call (h : RowC w g t cs) (hb : Below w.heap.size w w') : RowC w' g t cs := h.below hb h.lt
theorem RowC.row (h : RowC w g t cs) (cs' : Array Value) : RowC (w.setRow g cs') g t cs' := setRow_heap w g _ _ t _ h
theorem RowC.rowFar {g' : Nat} (h : RowC w g t cs) (hne : g ≠ g') (cs' : Array Value) : RowC (w.setRow g' cs') g t cs := h.of (setRow_other w g' g cs' hne)
theorem RowC.far (h : RowC w g t cs) {p : Addr} (hp : g ≠ p.block) (u : Value) : RowC (w.setCell p u) g t cs := h.of (Below.heap_setCell w p u g hp)
theorem RowC.set_ (h : RowC w g t cs) (i : Nat) (v : Value) : RowC (w.setCell ⟨g, i, none⟩ v) g t (cs.setIfInBounds i v) := by
  unfold RowC at h ⊢
  simp only [World.setCell, Array.getElem?_modify, h, Option.map_some]
  simp
end

/-- the blocks of a walk that began in w0 -/
structure Ms (w0 w : World) (L : List (Nat × TypeId × Array Value)) : Prop where
  old : Below w0.heap.size w0 w
  rows : ∀ p ∈ L, RowC w p.1 p.2.1 p.2.2
section
variable {w0 w w' : World} {L : List (Nat × TypeId × Array Value)}
theorem Ms.nil (w : World) : Ms w w [] := ⟨Below.refl _ _, fun _ h => by cases h⟩
theorem Ms.call (h : Ms w0 w L) (hb : Below w.heap.size w w') : Ms w0 w' L := ⟨h.old.trans (hb.mono h.old.size), fun p hp => (h.rows p hp).call hb⟩
theorem below_drewN {B : Nat} {a w : World} (h : Below B a w) (n : Nat) : Below B a (w.drewN n) := h.trans ⟨rfl, rfl, rfl, Nat.le_refl _, fun _ _ => rfl⟩
theorem Ms.drewN (h : Ms w0 w L) (n : Nat) : Ms w0 (w.drewN n) L := ⟨below_drewN h.old n, fun p hp => (h.rows p hp).drewN n⟩
theorem Ms.drew (h : Ms w0 w L) : Ms w0 w.drew L := ⟨h.old.drew, fun p hp => (h.rows p hp).drew⟩
theorem Ms.box (h : Ms w0 w L) (t : TypeId) (cs : Array Value) : Ms w0 (w.alloc (.cells cs t)) ((w.heap.size, t, cs) :: L) :=
  ⟨h.old.alloc h.old.size _, fun p hp => by
    rcases List.mem_cons.1 hp with rfl | hp
    · exact RowC.new _ _ _
    · exact (h.rows p hp).alloc _⟩
theorem Ms.put (h : Ms w0 w L) (t : TypeId) (z cs : Array Value) : Ms w0 ((w.alloc (.cells z t)).setRow w.heap.size cs) ((w.heap.size, t, cs) :: L) :=
  ⟨below_setRow (h.old.alloc h.old.size _) h.old.size cs, fun p hp => by
    rcases List.mem_cons.1 hp with rfl | hp
    · exact (RowC.new _ _ _).row cs
    · exact ((h.rows p hp).alloc _).rowFar (Nat.ne_of_lt (h.rows p hp).lt) cs⟩
theorem Ms.get (h : Ms w0 w L) (i : Nat) {g : Nat} {t : TypeId} {cs : Array Value} (hi : L[i]? = some (g, t, cs)) : RowC w g t cs := h.rows _ (List.mem_of_getElem? hi)
end

/-- a whole row is read, whether guarded (and wanted) or not -/
theorem wpList_loadC {P : Program} {ops : Array Oper} {rest : List Oper} {o : Oper} {a : Act} {w : World} {Q : Exit → Act → World → Prop} (hgd : Region.wanted o (yielded ops a.tmps) = true) (ty : TypeId) (x : Operand) (ho : o.op = .load ty x)
    (g : Nat) (hx : a.eval x = .pointer (some ⟨g, 0, none⟩)) (t : TypeId) (cs : Array Value) (d : TypeDesc) (hg : RowC w g t cs)
    (hu : P.underlying ty = some d) (hd : (match d with | .struct _ | .array _ _ => true | _ => false) = true) (hi : (P.info? ty).map (·.size) = some cs.size)
    (h : wpList P ops Q rest (a.put o.dst (.agg cs)) w) : wpList P ops Q (o :: rest) a w := by
  refine wpList_step fun _ hK => ?_
  rw [if_pos hgd]
  exact wp_load_row ty x ho g hx t cs (0, 0) d hg hu hd hi (hK _ _ h)

/-- an array as result, and a number or bool beside -/
theorem results_cell_two {P : Program} {fn : Func} {p q : Tmp} {ty : TypeId} (h : fn.results = #[.cell p ty, .tmp q]) (tmps : Array Value) (w : World) (g : Nat) (t : TypeId) (cs : Array Value) (d : TypeDesc)
    (hp : tmps.getD p undef = .pointer (some ⟨g, 0, none⟩)) (hg : RowC w g t cs)
    (hu : P.underlying ty = some d) (hd : (match d with | .struct _ | .array _ _ => true | _ => false) = true) (hi : (P.info? ty).map (·.size) = some cs.size) :
    (results fn tmps).run P w = .ok (.tuple #[.agg cs, tmps.getD q undef]) w := by
  have hp' : tmps[p]?.getD undef = .pointer (some ⟨g, 0, none⟩) := by simpa using hp
  simp [results, h, hp', asAddr, run_loadVar_row w g t ty cs (0, 0) d hg hu hd hi]
theorem results_cell_one {P : Program} {fn : Func} {p : Tmp} {ty : TypeId} (h : fn.results = #[.cell p ty]) (tmps : Array Value) (w : World) (g : Nat) (t : TypeId) (cs : Array Value) (d : TypeDesc)
    (hp : tmps.getD p undef = .pointer (some ⟨g, 0, none⟩)) (hg : RowC w g t cs)
    (hu : P.underlying ty = some d) (hd : (match d with | .struct _ | .array _ _ => true | _ => false) = true) (hi : (P.info? ty).map (·.size) = some cs.size) :
    (results fn tmps).run P w = .ok (.agg cs) w := results_cell_row h tmps w g t cs (0, 0) d hp hg hu hd hi

/-- a call of a function of the program, as an operation of a region: one step -/
theorem step_callF {P : Program} {w : World} {ops : Array Oper} {o : Oper} {a : Act} {K : Act → World → Prop} {Q : Exit → Act → World → Prop} {E : Prop} (hgd : Region.wanted o (yielded ops a.tmps) = true) (dst : Option Tmp) (hd : o.dst = dst) (f : FuncId) (xs : List Operand) (tys : Array TypeId)
    (ho : o.op = .call { callee := .value (.func f), args := xs.toArray, argTypes := tys }) (vs : List Value) (hv : xs.map a.eval = vs)
    (hent : ∀ args w, (callFunc f args).run P w = .ok (.enter f args) w) (R : Ending → World → Prop) (hc : Calls P f vs.toArray w R)
    (h : ∀ e w', R e w' → ∃ v, e = .returned v ∧ K (a.put dst v) w') : if Region.wanted o (yielded ops a.tmps) = true then Oper.wp P o a w K Q else E := by
  subst hd
  rw [if_pos hgd]
  unfold Oper.wp execOp
  have hf : a.eval (.func f) = .func (.func f) #[] #[] := rfl
  simp only [ho, resolve, hf, Deferred.ofValue, invoke, List.map_toArray, hv, Sem.run_bind, Sem.run_pure, Result.andThen_ok, Array.append_empty, Array.empty_append, hent, Oper.upon_enter]
  refine hc.mono fun e w' hr => ?_
  obtain ⟨v, rfl, hk⟩ := h e w' hr
  exact hk

/-- an operation that yields a value, as one step of a region -/
theorem step_val {P : Program} {w w' : World} {ops : Array Oper} {o : Oper} {a : Act} {K : Act → World → Prop} {Q : Exit → Act → World → Prop} {E : Prop} (hgd : Region.wanted o (yielded ops a.tmps) = true) (dst : Option Tmp) (hd : o.dst = dst) (v : Value)
    (hr : (execOp a.eval o).run P w = .ok (.value v) w') (h : K (a.put dst v) w') : if Region.wanted o (yielded ops a.tmps) = true then Oper.wp P o a w K Q else E := by
  subst hd
  rw [if_pos hgd]
  unfold Oper.wp
  rw [hr]
  exact h

theorem one_ints (k : IntKind) (l : List Int) : ((l.map (fun x => Value.int k x)).toArray).all (·.oneCell') = true := by
  rw [Array.all_eq_true_iff_forall_mem]
  intro v hv
  obtain ⟨x, _, rfl⟩ := List.mem_map.1 (by simpa using hv)
  rfl

/-- m values, the first j by f, the others by g -/
def uptoN {α : Type} (f g : Nat → α) (m j : Nat) : List α := (List.range m).map fun k => if k < j then f k else g k
section
variable {α : Type} (f g : Nat → α) {m j : Nat}
theorem uptoN_len : (uptoN f g m j).length = m := by simp [uptoN]
theorem uptoN_at {i : Nat} (hi : i < m) : (uptoN f g m j)[i]? = some (if i < j then f i else g i) := by simp [uptoN, hi]
theorem uptoN_old {i : Nat} (hi : i < m) (hj : j ≤ i) : (uptoN f g m j)[i]? = some (g i) := by rw [uptoN_at f g hi, if_neg (by omega)]
theorem uptoN_done {i : Nat} (hi : i < m) (hj : i < j) : (uptoN f g m j)[i]? = some (f i) := by rw [uptoN_at f g hi, if_pos hj]
theorem uptoN_succ : uptoN f g m (j + 1) = (uptoN f g m j).set j (f j) := by
  apply List.ext_getElem?
  intro i
  by_cases hi : i < m
  · rw [uptoN_at f g hi, List.getElem?_set, uptoN_at f g hi, uptoN_len]
    by_cases h : j = i
    · subst h
      rw [if_pos (by omega), if_pos rfl, if_pos hi]
    · rw [if_neg h]
      by_cases h2 : i < j
      · rw [if_pos (by omega), if_pos h2]
      · rw [if_neg (by omega), if_neg h2]
  · rw [List.getElem?_eq_none (by rw [uptoN_len]; omega), List.getElem?_eq_none (by rw [List.length_set, uptoN_len]; omega)]
theorem uptoN_zero : uptoN f g m 0 = (List.range m).map g := by simp [uptoN]
theorem uptoN_all : uptoN f g m m = (List.range m).map f := by
  unfold uptoN
  apply List.map_congr_left
  intro k hk
  rw [if_pos (by simpa using hk)]
end

/-- a list of numbers as cells -/
def qC (l : List Nat) : Array Value := (l.map qv).toArray
theorem qC_size (l : List Nat) : (qC l).size = l.length := by simp [qC]
theorem qC_at {l : List Nat} {i x : Nat} (h : l[i]? = some x) : (qC l)[i]? = some (.int .u64 (x : Int)) := by simp [qC, h, qv]
theorem qC_set (l : List Nat) (i x : Nat) : (qC l).setIfInBounds i (.int .u64 (x : Int)) = qC (l.set i x) := by
  simp [qC, List.map_set, qv]
theorem qC_one (l : List Nat) : (qC l).all (·.oneCell') = true := by
  rw [Array.all_eq_true_iff_forall_mem]
  intro v hv
  obtain ⟨x, _, rfl⟩ := List.mem_map.1 (by simpa [qC] using hv)
  rfl
theorem RowC.setN {w : World} {g : Nat} {t : TypeId} {l : List Nat} (h : RowC w g t (qC l)) (i x : Nat) : RowC (w.setCell ⟨g, i, none⟩ (.int .u64 (x : Int))) g t (qC (l.set i x)) := by
  have := h.set_ i (.int .u64 (x : Int))
  rwa [qC_set] at this

theorem calls_gen' {P : Program} {f : FuncId} {args : Array Value} {w0 : World} {Q : Ending → World → Prop} (R : World → Prop) (h0 : R w0) (h : ∀ w1, R w1 → Calls P f args w1 Q) : Calls P f args w0 Q := h w0 h0

end Go.Proofs.YtlidhdljgnijaaaDoor

/-
  TREES IN MEMORY: lists of numbers, lists of lists, and a tree's two parts as cells.
-/
set_option linter.unusedVariables false
namespace Go.Proofs.YtlidhdljgnijaaaDoor
open Go.RowKit

/-- a number as a cell -/
def iv (x : Int) : Value := .int .i64 x
theorem iv_def (x : Int) : iv x = .int .i64 x := rfl

/-- lists in a list: each head reads its list -/
def Lvs (w : World) (B : Nat) (vs : List Value) (ll : List (List Int)) : Prop :=
  vs.length = ll.length ∧ ∀ (i : Nat) (v : Value) (l : List Int), vs[i]? = some v → ll[i]? = some l → ∃ A c, v = .slice A l.length c ∧ l.length ≤ c ∧ c ≤ maxLen ∧ Rd w B A l.length (l.map iv)
theorem Lvs.below {w w' : World} {B : Nat} {vs : List Value} {ll : List (List Int)} (h : Lvs w B vs ll) (hb : Below B w w') : Lvs w' B vs ll :=
  ⟨h.1, fun i v l hv hl => by
    obtain ⟨A, c, e, hc, hm, hr⟩ := h.2 i v l hv hl
    exact ⟨A, c, e, hc, hm, hr.below hb⟩⟩
theorem Lvs.more {w : World} {B B' : Nat} {vs : List Value} {ll : List (List Int)} (h : Lvs w B vs ll) (hb : B ≤ B') : Lvs w B' vs ll :=
  ⟨h.1, fun i v l hv hl => by
    obtain ⟨A, c, e, hc, hm, hr⟩ := h.2 i v l hv hl
    exact ⟨A, c, e, hc, hm, hr.more hb⟩⟩
theorem Lvs.keep {w w' : World} {B B' : Nat} (hk : ∀ (A : Option Addr) (n : Nat) (xs : List Value), Rd w B A n xs → Rd w' B' A n xs) {vs : List Value} {ll : List (List Int)} (h : Lvs w B vs ll) : Lvs w' B' vs ll :=
  ⟨h.1, fun i v l hv hl => by
    obtain ⟨A, c, e, hc, hm, hr⟩ := h.2 i v l hv hl
    exact ⟨A, c, e, hc, hm, hk _ _ _ hr⟩⟩
theorem Lvs.nil (w : World) (B : Nat) : Lvs w B [] [] := ⟨rfl, fun i v l h => by simp at h⟩
theorem Lvs.get {w : World} {B : Nat} {vs : List Value} {ll : List (List Int)} (h : Lvs w B vs ll) {i : Nat} (hi : i < ll.length) :
    ∃ A c, vs[i]? = some (.slice A ll[i].length c) ∧ ll[i].length ≤ c ∧ c ≤ maxLen ∧ Rd w B A ll[i].length (ll[i].map iv) := by
  have hv : i < vs.length := by rw [h.1]; exact hi
  obtain ⟨A, c, e, hc, hm, hr⟩ := h.2 i vs[i] ll[i] (List.getElem?_eq_getElem hv) (List.getElem?_eq_getElem hi)
  exact ⟨A, c, by rw [List.getElem?_eq_getElem hv, e], hc, hm, hr⟩

/-- a tree's cells: its members, and its levels -/
structure ShR (w : World) (B : Nat) (Ai : Option Addr) (ni ci : Nat) (Al : Option Addr) (nl cl : Nat) (ids : List Int) (ll : List (List Int)) : Prop where
  hni : ids.length = ni
  hnl : ll.length = nl
  hci : ni ≤ ci
  hcl : nl ≤ cl
  hmi : ci ≤ maxLen
  hml : cl ≤ maxLen
  hids : Rd w B Ai ni (ids.map iv)
  lvs : ∃ vs, Rd w B Al nl vs ∧ Lvs w B vs ll
theorem ShR.below {w w' : World} {B : Nat} {Ai : Option Addr} {ni ci : Nat} {Al : Option Addr} {nl cl : Nat} {ids : List Int} {ll : List (List Int)} (h : ShR w B Ai ni ci Al nl cl ids ll) (hb : Below B w w') : ShR w' B Ai ni ci Al nl cl ids ll := by
  obtain ⟨vs, h1, h2⟩ := h.lvs
  exact ⟨h.hni, h.hnl, h.hci, h.hcl, h.hmi, h.hml, h.hids.below hb, vs, h1.below hb, h2.below hb⟩
theorem ShR.more {w : World} {B B' : Nat} {Ai : Option Addr} {ni ci : Nat} {Al : Option Addr} {nl cl : Nat} {ids : List Int} {ll : List (List Int)} (h : ShR w B Ai ni ci Al nl cl ids ll) (hb : B ≤ B') : ShR w B' Ai ni ci Al nl cl ids ll := by
  obtain ⟨vs, h1, h2⟩ := h.lvs
  exact ⟨h.hni, h.hnl, h.hci, h.hcl, h.hmi, h.hml, h.hids.more hb, vs, h1.more hb, h2.more hb⟩
/-- a tree as a value -/
def shV (Ai : Option Addr) (ni ci : Nat) (Al : Option Addr) (nl cl : Nat) : Array Value := #[.slice Ai ni ci, .slice Al nl cl]
def sh0 : Array Value := #[.slice none 0 0, .slice none 0 0]

theorem RowC.grownT {w w' : World} {g : Nat} {t : TypeId} {cs : Array Value} {row : Option Nat} (h : RowC w g t cs) (hg : w.grownBy w' row) (hne : ∀ k, row = some k → g ≠ k) : RowC w' g t cs :=
  h.of (hg.block g h.lt (fun e => hne g e.symm rfl))
/-- rows stay where an own row grows -/
theorem Ms.grownT {w0 w w' : World} {L : List (Nat × TypeId × Array Value)} {row : Option Nat} (h : Ms w0 w L) (hg : w.grownBy w' row) (hr : ∀ k, row = some k → w0.heap.size ≤ k) (hne : ∀ p ∈ L, ∀ k, row = some k → p.1 ≠ k) : Ms w0 w' L :=
  ⟨h.old.grown hg h.old.size hr, fun p hp => (h.rows p hp).grownT hg (hne p hp)⟩
theorem Ms.allocT {w0 w : World} {L : List (Nat × TypeId × Array Value)} (h : Ms w0 w L) (o : Obj) : Ms w0 (w.alloc o) L := ⟨h.old.alloc h.old.size _, fun p hp => (h.rows p hp).alloc o⟩
theorem own_blockT {w : World} {base : Nat} {e : TypeId} {size : Nat} {v : Value} {n : Nat} {xs : List Value} (h : w.ownsRow base e size v n xs) : ∀ k, v.ownBlock = some k → base ≤ k := by
  intro k hk
  rcases h.2 with ⟨h1, _⟩ | ⟨g, cap, cur, h1, h2, _⟩
  · subst h1; cases hk
  · subst h1
    have : g = k := by simpa [Value.ownBlock] using hk
    omega
theorem Ms.setT {w0 w : World} {g : Nat} {t : TypeId} {cs : Array Value} {L : List (Nat × TypeId × Array Value)} (h : Ms w0 w ((g, t, cs) :: L)) (hg : w0.heap.size ≤ g) (hne : ∀ p ∈ L, p.1 ≠ g) (cs' : Array Value) :
    Ms w0 (w.setRow g cs') ((g, t, cs') :: L) :=
  ⟨below_setRow h.old hg _, fun p hp => by
    rcases List.mem_cons.1 hp with rfl | hp
    · exact (h.rows (g, t, cs) (by simp)).row cs'
    · exact (h.rows p (by simp [hp])).rowFar (hne p hp) cs'⟩
theorem own_grownT {w w' : World} {base : Nat} {e : TypeId} {size : Nat} {v : Value} {n : Nat} {xs : List Value} {row : Option Nat} (h : w.ownsRow base e size v n xs) (hg : w.grownBy w' row) (hne : ∀ g, v.ownBlock = some g → row ≠ some g) : w'.ownsRow base e size v n xs := by
  refine ⟨h.1, ?_⟩
  rcases h.2 with hn | ⟨g, cap, cur, hv, hb, hc, rest⟩
  · exact .inl hn
  · exact .inr ⟨g, cap, cur, hv, hb, by rw [hg.block g (Array.getElem?_eq_some_iff.1 hc).1 (fun e => hne g (by rw [hv]; rfl) e.symm)]; exact hc, rest⟩
theorem own_ltT {w : World} {base : Nat} {e : TypeId} {size : Nat} {v : Value} {n : Nat} {xs : List Value} (h : w.ownsRow base e size v n xs) : ∀ g, v.ownBlock = some g → g < w.heap.size := by
  intro k hk
  rcases h.2 with ⟨h1, _⟩ | ⟨g, cap, cur, h1, h2, hc, _⟩
  · subst h1; cases hk
  · subst h1
    have : g = k := by simpa [Value.ownBlock] using hk
    subst this
    exact (Array.getElem?_eq_some_iff.1 hc).1
theorem own_cellT {w : World} {base : Nat} {e : TypeId} {size : Nat} {v : Value} {n : Nat} {xs : List Value} (h : w.ownsRow base e size v n xs) {p : Addr} (hp : ∀ g, v.ownBlock = some g → g ≠ p.block) (u : Value) : (w.setCell p u).ownsRow base e size v n xs := by
  refine ⟨h.1, ?_⟩
  rcases h.2 with hn | ⟨g, cap, cur, hv, hb, hc, rest⟩
  · exact .inl hn
  · exact .inr ⟨g, cap, cur, hv, hb, by rw [Below.heap_setCell w p u g (hp g (by rw [hv]; rfl))]; exact hc, rest⟩
theorem own_formT {w : World} {base : Nat} {e : TypeId} {size : Nat} {v : Value} {n : Nat} {xs : List Value} (h : w.ownsRow base e size v n xs) : ∃ A c, v = .slice A n c ∧ n ≤ c ∧ c ≤ maxLen := by
  rcases h.2 with ⟨rfl, rfl⟩ | ⟨g, cap, cur, rfl, _, _, hc, hm, _⟩
  · exact ⟨_, _, rfl, Nat.le_refl _, by simp [maxLen]⟩
  · exact ⟨_, _, rfl, hc, hm⟩

end Go.Proofs.YtlidhdljgnijaaaDoor

/-
  CONTRACTS of the document's SameInts and Find (coterieref10).
-/
set_option linter.unusedVariables false
namespace Go.Proofs.YtlidhdljgnijaaaDoor
open Go.RowKit

theorem SameInts_any (A A' : Option Addr) (k c k' c' : Nat) (l l' : List Int) (w : World) (hk : k ≤ maxLen) (hr : Rd w w.heap.size A k (l.map iv)) (hr' : Rd w w.heap.size A' k' (l'.map iv)) :
    Calls Tryd.prog 76 #[.slice A k c, .slice A' k' c'] w fun e w' => e = .returned (.bool (l == l')) ∧ Below w.heap.size w w' := by
  have hl : l.length = k := by simpa using hr.len
  have hl' : l'.length = k' := by simpa using hr'.len
  rw [maxLen] at hk
  go_enter Tryd.func76, Tryd.ntmps76
  by_cases hkk : k = k'
  rotate_left
  · have e1 : (l == l') = false := by rw [beq_eq_false_iff_ne]; intro e; subst e; omega
    have hne : ¬ (k : Int) = (k' : Int) := by omega
    go_wp2_with fail
    go_ret
    exact ⟨by rw [e1]; rfl, Below.refl _ _⟩
  subst hkk
  go_wp2_with fail
  go_loopw [13] (fun i wr => ∃ j : Nat, j ≤ k ∧ i = .int .i64 (j : Int) ∧ l.take j = l'.take j ∧ Below w.heap.size w wr) (fun i _ => k - (intOf i).toNat)
  case atStart => exact ⟨0, by omega, rfl, rfl, Below.refl _ _⟩
  case round =>
    obtain ⟨j, hj, rfl, ht, hb⟩ := hrel
    by_cases hlt : j < k
    · obtain ⟨x, hx⟩ : ∃ x, l[j]? = some x := ⟨_, List.getElem?_eq_getElem (by omega)⟩
      obtain ⟨y, hy⟩ : ∃ y, l'[j]? = some y := ⟨_, List.getElem?_eq_getElem (by omega)⟩
      have hrw := hr.below hb
      have hrw' := hr'.below hb
      obtain ⟨g, o, rfl, hg, hc⟩ := hrw.pos (by omega)
      obtain ⟨g', o', rfl, hg', hc'⟩ := hrw'.pos (by omega)
      have c1 := hc j (iv x) (by rw [List.getElem?_map, hx]; rfl)
      have c2 := hc' j (iv y) (by rw [List.getElem?_map, hy]; rfl)
      rw [iv_def] at c1 c2
      clear hc hc'
      by_cases hxy : x = y
      · have hn : (x != y) = false := by rw [bne_eq_false_iff_eq]; exact hxy
        have Hs := Lib.hid (show l.take (j + 1) = l'.take (j + 1) by
          rw [List.take_add_one, List.take_add_one, ht, hx, hy, hxy])
        clear hxy hx hy ht
        go_wp2_with fail
        go_quiet (fail)
        go_wp2_with fail
        go_roundw
        case rel => exact ⟨j + 1, by omega, by go_num, Hs.out, below_drewN hb _⟩
        case measure => simp [intOf]; omega
      · have hn : (x != y) = true := by rw [bne_iff_ne]; exact hxy
        have Hs := Lib.hid (show (l == l') = false by
          rw [beq_eq_false_iff_ne]
          rintro rfl
          rw [hx] at hy
          exact hxy (Option.some.inj hy))
        clear hxy hx hy ht
        go_wp2_with fail
        go_quiet (fail)
        go_wp2_with fail
        go_ret
        exact ⟨by rw [Hs.out]; rfl, below_drewN hb _⟩
    · obtain rfl : j = k := by omega
      go_wp2_with fail
      go_ret
      rw [List.take_of_length_le (by omega), List.take_of_length_le (by omega)] at ht
      exact ⟨by rw [ht]; simp, hb⟩

def fewT (ids : List Int) (ll : List (List Int)) : Bool := ll.all (fun l => decide (l.length ≤ 1100)) && (decide (ids.length ≤ 1100) && decide (ll.length ≤ 20))
theorem all_take {α : Type} (p : α → Bool) {l : List α} {j : Nat} {x : α} (h : (l.take j).all p = true) (hx : l[j]? = some x) (hp : p x = true) : (l.take (j + 1)).all p = true := by
  rw [List.take_add_one, hx, List.all_append, h]
  simp [hp]
theorem all_not {α : Type} (p : α → Bool) {l : List α} {j : Nat} {x : α} (hx : l[j]? = some x) (hp : p x = false) : l.all p = false := by
  rw [List.all_eq_false]
  exact ⟨x, List.mem_of_getElem? hx, by simp [hp]⟩
theorem FewT_any (Ai : Option Addr) (ni ci : Nat) (Al : Option Addr) (nl cl : Nat) (ids : List Int) (ll : List (List Int)) (w : World) (h : ShR w w.heap.size Ai ni ci Al nl cl ids ll) :
    Calls Tryd.prog 33 #[.agg (shV Ai ni ci Al nl cl)] w fun e w' => e = .returned (.bool (fewT ids ll)) ∧ Below w.heap.size w w' := by
  have Hni := Lib.hid h.hni
  have Hnl := Lib.hid h.hnl
  have hml := h.hml
  have hcl := h.hcl
  obtain ⟨vs, hv, hlv⟩ := h.lvs
  rw [maxLen] at hml
  rw [shV]
  go_enter Tryd.func33, Tryd.ntmps33
  go_wp2_with fail
  go_loopw [8] (fun i wr => ∃ j : Nat, j ≤ nl ∧ i = .int .i64 (j : Int) ∧ (ll.take j).all (fun l => decide (l.length ≤ 1100)) = true ∧ RowC wr w.heap.size 25 #[.slice Ai ni ci, .slice Al nl cl] ∧ Below w.heap.size w wr) (fun i _ => nl - (intOf i).toNat)
  case atStart => exact ⟨0, by omega, rfl, rfl, RowC.new _ _ _, (Below.refl _ _).alloc (Nat.le_refl _) _⟩
  case round =>
    obtain ⟨j, hj, rfl, ht, hR, hb⟩ := hrel
    by_cases hlt : j < nl
    · obtain ⟨A, c, hvj, hc, hm, hrj⟩ := hlv.get (show j < ll.length by rw [Hnl.out]; exact hlt)
      obtain ⟨g, o, rfl, hg, hcell⟩ := (hv.below hb).pos (by omega)
      have c1 := hcell j _ hvj
      have Hlj := Lib.hid (List.getElem?_eq_getElem (show j < ll.length by rw [Hnl.out]; exact hlt))
      clear hcell hvj hrj
      generalize ll[j]'(by rw [Hnl.out]; exact hlt) = l at *
      rw [maxLen] at hm
      by_cases hbig : l.length ≤ 1100
      · have hbig' : ¬ (1100 : Int) < (l.length : Int) := by omega
        have Ht := Lib.hid (all_take _ ht Hlj.out (decide_eq_true hbig))
        clear ht
        go_wp2_with fail
        go_roundw
        case rel => exact ⟨j + 1, by omega, by go_num, Ht.out, hR, hb⟩
        case measure => simp [intOf]; omega
      · have hbig' : (1100 : Int) < (l.length : Int) := by omega
        have Hf := Lib.hid (show fewT ids ll = false by rw [fewT, all_not _ Hlj.out (decide_eq_false hbig)]; rfl)
        clear ht
        go_wp2_with fail
        go_ret
        exact ⟨by rw [Hf.out]; rfl, hb⟩
    · obtain rfl : j = nl := by omega
      rw [List.take_of_length_le (by rw [Hnl.out]; exact Nat.le_refl _)] at ht
      have hc0 := hR.cell (i := 0) (v := .slice Ai ni ci) rfl
      have hc1 := hR.cell (i := 1) (v := .slice Al j cl) rfl
      by_cases hi : ni ≤ 1100
      · have e1 : (ni : Int) ≤ 1100 := by omega
        have Hf := Lib.hid (show fewT ids ll = decide ((j : Int) ≤ 20) by rw [fewT, ht, Hni.out, Hnl.out]; simp [hi]; omega)
        clear ht
        go_wp2_with fail
        go_ret
        exact ⟨by rw [Hf.out]; rfl, hb⟩
      · have e1 : ¬ (ni : Int) ≤ 1100 := by omega
        have Hf := Lib.hid (show fewT ids ll = false by rw [fewT, Hni.out, decide_eq_false hi]; simp)
        clear ht
        go_wp2_with fail
        go_ret
        exact ⟨by rw [Hf.out]; rfl, hb⟩

end Go.Proofs.YtlidhdljgnijaaaDoor

/-
  CONTRACTS of the document's Find, Same and Check (coterieref10).
-/
set_option linter.unusedVariables false
namespace Go.Proofs.YtlidhdljgnijaaaDoor
open Go.RowKit

theorem take_one {α : Type} {l : List α} {j : Nat} {x : α} (hx : l[j]? = some x) : l.take (j + 1) = l.take j ++ [x] := by
  rw [List.take_add_one, hx]; rfl

theorem Find_any (Ai : Option Addr) (ni ci : Nat) (Al : Option Addr) (nl cl : Nat) (ids : List Int) (id : Int) (w : World) (hni : ids.length = ni) (hci : ni ≤ ci) (hmi : ci ≤ maxLen) (h : Rd w w.heap.size Ai ni (ids.map iv)) :
    Calls Tryd.prog 68 #[.agg (shV Ai ni ci Al nl cl), .int .i64 id] w fun e w' => e = .returned (.tuple #[.int .i64 (belT ids id : Int), .bool (isT ids id)]) ∧ Below w.heap.size w w' := by
  have Hni := Lib.hid hni
  rw [maxLen] at hmi
  clear hni
  rw [shV]
  go_enter Tryd.func68, Tryd.ntmps68
  go_wp2_with fail
  go_loopw [6, 7, 13] (fun b t i wr => ∃ j : Nat, j ≤ ni ∧ i = .int .i64 (j : Int) ∧ b = .int .i64 (belT (ids.take j) id : Int) ∧ t = .bool (isT (ids.take j) id) ∧ Below w.heap.size w wr) (fun _ _ i _ => ni - (intOf i).toNat)
  case atStart => exact ⟨0, by omega, rfl, rfl, rfl, (Below.refl _ _).alloc (Nat.le_refl _) _⟩
  case round =>
    obtain ⟨j, hj, rfl, rfl, rfl, hb⟩ := hrel
    by_cases hlt : j < ni
    · obtain ⟨x, hx⟩ : ∃ x, ids[j]? = some x := ⟨_, List.getElem?_eq_getElem (by rw [Hni.out]; exact hlt)⟩
      obtain ⟨g, o, rfl, hg, hcell⟩ := (h.below hb).pos (by omega)
      have c1 := hcell j (iv x) (by rw [List.getElem?_map, hx]; rfl)
      rw [iv_def] at c1
      have hbl : belT (ids.take j) id ≤ j := Nat.le_trans List.countP_le_length (by rw [List.length_take]; omega)
      have Hb := Lib.hid (show belT (ids.take (j + 1)) id = belT (ids.take j) id + if x < id then 1 else 0 by
        rw [take_one hx, belT, List.countP_append]; simp [belT])
      have Ht := Lib.hid (show isT (ids.take (j + 1)) id = (isT (ids.take j) id || (x == id)) by
        rw [take_one hx, isT, List.any_append]; simp [isT])
      clear hcell hx
      generalize belT (ids.take j) id = bj at *
      generalize isT (ids.take j) id = tj at *
      have hw1 : IntKind.i64.wrap ((bj : Int) + 1) = (bj : Int) + 1 := by rw [IntKind.wrap_i64]; omega
      by_cases hxi : x < id
      · rw [if_pos hxi] at Hb
        cases tj
        · go_wp2_with fail
          go_roundw
          case rel => exact ⟨j + 1, by omega, by go_num, by rw [Hb.out]; rfl, by rw [Ht.out]; rfl, hb⟩
          case measure => simp [intOf]; omega
        · go_wp2_with fail
          go_roundw
          case rel => exact ⟨j + 1, by omega, by go_num, by rw [Hb.out]; rfl, by rw [Ht.out]; rfl, hb⟩
          case measure => simp [intOf]; omega
      · rw [if_neg hxi] at Hb
        cases tj
        · go_wp2_with fail
          go_roundw
          case rel => exact ⟨j + 1, by omega, by go_num, by rw [Hb.out]; rfl, by rw [Ht.out]; rfl, hb⟩
          case measure => simp [intOf]; omega
        · go_wp2_with fail
          go_roundw
          case rel => exact ⟨j + 1, by omega, by go_num, by rw [Hb.out]; rfl, by rw [Ht.out]; rfl, hb⟩
          case measure => simp [intOf]; omega
    · obtain rfl : j = ni := by omega
      rw [List.take_of_length_le (by rw [Hni.out]; exact Nat.le_refl _)]
      go_wp2_with fail
      exact bodyPost_ret (results_tmp2 rfl _ _ _) rfl ⟨rfl, hb⟩

set_option maxRecDepth 100000 in
theorem Same_anyT (Ai : Option Addr) (ni ci : Nat) (Al : Option Addr) (nl cl : Nat) (ids : List Int) (ll : List (List Int)) (Ai' : Option Addr) (ni' ci' : Nat) (Al' : Option Addr) (nl' cl' : Nat) (ids' : List Int) (ll' : List (List Int)) (w : World)
    (h : ShR w w.heap.size Ai ni ci Al nl cl ids ll) (h' : ShR w w.heap.size Ai' ni' ci' Al' nl' cl' ids' ll') :
    Calls Tryd.prog 47 #[.agg (shV Ai ni ci Al nl cl), .agg (shV Ai' ni' ci' Al' nl' cl')] w fun e w' => e = .returned (.bool (ids == ids' && ll == ll')) ∧ Below w.heap.size w w' := by
  have Hni := Lib.hid h.hni
  have Hnl := Lib.hid h.hnl
  have Hnl' := Lib.hid h'.hnl
  have hml := h.hml
  have hcl := h.hcl
  have hml' := h'.hml
  have hcl' := h'.hcl
  have hmn : ni ≤ maxLen := Nat.le_trans h.hci h.hmi
  obtain ⟨vs, hv, hlv⟩ := h.lvs
  obtain ⟨vs', hv', hlv'⟩ := h'.lvs
  have hi := h.hids
  have hi' := h'.hids
  clear h h'
  rw [maxLen] at hml hml'
  rw [shV, shV]
  have hM := ((Ms.nil w).box 25 #[.slice Ai ni ci, .slice Al nl cl]).box 25 #[.slice Ai' ni' ci', .slice Al' nl' cl']
  simp only [World.size_alloc] at hM
  go_enter Tryd.func47, Tryd.ntmps47
  go_wp2_with fail
  refine (SameInts_any Ai Ai' ni ci ni' ci' ids ids' _ hmn ((hi.below hM.old).more hM.old.size) ((hi'.below hM.old).more hM.old.size)).mono ?_
  rintro e w1 ⟨rfl, hb1⟩
  have hM1 := hM.call hb1
  clear hM hb1
  have hc0 := (hM1.get 1 rfl).cell (i := 1) (v := .slice Al nl cl) rfl
  have hc1 := (hM1.get 0 rfl).cell (i := 1) (v := .slice Al' nl' cl') rfl
  by_cases hs : (ids == ids') = false
  · have Hs := Lib.hid hs
    rw [hs]
    clear hs
    go_wp2_with fail
    go_ret
    exact ⟨by rw [Hs.out]; rfl, hM1.old⟩
  have hs' : (ids == ids') = true := by simpa using hs
  have Hs := Lib.hid hs'
  rw [hs']
  clear hs hs'
  by_cases hnn : nl = nl'
  rotate_left
  · have hne : ¬ (nl : Int) = (nl' : Int) := by omega
    have Hf := Lib.hid (show (ll == ll') = false by
      rw [beq_eq_false_iff_ne]
      rintro rfl
      exact hnn (Hnl.out.symm.trans Hnl'.out))
    go_wp2_with fail
    go_ret
    exact ⟨by rw [Hs.out, Hf.out]; rfl, hM1.old⟩
  subst hnn
  go_wp2_with fail
  go_loopw [24] (fun i wr => ∃ j : Nat, j ≤ nl ∧ i = .int .i64 (j : Int) ∧ ll.take j = ll'.take j ∧ Ms w wr [(w.heap.size + 1, 25, #[.slice Ai' ni' ci', .slice Al' nl cl']), (w.heap.size, 25, #[.slice Ai ni ci, .slice Al nl cl])]) (fun i _ => nl - (intOf i).toNat)
  case atStart => exact ⟨0, by omega, rfl, rfl, hM1⟩
  case round =>
    clear hM1 hc0 hc1
    obtain ⟨j, hj, rfl, ht, hM⟩ := hrel
    by_cases hlt : j < nl
    · have hj1 : j < ll.length := by rw [Hnl.out]; exact hlt
      have hj2 : j < ll'.length := by rw [Hnl'.out]; exact hlt
      have hb := hM.old
      obtain ⟨A, c, hvj, hc, hm, hrj⟩ := hlv.get hj1
      obtain ⟨A', c', hvj', hc', hm', hrj'⟩ := hlv'.get hj2
      obtain ⟨g, o, rfl, hg, hcell⟩ := (hv.below hb).pos (by omega)
      obtain ⟨g', o', rfl, hg', hcell'⟩ := (hv'.below hb).pos (by omega)
      have k0 := (hM.get 1 rfl).cell (i := 1) (v := .slice (some ⟨g, o, none⟩) nl cl) rfl
      have k1 := (hM.get 0 rfl).cell (i := 1) (v := .slice (some ⟨g', o', none⟩) nl cl') rfl
      have c1 := hcell j _ hvj
      have c2 := hcell' j _ hvj'
      have Hlj := Lib.hid (List.getElem?_eq_getElem hj1)
      have Hlj' := Lib.hid (List.getElem?_eq_getElem hj2)
      have hrb := (hrj.below hb).more hb.size
      have hrb' := (hrj'.below hb).more hb.size
      clear hcell hcell' hvj hvj' hrj hrj'
      generalize ll[j] = l at *
      generalize ll'[j] = l' at *
      have b0 : (j : Int) < (nl : Int) := by omega
      have b1 : (0 : Int) ≤ (j : Int) := by omega
      go_wp2_with fail
      go_still_tail 10, (by kernel_rfl)
      change wpList _ _ _ _ _ wr.drew
      clear c1 c2 k0 k1
      go_wp2_with fail
      refine (SameInts_any A A' l.length c l'.length c' l l' wr.drew (Nat.le_trans hc hm) hrb.drew hrb'.drew).mono ?_
      rintro e w2 ⟨rfl, hb2⟩
      have hM2 := hM.drew.call hb2
      clear hrb hrb' hb2 hM hb
      by_cases hll : (l == l') = true
      · have Ht := Lib.hid (show ll.take (j + 1) = ll'.take (j + 1) by rw [take_one Hlj.out, take_one Hlj'.out, ht, eq_of_beq hll])
        rw [hll]
        clear ht hll
        go_wp2_with fail
        go_roundw
        case rel => exact ⟨j + 1, by omega, by go_num, Ht.out, hM2⟩
        case measure => simp [intOf]; omega
      · have hlf : (l == l') = false := by simpa using hll
        have Hf := Lib.hid (show (ll == ll') = false by
          rw [beq_eq_false_iff_ne]
          rintro rfl
          have := Hlj.out.symm.trans Hlj'.out
          exact hll (by rw [Option.some.inj this]; simp))
        rw [hlf]
        clear ht hll hlf
        go_wp2_with fail
        go_ret
        exact ⟨by rw [Hs.out, Hf.out]; rfl, hM2.old⟩
    · obtain rfl : j = nl := by omega
      rw [List.take_of_length_le (by rw [Hnl.out]; exact Nat.le_refl _), List.take_of_length_le (by rw [Hnl'.out]; exact Nat.le_refl _)] at ht
      have Hf := Lib.hid (show (ll == ll') = true by rw [ht]; simp)
      clear ht
      go_wp2_with fail
      go_ret
      exact ⟨by rw [Hs.out, Hf.out]; rfl, hM.old⟩

end Go.Proofs.YtlidhdljgnijaaaDoor

/-
  CONTRACT of the document's Check (coterieref10).
-/
set_option linter.unusedVariables false
namespace Go.Proofs.YtlidhdljgnijaaaDoor
open Go.RowKit

/-- a member at a place that may not be there -/
def badAt (ids : List Int) (i : Nat) : Bool := decide (ids.getD i 0 < 0) || decide (1048576 < ids.getD i 0) || (decide (0 < i) && decide (ids.getD i 0 ≤ ids.getD (i - 1) 0))
def okI (ids : List Int) : Bool := (List.range ids.length).all (fun i => !badAt ids i)
def in23 (l : List Int) : Bool := l.all (fun n => decide (n = 2) || decide (n = 3))
/-- levels over so many nodes may be -/
def chkL : Int → List (List Int) → Bool
  | many, [] => decide (many ≤ 1)
  | many, l :: ls => in23 l && (decide (l.sum = many) && decide (2 ≤ many)) && chkL l.length ls
def chkT (ids : List Int) (ll : List (List Int)) : Bool := decide (ids.length ≤ 1000) && okI ids && chkL ids.length ll
def chkE (ids : List Int) (ll : List (List Int)) : Int := if chkT ids ll then 0 else 1
theorem all_range_succ (p : Nat → Bool) (j : Nat) : (List.range (j + 1)).all p = ((List.range j).all p && p j) := by rw [List.range_succ, List.all_append]; simp
theorem all_range_not {p : Nat → Bool} {j n : Nat} (h : j < n) (hp : p j = false) : (List.range n).all p = false := by
  rw [List.all_eq_false]
  exact ⟨j, List.mem_range.2 h, by simp [hp]⟩
theorem in23_sum : ∀ (l : List Int), in23 l = true → 0 ≤ l.sum ∧ l.sum ≤ 3 * l.length
  | [], _ => by simp
  | x :: l, h => by
    simp only [in23, List.all_cons, Bool.and_eq_true, Bool.or_eq_true, decide_eq_true_eq] at h
    have := in23_sum l (by rw [in23]; exact h.2)
    simp only [List.sum_cons, List.length_cons]
    omega

set_option maxRecDepth 100000 in
set_option maxHeartbeats 4000000 in
theorem CheckT_any (Ai : Option Addr) (ni ci : Nat) (Al : Option Addr) (nl cl : Nat) (ids : List Int) (ll : List (List Int)) (w : World) (h : ShR w w.heap.size Ai ni ci Al nl cl ids ll) (hf : ∀ l ∈ ll, l.length ≤ 1000000) :
    Calls Tryd.prog 90 #[.agg (shV Ai ni ci Al nl cl)] w fun e w' => e = .returned (.int .i64 (chkE ids ll)) ∧ Below w.heap.size w w' := by
  have Hni := Lib.hid h.hni
  have Hnl := Lib.hid h.hnl
  have hml := h.hml
  have hcl := h.hcl
  have hmi := h.hmi
  have hci := h.hci
  obtain ⟨vs, hv, hlv⟩ := h.lvs
  have hi := h.hids
  rw [maxLen] at hml hmi
  rw [shV]
  have hM := (Ms.nil w).box 25 #[.slice Ai ni ci, .slice Al nl cl]
  have Hbad := Lib.hid (show ∀ b, chkT ids ll = b → chkE ids ll = if b then 0 else 1 from fun b hb => by rw [chkE, hb])
  clear h
  go_enter Tryd.func90, Tryd.ntmps90
  by_cases h1000 : ni ≤ 1000
  rotate_left
  · have hg : (1000 : Int) < (ni : Int) := by omega
    have He := Lib.hid (Hbad.out false (by rw [chkT, Hni.out, decide_eq_false h1000]; rfl))
    go_wp2_with fail
    go_ret
    exact ⟨by rw [He.out]; rfl, hM.old⟩
  have hg : ¬ (1000 : Int) < (ni : Int) := by omega
  go_wp2_with fail
  go_loopw [18] (fun i wr => ∃ j : Nat, j ≤ ni ∧ i = .int .i64 (j : Int) ∧ (List.range j).all (fun i => !badAt ids i) = true ∧ Ms w wr [(w.heap.size, 25, #[.slice Ai ni ci, .slice Al nl cl])]) (fun i _ => ni - (intOf i).toNat)
  case atStart => exact ⟨0, by omega, rfl, rfl, hM⟩
  case round =>
    clear hM
    obtain ⟨j, hj, rfl, ht, hM⟩ := hrel
    have hb := hM.old
    by_cases hlt : j < ni
    · obtain ⟨x, hx⟩ : ∃ x, ids[j]? = some x := ⟨_, List.getElem?_eq_getElem (by rw [Hni.out]; exact hlt)⟩
      obtain ⟨g, o, rfl, hgl, hcell⟩ := (hi.below hb).pos (by omega)
      have c1 := hcell j (iv x) (by rw [List.getElem?_map, hx]; rfl)
      rw [iv_def] at c1
      have k0 := (hM.get 0 rfl).cell (i := 0) (v := .slice (some ⟨g, o, none⟩) ni ci) rfl
      have hxd : ids.getD j 0 = x := by rw [List.getD_eq_getElem?_getD, hx]; rfl
      have Hbj := Lib.hid (show badAt ids j = (decide (x < 0) || decide (1048576 < x) || (decide (0 < j) && decide (x ≤ ids.getD (j - 1) 0))) by rw [badAt, hxd])
      have Hnot := Lib.hid (show badAt ids j = true → chkE ids ll = 1 from fun hb => by
        rw [Hbad.out false (by rw [chkT, okI, all_range_not (show j < ids.length by rw [Hni.out]; exact hlt) (by rw [hb]; rfl)]; simp)]; rfl)
      have Hyes := Lib.hid (show badAt ids j = false → (List.range (j + 1)).all (fun i => !badAt ids i) = true from fun hb => by rw [all_range_succ, ht, hb]; rfl)
      by_cases hx0 : x < 0
      · have He := Lib.hid (Hnot.out (by rw [Hbj.out, decide_eq_true hx0]; rfl))
        clear ht hx hxd hcell
        go_wp2_with fail
        go_ret
        exact ⟨by rw [He.out]; rfl, hb⟩
      by_cases hx1 : 1048576 < x
      · have He := Lib.hid (Hnot.out (by rw [Hbj.out, decide_eq_true hx1, Bool.or_true]; rfl))
        clear ht hx hxd hcell
        go_wp2_with fail
        go_ret
        exact ⟨by rw [He.out]; rfl, hb⟩
      by_cases hj0 : 0 < j
      rotate_left
      · have Ht := Lib.hid (Hyes.out (by rw [Hbj.out, decide_eq_false hx0, decide_eq_false hx1, decide_eq_false hj0]; rfl))
        have hj0' : ¬ (0 : Int) < (j : Int) := by omega
        clear ht hx hxd hcell hj0
        go_wp2_with fail
        go_roundw
        case rel => exact ⟨j + 1, by omega, by go_num, Ht.out, hM⟩
        case measure => simp [intOf]; omega
      obtain ⟨y, hy⟩ : ∃ y, ids[j - 1]? = some y := ⟨_, List.getElem?_eq_getElem (by rw [Hni.out]; omega)⟩
      have c2 := hcell (j - 1) (iv y) (by rw [List.getElem?_map, hy]; rfl)
      rw [iv_def] at c2
      have hyd : ids.getD (j - 1) 0 = y := by rw [List.getD_eq_getElem?_getD, hy]; rfl
      rw [hyd] at Hbj
      have hj0' : (0 : Int) < (j : Int) := by omega
      have q0 : IntKind.i64.wrap ((j : Int) - 1) = (j : Int) - 1 := by rw [IntKind.wrap_i64]; omega
      have q1 : ((j : Int) - 1).toNat = j - 1 := by omega
      have q2 : (0 : Int) ≤ (j : Int) - 1 := by omega
      have q3 : (j : Int) - 1 < (ni : Int) := by omega
      by_cases hxy : x ≤ y
      · have He := Lib.hid (Hnot.out (by rw [Hbj.out, decide_eq_true hj0, decide_eq_true hxy]; simp))
        clear ht hx hxd hcell hy hyd hj0
        go_wp2_with fail
        go_ret
        exact ⟨by rw [He.out]; rfl, hb⟩
      · have Ht := Lib.hid (Hyes.out (by rw [Hbj.out, decide_eq_false hx0, decide_eq_false hx1, decide_eq_true hj0, decide_eq_false hxy]; rfl))
        clear ht hx hxd hcell hy hyd hj0
        go_wp2_with fail
        go_roundw
        case rel => exact ⟨j + 1, by omega, by go_num, Ht.out, hM⟩
        case measure => simp [intOf]; omega
    · obtain rfl : j = ni := by omega
      have Hk := Lib.hid (show chkE ids ll = if chkL (j : Int) ll then 0 else 1 by
        rw [Hbad.out _ rfl, chkT, okI, Hni.out, ht, decide_eq_true h1000]; rfl)
      have k0 := (hM.get 0 rfl).cell (i := 0) (v := .slice Ai j ci) rfl
      have k1 := (hM.get 0 rfl).cell (i := 1) (v := .slice Al nl cl) rfl
      have hj40 : (j : Int) ≤ 1000000 := by omega
      clear ht Hbad
      go_wp2_with fail
      go_loopw [5, 50] (fun m i wr => ∃ (q : Nat) (many : Int), q ≤ nl ∧ i = .int .i64 (q : Int) ∧ m = .int .i64 many ∧ many ≤ 1000000 ∧ chkL (j : Int) ll = chkL many (ll.drop q) ∧ Below w.heap.size w wr) (fun _ i _ => nl - (intOf i).toNat)
      case atStart => exact ⟨0, j, by omega, rfl, rfl, hj40, rfl, hb⟩
      case round =>
        clear hb hM k0 k1 hj40
        obtain ⟨q, many, hq, rfl, rfl, hmb, hch, hb⟩ := hrel
        by_cases hlt : q < nl
        · have hql : q < ll.length := by rw [Hnl.out]; exact hlt
          obtain ⟨A, c, hvj, hc, hm, hrj⟩ := hlv.get hql
          obtain ⟨g, o, rfl, hgl, hcell⟩ := (hv.below hb).pos (by omega)
          have c1 := hcell q _ hvj
          have Hd := Lib.hid (show ll.drop q = ll[q] :: ll.drop (q + 1) from List.drop_eq_getElem_cons hql)
          have hlm := hf _ (List.getElem_mem hql)
          clear hcell hvj
          generalize ll[q] = l at *
          rw [maxLen] at hm
          have Hch := Lib.hid (show chkL (j : Int) ll = (in23 l && (decide (l.sum = many) && decide (2 ≤ many)) && chkL l.length (ll.drop (q + 1))) by rw [hch, Hd.out]; rfl)
          clear hch
          go_wp2_with fail
          go_loopw [8, 56] (fun s i wz => ∃ k : Nat, k ≤ l.length ∧ i = .int .i64 (k : Int) ∧ s = .int .i64 (l.take k).sum ∧ in23 (l.take k) = true ∧ Below w.heap.size w wz) (fun _ i _ => l.length - (intOf i).toNat)
          case atStart => exact ⟨0, by omega, rfl, rfl, rfl, hb⟩
          case round =>
            clear hb
            obtain ⟨k, hk, rfl, rfl, hin, hb⟩ := hrel
            have hsum := in23_sum _ hin
            rw [List.length_take] at hsum
            by_cases hkl : k < l.length
            · obtain ⟨n, hn⟩ : ∃ n, l[k]? = some n := ⟨_, List.getElem?_eq_getElem hkl⟩
              obtain ⟨g2, o2, rfl, hg2, hcell2⟩ := (hrj.below hb).pos (by omega)
              have c2 := hcell2 k (iv n) (by rw [List.getElem?_map, hn]; rfl)
              rw [iv_def] at c2
              have Ht := Lib.hid (take_one hn)
              have Hnot := Lib.hid (show ¬ (n = 2 ∨ n = 3) → chkE ids ll = 1 from fun hne => by
                rw [Hk.out, Hch.out, show in23 l = false from all_not _ hn (by simp only [Bool.or_eq_false_iff, decide_eq_false_iff_not]; omega)]; rfl)
              clear hcell2 hn
              have hs0 : (0 : Int) ≤ (l.take k).sum ∧ (l.take k).sum ≤ 3000000 := by omega
              have Hin := Lib.hid hin
              clear hin hsum
              by_cases h2 : n = 2
              · subst h2
                have hw : IntKind.i64.wrap ((l.take k).sum + 2) = (l.take k).sum + 2 := by rw [IntKind.wrap_i64]; omega
                have Hs2 := Lib.hid (show (l.take (k + 1)).sum = (l.take k).sum + 2 by rw [Ht.out, List.sum_append]; simp)
                have Hi2 := Lib.hid (show in23 (l.take (k + 1)) = true by rw [Ht.out, in23, List.all_append, ← in23, Hin.out]; rfl)
                generalize (l.take k).sum = sm at *
                go_wp2_with fail
                go_roundw
                case rel => exact ⟨k + 1, by omega, by go_num, by rw [Hs2.out], Hi2.out, hb⟩
                case measure => simp [intOf]; omega
              by_cases h3 : n = 3
              · subst h3
                have hw : IntKind.i64.wrap ((l.take k).sum + 3) = (l.take k).sum + 3 := by rw [IntKind.wrap_i64]; omega
                have Hs2 := Lib.hid (show (l.take (k + 1)).sum = (l.take k).sum + 3 by rw [Ht.out, List.sum_append]; simp)
                have Hi2 := Lib.hid (show in23 (l.take (k + 1)) = true by rw [Ht.out, in23, List.all_append, ← in23, Hin.out]; rfl)
                generalize (l.take k).sum = sm at *
                go_wp2_with fail
                go_roundw
                case rel => exact ⟨k + 1, by omega, by go_num, by rw [Hs2.out], Hi2.out, hb⟩
                case measure => simp [intOf]; omega
              have He := Lib.hid (Hnot.out (by omega))
              have q2 : (n != 2) = true := by rw [bne_iff_ne]; exact h2
              have q3 : (n != 3) = true := by rw [bne_iff_ne]; exact h3
              clear h2 h3
              go_wp2_with fail
              go_ret
              exact ⟨by rw [He.out]; rfl, hb⟩
            · obtain rfl : k = l.length := by omega
              rw [List.take_of_length_le (Nat.le_refl _)] at hin hsum ⊢
              have Hs := Lib.hid (show chkL (j : Int) ll = ((decide (l.sum = many) && decide (2 ≤ many)) && chkL l.length (ll.drop (q + 1))) by rw [Hch.out, hin]; rfl)
              clear hin hsum
              by_cases he : l.sum = many
              rotate_left
              · have He := Lib.hid (show chkE ids ll = 1 by rw [Hk.out, Hs.out, decide_eq_false he]; rfl)
                have q2 : (l.sum != many) = true := by rw [bne_iff_ne]; exact he
                clear he Hs
                generalize l.sum = sm at *
                go_wp2_with fail
                go_ret
                exact ⟨by rw [He.out]; rfl, hb⟩
              by_cases h2 : many < 2
              · have He := Lib.hid (show chkE ids ll = 1 by rw [Hk.out, Hs.out, decide_eq_false (show ¬ 2 ≤ many by omega), Bool.and_false]; rfl)
                rw [he]
                clear he
                go_wp2_with fail
                go_ret
                exact ⟨by rw [He.out]; rfl, hb⟩
              have Hs2 := Lib.hid (show chkL (j : Int) ll = chkL l.length (ll.drop (q + 1)) by rw [Hs.out, decide_eq_true he, decide_eq_true (show 2 ≤ many by omega)]; rfl)
              rw [he]
              clear he
              go_wp2_with fail
              go_roundw
              case rel => exact ⟨q + 1, l.length, by omega, by go_num, rfl, by omega, Hs2.out, hb⟩
              case measure => simp [intOf]; omega
        · obtain rfl : q = nl := by omega
          rw [List.drop_of_length_le (by rw [Hnl.out]; exact Nat.le_refl _)] at hch
          by_cases h1 : many ≤ 1
          · have He := Lib.hid (show chkE ids ll = 0 by rw [Hk.out, hch, chkL, decide_eq_true h1]; rfl)
            have h1' : ¬ 1 < many := by omega
            clear hch
            go_wp2_with fail
            go_ret
            exact ⟨by rw [He.out]; rfl, hb⟩
          · have He := Lib.hid (show chkE ids ll = 1 by rw [Hk.out, hch, chkL, decide_eq_false h1]; rfl)
            have h1' : 1 < many := by omega
            clear hch
            go_wp2_with fail
            go_ret
            exact ⟨by rw [He.out]; rfl, hb⟩

end Go.Proofs.YtlidhdljgnijaaaDoor

/-
  CONTRACT of the document's Path (coterieref10).
-/
set_option linter.unusedVariables false
namespace Go.Proofs.YtlidhdljgnijaaaDoor
open Go.RowKit

def natL (l : List Int) : List Nat := l.map Int.toNat
def lvN (ll : List (List Int)) : List (List Nat) := ll.map natL
theorem in23_nat : ∀ (l : List Int), in23 l = true → two3 (natL l) ∧ (((natL l).sum : Nat) : Int) = l.sum ∧ ∀ k (hk : k < l.length), l[k] = ((natL l)[k]'(by rw [natL, List.length_map]; exact hk) : Nat)
  | [], _ => ⟨fun x hx => by simp [natL] at hx, rfl, fun k hk => by simp at hk⟩
  | x :: l, h => by
    simp only [in23, List.all_cons, Bool.and_eq_true, Bool.or_eq_true, decide_eq_true_eq] at h
    obtain ⟨h1, h2, h3⟩ := in23_nat l (by rw [in23]; exact h.2)
    refine ⟨fun y hy => ?_, ?_, fun k hk => ?_⟩
    · simp only [natL, List.map_cons, List.mem_cons] at hy
      rcases hy with rfl | hy
      · omega
      · exact h1 y hy
    · simp only [natL, List.map_cons, List.sum_cons] at h2 ⊢
      omega
    · cases k with
      | zero => simp only [natL, List.map_cons, List.getElem_cons_zero]; omega
      | succ k =>
        have := h3 k (by simpa using hk)
        simpa [natL] using this
theorem chkL_ok : ∀ (ll : List (List Int)) (many : Nat), chkL (many : Int) ll = true → lvOK many (lvN ll) ∧ ∀ l ∈ ll, in23 l = true
  | [], many, h => by
    simp only [chkL, decide_eq_true_eq] at h
    exact ⟨show many ≤ 1 by omega, fun l hl => by simp at hl⟩
  | l :: ll, many, h => by
    simp only [chkL, Bool.and_eq_true, decide_eq_true_eq] at h
    obtain ⟨⟨h1, h2, h3⟩, h4⟩ := h
    obtain ⟨n1, n2, _⟩ := in23_nat l h1
    obtain ⟨r1, r2⟩ := chkL_ok ll l.length h4
    refine ⟨⟨by omega, n1, by omega, ?_⟩, fun x hx => ?_⟩
    · rw [natL, List.length_map]; exact r1
    · rcases List.mem_cons.1 hx with rfl | hx
      · exact h1
      · exact r2 x hx
theorem chkE_zero {ids : List Int} {ll : List (List Int)} (h : chkE ids ll = 0) : chkT ids ll = true := by
  rw [chkE] at h
  split at h
  · assumption
  · cases h
theorem chkT_lv {ids : List Int} {ll : List (List Int)} (h : chkT ids ll = true) : ids.length ≤ 1000 ∧ okI ids = true ∧ lvOK ids.length (lvN ll) ∧ ∀ l ∈ ll, in23 l = true := by
  rw [chkT, Bool.and_eq_true, Bool.and_eq_true, decide_eq_true_eq] at h
  obtain ⟨r1, r2⟩ := chkL_ok ll ids.length h.2
  exact ⟨h.1.1, h.1.2, r1, r2⟩
theorem okI_at {ids : List Int} (h : okI ids = true) {i : Nat} (hi : i < ids.length) : 0 ≤ ids[i] ∧ ids[i] ≤ 1048576 ∧ (0 < i → ids.getD (i - 1) 0 < ids[i]) := by
  rw [okI, List.all_eq_true] at h
  have := h i (List.mem_range.2 hi)
  have e : ids.getD i 0 = ids[i] := by rw [List.getD_eq_getElem?_getD, List.getElem?_eq_getElem hi]; rfl
  rw [badAt, e] at this
  simp only [Bool.not_eq_true', Bool.or_eq_false_iff, Bool.and_eq_false_iff, decide_eq_false_iff_not] at this
  exact ⟨by omega, by omega, fun h0 => by omega⟩
/-- members rise -/
theorem okI_rise : ∀ (ids : List Int), okI ids = true → ids.Pairwise (· < ·) := by
  intro ids h
  rw [List.pairwise_iff_getElem]
  have H : ∀ (d i : Nat) (hi : i + d + 1 < ids.length), ids[i] < ids[i + d + 1] := by
    intro d
    induction d with
    | zero =>
      intro i hi
      have := (okI_at h hi).2.2 (by omega)
      rw [show i + 0 + 1 - 1 = i by omega, List.getD_eq_getElem?_getD, List.getElem?_eq_getElem (by omega)] at this
      exact this
    | succ d ih =>
      intro i hi
      have h1 := ih i (by omega)
      have h2 := (okI_at h hi).2.2 (by omega)
      rw [show i + (d + 1) + 1 - 1 = i + d + 1 by omega, List.getD_eq_getElem?_getD, List.getElem?_eq_getElem (by omega)] at h2
      exact Int.lt_trans h1 h2
  intro i j hi hj hij
  have := H (j - i - 1) i (by omega)
  simpa [show i + (j - i - 1) + 1 = j by omega] using this
theorem rise_bel : ∀ (ids : List Int) (id : Int), ids.Pairwise (· < ·) → isT ids id = true → ∃ h : belT ids id < ids.length, ids[belT ids id] = id
  | [], id, _, h => by simp [isT] at h
  | x :: l, id, hp, h => by
    rw [List.pairwise_cons] at hp
    by_cases hx : x < id
    · have e : belT (x :: l) id = belT l id + 1 := by simp [belT, hx]
      have h' : isT l id = true := by
        simp only [isT, List.any_cons, Bool.or_eq_true, beq_iff_eq] at h ⊢
        rcases h with h | h
        · omega
        · exact h
      obtain ⟨h1, h2⟩ := rise_bel l id hp.2 h'
      refine ⟨by rw [e, List.length_cons]; omega, ?_⟩
      simp only [e, List.getElem_cons_succ]
      exact h2
    · have hz : belT l id = 0 := by
        rw [belT, List.countP_eq_zero]
        intro y hy
        have := hp.1 y hy
        simp; omega
      have e : belT (x :: l) id = 0 := by
        rw [belT, List.countP_cons]
        rw [belT] at hz
        simp [hz, hx]
      have hxi : x = id := by
        simp only [isT, List.any_cons, Bool.or_eq_true, beq_iff_eq, List.any_eq_true] at h
        rcases h with h | ⟨y, hy, h⟩
        · exact h
        · have := hp.1 y hy
          omega
      exact ⟨by rw [e]; simp, by simp only [e, List.getElem_cons_zero]; exact hxi⟩

/-- what a tree's path answers -/
def PathPost (w : World) (ids : List Int) (ll : List (List Int)) (id : Int) (e : Ending) (w' : World) : Prop :=
  Below w.heap.size w w' ∧ ((chkT ids ll = false ∧ e = .returned (.tuple #[.slice none 0 0, .int .i64 1])) ∨
    (chkT ids ll = true ∧ isT ids id = false ∧ e = .returned (.tuple #[.slice none 0 0, .int .i64 6])) ∨
    (chkT ids ll = true ∧ isT ids id = true ∧ ∃ A c, e = .returned (.tuple #[.slice A ll.length c, .int .i64 0]) ∧ ll.length ≤ c ∧ c ≤ maxLen ∧ Rd w' w'.heap.size A ll.length ((pathL (lvN ll) (belT ids id)).map (fun n => iv (n : Nat)))))

theorem intInfo : (Tryd.prog.info? 3).map (fun i => (i.zero, i.size, i.bytes)) = some (some (.int .i64 0), 1, 8) := by kernel_rfl
theorem one_iv (l : List Int) : ∀ u ∈ l.map iv, u.oneCell' = true := by
  intro u hu
  obtain ⟨x, _, rfl⟩ := List.mem_map.1 hu
  rfl
theorem one_ivn (l : List Nat) : ∀ u ∈ l.map (fun n : Nat => iv (n : Int)), u.oneCell' = true := by
  intro u hu
  obtain ⟨x, _, rfl⟩ := List.mem_map.1 hu
  rfl

end Go.Proofs.YtlidhdljgnijaaaDoor

/-
  CONTRACTS of the program's small functions (tree): mayBe, members, covers, grouped, Check, Find, groupOf, neighbour.
-/
set_option linter.unusedVariables false
namespace Go.Proofs.YtlidhdljgnijaaaDoor
open Go.RowKit

def mayT (x : Int) : Bool := decide (0 ≤ x) && decide (x ≤ 1048576)
theorem PMayBe_any (x : Int) (w : World) : Calls Tryd.prog 82 #[.int .i64 x] w fun e w' => e = .returned (.bool (mayT x)) ∧ w' = w := by
  go_enter Tryd.func82, Tryd.ntmps82
  by_cases h0 : 0 ≤ x
  · go_wp2_with fail
    go_ret
    exact ⟨by rw [mayT, decide_eq_true h0]; rfl, rfl⟩
  · go_wp2_with fail
    go_ret
    exact ⟨by rw [mayT, decide_eq_false (show ¬ 0 ≤ x by omega)]; rfl, rfl⟩

theorem badAt_may {ids : List Int} {j : Nat} {x : Int} (h : ids.getD j 0 = x) : badAt ids j = (!mayT x || (decide (0 < j) && decide (x ≤ ids.getD (j - 1) 0))) := by
  rw [badAt, h, mayT]
  by_cases h0 : x < 0
  · rw [decide_eq_true h0, decide_eq_false (show ¬ 0 ≤ x by omega)]; rfl
  · rw [decide_eq_false h0, decide_eq_true (show 0 ≤ x by omega)]
    by_cases h1 : 1048576 < x
    · rw [decide_eq_true h1, decide_eq_false (show ¬ x ≤ 1048576 by omega)]; rfl
    · rw [decide_eq_false h1, decide_eq_true (show x ≤ 1048576 by omega)]; rfl

set_option maxHeartbeats 1000000 in
theorem PMembers_any (A : Option Addr) (n c : Nat) (ids : List Int) (w : World) (hc : n ≤ c) (hm : c ≤ maxLen) (h : Rd w w.heap.size A n (ids.map iv)) :
    Calls Tryd.prog 53 #[.slice A n c] w fun e w' => e = .returned (.bool (decide (ids.length ≤ 1000) && okI ids)) ∧ w' = w := by
  have Hni := Lib.hid (show ids.length = n by simpa using h.len)
  rw [maxLen] at hm
  go_enter Tryd.func53, Tryd.ntmps53
  by_cases h1000 : n ≤ 1000
  rotate_left
  · have hg : (1000 : Int) < (n : Int) := by omega
    have He := Lib.hid (show (decide (ids.length ≤ 1000) && okI ids) = false by rw [Hni.out, decide_eq_false h1000]; rfl)
    go_wp2_with fail
    go_ret
    exact ⟨by rw [He.out]; rfl, rfl⟩
  have hg : ¬ (1000 : Int) < (n : Int) := by omega
  have Hall := Lib.hid (show (decide (ids.length ≤ 1000) && okI ids) = okI ids by rw [Hni.out, decide_eq_true h1000]; rfl)
  go_wp2_with fail
  go_loopw [10] (fun i wr => ∃ j : Nat, j ≤ n ∧ i = .int .i64 (j : Int) ∧ (List.range j).all (fun i => !badAt ids i) = true ∧ wr = w) (fun i _ => n - (intOf i).toNat)
  case atStart => exact ⟨0, by omega, rfl, rfl, rfl⟩
  case round =>
    obtain ⟨j, hj, rfl, ht, rfl⟩ := hrel
    by_cases hlt : j < n
    · obtain ⟨x, hx⟩ : ∃ x, ids[j]? = some x := ⟨_, List.getElem?_eq_getElem (by rw [Hni.out]; exact hlt)⟩
      obtain ⟨g, o, rfl, hgl, hcell⟩ := h.pos (by omega)
      have c1 := hcell j (iv x) (by rw [List.getElem?_map, hx]; rfl)
      rw [iv_def] at c1
      have hxd : ids.getD j 0 = x := by rw [List.getD_eq_getElem?_getD, hx]; rfl
      have Hbj := Lib.hid (badAt_may hxd)
      have Hnot := Lib.hid (show badAt ids j = true → (decide (ids.length ≤ 1000) && okI ids) = false from fun hb => by
        rw [Hall.out, okI, all_range_not (show j < ids.length by rw [Hni.out]; exact hlt) (by rw [hb]; rfl)])
      have Hyes := Lib.hid (show badAt ids j = false → (List.range (j + 1)).all (fun i => !badAt ids i) = true from fun hb => by rw [all_range_succ, ht, hb]; rfl)
      clear ht hx hxd
      by_cases hx0 : mayT x = true
      rotate_left
      · have hx1 : mayT x = false := by simpa using hx0
        have He := Lib.hid (Hnot.out (by rw [Hbj.out, hx1]; rfl))
        clear hcell hx0
        go_wp2_with fail
        refine (PMayBe_any x _).mono ?_
        rintro e w1 ⟨rfl, rfl⟩
        rw [hx1]
        clear hx1
        go_wp2_with fail
        go_ret
        exact ⟨by rw [He.out]; rfl, rfl⟩
      by_cases hj0 : 0 < j
      rotate_left
      · have Ht := Lib.hid (Hyes.out (by rw [Hbj.out, hx0, decide_eq_false hj0]; rfl))
        have hj0' : ¬ (0 : Int) < (j : Int) := by omega
        clear hcell hj0
        go_wp2_with fail
        refine (PMayBe_any x _).mono ?_
        rintro e w1 ⟨rfl, rfl⟩
        rw [hx0]
        clear hx0
        go_wp2_with fail
        go_roundw
        case rel => exact ⟨j + 1, by omega, by go_num, Ht.out, trivial⟩
        case measure => simp [intOf]; omega
      obtain ⟨y, hy⟩ : ∃ y, ids[j - 1]? = some y := ⟨_, List.getElem?_eq_getElem (by rw [Hni.out]; omega)⟩
      have c2 := hcell (j - 1) (iv y) (by rw [List.getElem?_map, hy]; rfl)
      rw [iv_def] at c2
      have hyd : ids.getD (j - 1) 0 = y := by rw [List.getD_eq_getElem?_getD, hy]; rfl
      rw [hyd] at Hbj
      have hj0' : (0 : Int) < (j : Int) := by omega
      have q0 : IntKind.i64.wrap ((j : Int) - 1) = (j : Int) - 1 := by rw [IntKind.wrap_i64]; omega
      have q1 : ((j : Int) - 1).toNat = j - 1 := by omega
      have q2 : (0 : Int) ≤ (j : Int) - 1 := by omega
      have q3 : (j : Int) - 1 < (n : Int) := by omega
      clear hcell hy hyd
      by_cases hxy : x ≤ y
      · have He := Lib.hid (Hnot.out (by rw [Hbj.out, decide_eq_true hj0, decide_eq_true hxy]; simp))
        clear hj0
        go_wp2_with fail
        refine (PMayBe_any x _).mono ?_
        rintro e w1 ⟨rfl, rfl⟩
        rw [hx0]
        clear hx0
        go_wp2_with fail
        go_ret
        exact ⟨by rw [He.out]; rfl, rfl⟩
      · have Ht := Lib.hid (Hyes.out (by rw [Hbj.out, hx0, decide_eq_true hj0, decide_eq_false hxy]; rfl))
        clear hj0
        go_wp2_with fail
        refine (PMayBe_any x _).mono ?_
        rintro e w1 ⟨rfl, rfl⟩
        rw [hx0]
        clear hx0
        go_wp2_with fail
        go_roundw
        case rel => exact ⟨j + 1, by omega, by go_num, Ht.out, trivial⟩
        case measure => simp [intOf]; omega
    · obtain rfl : j = n := by omega
      have He := Lib.hid (show (decide (ids.length ≤ 1000) && okI ids) = true by rw [Hall.out, okI, Hni.out, ht])
      clear ht
      go_wp2_with fail
      go_ret
      exact ⟨by rw [He.out]; rfl, rfl⟩

set_option maxHeartbeats 1000000 in
theorem PCovers_any (A : Option Addr) (n c : Nat) (l : List Int) (many : Int) (w : World) (hc : n ≤ c) (hm : c ≤ maxLen) (hl : n ≤ 1000000) (h0 : 0 ≤ many) (h1 : many ≤ 1000000) (h : Rd w w.heap.size A n (l.map iv)) :
    Calls Tryd.prog 83 #[.slice A n c, .int .i64 many] w fun e w' => e = .returned (.bool (in23 l && decide (l.sum = many))) ∧ w' = w := by
  have Hni := Lib.hid (show l.length = n by simpa using h.len)
  rw [maxLen] at hm
  go_enter Tryd.func83, Tryd.ntmps83
  go_wp2_with fail
  go_loopw [1, 9] (fun s i wr => ∃ k : Nat, k ≤ n ∧ i = .int .i64 (k : Int) ∧ s = .int .i64 (many - (l.take k).sum) ∧ in23 (l.take k) = true ∧ wr = w) (fun _ i _ => n - (intOf i).toNat)
  case atStart => exact ⟨0, by omega, rfl, by simp, rfl, rfl⟩
  case round =>
    obtain ⟨k, hk, rfl, rfl, hin, rfl⟩ := hrel
    have hsum := in23_sum _ hin
    rw [List.length_take] at hsum
    by_cases hlt : k < n
    · obtain ⟨x, hx⟩ : ∃ x, l[k]? = some x := ⟨_, List.getElem?_eq_getElem (by rw [Hni.out]; exact hlt)⟩
      obtain ⟨g, o, rfl, hgl, hcell⟩ := h.pos (by omega)
      have c1 := hcell k (iv x) (by rw [List.getElem?_map, hx]; rfl)
      rw [iv_def] at c1
      have Ht := Lib.hid (take_one hx)
      have Hnot := Lib.hid (show ¬ (x = 2 ∨ x = 3) → (in23 l && decide (l.sum = many)) = false from fun hne => by
        rw [show in23 l = false from all_not _ hx (by simp only [Bool.or_eq_false_iff, decide_eq_false_iff_not]; omega)]; rfl)
      have hs0 : (0 : Int) ≤ (l.take k).sum ∧ (l.take k).sum ≤ 3000000 := by omega
      have Hin := Lib.hid hin
      clear hin hsum hcell hx
      by_cases h2 : x = 2
      · subst h2
        have hw : IntKind.i64.wrap (many - (l.take k).sum - 2) = many - (l.take k).sum - 2 := by rw [IntKind.wrap_i64]; omega
        have Hs2 := Lib.hid (show (l.take (k + 1)).sum = (l.take k).sum + 2 by rw [Ht.out, List.sum_append]; simp)
        have Hi2 := Lib.hid (show in23 (l.take (k + 1)) = true by rw [Ht.out, in23, List.all_append, ← in23, Hin.out]; rfl)
        generalize (l.take k).sum = sm at *
        go_wp2_with fail
        go_roundw
        case rel => exact ⟨k + 1, by omega, by go_num, by rw [Hs2.out]; congr 1; omega, Hi2.out, trivial⟩
        case measure => simp [intOf]; omega
      by_cases h3 : x = 3
      · subst h3
        have hw : IntKind.i64.wrap (many - (l.take k).sum - 3) = many - (l.take k).sum - 3 := by rw [IntKind.wrap_i64]; omega
        have Hs2 := Lib.hid (show (l.take (k + 1)).sum = (l.take k).sum + 3 by rw [Ht.out, List.sum_append]; simp)
        have Hi2 := Lib.hid (show in23 (l.take (k + 1)) = true by rw [Ht.out, in23, List.all_append, ← in23, Hin.out]; rfl)
        generalize (l.take k).sum = sm at *
        go_wp2_with fail
        go_roundw
        case rel => exact ⟨k + 1, by omega, by go_num, by rw [Hs2.out]; congr 1; omega, Hi2.out, trivial⟩
        case measure => simp [intOf]; omega
      have He := Lib.hid (Hnot.out (by omega))
      have q2 : (x != 2) = true := by rw [bne_iff_ne]; exact h2
      have q3 : (x != 3) = true := by rw [bne_iff_ne]; exact h3
      clear h2 h3
      go_wp2_with fail
      go_ret
      exact ⟨by rw [He.out]; rfl, rfl⟩
    · obtain rfl : k = n := by omega
      rw [List.take_of_length_le (by rw [Hni.out]; exact Nat.le_refl _)] at hin hsum ⊢
      have Hs := Lib.hid (show (in23 l && decide (l.sum = many)) = ((many - l.sum) == 0) by
        rw [hin, Bool.true_and, Bool.eq_iff_iff, decide_eq_true_eq, beq_iff_eq]; omega)
      clear hin hsum
      go_wp2_with fail
      go_ret
      exact ⟨by rw [Hs.out]; rfl, rfl⟩

theorem cov_two {l : List Int} {many : Int} (h1 : 1 ≤ many) (hi : in23 l = true) (hs : l.sum = many) : 2 ≤ many ∧ 1 ≤ (l.length : Int) := by
  match l, hi, hs with
  | [], _, hs => simp at hs; omega
  | x :: l, hi, hs =>
    simp only [in23, List.all_cons, Bool.and_eq_true, Bool.or_eq_true, decide_eq_true_eq] at hi
    have := (in23_sum l (by rw [in23]; exact hi.2)).1
    simp only [List.sum_cons] at hs
    simp only [List.length_cons]
    omega

set_option maxHeartbeats 1000000 in
theorem PGrouped_any (Al : Option Addr) (nl cl : Nat) (vs : List Value) (ll : List (List Int)) (many : Int) (w : World) (hcl : nl ≤ cl) (hml : cl ≤ maxLen) (h0 : 0 ≤ many) (h1 : many ≤ 1000000) (hf : ∀ l ∈ ll, l.length ≤ 1000000)
    (hnl : ll.length = nl) (hv : Rd w w.heap.size Al nl vs) (hlv : Lvs w w.heap.size vs ll) :
    Calls Tryd.prog 54 #[.slice Al nl cl, .int .i64 many] w fun e w' => e = .returned (.bool (chkL many ll)) ∧ w' = w := by
  have Hnl := Lib.hid hnl
  rw [maxLen] at hml
  clear hnl
  go_enter Tryd.func54, Tryd.ntmps54
  by_cases h2 : many < 2
  · have He := Lib.hid (show chkL many ll = ((nl : Int) == 0) by
      match ll, Hnl.out with
      | [], hn =>
        have : nl = 0 := by rw [← hn]; rfl
        subst this
        rw [chkL, decide_eq_true (show many ≤ 1 by omega)]; rfl
      | l :: ls, hn =>
        have : ¬ nl = 0 := by rw [← hn]; simp
        rw [chkL, decide_eq_false (show ¬ 2 ≤ many by omega), Bool.and_false, Bool.and_false, Bool.false_and]
        symm
        rw [beq_eq_false_iff_ne]
        omega)
    go_wp2_with fail
    go_ret
    exact ⟨by rw [He.out]; rfl, rfl⟩
  go_wp2_with fail
  go_loopw [1, 14] (fun m i wr => ∃ (q : Nat) (mq : Int), q ≤ nl ∧ i = .int .i64 (q : Int) ∧ m = .int .i64 mq ∧ 1 ≤ mq ∧ mq ≤ 1000000 ∧ chkL many ll = chkL mq (ll.drop q) ∧ wr = w) (fun _ i _ => nl - (intOf i).toNat)
  case atStart => exact ⟨0, many, by omega, rfl, rfl, by omega, h1, rfl, rfl⟩
  case round =>
    clear h0 h1 h2
    obtain ⟨q, mq, hq, rfl, rfl, hm1, hmb, hch, rfl⟩ := hrel
    by_cases hlt : q < nl
    · have hql : q < ll.length := by rw [Hnl.out]; exact hlt
      obtain ⟨A, c, hvj, hc, hm, hrj⟩ := hlv.get hql
      obtain ⟨g, o, rfl, hgl, hcell⟩ := hv.pos (by omega)
      have c1 := hcell q _ hvj
      have Hd := Lib.hid (show ll.drop q = ll[q] :: ll.drop (q + 1) from List.drop_eq_getElem_cons hql)
      have hlm := hf _ (List.getElem_mem hql)
      clear hcell hvj
      generalize ll[q] = l at *
      have Hch := Lib.hid (show chkL many ll = (in23 l && (decide (l.sum = mq) && decide (2 ≤ mq)) && chkL l.length (ll.drop (q + 1))) by rw [hch, Hd.out]; rfl)
      have Hcov := Lib.hid (fun hi hs => cov_two (l := l) hm1 hi hs)
      clear hch
      go_wp2_with fail
      refine (PCovers_any A l.length c l mq _ hc hm hlm (by omega) hmb hrj).mono ?_
      rintro e w1 ⟨rfl, rfl⟩
      by_cases hk : (in23 l && decide (l.sum = mq)) = true
      · rw [hk]
        rw [Bool.and_eq_true, decide_eq_true_eq] at hk
        obtain ⟨k2, k3⟩ := Hcov.out hk.1 hk.2
        have Ht := Lib.hid (show chkL many ll = chkL l.length (ll.drop (q + 1)) by rw [Hch.out, hk.1, decide_eq_true hk.2, decide_eq_true k2]; rfl)
        clear hk k2
        go_wp2_with fail
        go_roundw
        case rel => exact ⟨q + 1, l.length, by omega, by go_num, rfl, k3, by omega, Ht.out, trivial⟩
        case measure => simp [intOf]; omega
      · have hkf : (in23 l && decide (l.sum = mq)) = false := by simpa using hk
        have He := Lib.hid (show chkL many ll = false by rw [Hch.out, ← Bool.and_assoc, hkf]; rfl)
        rw [hkf]
        clear hk hkf
        go_wp2_with fail
        go_ret
        exact ⟨by rw [He.out]; rfl, rfl⟩
    · obtain rfl : q = nl := by omega
      rw [List.drop_of_length_le (by rw [Hnl.out]; exact Nat.le_refl _)] at hch
      have He := Lib.hid (show chkL many ll = (mq == 1) by
        rw [hch, chkL, Bool.eq_iff_iff, decide_eq_true_eq, beq_iff_eq]; omega)
      clear hch
      go_wp2_with fail
      go_ret
      exact ⟨by rw [He.out]; rfl, rfl⟩

end Go.Proofs.YtlidhdljgnijaaaDoor

/-
  CONTRACTS of the program's Check, Find, groupOf, neighbour (tree).
-/
set_option linter.unusedVariables false
namespace Go.Proofs.YtlidhdljgnijaaaDoor
open Go.RowKit

theorem PFind_any (Ai : Option Addr) (ni ci : Nat) (Al : Option Addr) (nl cl : Nat) (ids : List Int) (id : Int) (w : World) (hni : ids.length = ni) (hci : ni ≤ ci) (hmi : ci ≤ maxLen) (h : Rd w w.heap.size Ai ni (ids.map iv)) :
    Calls Tryd.prog 39 #[.agg (shV Ai ni ci Al nl cl), .int .i64 id] w fun e w' => e = .returned (.tuple #[.int .i64 (belT ids id : Int), .bool (isT ids id)]) ∧ Below w.heap.size w w' := by
  have Hni := Lib.hid hni
  rw [maxLen] at hmi
  clear hni
  rw [shV]
  go_enter Tryd.func39, Tryd.ntmps39
  go_wp2_with fail
  go_loopw [6, 7, 13] (fun b t i wr => ∃ j : Nat, j ≤ ni ∧ i = .int .i64 (j : Int) ∧ b = .int .i64 (belT (ids.take j) id : Int) ∧ t = .bool (isT (ids.take j) id) ∧ Below w.heap.size w wr) (fun _ _ i _ => ni - (intOf i).toNat)
  case atStart => exact ⟨0, by omega, rfl, rfl, rfl, (Below.refl _ _).alloc (Nat.le_refl _) _⟩
  case round =>
    obtain ⟨j, hj, rfl, rfl, rfl, hb⟩ := hrel
    by_cases hlt : j < ni
    · obtain ⟨x, hx⟩ : ∃ x, ids[j]? = some x := ⟨_, List.getElem?_eq_getElem (by rw [Hni.out]; exact hlt)⟩
      obtain ⟨g, o, rfl, hg, hcell⟩ := (h.below hb).pos (by omega)
      have c1 := hcell j (iv x) (by rw [List.getElem?_map, hx]; rfl)
      rw [iv_def] at c1
      have hbl : belT (ids.take j) id ≤ j := Nat.le_trans List.countP_le_length (by rw [List.length_take]; omega)
      have Hb := Lib.hid (show belT (ids.take (j + 1)) id = belT (ids.take j) id + if x < id then 1 else 0 by
        rw [take_one hx, belT, List.countP_append]; simp [belT])
      have Ht := Lib.hid (show isT (ids.take (j + 1)) id = (isT (ids.take j) id || (x == id)) by
        rw [take_one hx, isT, List.any_append]; simp [isT])
      clear hcell hx
      generalize belT (ids.take j) id = bj at *
      generalize isT (ids.take j) id = tj at *
      have hw1 : IntKind.i64.wrap ((bj : Int) + 1) = (bj : Int) + 1 := by rw [IntKind.wrap_i64]; omega
      by_cases hxi : x < id
      · rw [if_pos hxi] at Hb
        cases tj
        · go_wp2_with fail
          go_roundw
          case rel => exact ⟨j + 1, by omega, by go_num, by rw [Hb.out]; rfl, by rw [Ht.out]; rfl, hb⟩
          case measure => simp [intOf]; omega
        · go_wp2_with fail
          go_roundw
          case rel => exact ⟨j + 1, by omega, by go_num, by rw [Hb.out]; rfl, by rw [Ht.out]; rfl, hb⟩
          case measure => simp [intOf]; omega
      · rw [if_neg hxi] at Hb
        cases tj
        · go_wp2_with fail
          go_roundw
          case rel => exact ⟨j + 1, by omega, by go_num, by rw [Hb.out]; rfl, by rw [Ht.out]; rfl, hb⟩
          case measure => simp [intOf]; omega
        · go_wp2_with fail
          go_roundw
          case rel => exact ⟨j + 1, by omega, by go_num, by rw [Hb.out]; rfl, by rw [Ht.out]; rfl, hb⟩
          case measure => simp [intOf]; omega
    · obtain rfl : j = ni := by omega
      rw [List.take_of_length_le (by rw [Hni.out]; exact Nat.le_refl _)]
      go_wp2_with fail
      exact bodyPost_ret (results_tmp2 rfl _ _ _) rfl ⟨rfl, hb⟩


theorem PCheck_any (Ai : Option Addr) (ni ci : Nat) (Al : Option Addr) (nl cl : Nat) (ids : List Int) (ll : List (List Int)) (w : World) (h : ShR w w.heap.size Ai ni ci Al nl cl ids ll) (hf : ∀ l ∈ ll, l.length ≤ 1000000) (hi6 : ni ≤ 1000000) :
    Calls Tryd.prog 28 #[.agg (shV Ai ni ci Al nl cl)] w fun e w' => e = .returned (.int .i64 (chkE ids ll)) ∧ Below w.heap.size w w' := by
  have Hni := Lib.hid h.hni
  have hM := (Ms.nil w).box 25 #[.slice Ai ni ci, .slice Al nl cl]
  have hmem := PMembers_any Ai ni ci ids (w.alloc (.cells #[.slice Ai ni ci, .slice Al nl cl] 25)) h.hci h.hmi ((h.hids.below hM.old).more hM.old.size)
  obtain ⟨vs, hv, hlv⟩ := h.lvs
  have hgr := PGrouped_any Al nl cl vs ll (ni : Int) (w.alloc (.cells #[.slice Ai ni ci, .slice Al nl cl] 25)) h.hcl h.hml (by omega) (by omega) hf h.hnl ((hv.below hM.old).more hM.old.size) ((hlv.below hM.old).more hM.old.size)
  have Hk := Lib.hid (show chkT ids ll = ((decide (ids.length ≤ 1000) && okI ids) && chkL (ni : Int) ll) by rw [chkT, h.hni])
  clear h
  rw [shV]
  go_enter Tryd.func28, Tryd.ntmps28
  go_wp2_with fail
  refine hmem.mono ?_
  rintro e w1 ⟨rfl, rfl⟩
  by_cases h1 : (decide (ids.length ≤ 1000) && okI ids) = true
  rotate_left
  · have h1f : (decide (ids.length ≤ 1000) && okI ids) = false := by simpa using h1
    have He := Lib.hid (show chkE ids ll = 1 by rw [chkE, Hk.out, h1f]; rfl)
    rw [h1f]
    clear h1 h1f
    go_wp2_with fail
    go_ret
    exact ⟨by rw [He.out]; rfl, hM.old⟩
  have Hk2 := Lib.hid (show chkE ids ll = if chkL (ni : Int) ll then 0 else 1 by rw [chkE, Hk.out, h1]; rfl)
  rw [h1]
  clear h1
  go_wp2_with fail
  refine hgr.mono ?_
  rintro e w1 ⟨rfl, rfl⟩
  cases hb : chkL (ni : Int) ll
  · have He := Lib.hid (show chkE ids ll = 1 by rw [Hk2.out, hb]; rfl)
    clear hb
    go_wp2_with fail
    go_ret
    exact ⟨by rw [He.out]; rfl, hM.old⟩
  · have He := Lib.hid (show chkE ids ll = 0 by rw [Hk2.out, hb]; rfl)
    clear hb
    go_wp2_with fail
    go_ret
    exact ⟨by rw [He.out]; rfl, hM.old⟩

theorem startT_cons0 (l : List Nat) {k : Nat} (h : k < l.length) : startT l (k + 1) = startT l k + l[k] := startT_succ l h
theorem grpT_past : ∀ (l : List Nat) (a : Nat), l.sum ≤ a → grpT l a = l.length
  | [], _, _ => rfl
  | n :: l, a, h => by
    rw [List.sum_cons] at h
    rw [grpT_cons, if_neg (by omega), grpT_past l (a - n) (by omega), List.length_cons]

/-- the group that is asked by another one -/
def nbrT (l : List Nat) (k : Nat) : Nat := if startT l (grpT l k) < k then k - 1 else k + 1
theorem nbr_iff {l : List Nat} {k : Nat} (hk : k < l.sum) : startT l (grpT l k) < k ↔ (0 < k ∧ grpT l (k - 1) = grpT l k) := by
  obtain ⟨g1, g2, g3⟩ := grpT_spec l k hk
  constructor
  · intro h
    exact ⟨by omega, grpT_unique g1 (by omega) (by omega)⟩
  · rintro ⟨h1, h2⟩
    obtain ⟨j1, j2, j3⟩ := grpT_spec l (k - 1) (by omega)
    rw [h2] at j2
    omega

end Go.Proofs.YtlidhdljgnijaaaDoor

/-
  CONTRACTS of slices.BinarySearch over rising numbers, and of the program's refused (tree).
-/
set_option linter.unusedVariables false
namespace Go.Proofs.YtlidhdljgnijaaaDoor
open Go.RowKit

/-- in a rising list those below a number stand ahead -/
theorem rise_lt : ∀ (ids : List Int) (id : Int), ids.Pairwise (· < ·) → ∀ k (hk : k < ids.length), ids[k] < id ↔ k < belT ids id
  | [], id, _, k, hk => by simp at hk
  | x :: l, id, hp, k, hk => by
    rw [List.pairwise_cons] at hp
    by_cases hx : x < id
    · have e : belT (x :: l) id = belT l id + 1 := by simp [belT, hx]
      cases k with
      | zero => simp only [List.getElem_cons_zero, e]; omega
      | succ k =>
        have := rise_lt l id hp.2 k (by simpa using hk)
        simp only [List.getElem_cons_succ, e]
        omega
    · have e : belT (x :: l) id = 0 := by
        rw [belT, List.countP_eq_zero]
        intro y hy
        rcases List.mem_cons.1 hy with rfl | hy
        · simp; omega
        · have := hp.1 y hy
          simp; omega
      rw [e]
      cases k with
      | zero => simp only [List.getElem_cons_zero]; omega
      | succ k =>
        have := hp.1 _ (List.getElem_mem (show k < l.length by simpa using hk))
        simp only [List.getElem_cons_succ]
        omega
theorem rise_is {ids : List Int} {id : Int} (hp : ids.Pairwise (· < ·)) (hk : belT ids id < ids.length) : isT ids id = (ids[belT ids id] == id) := by
  rw [Bool.eq_iff_iff, beq_iff_eq]
  constructor
  · intro h
    exact (rise_bel ids id hp h).2
  · intro h
    rw [isT, List.any_eq_true]
    exact ⟨_, List.getElem_mem hk, by simpa using h⟩
theorem rise_end {ids : List Int} {id : Int} (hp : ids.Pairwise (· < ·)) (hk : belT ids id = ids.length) : isT ids id = false := by
  cases h : isT ids id
  · rfl
  · have := (rise_bel ids id hp h).1
    omega

/-- why a number can't be one more of these members -/
def refT (ids : List Int) (id : Int) : Int := if mayT id = false then 1 else if isT ids id = true then 7 else if 1000 ≤ ids.length then 8 else 0
end Go.Proofs.YtlidhdljgnijaaaDoor

