/-
  ARRAYS OF NUMBERS, COMPARED BY VALUE: what '==' and '!=' of two arrays of words, or of bytes, come to.
-/
import Derived.Test.YtmkkghlpdnoogaaDoorShaD
import Derived.Laws.StructEq
import Derived.Laws.Rows
import Derived.Deep.MidRow
set_option linter.unusedVariables false
namespace Go.Proofs.YtmkkghlpdnoogaaDoor
open Go.RowKit

section
variable {P : Program} (w : World)
theorem eqItems_ints (d : Nat) {e : TypeId} {k : IntKind} (he : P.underlying e = some (.int k)) (f g : Nat → Int) (xs ys : Array Value) :
    ∀ is : List Nat, (∀ i ∈ is, xs[i]? = some (.int k (f i)) ∧ ys[i]? = some (.int k (g i))) → (Op.eqItems (d + 1) e 1 xs ys is).run P w = .ok (is.all fun i => f i == g i) w
  | [], _ => by simp [Op.eqItems]
  | i :: is, h => by
    obtain ⟨h1, h2⟩ := h i (by simp)
    have ih := eqItems_ints d he f g xs ys is (fun j hj => h j (by simp [hj]))
    have p1 : (part e xs (i * 1)).run P w = .ok (.int k (f i)) w := by simp [part, isAgg, run_underlying he, h1]
    have p2 : (part e ys (i * 1)).run P w = .ok (.int k (g i)) w := by simp [part, isAgg, run_underlying he, h2]
    simp only [Op.eqItems, Sem.run_bind, p1, p2, run_equalIn_int w d e k k _ _ he, Result.andThen_ok, List.all_cons]
    cases hb : (f i == g i)
    · simp
    · simp [ih]

theorem all_range {α : Type} [BEq α] [LawfulBEq α] (f : α → Int) (hf : ∀ x y, f x = f y → x = y) (z : α) (a b : List α) (n : Nat) (ha : a.length = n) (hb : b.length = n) :
    ((List.range n).all fun i => f (a.getD i z) == f (b.getD i z)) = (a == b) := by
  rw [Bool.eq_iff_iff, List.all_eq_true, beq_iff_eq]
  constructor
  · intro h
    apply List.ext_getElem (by omega)
    intro i h1 h2
    have := h i (by simp; omega)
    rw [beq_iff_eq, List.getD_eq_getElem?_getD, List.getD_eq_getElem?_getD, List.getElem?_eq_getElem h1, List.getElem?_eq_getElem h2] at this
    exact hf _ _ this
  · rintro rfl i _
    simp

theorem run_eqlRow (neg : Bool) {t e : TypeId} {k : IntKind} {n : Nat} (ht : P.underlying t = some (.array n e)) (he : P.underlying e = some (.int k)) {i : TypeInfo} (hi : P.info? e = some i) (hc : P.cellsOf e = 1)
    {α : Type} [BEq α] [LawfulBEq α] (c : α → Value) (f : α → Int) (hcf : ∀ x, c x = .int k (f x)) (hf : ∀ x y, f x = f y → x = y) (z : α) (a b : List α) (ha : a.length = n) (hb : b.length = n) :
    (Op.equalIn 10000 t (.agg (a.map c).toArray) (.agg (b.map c).toArray)).run P w = .ok (a == b) w := by
  rw [run_equalIn_array w 9999 _ _ ht hi, hc, eqItems_ints w 9998 he (fun i => f (a.getD i z)) (fun i => f (b.getD i z)) _ _ _ (fun i hi => ?_), all_range f hf z a b n ha hb]
  have hin : i < n := by simpa using hi
  have h1 : a[i]? = some a[i] := List.getElem?_eq_getElem (by omega)
  have h2 : b[i]? = some b[i] := List.getElem?_eq_getElem (by omega)
  simp [List.getD_eq_getElem?_getD, h1, h2, hcf]
end

/-- a whole row is read, by an operation that is guarded and wanted -/
theorem wpList_load_rowG {P : Program} {ops : Array Oper} {rest : List Oper} {o : Oper} {a : Act} {w : World} {Q : Exit → Act → World → Prop} (hgd : Region.wanted o (yielded ops a.tmps) = true) (ty : TypeId) (x : Operand) (ho : o.op = .load ty x)
    (g : Nat) (hx : a.eval x = .pointer (some ⟨g, 0, none⟩)) (t : TypeId) (cs : Array Value) (fr : Nat × Nat) (d : TypeDesc) (hg : w.heap[g]? = some (.cells cs t fr))
    (hu : P.underlying ty = some d) (hd : (match d with | .struct _ | .array _ _ => true | _ => false) = true) (hi : (P.info? ty).map (·.size) = some cs.size)
    (h : wpList P ops Q rest (a.put o.dst (.agg cs)) w) : wpList P ops Q (o :: rest) a w := by
  refine wpList_step fun _ hK => ?_
  rw [if_pos hgd]
  exact wp_load_row ty x ho g hx t cs fr d hg hu hd hi (hK _ _ h)
theorem wpList_load_midG {P : Program} {ops : Array Oper} {rest : List Oper} {op : Oper} {a : Act} {w : World} {Q : Exit → Act → World → Prop} (hgd : Region.wanted op (yielded ops a.tmps) = true) (ty : TypeId) (x : Operand) (ho : op.op = .load ty x)
    (b o : Nat) (hx : a.eval x = .pointer (some ⟨b, o, none⟩)) (cs : List Value) (d : TypeDesc) (hc : w.rangeAt b o cs)
    (hu : P.underlying ty = some d) (hd : d.isRow = true) (hi : (P.info? ty).map (·.size) = some cs.length)
    (h : wpList P ops Q rest (a.put op.dst (.agg cs.toArray)) w) : wpList P ops Q (op :: rest) a w := by
  refine wpList_step fun _ hK => ?_
  rw [if_pos hgd]
  exact wp_load_mid ty x ho b o hx cs d hc hu hd hi (hK _ _ h)

/-- a whole row is stored: one step of a region that draws its order -/
theorem step_store_row {P : Program} {ops : Array Oper} {o : Oper} {a : Act} {w : World} {K : Act → World → Prop} {Q : Exit → Act → World → Prop} {E : Prop} (hgd : o.guard = none) (ty : TypeId) (x y : Operand) (ho : o.op = .store ty x y)
    (g : Nat) (cells : Array Value) (hx : a.eval x = .pointer (some ⟨g, 0, none⟩)) (hy : a.eval y = .agg cells)
    (t : TypeId) (old : Array Value) (hg : w.heap[g]? = some (.cells old t (0, 0))) (hi : (P.info? ty).map (·.size) = some cells.size)
    (hold : old.size = cells.size) (h1 : cells.all (·.oneCell') = true)
    (h : K (a.put o.dst undef) (w.setRow g cells)) : if Region.wanted o (yielded ops a.tmps) = true then Oper.wp P o a w K Q else E := by
  rw [if_pos (by simp [Region.wanted, hgd])]
  exact wp_store_row ty x y ho g cells hx hy t old hg hi hold h1 h

theorem wv_inj (x y : UInt32) (h : (x.toNat : Int) = (y.toNat : Int)) : x = y := UInt32.toNat_inj.1 (by omega)
theorem bv_inj (x y : UInt8) (h : (x.toNat : Int) = (y.toNat : Int)) : x = y := UInt8.toNat_inj.1 (by omega)
theorem byteCells : Tryd.prog.cellsOf 5 = 1 := by kernel_rfl
theorem byte_info : ∃ i, Tryd.prog.info? 5 = some i := ⟨_, rfl⟩

theorem eql_words (w : World) (a b : List UInt32) (ha : a.length = 8) (hb : b.length = 8) :
    (binOp .eql 23 (.agg (a.map wv).toArray) (.agg (b.map wv).toArray)).run Tryd.prog w = .ok (.bool (a == b)) w := by
  obtain ⟨i, hi⟩ := word_info
  rw [run_eql_struct, run_eqlRow w false Tryd.underlying23 Tryd.underlying22 hi word_cells wv (fun x => (x.toNat : Int)) (fun _ => rfl) wv_inj 0 a b ha hb]
  rfl
theorem neq_words (w : World) (a b : List UInt32) (ha : a.length = 8) (hb : b.length = 8) :
    (binOp .neq 23 (.agg (a.map wv).toArray) (.agg (b.map wv).toArray)).run Tryd.prog w = .ok (.bool (!(a == b))) w := by
  obtain ⟨i, hi⟩ := word_info
  rw [run_neq_struct, run_eqlRow w false Tryd.underlying23 Tryd.underlying22 hi word_cells wv (fun x => (x.toNat : Int)) (fun _ => rfl) wv_inj 0 a b ha hb]
  rfl
theorem eql_key (w : World) (a b : List UInt8) (ha : a.length = 32) (hb : b.length = 32) :
    (binOp .eql 36 (.agg (a.map bv).toArray) (.agg (b.map bv).toArray)).run Tryd.prog w = .ok (.bool (a == b)) w := by
  obtain ⟨i, hi⟩ := byte_info
  rw [run_eql_struct, run_eqlRow w false Tryd.underlying36 Tryd.underlying5 hi byteCells bv (fun x => (x.toNat : Int)) (fun _ => rfl) bv_inj 0 a b ha hb]
  rfl

end Go.Proofs.YtmkkghlpdnoogaaDoor
