import Derived.Test.YtlidhdljgnijaaaDoorL02
import Derived.Test.YtlidhdljgnijaaaDoorL08
import Derived.Test.YtlidhdljgnijaaaDoorL03
import Derived.BigRegion
import Derived.ChangeKeysEq
import Derived.Great.Walk
import Derived.Laws.StructEq
import Derived.Laws.Rows
import Derived.Deep.MidRow
import Derived.Laws.CopyOwn
import Derived.Laws.MakeOwn
import Derived.Deep.RegionHeld3
import Derived.Test.YtlidhdljgnijaaaDoorL07
/-
  ARRAYS OF BYTES, AND ROWS: an array in a block, what is read of it and stored into it, whole and in parts; copy; worlds forgotten. Nothing of one layer (moved together from the texts of layers 2 and 3).
-/
set_option linter.unusedVariables false
namespace Go.Proofs.YtlidhdljgnijaaaDoor
open Go.RowKit

/-- block g is an array of bytes -/
def ArrB (w : World) (g : Nat) (t : TypeId) (l : List UInt8) : Prop := w.heap[g]? = some (.cells (l.map bv).toArray t (0, 0))

section
variable {w w' : World} {g : Nat} {t : TypeId} {l : List UInt8}
theorem ArrB.lt (h : ArrB w g t l) : g < w.heap.size := by
  unfold ArrB at h
  exact (Array.getElem?_eq_some_iff.1 h).1
theorem ArrB.cell (h : ArrB w g t l) {i : Nat} {x : UInt8} (hx : l[i]? = some x) : w.cell? ⟨g, i, none⟩ = some (.int .u8 (x.toNat : Int)) := by
  unfold ArrB at h
  rw [cell_of_row w g i _ t (0, 0) h]
  simp [hx, bv]
theorem ArrB.frozen (h : ArrB w g t l) (i : Nat) : w.frozen? ⟨g, i, none⟩ = false := by
  unfold ArrB at h
  exact frozen_of_row w g i _ t h
theorem ArrB.mk_ (w : World) (t : TypeId) (cs : Array Value) (l : List UInt8) {b : Nat} (hb : w.heap.size = b) (h : (l.map bv).toArray = cs) : ArrB (w.alloc (.cells cs t)) b t l := by
  subst hb h
  exact heap_alloc_new w _
theorem ArrB.of (h : ArrB w g t l) (e : w'.heap[g]? = w.heap[g]?) : ArrB w' g t l := by unfold ArrB at h ⊢; rw [e]; exact h
theorem ArrB.drew (h : ArrB w g t l) : ArrB w.drew g t l := h.of rfl
theorem ArrB.drewN (h : ArrB w g t l) (n : Nat) : ArrB (w.drewN n) g t l := h.of rfl
theorem ArrB.alloc (h : ArrB w g t l) (o : Obj) : ArrB (w.alloc o) g t l := h.of (heap_alloc_old w o h.lt)
theorem ArrB.below {B : Nat} (h : ArrB w g t l) (hb : Below B w w') (hg : g < B) : ArrB w' g t l := h.of (hb.block g hg)
theorem ArrB.set_ (h : ArrB w g t l) (i : Nat) (x : UInt8) : ArrB (w.setCell ⟨g, i, none⟩ (.int .u8 (x.toNat : Int))) g t (l.set i x) := by
  unfold ArrB at h ⊢
  simp only [World.setCell, Array.getElem?_modify, h, Option.map_some]
  rw [List.map_set]
  simp [bv]
theorem ArrB.row (h : ArrB w g t l) (l' : List UInt8) : ArrB (w.setRow g (l'.map bv).toArray) g t l' := by
  unfold ArrB at h ⊢
  exact setRow_heap w g _ _ t _ h
theorem ArrB.rowFar {g' : Nat} (h : ArrB w g t l) (hne : g ≠ g') (cs : Array Value) : ArrB (w.setRow g' cs) g t l := h.of (setRow_other w g' g cs hne)
theorem one_bvA (l : List UInt8) : ((l.map bv).toArray).all (·.oneCell') = true := by
  rw [Array.all_eq_true_iff_forall_mem]
  intro v hv
  obtain ⟨x, _, rfl⟩ := List.mem_map.1 (by simpa using hv)
  rfl
theorem ArrB.far (h : ArrB w g t l) {p : Addr} (hp : g ≠ p.block) (u : Value) : ArrB (w.setCell p u) g t l := h.of (Below.heap_setCell w p u g hp)
end

/-- an element of an array by value -/
theorem wpList_index_cell {P : Program} {ops : Array Oper} {rest : List Oper} {o : Oper} {a : Act} {w : World} {Q : Exit → Act → World → Prop} (hg : o.guard = none) (dst : Option Tmp) (hdst : o.dst = dst)
    (t : TypeId) (x ix : Operand) (ho : o.op = .index t x ix) (cs : Array Value) (hx : a.eval x = .agg cs) (j : Nat) (hi : a.eval ix = .int .i64 (j : Int)) (len : Nat) (e : TypeId)
    (hu : P.underlying t = some (.array len e)) (he : P.plainKey e = true) (i : TypeInfo) (hinfo : P.info? e = some i) (h1 : P.cellsOf e = 1) (v : Value) (hv : cs[j]? = some v) (hj : j < len)
    (h : wpList P ops Q rest (a.put dst v) w) : wpList P ops Q (o :: rest) a w := by
  refine Go.Great.wpList_readTo hg dst hdst v ?_ h
  simp only [execOp, ho, hx, hi]
  simp [Instr.index, run_underlying hu, asIntOf, hj, run_sizeOf w hinfo, h1, run_part_plain w he hv]

section
variable {P : Program} (w : World)
theorem eqItems_ints (d : Nat) {e : TypeId} {k : IntKind} (he : P.underlying e = some (.int k)) (f g : Nat → Int) (xs ys : Array Value) :
    ∀ is : List Nat, (∀ i ∈ is, xs[i]? = some (.int k (f i)) ∧ ys[i]? = some (.int k (g i))) → (Op.eqItems (d + 1) e 1 xs ys is).run P w = .ok (is.all fun i => f i == g i) w
  | [], _ => by simp [Op.eqItems]
  | i :: is, h => by
    obtain ⟨h1, h2⟩ := h i (by simp)
    have ih := eqItems_ints d he f g xs ys is (fun j hj => h j (by simp [hj]))
    have p1 : (part e xs (i * 1)).run P w = .ok (.int k (f i)) w := by simp [part, isAgg, run_underlying he, h1]
    have p2 : (part e ys (i * 1)).run P w = .ok (.int k (g i)) w := by simp [part, isAgg, run_underlying he, h2]
    simp only [Op.eqItems, Sem.run_bind, p1, p2, run_equalIn_int w d e k k _ _ he, Result.andThen_ok, List.all_cons]
    cases hb : (f i == g i)
    · simp
    · simp [ih]

theorem all_range {α : Type} [BEq α] [LawfulBEq α] (f : α → Int) (hf : ∀ x y, f x = f y → x = y) (z : α) (a b : List α) (n : Nat) (ha : a.length = n) (hb : b.length = n) :
    ((List.range n).all fun i => f (a.getD i z) == f (b.getD i z)) = (a == b) := by
  rw [Bool.eq_iff_iff, List.all_eq_true, beq_iff_eq]
  constructor
  · intro h
    apply List.ext_getElem (by omega)
    intro i h1 h2
    have := h i (by simp; omega)
    rw [beq_iff_eq, List.getD_eq_getElem?_getD, List.getD_eq_getElem?_getD, List.getElem?_eq_getElem h1, List.getElem?_eq_getElem h2] at this
    exact hf _ _ this
  · rintro rfl i _
    simp

theorem run_eqlRow (neg : Bool) {t e : TypeId} {k : IntKind} {n : Nat} (ht : P.underlying t = some (.array n e)) (he : P.underlying e = some (.int k)) {i : TypeInfo} (hi : P.info? e = some i) (hc : P.cellsOf e = 1)
    {α : Type} [BEq α] [LawfulBEq α] (c : α → Value) (f : α → Int) (hcf : ∀ x, c x = .int k (f x)) (hf : ∀ x y, f x = f y → x = y) (z : α) (a b : List α) (ha : a.length = n) (hb : b.length = n) :
    (Op.equalIn 10000 t (.agg (a.map c).toArray) (.agg (b.map c).toArray)).run P w = .ok (a == b) w := by
  rw [run_equalIn_array w 9999 _ _ ht hi, hc, eqItems_ints w 9998 he (fun i => f (a.getD i z)) (fun i => f (b.getD i z)) _ _ _ (fun i hi => ?_), all_range f hf z a b n ha hb]
  have hin : i < n := by simpa using hi
  have h1 : a[i]? = some a[i] := List.getElem?_eq_getElem (by omega)
  have h2 : b[i]? = some b[i] := List.getElem?_eq_getElem (by omega)
  simp [List.getD_eq_getElem?_getD, h1, h2, hcf]
end

/-- a whole row is read, by an operation that is guarded and wanted -/
theorem wpList_load_rowG {P : Program} {ops : Array Oper} {rest : List Oper} {o : Oper} {a : Act} {w : World} {Q : Exit → Act → World → Prop} (hgd : Region.wanted o (yielded ops a.tmps) = true) (ty : TypeId) (x : Operand) (ho : o.op = .load ty x)
    (g : Nat) (hx : a.eval x = .pointer (some ⟨g, 0, none⟩)) (t : TypeId) (cs : Array Value) (fr : Nat × Nat) (d : TypeDesc) (hg : w.heap[g]? = some (.cells cs t fr))
    (hu : P.underlying ty = some d) (hd : (match d with | .struct _ | .array _ _ => true | _ => false) = true) (hi : (P.info? ty).map (·.size) = some cs.size)
    (h : wpList P ops Q rest (a.put o.dst (.agg cs)) w) : wpList P ops Q (o :: rest) a w := by
  refine wpList_step fun _ hK => ?_
  rw [if_pos hgd]
  exact wp_load_row ty x ho g hx t cs fr d hg hu hd hi (hK _ _ h)
theorem wpList_load_midG {P : Program} {ops : Array Oper} {rest : List Oper} {op : Oper} {a : Act} {w : World} {Q : Exit → Act → World → Prop} (hgd : Region.wanted op (yielded ops a.tmps) = true) (ty : TypeId) (x : Operand) (ho : op.op = .load ty x)
    (b o : Nat) (hx : a.eval x = .pointer (some ⟨b, o, none⟩)) (cs : List Value) (d : TypeDesc) (hc : w.rangeAt b o cs)
    (hu : P.underlying ty = some d) (hd : d.isRow = true) (hi : (P.info? ty).map (·.size) = some cs.length)
    (h : wpList P ops Q rest (a.put op.dst (.agg cs.toArray)) w) : wpList P ops Q (op :: rest) a w := by
  refine wpList_step fun _ hK => ?_
  rw [if_pos hgd]
  exact wp_load_mid ty x ho b o hx cs d hc hu hd hi (hK _ _ h)

/-- a whole row is stored: one step of a region that draws its order -/
theorem step_store_row {P : Program} {ops : Array Oper} {o : Oper} {a : Act} {w : World} {K : Act → World → Prop} {Q : Exit → Act → World → Prop} {E : Prop} (hgd : o.guard = none) (ty : TypeId) (x y : Operand) (ho : o.op = .store ty x y)
    (g : Nat) (cells : Array Value) (hx : a.eval x = .pointer (some ⟨g, 0, none⟩)) (hy : a.eval y = .agg cells)
    (t : TypeId) (old : Array Value) (hg : w.heap[g]? = some (.cells old t (0, 0))) (hi : (P.info? ty).map (·.size) = some cells.size)
    (hold : old.size = cells.size) (h1 : cells.all (·.oneCell') = true)
    (h : K (a.put o.dst undef) (w.setRow g cells)) : if Region.wanted o (yielded ops a.tmps) = true then Oper.wp P o a w K Q else E := by
  rw [if_pos (by simp [Region.wanted, hgd])]
  exact wp_store_row ty x y ho g cells hx hy t old hg hi hold h1 h

theorem wv_inj (x y : UInt32) (h : (x.toNat : Int) = (y.toNat : Int)) : x = y := UInt32.toNat_inj.1 (by omega)
theorem bv_inj (x y : UInt8) (h : (x.toNat : Int) = (y.toNat : Int)) : x = y := UInt8.toNat_inj.1 (by omega)
theorem byteCells : Tryd.prog.cellsOf 5 = 1 := by kernel_rfl
theorem byte_info : ∃ i, Tryd.prog.info? 5 = some i := by
  have h : (Tryd.prog.info? 5).isSome = true := by kernel_rfl
  exact Option.isSome_iff_exists.1 h

theorem setRow_same (w : World) (g : Nat) (cs : Array Value) (t : TypeId) (fr : Nat × Nat) (hg : w.heap[g]? = some (.cells cs t fr)) : w.setRow g cs = w := by
  unfold World.setRow
  have : w.heap.modify g (fun | .cells _ elem frozen => .cells cs elem frozen | o => o) = w.heap := by
    apply Array.ext_getElem?
    intro i
    rw [Array.getElem?_modify]
    by_cases h : g = i
    · subst h; simp [hg]
    · simp [h]
  exact congrArg (fun h => ({ w with heap := h } : World)) this

/-- copy into a row that is known whole: one law for all sources, the world behind it written out -/
theorem wpList_copy_row {P : Program} {w : World} {ops : Array Oper} {rest : List Oper} {o : Oper} {a : Act} {Q : Exit → Act → World → Prop} (hgd : o.guard = none) (d s : Operand) (dT sT : TypeId)
    (ho : o.op = .call { callee := .builtin .copy, args := #[d, s], argTypes := #[dT, sT] }) (elem : TypeId) (hu : P.underlying dT = some (.slice elem)) (hsz : (P.info? elem).map (·.size) = some 1)
    (dp sp : Option Addr) (dLen dCap sLen sCap : Nat) (hd : a.eval d = .slice dp dLen dCap) (hs : a.eval s = .slice sp sLen sCap)
    (g off : Nat) (cur : List Value) (t : TypeId) (hg : w.heap[g]? = some (.cells cur.toArray t (0, 0))) (cs : List Value) (hn : cs.length = Nat.min sLen dLen)
    (hpos : 0 < cs.length → dp = some ⟨g, off, none⟩ ∧ ∃ ad, sp = some ad ∧ ∀ j v, cs[j]? = some v → w.cell? (ad.add j) = some v)
    (hfit : off + cs.length ≤ cur.length) (h1 : ∀ v ∈ cs, v.oneCell' = true)
    (h : wpList P ops Q rest (a.put o.dst (goInt cs.length)) (w.setRow g (splice cur off cs).toArray)) :
    wpList P ops Q (o :: rest) a w := by
  by_cases h0 : cs.length = 0
  · obtain rfl : cs = [] := List.eq_nil_of_length_eq_zero h0
    refine wpList_copy_nothing hgd d s dT sT ho elem hu hsz dp sp dLen dCap sLen sCap hd hs (by simpa using hn.symm) ?_
    have e : w.setRow g (splice cur off []).toArray = w := by
      have : splice cur off ([] : List Value) = cur := by simp [splice]
      rw [this]
      exact setRow_same w g _ t _ hg
    rw [e] at h
    exact h
  · obtain ⟨rfl, ad, rfl, hsrc⟩ := hpos (by omega)
    refine wpList_copy_own hgd d s dT sT ho elem hu hsz g off dLen dCap ad sLen sCap hd hs cur.toArray t hg cs hn hsrc (by simpa using hfit) h1 ?_
    have e : (cur.toArray.toList.take off ++ (cs ++ cur.toArray.toList.drop (off + cs.length))).toArray = (splice cur off cs).toArray := by simp [splice]
    rw [e]
    exact h

theorem byteSize : (Tryd.prog.info? 5).map (·.size) = some 1 := by kernel_rfl

theorem make_bytes (m : Nat) (w : World) (k : IntKind) (x : Int) (hx : x = (m : Int)) (hm : m ≤ 1099511627776) :
    ∃ w1, (Instr.makeSlice 41 (.int k x) (.int k x)).run Tryd.prog w = .ok (.slice (some ⟨w.heap.size, 0, none⟩) m m) w1 ∧ ArrB w1 w.heap.size 5 (List.replicate m 0) ∧ Below w.heap.size w w1 := by
  subst hx
  obtain ⟨i0, hi0, hz0, hz1, hz2⟩ := info_parts byteInfo
  have h := run_make (P := Tryd.prog) w 41 5 i0 _ Tryd.underlying41 hi0 hz0 k k (m : Int) (m : Int) (by omega) (Int.le_refl _) (by rw [hz2]; omega) (by omega)
  rw [hz1, Int.toNat_natCast] at h
  refine ⟨_, h, ?_, (Below.refl _ _).alloc (Nat.le_refl _) _⟩
  refine ArrB.mk_ _ _ _ _ rfl ?_
  apply Array.ext_getElem?
  intro i
  by_cases hi : i < m
  · simp [madeCells, Value.cells, hi, bv, Nat.mod_one]
  · simp [madeCells, Value.cells, hi]

theorem ArrB.at_ {w : World} {g : Nat} {t : TypeId} {l : List UInt8} (h : ArrB w g t l) : w.heap[g]? = some (.cells (l.map bv).toArray t (0, 0)) := h

theorem own_arr {w : World} {base g : Nat} {l : List UInt8} {n : Nat} (h : ArrB w g 5 l) (hb : base ≤ g) (hl : l.length = n) (hm : n ≤ maxLen) : w.ownsRow base 5 1 (.slice (some ⟨g, 0, none⟩) n n) n (l.map bv) := by
  subst hl
  exact ⟨by simp, .inr ⟨g, l.length, (l.map bv).toArray, rfl, hb, h, Nat.le_refl _, hm, by simp, by rw [Nat.mul_one]; exact List.take_of_length_le (by simp)⟩⟩

theorem splice_in {α : Type} (L M : List α) (cs : List α) (h : cs.length ≤ M.length) : splice (L ++ M) L.length cs = (L ++ cs) ++ M.drop cs.length := by
  unfold splice
  rw [List.take_left, ← List.drop_drop, List.drop_left, List.append_assoc]

theorem splice_bytes (l : List UInt8) (off : Nat) (cs : List UInt8) : splice (l.map bv) off (cs.map bv) = (splice l off cs).map bv := by
  simp [splice]

theorem splice_set {α : Type} (cs : List α) (o : Nat) (v : α) (r : List α) (hl : o + (r.length + 1) ≤ cs.length) : splice (cs.set o v) (o + 1) r = splice cs o (v :: r) := by
  have e : cs.set o v = (cs.take o ++ [v]) ++ cs.drop (o + 1) := by
    rw [List.set_eq_take_append_cons_drop, if_pos (by omega)]; simp
  have hlen : (cs.take o ++ [v]).length = o + 1 := by simp; omega
  rw [e, ← hlen, splice_in _ _ _ (by simp; omega)]
  unfold splice
  rw [List.drop_drop]
  simp
  omega

theorem setCells_heap (g : Nat) (t : TypeId) : ∀ (vs cs : List Value) (o : Nat) (w : World), w.heap[g]? = some (.cells cs.toArray t (0, 0)) → o + vs.length ≤ cs.length →
    (w.setCells g o vs).heap[g]? = some (.cells (splice cs o vs).toArray t (0, 0))
  | [], cs, o, w, hg, _ => by
    rw [World.setCells, hg]; simp [splice]
  | v :: r, cs, o, w, hg, hl => by
    simp only [List.length_cons] at hl
    have h1 : (w.setCell ⟨g, o, none⟩ v).heap[g]? = some (.cells (cs.set o v).toArray t (0, 0)) := by
      simp only [World.setCell, Array.getElem?_modify, hg, Option.map_some]
      simp
    rw [World.setCells, setCells_heap g t r (cs.set o v) (o + 1) _ h1 (by rw [List.length_set]; omega)]
    rw [splice_set cs o v r hl]
theorem setCells_far (g g' : Nat) (hne : g' ≠ g) : ∀ (vs : List Value) (o : Nat) (w : World), (w.setCells g o vs).heap[g']? = w.heap[g']?
  | [], _, _ => rfl
  | v :: r, o, w => by
    rw [World.setCells, setCells_far g g' hne r]
    exact Below.heap_setCell w _ v g' hne
theorem below_setCells {B g : Nat} {a : World} (hg : B ≤ g) : ∀ (vs : List Value) (o : Nat) (w : World), Below B a w → Below B a (w.setCells g o vs)
  | [], _, _, h => h
  | v :: r, o, w, h => below_setCells hg r (o + 1) _ (h.setCell hg v)

theorem own_far {w w' : World} {base : Nat} {e : TypeId} {size : Nat} {v : Value} {n : Nat} {xs : List Value} (h : w.ownsRow base e size v n xs) (hs : w.heap.size ≤ w'.heap.size) (hb : ∀ g, v.ownBlock = some g → w'.heap[g]? = w.heap[g]?) : w'.ownsRow base e size v n xs := by
  refine ⟨h.1, ?_⟩
  rcases h.2 with h0 | ⟨g, cap, cur, hv, h1, h2, h3⟩
  · exact .inl h0
  · exact .inr ⟨g, cap, cur, hv, h1, (hb g (by rw [hv]; rfl)).trans h2, h3⟩

theorem wp_gen {P : Program} {c : Code} {Q : Exit → Act → World → Prop} {a : Act} {w0 : World} (R : World → Prop) (h0 : R w0) (h : ∀ w1, R w1 → Code.wp P c Q a w1) : Code.wp P c Q a w0 := h w0 h0
theorem wpList_gen {P : Program} {ops : Array Oper} {l : List Oper} {Q : Exit → Act → World → Prop} {a : Act} {w0 : World} (R : World → Prop) (h0 : R w0) (h : ∀ w1, R w1 → wpList P ops Q l a w1) : wpList P ops Q l a w0 := h w0 h0

theorem Rd.src {w : World} {B : Nat} {A : Option Addr} {n : Nat} {xs : List Value} (h : Rd w B A n xs) (hp : 0 < xs.length) : ∃ ad, A = some ad ∧ ∀ j v, xs[j]? = some v → w.cell? (ad.add j) = some v := by
  obtain ⟨b, o, e, _, hc⟩ := h.pos (by rw [← h.len]; exact hp)
  exact ⟨_, e, fun j v hv => by rw [Addr.add_lit]; exact hc j v hv⟩

theorem own_base {w : World} {B base : Nat} {e : TypeId} {size : Nat} {v : Value} {n : Nat} {xs : List Value} (h : w.ownsRow B e size v n xs) (hb : base ≤ B) : w.ownsRow base e size v n xs := by
  refine ⟨h.1, ?_⟩
  rcases h.2 with h0 | ⟨g, cap, cur, hv, h1, h2⟩
  · exact .inl h0
  · exact .inr ⟨g, cap, cur, hv, Nat.le_trans hb h1, h2⟩

theorem calls_gen {P : Program} {f : FuncId} {args : Array Value} {w0 : World} {Q : Ending → World → Prop} (R : World → Prop) (h0 : R w0) (h : ∀ w1, R w1 → Calls P f args w1 Q) : Calls P f args w0 Q := h w0 h0
theorem Rd.mkFr (w : World) (t : TypeId) (fr : Nat × Nat) (xs : Array Value) {b B n : Nat} {l : List Value} (hb : w.heap.size = b) (hB : b < B) (hn : xs.size = n) (hl : xs.toList = l) : Rd (w.alloc (.cells xs t fr)) B (some ⟨b, 0, none⟩) n l := by
  subst hb hn hl
  refine ⟨by simp, fun _ => ⟨w.heap.size, 0, rfl, hB, fun j u hu => ?_⟩⟩
  rw [cell_of_row _ w.heap.size (0 + j) xs t fr (heap_alloc_new w _), Nat.zero_add]
  simpa using hu

theorem b_lt (x : UInt8) : x.toNat < 256 := x.toBitVec.isLt
theorem b_xor (a b : UInt8) : bits .xor .u8 (a.toNat : Int) (b.toNat : Int) = ((a ^^^ b).toNat : Int) := by
  rw [u8_xor_nat _ _ (b_lt a) (b_lt b), UInt8.toNat_xor]
/-- an own row under a store into it -/
theorem own_set {w : World} {base : Nat} {t : TypeId} {n c g : Nat} {xs : List Value} (h : w.ownsRow base t 1 (.slice (some ⟨g, 0, none⟩) n c) n xs) {j : Nat} (hj : j < n) (u : Value) :
    (w.setCell ⟨g, j, none⟩ u).ownsRow base t 1 (.slice (some ⟨g, 0, none⟩) n c) n (xs.set j u) := by
  refine ⟨by rw [List.length_set]; exact h.1, .inr ?_⟩
  rcases h.2 with ⟨h0, _⟩ | ⟨g', cap, cur, hv, hb, hg, hnc, hcm, hcs, ht⟩
  · cases h0
  · injection hv with h1 h2 h3
    injection h1 with h1
    injection h1 with h1
    subst h1 h3
    refine ⟨g, c, cur.setIfInBounds j u, rfl, hb, ?_, hnc, hcm, by simpa using hcs, ?_⟩
    · simp only [World.setCell, Array.getElem?_modify, hg, Option.map_some]
      simp
    · rw [Array.toList_setIfInBounds, List.take_set, ht]
theorem own_free {w : World} {base : Nat} {t : TypeId} {n c g : Nat} {xs : List Value} (h : w.ownsRow base t 1 (.slice (some ⟨g, 0, none⟩) n c) n xs) (j : Nat) : w.frozen? ⟨g, j, none⟩ = false := by
  rcases h.2 with ⟨h0, _⟩ | ⟨g', cap, cur, hv, hb, hg, _⟩
  · cases h0
  · injection hv with h1
    injection h1 with h1
    injection h1 with h1
    subst h1
    exact frozen_of_row w g j _ t hg
theorem c_refl (w : World) : Below w.heap.size w w := Below.refl _ _
theorem c_alloc {a w : World} (h : Below a.heap.size a w) (o : Obj) : Below a.heap.size a (w.alloc o) := h.alloc h.size o
theorem c_drew {a w : World} (h : Below a.heap.size a w) : Below a.heap.size a w.drew := h.drew
theorem c_row {a w : World} (h : Below a.heap.size a w) {g : Nat} (hg : a.heap.size ≤ g) (cs : Array Value) : Below a.heap.size a (w.setRow g cs) := below_setRow h hg cs
theorem c_call {a w w' : World} (h : Below a.heap.size a w) (hb : Below w.heap.size w w') : Below a.heap.size a w' := h.trans (hb.mono h.size)
theorem c_rd {a w : World} {A : Option Addr} {n : Nat} {xs : List Value} (h : Rd a a.heap.size A n xs) (hb : Below a.heap.size a w) : Rd w w.heap.size A n xs := (h.below hb).more hb.size
theorem new_range {w1 : World} {cs : List Value} {t : TypeId} {g : Nat} (hg : w1.heap.size = g) (wx : World) (hb : Below (w1.alloc (.cells cs.toArray t)).heap.size (w1.alloc (.cells cs.toArray t)) wx) : wx.rangeAt g 0 cs := fun j u hu => by
  subst hg
  have hr : wx.heap[w1.heap.size]? = some (.cells cs.toArray t (0, 0)) := (hb.block _ (by simp)).trans (heap_alloc_new w1 _)
  rw [cell_of_row wx _ _ _ _ (0, 0) hr]
  simpa using hu
theorem d_rd {a w : World} {A : Option Addr} {n : Nat} {xs : List Value} (h : Rd a a.heap.size A n xs) (hb : Below a.heap.size a w) : Rd w w.heap.size A n xs := (h.below hb).more hb.size
theorem d_al (w : World) (o : Obj) : Below w.heap.size w (w.alloc o) := (Below.refl _ _).alloc (Nat.le_refl _) o

theorem step_append_rd {P : Program} {w : World} {ops : Array Oper} {o : Oper} {a : Act} {K : Act → World → Prop} {Q : Exit → Act → World → Prop} {E : Prop} (hgd : Region.wanted o (yielded ops a.tmps) = true) (s x : Operand) (t : TypeId)
    (ho : o.op = .call { callee := .builtin .append, args := #[s, x], argTypes := #[t, t] })
    (base : Nat) (e : TypeId) (i : TypeInfo) (z : Value) (bytes : Nat) (ht : P.underlying t = some (.slice e)) (hi : P.info? e = some i) (hz : i.zero = some z)
    (hsize : i.size = 1) (hby : i.bytes = bytes) (hzs : z.cells.size = 1)
    (v : Value) (n : Nat) (xs : List Value) (hs : a.eval s = v) (hown : w.ownsRow base e 1 v n xs)
    (B : Nat) (A : Option Addr) (m c : Nat) (news : List Value) (hx : a.eval x = .slice A m c) (hr : Rd w B A m news) (h1 : ∀ u ∈ news, u.oneCell' = true)
    (h63 : n + m ≤ maxLen) (hbytes : (n + m) * bytes ≤ 140737488355328) (hbase : base ≤ w.heap.size)
    (h : ∀ v' w', w'.ownsRow base e 1 v' (n + m) (xs ++ news) → w.grownBy w' v.ownBlock → K (a.put o.dst v') w') : if Region.wanted o (yielded ops a.tmps) = true then Oper.wp P o a w K Q else E := by
  rw [if_pos hgd]
  obtain ⟨v', w', hrun, h2, h3, h4⟩ := run_append_rd (P := P) w base t o.type e i z bytes ht hi hz hsize hby hzs v n xs hown B A m c news hr h1 h63 hbytes hbase
  unfold Oper.wp execOp
  simp only [ho, resolve, invoke, builtin, Sem.run_bind, Sem.run_pure, Result.andThen_ok, List.map_toArray, List.map_cons, List.map_nil, hs, hx, hrun]
  exact h v' w' h2 h3

/-- an array stored whole by its cells -/
theorem ArrB.stored {w : World} {g : Nat} {t : TypeId} {l l' : List UInt8} (h : ArrB w g t l) (hl : l'.length = l.length) : ArrB (w.setCells g 0 (l'.map bv)) g t l' := by
  have hh := setCells_heap g t (l'.map bv) (l.map bv) 0 w h (by simp [hl])
  rw [splice_bytes] at hh
  have e : splice l 0 l' = l' := by simp [splice, hl]
  rw [e] at hh
  exact hh
theorem ArrB.there {w : World} {g : Nat} {t : TypeId} {l : List UInt8} {n : Nat} (h : ArrB w g t l) (hn : l.length = n) : w.there g 0 n := fun j hj => by
  rw [Nat.zero_add]
  exact ⟨by rw [h.cell (List.getElem?_eq_getElem (show j < l.length by omega))]; rfl, h.frozen j⟩
theorem ArrB.range {w : World} {g : Nat} {t : TypeId} {l : List UInt8} (h : ArrB w g t l) : w.rangeAt g 0 (l.map bv) := fun j v hv => by
  rw [List.getElem?_map] at hv
  obtain ⟨z, hz, rfl⟩ := Option.map_eq_some_iff.1 hv
  rw [Nat.zero_add]
  exact h.cell hz

/-- block g is an array of n bytes, whichever -/
def SomeB (w : World) (g : Nat) (t : TypeId) (n : Nat) : Prop := ∃ l : List UInt8, l.length = n ∧ ArrB w g t l
theorem ArrB.some {w : World} {g : Nat} {t : TypeId} {l : List UInt8} {n : Nat} (h : ArrB w g t l) (hn : l.length = n) : SomeB w g t n := ⟨l, hn, h⟩

end Go.Proofs.YtlidhdljgnijaaaDoor

/-
  CONTRACT of the document's first (coterieref10).
-/
set_option linter.unusedVariables false
namespace Go.Proofs.YtlidhdljgnijaaaDoor
open Go.RowKit

/-- how deep what a value has below is, in memory -/
def depW (w : World) : Nat → Value → Nat
  | 0, _ => 0
  | k + 1, .slice (some a) (n + 1) _ => 1 + depW w k ((w.cell? ⟨a.block, a.off + 1, none⟩).getD undef)
  | _, _ => 0
theorem dep_hi {w : World} {B : Nat} : ∀ (h k : Nat) (x : Nd) (v : Value), Nd.hi h x → NdV w B x v → h < k → depW w k v = h
  | 0, k + 1, x, v, hx, hv, hk => by
    obtain ⟨i, rfl⟩ := hi_zero hx
    rw [show v = .slice none 0 0 from hv]
    rfl
  | h + 1, k + 1, x, v, hx, hv, hk => by
    obtain ⟨A, c, rfl, hs⟩ := hv.kids
    obtain ⟨h1, h2, _, _⟩ := hi_succ hx
    obtain ⟨b, o, u, rfl, hb, hu, c1, c2⟩ := hs.get (i := 0) (by omega)
    obtain ⟨n, hn⟩ : ∃ n, x.kids.length = n + 1 := ⟨x.kids.length - 1, by omega⟩
    rw [hn, depW]
    rw [show o + 2 * 0 + 1 = o + 1 by omega] at c2
    rw [c2, Option.getD_some, dep_hi h k _ u (h2 _ (List.getElem_mem (by omega))) hu (by omega)]
    omega
theorem first_kid0 {h : Nat} {x : Nd} (hx : Nd.hi (h + 1) x) (h0 : 0 < x.kids.length) : x.kids[0].first = x.first := by
  match hk : x.kids, h0 with
  | y :: s, _ => exact first_kid hx hk

end Go.Proofs.YtlidhdljgnijaaaDoor

/-
  A BOX OUT OF SIGHT: what reads in a world one of whose boxes is empty lies in other blocks; a store into that box leaves it.
-/
set_option linter.unusedVariables false
namespace Go.Proofs.YtlidhdljgnijaaaDoor
open Go.RowKit

/-- the world without what one box holds -/
def hid1 (w : World) (g : Nat) : World := w.setRow g #[]
theorem hid1_size (w : World) (g : Nat) : (hid1 w g).heap.size = w.heap.size := by simp [hid1, World.setRow]
theorem hid1_setCell (w : World) (g i : Nat) (v : Value) : hid1 (w.setCell ⟨g, i, none⟩ v) g = hid1 w g := by
  unfold hid1 World.setRow World.setCell
  congr 1
  apply Array.ext_getElem?
  intro k
  simp only [Array.getElem?_modify]
  by_cases h : g = k
  · simp only [h, if_true]
    cases w.heap[k]? with
    | none => rfl
    | some o => cases o <;> rfl
  · simp [h]
theorem Rd.unhide1 {w : World} {g : Nat} {t : TypeId} {cs : Array Value} (hg : RowC w g t cs) {B n : Nat} {A : Option Addr} {xs : List Value} (h : Rd (hid1 w g) B A n xs) : Rd w B A n xs ∧ (0 < n → ∀ ad, A = some ad → ad.block ≠ g) := by
  have hrow : (hid1 w g).heap[g]? = some (.cells #[] t (0, 0)) := setRow_heap w g cs #[] t (0, 0) hg
  have hne : 0 < n → ∀ ad, A = some ad → ad.block ≠ g := by
    intro hn ad had e
    obtain ⟨b, o, h1, h2, h3⟩ := h.pos hn
    rw [h1] at had
    injection had with had
    subst had
    have hb : b = g := e
    subst hb
    obtain ⟨u, hu⟩ : ∃ u, xs[0]? = some u := ⟨_, List.getElem?_eq_getElem (by rw [h.len]; exact hn)⟩
    have := h3 0 u hu
    rw [cell_of_row _ b (o + 0) #[] t (0, 0) hrow] at this
    simp at this
  refine ⟨⟨h.len, fun hn => ?_⟩, hne⟩
  obtain ⟨b, o, h1, h2, h3⟩ := h.pos hn
  refine ⟨b, o, h1, h2, fun j u hu => ?_⟩
  rw [← h3 j u hu]
  exact (cell_setRow_other w g #[] ⟨b, o + j, none⟩ (show b ≠ g from hne hn ⟨b, o, none⟩ h1)).symm
theorem Rd.hide1 {w : World} {g : Nat} {B n : Nat} {A : Option Addr} {xs : List Value} (h : Rd w B A n xs) (hne : 0 < n → ∀ ad, A = some ad → ad.block ≠ g) : Rd (hid1 w g) B A n xs := by
  refine ⟨h.len, fun hn => ?_⟩
  obtain ⟨b, o, h1, h2, h3⟩ := h.pos hn
  refine ⟨b, o, h1, h2, fun j u hu => ?_⟩
  rw [← h3 j u hu]
  exact cell_setRow_other w g #[] ⟨b, o + j, none⟩ (show b ≠ g from hne hn ⟨b, o, none⟩ h1)
theorem hid_keep1 {w w' : World} {g : Nat} {t : TypeId} {cs : Array Value} (hg : RowC w g t cs) {B B' : Nat} (hk : ∀ (A : Option Addr) (n : Nat) (xs : List Value), Rd w B A n xs → Rd w' B' A n xs) :
    ∀ (A : Option Addr) (n : Nat) (xs : List Value), Rd (hid1 w g) B A n xs → Rd (hid1 w' g) B' A n xs := fun A n xs h =>
  have h1 := h.unhide1 hg
  (hk _ _ _ h1.1).hide1 h1.2
theorem hid_low1 {w : World} {g : Nat} {B : Nat} (hB : B ≤ g) : ∀ (A : Option Addr) (n : Nat) (xs : List Value), Rd w B A n xs → Rd (hid1 w g) B A n xs := fun A n xs h =>
  h.hide1 fun hn ad had => by
    obtain ⟨b, o, h1, h2, _⟩ := h.pos hn
    rw [h1] at had
    injection had with had
    subst had
    show b ≠ g
    omega
theorem unhid1 {w : World} {g : Nat} {t : TypeId} {cs : Array Value} (hg : RowC w g t cs) {B : Nat} : ∀ (A : Option Addr) (n : Nat) (xs : List Value), Rd (hid1 w g) B A n xs → Rd w B A n xs := fun A n xs h => (h.unhide1 hg).1
theorem own_hide1 {w : World} {g base : Nat} {e : TypeId} {size : Nat} {v : Value} {n : Nat} {xs : List Value} (h : w.ownsRow base e size v n xs) (hg : g < base) : (hid1 w g).ownsRow base e size v n xs := by
  refine ⟨h.1, ?_⟩
  rcases h.2 with hn | ⟨k, cap, cur, hv, hb, hc, rest⟩
  · exact .inl hn
  · exact .inr ⟨k, cap, cur, hv, hb, by rw [hid1, setRow_other w g k #[] (by omega)]; exact hc, rest⟩
/-- two boxes -/
structure Bx (w : World) (g g' : Nat) : Prop where
  ne : g' ≠ g
  one : ∃ t cs, RowC w g t cs
  two : ∃ t cs, RowC w g' t cs
theorem Bx.inner {w : World} {g g' : Nat} (h : Bx w g g') : ∃ t cs, RowC (hid1 w g) g' t cs := by
  obtain ⟨t, cs, hr⟩ := h.two
  exact ⟨t, cs, hr.rowFar h.ne #[]⟩
/-- the world without what two boxes hold -/
def hidB (w : World) (g g' : Nat) : World := hid1 (hid1 w g) g'
theorem hidB_size (w : World) (g g' : Nat) : (hidB w g g').heap.size = w.heap.size := by rw [hidB, hid1_size, hid1_size]
theorem hidB_setCell (w : World) (g g' i : Nat) (v : Value) : hidB (w.setCell ⟨g, i, none⟩ v) g g' = hidB w g g' := by rw [hidB, hid1_setCell]; rfl
theorem Rd.unhide {w : World} {g g' : Nat} (hg : Bx w g g') {B n : Nat} {A : Option Addr} {xs : List Value} (h : Rd (hidB w g g') B A n xs) : Rd w B A n xs ∧ (0 < n → ∀ ad, A = some ad → ad.block ≠ g ∧ ad.block ≠ g') := by
  obtain ⟨t, cs, hr⟩ := hg.inner
  obtain ⟨t2, cs2, hr2⟩ := hg.one
  have h1 := Rd.unhide1 hr h
  have h2 := Rd.unhide1 hr2 h1.1
  exact ⟨h2.1, fun hn ad had => ⟨h2.2 hn ad had, h1.2 hn ad had⟩⟩
theorem Rd.hide {w : World} {g g' : Nat} {B n : Nat} {A : Option Addr} {xs : List Value} (h : Rd w B A n xs) (hne : 0 < n → ∀ ad, A = some ad → ad.block ≠ g ∧ ad.block ≠ g') : Rd (hidB w g g') B A n xs :=
  (h.hide1 fun hn ad had => (hne hn ad had).1).hide1 fun hn ad had => (hne hn ad had).2
theorem hid_keep {w w' : World} {g g' : Nat} (hg : Bx w g g') {B B' : Nat} (hk : ∀ (A : Option Addr) (n : Nat) (xs : List Value), Rd w B A n xs → Rd w' B' A n xs) :
    ∀ (A : Option Addr) (n : Nat) (xs : List Value), Rd (hidB w g g') B A n xs → Rd (hidB w' g g') B' A n xs := fun A n xs h =>
  have h1 := h.unhide hg
  (hk _ _ _ h1.1).hide h1.2
theorem hid_low {w : World} {g g' : Nat} {B : Nat} (hB : B ≤ g) (hB' : B ≤ g') : ∀ (A : Option Addr) (n : Nat) (xs : List Value), Rd w B A n xs → Rd (hidB w g g') B A n xs := fun A n xs h =>
  hid_low1 hB' _ _ _ (hid_low1 hB _ _ _ h)
theorem unhid {w : World} {g g' : Nat} (hg : Bx w g g') {B : Nat} : ∀ (A : Option Addr) (n : Nat) (xs : List Value), Rd (hidB w g g') B A n xs → Rd w B A n xs := fun A n xs h => (h.unhide hg).1
theorem own_hide {w : World} {g g' base : Nat} {e : TypeId} {size : Nat} {v : Value} {n : Nat} {xs : List Value} (h : w.ownsRow base e size v n xs) (hg : g < base) (hg' : g' < base) : (hidB w g g').ownsRow base e size v n xs := own_hide1 (own_hide1 h hg) hg'
/-- what reads with the boxes out of sight reads after the second one has been written -/
theorem hid_row {w : World} {g g' : Nat} (hg : Bx w g g') (cs : Array Value) {B : Nat} : ∀ (A : Option Addr) (n : Nat) (xs : List Value), Rd (hidB w g g') B A n xs → Rd (w.setRow g' cs) B A n xs := fun A n xs h => by
  have h1 := h.unhide hg
  refine ⟨h1.1.len, fun hn => ?_⟩
  obtain ⟨b, o, e1, e2, e3⟩ := h1.1.pos hn
  refine ⟨b, o, e1, e2, fun j u hu => ?_⟩
  rw [cell_setRow_other w g' cs ⟨b, o + j, none⟩ (show b ≠ g' from (h1.2 hn ⟨b, o, none⟩ e1).2)]
  exact e3 j u hu
theorem Ms.setCellT {w0 w : World} {g : Nat} {t : TypeId} {cs : Array Value} {L : List (Nat × TypeId × Array Value)} (h : Ms w0 w ((g, t, cs) :: L)) (hg : w0.heap.size ≤ g) (hne : ∀ p ∈ L, p.1 ≠ g) (i : Nat) (v : Value) :
    Ms w0 (w.setCell ⟨g, i, none⟩ v) ((g, t, cs.setIfInBounds i v) :: L) :=
  ⟨h.old.setCell hg _, fun p hp => by
    rcases List.mem_cons.1 hp with rfl | hp
    · exact (h.rows (g, t, cs) (by simp)).set_ i v
    · exact (h.rows p (by simp [hp])).far (hne p hp) v⟩

/-- a node of a slice, read in the world itself -/
theorem SlN.rangeH {w : World} {g g' : Nat} (hg : Bx w g g') {B : Nat} {A : Option Addr} {n c : Nat} {F : List Nd} (h : SlN (hidB w g g') B A n c F) {i : Nat} (hi : i < F.length) :
    ∃ b o v, A = some ⟨b, o, none⟩ ∧ b < B ∧ NdV (hidB w g g') B F[i] v ∧ w.rangeAt b (o + i * 2) [iv F[i].id, v] ∧ w.cell? ⟨b, o + i * 2 + 1, none⟩ = some v := by
  obtain ⟨h1, h2, h3, vs, h4, h5⟩ := h
  have h6 := (h5.unhide hg).1
  obtain ⟨b, o, e, hb, hc⟩ := h6.pos (by omega)
  obtain ⟨v, r1, r2, r3, r4⟩ := h4.get hi
  have c1 := hc _ _ r3
  have c2 := hc _ _ r4
  rw [show o + (2 * i + 1) = o + i * 2 + 1 by omega] at c2
  rw [show o + 2 * i = o + i * 2 by omega] at c1
  refine ⟨b, o, v, e, hb, r2, fun j u hu => ?_, c2⟩
  match j, hu with
  | 0, hu =>
    injection hu with hu
    subst hu
    exact c1
  | 1, hu =>
    injection hu with hu
    subst hu
    exact c2
  | j + 2, hu => simp at hu

/-- the world without what some blocks hold -/
def vw : List Nat → World → World
  | [], w => w
  | g :: gs, w => vw gs (hid1 w g)
/-- these are blocks of cells -/
def Cells (gs : List Nat) (w : World) : Prop := ∀ g ∈ gs, ∃ t cs, RowC w g t cs
theorem Cells.hid {gs : List Nat} {w : World} (h : Cells gs w) (g : Nat) : Cells gs (hid1 w g) := by
  intro k hk
  obtain ⟨t, cs, hr⟩ := h k hk
  by_cases e : k = g
  · subst e
    exact ⟨t, #[], setRow_heap w k cs #[] t (0, 0) hr⟩
  · exact ⟨t, cs, hr.rowFar e #[]⟩
theorem Cells.below {gs : List Nat} {w w' : World} (h : Cells gs w) (hb : Below w.heap.size w w') : Cells gs w' := fun g hg => by
  obtain ⟨t, cs, hr⟩ := h g hg
  exact ⟨t, cs, hr.call hb⟩
theorem vw_iff : ∀ {gs : List Nat} {w : World}, Cells gs w → ∀ {B n : Nat} {A : Option Addr} {xs : List Value}, Rd (vw gs w) B A n xs ↔ Rd w B A n xs ∧ (0 < n → ∀ ad, A = some ad → ad.block ∉ gs)
  | [], w, _, B, n, A, xs => ⟨fun h => ⟨h, fun _ _ _ => by simp⟩, fun h => h.1⟩
  | g :: gs, w, hc, B, n, A, xs => by
    have hc2 : Cells gs (hid1 w g) := Cells.hid (fun k hk => hc k (by simp [hk])) g
    obtain ⟨t, cs, hr⟩ := hc g (by simp)
    rw [vw, vw_iff hc2]
    constructor
    · rintro ⟨h1, h2⟩
      obtain ⟨h3, h4⟩ := Rd.unhide1 hr h1
      exact ⟨h3, fun hn ad had hm => by
        rcases List.mem_cons.1 hm with e | hm
        · exact h4 hn ad had e
        · exact h2 hn ad had hm⟩
    · rintro ⟨h1, h2⟩
      exact ⟨h1.hide1 fun hn ad had e => h2 hn ad had (by simp [e]), fun hn ad had hm => h2 hn ad had (by simp [hm])⟩
theorem vw_keep {gs : List Nat} {w w' : World} (hc : Cells gs w) (hc' : Cells gs w') {B B' : Nat} (hk : ∀ (A : Option Addr) (n : Nat) (xs : List Value), Rd w B A n xs → Rd w' B' A n xs) :
    ∀ (A : Option Addr) (n : Nat) (xs : List Value), Rd (vw gs w) B A n xs → Rd (vw gs w') B' A n xs := fun A n xs h =>
  have h1 := (vw_iff hc).1 h
  (vw_iff hc').2 ⟨hk _ _ _ h1.1, h1.2⟩
theorem vw_un {gs : List Nat} {w : World} (hc : Cells gs w) {B : Nat} : ∀ (A : Option Addr) (n : Nat) (xs : List Value), Rd (vw gs w) B A n xs → Rd w B A n xs := fun _ _ _ h => ((vw_iff hc).1 h).1
/-- what lies in other blocks is kept where a block out of sight, or a later one, grows -/
theorem vw_grown {gs : List Nat} {w w' : World} {row : Option Nat} (hc : Cells gs w) (hc' : Cells gs w') (hg : w.grownBy w' row) {B : Nat} (hr : ∀ k, row = some k → k ∈ gs ∨ B ≤ k) (hB : B ≤ w.heap.size) :
    ∀ (A : Option Addr) (n : Nat) (xs : List Value), Rd (vw gs w) B A n xs → Rd (vw gs w') B A n xs := fun A n xs h => by
  have h1 := (vw_iff hc).1 h
  refine (vw_iff hc').2 ⟨⟨h1.1.len, fun hn => ?_⟩, h1.2⟩
  obtain ⟨b, o, e1, e2, e3⟩ := h1.1.pos hn
  have hne : b ∉ gs := fun e => h1.2 hn _ e1 e
  refine ⟨b, o, e1, e2, fun j u hu => ?_⟩
  rw [← e3 j u hu]
  exact World.cell?_of_block (hg.block b (by omega) (fun e => by
    rcases hr b e.symm with h2 | h2
    · exact hne h2
    · omega))
/-- what lies in other blocks than an own row is kept, and lies so still, where that row grows -/
theorem vw_step {gs : List Nat} {w w' : World} {v v' : Value} (hc : Cells (v.ownBlock.toList ++ gs) w) (hcg : Cells gs w') (hc' : Cells (v'.ownBlock.toList ++ gs) w')
    (hg : w.grownBy w' v.ownBlock) (hat : v'.ownBlock = v.ownBlock ∨ v'.ownBlock = some w.heap.size) {B : Nat} (hB : B ≤ w.heap.size) :
    ∀ (A : Option Addr) (n : Nat) (xs : List Value), Rd (vw (v.ownBlock.toList ++ gs) w) B A n xs → Rd (vw (v'.ownBlock.toList ++ gs) w') B A n xs := fun A n xs h => by
  have h1 := (vw_iff hc).1 h
  refine (vw_iff hc').2 ⟨⟨h1.1.len, fun hn => ?_⟩, fun hn ad had hm => ?_⟩
  · obtain ⟨b, o, e1, e2, e3⟩ := h1.1.pos hn
    have hne : b ∉ v.ownBlock.toList ++ gs := fun e => h1.2 hn _ e1 e
    refine ⟨b, o, e1, e2, fun j u hu => ?_⟩
    rw [← e3 j u hu]
    exact World.cell?_of_block (hg.block b (by omega) (fun e => hne (by rw [← e]; simp)))
  · obtain ⟨b, o, e1, e2, _⟩ := h1.1.pos hn
    rw [e1] at had
    injection had with had
    subst had
    have hne : b ∉ v.ownBlock.toList ++ gs := fun e => h1.2 hn _ e1 e
    have hm' : b ∈ v'.ownBlock.toList ++ gs := hm
    rcases hat with h2 | h2
    · rw [h2] at hm'
      exact hne hm'
    · rw [h2] at hm'
      rcases List.mem_append.1 hm' with h3 | h3
      · simp at h3
        omega
      · exact hne (by simp [h3])
theorem vw_less {l gs : List Nat} {w : World} (hc : Cells (l ++ gs) w) {B : Nat} : ∀ (A : Option Addr) (n : Nat) (xs : List Value), Rd (vw (l ++ gs) w) B A n xs → Rd (vw gs w) B A n xs := fun A n xs h => by
  have h1 := (vw_iff hc).1 h
  exact (vw_iff (fun g hg => hc g (by simp [hg]))).2 ⟨h1.1, fun hn ad had hm => h1.2 hn ad had (by simp [hm])⟩
theorem vw_more {l gs : List Nat} {w : World} (hc : Cells (l ++ gs) w) {B B' : Nat} (hl : ∀ k ∈ l, B ≤ k) (hB : B ≤ B') : ∀ (A : Option Addr) (n : Nat) (xs : List Value), Rd (vw gs w) B A n xs → Rd (vw (l ++ gs) w) B' A n xs := fun A n xs h => by
  have h1 := (vw_iff (fun g hg => hc g (by simp [hg]))).1 h
  refine (vw_iff hc).2 ⟨h1.1.more hB, fun hn ad had hm => ?_⟩
  rcases List.mem_append.1 hm with hm | hm
  · obtain ⟨b, o, e1, e2, _⟩ := h1.1.pos hn
    rw [e1] at had
    injection had with had
    subst had
    have h3 : B ≤ b := hl _ hm
    omega
  · exact h1.2 hn ad had hm
theorem vw_new {gs : List Nat} {w : World} (hc : Cells gs w) {B n lo : Nat} {A : Option Addr} {xs : List Value} (h : Rd w B A n xs) (hlo : ∀ ad, A = some ad → lo ≤ ad.block) (hg : ∀ g ∈ gs, g < lo) : Rd (vw gs w) B A n xs :=
  (vw_iff hc).2 ⟨h, fun hn ad had hm => by
    have h1 := hlo ad had
    have h2 := hg _ hm
    omega⟩
theorem own_vw : ∀ {gs : List Nat} {w : World} {base : Nat} {e : TypeId} {size : Nat} {v : Value} {n : Nat} {xs : List Value}, w.ownsRow base e size v n xs → (∀ g ∈ gs, g < base) → (vw gs w).ownsRow base e size v n xs
  | [], w, base, e, size, v, n, xs, h, _ => h
  | g :: gs, w, base, e, size, v, n, xs, h, hg => own_vw (gs := gs) (w := hid1 w g) (own_hide1 h (hg g (by simp))) (fun k hk => hg k (by simp [hk]))
theorem vw_size : ∀ (gs : List Nat) (w : World), (vw gs w).heap.size = w.heap.size
  | [], w => rfl
  | g :: gs, w => by rw [vw, vw_size gs, hid1_size]
theorem Cells.lt {gs : List Nat} {w : World} (h : Cells gs w) : ∀ g ∈ gs, g < w.heap.size := fun g hg => by
  obtain ⟨t, cs, hr⟩ := h g hg
  exact hr.lt
theorem Cells.own {gs : List Nat} {w : World} (h : Cells gs w) {base : Nat} {e : TypeId} {size : Nat} {v : Value} {n : Nat} {xs : List Value} (ho : w.ownsRow base e size v n xs) : Cells (v.ownBlock.toList ++ gs) w := by
  intro g hg
  rcases List.mem_append.1 hg with hg | hg
  · rcases ho.2 with ⟨h1, _⟩ | ⟨k, cap, cur, h1, h2, h3, _⟩
    · subst h1; simp [Value.ownBlock] at hg
    · subst h1
      have : k = g := by simpa [Value.ownBlock, eq_comm] using hg
      subst this
      exact ⟨e, cur, h3⟩
  · exact h g hg

/-- a node of a slice, read in the world itself -/
theorem SlN.rangeV {gs : List Nat} {w : World} (hg : Cells gs w) {B : Nat} {A : Option Addr} {n c : Nat} {F : List Nd} (h : SlN (vw gs w) B A n c F) {i : Nat} (hi : i < F.length) :
    ∃ b o v, A = some ⟨b, o, none⟩ ∧ b < B ∧ NdV (vw gs w) B F[i] v ∧ w.rangeAt b (o + i * 2) [iv F[i].id, v] ∧ w.cell? ⟨b, o + i * 2 + 1, none⟩ = some v := by
  obtain ⟨h1, h2, h3, vs, h4, h5⟩ := h
  have h6 := vw_un hg _ _ _ h5
  obtain ⟨b, o, e, hb, hc⟩ := h6.pos (by omega)
  obtain ⟨v, r1, r2, r3, r4⟩ := h4.get hi
  have c1 := hc _ _ r3
  have c2 := hc _ _ r4
  rw [show o + (2 * i + 1) = o + i * 2 + 1 by omega] at c2
  rw [show o + 2 * i = o + i * 2 by omega] at c1
  refine ⟨b, o, v, e, hb, r2, fun j u hu => ?_, c2⟩
  match j, hu with
  | 0, hu =>
    injection hu with hu
    subst hu
    exact c1
  | 1, hu =>
    injection hu with hu
    subst hu
    exact c2
  | j + 2, hu => simp at hu

end Go.Proofs.YtlidhdljgnijaaaDoor

/-
  CONTRACT of the document's Of (coterieref10).
-/
set_option linter.unusedVariables false
namespace Go.Proofs.YtlidhdljgnijaaaDoor
open Go.RowKit

def levI (lv : List (List Nat)) : List (List Int) := lv.map (fun l => l.map (fun n : Nat => (n : Int)))
theorem shapeInfo2 : (Tryd.prog.info? 25).map (·.size) = some 2 := by kernel_rfl
theorem listInfo : (Tryd.prog.info? 22).map (fun i => (i.zero, i.size, i.bytes)) = some (some (.slice none 0 0), 1, 24) := by kernel_rfl
theorem shZ : (sh0 : Array Value) = #[.slice none 0 0, .slice none 0 0] := rfl
theorem lens_len (F : List Nd) : (lensF F).length = F.length := by simp [lensF]
theorem Lvs.cons {w : World} {B : Nat} {vs : List Value} {ll : List (List Int)} {A : Option Addr} {c : Nat} {l : List Int} (h : Lvs w B vs ll) (hc : l.length ≤ c) (hm : c ≤ maxLen) (hr : Rd w B A l.length (l.map iv)) : Lvs w B (.slice A l.length c :: vs) (l :: ll) := by
  refine ⟨by rw [List.length_cons, List.length_cons, h.1], fun i v l' hv hl => ?_⟩
  cases i with
  | zero =>
    simp only [List.getElem?_cons_zero, Option.some.injEq] at hv hl
    subst hv hl
    exact ⟨A, c, rfl, hc, hm, hr⟩
  | succ i => exact h.2 i v l' (by simpa using hv) (by simpa using hl)
theorem hi_kids0 {k : Nat} {x : Nd} (hx : Nd.hi k x) : (x.kids.length = 0 ↔ k = 0) := by
  cases k with
  | zero =>
    obtain ⟨i, rfl⟩ := hi_zero hx
    exact ⟨fun _ => rfl, fun _ => rfl⟩
  | succ k =>
    have := (hi_succ hx).1
    constructor <;> intro h <;> omega
theorem ids_kids_len {k : Nat} : ∀ {F : List Nd}, allH k F → F.length ≤ (idsF F).length
  | [], _ => Nat.le_refl _
  | x :: F, ha => by
    have h1 := ids_kids_len (F := F) (fun y hy => ha y (by simp [hy]))
    have h2 : 0 < x.ids.length := List.length_pos_iff.2 (ids_ne x)
    rw [idsF_cons, List.length_append, List.length_cons]
    omega

theorem dep_sl {w : World} {g g' : Nat} (hg : Bx w g g') {B : Nat} {A : Option Addr} {n c : Nat} {F : List Nd} {k : Nat} (h : SlN (hidB w g g') B A n c F) (ha : allH k F) (hk : k ≤ 100) (hn : 0 < n) : depW w 1000 (.slice A n c) = k + 1 := by
  have hF := h.1
  obtain ⟨b, o, v, rfl, hb, hv, c1, c2⟩ := h.rangeH hg (i := 0) (by omega)
  obtain ⟨n', rfl⟩ : ∃ n', n = n' + 1 := ⟨n - 1, by omega⟩
  rw [Nat.zero_mul, Nat.add_zero] at c2
  rw [depW, c2, Option.getD_some, dep_hi k 999 _ v (ha _ (List.getElem_mem _)) (NdV.keep (unhid hg) _ _ hv) (by omega)]
  omega

/-- an address that no block below lo has; slices of such -/
def NewA (lo : Nat) (A : Option Addr) : Prop := ∀ ad, A = some ad → lo ≤ ad.block
def NewVs (lo : Nat) (vs : List Value) : Prop := ∀ v ∈ vs, ∀ A n c, v = .slice A n c → NewA lo A
theorem NewA.none (lo : Nat) : NewA lo none := fun ad h => by cases h
theorem NewA.of_own {w : World} {base lo : Nat} {e : TypeId} {size : Nat} {A : Option Addr} {n c : Nat} {xs : List Value} (h : w.ownsRow base e size (.slice A n c) n xs) (hl : lo ≤ base) : NewA lo A := by
  intro ad had
  subst had
  have := own_blockT h ad.block rfl
  omega
theorem NewA.mono {lo lo' : Nat} {A : Option Addr} (h : NewA lo A) (hl : lo' ≤ lo) : NewA lo' A := fun ad had => Nat.le_trans hl (h ad had)
theorem NewVs.nil (lo : Nat) : NewVs lo [] := fun v h => by cases h
theorem NewVs.cons {lo : Nat} {A : Option Addr} {n c : Nat} {vs : List Value} (h : NewA lo A) (hv : NewVs lo vs) : NewVs lo (.slice A n c :: vs) := fun v hm A' n' c' e => by
  rcases List.mem_cons.1 hm with rfl | hm
  · injection e with e1
    subst e1
    exact h
  · exact hv v hm A' n' c' e
/-- a tree's cells, all in blocks from lo on -/
structure ShN (lo : Nat) (w : World) (B : Nat) (Ai : Option Addr) (ni ci : Nat) (Al : Option Addr) (nl cl : Nat) (ids : List Int) (ll : List (List Int)) : Prop where
  sh : ShR w B Ai ni ci Al nl cl ids ll
  hi : NewA lo Ai
  hl : NewA lo Al
  hv : ∃ vs, Rd w B Al nl vs ∧ Lvs w B vs ll ∧ NewVs lo vs
theorem ShN.keep {lo : Nat} {w w' : World} {B B' : Nat} {Ai : Option Addr} {ni ci : Nat} {Al : Option Addr} {nl cl : Nat} {ids : List Int} {ll : List (List Int)} (h : ShN lo w B Ai ni ci Al nl cl ids ll)
    (hk : ∀ (A : Option Addr) (n : Nat) (xs : List Value), NewA lo A → Rd w B A n xs → Rd w' B' A n xs) : ShN lo w' B' Ai ni ci Al nl cl ids ll := by
  obtain ⟨vs, h1, h2, h3⟩ := h.hv
  have hl2 : Lvs w' B' vs ll := ⟨h2.1, fun i v l hv hl => by
    obtain ⟨A, c, e, hc, hm, hr⟩ := h2.2 i v l hv hl
    exact ⟨A, c, e, hc, hm, hk _ _ _ (h3 v (List.mem_of_getElem? hv) A _ _ e) hr⟩⟩
  exact ⟨⟨h.sh.hni, h.sh.hnl, h.sh.hci, h.sh.hcl, h.sh.hmi, h.sh.hml, hk _ _ _ h.hi h.sh.hids, vs, hk _ _ _ h.hl h1, hl2⟩, h.hi, h.hl, vs, hk _ _ _ h.hl h1, hl2, h3⟩
theorem ShN.below {lo : Nat} {w w' : World} {B : Nat} {Ai : Option Addr} {ni ci : Nat} {Al : Option Addr} {nl cl : Nat} {ids : List Int} {ll : List (List Int)} (h : ShN lo w B Ai ni ci Al nl cl ids ll) (hb : Below B w w') : ShN lo w' B Ai ni ci Al nl cl ids ll := h.keep fun _ _ _ _ hr => hr.below hb
theorem ShN.more {lo : Nat} {w : World} {B B' : Nat} {Ai : Option Addr} {ni ci : Nat} {Al : Option Addr} {nl cl : Nat} {ids : List Int} {ll : List (List Int)} (h : ShN lo w B Ai ni ci Al nl cl ids ll) (hb : B ≤ B') : ShN lo w B' Ai ni ci Al nl cl ids ll := h.keep fun _ _ _ _ hr => hr.more hb
theorem ShN.call {lo : Nat} {w w' : World} {Ai : Option Addr} {ni ci : Nat} {Al : Option Addr} {nl cl : Nat} {ids : List Int} {ll : List (List Int)} (h : ShN lo w w.heap.size Ai ni ci Al nl cl ids ll) (hb : Below w.heap.size w w') : ShN lo w' w'.heap.size Ai ni ci Al nl cl ids ll := (h.below hb).more hb.size
theorem Rd.setRowN {w : World} {g lo : Nat} (hg : g < lo) (cs : Array Value) {B n : Nat} {A : Option Addr} {xs : List Value} (h : Rd w B A n xs) (hn : NewA lo A) : Rd (w.setRow g cs) B A n xs := by
  refine ⟨h.len, fun h0 => ?_⟩
  obtain ⟨b, o, h1, h2, h3⟩ := h.pos h0
  refine ⟨b, o, h1, h2, fun j u hu => ?_⟩
  rw [← h3 j u hu]
  exact cell_setRow_other w g cs ⟨b, o + j, Option.none⟩ (show b ≠ g from fun e => by
    have := hn _ h1
    have h4 : lo ≤ b := this
    omega)
/-- a tree in later blocks stays where an earlier box is written -/
theorem ShN.box {lo : Nat} {w : World} {g : Nat} (hg : g < lo) (cs : Array Value) {B : Nat} {Ai : Option Addr} {ni ci : Nat} {Al : Option Addr} {nl cl : Nat} {ids : List Int} {ll : List (List Int)} (h : ShN lo w B Ai ni ci Al nl cl ids ll) : ShN lo (w.setRow g cs) B Ai ni ci Al nl cl ids ll := h.keep fun _ _ _ hn hr => hr.setRowN hg cs hn
theorem ShN.mono {lo lo' : Nat} (hl : lo' ≤ lo) {w : World} {B : Nat} {Ai : Option Addr} {ni ci : Nat} {Al : Option Addr} {nl cl : Nat} {ids : List Int} {ll : List (List Int)} (h : ShN lo w B Ai ni ci Al nl cl ids ll) : ShN lo' w B Ai ni ci Al nl cl ids ll := by
  obtain ⟨vs, h1, h2, h3⟩ := h.hv
  exact ⟨h.sh, h.hi.mono hl, h.hl.mono hl, vs, h1, h2, fun v hv A n c e => (h3 v hv A n c e).mono hl⟩
theorem ShN.nil (lo : Nat) (w : World) (B : Nat) : ShN lo w B Option.none 0 0 Option.none 0 0 [] [] :=
  ⟨⟨rfl, rfl, Nat.le_refl _, Nat.le_refl _, by simp [maxLen], by simp [maxLen], Rd.zero _ _ _, [], Rd.zero _ _ _, Lvs.nil _ _⟩, NewA.none _, NewA.none _, [], Rd.zero _ _ _, Lvs.nil _ _, NewVs.nil _⟩

end Go.Proofs.YtlidhdljgnijaaaDoor

