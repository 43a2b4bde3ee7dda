import Derived.Test.YtmganbdbihjbmaaK01
import Derived.Test.YtmganbdbihjbmaaK11
import Derived.Test.YtmganbdbihjbmaaK02
import Derived.BigRegion
import Derived.ChangeKeysEq
import Derived.Great.Walk
import Derived.Laws.StructEq
import Derived.Laws.Rows
import Derived.Deep.MidRow
import Derived.Laws.CopyOwn
import Derived.Laws.MakeOwn
import Derived.Deep.RegionHeld3
/-
  ARRAYS OF BYTES, AND ROWS: an array in a block, what is read of it and stored into it, whole and in parts; copy; worlds forgotten. Nothing of one layer (moved together from the texts of layers 2 and 3).
-/
set_option linter.unusedVariables false
namespace Go.Proofs.Ytmganbdbihjbmaa
open Go.RowKit

/-- block g is an array of bytes -/
def ArrB (w : World) (g : Nat) (t : TypeId) (l : List UInt8) : Prop := w.heap[g]? = some (.cells (l.map bv).toArray t (0, 0))

section
variable {w w' : World} {g : Nat} {t : TypeId} {l : List UInt8}
theorem ArrB.lt (h : ArrB w g t l) : g < w.heap.size := by
  unfold ArrB at h
  exact (Array.getElem?_eq_some_iff.1 h).1
theorem ArrB.cell (h : ArrB w g t l) {i : Nat} {x : UInt8} (hx : l[i]? = some x) : w.cell? ⟨g, i, none⟩ = some (.int .u8 (x.toNat : Int)) := by
  unfold ArrB at h
  rw [cell_of_row w g i _ t (0, 0) h]
  simp [hx, bv]
theorem ArrB.frozen (h : ArrB w g t l) (i : Nat) : w.frozen? ⟨g, i, none⟩ = false := by
  unfold ArrB at h
  exact frozen_of_row w g i _ t h
theorem ArrB.mk_ (w : World) (t : TypeId) (cs : Array Value) (l : List UInt8) {b : Nat} (hb : w.heap.size = b) (h : (l.map bv).toArray = cs) : ArrB (w.alloc (.cells cs t)) b t l := by
  subst hb h
  exact heap_alloc_new w _
theorem ArrB.of (h : ArrB w g t l) (e : w'.heap[g]? = w.heap[g]?) : ArrB w' g t l := by unfold ArrB at h ⊢; rw [e]; exact h
theorem ArrB.drew (h : ArrB w g t l) : ArrB w.drew g t l := h.of rfl
theorem ArrB.drewN (h : ArrB w g t l) (n : Nat) : ArrB (w.drewN n) g t l := h.of rfl
theorem ArrB.alloc (h : ArrB w g t l) (o : Obj) : ArrB (w.alloc o) g t l := h.of (heap_alloc_old w o h.lt)
theorem ArrB.below {B : Nat} (h : ArrB w g t l) (hb : Below B w w') (hg : g < B) : ArrB w' g t l := h.of (hb.block g hg)
theorem ArrB.set_ (h : ArrB w g t l) (i : Nat) (x : UInt8) : ArrB (w.setCell ⟨g, i, none⟩ (.int .u8 (x.toNat : Int))) g t (l.set i x) := by
  unfold ArrB at h ⊢
  simp only [World.setCell, Array.getElem?_modify, h, Option.map_some]
  rw [List.map_set]
  simp [bv]
theorem ArrB.row (h : ArrB w g t l) (l' : List UInt8) : ArrB (w.setRow g (l'.map bv).toArray) g t l' := by
  unfold ArrB at h ⊢
  exact setRow_heap w g _ _ t _ h
theorem ArrB.rowFar {g' : Nat} (h : ArrB w g t l) (hne : g ≠ g') (cs : Array Value) : ArrB (w.setRow g' cs) g t l := h.of (setRow_other w g' g cs hne)
theorem one_bvA (l : List UInt8) : ((l.map bv).toArray).all (·.oneCell') = true := by
  rw [Array.all_eq_true_iff_forall_mem]
  intro v hv
  obtain ⟨x, _, rfl⟩ := List.mem_map.1 (by simpa using hv)
  rfl
theorem ArrB.far (h : ArrB w g t l) {p : Addr} (hp : g ≠ p.block) (u : Value) : ArrB (w.setCell p u) g t l := h.of (Below.heap_setCell w p u g hp)
end

/-- an element of an array by value -/
theorem wpList_index_cell {P : Program} {ops : Array Oper} {rest : List Oper} {o : Oper} {a : Act} {w : World} {Q : Exit → Act → World → Prop} (hg : o.guard = none) (dst : Option Tmp) (hdst : o.dst = dst)
    (t : TypeId) (x ix : Operand) (ho : o.op = .index t x ix) (cs : Array Value) (hx : a.eval x = .agg cs) (j : Nat) (hi : a.eval ix = .int .i64 (j : Int)) (len : Nat) (e : TypeId)
    (hu : P.underlying t = some (.array len e)) (he : P.plainKey e = true) (i : TypeInfo) (hinfo : P.info? e = some i) (h1 : P.cellsOf e = 1) (v : Value) (hv : cs[j]? = some v) (hj : j < len)
    (h : wpList P ops Q rest (a.put dst v) w) : wpList P ops Q (o :: rest) a w := by
  refine Go.Great.wpList_readTo hg dst hdst v ?_ h
  simp only [execOp, ho, hx, hi]
  simp [Instr.index, run_underlying hu, asIntOf, hj, run_sizeOf w hinfo, h1, run_part_plain w he hv]

section
variable {P : Program} (w : World)
theorem eqItems_ints (d : Nat) {e : TypeId} {k : IntKind} (he : P.underlying e = some (.int k)) (f g : Nat → Int) (xs ys : Array Value) :
    ∀ is : List Nat, (∀ i ∈ is, xs[i]? = some (.int k (f i)) ∧ ys[i]? = some (.int k (g i))) → (Op.eqItems (d + 1) e 1 xs ys is).run P w = .ok (is.all fun i => f i == g i) w
  | [], _ => by simp [Op.eqItems]
  | i :: is, h => by
    obtain ⟨h1, h2⟩ := h i (by simp)
    have ih := eqItems_ints d he f g xs ys is (fun j hj => h j (by simp [hj]))
    have p1 : (part e xs (i * 1)).run P w = .ok (.int k (f i)) w := by simp [part, isAgg, run_underlying he, h1]
    have p2 : (part e ys (i * 1)).run P w = .ok (.int k (g i)) w := by simp [part, isAgg, run_underlying he, h2]
    simp only [Op.eqItems, Sem.run_bind, p1, p2, run_equalIn_int w d e k k _ _ he, Result.andThen_ok, List.all_cons]
    cases hb : (f i == g i)
    · simp
    · simp [ih]

theorem all_range {α : Type} [BEq α] [LawfulBEq α] (f : α → Int) (hf : ∀ x y, f x = f y → x = y) (z : α) (a b : List α) (n : Nat) (ha : a.length = n) (hb : b.length = n) :
    ((List.range n).all fun i => f (a.getD i z) == f (b.getD i z)) = (a == b) := by
  rw [Bool.eq_iff_iff, List.all_eq_true, beq_iff_eq]
  constructor
  · intro h
    apply List.ext_getElem (by omega)
    intro i h1 h2
    have := h i (by simp; omega)
    rw [beq_iff_eq, List.getD_eq_getElem?_getD, List.getD_eq_getElem?_getD, List.getElem?_eq_getElem h1, List.getElem?_eq_getElem h2] at this
    exact hf _ _ this
  · rintro rfl i _
    simp

theorem run_eqlRow (neg : Bool) {t e : TypeId} {k : IntKind} {n : Nat} (ht : P.underlying t = some (.array n e)) (he : P.underlying e = some (.int k)) {i : TypeInfo} (hi : P.info? e = some i) (hc : P.cellsOf e = 1)
    {α : Type} [BEq α] [LawfulBEq α] (c : α → Value) (f : α → Int) (hcf : ∀ x, c x = .int k (f x)) (hf : ∀ x y, f x = f y → x = y) (z : α) (a b : List α) (ha : a.length = n) (hb : b.length = n) :
    (Op.equalIn 10000 t (.agg (a.map c).toArray) (.agg (b.map c).toArray)).run P w = .ok (a == b) w := by
  rw [run_equalIn_array w 9999 _ _ ht hi, hc, eqItems_ints w 9998 he (fun i => f (a.getD i z)) (fun i => f (b.getD i z)) _ _ _ (fun i hi => ?_), all_range f hf z a b n ha hb]
  have hin : i < n := by simpa using hi
  have h1 : a[i]? = some a[i] := List.getElem?_eq_getElem (by omega)
  have h2 : b[i]? = some b[i] := List.getElem?_eq_getElem (by omega)
  simp [List.getD_eq_getElem?_getD, h1, h2, hcf]
end

/-- a whole row is read, by an operation that is guarded and wanted -/
theorem wpList_load_rowG {P : Program} {ops : Array Oper} {rest : List Oper} {o : Oper} {a : Act} {w : World} {Q : Exit → Act → World → Prop} (hgd : Region.wanted o (yielded ops a.tmps) = true) (ty : TypeId) (x : Operand) (ho : o.op = .load ty x)
    (g : Nat) (hx : a.eval x = .pointer (some ⟨g, 0, none⟩)) (t : TypeId) (cs : Array Value) (fr : Nat × Nat) (d : TypeDesc) (hg : w.heap[g]? = some (.cells cs t fr))
    (hu : P.underlying ty = some d) (hd : (match d with | .struct _ | .array _ _ => true | _ => false) = true) (hi : (P.info? ty).map (·.size) = some cs.size)
    (h : wpList P ops Q rest (a.put o.dst (.agg cs)) w) : wpList P ops Q (o :: rest) a w := by
  refine wpList_step fun _ hK => ?_
  rw [if_pos hgd]
  exact wp_load_row ty x ho g hx t cs fr d hg hu hd hi (hK _ _ h)
theorem wpList_load_midG {P : Program} {ops : Array Oper} {rest : List Oper} {op : Oper} {a : Act} {w : World} {Q : Exit → Act → World → Prop} (hgd : Region.wanted op (yielded ops a.tmps) = true) (ty : TypeId) (x : Operand) (ho : op.op = .load ty x)
    (b o : Nat) (hx : a.eval x = .pointer (some ⟨b, o, none⟩)) (cs : List Value) (d : TypeDesc) (hc : w.rangeAt b o cs)
    (hu : P.underlying ty = some d) (hd : d.isRow = true) (hi : (P.info? ty).map (·.size) = some cs.length)
    (h : wpList P ops Q rest (a.put op.dst (.agg cs.toArray)) w) : wpList P ops Q (op :: rest) a w := by
  refine wpList_step fun _ hK => ?_
  rw [if_pos hgd]
  exact wp_load_mid ty x ho b o hx cs d hc hu hd hi (hK _ _ h)

/-- a whole row is stored: one step of a region that draws its order -/
theorem step_store_row {P : Program} {ops : Array Oper} {o : Oper} {a : Act} {w : World} {K : Act → World → Prop} {Q : Exit → Act → World → Prop} {E : Prop} (hgd : o.guard = none) (ty : TypeId) (x y : Operand) (ho : o.op = .store ty x y)
    (g : Nat) (cells : Array Value) (hx : a.eval x = .pointer (some ⟨g, 0, none⟩)) (hy : a.eval y = .agg cells)
    (t : TypeId) (old : Array Value) (hg : w.heap[g]? = some (.cells old t (0, 0))) (hi : (P.info? ty).map (·.size) = some cells.size)
    (hold : old.size = cells.size) (h1 : cells.all (·.oneCell') = true)
    (h : K (a.put o.dst undef) (w.setRow g cells)) : if Region.wanted o (yielded ops a.tmps) = true then Oper.wp P o a w K Q else E := by
  rw [if_pos (by simp [Region.wanted, hgd])]
  exact wp_store_row ty x y ho g cells hx hy t old hg hi hold h1 h

theorem wv_inj (x y : UInt32) (h : (x.toNat : Int) = (y.toNat : Int)) : x = y := UInt32.toNat_inj.1 (by omega)
theorem bv_inj (x y : UInt8) (h : (x.toNat : Int) = (y.toNat : Int)) : x = y := UInt8.toNat_inj.1 (by omega)
theorem byteCells : Try.prog.cellsOf 5 = 1 := by kernel_rfl
theorem byte_info : ∃ i, Try.prog.info? 5 = some i := by
  have h : (Try.prog.info? 5).isSome = true := by kernel_rfl
  exact Option.isSome_iff_exists.1 h

theorem setRow_same (w : World) (g : Nat) (cs : Array Value) (t : TypeId) (fr : Nat × Nat) (hg : w.heap[g]? = some (.cells cs t fr)) : w.setRow g cs = w := by
  unfold World.setRow
  have : w.heap.modify g (fun | .cells _ elem frozen => .cells cs elem frozen | o => o) = w.heap := by
    apply Array.ext_getElem?
    intro i
    rw [Array.getElem?_modify]
    by_cases h : g = i
    · subst h; simp [hg]
    · simp [h]
  exact congrArg (fun h => ({ w with heap := h } : World)) this

/-- copy into a row that is known whole: one law for all sources, the world behind it written out -/
theorem wpList_copy_row {P : Program} {w : World} {ops : Array Oper} {rest : List Oper} {o : Oper} {a : Act} {Q : Exit → Act → World → Prop} (hgd : o.guard = none) (d s : Operand) (dT sT : TypeId)
    (ho : o.op = .call { callee := .builtin .copy, args := #[d, s], argTypes := #[dT, sT] }) (elem : TypeId) (hu : P.underlying dT = some (.slice elem)) (hsz : (P.info? elem).map (·.size) = some 1)
    (dp sp : Option Addr) (dLen dCap sLen sCap : Nat) (hd : a.eval d = .slice dp dLen dCap) (hs : a.eval s = .slice sp sLen sCap)
    (g off : Nat) (cur : List Value) (t : TypeId) (hg : w.heap[g]? = some (.cells cur.toArray t (0, 0))) (cs : List Value) (hn : cs.length = Nat.min sLen dLen)
    (hpos : 0 < cs.length → dp = some ⟨g, off, none⟩ ∧ ∃ ad, sp = some ad ∧ ∀ j v, cs[j]? = some v → w.cell? (ad.add j) = some v)
    (hfit : off + cs.length ≤ cur.length) (h1 : ∀ v ∈ cs, v.oneCell' = true)
    (h : wpList P ops Q rest (a.put o.dst (goInt cs.length)) (w.setRow g (splice cur off cs).toArray)) :
    wpList P ops Q (o :: rest) a w := by
  by_cases h0 : cs.length = 0
  · obtain rfl : cs = [] := List.eq_nil_of_length_eq_zero h0
    refine wpList_copy_nothing hgd d s dT sT ho elem hu hsz dp sp dLen dCap sLen sCap hd hs (by simpa using hn.symm) ?_
    have e : w.setRow g (splice cur off []).toArray = w := by
      have : splice cur off ([] : List Value) = cur := by simp [splice]
      rw [this]
      exact setRow_same w g _ t _ hg
    rw [e] at h
    exact h
  · obtain ⟨rfl, ad, rfl, hsrc⟩ := hpos (by omega)
    refine wpList_copy_own hgd d s dT sT ho elem hu hsz g off dLen dCap ad sLen sCap hd hs cur.toArray t hg cs hn hsrc (by simpa using hfit) h1 ?_
    have e : (cur.toArray.toList.take off ++ (cs ++ cur.toArray.toList.drop (off + cs.length))).toArray = (splice cur off cs).toArray := by simp [splice]
    rw [e]
    exact h

theorem byteSize : (Try.prog.info? 5).map (·.size) = some 1 := by kernel_rfl

theorem ArrB.at_ {w : World} {g : Nat} {t : TypeId} {l : List UInt8} (h : ArrB w g t l) : w.heap[g]? = some (.cells (l.map bv).toArray t (0, 0)) := h

theorem own_arr {w : World} {base g : Nat} {l : List UInt8} {n : Nat} (h : ArrB w g 5 l) (hb : base ≤ g) (hl : l.length = n) (hm : n ≤ maxLen) : w.ownsRow base 5 1 (.slice (some ⟨g, 0, none⟩) n n) n (l.map bv) := by
  subst hl
  exact ⟨by simp, .inr ⟨g, l.length, (l.map bv).toArray, rfl, hb, h, Nat.le_refl _, hm, by simp, by rw [Nat.mul_one]; exact List.take_of_length_le (by simp)⟩⟩

theorem splice_in {α : Type} (L M : List α) (cs : List α) (h : cs.length ≤ M.length) : splice (L ++ M) L.length cs = (L ++ cs) ++ M.drop cs.length := by
  unfold splice
  rw [List.take_left, ← List.drop_drop, List.drop_left, List.append_assoc]

theorem splice_bytes (l : List UInt8) (off : Nat) (cs : List UInt8) : splice (l.map bv) off (cs.map bv) = (splice l off cs).map bv := by
  simp [splice]

theorem splice_set {α : Type} (cs : List α) (o : Nat) (v : α) (r : List α) (hl : o + (r.length + 1) ≤ cs.length) : splice (cs.set o v) (o + 1) r = splice cs o (v :: r) := by
  have e : cs.set o v = (cs.take o ++ [v]) ++ cs.drop (o + 1) := by
    rw [List.set_eq_take_append_cons_drop, if_pos (by omega)]; simp
  have hlen : (cs.take o ++ [v]).length = o + 1 := by simp; omega
  rw [e, ← hlen, splice_in _ _ _ (by simp; omega)]
  unfold splice
  rw [List.drop_drop]
  simp
  omega

theorem setCells_heap (g : Nat) (t : TypeId) : ∀ (vs cs : List Value) (o : Nat) (w : World), w.heap[g]? = some (.cells cs.toArray t (0, 0)) → o + vs.length ≤ cs.length →
    (w.setCells g o vs).heap[g]? = some (.cells (splice cs o vs).toArray t (0, 0))
  | [], cs, o, w, hg, _ => by
    rw [World.setCells, hg]; simp [splice]
  | v :: r, cs, o, w, hg, hl => by
    simp only [List.length_cons] at hl
    have h1 : (w.setCell ⟨g, o, none⟩ v).heap[g]? = some (.cells (cs.set o v).toArray t (0, 0)) := by
      simp only [World.setCell, Array.getElem?_modify, hg, Option.map_some]
      simp
    rw [World.setCells, setCells_heap g t r (cs.set o v) (o + 1) _ h1 (by rw [List.length_set]; omega)]
    rw [splice_set cs o v r hl]
theorem setCells_far (g g' : Nat) (hne : g' ≠ g) : ∀ (vs : List Value) (o : Nat) (w : World), (w.setCells g o vs).heap[g']? = w.heap[g']?
  | [], _, _ => rfl
  | v :: r, o, w => by
    rw [World.setCells, setCells_far g g' hne r]
    exact Below.heap_setCell w _ v g' hne
theorem below_setCells {B g : Nat} {a : World} (hg : B ≤ g) : ∀ (vs : List Value) (o : Nat) (w : World), Below B a w → Below B a (w.setCells g o vs)
  | [], _, _, h => h
  | v :: r, o, w, h => below_setCells hg r (o + 1) _ (h.setCell hg v)

theorem own_far {w w' : World} {base : Nat} {e : TypeId} {size : Nat} {v : Value} {n : Nat} {xs : List Value} (h : w.ownsRow base e size v n xs) (hs : w.heap.size ≤ w'.heap.size) (hb : ∀ g, v.ownBlock = some g → w'.heap[g]? = w.heap[g]?) : w'.ownsRow base e size v n xs := by
  refine ⟨h.1, ?_⟩
  rcases h.2 with h0 | ⟨g, cap, cur, hv, h1, h2, h3⟩
  · exact .inl h0
  · exact .inr ⟨g, cap, cur, hv, h1, (hb g (by rw [hv]; rfl)).trans h2, h3⟩

theorem wp_gen {P : Program} {c : Code} {Q : Exit → Act → World → Prop} {a : Act} {w0 : World} (R : World → Prop) (h0 : R w0) (h : ∀ w1, R w1 → Code.wp P c Q a w1) : Code.wp P c Q a w0 := h w0 h0
theorem wpList_gen {P : Program} {ops : Array Oper} {l : List Oper} {Q : Exit → Act → World → Prop} {a : Act} {w0 : World} (R : World → Prop) (h0 : R w0) (h : ∀ w1, R w1 → wpList P ops Q l a w1) : wpList P ops Q l a w0 := h w0 h0

theorem Rd.src {w : World} {B : Nat} {A : Option Addr} {n : Nat} {xs : List Value} (h : Rd w B A n xs) (hp : 0 < xs.length) : ∃ ad, A = some ad ∧ ∀ j v, xs[j]? = some v → w.cell? (ad.add j) = some v := by
  obtain ⟨b, o, e, _, hc⟩ := h.pos (by rw [← h.len]; exact hp)
  exact ⟨_, e, fun j v hv => by rw [Addr.add_lit]; exact hc j v hv⟩

theorem own_base {w : World} {B base : Nat} {e : TypeId} {size : Nat} {v : Value} {n : Nat} {xs : List Value} (h : w.ownsRow B e size v n xs) (hb : base ≤ B) : w.ownsRow base e size v n xs := by
  refine ⟨h.1, ?_⟩
  rcases h.2 with h0 | ⟨g, cap, cur, hv, h1, h2⟩
  · exact .inl h0
  · exact .inr ⟨g, cap, cur, hv, Nat.le_trans hb h1, h2⟩

theorem calls_gen {P : Program} {f : FuncId} {args : Array Value} {w0 : World} {Q : Ending → World → Prop} (R : World → Prop) (h0 : R w0) (h : ∀ w1, R w1 → Calls P f args w1 Q) : Calls P f args w0 Q := h w0 h0
theorem Rd.mkFr (w : World) (t : TypeId) (fr : Nat × Nat) (xs : Array Value) {b B n : Nat} {l : List Value} (hb : w.heap.size = b) (hB : b < B) (hn : xs.size = n) (hl : xs.toList = l) : Rd (w.alloc (.cells xs t fr)) B (some ⟨b, 0, none⟩) n l := by
  subst hb hn hl
  refine ⟨by simp, fun _ => ⟨w.heap.size, 0, rfl, hB, fun j u hu => ?_⟩⟩
  rw [cell_of_row _ w.heap.size (0 + j) xs t fr (heap_alloc_new w _), Nat.zero_add]
  simpa using hu

theorem b_lt (x : UInt8) : x.toNat < 256 := x.toBitVec.isLt
theorem b_xor (a b : UInt8) : bits .xor .u8 (a.toNat : Int) (b.toNat : Int) = ((a ^^^ b).toNat : Int) := by
  rw [u8_xor_nat _ _ (b_lt a) (b_lt b), UInt8.toNat_xor]
/-- an own row under a store into it -/
theorem own_set {w : World} {base : Nat} {t : TypeId} {n c g : Nat} {xs : List Value} (h : w.ownsRow base t 1 (.slice (some ⟨g, 0, none⟩) n c) n xs) {j : Nat} (hj : j < n) (u : Value) :
    (w.setCell ⟨g, j, none⟩ u).ownsRow base t 1 (.slice (some ⟨g, 0, none⟩) n c) n (xs.set j u) := by
  refine ⟨by rw [List.length_set]; exact h.1, .inr ?_⟩
  rcases h.2 with ⟨h0, _⟩ | ⟨g', cap, cur, hv, hb, hg, hnc, hcm, hcs, ht⟩
  · cases h0
  · injection hv with h1 h2 h3
    injection h1 with h1
    injection h1 with h1
    subst h1 h3
    refine ⟨g, c, cur.setIfInBounds j u, rfl, hb, ?_, hnc, hcm, by simpa using hcs, ?_⟩
    · simp only [World.setCell, Array.getElem?_modify, hg, Option.map_some]
      simp
    · rw [Array.toList_setIfInBounds, List.take_set, ht]
theorem own_free {w : World} {base : Nat} {t : TypeId} {n c g : Nat} {xs : List Value} (h : w.ownsRow base t 1 (.slice (some ⟨g, 0, none⟩) n c) n xs) (j : Nat) : w.frozen? ⟨g, j, none⟩ = false := by
  rcases h.2 with ⟨h0, _⟩ | ⟨g', cap, cur, hv, hb, hg, _⟩
  · cases h0
  · injection hv with h1
    injection h1 with h1
    injection h1 with h1
    subst h1
    exact frozen_of_row w g j _ t hg
theorem c_refl (w : World) : Below w.heap.size w w := Below.refl _ _
theorem c_alloc {a w : World} (h : Below a.heap.size a w) (o : Obj) : Below a.heap.size a (w.alloc o) := h.alloc h.size o
theorem c_drew {a w : World} (h : Below a.heap.size a w) : Below a.heap.size a w.drew := h.drew
theorem c_row {a w : World} (h : Below a.heap.size a w) {g : Nat} (hg : a.heap.size ≤ g) (cs : Array Value) : Below a.heap.size a (w.setRow g cs) := below_setRow h hg cs
theorem c_call {a w w' : World} (h : Below a.heap.size a w) (hb : Below w.heap.size w w') : Below a.heap.size a w' := h.trans (hb.mono h.size)
theorem c_rd {a w : World} {A : Option Addr} {n : Nat} {xs : List Value} (h : Rd a a.heap.size A n xs) (hb : Below a.heap.size a w) : Rd w w.heap.size A n xs := (h.below hb).more hb.size
theorem new_range {w1 : World} {cs : List Value} {t : TypeId} {g : Nat} (hg : w1.heap.size = g) (wx : World) (hb : Below (w1.alloc (.cells cs.toArray t)).heap.size (w1.alloc (.cells cs.toArray t)) wx) : wx.rangeAt g 0 cs := fun j u hu => by
  subst hg
  have hr : wx.heap[w1.heap.size]? = some (.cells cs.toArray t (0, 0)) := (hb.block _ (by simp)).trans (heap_alloc_new w1 _)
  rw [cell_of_row wx _ _ _ _ (0, 0) hr]
  simpa using hu
theorem d_rd {a w : World} {A : Option Addr} {n : Nat} {xs : List Value} (h : Rd a a.heap.size A n xs) (hb : Below a.heap.size a w) : Rd w w.heap.size A n xs := (h.below hb).more hb.size
theorem d_al (w : World) (o : Obj) : Below w.heap.size w (w.alloc o) := (Below.refl _ _).alloc (Nat.le_refl _) o

theorem step_append_rd {P : Program} {w : World} {ops : Array Oper} {o : Oper} {a : Act} {K : Act → World → Prop} {Q : Exit → Act → World → Prop} {E : Prop} (hgd : Region.wanted o (yielded ops a.tmps) = true) (s x : Operand) (t : TypeId)
    (ho : o.op = .call { callee := .builtin .append, args := #[s, x], argTypes := #[t, t] })
    (base : Nat) (e : TypeId) (i : TypeInfo) (z : Value) (bytes : Nat) (ht : P.underlying t = some (.slice e)) (hi : P.info? e = some i) (hz : i.zero = some z)
    (hsize : i.size = 1) (hby : i.bytes = bytes) (hzs : z.cells.size = 1)
    (v : Value) (n : Nat) (xs : List Value) (hs : a.eval s = v) (hown : w.ownsRow base e 1 v n xs)
    (B : Nat) (A : Option Addr) (m c : Nat) (news : List Value) (hx : a.eval x = .slice A m c) (hr : Rd w B A m news) (h1 : ∀ u ∈ news, u.oneCell' = true)
    (h63 : n + m ≤ maxLen) (hbytes : (n + m) * bytes ≤ 140737488355328) (hbase : base ≤ w.heap.size)
    (h : ∀ v' w', w'.ownsRow base e 1 v' (n + m) (xs ++ news) → w.grownBy w' v.ownBlock → K (a.put o.dst v') w') : if Region.wanted o (yielded ops a.tmps) = true then Oper.wp P o a w K Q else E := by
  rw [if_pos hgd]
  obtain ⟨v', w', hrun, h2, h3, h4⟩ := run_append_rd (P := P) w base t o.type e i z bytes ht hi hz hsize hby hzs v n xs hown B A m c news hr h1 h63 hbytes hbase
  unfold Oper.wp execOp
  simp only [ho, resolve, invoke, builtin, Sem.run_bind, Sem.run_pure, Result.andThen_ok, List.map_toArray, List.map_cons, List.map_nil, hs, hx, hrun]
  exact h v' w' h2 h3

/-- an array stored whole by its cells -/
theorem ArrB.stored {w : World} {g : Nat} {t : TypeId} {l l' : List UInt8} (h : ArrB w g t l) (hl : l'.length = l.length) : ArrB (w.setCells g 0 (l'.map bv)) g t l' := by
  have hh := setCells_heap g t (l'.map bv) (l.map bv) 0 w h (by simp [hl])
  rw [splice_bytes] at hh
  have e : splice l 0 l' = l' := by simp [splice, hl]
  rw [e] at hh
  exact hh
theorem ArrB.there {w : World} {g : Nat} {t : TypeId} {l : List UInt8} {n : Nat} (h : ArrB w g t l) (hn : l.length = n) : w.there g 0 n := fun j hj => by
  rw [Nat.zero_add]
  exact ⟨by rw [h.cell (List.getElem?_eq_getElem (show j < l.length by omega))]; rfl, h.frozen j⟩
theorem ArrB.range {w : World} {g : Nat} {t : TypeId} {l : List UInt8} (h : ArrB w g t l) : w.rangeAt g 0 (l.map bv) := fun j v hv => by
  rw [List.getElem?_map] at hv
  obtain ⟨z, hz, rfl⟩ := Option.map_eq_some_iff.1 hv
  rw [Nat.zero_add]
  exact h.cell hz

/-- block g is an array of n bytes, whichever -/
def SomeB (w : World) (g : Nat) (t : TypeId) (n : Nat) : Prop := ∃ l : List UInt8, l.length = n ∧ ArrB w g t l
theorem ArrB.some {w : World} {g : Nat} {t : TypeId} {l : List UInt8} {n : Nat} (h : ArrB w g t l) (hn : l.length = n) : SomeB w g t n := ⟨l, hn, h⟩

end Go.Proofs.Ytmganbdbihjbmaa

