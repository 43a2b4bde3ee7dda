import Derived.Test.YtbiijdboolpaeaaDoorG01
import Derived.Test.YtbiijdboolpaeaaDoorG02
import Derived.BigRegion
import Derived.ChangeKeysEq
import Derived.Great.Walk
import Derived.Laws.StructEq
import Derived.Laws.Rows
import Derived.Deep.MidRow
import Derived.Laws.CopyOwn
import Derived.Laws.MakeOwn
import Derived.Deep.RegionHeld3
import Derived.Test.YtbiijdboolpaeaaDoorG03
import Derived.OrdersHeld
import Derived.Laws.Tables
set_option linter.unusedVariables false
namespace Go.Proofs.YtbiijdboolpaeaaDoor
open Go.RowKit
def ArrB (w : World) (g : Nat) (t : TypeId) (l : List UInt8) : Prop := w.heap[g]? = some (.cells (l.map bv).toArray t (0, 0))
section
variable {w w' : World} {g : Nat} {t : TypeId} {l : List UInt8}
theorem ArrB.lt (h : ArrB w g t l) : g < w.heap.size := by
 unfold ArrB at h
 exact (Array.getElem?_eq_some_iff.1 h).1
theorem ArrB.cell (h : ArrB w g t l) {i : Nat} {x : UInt8} (hx : l[i]? = some x) : w.cell? ⟨g, i, none⟩ = some (.int .u8 (x.toNat : Int)) := by
 unfold ArrB at h
 rw [cell_of_row w g i _ t (0, 0) h]
 simp [hx, bv]
theorem ArrB.frozen (h : ArrB w g t l) (i : Nat) : w.frozen? ⟨g, i, none⟩ = false := by
 unfold ArrB at h
 exact frozen_of_row w g i _ t h
theorem ArrB.mk_ (w : World) (t : TypeId) (cs : Array Value) (l : List UInt8) {b : Nat} (hb : w.heap.size = b) (h : (l.map bv).toArray = cs) : ArrB (w.alloc (.cells cs t)) b t l := by
 subst hb h
 exact heap_alloc_new w _
theorem ArrB.of (h : ArrB w g t l) (e : w'.heap[g]? = w.heap[g]?) : ArrB w' g t l := by unfold ArrB at h ⊢; rw [e]; exact h
theorem ArrB.drew (h : ArrB w g t l) : ArrB w.drew g t l := h.of rfl
theorem ArrB.drewN (h : ArrB w g t l) (n : Nat) : ArrB (w.drewN n) g t l := h.of rfl
theorem ArrB.alloc (h : ArrB w g t l) (o : Obj) : ArrB (w.alloc o) g t l := h.of (heap_alloc_old w o h.lt)
theorem ArrB.below {B : Nat} (h : ArrB w g t l) (hb : Below B w w') (hg : g < B) : ArrB w' g t l := h.of (hb.block g hg)
theorem ArrB.set_ (h : ArrB w g t l) (i : Nat) (x : UInt8) : ArrB (w.setCell ⟨g, i, none⟩ (.int .u8 (x.toNat : Int))) g t (l.set i x) := by
 unfold ArrB at h ⊢
 simp only [World.setCell, Array.getElem?_modify, h, Option.map_some]
 rw [List.map_set]
 simp [bv]
theorem ArrB.row (h : ArrB w g t l) (l' : List UInt8) : ArrB (w.setRow g (l'.map bv).toArray) g t l' := by
 unfold ArrB at h ⊢
 exact setRow_heap w g _ _ t _ h
theorem ArrB.rowFar {g' : Nat} (h : ArrB w g t l) (hne : g ≠ g') (cs : Array Value) : ArrB (w.setRow g' cs) g t l := h.of (setRow_other w g' g cs hne)
theorem one_bvA (l : List UInt8) : ((l.map bv).toArray).all (·.oneCell') = true := by
 rw [Array.all_eq_true_iff_forall_mem]
 intro v hv
 obtain ⟨x, _, rfl⟩ := List.mem_map.1 (by simpa using hv)
 rfl
theorem ArrB.far (h : ArrB w g t l) {p : Addr} (hp : g ≠ p.block) (u : Value) : ArrB (w.setCell p u) g t l := h.of (Below.heap_setCell w p u g hp)
end
theorem wpList_index_cell {P : Program} {ops : Array Oper} {rest : List Oper} {o : Oper} {a : Act} {w : World} {Q : Exit → Act → World → Prop} (hg : o.guard = none) (dst : Option Tmp) (hdst : o.dst = dst)
  (t : TypeId) (x ix : Operand) (ho : o.op = .index t x ix) (cs : Array Value) (hx : a.eval x = .agg cs) (j : Nat) (hi : a.eval ix = .int .i64 (j : Int)) (len : Nat) (e : TypeId)
  (hu : P.underlying t = some (.array len e)) (he : P.plainKey e = true) (i : TypeInfo) (hinfo : P.info? e = some i) (h1 : P.cellsOf e = 1) (v : Value) (hv : cs[j]? = some v) (hj : j < len)
  (h : wpList P ops Q rest (a.put dst v) w) : wpList P ops Q (o :: rest) a w := by
 refine Go.Great.wpList_readTo hg dst hdst v ?_ h
 simp only [execOp, ho, hx, hi]
 simp [Instr.index, run_underlying hu, asIntOf, hj, run_sizeOf w hinfo, h1, run_part_plain w he hv]
section
variable {P : Program} (w : World)
theorem eqItems_ints (d : Nat) {e : TypeId} {k : IntKind} (he : P.underlying e = some (.int k)) (f g : Nat → Int) (xs ys : Array Value) :
  ∀ is : List Nat, (∀ i ∈ is, xs[i]? = some (.int k (f i)) ∧ ys[i]? = some (.int k (g i))) → (Op.eqItems (d + 1) e 1 xs ys is).run P w = .ok (is.all fun i => f i == g i) w
 | [], _ => by simp [Op.eqItems]
 | i :: is, h => by
  obtain ⟨h1, h2⟩ := h i (by simp)
  have ih := eqItems_ints d he f g xs ys is (fun j hj => h j (by simp [hj]))
  have p1 : (part e xs (i * 1)).run P w = .ok (.int k (f i)) w := by simp [part, isAgg, run_underlying he, h1]
  have p2 : (part e ys (i * 1)).run P w = .ok (.int k (g i)) w := by simp [part, isAgg, run_underlying he, h2]
  simp only [Op.eqItems, Sem.run_bind, p1, p2, run_equalIn_int w d e k k _ _ he, Result.andThen_ok, List.all_cons]
  cases hb : (f i == g i)
  ·
   simp
  ·
   simp [ih]
theorem all_range {α : Type} [BEq α] [LawfulBEq α] (f : α → Int) (hf : ∀ x y, f x = f y → x = y) (z : α) (a b : List α) (n : Nat) (ha : a.length = n) (hb : b.length = n) :
  ((List.range n).all fun i => f (a.getD i z) == f (b.getD i z)) = (a == b) := by
 rw [Bool.eq_iff_iff, List.all_eq_true, beq_iff_eq]
 constructor
 ·
  intro h
  apply List.ext_getElem (by omega)
  intro i h1 h2
  have := h i (by simp; omega)
  rw [beq_iff_eq, List.getD_eq_getElem?_getD, List.getD_eq_getElem?_getD, List.getElem?_eq_getElem h1, List.getElem?_eq_getElem h2] at this
  exact hf _ _ this
 ·
  rintro rfl i _
  simp
theorem run_eqlRow (neg : Bool) {t e : TypeId} {k : IntKind} {n : Nat} (ht : P.underlying t = some (.array n e)) (he : P.underlying e = some (.int k)) {i : TypeInfo} (hi : P.info? e = some i) (hc : P.cellsOf e = 1)
  {α : Type} [BEq α] [LawfulBEq α] (c : α → Value) (f : α → Int) (hcf : ∀ x, c x = .int k (f x)) (hf : ∀ x y, f x = f y → x = y) (z : α) (a b : List α) (ha : a.length = n) (hb : b.length = n) :
  (Op.equalIn 10000 t (.agg (a.map c).toArray) (.agg (b.map c).toArray)).run P w = .ok (a == b) w := by
 rw [run_equalIn_array w 9999 _ _ ht hi, hc, eqItems_ints w 9998 he (fun i => f (a.getD i z)) (fun i => f (b.getD i z)) _ _ _ (fun i hi => ?_), all_range f hf z a b n ha hb]
 have hin : i < n := by simpa using hi
 have h1 : a[i]? = some a[i] := List.getElem?_eq_getElem (by omega)
 have h2 : b[i]? = some b[i] := List.getElem?_eq_getElem (by omega)
 simp [List.getD_eq_getElem?_getD, h1, h2, hcf]
end
theorem wpList_load_midG {P : Program} {ops : Array Oper} {rest : List Oper} {op : Oper} {a : Act} {w : World} {Q : Exit → Act → World → Prop} (hgd : Region.wanted op (yielded ops a.tmps) = true) (ty : TypeId) (x : Operand) (ho : op.op = .load ty x)
  (b o : Nat) (hx : a.eval x = .pointer (some ⟨b, o, none⟩)) (cs : List Value) (d : TypeDesc) (hc : w.rangeAt b o cs)
  (hu : P.underlying ty = some d) (hd : d.isRow = true) (hi : (P.info? ty).map (·.size) = some cs.length)
  (h : wpList P ops Q rest (a.put op.dst (.agg cs.toArray)) w) : wpList P ops Q (op :: rest) a w := by
 refine wpList_step fun _ hK => ?_
 rw [if_pos hgd]
 exact wp_load_mid ty x ho b o hx cs d hc hu hd hi (hK _ _ h)
theorem step_store_row {P : Program} {ops : Array Oper} {o : Oper} {a : Act} {w : World} {K : Act → World → Prop} {Q : Exit → Act → World → Prop} {E : Prop} (hgd : o.guard = none) (ty : TypeId) (x y : Operand) (ho : o.op = .store ty x y)
  (g : Nat) (cells : Array Value) (hx : a.eval x = .pointer (some ⟨g, 0, none⟩)) (hy : a.eval y = .agg cells)
  (t : TypeId) (old : Array Value) (hg : w.heap[g]? = some (.cells old t (0, 0))) (hi : (P.info? ty).map (·.size) = some cells.size)
  (hold : old.size = cells.size) (h1 : cells.all (·.oneCell') = true)
  (h : K (a.put o.dst undef) (w.setRow g cells)) : if Region.wanted o (yielded ops a.tmps) = true then Oper.wp P o a w K Q else E := by
 rw [if_pos (by simp [Region.wanted, hgd])]
 exact wp_store_row ty x y ho g cells hx hy t old hg hi hold h1 h
theorem bv_inj (x y : UInt8) (h : (x.toNat : Int) = (y.toNat : Int)) : x = y := UInt8.toNat_inj.1 (by omega)
theorem byteCells : Tryd.prog.cellsOf 5 = 1 := by kernel_rfl
theorem byte_info : ∃ i, Tryd.prog.info? 5 = some i := by
 have h : (Tryd.prog.info? 5).isSome = true := by kernel_rfl
 exact Option.isSome_iff_exists.1 h
theorem setRow_same (w : World) (g : Nat) (cs : Array Value) (t : TypeId) (fr : Nat × Nat) (hg : w.heap[g]? = some (.cells cs t fr)) : w.setRow g cs = w := by
 unfold World.setRow
 have : w.heap.modify g (fun | .cells _ elem frozen => .cells cs elem frozen | o => o) = w.heap := by
  apply Array.ext_getElem?
  intro i
  rw [Array.getElem?_modify]
  by_cases h : g = i
  ·
   subst h; simp [hg]
  ·
   simp [h]
 exact congrArg (fun h => ({ w with heap := h } : World)) this
theorem wpList_copy_row {P : Program} {w : World} {ops : Array Oper} {rest : List Oper} {o : Oper} {a : Act} {Q : Exit → Act → World → Prop} (hgd : o.guard = none) (d s : Operand) (dT sT : TypeId)
  (ho : o.op = .call { callee := .builtin .copy, args := #[d, s], argTypes := #[dT, sT] }) (elem : TypeId) (hu : P.underlying dT = some (.slice elem)) (hsz : (P.info? elem).map (·.size) = some 1)
  (dp sp : Option Addr) (dLen dCap sLen sCap : Nat) (hd : a.eval d = .slice dp dLen dCap) (hs : a.eval s = .slice sp sLen sCap)
  (g off : Nat) (cur : List Value) (t : TypeId) (hg : w.heap[g]? = some (.cells cur.toArray t (0, 0))) (cs : List Value) (hn : cs.length = Nat.min sLen dLen)
  (hpos : 0 < cs.length → dp = some ⟨g, off, none⟩ ∧ ∃ ad, sp = some ad ∧ ∀ j v, cs[j]? = some v → w.cell? (ad.add j) = some v)
  (hfit : off + cs.length ≤ cur.length) (h1 : ∀ v ∈ cs, v.oneCell' = true)
  (h : wpList P ops Q rest (a.put o.dst (goInt cs.length)) (w.setRow g (splice cur off cs).toArray)) :
  wpList P ops Q (o :: rest) a w := by
 by_cases h0 : cs.length = 0
 ·
  obtain rfl : cs = [] := List.eq_nil_of_length_eq_zero h0
  refine wpList_copy_nothing hgd d s dT sT ho elem hu hsz dp sp dLen dCap sLen sCap hd hs (by simpa using hn.symm) ?_
  have e : w.setRow g (splice cur off []).toArray = w := by
   have : splice cur off ([] : List Value) = cur := by simp [splice]
   rw [this]
   exact setRow_same w g _ t _ hg
  rw [e] at h
  exact h
 ·
  obtain ⟨rfl, ad, rfl, hsrc⟩ := hpos (by omega)
  refine wpList_copy_own hgd d s dT sT ho elem hu hsz g off dLen dCap ad sLen sCap hd hs cur.toArray t hg cs hn hsrc (by simpa using hfit) h1 ?_
  have e : (cur.toArray.toList.take off ++ (cs ++ cur.toArray.toList.drop (off + cs.length))).toArray = (splice cur off cs).toArray := by simp [splice]
  rw [e]
  exact h
theorem byteSize : (Tryd.prog.info? 5).map (·.size) = some 1 := by kernel_rfl
theorem make_bytes (m : Nat) (w : World) (k : IntKind) (x : Int) (hx : x = (m : Int)) (hm : m ≤ 1099511627776) :
  ∃ w1, (Instr.makeSlice 24 (.int k x) (.int k x)).run Tryd.prog w = .ok (.slice (some ⟨w.heap.size, 0, none⟩) m m) w1 ∧ ArrB w1 w.heap.size 5 (List.replicate m 0) ∧ Below w.heap.size w w1 := by
 subst hx
 obtain ⟨i0, hi0, hz0, hz1, hz2⟩ := info_parts byteInfo
 have h := run_make (P := Tryd.prog) w 24 5 i0 _ Tryd.underlying24 hi0 hz0 k k (m : Int) (m : Int) (by omega) (Int.le_refl _) (by rw [hz2]; omega) (by omega)
 rw [hz1, Int.toNat_natCast] at h
 refine ⟨_, h, ?_, (Below.refl _ _).alloc (Nat.le_refl _) _⟩
 refine ArrB.mk_ _ _ _ _ rfl ?_
 apply Array.ext_getElem?
 intro i
 by_cases hi : i < m
 ·
  simp [madeCells, Value.cells, hi, bv, Nat.mod_one]
 ·
  simp [madeCells, Value.cells, hi]
theorem ArrB.at_ {w : World} {g : Nat} {t : TypeId} {l : List UInt8} (h : ArrB w g t l) : w.heap[g]? = some (.cells (l.map bv).toArray t (0, 0)) := h
theorem own_arr {w : World} {base g : Nat} {l : List UInt8} {n : Nat} (h : ArrB w g 5 l) (hb : base ≤ g) (hl : l.length = n) (hm : n ≤ maxLen) : w.ownsRow base 5 1 (.slice (some ⟨g, 0, none⟩) n n) n (l.map bv) := by
 subst hl
 exact ⟨by simp, .inr ⟨g, l.length, (l.map bv).toArray, rfl, hb, h, Nat.le_refl _, hm, by simp, by rw [Nat.mul_one]; exact List.take_of_length_le (by simp)⟩⟩
theorem splice_in {α : Type} (L M : List α) (cs : List α) (h : cs.length ≤ M.length) : splice (L ++ M) L.length cs = (L ++ cs) ++ M.drop cs.length := by
 unfold splice
 rw [List.take_left, ← List.drop_drop, List.drop_left, List.append_assoc]
theorem splice_bytes (l : List UInt8) (off : Nat) (cs : List UInt8) : splice (l.map bv) off (cs.map bv) = (splice l off cs).map bv := by
 simp [splice]
theorem splice_set {α : Type} (cs : List α) (o : Nat) (v : α) (r : List α) (hl : o + (r.length + 1) ≤ cs.length) : splice (cs.set o v) (o + 1) r = splice cs o (v :: r) := by
 have e : cs.set o v = (cs.take o ++ [v]) ++ cs.drop (o + 1) := by
  rw [List.set_eq_take_append_cons_drop, if_pos (by omega)]; simp
 have hlen : (cs.take o ++ [v]).length = o + 1 := by simp; omega
 rw [e, ← hlen, splice_in _ _ _ (by simp; omega)]
 unfold splice
 rw [List.drop_drop]
 simp
 omega
theorem setCells_heap (g : Nat) (t : TypeId) : ∀ (vs cs : List Value) (o : Nat) (w : World), w.heap[g]? = some (.cells cs.toArray t (0, 0)) → o + vs.length ≤ cs.length →
  (w.setCells g o vs).heap[g]? = some (.cells (splice cs o vs).toArray t (0, 0))
 | [], cs, o, w, hg, _ => by
  rw [World.setCells, hg]; simp [splice]
 | v :: r, cs, o, w, hg, hl => by
  simp only [List.length_cons] at hl
  have h1 : (w.setCell ⟨g, o, none⟩ v).heap[g]? = some (.cells (cs.set o v).toArray t (0, 0)) := by
   simp only [World.setCell, Array.getElem?_modify, hg, Option.map_some]
   simp
  rw [World.setCells, setCells_heap g t r (cs.set o v) (o + 1) _ h1 (by rw [List.length_set]; omega)]
  rw [splice_set cs o v r hl]
theorem setCells_far (g g' : Nat) (hne : g' ≠ g) : ∀ (vs : List Value) (o : Nat) (w : World), (w.setCells g o vs).heap[g']? = w.heap[g']?
 | [], _, _ => rfl
 | v :: r, o, w => by
  rw [World.setCells, setCells_far g g' hne r]
  exact Below.heap_setCell w _ v g' hne
theorem below_setCells {B g : Nat} {a : World} (hg : B ≤ g) : ∀ (vs : List Value) (o : Nat) (w : World), Below B a w → Below B a (w.setCells g o vs)
 | [], _, _, h => h
 | v :: r, o, w, h => below_setCells hg r (o + 1) _ (h.setCell hg v)
theorem own_far {w w' : World} {base : Nat} {e : TypeId} {size : Nat} {v : Value} {n : Nat} {xs : List Value} (h : w.ownsRow base e size v n xs) (hs : w.heap.size ≤ w'.heap.size) (hb : ∀ g, v.ownBlock = some g → w'.heap[g]? = w.heap[g]?) : w'.ownsRow base e size v n xs := by
 refine ⟨h.1, ?_⟩
 rcases h.2 with h0 | ⟨g, cap, cur, hv, h1, h2, h3⟩
 ·
  exact .inl h0
 ·
  exact .inr ⟨g, cap, cur, hv, h1, (hb g (by rw [hv]; rfl)).trans h2, h3⟩
theorem wp_gen {P : Program} {c : Code} {Q : Exit → Act → World → Prop} {a : Act} {w0 : World} (R : World → Prop) (h0 : R w0) (h : ∀ w1, R w1 → Code.wp P c Q a w1) : Code.wp P c Q a w0 := h w0 h0
theorem wpList_gen {P : Program} {ops : Array Oper} {l : List Oper} {Q : Exit → Act → World → Prop} {a : Act} {w0 : World} (R : World → Prop) (h0 : R w0) (h : ∀ w1, R w1 → wpList P ops Q l a w1) : wpList P ops Q l a w0 := h w0 h0
theorem Rd.src {w : World} {B : Nat} {A : Option Addr} {n : Nat} {xs : List Value} (h : Rd w B A n xs) (hp : 0 < xs.length) : ∃ ad, A = some ad ∧ ∀ j v, xs[j]? = some v → w.cell? (ad.add j) = some v := by
 obtain ⟨b, o, e, _, hc⟩ := h.pos (by rw [← h.len]; exact hp)
 exact ⟨_, e, fun j v hv => by rw [Addr.add_lit]; exact hc j v hv⟩
theorem own_base {w : World} {B base : Nat} {e : TypeId} {size : Nat} {v : Value} {n : Nat} {xs : List Value} (h : w.ownsRow B e size v n xs) (hb : base ≤ B) : w.ownsRow base e size v n xs := by
 refine ⟨h.1, ?_⟩
 rcases h.2 with h0 | ⟨g, cap, cur, hv, h1, h2⟩
 ·
  exact .inl h0
 ·
  exact .inr ⟨g, cap, cur, hv, Nat.le_trans hb h1, h2⟩
theorem calls_gen {P : Program} {f : FuncId} {args : Array Value} {w0 : World} {Q : Ending → World → Prop} (R : World → Prop) (h0 : R w0) (h : ∀ w1, R w1 → Calls P f args w1 Q) : Calls P f args w0 Q := h w0 h0
theorem Rd.mkFr (w : World) (t : TypeId) (fr : Nat × Nat) (xs : Array Value) {b B n : Nat} {l : List Value} (hb : w.heap.size = b) (hB : b < B) (hn : xs.size = n) (hl : xs.toList = l) : Rd (w.alloc (.cells xs t fr)) B (some ⟨b, 0, none⟩) n l := by
 subst hb hn hl
 refine ⟨by simp, fun _ => ⟨w.heap.size, 0, rfl, hB, fun j u hu => ?_⟩⟩
 rw [cell_of_row _ w.heap.size (0 + j) xs t fr (heap_alloc_new w _), Nat.zero_add]
 simpa using hu
theorem b_lt (x : UInt8) : x.toNat < 256 := x.toBitVec.isLt
theorem b_xor (a b : UInt8) : bits .xor .u8 (a.toNat : Int) (b.toNat : Int) = ((a ^^^ b).toNat : Int) := by
 rw [u8_xor_nat _ _ (b_lt a) (b_lt b), UInt8.toNat_xor]
theorem own_set {w : World} {base : Nat} {t : TypeId} {n c g : Nat} {xs : List Value} (h : w.ownsRow base t 1 (.slice (some ⟨g, 0, none⟩) n c) n xs) {j : Nat} (hj : j < n) (u : Value) :
  (w.setCell ⟨g, j, none⟩ u).ownsRow base t 1 (.slice (some ⟨g, 0, none⟩) n c) n (xs.set j u) := by
 refine ⟨by rw [List.length_set]; exact h.1, .inr ?_⟩
 rcases h.2 with ⟨h0, _⟩ | ⟨g', cap, cur, hv, hb, hg, hnc, hcm, hcs, ht⟩
 ·
  cases h0
 ·
  injection hv with h1 h2 h3
  injection h1 with h1
  injection h1 with h1
  subst h1 h3
  refine ⟨g, c, cur.setIfInBounds j u, rfl, hb, ?_, hnc, hcm, by simpa using hcs, ?_⟩
  ·
   simp only [World.setCell, Array.getElem?_modify, hg, Option.map_some]
   simp
  ·
   rw [Array.toList_setIfInBounds, List.take_set, ht]
theorem own_free {w : World} {base : Nat} {t : TypeId} {n c g : Nat} {xs : List Value} (h : w.ownsRow base t 1 (.slice (some ⟨g, 0, none⟩) n c) n xs) (j : Nat) : w.frozen? ⟨g, j, none⟩ = false := by
 rcases h.2 with ⟨h0, _⟩ | ⟨g', cap, cur, hv, hb, hg, _⟩
 ·
  cases h0
 ·
  injection hv with h1
  injection h1 with h1
  injection h1 with h1
  subst h1
  exact frozen_of_row w g j _ t hg
theorem c_refl (w : World) : Below w.heap.size w w := Below.refl _ _
theorem c_alloc {a w : World} (h : Below a.heap.size a w) (o : Obj) : Below a.heap.size a (w.alloc o) := h.alloc h.size o
theorem c_drew {a w : World} (h : Below a.heap.size a w) : Below a.heap.size a w.drew := h.drew
theorem c_row {a w : World} (h : Below a.heap.size a w) {g : Nat} (hg : a.heap.size ≤ g) (cs : Array Value) : Below a.heap.size a (w.setRow g cs) := below_setRow h hg cs
theorem c_call {a w w' : World} (h : Below a.heap.size a w) (hb : Below w.heap.size w w') : Below a.heap.size a w' := h.trans (hb.mono h.size)
theorem c_rd {a w : World} {A : Option Addr} {n : Nat} {xs : List Value} (h : Rd a a.heap.size A n xs) (hb : Below a.heap.size a w) : Rd w w.heap.size A n xs := (h.below hb).more hb.size
theorem d_rd {a w : World} {A : Option Addr} {n : Nat} {xs : List Value} (h : Rd a a.heap.size A n xs) (hb : Below a.heap.size a w) : Rd w w.heap.size A n xs := (h.below hb).more hb.size
theorem d_al (w : World) (o : Obj) : Below w.heap.size w (w.alloc o) := (Below.refl _ _).alloc (Nat.le_refl _) o
theorem ArrB.stored {w : World} {g : Nat} {t : TypeId} {l l' : List UInt8} (h : ArrB w g t l) (hl : l'.length = l.length) : ArrB (w.setCells g 0 (l'.map bv)) g t l' := by
 have hh := setCells_heap g t (l'.map bv) (l.map bv) 0 w h (by simp [hl])
 rw [splice_bytes] at hh
 have e : splice l 0 l' = l' := by simp [splice, hl]
 rw [e] at hh
 exact hh
theorem ArrB.there {w : World} {g : Nat} {t : TypeId} {l : List UInt8} {n : Nat} (h : ArrB w g t l) (hn : l.length = n) : w.there g 0 n := fun j hj => by
 rw [Nat.zero_add]
 exact ⟨by rw [h.cell (List.getElem?_eq_getElem (show j < l.length by omega))]; rfl, h.frozen j⟩
theorem ArrB.range {w : World} {g : Nat} {t : TypeId} {l : List UInt8} (h : ArrB w g t l) : w.rangeAt g 0 (l.map bv) := fun j v hv => by
 rw [List.getElem?_map] at hv
 obtain ⟨z, hz, rfl⟩ := Option.map_eq_some_iff.1 hv
 rw [Nat.zero_add]
 exact h.cell hz
def SomeB (w : World) (g : Nat) (t : TypeId) (n : Nat) : Prop := ∃ l : List UInt8, l.length = n ∧ ArrB w g t l
theorem ArrB.some {w : World} {g : Nat} {t : TypeId} {l : List UInt8} {n : Nat} (h : ArrB w g t l) (hn : l.length = n) : SomeB w g t n := ⟨l, hn, h⟩

theorem bl {a w : World} (hb : Below a.heap.size a w := by repeat (first | exact c_refl _ | refine c_drew ?_ | refine c_alloc ?_ _ | refine c_row ?_ (by first | omega | exact Nat.le_refl _) _ | refine c_call ?_ (by assumption))) : Below a.heap.size a w := hb
theorem kp {α : Type} {C : Prop} {S : World → Prop} {T K : α → World → Prop} {a : World} (hK : Shut (∀ x w, (C → S w) → T x w → K x w)) (hkeep : ∀ wx, Below a.heap.size a wx → S wx) {x : α} {w : World} (h : T x w)
    (hb : Below a.heap.size a w := by repeat (first | exact c_refl _ | refine c_drew ?_ | refine c_alloc ?_ _ | refine c_row ?_ (by first | omega | exact Nat.le_refl _) _ | refine c_call ?_ (by assumption))) : K x w := hK.out _ _ (fun _ => hkeep _ hb) h
theorem sA {α : Type} (xs : List α) (i : Nat) (a : α) : xs.toArray.setIfInBounds i a = (xs.set i a).toArray := List.setIfInBounds_toArray xs i a
theorem sZ {α : Type} (a b : α) (l : List α) : (a :: l).set 0 b = b :: l := List.set_cons_zero
theorem sS {α : Type} (a b : α) (l : List α) (n : Nat) : (a :: l).set (n + 1) b = a :: l.set n b := List.set_cons_succ
def bytesU (h : List UInt32) : List UInt8 := (h.map fun x => be 4 x.toNat).flatten
theorem bytesU_len (h : List UInt32) : (bytesU h).length = 4 * h.length := by
 induction h with
 | nil => rfl
 | cons x h ih => simp only [bytesU, List.map_cons, List.flatten_cons, List.length_append, be_length, List.length_cons] at ih ⊢; omega
theorem bytesU_at : ∀ (h : List UInt32) (i n : Nat) (x : UInt32), h[i]? = some x → n < 4 → (bytesU h)[4 * i + n]? = (be 4 x.toNat)[n]?
 | [], i, n, x, hx, _ => by simp at hx
 | y :: h, 0, n, x, hx, hn => by
  simp at hx; subst hx
  simp only [bytesU, List.map_cons, List.flatten_cons]
  rw [List.getElem?_append_left (by rw [be_length]; omega), show 4 * 0 + n = n from by omega]
 | y :: h, i + 1, n, x, hx, hn => by
  simp only [bytesU, List.map_cons, List.flatten_cons]
  rw [List.getElem?_append_right (by rw [be_length]; omega), be_length, show 4 * (i + 1) + n - 4 = 4 * i + n from by omega]
  exact bytesU_at h i n x (by simpa using hx) hn
def outAt (b : List UInt8) (p : Nat) : List UInt8 := b.take p ++ List.replicate (32 - p) 0
theorem outAt_len {b : List UInt8} (hb : b.length = 32) {p : Nat} (hp : p ≤ 32) : (outAt b p).length = 32 := by simp [outAt]; omega
theorem outAt_all {b : List UInt8} (hb : b.length = 32) : outAt b 32 = b := by simp [outAt, List.take_of_length_le (Nat.le_of_eq hb)]
theorem outAt_zero (b : List UInt8) : outAt b 0 = List.replicate 32 0 := by simp [outAt]
theorem word_plain : Tryd.prog.plainKey 72 = true := by kernel_rfl
theorem word_cells : Tryd.prog.cellsOf 72 = 1 := by kernel_rfl
set_option maxRecDepth 1000000 in
theorem word_info : ∃ i, Tryd.prog.info? 72 = some i := ⟨_, rfl⟩
theorem info32 : (Tryd.prog.info? 23).map (·.size) = some 32 := by kernel_rfl
section
variable {P : Program} {ops : Array Oper} {Q : Exit → Act → World → Prop} {md : Region.Mode} {S : World → Prop} {L : Nat}
def wpAnyT (P : Program) (md : Region.Mode) (ops : Array Oper) (Q : Exit → Act → World → Prop) (S : World → Prop) (L : Nat) : Nat → Array Bool → Act → World → Prop
 | 0, listed, a, w => Region.ready md ops listed = [] ∧ Q .normal a w
 | fuel + 1, listed, a, w =>
  (Region.ready md ops listed = [] → Q .normal a w) ∧
  ∀ i ∈ Region.ready md ops listed, wpOp P ops Q i (fun a' w' => (i ≠ L → S w') ∧ wpAnyT P md ops Q S L fuel (listed.setIfInBounds i true) a' w') a w
theorem wpAny_of_T : ∀ (fuel : Nat) (listed : Array Bool) (a : Act) (w : World), wpAnyT P md ops Q S L fuel listed a w → wpAny P md ops Q fuel listed a w
 | 0, _, _, _, h => h
 | fuel + 1, _, _, _, h => ⟨h.1, fun i hi => wpOp_mono (fun a' w' h' => wpAny_of_T fuel _ a' w' h'.2) (h.2 i hi)⟩
def waitsFor (md : Region.Mode) (ops : Array Oper) (L i : Nat) : Bool := match ops[L]? with
 | some o => o.after.any fun e => Region.binds md e && e.on == i
 | none => true
theorem waits_spec {i : Nat} {listed : Array Bool} (h : waitsFor md ops L i = true) (hi : listed.getD i true = false) : L ∉ Region.ready md ops listed := by
 intro hL
 obtain ⟨_, o, ho, hall⟩ := mem_ready.1 hL
 unfold waitsFor at h
 rw [ho] at h
 obtain ⟨e, he, hb⟩ := Array.any_eq_true'.1 h
 rw [Bool.and_eq_true, beq_iff_eq] at hb
 have h1 := hall e he hb.1
 rw [hb.2] at h1
 rcases Nat.lt_or_ge i listed.size with h' | h'
 ·
  simp [h'] at hi h1; rw [hi] at h1; cases h1
 ·
  simp [Array.getElem?_eq_none h'] at h1
theorem wpAnyT_first {i : Nat} {oi : Oper} {v : Value} (hi : ops[i]? = some oi) (hsel : ∀ (j : Nat) (o : Oper) cs b, ops[j]? = some o → o.op ≠ .select cs b)
  (hQ : ∀ c a w, Q (.panic c) (a.put oi.dst v) w → Q (.panic c) a w) (hL : waitsFor md ops L i = true) :
  ∀ (fuel : Nat) (listed : Array Bool) (a : Act) (w : World),
   (∀ j oj, ops[j]? = some oj → j ≠ i → listed.getD j true = false → (∀ e ∈ oj.after, Region.binds md e = true → e.on ≠ i) → oi.apart ops oj = true) →
   i ∈ Region.ready md ops listed → YieldsIf P ops S oi v a → S w →
   wpAnyT P md ops Q S L fuel (listed.setIfInBounds i true) (a.put oi.dst v) w → wpAnyT P md ops Q S L (fuel + 1) listed a w := by
 intro fuel
 induction fuel with
 | zero =>
  intro listed a w _ hr hy hS H
  refine ⟨fun h => (by rw [h] at hr; cases hr), fun j hj => ?_⟩
  by_cases hji : j = i
  ·
   subst hji; exact hy.wpOp hi hS ⟨fun _ => hS, H⟩
  ·
   have := ready_mono hj hji
   rw [H.1] at this
   cases this
 | succ fuel ih =>
  intro listed a w hfree hr hy hS H
  refine ⟨fun h => (by rw [h] at hr; cases hr), fun j hj => ?_⟩
  by_cases hji : j = i
  ·
   subst hji; exact hy.wpOp hi hS ⟨fun _ => hS, H⟩
  ·
   have hjL : j ≠ L := fun e => waits_spec hL (mem_ready.1 hr).1 (e ▸ hj)
   have h1 := H.2 j (ready_mono hj hji)
   obtain ⟨hjun, oj, hoj, hall⟩ := mem_ready.1 hj
   have hnot : ∀ e ∈ oj.after, Region.binds md e = true → e.on ≠ i := fun e he hb heq => by
    have h1 := hall e he hb
    have h0 := (mem_ready.1 hr).1
    rw [heq] at h1
    rcases Nat.lt_or_ge i listed.size with h' | h'
    ·
     simp [h'] at h0 h1; rw [h0] at h1; cases h1
    ·
     simp [Array.getElem?_eq_none h'] at h1
   have h2 := wpOp_putIf hoj (hfree j oj hoj hji hjun hnot) (fun cs b => hsel i oi cs b hi) (fun cs b => hsel j oj cs b hoj) hQ hy h1
   have hfree' : ∀ k ok, ops[k]? = some ok → k ≠ i → (listed.setIfInBounds j true).getD k true = false →
     (∀ e ∈ ok.after, Region.binds md e = true → e.on ≠ i) → oi.apart ops ok = true := fun k ok hk hki hun hno => by
    refine hfree k ok hk hki ?_ hno
    by_cases hjk : j = k
    ·
     subst hjk; exact hjun
    ·
     rw [getD_set_ne true hjk] at hun; exact hun
   refine wpOp_mono (fun a' w' h3 => ⟨h3.2.1, ih (listed.setIfInBounds j true) a' w' hfree' (ready_mono hr (Ne.symm hji)) h3.1 (h3.2.1 hjL) ?_⟩) h2
   rw [Array.setIfInBounds_comm _ _ hji]
   exact h3.2.2
theorem takeT (i : Nat) {oi : Oper} (v : Value) {fuel : Nat} {listed : Array Bool} {a : Act} {w : World} (hi : ops[i]? = some oi)
  (hs : Region.noSelect ops = true) (hf : Region.free md ops listed i = true) (hr : (Region.ready md ops listed).contains i = true) (hL : waitsFor md ops L i = true)
  (hQ : ∀ c a w, Q (.panic c) (a.put oi.dst v) w → Q (.panic c) a w) (hy : YieldsIf P ops S oi v a) (hS : S w)
  (h : wpAnyT P md ops Q S L fuel (listed.setIfInBounds i true) (a.put oi.dst v) w) : wpAnyT P md ops Q S L (fuel + 1) listed a w :=
 wpAnyT_first hi (Region.noSelect_spec hs) hQ hL fuel listed a w (Region.free_spec hi hf) (by simpa using hr) hy hS h
def AllReadyT (P : Program) (md : Region.Mode) (ops : Array Oper) (Q : Exit → Act → World → Prop) (S : World → Prop) (L : Nat) (fuel : Nat) (listed : Array Bool) (a : Act) (w : World) (rs : List Nat) : Prop :=
 ∀ i ∈ rs, wpOp P ops Q i (fun a' w' => (i ≠ L → S w') ∧ wpAnyT P md ops Q S L fuel (listed.setIfInBounds i true) a' w') a w
theorem AllReadyT.nil {fuel : Nat} {listed : Array Bool} {a : Act} {w : World} : AllReadyT P md ops Q S L fuel listed a w [] := fun _ h => by cases h
theorem AllReadyT.cons {fuel : Nat} {listed : Array Bool} {a : Act} {w : World} {i : Nat} {o : Oper} {rs : List Nat} (ho : ops[i]? = some o)
  (h : ∀ K' : Act → World → Prop, Shut (∀ a w, (i ≠ L → S w) → wpAnyT P md ops Q S L fuel (listed.setIfInBounds i true) a w → K' a w) → if Region.wanted o (yielded ops a.tmps) = true then Oper.wp P o a w K' Q else K' (a.put o.dst undef) w)
  (hs : AllReadyT P md ops Q S L fuel listed a w rs) : AllReadyT P md ops Q S L fuel listed a w (i :: rs) := fun j hj => by
 rcases List.mem_cons.1 hj with rfl | hj
 ·
  exact wpOp_step ho (fun K' hK => h K' (fun a w hS hW => hK a w ⟨hS, hW⟩))
 ·
  exact hs j hj
theorem readyT (rs : List Nat) {fuel : Nat} {listed : Array Bool} {a : Act} {w : World} (hr : Region.ready md ops listed = rs) (hne : rs ≠ [])
  (h : AllReadyT P md ops Q S L fuel listed a w rs) : wpAnyT P md ops Q S L (fuel + 1) listed a w :=
 ⟨fun h0 => absurd (hr ▸ h0) hne, hr ▸ h⟩
theorem oneT (i : Nat) {o : Oper} {fuel : Nat} {listed : Array Bool} {a : Act} {w : World} (hr : Region.ready md ops listed = [i]) (ho : ops[i]? = some o)
  (h : ∀ K' : Act → World → Prop, Shut (∀ a w, (i ≠ L → S w) → wpAnyT P md ops Q S L fuel (listed.setIfInBounds i true) a w → K' a w) → if Region.wanted o (yielded ops a.tmps) = true then Oper.wp P o a w K' Q else K' (a.put o.dst undef) w) :
  wpAnyT P md ops Q S L (fuel + 1) listed a w :=
 readyT [i] hr (by simp) (AllReadyT.cons ho h AllReadyT.nil)
theorem doneT {listed : Array Bool} {a : Act} {w : World} (hr : Region.ready md ops listed = []) (h : Q .normal a w) :
  ∀ fuel, wpAnyT P md ops Q S L fuel listed a w
 | 0 => ⟨hr, h⟩
 | _ + 1 => ⟨fun _ => h, by rw [hr]; simp⟩
theorem beginT (S : World → Prop) (L : Nat) {id : Nat} {a : Act} {w : World} (hm : P.follows .mixedOrders = true)
  (h : wpAnyT P .any ops Q S L ops.size (Array.replicate ops.size false) a w.drew) : (Code.region id ops true).wp P Q a w :=
 wp_region_any hm (wpAny_of_T _ _ _ _ h)
theorem takeD (i : Nat) (dst : Option Tmp) {oi : Oper} (v : Value) {fuel : Nat} {listed : Array Bool} {a : Act} {w : World} (hi : ops[i]? = some oi) (hd : oi.dst = dst)
  (hs : Region.noSelect ops = true) (hf : Region.free md ops listed i = true) (hr : (Region.ready md ops listed).contains i = true) (hL : waitsFor md ops L i = true)
  (hQ : ∀ c a w, Q (.panic c) (a.put dst v) w → Q (.panic c) a w) (hy : YieldsIf P ops S oi v a) (hS : S w)
  (h : wpAnyT P md ops Q S L fuel (listed.setIfInBounds i true) (a.put dst v) w) : wpAnyT P md ops Q S L (fuel + 1) listed a w := by
 subst hd
 exact takeT i v hi hs hf hr hL hQ hy hS h
theorem loadT (i : Nat) (dst : Option Tmp) (ty : TypeId) (x : Operand) (b o : Nat) (cs : List Value) {oi : Oper} {fuel : Nat} {listed : Array Bool} {a : Act} {w : World} (hi : ops[i]? = some oi) (hdst : oi.dst = dst)
  (hs : Region.noSelect ops = true) (hf : Region.free md ops listed i = true) (hr : (Region.ready md ops listed).contains i = true) (hL : waitsFor md ops L i = true)
  (ho : oi.op = .load ty x) (hw : Region.wanted oi (yielded ops a.tmps) = true)
  (hx : a.eval x = .pointer (some ⟨b, o, none⟩)) {d : TypeDesc} (hS : ∀ w, S w → w.rangeAt b o cs)
  (hu : P.underlying ty = some d) (hd : d.isRow = true) (hin : (P.info? ty).map (·.size) = some cs.length)
  (hQ : ∀ c a w, Q (.panic c) (a.put dst (.agg cs.toArray)) w → Q (.panic c) a w) (hSw : S w)
  (h : wpAnyT P md ops Q S L fuel (listed.setIfInBounds i true) (a.put dst (.agg cs.toArray)) w) : wpAnyT P md ops Q S L (fuel + 1) listed a w :=
 takeD i dst _ hi hdst hs hf hr hL hQ (yieldsIf_load_mid hw ty x ho b o hx cs d hS hu hd hin) hSw h
end

theorem tk {P : Program} {ops : Array Oper} {Q : Exit → Act → World → Prop} {md : Region.Mode} {S : World → Prop} {L : Nat} (i : Nat) (dst : Option Tmp) (v : Value) {oi : Oper} {fuel : Nat} {listed : Array Bool} {a : Act} {w : World}
    (hQ : ∀ c a w, Q (.panic c) (a.put dst v) w → Q (.panic c) a w) (hS : S w) (h : wpAnyT P md ops Q S L fuel (listed.setIfInBounds i true) (a.put dst v) w)
    (hi : ops[i]? = some oi := by rfl) (hd : oi.dst = dst := by rfl) (hs : Region.noSelect ops = true := by kernel_rfl) (hf : Region.free md ops listed i = true := by kernel_rfl) (hr : (Region.ready md ops listed).contains i = true := by kernel_rfl)
    (hL : waitsFor md ops L i = true := by kernel_rfl) (hy : YieldsIf P ops S oi v a := by exact Or.inl ⟨by kernel_rfl, fun wx hSw => by go_simp⟩) : wpAnyT P md ops Q S L (fuel + 1) listed a w :=
  takeD i dst v hi hd hs hf hr hL hQ hy hS h
theorem ldQ {P : Program} {ops : Array Oper} {Q : Exit → Act → World → Prop} {md : Region.Mode} {S : World → Prop} {L : Nat} (i : Nat) (dst : Option Tmp) (ty : TypeId) (x : Operand) (b o : Nat) (cs : List Value) {oi : Oper} {fuel : Nat} {listed : Array Bool} {a : Act} {w : World}
    {d : TypeDesc} (hS : ∀ w, S w → w.rangeAt b o cs) (hu : P.underlying ty = some d) (hin : (P.info? ty).map (·.size) = some cs.length)
    (hQ : ∀ c a w, Q (.panic c) (a.put dst (.agg cs.toArray)) w → Q (.panic c) a w) (hSw : S w) (h : wpAnyT P md ops Q S L fuel (listed.setIfInBounds i true) (a.put dst (.agg cs.toArray)) w)
    (hi : ops[i]? = some oi := by rfl) (hdst : oi.dst = dst := by rfl) (hs : Region.noSelect ops = true := by kernel_rfl) (hf : Region.free md ops listed i = true := by kernel_rfl) (hr : (Region.ready md ops listed).contains i = true := by kernel_rfl)
    (hL : waitsFor md ops L i = true := by kernel_rfl) (ho : oi.op = .load ty x := by rfl) (hw : Region.wanted oi (yielded ops a.tmps) = true := by kernel_rfl) (hx : a.eval x = .pointer (some ⟨b, o, none⟩) := by rfl) (hd : d.isRow = true := by rfl) : wpAnyT P md ops Q S L (fuel + 1) listed a w :=
  loadT i dst ty x b o cs hi hdst hs hf hr hL ho hw hx hS hu hd hin hQ hSw h
theorem rd2 {P : Program} {ops : Array Oper} {Q : Exit → Act → World → Prop} {md : Region.Mode} {S : World → Prop} {L : Nat} (i j : Nat) {o o' : Oper} {fuel : Nat} {listed : Array Bool} {a : Act} {w : World}
    (h : ∀ K' : Act → World → Prop, Shut (∀ a w, (i ≠ L → S w) → wpAnyT P md ops Q S L fuel (listed.setIfInBounds i true) a w → K' a w) → if Region.wanted o (yielded ops a.tmps) = true then Oper.wp P o a w K' Q else K' (a.put o.dst undef) w)
    (h' : ∀ K' : Act → World → Prop, Shut (∀ a w, (j ≠ L → S w) → wpAnyT P md ops Q S L fuel (listed.setIfInBounds j true) a w → K' a w) → if Region.wanted o' (yielded ops a.tmps) = true then Oper.wp P o' a w K' Q else K' (a.put o'.dst undef) w)
    (hr : Region.ready md ops listed = [i, j] := by kernel_rfl) (ho : ops[i]? = some o := by rfl) (ho' : ops[j]? = some o' := by rfl) : wpAnyT P md ops Q S L (fuel + 1) listed a w := readyT [i, j] hr (by simp) (AllReadyT.cons ho h (AllReadyT.cons ho' h' AllReadyT.nil))
theorem on1 {P : Program} {ops : Array Oper} {Q : Exit → Act → World → Prop} {md : Region.Mode} {S : World → Prop} {L : Nat} (i : Nat) {o : Oper} {fuel : Nat} {listed : Array Bool} {a : Act} {w : World}
    (h : ∀ K' : Act → World → Prop, Shut (∀ a w, (i ≠ L → S w) → wpAnyT P md ops Q S L fuel (listed.setIfInBounds i true) a w → K' a w) → if Region.wanted o (yielded ops a.tmps) = true then Oper.wp P o a w K' Q else K' (a.put o.dst undef) w)
    (hr : Region.ready md ops listed = [i] := by kernel_rfl) (ho : ops[i]? = some o := by rfl) : wpAnyT P md ops Q S L (fuel + 1) listed a w := oneT i hr ho h
def keyC (l : List UInt8) : Array Value := (l.map bv).toArray
theorem infoKey : (Tryd.prog.info? 23).map (·.size) = some 32 := by kernel_rfl
theorem keyC_size (l : List UInt8) : (keyC l).size = l.length := by simp [keyC]
theorem sizeKey {l : List UInt8} (h : l.length = 32) : (Tryd.prog.info? 23).map (·.size) = some (keyC l).size := by rw [infoKey, keyC_size, h]
theorem one_keyF (l : List UInt8) : (keyC l).all (·.oneCell') = true := one_bvA l
theorem keyC_at {l : List UInt8} {i : Nat} {x : UInt8} (h : l[i]? = some x) : (keyC l)[i]? = some (.int .u8 (x.toNat : Int)) := by simp [keyC, h, bv]
theorem keyC_set (l : List UInt8) (i : Nat) (x : UInt8) : (keyC l).setIfInBounds i (.int .u8 (x.toNat : Int)) = keyC (l.set i x) := by simp [keyC, List.map_set, bv]
theorem Ms.set {w0 w : World} {g : Nat} {t : TypeId} {cs : Array Value} {L : List (Nat × TypeId × Array Value)} (h : Ms w0 w ((g, t, cs) :: L)) (hg : w0.heap.size ≤ g) (hne : ∀ p ∈ L, p.1 ≠ g) (cs' : Array Value) :
  Ms w0 (w.setRow g cs') ((g, t, cs') :: L) :=
 ⟨below_setRow h.old hg _, fun p hp => by
  rcases List.mem_cons.1 hp with rfl | hp
  ·
   exact (h.rows (g, t, cs) (by simp)).row cs'
  ·
   exact (h.rows p (by simp [hp])).rowFar (hne p hp) cs'⟩
theorem Ms.swap {w0 w : World} {x y : Nat × TypeId × Array Value} {L : List (Nat × TypeId × Array Value)} (h : Ms w0 w (x :: y :: L)) : Ms w0 w (y :: x :: L) :=
 ⟨h.old, fun p hp => h.rows p (by simp only [List.mem_cons] at hp ⊢; rcases hp with h | h | h <;> simp [h])⟩
theorem Ms.beh {w0 w w' : World} {g : Nat} {t : TypeId} {cs cs' : Array Value} {L : List (Nat × TypeId × Array Value)} (h : Ms w0 w ((g, t, cs) :: L)) (hg : w0.heap.size ≤ g) (hne : ∀ p ∈ L, p.1 ≠ g) (hr : RowC w' g t cs')
  (hfar : ∀ k, k ≠ g → k < w.heap.size → w'.heap[k]? = w.heap[k]?) (hb : ∀ B, B ≤ g → Below B w w') : Ms w0 w' ((g, t, cs') :: L) :=
 ⟨h.old.trans (hb _ hg), fun p hp => by
  rcases List.mem_cons.1 hp with rfl | hp
  ·
   exact hr
  ·
   have h1 := h.rows p (by simp [hp])
   exact h1.of (hfar _ (hne p hp) h1.lt)⟩
theorem Ms.setCell {w0 w : World} {g : Nat} {t : TypeId} {cs : Array Value} {L : List (Nat × TypeId × Array Value)} (h : Ms w0 w ((g, t, cs) :: L)) (hg : w0.heap.size ≤ g) (hne : ∀ p ∈ L, p.1 ≠ g) (i : Nat) (v : Value) :
  Ms w0 (w.setCell ⟨g, i, none⟩ v) ((g, t, cs.setIfInBounds i v) :: L) :=
 ⟨h.old.setCell hg _, fun p hp => by
  rcases List.mem_cons.1 hp with rfl | hp
  ·
   exact (h.rows (g, t, cs) (by simp)).set_ i v
  ·
   exact (h.rows p (by simp [hp])).far (hne p hp) v⟩
theorem Ms.sub {w0 w : World} {L L' : List (Nat × TypeId × Array Value)} (h : Ms w0 w L) (hs : ∀ p ∈ L', p ∈ L) : Ms w0 w L' := ⟨h.old, fun p hp => h.rows p (hs p hp)⟩
theorem Ms.set2 {w0 w : World} {g g' : Nat} {t t' : TypeId} {cs cs' ds ds' : Array Value} {L : List (Nat × TypeId × Array Value)} (h : Ms w0 w ((g, t, cs) :: (g', t', cs') :: L)) (hg : w0.heap.size ≤ g) (hg' : w0.heap.size ≤ g') (hgg : g ≠ g')
  (hne : ∀ p ∈ L, p.1 ≠ g) (hne' : ∀ p ∈ L, p.1 ≠ g') : Ms w0 ((w.setRow g ds).setRow g' ds') ((g, t, ds) :: (g', t', ds') :: L) :=
 (Ms.set (Ms.swap (Ms.set h hg (fun p hp => by
  rcases List.mem_cons.1 hp with rfl | hp
  ·
   exact Ne.symm hgg
  ·
   exact hne p hp) ds)) hg' (fun p hp => by
  rcases List.mem_cons.1 hp with rfl | hp
  ·
   exact hgg
  ·
   exact hne' p hp) ds').swap
theorem eql_keyF (w : World) (a b : List UInt8) (ha : a.length = 32) (hb : b.length = 32) :
  (Op.equalIn 10000 23 (.agg (keyC a)) (.agg (keyC b))).run Tryd.prog w = .ok (a == b) w := by
 obtain ⟨i, hi⟩ := byte_info
 exact run_eqlRow w false Tryd.underlying23 Tryd.underlying5 hi byteCells bv (fun x => (x.toNat : Int)) (fun _ => rfl) bv_inj 0 a b ha hb
theorem yields_build {P : Program} {ops : Array Oper} {S : World → Prop} {o : Oper} {a : Act} (hgd : Region.wanted o (yielded ops a.tmps) = true) (t : TypeId) (parts : Array (Nat × Operand)) (ho : o.op = .build t parts)
  (vals : Array (Nat × Value)) (hv : (parts.map fun (i, x) => (i, a.eval x)) = vals) (cells : Array Value) (hf : ∀ w, (Instr.build t vals).run P w = .ok (.agg cells) w) : YieldsIf P ops S o (.agg cells) a := by
 subst hv
 refine Or.inl ⟨hgd, fun w _ => ?_⟩
 unfold execOp
 simp only [ho, Sem.run_bind, hf, Result.andThen_ok, Sem.run_pure]
theorem RowC.rdK {w : World} {g : Nat} {t : TypeId} {l : List UInt8} (h : RowC w g t (keyC l)) {n : Nat} (hn : l.length = n) : Rd w w.heap.size (Option.some ⟨g, 0, none⟩) n (l.map bv) :=
 ⟨by rw [List.length_map, hn], fun _ => ⟨g, 0, rfl, h.lt, fun j u hu => by rw [Nat.zero_add]; exact h.cell (by simpa [keyC] using hu)⟩⟩
theorem fold_set : ∀ (vs : List Value) (k : Nat) (zs : Array Value), k + vs.length ≤ zs.size →
  ((vs.zipIdx k).foldl (fun cs x => cs.setIfInBounds (0 + x.2) x.1) zs).toList = splice zs.toList k vs
 | [], k, zs, _ => by simp [splice]
 | v :: r, k, zs, h => by
  simp only [List.length_cons] at h
  simp only [List.zipIdx_cons, List.foldl_cons]
  rw [fold_set r (k + 1) _ (by simp; omega), Nat.zero_add, Array.toList_setIfInBounds, splice_set _ _ _ _ (by simp; omega)]
theorem fill_first (zs cs : Array Value) (place : Nat → Option (Nat × Nat)) (hp : place 0 = some (0, cs.size)) (h : cs.size ≤ zs.size) :
  Instr.fill place zs [(0, .agg cs)] = some (splice zs.toList 0 cs.toList).toArray := by
 have hc : (Value.agg cs).cells = cs := rfl
 simp only [Instr.fill, hp, hc]
 rw [if_neg (by simp; omega)]
 congr 1
 apply Array.ext'
 rw [← Array.foldl_toList, Array.toList_zipIdx]
 have := fold_set cs.toList 0 zs (by simpa using h)
 simpa using this

theorem zkS {l : List UInt8} (h : l.length = 32) : (#[.int .u8 0, .int .u8 0, .int .u8 0, .int .u8 0, .int .u8 0, .int .u8 0, .int .u8 0, .int .u8 0, .int .u8 0, .int .u8 0, .int .u8 0, .int .u8 0, .int .u8 0, .int .u8 0, .int .u8 0, .int .u8 0, .int .u8 0, .int .u8 0, .int .u8 0, .int .u8 0, .int .u8 0, .int .u8 0, .int .u8 0, .int .u8 0, .int .u8 0, .int .u8 0, .int .u8 0, .int .u8 0, .int .u8 0, .int .u8 0, .int .u8 0, .int .u8 0] : Array Value).size = (keyC l).size := by rw [keyC_size, h]; rfl
end Go.Proofs.YtbiijdboolpaeaaDoor
