import Derived.Test.YtlidhdljgnijaaaDoorN02
import Derived.Test.YtlidhdljgnijaaaDoorN08
import Derived.Test.YtlidhdljgnijaaaDoorN03
import Derived.BigRegion
import Derived.ChangeKeysEq
import Derived.Great.Walk
import Derived.Laws.StructEq
import Derived.Laws.Rows
import Derived.Deep.MidRow
import Derived.Laws.CopyOwn
import Derived.Laws.MakeOwn
import Derived.Deep.RegionHeld3
import Derived.Test.YtlidhdljgnijaaaDoorN07
/-
  ARRAYS OF BYTES, AND ROWS: an array in a block, what is read of it and stored into it, whole and in parts; copy; worlds forgotten. Nothing of one layer (moved together from the texts of layers 2 and 3).
-/
set_option linter.unusedVariables false
namespace Go.Proofs.YtlidhdljgnijaaaDoor
open Go.RowKit

/-- block g is an array of bytes -/
def ArrB (w : World) (g : Nat) (t : TypeId) (l : List UInt8) : Prop := w.heap[g]? = some (.cells (l.map bv).toArray t (0, 0))

section
variable {w w' : World} {g : Nat} {t : TypeId} {l : List UInt8}
theorem ArrB.lt (h : ArrB w g t l) : g < w.heap.size := by
  unfold ArrB at h
  exact (Array.getElem?_eq_some_iff.1 h).1
theorem ArrB.cell (h : ArrB w g t l) {i : Nat} {x : UInt8} (hx : l[i]? = some x) : w.cell? ⟨g, i, none⟩ = some (.int .u8 (x.toNat : Int)) := by
  unfold ArrB at h
  rw [cell_of_row w g i _ t (0, 0) h]
  simp [hx, bv]
theorem ArrB.frozen (h : ArrB w g t l) (i : Nat) : w.frozen? ⟨g, i, none⟩ = false := by
  unfold ArrB at h
  exact frozen_of_row w g i _ t h
theorem ArrB.mk_ (w : World) (t : TypeId) (cs : Array Value) (l : List UInt8) {b : Nat} (hb : w.heap.size = b) (h : (l.map bv).toArray = cs) : ArrB (w.alloc (.cells cs t)) b t l := by
  subst hb h
  exact heap_alloc_new w _
theorem ArrB.of (h : ArrB w g t l) (e : w'.heap[g]? = w.heap[g]?) : ArrB w' g t l := by unfold ArrB at h ⊢; rw [e]; exact h
theorem ArrB.drew (h : ArrB w g t l) : ArrB w.drew g t l := h.of rfl
theorem ArrB.drewN (h : ArrB w g t l) (n : Nat) : ArrB (w.drewN n) g t l := h.of rfl
theorem ArrB.alloc (h : ArrB w g t l) (o : Obj) : ArrB (w.alloc o) g t l := h.of (heap_alloc_old w o h.lt)
theorem ArrB.below {B : Nat} (h : ArrB w g t l) (hb : Below B w w') (hg : g < B) : ArrB w' g t l := h.of (hb.block g hg)
theorem ArrB.set_ (h : ArrB w g t l) (i : Nat) (x : UInt8) : ArrB (w.setCell ⟨g, i, none⟩ (.int .u8 (x.toNat : Int))) g t (l.set i x) := by
  unfold ArrB at h ⊢
  simp only [World.setCell, Array.getElem?_modify, h, Option.map_some]
  rw [List.map_set]
  simp [bv]
theorem ArrB.row (h : ArrB w g t l) (l' : List UInt8) : ArrB (w.setRow g (l'.map bv).toArray) g t l' := by
  unfold ArrB at h ⊢
  exact setRow_heap w g _ _ t _ h
theorem ArrB.rowFar {g' : Nat} (h : ArrB w g t l) (hne : g ≠ g') (cs : Array Value) : ArrB (w.setRow g' cs) g t l := h.of (setRow_other w g' g cs hne)
theorem one_bvA (l : List UInt8) : ((l.map bv).toArray).all (·.oneCell') = true := by
  rw [Array.all_eq_true_iff_forall_mem]
  intro v hv
  obtain ⟨x, _, rfl⟩ := List.mem_map.1 (by simpa using hv)
  rfl
theorem ArrB.far (h : ArrB w g t l) {p : Addr} (hp : g ≠ p.block) (u : Value) : ArrB (w.setCell p u) g t l := h.of (Below.heap_setCell w p u g hp)
end

/-- an element of an array by value -/
theorem wpList_index_cell {P : Program} {ops : Array Oper} {rest : List Oper} {o : Oper} {a : Act} {w : World} {Q : Exit → Act → World → Prop} (hg : o.guard = none) (dst : Option Tmp) (hdst : o.dst = dst)
    (t : TypeId) (x ix : Operand) (ho : o.op = .index t x ix) (cs : Array Value) (hx : a.eval x = .agg cs) (j : Nat) (hi : a.eval ix = .int .i64 (j : Int)) (len : Nat) (e : TypeId)
    (hu : P.underlying t = some (.array len e)) (he : P.plainKey e = true) (i : TypeInfo) (hinfo : P.info? e = some i) (h1 : P.cellsOf e = 1) (v : Value) (hv : cs[j]? = some v) (hj : j < len)
    (h : wpList P ops Q rest (a.put dst v) w) : wpList P ops Q (o :: rest) a w := by
  refine Go.Great.wpList_readTo hg dst hdst v ?_ h
  simp only [execOp, ho, hx, hi]
  simp [Instr.index, run_underlying hu, asIntOf, hj, run_sizeOf w hinfo, h1, run_part_plain w he hv]

section
variable {P : Program} (w : World)
theorem eqItems_ints (d : Nat) {e : TypeId} {k : IntKind} (he : P.underlying e = some (.int k)) (f g : Nat → Int) (xs ys : Array Value) :
    ∀ is : List Nat, (∀ i ∈ is, xs[i]? = some (.int k (f i)) ∧ ys[i]? = some (.int k (g i))) → (Op.eqItems (d + 1) e 1 xs ys is).run P w = .ok (is.all fun i => f i == g i) w
  | [], _ => by simp [Op.eqItems]
  | i :: is, h => by
    obtain ⟨h1, h2⟩ := h i (by simp)
    have ih := eqItems_ints d he f g xs ys is (fun j hj => h j (by simp [hj]))
    have p1 : (part e xs (i * 1)).run P w = .ok (.int k (f i)) w := by simp [part, isAgg, run_underlying he, h1]
    have p2 : (part e ys (i * 1)).run P w = .ok (.int k (g i)) w := by simp [part, isAgg, run_underlying he, h2]
    simp only [Op.eqItems, Sem.run_bind, p1, p2, run_equalIn_int w d e k k _ _ he, Result.andThen_ok, List.all_cons]
    cases hb : (f i == g i)
    · simp
    · simp [ih]

theorem all_range {α : Type} [BEq α] [LawfulBEq α] (f : α → Int) (hf : ∀ x y, f x = f y → x = y) (z : α) (a b : List α) (n : Nat) (ha : a.length = n) (hb : b.length = n) :
    ((List.range n).all fun i => f (a.getD i z) == f (b.getD i z)) = (a == b) := by
  rw [Bool.eq_iff_iff, List.all_eq_true, beq_iff_eq]
  constructor
  · intro h
    apply List.ext_getElem (by omega)
    intro i h1 h2
    have := h i (by simp; omega)
    rw [beq_iff_eq, List.getD_eq_getElem?_getD, List.getD_eq_getElem?_getD, List.getElem?_eq_getElem h1, List.getElem?_eq_getElem h2] at this
    exact hf _ _ this
  · rintro rfl i _
    simp

theorem run_eqlRow (neg : Bool) {t e : TypeId} {k : IntKind} {n : Nat} (ht : P.underlying t = some (.array n e)) (he : P.underlying e = some (.int k)) {i : TypeInfo} (hi : P.info? e = some i) (hc : P.cellsOf e = 1)
    {α : Type} [BEq α] [LawfulBEq α] (c : α → Value) (f : α → Int) (hcf : ∀ x, c x = .int k (f x)) (hf : ∀ x y, f x = f y → x = y) (z : α) (a b : List α) (ha : a.length = n) (hb : b.length = n) :
    (Op.equalIn 10000 t (.agg (a.map c).toArray) (.agg (b.map c).toArray)).run P w = .ok (a == b) w := by
  rw [run_equalIn_array w 9999 _ _ ht hi, hc, eqItems_ints w 9998 he (fun i => f (a.getD i z)) (fun i => f (b.getD i z)) _ _ _ (fun i hi => ?_), all_range f hf z a b n ha hb]
  have hin : i < n := by simpa using hi
  have h1 : a[i]? = some a[i] := List.getElem?_eq_getElem (by omega)
  have h2 : b[i]? = some b[i] := List.getElem?_eq_getElem (by omega)
  simp [List.getD_eq_getElem?_getD, h1, h2, hcf]
end

theorem wpList_load_midG {P : Program} {ops : Array Oper} {rest : List Oper} {op : Oper} {a : Act} {w : World} {Q : Exit → Act → World → Prop} (hgd : Region.wanted op (yielded ops a.tmps) = true) (ty : TypeId) (x : Operand) (ho : op.op = .load ty x)
    (b o : Nat) (hx : a.eval x = .pointer (some ⟨b, o, none⟩)) (cs : List Value) (d : TypeDesc) (hc : w.rangeAt b o cs)
    (hu : P.underlying ty = some d) (hd : d.isRow = true) (hi : (P.info? ty).map (·.size) = some cs.length)
    (h : wpList P ops Q rest (a.put op.dst (.agg cs.toArray)) w) : wpList P ops Q (op :: rest) a w := by
  refine wpList_step fun _ hK => ?_
  rw [if_pos hgd]
  exact wp_load_mid ty x ho b o hx cs d hc hu hd hi (hK _ _ h)

theorem bv_inj (x y : UInt8) (h : (x.toNat : Int) = (y.toNat : Int)) : x = y := UInt8.toNat_inj.1 (by omega)
theorem byteCells : Tryd.prog.cellsOf 5 = 1 := by kernel_rfl
theorem byte_info : ∃ i, Tryd.prog.info? 5 = some i := by
  have h : (Tryd.prog.info? 5).isSome = true := by kernel_rfl
  exact Option.isSome_iff_exists.1 h

theorem setRow_same (w : World) (g : Nat) (cs : Array Value) (t : TypeId) (fr : Nat × Nat) (hg : w.heap[g]? = some (.cells cs t fr)) : w.setRow g cs = w := by
  unfold World.setRow
  have : w.heap.modify g (fun | .cells _ elem frozen => .cells cs elem frozen | o => o) = w.heap := by
    apply Array.ext_getElem?
    intro i
    rw [Array.getElem?_modify]
    by_cases h : g = i
    · subst h; simp [hg]
    · simp [h]
  exact congrArg (fun h => ({ w with heap := h } : World)) this

/-- copy into a row that is known whole: one law for all sources, the world behind it written out -/
theorem wpList_copy_row {P : Program} {w : World} {ops : Array Oper} {rest : List Oper} {o : Oper} {a : Act} {Q : Exit → Act → World → Prop} (hgd : o.guard = none) (d s : Operand) (dT sT : TypeId)
    (ho : o.op = .call { callee := .builtin .copy, args := #[d, s], argTypes := #[dT, sT] }) (elem : TypeId) (hu : P.underlying dT = some (.slice elem)) (hsz : (P.info? elem).map (·.size) = some 1)
    (dp sp : Option Addr) (dLen dCap sLen sCap : Nat) (hd : a.eval d = .slice dp dLen dCap) (hs : a.eval s = .slice sp sLen sCap)
    (g off : Nat) (cur : List Value) (t : TypeId) (hg : w.heap[g]? = some (.cells cur.toArray t (0, 0))) (cs : List Value) (hn : cs.length = Nat.min sLen dLen)
    (hpos : 0 < cs.length → dp = some ⟨g, off, none⟩ ∧ ∃ ad, sp = some ad ∧ ∀ j v, cs[j]? = some v → w.cell? (ad.add j) = some v)
    (hfit : off + cs.length ≤ cur.length) (h1 : ∀ v ∈ cs, v.oneCell' = true)
    (h : wpList P ops Q rest (a.put o.dst (goInt cs.length)) (w.setRow g (splice cur off cs).toArray)) :
    wpList P ops Q (o :: rest) a w := by
  by_cases h0 : cs.length = 0
  · obtain rfl : cs = [] := List.eq_nil_of_length_eq_zero h0
    refine wpList_copy_nothing hgd d s dT sT ho elem hu hsz dp sp dLen dCap sLen sCap hd hs (by simpa using hn.symm) ?_
    have e : w.setRow g (splice cur off []).toArray = w := by
      have : splice cur off ([] : List Value) = cur := by simp [splice]
      rw [this]
      exact setRow_same w g _ t _ hg
    rw [e] at h
    exact h
  · obtain ⟨rfl, ad, rfl, hsrc⟩ := hpos (by omega)
    refine wpList_copy_own hgd d s dT sT ho elem hu hsz g off dLen dCap ad sLen sCap hd hs cur.toArray t hg cs hn hsrc (by simpa using hfit) h1 ?_
    have e : (cur.toArray.toList.take off ++ (cs ++ cur.toArray.toList.drop (off + cs.length))).toArray = (splice cur off cs).toArray := by simp [splice]
    rw [e]
    exact h

theorem byteSize : (Tryd.prog.info? 5).map (·.size) = some 1 := by kernel_rfl

theorem make_bytes (m : Nat) (w : World) (k : IntKind) (x : Int) (hx : x = (m : Int)) (hm : m ≤ 1099511627776) :
    ∃ w1, (Instr.makeSlice 41 (.int k x) (.int k x)).run Tryd.prog w = .ok (.slice (some ⟨w.heap.size, 0, none⟩) m m) w1 ∧ ArrB w1 w.heap.size 5 (List.replicate m 0) ∧ Below w.heap.size w w1 := by
  subst hx
  obtain ⟨i0, hi0, hz0, hz1, hz2⟩ := info_parts byteInfo
  have h := run_make (P := Tryd.prog) w 41 5 i0 _ Tryd.underlying41 hi0 hz0 k k (m : Int) (m : Int) (by omega) (Int.le_refl _) (by rw [hz2]; omega) (by omega)
  rw [hz1, Int.toNat_natCast] at h
  refine ⟨_, h, ?_, (Below.refl _ _).alloc (Nat.le_refl _) _⟩
  refine ArrB.mk_ _ _ _ _ rfl ?_
  apply Array.ext_getElem?
  intro i
  by_cases hi : i < m
  · simp [madeCells, Value.cells, hi, bv, Nat.mod_one]
  · simp [madeCells, Value.cells, hi]

theorem ArrB.at_ {w : World} {g : Nat} {t : TypeId} {l : List UInt8} (h : ArrB w g t l) : w.heap[g]? = some (.cells (l.map bv).toArray t (0, 0)) := h

theorem own_arr {w : World} {base g : Nat} {l : List UInt8} {n : Nat} (h : ArrB w g 5 l) (hb : base ≤ g) (hl : l.length = n) (hm : n ≤ maxLen) : w.ownsRow base 5 1 (.slice (some ⟨g, 0, none⟩) n n) n (l.map bv) := by
  subst hl
  exact ⟨by simp, .inr ⟨g, l.length, (l.map bv).toArray, rfl, hb, h, Nat.le_refl _, hm, by simp, by rw [Nat.mul_one]; exact List.take_of_length_le (by simp)⟩⟩

theorem splice_in {α : Type} (L M : List α) (cs : List α) (h : cs.length ≤ M.length) : splice (L ++ M) L.length cs = (L ++ cs) ++ M.drop cs.length := by
  unfold splice
  rw [List.take_left, ← List.drop_drop, List.drop_left, List.append_assoc]

theorem splice_bytes (l : List UInt8) (off : Nat) (cs : List UInt8) : splice (l.map bv) off (cs.map bv) = (splice l off cs).map bv := by
  simp [splice]

theorem splice_set {α : Type} (cs : List α) (o : Nat) (v : α) (r : List α) (hl : o + (r.length + 1) ≤ cs.length) : splice (cs.set o v) (o + 1) r = splice cs o (v :: r) := by
  have e : cs.set o v = (cs.take o ++ [v]) ++ cs.drop (o + 1) := by
    rw [List.set_eq_take_append_cons_drop, if_pos (by omega)]; simp
  have hlen : (cs.take o ++ [v]).length = o + 1 := by simp; omega
  rw [e, ← hlen, splice_in _ _ _ (by simp; omega)]
  unfold splice
  rw [List.drop_drop]
  simp
  omega

theorem setCells_heap (g : Nat) (t : TypeId) : ∀ (vs cs : List Value) (o : Nat) (w : World), w.heap[g]? = some (.cells cs.toArray t (0, 0)) → o + vs.length ≤ cs.length →
    (w.setCells g o vs).heap[g]? = some (.cells (splice cs o vs).toArray t (0, 0))
  | [], cs, o, w, hg, _ => by
    rw [World.setCells, hg]; simp [splice]
  | v :: r, cs, o, w, hg, hl => by
    simp only [List.length_cons] at hl
    have h1 : (w.setCell ⟨g, o, none⟩ v).heap[g]? = some (.cells (cs.set o v).toArray t (0, 0)) := by
      simp only [World.setCell, Array.getElem?_modify, hg, Option.map_some]
      simp
    rw [World.setCells, setCells_heap g t r (cs.set o v) (o + 1) _ h1 (by rw [List.length_set]; omega)]
    rw [splice_set cs o v r hl]
theorem setCells_far (g g' : Nat) (hne : g' ≠ g) : ∀ (vs : List Value) (o : Nat) (w : World), (w.setCells g o vs).heap[g']? = w.heap[g']?
  | [], _, _ => rfl
  | v :: r, o, w => by
    rw [World.setCells, setCells_far g g' hne r]
    exact Below.heap_setCell w _ v g' hne
theorem below_setCells {B g : Nat} {a : World} (hg : B ≤ g) : ∀ (vs : List Value) (o : Nat) (w : World), Below B a w → Below B a (w.setCells g o vs)
  | [], _, _, h => h
  | v :: r, o, w, h => below_setCells hg r (o + 1) _ (h.setCell hg v)

theorem own_far {w w' : World} {base : Nat} {e : TypeId} {size : Nat} {v : Value} {n : Nat} {xs : List Value} (h : w.ownsRow base e size v n xs) (hs : w.heap.size ≤ w'.heap.size) (hb : ∀ g, v.ownBlock = some g → w'.heap[g]? = w.heap[g]?) : w'.ownsRow base e size v n xs := by
  refine ⟨h.1, ?_⟩
  rcases h.2 with h0 | ⟨g, cap, cur, hv, h1, h2, h3⟩
  · exact .inl h0
  · exact .inr ⟨g, cap, cur, hv, h1, (hb g (by rw [hv]; rfl)).trans h2, h3⟩

theorem wp_gen {P : Program} {c : Code} {Q : Exit → Act → World → Prop} {a : Act} {w0 : World} (R : World → Prop) (h0 : R w0) (h : ∀ w1, R w1 → Code.wp P c Q a w1) : Code.wp P c Q a w0 := h w0 h0
theorem Rd.src {w : World} {B : Nat} {A : Option Addr} {n : Nat} {xs : List Value} (h : Rd w B A n xs) (hp : 0 < xs.length) : ∃ ad, A = some ad ∧ ∀ j v, xs[j]? = some v → w.cell? (ad.add j) = some v := by
  obtain ⟨b, o, e, _, hc⟩ := h.pos (by rw [← h.len]; exact hp)
  exact ⟨_, e, fun j v hv => by rw [Addr.add_lit]; exact hc j v hv⟩

theorem own_base {w : World} {B base : Nat} {e : TypeId} {size : Nat} {v : Value} {n : Nat} {xs : List Value} (h : w.ownsRow B e size v n xs) (hb : base ≤ B) : w.ownsRow base e size v n xs := by
  refine ⟨h.1, ?_⟩
  rcases h.2 with h0 | ⟨g, cap, cur, hv, h1, h2⟩
  · exact .inl h0
  · exact .inr ⟨g, cap, cur, hv, Nat.le_trans hb h1, h2⟩

theorem c_refl (w : World) : Below w.heap.size w w := Below.refl _ _
theorem c_drew {a w : World} (h : Below a.heap.size a w) : Below a.heap.size a w.drew := h.drew
theorem c_call {a w w' : World} (h : Below a.heap.size a w) (hb : Below w.heap.size w w') : Below a.heap.size a w' := h.trans (hb.mono h.size)
theorem d_al (w : World) (o : Obj) : Below w.heap.size w (w.alloc o) := (Below.refl _ _).alloc (Nat.le_refl _) o

/-- an array stored whole by its cells -/
theorem ArrB.stored {w : World} {g : Nat} {t : TypeId} {l l' : List UInt8} (h : ArrB w g t l) (hl : l'.length = l.length) : ArrB (w.setCells g 0 (l'.map bv)) g t l' := by
  have hh := setCells_heap g t (l'.map bv) (l.map bv) 0 w h (by simp [hl])
  rw [splice_bytes] at hh
  have e : splice l 0 l' = l' := by simp [splice, hl]
  rw [e] at hh
  exact hh
theorem ArrB.there {w : World} {g : Nat} {t : TypeId} {l : List UInt8} {n : Nat} (h : ArrB w g t l) (hn : l.length = n) : w.there g 0 n := fun j hj => by
  rw [Nat.zero_add]
  exact ⟨by rw [h.cell (List.getElem?_eq_getElem (show j < l.length by omega))]; rfl, h.frozen j⟩
theorem ArrB.range {w : World} {g : Nat} {t : TypeId} {l : List UInt8} (h : ArrB w g t l) : w.rangeAt g 0 (l.map bv) := fun j v hv => by
  rw [List.getElem?_map] at hv
  obtain ⟨z, hz, rfl⟩ := Option.map_eq_some_iff.1 hv
  rw [Nat.zero_add]
  exact h.cell hz

/-- block g is an array of n bytes, whichever -/
def SomeB (w : World) (g : Nat) (t : TypeId) (n : Nat) : Prop := ∃ l : List UInt8, l.length = n ∧ ArrB w g t l
theorem ArrB.some {w : World} {g : Nat} {t : TypeId} {l : List UInt8} {n : Nat} (h : ArrB w g t l) (hn : l.length = n) : SomeB w g t n := ⟨l, hn, h⟩

end Go.Proofs.YtlidhdljgnijaaaDoor

/-
  CONTRACT of the document's first (coterieref10).
-/
set_option linter.unusedVariables false
namespace Go.Proofs.YtlidhdljgnijaaaDoor
open Go.RowKit

end Go.Proofs.YtlidhdljgnijaaaDoor

/-
  A BOX OUT OF SIGHT: what reads in a world one of whose boxes is empty lies in other blocks; a store into that box leaves it.
-/
set_option linter.unusedVariables false
namespace Go.Proofs.YtlidhdljgnijaaaDoor
open Go.RowKit

/-- the world without what one box holds -/
def hid1 (w : World) (g : Nat) : World := w.setRow g #[]
/-- these are blocks of cells -/
def Cells (gs : List Nat) (w : World) : Prop := ∀ g ∈ gs, ∃ t cs, RowC w g t cs
theorem Cells.hid {gs : List Nat} {w : World} (h : Cells gs w) (g : Nat) : Cells gs (hid1 w g) := by
  intro k hk
  obtain ⟨t, cs, hr⟩ := h k hk
  by_cases e : k = g
  · subst e
    exact ⟨t, #[], setRow_heap w k cs #[] t (0, 0) hr⟩
  · exact ⟨t, cs, hr.rowFar e #[]⟩
theorem Cells.below {gs : List Nat} {w w' : World} (h : Cells gs w) (hb : Below w.heap.size w w') : Cells gs w' := fun g hg => by
  obtain ⟨t, cs, hr⟩ := h g hg
  exact ⟨t, cs, hr.call hb⟩
theorem Cells.lt {gs : List Nat} {w : World} (h : Cells gs w) : ∀ g ∈ gs, g < w.heap.size := fun g hg => by
  obtain ⟨t, cs, hr⟩ := h g hg
  exact hr.lt
theorem Cells.own {gs : List Nat} {w : World} (h : Cells gs w) {base : Nat} {e : TypeId} {size : Nat} {v : Value} {n : Nat} {xs : List Value} (ho : w.ownsRow base e size v n xs) : Cells (v.ownBlock.toList ++ gs) w := by
  intro g hg
  rcases List.mem_append.1 hg with hg | hg
  · rcases ho.2 with ⟨h1, _⟩ | ⟨k, cap, cur, h1, h2, h3, _⟩
    · subst h1; simp [Value.ownBlock] at hg
    · subst h1
      have : k = g := by simpa [Value.ownBlock, eq_comm] using hg
      subst this
      exact ⟨e, cur, h3⟩
  · exact h g hg

end Go.Proofs.YtlidhdljgnijaaaDoor

/-
  CONTRACT of the document's Of (coterieref10).
-/
set_option linter.unusedVariables false
namespace Go.Proofs.YtlidhdljgnijaaaDoor
open Go.RowKit

def levI (lv : List (List Nat)) : List (List Int) := lv.map (fun l => l.map (fun n : Nat => (n : Int)))
theorem shapeInfo2 : (Tryd.prog.info? 25).map (·.size) = some 2 := by kernel_rfl
theorem listInfo : (Tryd.prog.info? 22).map (fun i => (i.zero, i.size, i.bytes)) = some (some (.slice none 0 0), 1, 24) := by kernel_rfl
theorem Lvs.cons {w : World} {B : Nat} {vs : List Value} {ll : List (List Int)} {A : Option Addr} {c : Nat} {l : List Int} (h : Lvs w B vs ll) (hc : l.length ≤ c) (hm : c ≤ maxLen) (hr : Rd w B A l.length (l.map iv)) : Lvs w B (.slice A l.length c :: vs) (l :: ll) := by
  refine ⟨by rw [List.length_cons, List.length_cons, h.1], fun i v l' hv hl => ?_⟩
  cases i with
  | zero =>
    simp only [List.getElem?_cons_zero, Option.some.injEq] at hv hl
    subst hv hl
    exact ⟨A, c, rfl, hc, hm, hr⟩
  | succ i => exact h.2 i v l' (by simpa using hv) (by simpa using hl)
/-- an address that no block below lo has; slices of such -/
def NewA (lo : Nat) (A : Option Addr) : Prop := ∀ ad, A = some ad → lo ≤ ad.block
def NewVs (lo : Nat) (vs : List Value) : Prop := ∀ v ∈ vs, ∀ A n c, v = .slice A n c → NewA lo A
theorem NewA.none (lo : Nat) : NewA lo none := fun ad h => by cases h
theorem NewA.of_own {w : World} {base lo : Nat} {e : TypeId} {size : Nat} {A : Option Addr} {n c : Nat} {xs : List Value} (h : w.ownsRow base e size (.slice A n c) n xs) (hl : lo ≤ base) : NewA lo A := by
  intro ad had
  subst had
  have := own_blockT h ad.block rfl
  omega
theorem NewA.mono {lo lo' : Nat} {A : Option Addr} (h : NewA lo A) (hl : lo' ≤ lo) : NewA lo' A := fun ad had => Nat.le_trans hl (h ad had)
theorem NewVs.nil (lo : Nat) : NewVs lo [] := fun v h => by cases h
theorem NewVs.cons {lo : Nat} {A : Option Addr} {n c : Nat} {vs : List Value} (h : NewA lo A) (hv : NewVs lo vs) : NewVs lo (.slice A n c :: vs) := fun v hm A' n' c' e => by
  rcases List.mem_cons.1 hm with rfl | hm
  · injection e with e1
    subst e1
    exact h
  · exact hv v hm A' n' c' e
/-- a tree's cells, all in blocks from lo on -/
structure ShN (lo : Nat) (w : World) (B : Nat) (Ai : Option Addr) (ni ci : Nat) (Al : Option Addr) (nl cl : Nat) (ids : List Int) (ll : List (List Int)) : Prop where
  sh : ShR w B Ai ni ci Al nl cl ids ll
  hi : NewA lo Ai
  hl : NewA lo Al
  hv : ∃ vs, Rd w B Al nl vs ∧ Lvs w B vs ll ∧ NewVs lo vs
theorem ShN.keep {lo : Nat} {w w' : World} {B B' : Nat} {Ai : Option Addr} {ni ci : Nat} {Al : Option Addr} {nl cl : Nat} {ids : List Int} {ll : List (List Int)} (h : ShN lo w B Ai ni ci Al nl cl ids ll)
    (hk : ∀ (A : Option Addr) (n : Nat) (xs : List Value), NewA lo A → Rd w B A n xs → Rd w' B' A n xs) : ShN lo w' B' Ai ni ci Al nl cl ids ll := by
  obtain ⟨vs, h1, h2, h3⟩ := h.hv
  have hl2 : Lvs w' B' vs ll := ⟨h2.1, fun i v l hv hl => by
    obtain ⟨A, c, e, hc, hm, hr⟩ := h2.2 i v l hv hl
    exact ⟨A, c, e, hc, hm, hk _ _ _ (h3 v (List.mem_of_getElem? hv) A _ _ e) hr⟩⟩
  exact ⟨⟨h.sh.hni, h.sh.hnl, h.sh.hci, h.sh.hcl, h.sh.hmi, h.sh.hml, hk _ _ _ h.hi h.sh.hids, vs, hk _ _ _ h.hl h1, hl2⟩, h.hi, h.hl, vs, hk _ _ _ h.hl h1, hl2, h3⟩
theorem ShN.below {lo : Nat} {w w' : World} {B : Nat} {Ai : Option Addr} {ni ci : Nat} {Al : Option Addr} {nl cl : Nat} {ids : List Int} {ll : List (List Int)} (h : ShN lo w B Ai ni ci Al nl cl ids ll) (hb : Below B w w') : ShN lo w' B Ai ni ci Al nl cl ids ll := h.keep fun _ _ _ _ hr => hr.below hb
theorem ShN.more {lo : Nat} {w : World} {B B' : Nat} {Ai : Option Addr} {ni ci : Nat} {Al : Option Addr} {nl cl : Nat} {ids : List Int} {ll : List (List Int)} (h : ShN lo w B Ai ni ci Al nl cl ids ll) (hb : B ≤ B') : ShN lo w B' Ai ni ci Al nl cl ids ll := h.keep fun _ _ _ _ hr => hr.more hb
theorem ShN.call {lo : Nat} {w w' : World} {Ai : Option Addr} {ni ci : Nat} {Al : Option Addr} {nl cl : Nat} {ids : List Int} {ll : List (List Int)} (h : ShN lo w w.heap.size Ai ni ci Al nl cl ids ll) (hb : Below w.heap.size w w') : ShN lo w' w'.heap.size Ai ni ci Al nl cl ids ll := (h.below hb).more hb.size
theorem Rd.setRowN {w : World} {g lo : Nat} (hg : g < lo) (cs : Array Value) {B n : Nat} {A : Option Addr} {xs : List Value} (h : Rd w B A n xs) (hn : NewA lo A) : Rd (w.setRow g cs) B A n xs := by
  refine ⟨h.len, fun h0 => ?_⟩
  obtain ⟨b, o, h1, h2, h3⟩ := h.pos h0
  refine ⟨b, o, h1, h2, fun j u hu => ?_⟩
  rw [← h3 j u hu]
  exact cell_setRow_other w g cs ⟨b, o + j, Option.none⟩ (show b ≠ g from fun e => by
    have := hn _ h1
    have h4 : lo ≤ b := this
    omega)
/-- a tree in later blocks stays where an earlier box is written -/
theorem ShN.box {lo : Nat} {w : World} {g : Nat} (hg : g < lo) (cs : Array Value) {B : Nat} {Ai : Option Addr} {ni ci : Nat} {Al : Option Addr} {nl cl : Nat} {ids : List Int} {ll : List (List Int)} (h : ShN lo w B Ai ni ci Al nl cl ids ll) : ShN lo (w.setRow g cs) B Ai ni ci Al nl cl ids ll := h.keep fun _ _ _ hn hr => hr.setRowN hg cs hn
theorem ShN.mono {lo lo' : Nat} (hl : lo' ≤ lo) {w : World} {B : Nat} {Ai : Option Addr} {ni ci : Nat} {Al : Option Addr} {nl cl : Nat} {ids : List Int} {ll : List (List Int)} (h : ShN lo w B Ai ni ci Al nl cl ids ll) : ShN lo' w B Ai ni ci Al nl cl ids ll := by
  obtain ⟨vs, h1, h2, h3⟩ := h.hv
  exact ⟨h.sh, h.hi.mono hl, h.hl.mono hl, vs, h1, h2, fun v hv A n c e => (h3 v hv A n c e).mono hl⟩
theorem ShN.nil (lo : Nat) (w : World) (B : Nat) : ShN lo w B Option.none 0 0 Option.none 0 0 [] [] :=
  ⟨⟨rfl, rfl, Nat.le_refl _, Nat.le_refl _, by simp [maxLen], by simp [maxLen], Rd.zero _ _ _, [], Rd.zero _ _ _, Lvs.nil _ _⟩, NewA.none _, NewA.none _, [], Rd.zero _ _ _, Lvs.nil _ _, NewVs.nil _⟩

end Go.Proofs.YtlidhdljgnijaaaDoor

