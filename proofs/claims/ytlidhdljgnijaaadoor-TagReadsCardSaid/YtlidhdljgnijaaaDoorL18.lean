import Derived.Test.YtlidhdljgnijaaaDoorL17
import Derived.Test.YtlidhdljgnijaaaDoorL09
import Derived.ChangeKeysEq
import Derived.Great.Walk
import Derived.Laws.StructEq
import Derived.Laws.Rows
import Derived.Deep.MidRow
import Derived.Test.YtlidhdljgnijaaaDoorL04
import Derived.Test.YtlidhdljgnijaaaDoorL11
import Derived.Laws.Tables
import Derived.Maps.AppendAt
/-
  CONTRACT of the document's Bytes (coterieref02): words' bytes.
-/
set_option linter.unusedVariables false
namespace Go.Proofs.YtlidhdljgnijaaaDoor
open Go.RowKit

/-- the bytes of words -/
def bytesU (h : List UInt32) : List UInt8 := (h.map fun x => be 4 x.toNat).flatten
theorem bytesU_len (h : List UInt32) : (bytesU h).length = 4 * h.length := by
  induction h with
  | nil => rfl
  | cons x h ih => simp only [bytesU, List.map_cons, List.flatten_cons, List.length_append, be_length, List.length_cons] at ih ⊢; omega
theorem bytesU_at : ∀ (h : List UInt32) (i n : Nat) (x : UInt32), h[i]? = some x → n < 4 → (bytesU h)[4 * i + n]? = (be 4 x.toNat)[n]?
  | [], i, n, x, hx, _ => by simp at hx
  | y :: h, 0, n, x, hx, hn => by
    simp at hx; subst hx
    simp only [bytesU, List.map_cons, List.flatten_cons]
    rw [List.getElem?_append_left (by rw [be_length]; omega), show 4 * 0 + n = n from by omega]
  | y :: h, i + 1, n, x, hx, hn => by
    simp only [bytesU, List.map_cons, List.flatten_cons]
    rw [List.getElem?_append_right (by rw [be_length]; omega), be_length, show 4 * (i + 1) + n - 4 = 4 * i + n from by omega]
    exact bytesU_at h i n x (by simpa using hx) hn

/-- the first p of 32 bytes, zeros behind -/
def outAt (b : List UInt8) (p : Nat) : List UInt8 := b.take p ++ List.replicate (32 - p) 0
theorem outAt_succ {b : List UInt8} {p : Nat} {x : UInt8} (hp : p < 32) (hx : b[p]? = some x) : outAt b (p + 1) = (outAt b p).set p x := by
  have hl : p < b.length := (List.getElem?_eq_some_iff.1 hx).1
  unfold outAt
  rw [List.set_append_right _ _ (by simp; omega), take_succ_of hx, List.append_assoc]
  congr 1
  rw [show p - (b.take p).length = 0 from by simp; omega, show 32 - p = (32 - (p + 1)) + 1 from by omega, List.replicate_succ, List.set_cons_zero]
  rfl
theorem outAt_len {b : List UInt8} (hb : b.length = 32) {p : Nat} (hp : p ≤ 32) : (outAt b p).length = 32 := by simp [outAt]; omega
theorem outAt_all {b : List UInt8} (hb : b.length = 32) : outAt b 32 = b := by simp [outAt, List.take_of_length_le (Nat.le_of_eq hb)]
theorem outAt_zero (b : List UInt8) : outAt b 0 = List.replicate 32 0 := by simp [outAt]
theorem outAt_cell {b : List UInt8} {p : Nat} (hb : b.length = 32) (hp : p < 32) : (outAt b p)[p]? = some 0 := by
  rw [outAt, List.getElem?_append_right (by simp; omega), show p - (b.take p).length = 0 from by simp; omega]
  rw [List.getElem?_replicate, if_pos (by omega)]

theorem word_plain : Tryd.prog.plainKey 93 = true := by kernel_rfl
theorem word_cells : Tryd.prog.cellsOf 93 = 1 := by kernel_rfl
set_option maxRecDepth 1000000 in
theorem word_info : ∃ i, Tryd.prog.info? 93 = some i := ⟨_, rfl⟩
theorem info32 : (Tryd.prog.info? 36).map (·.size) = some 32 := by kernel_rfl

set_option maxRecDepth 1000000 in
set_option maxHeartbeats 800000 in
theorem ShaBytes_any (h : List UInt32) (w : World) (hh : h.length = 8) :
    Calls Tryd.prog 67 #[.agg (h.map wv).toArray] w fun e w' => e = .returned (.agg ((bytesU h).map bv).toArray) ∧ Below w.heap.size w w' := by
  have hi8 : (Tryd.prog.info? 94).map (·.size) = some ((h.map wv).toArray).size := by rw [info8]; simp [hh]
  have Hi8 := Lib.hid hi8
  have Hh := Lib.hid hh
  have Hbl := Lib.hid (show (bytesU h).length = 32 by rw [bytesU_len, hh])
  clear hi8 hh
  go_enter Tryd.func67, Tryd.ntmps67
  go_wp2_with ((with_reducible show wpList _ _ _ (⟨some 8, _, _, _, _, _⟩ :: _) _ _); refine wpList_load_row rfl 94 (.tmp 1) rfl w.heap.size rfl 94 (h.map wv).toArray (0, 0) _ (((ArrW.mk_ w _ _ h rfl rfl).alloc _).alloc _) Tryd.underlying94 rfl Hi8.out ?_)
  go_loopw [9] (fun i wr => ∃ j : Nat, j ≤ 8 ∧ i = .int .i64 (j : Int) ∧ ArrB wr (w.heap.size + 1 + 1) 36 (outAt (bytesU h) (4 * j)) ∧ ArrB wr (w.heap.size + 1) 36 (List.replicate 32 0) ∧ Below w.heap.size w wr) (fun i _ => (8 - intOf i).toNat)
  case atStart =>
    refine ⟨0, by omega, rfl, ?_, ?_, (((Below.refl _ _).alloc (Nat.le_refl _) _).alloc (al0 _ _) _).alloc (by simp; omega) _⟩
    · rw [outAt_zero]
      exact ArrB.mk_ _ _ _ _ (by simp) rfl
    · exact (ArrB.mk_ _ _ _ (List.replicate 32 0) (by simp) rfl).alloc _
  case round =>
    obtain ⟨j, hj, rfl, g3, g2, hbel⟩ := hrel
    have hsz := hbel.size
    have hs3 := g3.lt
    by_cases hlt : j < 8
    · obtain ⟨x, hx⟩ : ∃ x, h[j]? = some x := ⟨_, List.getElem?_eq_getElem (by have := Hh.out; omega)⟩
      have Hx := Lib.hid hx
      have j0 : 0 ≤ (j : Int) := by omega
      have j1 : (j : Int) < 8 := by omega
      have hlx := u32_lt x
      have hix : ((h.map wv).toArray)[j]? = some (.int .u32 (x.toNat : Int)) := by simp [hx, wv]
      clear hx
      obtain ⟨iw, hiw⟩ := word_info
      go_wp2_with (first
        | ((with_reducible show wpList _ _ _ (⟨some 12, _, _, _, _, _⟩ :: _) _ _); refine wpList_index_cell rfl (some 12) rfl 94 (.tmp 8) (.tmp 9) rfl (h.map wv).toArray rfl j rfl 8 93 Tryd.underlying94 word_plain iw hiw word_cells _ hix hlt ?_)
        | (go_at_call 30; refine (Bytes_any 4 x.toNat _ (by omega) (by omega)).mono ?_; rintro e w4 ⟨A4, c4, rfl, hown4, hb4⟩))
      obtain ⟨g, cap, hv4, _, hgl⟩ := hown4.form (by omega)
      have hA : A4 = some ⟨g, 0, none⟩ := by injection hv4
      subst hA
      have hgs : wr.heap.size ≤ g := (hown4.lt g rfl).1
      have hcs : ∀ (q : Nat) (y : UInt8), (be 4 x.toNat)[q]? = some y → w4.cell? ⟨g, q, none⟩ = some (.int .u8 (y.toNat : Int)) := fun q y hy => by
        have := hown4.cells (g := g) rfl q (bv y) (by simp [hy])
        rwa [Addr.add_lit, Nat.zero_add] at this
      have k3 := g3.below hb4 hs3
      have k2 := g2.below hb4 (by omega)
      have hbel4 := hbel.trans (hb4.mono hsz)
      go_loopw [17] (fun i wr => ∃ q : Nat, q ≤ 4 ∧ i = .int .i64 (q : Int) ∧ ArrB wr (w.heap.size + 1 + 1) 36 (outAt (bytesU h) (4 * j + q)) ∧ ArrB wr (w.heap.size + 1) 36 (List.replicate 32 0) ∧ Below w.heap.size w wr ∧ (∀ (q : Nat) (y : UInt8), (be 4 x.toNat)[q]? = some y → wr.cell? ⟨g, q, none⟩ = some (.int .u8 (y.toNat : Int)))) (fun i _ => (4 - intOf i).toNat)
      case atStart => exact ⟨0, by omega, rfl, k3, k2, hbel4, hcs⟩
      case round =>
        obtain ⟨q, hq, rfl, m3, m2, hbelq, hcq⟩ := hrel
        by_cases hlq : q < 4
        · obtain ⟨y, hy⟩ : ∃ y, (be 4 x.toNat)[q]? = some y := ⟨_, List.getElem?_eq_getElem (by rw [be_length]; omega)⟩
          have cy := hcq q y hy
          have Hset := Lib.hid (outAt_succ (p := 4 * j + q) (by omega) ((bytesU_at h j q x Hx.out hlq).trans hy))
          have fz := m3.frozen (4 * j + q)
          have cz := m3.cell (outAt_cell Hbl.out (show 4 * j + q < 32 by omega))
          have q0 : 0 ≤ (q : Int) := by omega
          have q1 : (q : Int) < 4 := by omega
          clear hy
          go_wp2_with fail
          refine ⟨⟨q + 1, by omega, by go_num, ?_, ?_, ?_, ?_⟩, by simp [intOf]; omega⟩
          · rw [show 4 * j + (q + 1) = 4 * j + q + 1 from rfl, Hset.out]
            exact m3.set_ (4 * j + q) y
          · exact m2.far (by simp) _
          · exact hbelq.setCell (by simp; omega) _
          · intro q2 y2 hy2
            rw [World.cell?_setCell_other _ _ _ _ (by intro e; injection e; omega)]
            exact hcq q2 y2 hy2
        · obtain rfl : q = 4 := by omega
          rw [show ((4 : Nat) : Int) = 4 from rfl]
          go_wp2_with fail
          exact ⟨⟨j + 1, by omega, by go_num, m3, m2, hbelq⟩, by simp [intOf]; omega⟩
    · obtain rfl : j = 8 := by omega
      rw [show ((8 : Nat) : Int) = 8 from rfl]
      rw [show 4 * 8 = 32 from rfl, outAt_all Hbl.out] at g3
      have hf : (Tryd.prog.info? 36).map (·.size) = some (((bytesU h).map bv).toArray).size := by rw [info32]; simp [Hbl.out]
      have hz : ((List.replicate 32 (0 : UInt8)).map bv).toArray.size = (((bytesU h).map bv).toArray).size := by simp [Hbl.out]
      have Hf := Lib.hid hf
      have Hz := Lib.hid hz
      clear hf hz
      generalize hgb : bytesU h = b at *
      have Hgb := Lib.hid hgb
      clear hgb
      go_wp2_with (first
        | ((with_reducible show wpList _ _ _ (⟨some 30, _, _, _, _, _⟩ :: _) _ _); refine wpList_load_row rfl 36 (.tmp 3) rfl (w.heap.size + 1 + 1) rfl 36 (b.map bv).toArray (0, 0) _ g3 Tryd.underlying36 rfl Hf.out ?_)
        | ((with_reducible show wpList _ _ _ (⟨none, Op.store 36 _ _, _, _, _, _⟩ :: _) _ _); refine wpList_store_row rfl 36 (.tmp 2) (.tmp 30) rfl (w.heap.size + 1) (b.map bv).toArray rfl rfl 36 _ g2 Hf.out Hz.out (one_bvA _) ?_))
      exact bodyPost_ret (results_cell_row rfl _ _ (w.heap.size + 1) 36 _ (0, 0) _ rfl (g2.row b) Tryd.underlying36 rfl Hf.out) rfl ⟨by rw [Hgb.out], below_setRow hbel (by omega) _⟩

end Go.Proofs.YtlidhdljgnijaaaDoor

/-
  ARRAYS OF NUMBERS, COMPARED BY VALUE: what '==' and '!=' of two arrays of words, or of bytes, come to.
-/
set_option linter.unusedVariables false
namespace Go.Proofs.YtlidhdljgnijaaaDoor
open Go.RowKit

theorem eql_words (w : World) (a b : List UInt32) (ha : a.length = 8) (hb : b.length = 8) :
    (binOp .eql 94 (.agg (a.map wv).toArray) (.agg (b.map wv).toArray)).run Tryd.prog w = .ok (.bool (a == b)) w := by
  obtain ⟨i, hi⟩ := word_info
  rw [run_eql_struct, run_eqlRow w false Tryd.underlying94 Tryd.underlying93 hi word_cells wv (fun x => (x.toNat : Int)) (fun _ => rfl) wv_inj 0 a b ha hb]
  rfl
theorem neq_words (w : World) (a b : List UInt32) (ha : a.length = 8) (hb : b.length = 8) :
    (binOp .neq 94 (.agg (a.map wv).toArray) (.agg (b.map wv).toArray)).run Tryd.prog w = .ok (.bool (!(a == b))) w := by
  obtain ⟨i, hi⟩ := word_info
  rw [run_neq_struct, run_eqlRow w false Tryd.underlying94 Tryd.underlying93 hi word_cells wv (fun x => (x.toNat : Int)) (fun _ => rfl) wv_inj 0 a b ha hb]
  rfl
theorem eql_key (w : World) (a b : List UInt8) (ha : a.length = 32) (hb : b.length = 32) :
    (binOp .eql 36 (.agg (a.map bv).toArray) (.agg (b.map bv).toArray)).run Tryd.prog w = .ok (.bool (a == b)) w := by
  obtain ⟨i, hi⟩ := byte_info
  rw [run_eql_struct, run_eqlRow w false Tryd.underlying36 Tryd.underlying5 hi byteCells bv (fun x => (x.toNat : Int)) (fun _ => rfl) bv_inj 0 a b ha hb]
  rfl

end Go.Proofs.YtlidhdljgnijaaaDoor

/-
  ROWS OF KEYS: 32 bytes as cells, comparing them; rows that are carried, stored into; a struct built of parts.
-/
set_option linter.unusedVariables false
namespace Go.Proofs.YtlidhdljgnijaaaDoor
open Go.RowKit

/-- 32 bytes as cells -/
def keyC (l : List UInt8) : Array Value := (l.map bv).toArray

theorem infoKey : (Tryd.prog.info? 36).map (·.size) = some 32 := by kernel_rfl

theorem keyC_size (l : List UInt8) : (keyC l).size = l.length := by simp [keyC]

theorem sizeKey {l : List UInt8} (h : l.length = 32) : (Tryd.prog.info? 36).map (·.size) = some (keyC l).size := by rw [infoKey, keyC_size, h]

theorem one_keyF (l : List UInt8) : (keyC l).all (·.oneCell') = true := one_bvA l

theorem keyC_at {l : List UInt8} {i : Nat} {x : UInt8} (h : l[i]? = some x) : (keyC l)[i]? = some (.int .u8 (x.toNat : Int)) := by simp [keyC, h, bv]

theorem keyC_set (l : List UInt8) (i : Nat) (x : UInt8) : (keyC l).setIfInBounds i (.int .u8 (x.toNat : Int)) = keyC (l.set i x) := by simp [keyC, List.map_set, bv]

theorem Ms.set {w0 w : World} {g : Nat} {t : TypeId} {cs : Array Value} {L : List (Nat × TypeId × Array Value)} (h : Ms w0 w ((g, t, cs) :: L)) (hg : w0.heap.size ≤ g) (hne : ∀ p ∈ L, p.1 ≠ g) (cs' : Array Value) :
    Ms w0 (w.setRow g cs') ((g, t, cs') :: L) :=
  ⟨below_setRow h.old hg _, fun p hp => by
    rcases List.mem_cons.1 hp with rfl | hp
    · exact (h.rows (g, t, cs) (by simp)).row cs'
    · exact (h.rows p (by simp [hp])).rowFar (hne p hp) cs'⟩

theorem Ms.swap {w0 w : World} {x y : Nat × TypeId × Array Value} {L : List (Nat × TypeId × Array Value)} (h : Ms w0 w (x :: y :: L)) : Ms w0 w (y :: x :: L) :=
  ⟨h.old, fun p hp => h.rows p (by simp only [List.mem_cons] at hp ⊢; rcases hp with h | h | h <;> simp [h])⟩

theorem Ms.beh {w0 w w' : World} {g : Nat} {t : TypeId} {cs cs' : Array Value} {L : List (Nat × TypeId × Array Value)} (h : Ms w0 w ((g, t, cs) :: L)) (hg : w0.heap.size ≤ g) (hne : ∀ p ∈ L, p.1 ≠ g) (hr : RowC w' g t cs')
    (hfar : ∀ k, k ≠ g → k < w.heap.size → w'.heap[k]? = w.heap[k]?) (hb : ∀ B, B ≤ g → Below B w w') : Ms w0 w' ((g, t, cs') :: L) :=
  ⟨h.old.trans (hb _ hg), fun p hp => by
    rcases List.mem_cons.1 hp with rfl | hp
    · exact hr
    · have h1 := h.rows p (by simp [hp])
      exact h1.of (hfar _ (hne p hp) h1.lt)⟩

theorem Ms.setCell {w0 w : World} {g : Nat} {t : TypeId} {cs : Array Value} {L : List (Nat × TypeId × Array Value)} (h : Ms w0 w ((g, t, cs) :: L)) (hg : w0.heap.size ≤ g) (hne : ∀ p ∈ L, p.1 ≠ g) (i : Nat) (v : Value) :
    Ms w0 (w.setCell ⟨g, i, none⟩ v) ((g, t, cs.setIfInBounds i v) :: L) :=
  ⟨h.old.setCell hg _, fun p hp => by
    rcases List.mem_cons.1 hp with rfl | hp
    · exact (h.rows (g, t, cs) (by simp)).set_ i v
    · exact (h.rows p (by simp [hp])).far (hne p hp) v⟩

theorem Ms.sub {w0 w : World} {L L' : List (Nat × TypeId × Array Value)} (h : Ms w0 w L) (hs : ∀ p ∈ L', p ∈ L) : Ms w0 w L' := ⟨h.old, fun p hp => h.rows p (hs p hp)⟩

theorem Ms.set2 {w0 w : World} {g g' : Nat} {t t' : TypeId} {cs cs' ds ds' : Array Value} {L : List (Nat × TypeId × Array Value)} (h : Ms w0 w ((g, t, cs) :: (g', t', cs') :: L)) (hg : w0.heap.size ≤ g) (hg' : w0.heap.size ≤ g') (hgg : g ≠ g')
    (hne : ∀ p ∈ L, p.1 ≠ g) (hne' : ∀ p ∈ L, p.1 ≠ g') : Ms w0 ((w.setRow g ds).setRow g' ds') ((g, t, ds) :: (g', t', ds') :: L) :=
  (Ms.set (Ms.swap (Ms.set h hg (fun p hp => by
    rcases List.mem_cons.1 hp with rfl | hp
    · exact Ne.symm hgg
    · exact hne p hp) ds)) hg' (fun p hp => by
    rcases List.mem_cons.1 hp with rfl | hp
    · exact hgg
    · exact hne' p hp) ds').swap

theorem eql_keyF (w : World) (a b : List UInt8) (ha : a.length = 32) (hb : b.length = 32) :
    (Op.equalIn 10000 36 (.agg (keyC a)) (.agg (keyC b))).run Tryd.prog w = .ok (a == b) w := by
  obtain ⟨i, hi⟩ := byte_info
  exact run_eqlRow w false Tryd.underlying36 Tryd.underlying5 hi byteCells bv (fun x => (x.toNat : Int)) (fun _ => rfl) bv_inj 0 a b ha hb

/-- a build of parts, as an operation of a region -/
theorem step_build {P : Program} {w : World} {ops : Array Oper} {o : Oper} {a : Act} {K : Act → World → Prop} {Q : Exit → Act → World → Prop} {E : Prop} (hgd : Region.wanted o (yielded ops a.tmps) = true) (dst : Option Tmp) (hd : o.dst = dst) (t : TypeId) (parts : Array (Nat × Operand)) (ho : o.op = .build t parts)
    (vals : Array (Nat × Value)) (hv : (parts.map fun (i, x) => (i, a.eval x)) = vals) (cells : Array Value) (hf : (Instr.build t vals).run P w = .ok (.agg cells) w)
    (h : K (a.put dst (.agg cells)) w) : if Region.wanted o (yielded ops a.tmps) = true then Oper.wp P o a w K Q else E := by
  subst hv hd
  rw [if_pos hgd]
  unfold Oper.wp execOp
  simp only [ho, Sem.run_bind, hf, Result.andThen_ok, Sem.run_pure]
  exact h

/-- the same, where it yields whatever the world -/
theorem yields_build {P : Program} {ops : Array Oper} {S : World → Prop} {o : Oper} {a : Act} (hgd : Region.wanted o (yielded ops a.tmps) = true) (t : TypeId) (parts : Array (Nat × Operand)) (ho : o.op = .build t parts)
    (vals : Array (Nat × Value)) (hv : (parts.map fun (i, x) => (i, a.eval x)) = vals) (cells : Array Value) (hf : ∀ w, (Instr.build t vals).run P w = .ok (.agg cells) w) : YieldsIf P ops S o (.agg cells) a := by
  subst hv
  refine Or.inl ⟨hgd, fun w _ => ?_⟩
  unfold execOp
  simp only [ho, Sem.run_bind, hf, Result.andThen_ok, Sem.run_pure]

theorem wpList_buildP {P : Program} {ops : Array Oper} {rest : List Oper} {o : Oper} {a : Act} {w : World} {Q : Exit → Act → World → Prop} (hg : o.guard = none) (t : TypeId) (parts : Array (Nat × Operand)) (ho : o.op = .build t parts)
    (vals : Array (Nat × Value)) (hv : (parts.map fun (i, x) => (i, a.eval x)) = vals) (cells : Array Value) (hf : (Instr.build t vals).run P w = .ok (.agg cells) w)
    (h : wpList P ops Q rest (a.put o.dst (.agg cells)) w) : wpList P ops Q (o :: rest) a w := by
  subst hv
  refine wpList_plain hg fun _ hK => ?_
  unfold Oper.wp execOp
  simp only [ho, Sem.run_bind, hf, Result.andThen_ok, Sem.run_pure]
  exact hK _ _ h

theorem RowC.rdK {w : World} {g : Nat} {t : TypeId} {l : List UInt8} (h : RowC w g t (keyC l)) {n : Nat} (hn : l.length = n) : Rd w w.heap.size (Option.some ⟨g, 0, none⟩) n (l.map bv) :=
  ⟨by rw [List.length_map, hn], fun _ => ⟨g, 0, rfl, h.lt, fun j u hu => by rw [Nat.zero_add]; exact h.cell (by simpa [keyC] using hu)⟩⟩

theorem fold_set : ∀ (vs : List Value) (k : Nat) (zs : Array Value), k + vs.length ≤ zs.size →
    ((vs.zipIdx k).foldl (fun cs x => cs.setIfInBounds (0 + x.2) x.1) zs).toList = splice zs.toList k vs
  | [], k, zs, _ => by simp [splice]
  | v :: r, k, zs, h => by
    simp only [List.length_cons] at h
    simp only [List.zipIdx_cons, List.foldl_cons]
    rw [fold_set r (k + 1) _ (by simp; omega), Nat.zero_add, Array.toList_setIfInBounds, splice_set _ _ _ _ (by simp; omega)]

theorem fill_first (zs cs : Array Value) (place : Nat → Option (Nat × Nat)) (hp : place 0 = some (0, cs.size)) (h : cs.size ≤ zs.size) :
    Instr.fill place zs [(0, .agg cs)] = some (splice zs.toList 0 cs.toList).toArray := by
  have hc : (Value.agg cs).cells = cs := rfl
  simp only [Instr.fill, hp, hc]
  rw [if_neg (by simp; omega)]
  congr 1
  apply Array.ext'
  rw [← Array.foldl_toList, Array.toList_zipIdx]
  have := fold_set cs.toList 0 zs (by simpa using h)
  simpa using this

end Go.Proofs.YtlidhdljgnijaaaDoor

/-
  ROWS OF KEYS that stand anywhere (layer 13): n keys in a row of bytes, read by places.
-/
set_option linter.unusedVariables false
namespace Go.Proofs.YtlidhdljgnijaaaDoor
open Go.RowKit

/-- key i of a row of bytes -/
def keyI (xs : List UInt8) (i : Nat) : List UInt8 := (xs.drop (i * 32)).take 32
def zeroK : List UInt8 := List.replicate 32 0
theorem zeroK_len : zeroK.length = 32 := rfl
theorem keyC_zero : keyC zeroK = #[.int .u8 0, .int .u8 0, .int .u8 0, .int .u8 0, .int .u8 0, .int .u8 0, .int .u8 0, .int .u8 0, .int .u8 0, .int .u8 0, .int .u8 0, .int .u8 0, .int .u8 0, .int .u8 0, .int .u8 0, .int .u8 0, .int .u8 0, .int .u8 0, .int .u8 0, .int .u8 0, .int .u8 0, .int .u8 0, .int .u8 0, .int .u8 0, .int .u8 0, .int .u8 0, .int .u8 0, .int .u8 0, .int .u8 0, .int .u8 0, .int .u8 0, .int .u8 0] := by rfl
/-- n keys are read -/
structure KyR (w : World) (B : Nat) (A : Option Addr) (n c : Nat) (xs : List UInt8) : Prop where
  row : Rd w B A (n * 32) (xs.map bv)
  hnc : n ≤ c
  hcm : c ≤ maxLen
section
variable {w w' : World} {B B' n c : Nat} {A : Option Addr} {xs : List UInt8}
theorem KyR.below (h : KyR w B A n c xs) (hb : Below B w w') : KyR w' B A n c xs := ⟨h.row.below hb, h.hnc, h.hcm⟩
theorem KyR.more (h : KyR w B A n c xs) (hb : B ≤ B') : KyR w B' A n c xs := ⟨h.row.more hb, h.hnc, h.hcm⟩
theorem KyR.len (h : KyR w B A n c xs) : xs.length = n * 32 := by simpa using h.row.len
theorem keyI_len (h : xs.length = n * 32) {i : Nat} (hi : i < n) : (keyI xs i).length = 32 := by
  have : (i + 1) * 32 ≤ n * 32 := Nat.mul_le_mul_right _ hi
  rw [keyI, List.length_take, List.length_drop, h]
  omega
/-- key i's cells -/
theorem KyR.range (h : KyR w B A n c xs) {i : Nat} (hi : i < n) : ∃ b o, A = some ⟨b, o, none⟩ ∧ b < B ∧ w.rangeAt b (o + i * 32) (keyC (keyI xs i)).toList := by
  obtain ⟨b, o, e, hb, hc⟩ := h.row.pos (by omega)
  refine ⟨b, o, e, hb, fun j u hu => ?_⟩
  have hu' : ((keyI xs i).map bv)[j]? = some u := by simpa [keyC] using hu
  rw [List.getElem?_map, keyI, List.getElem?_take] at hu'
  split at hu'
  · rw [List.getElem?_drop, ← List.getElem?_map] at hu'
    have := hc (i * 32 + j) u hu'
    rwa [← Nat.add_assoc] at this
  · simp at hu'
theorem keyI_at (xs : List UInt8) (q : Nat) : xs[q]? = (keyI xs (q / 32))[q % 32]? := by
  rw [keyI, List.getElem?_take, if_pos (Nat.mod_lt _ (by omega)), List.getElem?_drop]
  congr 1
  omega
theorem keysI_eq {ys : List UInt8} (hx : xs.length = n * 32) (hy : ys.length = n * 32) (h : ∀ i, i < n → keyI xs i = keyI ys i) : xs = ys := by
  apply List.ext_getElem?
  intro q
  by_cases hq : q < n * 32
  · rw [keyI_at, keyI_at ys, h (q / 32) (by omega)]
  · rw [List.getElem?_eq_none (by omega), List.getElem?_eq_none (by omega)]
theorem keyI_app_lt {ys : List UInt8} (hx : xs.length = n * 32) {i : Nat} (hi : i < n) : keyI (xs ++ ys) i = keyI xs i := by
  have : (i + 1) * 32 ≤ n * 32 := Nat.mul_le_mul_right _ hi
  rw [keyI, keyI, List.drop_append_of_le_length (by omega), List.take_append_of_le_length (by rw [List.length_drop]; omega)]
theorem keyI_app_eq {ys : List UInt8} (hx : xs.length = n * 32) (hy : ys.length = 32) : keyI (xs ++ ys) n = ys := by
  rw [keyI, ← hx, List.drop_append_of_le_length (Nat.le_refl _), List.drop_length, List.nil_append, List.take_of_length_le (by omega)]
end
theorem eql_keyK (w : World) (a b : List UInt8) (ha : a.length = 32) (hb : b.length = 32) :
    (binOp .eql 36 (.agg (keyC a)) (.agg (keyC b))).run Tryd.prog w = .ok (.bool (a == b)) w := eql_key w a b ha hb
theorem sizeKeyL {l : List UInt8} (h : l.length = 32) : (Tryd.prog.info? 36).map (·.size) = some (keyC l).toList.length := by simpa using sizeKey h
theorem RowC.mid {w : World} {g : Nat} {t : TypeId} {cs : Array Value} (h : RowC w g t cs) (o : Nat) (L : List Value) (hs : ∀ (j : Nat) (u : Value), L[j]? = some u → cs[o + j]? = some u) : w.rangeAt g o L := fun j u hu => h.cell (hs j u hu)

theorem infoKeyK : (Tryd.prog.info? 36).map (fun i => (i.zero, i.size, i.bytes)) = some (some (.agg #[.int .u8 0, .int .u8 0, .int .u8 0, .int .u8 0, .int .u8 0, .int .u8 0, .int .u8 0, .int .u8 0, .int .u8 0, .int .u8 0, .int .u8 0, .int .u8 0, .int .u8 0, .int .u8 0, .int .u8 0, .int .u8 0, .int .u8 0, .int .u8 0, .int .u8 0, .int .u8 0, .int .u8 0, .int .u8 0, .int .u8 0, .int .u8 0, .int .u8 0, .int .u8 0, .int .u8 0, .int .u8 0, .int .u8 0, .int .u8 0, .int .u8 0, .int .u8 0]), 32, 32) := by kernel_rfl
theorem fold_keyK {l : List UInt8} (h : l.length = 32) : Array.foldl (fun cs x => cs.setIfInBounds x.snd x.fst) (#[.int .u8 0, .int .u8 0, .int .u8 0, .int .u8 0, .int .u8 0, .int .u8 0, .int .u8 0, .int .u8 0, .int .u8 0, .int .u8 0, .int .u8 0, .int .u8 0, .int .u8 0, .int .u8 0, .int .u8 0, .int .u8 0, .int .u8 0, .int .u8 0, .int .u8 0, .int .u8 0, .int .u8 0, .int .u8 0, .int .u8 0, .int .u8 0, .int .u8 0, .int .u8 0, .int .u8 0, .int .u8 0, .int .u8 0, .int .u8 0, .int .u8 0, .int .u8 0] : Array Value) (keyC l).zipIdx 0 32 = keyC l := by
  apply Array.ext'
  have e : 32 = (keyC l).zipIdx.size := by simp [keyC, h]
  rw [e, ← Array.foldl_toList, Array.toList_zipIdx]
  have := fold_set (keyC l).toList 0 (#[.int .u8 0, .int .u8 0, .int .u8 0, .int .u8 0, .int .u8 0, .int .u8 0, .int .u8 0, .int .u8 0, .int .u8 0, .int .u8 0, .int .u8 0, .int .u8 0, .int .u8 0, .int .u8 0, .int .u8 0, .int .u8 0, .int .u8 0, .int .u8 0, .int .u8 0, .int .u8 0, .int .u8 0, .int .u8 0, .int .u8 0, .int .u8 0, .int .u8 0, .int .u8 0, .int .u8 0, .int .u8 0, .int .u8 0, .int .u8 0, .int .u8 0, .int .u8 0] : Array Value) (by simp [keyC, h])
  simp only [Nat.zero_add] at this
  rw [this]
  simp [splice, keyC, h]
theorem own_slK {w : World} {base : Nat} {e : TypeId} {size : Nat} {v : Value} {n : Nat} {xs : List Value} (h : w.ownsRow base e size v n xs) : ∃ A c, v = .slice A n c ∧ n ≤ c ∧ c ≤ maxLen := by
  rcases h.2 with ⟨h1, h2⟩ | ⟨g, cap, cur, h1, _, _, h2, h3, _⟩
  · subst h2
    exact ⟨none, 0, h1, by omega, by simp [maxLen]⟩
  · exact ⟨_, _, h1, h2, h3⟩
/-- an own row of keys, read -/
theorem KyR.of_own {w : World} {base n c : Nat} {A : Option Addr} {xs : List UInt8} (h : w.ownsRow base 36 32 (.slice A n c) n (xs.map bv)) : KyR w w.heap.size A n c xs := by
  obtain ⟨A', c', e, h1, h2⟩ := own_slK h
  injection e with _ _ e
  subst e
  refine ⟨⟨by simpa using h.1, fun hn => ?_⟩, h1, h2⟩
  rcases h.2 with ⟨_, h0⟩ | ⟨g, cap, cur, hv, _, hg, _, _, _, ht⟩
  · omega
  · injection hv with h1
    refine ⟨g, 0, h1, (Array.getElem?_eq_some_iff.1 hg).1, fun j u hu => ?_⟩
    rw [← ht, List.getElem?_take] at hu
    split at hu
    · rw [Nat.zero_add, cell_of_row w g j cur 36 (0, 0) hg, ← Array.getElem?_toList]
      exact hu
    · cases hu
theorem rangeW {w w' : World} {B b o : Nat} {cs : List Value} (h : w.rangeAt b o cs) (hb : b < B) (hw : Below B w w') : w'.rangeAt b o cs := fun j u hu => by
  rw [World.cell?_of_block (hw.block _ hb)]
  exact h j u hu
section
variable {P : Program} (w : World)
/-- append of what reads as 'news' (nil let in), of elements of so many cells, onto a row of the call's own -/
theorem run_append_ky (base : Nat) (t ty e : TypeId) (i : TypeInfo) (z : Value) (size bytes : Nat) (ht : P.underlying t = some (.slice e)) (hi : P.info? e = some i) (hz : i.zero = some z)
    (hsize : i.size = size) (hby : i.bytes = bytes) (hzs : z.cells.size = size) (hs0 : 0 < size)
    (v : Value) (n : Nat) (xs : List Value) (hown : w.ownsRow base e size v n xs)
    (B : Nat) (A : Option Addr) (m c : Nat) (news : List Value) (hr : Rd w B A (m * size) news) (h1 : ∀ u ∈ news, u.oneCell' = true)
    (h63 : n + m ≤ maxLen) (hbytes : (n + m) * bytes ≤ 140737488355328) (hbase : base ≤ w.heap.size) :
    ∃ v' w', (Builtin.append_ #[t, t] ty #[v, .slice A m c]).run P w = .ok v' w' ∧ w'.ownsRow base e size v' (n + m) (xs ++ news) ∧ w.grownBy w' v.ownBlock ∧
      (v'.ownBlock = v.ownBlock ∨ v'.ownBlock = some w.heap.size) := by
  rcases A with _ | ad
  · have hm : m = 0 := by
      rcases Nat.eq_zero_or_pos m with h0 | h0
      · exact h0
      · obtain ⟨b, o, h, _⟩ := hr.pos (Nat.mul_pos h0 hs0)
        cases h
    subst hm
    have hn : news = [] := List.eq_nil_of_length_eq_zero (by have := hr.len; omega)
    subst hn
    refine ⟨v, w, ?_, by simpa using hown, World.grownBy.refl w _, .inl rfl⟩
    rcases hown.2 with ⟨rfl, rfl⟩ | ⟨g, cap, cur, rfl, _, _, hnc, _⟩
    · simp [Builtin.append_, run_underlying ht, sizeOf, typeInfo, hi, Builtin.lenOf, Builtin.firstCells]
    · simp [Builtin.append_, run_underlying ht, sizeOf, typeInfo, hi, Builtin.lenOf, Builtin.firstCells, hnc, storeCells]
  · have hcells : ∀ j u, news[j]? = some u → w.cell? (ad.add j) = some u := by
      intro j u hu
      have hp : 0 < m * size := by
        have := (List.getElem?_eq_some_iff.1 hu).1
        have := hr.len
        omega
      obtain ⟨b, o, h, _, hc⟩ := hr.pos hp
      injection h with h
      subst h
      rw [Addr.add_lit]
      exact hc j u hu
    obtain ⟨v', w', hrun, h2, h3, _, h5⟩ := run_append_own_at (P := P) w base t ty e i z size bytes ht hi hz hsize hby hzs hs0 v n xs hown ad m c news hr.len hcells h1 h63 hbytes hbase
    exact ⟨v', w', hrun, h2, h3, h5⟩
theorem wpList_append_ky {ops : Array Oper} {rest : List Oper} {o : Oper} {a : Act} {Q : Exit → Act → World → Prop} (hgd : Region.wanted o (yielded ops a.tmps) = true) (s x : Operand) (t : TypeId)
    (ho : o.op = .call { callee := .builtin .append, args := #[s, x], argTypes := #[t, t] })
    (base : Nat) (e : TypeId) (i : TypeInfo) (z : Value) (size bytes : Nat) (ht : P.underlying t = some (.slice e)) (hi : P.info? e = some i) (hz : i.zero = some z)
    (hsize : i.size = size) (hby : i.bytes = bytes) (hzs : z.cells.size = size) (hs0 : 0 < size)
    (v : Value) (n : Nat) (xs : List Value) (hs : a.eval s = v) (hown : w.ownsRow base e size v n xs)
    (B : Nat) (A : Option Addr) (m c : Nat) (news : List Value) (hx : a.eval x = .slice A m c) (hr : Rd w B A (m * size) news) (h1 : ∀ u ∈ news, u.oneCell' = true)
    (h63 : n + m ≤ maxLen) (hbytes : (n + m) * bytes ≤ 140737488355328) (hbase : base ≤ w.heap.size)
    (h : ∀ v' w', w'.ownsRow base e size v' (n + m) (xs ++ news) → w.grownBy w' v.ownBlock → (v'.ownBlock = v.ownBlock ∨ v'.ownBlock = some w.heap.size) → wpList P ops Q rest (a.put o.dst v') w') : wpList P ops Q (o :: rest) a w := by
  refine wpList_step fun _ hK => ?_
  rw [if_pos hgd]
  obtain ⟨v', w', hrun, h2, h3, h4⟩ := run_append_ky (P := P) w base t o.type e i z size bytes ht hi hz hsize hby hzs hs0 v n xs hown B A m c news hr h1 h63 hbytes hbase
  unfold Oper.wp execOp
  simp only [ho, resolve, invoke, builtin, Sem.run_bind, Sem.run_pure, Result.andThen_ok, List.map_toArray, List.map_cons, List.map_nil, hs, hx, hrun]
  exact hK _ _ (h v' w' h2 h3 h4)
end
/-- a number of a row -/
theorem rdI_num {w : World} {B : Nat} {A : Option Addr} {n : Nat} {xs : List Int} (h : Rd w B A n (xs.map (fun x => Value.int .i64 x))) {k : Nat} (hk : k < n) : ∃ b o x, A = some ⟨b, o, none⟩ ∧ b < B ∧ xs[k]? = some x ∧ w.cell? ⟨b, o + k, none⟩ = some (.int .i64 x) := by
  obtain ⟨b, o, e, hb, hc⟩ := h.pos (by omega)
  have hl : k < xs.length := by have := h.len; rw [List.length_map] at this; omega
  refine ⟨b, o, xs[k], e, hb, List.getElem?_eq_getElem hl, hc k _ ?_⟩
  rw [List.getElem?_map, List.getElem?_eq_getElem hl]
  rfl
theorem take_flat {α : Type} {l : List α} {j : Nat} {x : α} (h : l[j]? = some x) (f : α → List UInt8) : (l.take (j + 1)).flatMap f = (l.take j).flatMap f ++ f x := by
  obtain ⟨hj, e⟩ := List.getElem?_eq_some_iff.1 h
  rw [List.take_succ_eq_append_getElem hj, List.flatMap_append, e]
  simp
theorem flat_le {α : Type} {f : α → List UInt8} {m : Nat} : ∀ (l : List α), (∀ x ∈ l, (f x).length ≤ m) → (l.flatMap f).length ≤ m * l.length
  | [], _ => by simp
  | x :: l, h => by
    have h1 := flat_le l (fun y hy => h y (by simp [hy]))
    have h2 := h x (by simp)
    rw [List.flatMap_cons, List.length_append, List.length_cons, Nat.mul_succ]
    omega

end Go.Proofs.YtlidhdljgnijaaaDoor

