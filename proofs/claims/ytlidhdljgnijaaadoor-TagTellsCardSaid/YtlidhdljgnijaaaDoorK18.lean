import Derived.Test.YtlidhdljgnijaaaDoorK17
import Derived.Test.YtlidhdljgnijaaaDoorK09
import Derived.ChangeKeysEq
import Derived.Great.Walk
import Derived.Laws.StructEq
import Derived.Laws.Rows
import Derived.Deep.MidRow
/-
  CONTRACT of the document's Bytes (coterieref02): words' bytes.
-/
set_option linter.unusedVariables false
namespace Go.Proofs.YtlidhdljgnijaaaDoor
open Go.RowKit

/-- the bytes of words -/
def bytesU (h : List UInt32) : List UInt8 := (h.map fun x => be 4 x.toNat).flatten
theorem bytesU_len (h : List UInt32) : (bytesU h).length = 4 * h.length := by
  induction h with
  | nil => rfl
  | cons x h ih => simp only [bytesU, List.map_cons, List.flatten_cons, List.length_append, be_length, List.length_cons] at ih ⊢; omega
theorem bytesU_at : ∀ (h : List UInt32) (i n : Nat) (x : UInt32), h[i]? = some x → n < 4 → (bytesU h)[4 * i + n]? = (be 4 x.toNat)[n]?
  | [], i, n, x, hx, _ => by simp at hx
  | y :: h, 0, n, x, hx, hn => by
    simp at hx; subst hx
    simp only [bytesU, List.map_cons, List.flatten_cons]
    rw [List.getElem?_append_left (by rw [be_length]; omega), show 4 * 0 + n = n from by omega]
  | y :: h, i + 1, n, x, hx, hn => by
    simp only [bytesU, List.map_cons, List.flatten_cons]
    rw [List.getElem?_append_right (by rw [be_length]; omega), be_length, show 4 * (i + 1) + n - 4 = 4 * i + n from by omega]
    exact bytesU_at h i n x (by simpa using hx) hn

/-- the first p of 32 bytes, zeros behind -/
def outAt (b : List UInt8) (p : Nat) : List UInt8 := b.take p ++ List.replicate (32 - p) 0
theorem outAt_succ {b : List UInt8} {p : Nat} {x : UInt8} (hp : p < 32) (hx : b[p]? = some x) : outAt b (p + 1) = (outAt b p).set p x := by
  have hl : p < b.length := (List.getElem?_eq_some_iff.1 hx).1
  unfold outAt
  rw [List.set_append_right _ _ (by simp; omega), take_succ_of hx, List.append_assoc]
  congr 1
  rw [show p - (b.take p).length = 0 from by simp; omega, show 32 - p = (32 - (p + 1)) + 1 from by omega, List.replicate_succ, List.set_cons_zero]
  rfl
theorem outAt_len {b : List UInt8} (hb : b.length = 32) {p : Nat} (hp : p ≤ 32) : (outAt b p).length = 32 := by simp [outAt]; omega
theorem outAt_all {b : List UInt8} (hb : b.length = 32) : outAt b 32 = b := by simp [outAt, List.take_of_length_le (Nat.le_of_eq hb)]
theorem outAt_zero (b : List UInt8) : outAt b 0 = List.replicate 32 0 := by simp [outAt]
theorem outAt_cell {b : List UInt8} {p : Nat} (hb : b.length = 32) (hp : p < 32) : (outAt b p)[p]? = some 0 := by
  rw [outAt, List.getElem?_append_right (by simp; omega), show p - (b.take p).length = 0 from by simp; omega]
  rw [List.getElem?_replicate, if_pos (by omega)]

theorem word_plain : Tryd.prog.plainKey 93 = true := by kernel_rfl
theorem word_cells : Tryd.prog.cellsOf 93 = 1 := by kernel_rfl
set_option maxRecDepth 1000000 in
theorem word_info : ∃ i, Tryd.prog.info? 93 = some i := ⟨_, rfl⟩
theorem info32 : (Tryd.prog.info? 36).map (·.size) = some 32 := by kernel_rfl

set_option maxRecDepth 1000000 in
set_option maxHeartbeats 800000 in
theorem ShaBytes_any (h : List UInt32) (w : World) (hh : h.length = 8) :
    Calls Tryd.prog 67 #[.agg (h.map wv).toArray] w fun e w' => e = .returned (.agg ((bytesU h).map bv).toArray) ∧ Below w.heap.size w w' := by
  have hi8 : (Tryd.prog.info? 94).map (·.size) = some ((h.map wv).toArray).size := by rw [info8]; simp [hh]
  have Hi8 := Lib.hid hi8
  have Hh := Lib.hid hh
  have Hbl := Lib.hid (show (bytesU h).length = 32 by rw [bytesU_len, hh])
  clear hi8 hh
  go_enter Tryd.func67, Tryd.ntmps67
  go_wp2_with ((with_reducible show wpList _ _ _ (⟨some 8, _, _, _, _, _⟩ :: _) _ _); refine wpList_load_row rfl 94 (.tmp 1) rfl w.heap.size rfl 94 (h.map wv).toArray (0, 0) _ (((ArrW.mk_ w _ _ h rfl rfl).alloc _).alloc _) Tryd.underlying94 rfl Hi8.out ?_)
  go_loopw [9] (fun i wr => ∃ j : Nat, j ≤ 8 ∧ i = .int .i64 (j : Int) ∧ ArrB wr (w.heap.size + 1 + 1) 36 (outAt (bytesU h) (4 * j)) ∧ ArrB wr (w.heap.size + 1) 36 (List.replicate 32 0) ∧ Below w.heap.size w wr) (fun i _ => (8 - intOf i).toNat)
  case atStart =>
    refine ⟨0, by omega, rfl, ?_, ?_, (((Below.refl _ _).alloc (Nat.le_refl _) _).alloc (al0 _ _) _).alloc (by simp; omega) _⟩
    · rw [outAt_zero]
      exact ArrB.mk_ _ _ _ _ (by simp) rfl
    · exact (ArrB.mk_ _ _ _ (List.replicate 32 0) (by simp) rfl).alloc _
  case round =>
    obtain ⟨j, hj, rfl, g3, g2, hbel⟩ := hrel
    have hsz := hbel.size
    have hs3 := g3.lt
    by_cases hlt : j < 8
    · obtain ⟨x, hx⟩ : ∃ x, h[j]? = some x := ⟨_, List.getElem?_eq_getElem (by have := Hh.out; omega)⟩
      have Hx := Lib.hid hx
      have j0 : 0 ≤ (j : Int) := by omega
      have j1 : (j : Int) < 8 := by omega
      have hlx := u32_lt x
      have hix : ((h.map wv).toArray)[j]? = some (.int .u32 (x.toNat : Int)) := by simp [hx, wv]
      clear hx
      obtain ⟨iw, hiw⟩ := word_info
      go_wp2_with (first
        | ((with_reducible show wpList _ _ _ (⟨some 12, _, _, _, _, _⟩ :: _) _ _); refine wpList_index_cell rfl (some 12) rfl 94 (.tmp 8) (.tmp 9) rfl (h.map wv).toArray rfl j rfl 8 93 Tryd.underlying94 word_plain iw hiw word_cells _ hix hlt ?_)
        | (go_at_call 30; refine (Bytes_any 4 x.toNat _ (by omega) (by omega)).mono ?_; rintro e w4 ⟨A4, c4, rfl, hown4, hb4⟩))
      obtain ⟨g, cap, hv4, _, hgl⟩ := hown4.form (by omega)
      have hA : A4 = some ⟨g, 0, none⟩ := by injection hv4
      subst hA
      have hgs : wr.heap.size ≤ g := (hown4.lt g rfl).1
      have hcs : ∀ (q : Nat) (y : UInt8), (be 4 x.toNat)[q]? = some y → w4.cell? ⟨g, q, none⟩ = some (.int .u8 (y.toNat : Int)) := fun q y hy => by
        have := hown4.cells (g := g) rfl q (bv y) (by simp [hy])
        rwa [Addr.add_lit, Nat.zero_add] at this
      have k3 := g3.below hb4 hs3
      have k2 := g2.below hb4 (by omega)
      have hbel4 := hbel.trans (hb4.mono hsz)
      go_loopw [17] (fun i wr => ∃ q : Nat, q ≤ 4 ∧ i = .int .i64 (q : Int) ∧ ArrB wr (w.heap.size + 1 + 1) 36 (outAt (bytesU h) (4 * j + q)) ∧ ArrB wr (w.heap.size + 1) 36 (List.replicate 32 0) ∧ Below w.heap.size w wr ∧ (∀ (q : Nat) (y : UInt8), (be 4 x.toNat)[q]? = some y → wr.cell? ⟨g, q, none⟩ = some (.int .u8 (y.toNat : Int)))) (fun i _ => (4 - intOf i).toNat)
      case atStart => exact ⟨0, by omega, rfl, k3, k2, hbel4, hcs⟩
      case round =>
        obtain ⟨q, hq, rfl, m3, m2, hbelq, hcq⟩ := hrel
        by_cases hlq : q < 4
        · obtain ⟨y, hy⟩ : ∃ y, (be 4 x.toNat)[q]? = some y := ⟨_, List.getElem?_eq_getElem (by rw [be_length]; omega)⟩
          have cy := hcq q y hy
          have Hset := Lib.hid (outAt_succ (p := 4 * j + q) (by omega) ((bytesU_at h j q x Hx.out hlq).trans hy))
          have fz := m3.frozen (4 * j + q)
          have cz := m3.cell (outAt_cell Hbl.out (show 4 * j + q < 32 by omega))
          have q0 : 0 ≤ (q : Int) := by omega
          have q1 : (q : Int) < 4 := by omega
          clear hy
          go_wp2_with fail
          refine ⟨⟨q + 1, by omega, by go_num, ?_, ?_, ?_, ?_⟩, by simp [intOf]; omega⟩
          · rw [show 4 * j + (q + 1) = 4 * j + q + 1 from rfl, Hset.out]
            exact m3.set_ (4 * j + q) y
          · exact m2.far (by simp) _
          · exact hbelq.setCell (by simp; omega) _
          · intro q2 y2 hy2
            rw [World.cell?_setCell_other _ _ _ _ (by intro e; injection e; omega)]
            exact hcq q2 y2 hy2
        · obtain rfl : q = 4 := by omega
          rw [show ((4 : Nat) : Int) = 4 from rfl]
          go_wp2_with fail
          exact ⟨⟨j + 1, by omega, by go_num, m3, m2, hbelq⟩, by simp [intOf]; omega⟩
    · obtain rfl : j = 8 := by omega
      rw [show ((8 : Nat) : Int) = 8 from rfl]
      rw [show 4 * 8 = 32 from rfl, outAt_all Hbl.out] at g3
      have hf : (Tryd.prog.info? 36).map (·.size) = some (((bytesU h).map bv).toArray).size := by rw [info32]; simp [Hbl.out]
      have hz : ((List.replicate 32 (0 : UInt8)).map bv).toArray.size = (((bytesU h).map bv).toArray).size := by simp [Hbl.out]
      have Hf := Lib.hid hf
      have Hz := Lib.hid hz
      clear hf hz
      generalize hgb : bytesU h = b at *
      have Hgb := Lib.hid hgb
      clear hgb
      go_wp2_with (first
        | ((with_reducible show wpList _ _ _ (⟨some 30, _, _, _, _, _⟩ :: _) _ _); refine wpList_load_row rfl 36 (.tmp 3) rfl (w.heap.size + 1 + 1) rfl 36 (b.map bv).toArray (0, 0) _ g3 Tryd.underlying36 rfl Hf.out ?_)
        | ((with_reducible show wpList _ _ _ (⟨none, Op.store 36 _ _, _, _, _, _⟩ :: _) _ _); refine wpList_store_row rfl 36 (.tmp 2) (.tmp 30) rfl (w.heap.size + 1) (b.map bv).toArray rfl rfl 36 _ g2 Hf.out Hz.out (one_bvA _) ?_))
      exact bodyPost_ret (results_cell_row rfl _ _ (w.heap.size + 1) 36 _ (0, 0) _ rfl (g2.row b) Tryd.underlying36 rfl Hf.out) rfl ⟨by rw [Hgb.out], below_setRow hbel (by omega) _⟩

end Go.Proofs.YtlidhdljgnijaaaDoor

/-
  ARRAYS OF NUMBERS, COMPARED BY VALUE: what '==' and '!=' of two arrays of words, or of bytes, come to.
-/
set_option linter.unusedVariables false
namespace Go.Proofs.YtlidhdljgnijaaaDoor
open Go.RowKit

theorem eql_words (w : World) (a b : List UInt32) (ha : a.length = 8) (hb : b.length = 8) :
    (binOp .eql 94 (.agg (a.map wv).toArray) (.agg (b.map wv).toArray)).run Tryd.prog w = .ok (.bool (a == b)) w := by
  obtain ⟨i, hi⟩ := word_info
  rw [run_eql_struct, run_eqlRow w false Tryd.underlying94 Tryd.underlying93 hi word_cells wv (fun x => (x.toNat : Int)) (fun _ => rfl) wv_inj 0 a b ha hb]
  rfl
theorem neq_words (w : World) (a b : List UInt32) (ha : a.length = 8) (hb : b.length = 8) :
    (binOp .neq 94 (.agg (a.map wv).toArray) (.agg (b.map wv).toArray)).run Tryd.prog w = .ok (.bool (!(a == b))) w := by
  obtain ⟨i, hi⟩ := word_info
  rw [run_neq_struct, run_eqlRow w false Tryd.underlying94 Tryd.underlying93 hi word_cells wv (fun x => (x.toNat : Int)) (fun _ => rfl) wv_inj 0 a b ha hb]
  rfl
theorem eql_key (w : World) (a b : List UInt8) (ha : a.length = 32) (hb : b.length = 32) :
    (binOp .eql 36 (.agg (a.map bv).toArray) (.agg (b.map bv).toArray)).run Tryd.prog w = .ok (.bool (a == b)) w := by
  obtain ⟨i, hi⟩ := byte_info
  rw [run_eql_struct, run_eqlRow w false Tryd.underlying36 Tryd.underlying5 hi byteCells bv (fun x => (x.toNat : Int)) (fun _ => rfl) bv_inj 0 a b ha hb]
  rfl

end Go.Proofs.YtlidhdljgnijaaaDoor

