/-
  CONTRACTS of the document's own Key and Derive (coterieref03).
-/
import Derived.Test.YtmkkghlpdnoogaaDoorRefExp
import Derived.Test.YtmkkghlpdnoogaaDoorMacD
set_option linter.unusedVariables false
namespace Go.Proofs.YtmkkghlpdnoogaaDoor
open Go.RowKit

def keyTo (b : List UInt8) (j : Nat) : List UInt8 := b.take j ++ List.replicate (32 - j) 0
theorem keyTo_zero (b : List UInt8) : keyTo b 0 = List.replicate 32 0 := by simp [keyTo]
theorem keyTo_all {b : List UInt8} (hb : b.length = 32) : keyTo b 32 = b := by simp [keyTo, ← hb]
theorem keyTo_len {b : List UInt8} {j : Nat} (hb : b.length = 32) (hj : j ≤ 32) : (keyTo b j).length = 32 := by
  unfold keyTo
  simp
  omega
theorem keyTo_succ {b : List UInt8} {j : Nat} {y : UInt8} (h : b[j]? = some y) (hb : b.length = 32) : keyTo b (j + 1) = (keyTo b j).set j y := by
  have hj := (List.getElem?_eq_some_iff.1 h).1
  unfold keyTo
  rw [take_succ_of h, List.set_append_right _ _ (by simp; omega), show j - (b.take j).length = 0 from by simp; omega, show 32 - j = (32 - (j + 1)) + 1 from by omega, List.replicate_succ]
  simp

set_option maxRecDepth 100000 in
set_option maxHeartbeats 400000 in
theorem Key_any (A : Option Addr) (c : Nat) (b : List UInt8) (w : World) (hr : Rd w w.heap.size A 32 (b.map bv)) :
    Calls Tryd.prog 53 #[.slice A 32 c] w fun e w' => e = .returned (.agg (b.map bv).toArray) ∧ Below w.heap.size w w' := by
  have Hb := Lib.hid (show b.length = 32 by simpa using hr.len)
  obtain ⟨ba, o, rfl, hba, hcell⟩ := hr.pos (by omega)
  clear hcell
  go_enter Tryd.func53, Tryd.ntmps53
  go_wp2_with fail
  go_loopw [5] (fun i wr => ∃ j : Nat, j ≤ 32 ∧ i = .int .i64 (j : Int) ∧ ArrB wr (w.heap.size + 1) 36 (keyTo b j) ∧ ArrB wr w.heap.size 36 (List.replicate 32 0) ∧ Rd wr w.heap.size (some ⟨ba, o, none⟩) 32 (b.map bv) ∧ Below w.heap.size w wr) (fun i _ => 32 - (intOf i).toNat)
  case atStart => exact ⟨0, by omega, rfl, by rw [keyTo_zero]; exact ArrB.mk_ _ _ _ _ (by simp) rfl, (ArrB.mk_ w _ _ (List.replicate 32 0) rfl rfl).alloc _, (hr.alloc (Nat.le_refl _) _).alloc (al0 _ _) _, (d_al _ _).alloc (al0 _ _) _⟩
  case round =>
    obtain ⟨j, hj, rfl, hA, hZ, hR, hB⟩ := hrel
    by_cases hlt : j < 32
    · obtain ⟨y, hy⟩ : ∃ y, b[j]? = some y := ⟨_, List.getElem?_eq_getElem (by have := Hb.out; omega)⟩
      have cb : wr.cell? ⟨ba, o + j, none⟩ = some (.int .u8 (y.toNat : Int)) := by
        obtain ⟨b', o', he, _, hcz⟩ := hR.pos (by omega)
        injection he with he
        injection he with he1 he2
        subst he1 he2
        exact hcz j _ (by rw [List.getElem?_map, hy]; rfl)
      have kl := keyTo_len Hb.out hj
      obtain ⟨z0, hz0⟩ : ∃ z0, (keyTo b j)[j]? = some z0 := ⟨_, List.getElem?_eq_getElem (by omega)⟩
      have c0 := hA.cell hz0
      have f0 := hA.frozen j
      have Hs := Lib.hid (keyTo_succ hy Hb.out)
      have hA2 := hA.set_ j y
      rw [← Hs.out] at hA2
      have hZ2 := hZ.far (p := ⟨w.heap.size + 1, j, none⟩) (show w.heap.size ≠ w.heap.size + 1 by omega) (.int .u8 (y.toNat : Int))
      have hR2 := hR.setCell (p := ⟨w.heap.size + 1, j, none⟩) (Nat.le_succ _) (.int .u8 (y.toNat : Int))
      have hB2 := hB.setCell (p := ⟨w.heap.size + 1, j, none⟩) (Nat.le_succ _) (.int .u8 (y.toNat : Int))
      have j0 : (0 : Int) ≤ (j : Int) := by omega
      have j1 : (j : Int) < 32 := by omega
      clear hy hz0 kl
      go_wp2_with fail
      go_roundw
      case rel => exact ⟨j + 1, by omega, by go_num, hA2, hZ2, hR2, hB2⟩
      case measure => simp [intOf]; omega
    · obtain rfl : j = 32 := by omega
      rw [keyTo_all Hb.out] at hA
      rw [show ((32 : Nat) : Int) = 32 from rfl]
      go_wp2_with (first
        | ((with_reducible show wpList _ _ _ (⟨some 19, _, _, _, _, _⟩ :: _) _ _); refine wpList_load_row rfl 36 (.tmp 3) rfl (w.heap.size + 1) rfl 36 (b.map bv).toArray (0, 0) _ hA Tryd.underlying36 rfl (infoK32 Hb.out) ?_)
        | ((with_reducible show wpList _ _ _ (⟨none, Op.store 36 _ _, _, _, _, _⟩ :: _) _ _); refine wpList_store_row rfl 36 (.tmp 2) (.tmp 19) rfl w.heap.size (b.map bv).toArray rfl rfl 36 _ hZ (infoK32 Hb.out) (sizeK Hb.out) (one_bvA _) ?_))
      exact bodyPost_ret (results_cell_row rfl _ _ w.heap.size 36 _ (0, 0) _ rfl (hZ.row b) Tryd.underlying36 rfl (infoK32 Hb.out)) rfl ⟨rfl, below_setRow hB (Nat.le_refl _) _⟩

set_option maxRecDepth 1000000 in
set_option maxHeartbeats 2000000 in
theorem rDerive_any (k : List UInt8) (s : ByteArray) (At : Option Addr) (m ct : Nat) (vs : List Value) (ts : List (List UInt8)) (w : World) (hk : k.length = 32) (hs : s.size ≤ 70000) (hm : m ≤ 1000000) (hmc : m ≤ ct)
    (hv : Rd w w.heap.size At m vs) (ht : Txs w w.heap.size vs ts) (hT : KTab w) :
    Calls Tryd.prog 34 #[.agg (k.map bv).toArray, .string s, .slice At m ct] w (DerivePost w k (strB s) ts) := by
  have Hk := Lib.hid hk
  have Hsl := Lib.hid (strB_len s)
  obtain ⟨i0, hi0, hz0, hz1, hz2⟩ := info_parts textInfo
  have hB4 : Below w.heap.size w ((w.alloc (.cells (k.map bv).toArray 36)).alloc (.cells #[.int .u8 0, .int .u8 0, .int .u8 0, .int .u8 0, .int .u8 0, .int .u8 0, .int .u8 0, .int .u8 0, .int .u8 0, .int .u8 0, .int .u8 0, .int .u8 0, .int .u8 0, .int .u8 0, .int .u8 0, .int .u8 0, .int .u8 0, .int .u8 0, .int .u8 0, .int .u8 0, .int .u8 0, .int .u8 0, .int .u8 0, .int .u8 0, .int .u8 0, .int .u8 0, .int .u8 0, .int .u8 0, .int .u8 0, .int .u8 0, .int .u8 0, .int .u8 0] 36)) := (d_al w (.cells (k.map bv).toArray 36)).alloc (al0 _ _) _
  have hK4 : ArrB ((w.alloc (.cells (k.map bv).toArray 36)).alloc (.cells #[.int .u8 0, .int .u8 0, .int .u8 0, .int .u8 0, .int .u8 0, .int .u8 0, .int .u8 0, .int .u8 0, .int .u8 0, .int .u8 0, .int .u8 0, .int .u8 0, .int .u8 0, .int .u8 0, .int .u8 0, .int .u8 0, .int .u8 0, .int .u8 0, .int .u8 0, .int .u8 0, .int .u8 0, .int .u8 0, .int .u8 0, .int .u8 0, .int .u8 0, .int .u8 0, .int .u8 0, .int .u8 0, .int .u8 0, .int .u8 0, .int .u8 0, .int .u8 0] 36)) w.heap.size 36 k := (ArrB.mk_ w _ _ k rfl rfl).alloc _
  have hA4 : ArrB ((w.alloc (.cells (k.map bv).toArray 36)).alloc (.cells #[.int .u8 0, .int .u8 0, .int .u8 0, .int .u8 0, .int .u8 0, .int .u8 0, .int .u8 0, .int .u8 0, .int .u8 0, .int .u8 0, .int .u8 0, .int .u8 0, .int .u8 0, .int .u8 0, .int .u8 0, .int .u8 0, .int .u8 0, .int .u8 0, .int .u8 0, .int .u8 0, .int .u8 0, .int .u8 0, .int .u8 0, .int .u8 0, .int .u8 0, .int .u8 0, .int .u8 0, .int .u8 0, .int .u8 0, .int .u8 0, .int .u8 0, .int .u8 0] 36)) (w.heap.size + 1) 36 zeroKey := ArrB.mk_ _ _ _ zeroKey (by simp) rfl
  have hz4 := Lib.hid (show ((w.alloc (.cells (k.map bv).toArray 36)).alloc (.cells #[.int .u8 0, .int .u8 0, .int .u8 0, .int .u8 0, .int .u8 0, .int .u8 0, .int .u8 0, .int .u8 0, .int .u8 0, .int .u8 0, .int .u8 0, .int .u8 0, .int .u8 0, .int .u8 0, .int .u8 0, .int .u8 0, .int .u8 0, .int .u8 0, .int .u8 0, .int .u8 0, .int .u8 0, .int .u8 0, .int .u8 0, .int .u8 0, .int .u8 0, .int .u8 0, .int .u8 0, .int .u8 0, .int .u8 0, .int .u8 0, .int .u8 0, .int .u8 0] 36)).heap.size = w.heap.size + 1 + 1 by simp)
  clear hk
  go_enter Tryd.func34, Tryd.ntmps34
  go_wp2_with fail
  have hgr : w.heap.size + 1 < w.heap.size + 1 + 1 := by omega
  generalize w.heap.size + 1 + 1 = g0 at *
  generalize ((w.alloc (.cells (k.map bv).toArray 36)).alloc (.cells #[.int .u8 0, .int .u8 0, .int .u8 0, .int .u8 0, .int .u8 0, .int .u8 0, .int .u8 0, .int .u8 0, .int .u8 0, .int .u8 0, .int .u8 0, .int .u8 0, .int .u8 0, .int .u8 0, .int .u8 0, .int .u8 0, .int .u8 0, .int .u8 0, .int .u8 0, .int .u8 0, .int .u8 0, .int .u8 0, .int .u8 0, .int .u8 0, .int .u8 0, .int .u8 0, .int .u8 0, .int .u8 0, .int .u8 0, .int .u8 0, .int .u8 0, .int .u8 0] 36)) = w4 at *
  obtain ⟨cf, wf, hcv, hC⟩ := conv_any s
  have Hcv := Lib.hid hcv
  clear hcv
  have f1 : Rd (w4.alloc (.cells #[.int .u8 99, .int .u8 111, .int .u8 116, .int .u8 101, .int .u8 114, .int .u8 105, .int .u8 101] 5 (7, 8))) (g0 + 1) (some ⟨g0, 0, none⟩) 7 (nameU.map bv) := Rd.mkFr _ _ _ _ hz4.out (by omega) rfl rfl
  have f2 : Below w4.heap.size w4 (w4.alloc (.cells #[.int .u8 99, .int .u8 111, .int .u8 116, .int .u8 101, .int .u8 114, .int .u8 105, .int .u8 101] 5 (7, 8))) := d_al _ _
  have f3 : (w4.alloc (.cells #[.int .u8 99, .int .u8 111, .int .u8 116, .int .u8 101, .int .u8 114, .int .u8 105, .int .u8 101] 5 (7, 8))).heap.size = g0 + 1 := by rw [← hz4.out]; simp
  have K0 := Lib.hid (Go.Joins.run_convert_bytes_const_at (P := Tryd.prog) w4 25 5 #[.int .u8 99, .int .u8 111, .int .u8 116, .int .u8 101, .int .u8 114, .int .u8 105, .int .u8 101] 7 7 g0 hz4.out.symm Tryd.underlying25 Tryd.underlying5)
  rw [K0.out]
  clear K0
  generalize w4.alloc (.cells #[.int .u8 99, .int .u8 111, .int .u8 116, .int .u8 101, .int .u8 114, .int .u8 105, .int .u8 101] 5 (7, 8)) = wa at *
  go_wp2_with fail
  rw [Hcv.out wa]
  have hC1 := hC wa
  clear hC Hcv
  have hc1 := hC1.cap
  have hr1 := hC1.rd
  have hb1 := hC1.below
  have hz1' := hC1.size
  rw [f3] at hr1 hz1' hb1 ⊢
  have Hz1 := Lib.hid (show g0 + 1 ≤ (wf wa).heap.size by omega)
  clear hC1 hz1'
  generalize wf wa = wb at *
  generalize cf wa = cb at *
  have hB1 : Below w4.heap.size w4 wb := f2.trans (hb1.mono (by have := hz4.out; omega))
  have f1b : Rd wb (g0 + 1) (some ⟨g0, 0, none⟩) 7 (nameU.map bv) := f1.below hb1
  clear f1 f2 f3 hb1
  have hBb : Below w.heap.size w wb := c_call hB4 hB1
  have hAb := hA4.below hB1 hA4.lt
  have hKb := hK4.below hB1 hK4.lt
  have hown0 := own_new wb wb.heap.size 25 #[.slice (some ⟨g0, 0, none⟩) 7 7, .slice (some ⟨g0 + 1, 0, none⟩) s.size cb] (Nat.le_refl _) (by simp [maxLen])
  have hal := d_al wb (.cells #[.slice (some ⟨g0, 0, none⟩) 7 7, .slice (some ⟨g0 + 1, 0, none⟩) s.size cb] 25)
  have hone := (d_txs ht hBb).one_cell
  have hvb := d_rd hv hBb
  clear hB1 hA4 hK4 hB4 hz4
  go_wp2_with (at_builtin; refine wpList_append_rd _ rfl (.tmp 16) (.tmp 17) _ rfl wb.heap.size 25 i0 _ 24 Tryd.underlying28 hi0 hz0 hz1 hz2 rfl _ 2 _ rfl hown0 wb.heap.size At m ct vs rfl (hvb.below hal) hone (by simp only [maxLen]; omega) (by omega) (al0 _ _) ?_; intro v5 w5 hown5 hgr5 hat5; obtain ⟨A5, c5, rfl, hc5, _⟩ := own_form hown5; have hB5 : Below wb.heap.size wb w5 := hal.grown hgr5 (al0 _ _) (fun g hg => (hown0.lt g hg).1))
  have hr5 := Rd.of_own hown5
  rw [show (#[Value.slice (some ⟨g0, 0, none⟩) 7 7, .slice (some ⟨g0 + 1, 0, none⟩) s.size cb] : Array Value).toList ++ vs = .slice (some ⟨g0, 0, none⟩) 7 7 :: .slice (some ⟨g0 + 1, 0, none⟩) s.size cb :: vs from rfl] at hr5
  have ht5 : Txs w5 w5.heap.size (.slice (some ⟨g0, 0, none⟩) 7 7 :: .slice (some ⟨g0 + 1, 0, none⟩) s.size cb :: vs) (nameU :: strB s :: ts) :=
    d_txs (Txs.cons (txs_one1 name_len (Nat.le_refl _) (f1b.more Hz1.out)) (Txs.cons (txs_one1 (strB_len s) hc1 hr1) (d_txs ht hBb))) hB5
  have hBc : Below w.heap.size w w5 := c_call hBb hB5
  have hA5 := hAb.below hB5 hAb.lt
  have hK5 := hKb.below hB5 hKb.lt
  have Hi := Lib.hid (show txs (nameU :: strB s :: ts) = infoU (strB s) ts from rfl)
  have HF := Lib.hid (show fitD (strB s) ts ↔ GoodT (nameU :: strB s :: ts) ∧ (infoU (strB s) ts).length ≤ 1048576 from Iff.rfl)
  have HD := Lib.hid (show deriveU k (strB s) ts = expandU k (infoU (strB s) ts) 32 from rfl)
  generalize nameU :: strB s :: ts = L at *
  generalize Value.slice (some ⟨g0, 0, none⟩) 7 7 :: Value.slice (some ⟨g0 + 1, 0, none⟩) s.size cb :: vs = V at *
  clear hAb hKb hBb hB5 hown5 hgr5 hat5 hown0 hal hone hvb f1b hr1 hv ht Hz1
  refine (refText_any none 0 0 [] A5 (2 + m) c5 V L w5 (by omega) (by omega) (Rd.zero _ _ _) hr5 ht5).mono ?_
  intro e w7 hP
  by_cases hg : GoodT L
  rotate_left
  · obtain ⟨rfl, hb7⟩ := hP.no hg
    have hA7 := hA5.below hb7 hA5.lt
    have hB7 := c_call hBc hb7
    clear hA5 hK5 hBc hb7 hP hr5 ht5
    go_wp2_with ((with_reducible show wpList _ _ _ (⟨none, Op.store 36 _ _, _, _, _, _⟩ :: _) _ _); refine wpList_store_row rfl 36 (.tmp 6) (.tmp 24) rfl (w.heap.size + 1) (zeroKey.map bv).toArray rfl rfl 36 _ hA7 key_zero rfl one_key ?_)
    exact bodyPost_ret (results_cell_tmp rfl _ _ (w.heap.size + 1) 36 _ (0, 0) _ rfl (hA7.row zeroKey) Tryd.underlying36 rfl key_zero) rfl ⟨below_setRow hB7 (by omega) _, .inr ⟨fun h => hg (HF.out.1 h).1, rfl⟩⟩
  obtain ⟨A, n, c, rfl, hown, hnc, hln0, hb7⟩ := hP.yes hg
  have hr7 := Rd.of_own hown
  rw [List.nil_append, Hi.out] at hr7
  have hln := Lib.hid (show n = (infoU (strB s) ts).length by have h := hln0.out; rwa [List.nil_append, Hi.out] at h)
  have hA7 := hA5.below hb7 hA5.lt
  have hK7 := hK5.below hb7 hK5.lt
  have hB7 := c_call hBc hb7
  clear hA5 hK5 hBc hb7 hP hr5 ht5 hown hln0
  go_wp2_with ((with_reducible show wpList _ _ _ (⟨some 27, _, _, _, _, _⟩ :: _) _ _); refine wpList_load_row rfl 36 (.tmp 3) rfl w.heap.size rfl 36 (k.map bv).toArray (0, 0) _ hK7 Tryd.underlying36 rfl (infoK32 Hk.out) ?_)
  by_cases hl : n ≤ 1048576
  rotate_left
  · refine (rExpand_long k A n c 32 _ (by omega) (by omega) (by omega)).mono ?_
    rintro e w8 ⟨rfl, hb8⟩
    have hA8 := hA7.below hb8 hA7.lt
    have hB8 := c_call hB7 hb8
    clear hA7 hK7 hr7 hb8 hB7
    go_wp2_with ((with_reducible show wpList _ _ _ (⟨none, Op.store 36 _ _, _, _, _, _⟩ :: _) _ _); refine wpList_store_row rfl 36 (.tmp 6) (.tmp 34) rfl (w.heap.size + 1) (zeroKey.map bv).toArray rfl rfl 36 _ hA8 key_zero rfl one_key ?_)
    exact bodyPost_ret (results_cell_tmp rfl _ _ (w.heap.size + 1) 36 _ (0, 0) _ rfl (hA8.row zeroKey) Tryd.underlying36 rfl key_zero) rfl ⟨below_setRow hB8 (by omega) _, .inr ⟨fun h => hl (by rw [hln.out]; exact (HF.out.1 h).2), rfl⟩⟩
  have hfD : fitD (strB s) ts := HF.out.2 ⟨hg, by rw [← hln.out]; exact hl⟩
  rw [show (32 : Int) = ((32 : Nat) : Int) from rfl]
  refine (rExpand_ok k A n c (infoU (strB s) ts) 32 _ Hk.out (by omega) hnc hl hr7 (hT.below hB7)).mono ?_
  rintro e w8 ⟨A8, c8, rfl, hc8, hr8, hb8⟩
  rw [← HD.out] at hr8
  have Hl := Lib.hid (deriveU_len k (strB s) ts)
  generalize hr0 : deriveU k (strB s) ts = r at *
  have Hr0 := Lib.hid hr0
  have hA8 := hA7.below hb8 hA7.lt
  have hB8 := c_call hB7 hb8
  have Hfd := Lib.hid hfD
  clear hA7 hK7 hr7 hb8 hB7 hnc hr0 hfD
  go_wp2_with fail
  refine (Key_any A8 c8 r _ hr8).mono ?_
  rintro e w9 ⟨rfl, hb9⟩
  have hA9 := hA8.below hb9 hA8.lt
  have hB9 := c_call hB8 hb9
  go_wp2_with ((with_reducible show wpList _ _ _ (⟨none, Op.store 36 _ _, _, _, _, _⟩ :: _) _ _); refine wpList_store_row rfl 36 (.tmp 6) (.tmp 37) rfl (w.heap.size + 1) (r.map bv).toArray rfl rfl 36 _ hA9 (infoK32 Hl.out) (sizeK Hl.out) (one_bvA _) ?_)
  exact bodyPost_ret (results_cell_tmp rfl _ _ (w.heap.size + 1) 36 _ (0, 0) _ rfl (hA9.row r) Tryd.underlying36 rfl (infoK32 Hl.out)) rfl ⟨below_setRow hB9 (by omega) _, .inl ⟨Hfd.out, by rw [Hr0.out]; rfl⟩⟩

end Go.Proofs.YtmkkghlpdnoogaaDoor
