/-
  THE WALK of ShaParts (coterielaw02).
-/
import Derived.Test.YtjgacdhoopecgaaDoorShaPartsA
set_option linter.unusedVariables false
namespace Go.Proofs.YtjgacdhoopecgaaDoor
open Go.RowKit

set_option maxRecDepth 1000000 in
set_option maxHeartbeats 2000000 in
theorem walk_ShaParts (At : Option Addr) (m ct : Nat) (vs : List Value) (ts : List (List UInt8)) (Au : Option Addr) (mu cu : Nat) (us : List Value) (xs : List (List UInt8)) (w : World)
    (hmc : m ≤ ct) (hct : ct ≤ maxLen) (hv : Rd w w.heap.size At m vs) (ht : Txs w w.heap.size vs ts) (huc : mu ≤ cu) (hcu : cu ≤ maxLen) (hv' : Rd w w.heap.size Au mu us) (ht' : Txs w w.heap.size us xs) (hT : CTab w)
    (hu : ts.flatten.length + m ≤ 1048576) (hu' : xs.flatten.length + mu ≤ 1048576) :
    Calls Tryd.prog 5 #[.slice At m ct, .slice Au mu cu] w fun e w' => e = .returned (.bool true) ∧ Below w.heap.size w w' := by
  have hvl : vs.length = m := hv.len
  have htl : ts.length = m := by rw [← ht.1, hvl]
  have Hvl := Lib.hid hvl
  have Htl := Lib.hid htl
  have Hu := Lib.hid hu
  have Hu' := Lib.hid hu'
  have u1 : m ≤ 5864062014805 := by omega
  have u1' : mu ≤ 5864062014805 := by omega
  have u2 : ts.flatten.length ≤ 1099511627776 := by omega
  have u2' : xs.flatten.length ≤ 1099511627776 := by omega
  clear hu hu' hvl htl
  go_enter Tryd.func5, Tryd.ntmps5
  go_wp2_with fail
  refine (live_any _ hT).mono ?_
  rintro e w2 ⟨rfl, hB2⟩
  go_wp2_with fail
  refine (Few_any At m ct vs ts _ _ u1 (hv.below hB2) (ht.below hB2)).mono ?_
  rintro e w3 ⟨b, rfl, hb200, rfl⟩
  clear hb200
  cases b
  · go_wp2_with fail
    go_ret
    exact ⟨rfl, hB2⟩
  go_wp2_with fail
  refine (Few_any Au mu cu us xs _ _ u1' (hv'.below hB2) (ht'.below hB2)).mono ?_
  rintro e w3 ⟨b, rfl, hb200, rfl⟩
  clear hb200
  cases b
  · go_wp2_with fail
    go_ret
    exact ⟨rfl, hB2⟩
  go_wp2_with fail
  refine (New_any _).mono ?_
  rintro e w4 ⟨rfl, hb4⟩
  have hB4 : Below w.heap.size w w4 := hB2.trans (hb4.mono hB2.size)
  clear hb4 hB2
  go_wp2_with (((with_reducible show wpList _ _ _ (⟨none, Op.store 35 _ _, _, _, _, _⟩ :: _) _ _); refine wpList_store_row rfl 35 (.tmp 6) (.tmp 27) rfl (w4.heap.size) (shaL firstU 0 (.slice none 0 0)).toArray rfl rfl 35 (zeroSha).toArray (heap_alloc_new _ _) infoSha rfl (one_sha _ _ _ _ _) ?_; rw [World.setRow_alloc_new]))
  go_loopw [30] (fun i wr => ∃ (q : Nat) (A : Option Addr) (k c : Nat), q ≤ m ∧ i = .int .i64 (q : Int) ∧ ShaAt wr w4.heap.size (hU (ts.take q).flatten) (ts.take q).flatten.length (.slice A k c) ∧ StU wr (w4.heap.size + 1) (ts.take q).flatten A k c ∧ Below w.heap.size w wr) (fun i _ => m - (intOf i).toNat)
  case atStart =>
    refine ⟨0, none, 0, 0, by omega, rfl, ?_, ?_, hB4.alloc hB4.size _⟩
    · rw [List.take_zero, List.flatten_nil]
      exact ⟨rfl, heap_alloc_new w4 (.cells (shaL firstU 0 (.slice none 0 0)).toArray 35)⟩
    · rw [List.take_zero, List.flatten_nil]
      exact StU.nil _ _
  case round =>
    obtain ⟨q, A, k, c, hq, rfl, hS, hst, hB⟩ := hrel
    by_cases hlt : q < m
    · obtain ⟨v, hvq⟩ : ∃ v, vs[q]? = some v := ⟨_, List.getElem?_eq_getElem (by have := Hvl.out; omega)⟩
      obtain ⟨t, htq⟩ : ∃ t, ts[q]? = some t := ⟨_, List.getElem?_eq_getElem (by have := Htl.out; omega)⟩
      obtain ⟨b, o, rfl, hb, hc⟩ := (hv.below hB).pos (by omega)
      obtain ⟨Ax, cx, rfl, hcx, hrx⟩ := ht.2 q v t hvq htq
      have hcell := hc q _ hvq
      have Hsn := Lib.hid (flat_take_succ htq)
      have Hle := Lib.hid (show (ts.take q).flatten.length + t.length ≤ 1048576 by
        have h1 := flat_take_le ts (q + 1)
        rw [flat_take_succ htq, List.length_append] at h1
        have := Hu.out
        omega)
      generalize hL : (ts.take q).flatten = L at *
      clear hL hvq htq hc
      go_wp2_with (((with_reducible show wpList _ _ _ (⟨some 35, _, _, _, _, _⟩ :: _) _ _); refine wpList_load_row rfl 35 (.tmp 6) rfl (w4.heap.size) rfl 35 (shaL (hU L) L.length (.slice A k c)).toArray (0, 0) _ hS.2 Tryd.underlying35 rfl (infoL _ _ _) ?_))
      refine calls_gen (fun wx => ((Rd wx wx.heap.size (some ⟨wr.heap.size, 0, none⟩) 1 [.slice Ax t.length cx] ∧ Rd wx wx.heap.size Ax t.length (t.map bv)) ∧ ShaAt wx w4.heap.size (hU L) L.length (.slice A k c) ∧ StU wx (w4.heap.size + 1) L A k c) ∧ Below w.heap.size w wx) ?_ ?_
      · exact ⟨⟨⟨Rd.mk_ _ _ _ rfl (by simp) rfl rfl, ((hrx.below hB).alloc hB.size _).more (Nat.le_trans hB.size (al0 _ _))⟩, hS.alloc _, hst.go ((Below.refl _ _).alloc (Nat.le_refl _) _)⟩, hB.alloc hB.size _⟩
      clear hS hst hcell hrx hB
      rintro w5 ⟨⟨⟨hr1, hr2⟩, hS5, hst5⟩, hB5⟩
      refine (Write_L L A k c (some ⟨wr.heap.size, 0, none⟩) 1 1 [.slice Ax t.length cx] [t] w5 hst5 (by omega) (by have := Hle.out; simp only [List.flatten_cons, List.flatten_nil, List.append_nil]; omega) hr1 (txs_one rfl hcx hr2) (hT.below hB5)).mono ?_
      rintro e w6 ⟨A6, k6, c6, rfl, hst6, hb6⟩
      rw [show [t].flatten = t by simp] at hst6 ⊢
      have hB6 : Below w.heap.size w w6 := hB5.trans (hb6.mono hB5.size)
      have hS6 : ShaAt w6 w4.heap.size (hU L) L.length (.slice A k c) := hS5.below hb6 hS5.lt
      have hst7 := hst6.base (base := w4.heap.size + 1) hS5.lt
      have hg4 : w.heap.size ≤ w4.heap.size := hB4.size
      clear hr1 hr2 hb6 hB5 hst5 hS5 hst6
      generalize hL2 : L ++ t = L2 at *
      clear hL2
      go_wp2_with (first
        | ((with_reducible show wpList _ _ _ (⟨none, Op.store 35 (.tmp 9) _, _, _, _, _⟩ :: _) _ _); refine wpList_store_row rfl 35 (.tmp 9) (.tmp 39) rfl (w6.heap.size) (shaL (hU L2) L2.length (.slice A6 k6 c6)).toArray rfl rfl 35 (zeroSha).toArray (heap_alloc_new _ _) (infoL _ _ _) (zeroL _ _ _) (one_sha _ _ _ _ _) ?_; rw [World.setRow_alloc_new])
        | ((with_reducible show wpList _ _ _ (⟨none, Op.store 35 (.tmp 6) _, _, _, _, _⟩ :: _) _ _); refine wpList_store_row rfl 35 (.tmp 6) (.tmp 43) rfl (w4.heap.size) (shaL (hU L2) L2.length (.slice A6 k6 c6)).toArray rfl rfl 35 (shaL (hU L) L.length (.slice A k c)).toArray (hS6.alloc _).2 (infoL _ _ _) (by simp [shaL_len (hU_len _)]) (one_sha _ _ _ _ _) ?_)
        | ((with_reducible show wpList _ _ _ (⟨some 43, _, _, _, _, _⟩ :: _) _ _); refine wpList_load_row rfl 35 (.tmp 9) rfl (w6.heap.size) rfl 35 (shaL (hU L2) L2.length (.slice A6 k6 c6)).toArray (0, 0) _ (heap_alloc_new _ _) Tryd.underlying35 rfl (infoL _ _ _) ?_))
      go_round
      case rel =>
        refine ⟨q + 1, A6, k6, c6, by omega, by go_num, ?_, ?_, ?_⟩
        · rw [Hsn.out]; exact (hS6.alloc _).rowOf (hU_len _) _ _
        · rw [Hsn.out]; exact (hst7.go ((Below.refl _ _).alloc (Nat.le_refl _) _)).row (Nat.lt_succ_self _) _
        · exact below_setRow (hB6.alloc hB6.size _) hg4 _
      case measure => simp [intOf]; omega
    · obtain rfl : q = m := by omega
      have Hall := Lib.hid (show (ts.take q).flatten = ts.flatten by rw [List.take_of_length_le (by have := Htl.out; omega)])
      rw [Hall.out] at hS hst
      have hAll := fun (wx : World) (hbx : Below w.heap.size w wx) => All_any At q ct vs ts wx u1 u2 (d_rd hv hbx) (d_txs ht hbx)
      have hAllX := fun (wx : World) (hbx : Below w.heap.size w wx) => All_any Au mu cu us xs wx u1' u2' (d_rd hv' hbx) (d_txs ht' hbx)
      have hSumX := fun (A : Option Addr) (n c : Nat) (wx : World) (hbx : Below w.heap.size w wx) (hn : n ≤ 5864062014805) (hr : Rd wx wx.heap.size A n (vs ++ us)) => pSum_any A n c (vs ++ us) (ts ++ xs) wx hn (by rw [List.flatten_append, List.length_append]; have := Hu.out; have := Hu'.out; omega) hr ((d_txs ht hbx).append (d_txs ht' hbx)) (hT.below hbx)
      simp only [List.flatten_append] at hSumX
      have wL := fun (X : List UInt8) (hX : xs.flatten = X) (wx : World) (hst : StU wx (w4.heap.size + 1) ts.flatten A k c) (hl : ts.flatten.length + X.length ≤ 1099511627776) (hr : Rd wx wx.heap.size Au mu us) (htx : Txs wx wx.heap.size us xs) (hTx : CTab wx) => (hX ▸ Write_L ts.flatten A k c Au mu cu us xs wx hst u1' (hX ▸ hl) hr htx hTx : Calls Tryd.prog 15 #[.agg (shaL (hU ts.flatten) ts.flatten.length (.slice A k c)).toArray, .slice Au mu cu] wx fun e w' => ∃ A' k' c', e = .returned (.tuple #[.agg (shaL (hU (ts.flatten ++ X)) (ts.flatten ++ X).length (.slice A' k' c')).toArray, .int .i64 0]) ∧ StU w' wx.heap.size (ts.flatten ++ X) A' k' c' ∧ Below wx.heap.size wx w')
      generalize hL : ts.flatten = L at *
      generalize hX : xs.flatten = X at *
      have hchk := hst.2
      go_wp2_with fail
      refine (New_any _).mono ?_
      rintro e w7 ⟨rfl, hb7⟩
      have hS7 := hS.below hb7 hS.lt
      have hst7 := hst.go hb7
      have hB7 : Below w.heap.size w w7 := hB.trans (hb7.mono hB.size)
      clear hS hst hB hb7
      go_wp2_with fail
      refine (hAll _ hB7).mono ?_
      rintro e w8 ⟨A8, n8, c8, rfl, hn8, hown8, hb8⟩
      have hx8 := Rd.of_own hown8
      have hl8 : L.length = n8 := by have := hx8.len; simpa using this
      have hS8 := hS7.below hb8 hS7.lt
      have hst8 := hst7.go hb8
      have hB8 : Below w.heap.size w w8 := hB7.trans (hb8.mono hB7.size)
      have Hl8 := Lib.hid hl8
      clear hS7 hst7 hB7 hb8 hown8 hl8
      go_wp2_with fail
      refine calls_gen (fun wx => ((Rd wx wx.heap.size (some ⟨w8.heap.size, 0, none⟩) 1 [.slice A8 n8 c8] ∧ Rd wx wx.heap.size A8 n8 (L.map bv)) ∧ ShaAt wx w4.heap.size (hU L) L.length (.slice A k c) ∧ StU wx (w4.heap.size + 1) L A k c) ∧ Below w.heap.size w wx) ?_ ?_
      · exact ⟨⟨⟨Rd.mk_ _ _ _ rfl (by simp) rfl rfl, d_rd hx8 (d_al _ _)⟩, hS8.alloc _, hst8.go (d_al _ _)⟩, hB8.alloc hB8.size _⟩
      clear hS8 hst8 hx8 hB8
      rintro w9 ⟨⟨⟨hr1, hr2⟩, hS9, hst9⟩, hB9⟩
      refine (Write_L0 L A8 n8 c8 (some ⟨w8.heap.size, 0, none⟩) 1 w9 Hl8.out hn8 (by omega) hr1 hr2 (hT.below hB9)).mono ?_
      rintro e w10 ⟨A10, k10, c10, rfl, hst10, hb10⟩
      have hS10 := hS9.below hb10 hS9.lt
      have hstA := hst9.go hb10
      have hB10 : Below w.heap.size w w10 := hB9.trans (hb10.mono hB9.size)
      have b1 : L.length < 18446744073709551616 := by omega
      have b2 : k ≤ 9223372036854775807 := by have := (chk_true hchk).2; omega
      clear hr1 hr2 hS9 hst9 hb10 hB9
      go_wp2_with (first
        | ((with_reducible show wpList _ _ _ (⟨none, Op.store 35 _ _, _, _, _, _⟩ :: _) _ _); refine wpList_store_row rfl 35 (.tmp 11) (.tmp 51) rfl (w10.heap.size) (shaL (hU L) L.length (.slice A10 k10 c10)).toArray rfl rfl 35 (zeroSha).toArray (heap_alloc_new _ _) (infoL _ _ _) (zeroL _ _ _) (one_sha _ _ _ _ _) ?_; rw [World.setRow_alloc_new])
        | ((with_reducible show wpList _ _ _ (⟨some 56, _, _, _, _, _⟩ :: _) _ _); refine wpList_load_rowG rfl 35 (.tmp 6) rfl (w4.heap.size) rfl 35 (shaL (hU L) L.length (.slice A k c)).toArray (0, 0) _ (hS10.alloc _).2 Tryd.underlying35 rfl (infoL _ _ _) ?_)
        | ((with_reducible show wpList _ _ _ (⟨some 57, _, _, _, _, _⟩ :: _) _ _); refine wpList_load_rowG rfl 35 (.tmp 11) rfl (w10.heap.size) rfl 35 (shaL (hU L) L.length (.slice A10 k10 c10)).toArray (0, 0) _ (heap_alloc_new _ _) Tryd.underlying35 rfl (infoL _ _ _) ?_)
        | (go_at_call 22; refine (pSame_any (hU L) (hU L) L.length L.length A A10 k c k10 c10 (tU L) (tU L) _ (hU_len L) (hU_len L) (d_rd hstA.rd (d_al _ _)) (d_rd hst10.rd (d_al _ _))).mono ?_; rintro e w12 ⟨rfl, hb12⟩; rw [sameSha_refl]; have hS12 := (hS10.alloc (.cells (shaL (hU L) L.length (.slice A10 k10 c10)).toArray 35)).below hb12 (hS10.alloc _).lt; have hst12 := (hstA.go (d_al _ (.cells (shaL (hU L) L.length (.slice A10 k10 c10)).toArray 35))).go hb12; have hB12 : Below w.heap.size w w12 := (hB10.alloc hB10.size (.cells (shaL (hU L) L.length (.slice A10 k10 c10)).toArray 35)).trans (hb12.mono (hB10.alloc hB10.size _).size))
        | ((with_reducible show wpList _ _ _ (⟨some 62, _, _, _, _, _⟩ :: _) _ _); refine wpList_load_rowG rfl 35 (.tmp 6) rfl (w4.heap.size) rfl 35 (shaL (hU L) L.length (.slice A k c)).toArray (0, 0) _ hS12.2 Tryd.underlying35 rfl (infoL _ _ _) ?_)
        | (go_at_call 20; refine (Check_any (hU L) L.length A k c _ (hU_len L) b1 b2).mono ?_; rintro e w13 ⟨rfl, hb13⟩; rw [hchk, show errC true = 0 from rfl]; have hS13 := hS12.below hb13 hS12.lt; have hst13 := hst12.go hb13; have hB13 : Below w.heap.size w w13 := hB12.trans (hb13.mono hB12.size))
        | ((with_reducible show wpList _ _ _ (⟨some 67, _, _, _, _, _⟩ :: _) _ _); refine wpList_load_row rfl 35 (.tmp 6) rfl (w4.heap.size) rfl 35 (shaL (hU L) L.length (.slice A k c)).toArray (0, 0) _ hS13.2 Tryd.underlying35 rfl (infoL _ _ _) ?_))
      clear hS10 hstA hst10 hb12 hS12 hst12 hB12 hb13 hB10
      have hLX : L.length + X.length ≤ 1099511627776 := by have := Hu.out; have := Hu'.out; omega
      refine (wL X rfl w13 hst13 hLX (d_rd hv' hB13) (d_txs ht' hB13) (hT.below hB13)).mono ?_
      rintro e w14 ⟨A14, k14, c14, rfl, hst14, hb14⟩
      have hS14 := hS13.below hb14 hS13.lt
      have hB14 : Below w.heap.size w w14 := hB13.trans (hb14.mono hB13.size)
      have hMl : (L ++ X).length = L.length + X.length := List.length_append
      generalize hM : L ++ X = M at *
      have HMl := Lib.hid hMl
      have bM : M.length < 18446744073709551616 := by omega
      have hsM : doneU (hU M) M.length (tU M) = sumU M := sum_done M
      have K1 := Lib.hid (show (Tryd.prog.info? 28).map (·.size) = some (((sumU M).map bv).toArray).size by rw [info32]; simp [sumU_len])
      have K2 := Lib.hid (show (((List.replicate 32 (0 : UInt8)).map bv).toArray).size = (((sumU M).map bv).toArray).size by simp [sumU_len])
      have K3 := Lib.hid (one_bvA (sumU M))
      clear hb14 hS13 hst13 hB13 hM hMl
      go_wp2_with (first
        | ((with_reducible show wpList _ _ _ (⟨none, Op.store 35 _ _, _, _, _, _⟩ :: _) _ _); refine wpList_store_row rfl 35 (.tmp 13) (.tmp 70) rfl (w14.heap.size) (shaL (hU M) M.length (.slice A14 k14 c14)).toArray rfl rfl 35 (zeroSha).toArray (heap_alloc_new _ _) (infoL _ _ _) (zeroL _ _ _) (one_sha _ _ _ _ _) ?_; rw [World.setRow_alloc_new])
        | ((with_reducible show wpList _ _ _ (⟨some 73, _, _, _, _, _⟩ :: _) _ _); refine wpList_load_row rfl 35 (.tmp 13) rfl (w14.heap.size) rfl 35 (shaL (hU M) M.length (.slice A14 k14 c14)).toArray (0, 0) _ (heap_alloc_new _ _) Tryd.underlying35 rfl (infoL _ _ _) ?_)
        | (go_at_call 17; refine (Done_ok (hU M) M.length A14 k14 c14 (tU M) _ (hU_len M) bM (d_rd hst14.rd (d_al _ _)) (hT.below (hB14.alloc hB14.size _)) hst14.2).mono ?_; rintro e w15 ⟨rfl, hb15⟩; rw [hsM]; have hSM15 := (show ShaAt (w14.alloc (.cells (shaL (hU M) M.length (.slice A14 k14 c14)).toArray 35)) w14.heap.size (hU M) M.length (.slice A14 k14 c14) from ⟨hU_len M, heap_alloc_new _ _⟩).below hb15 (by simp); have hS15 := (hS14.alloc (.cells (shaL (hU M) M.length (.slice A14 k14 c14)).toArray 35)).below hb15 (hS14.alloc _).lt; have hB15 : Below w.heap.size w w15 := (hB14.alloc hB14.size (.cells (shaL (hU M) M.length (.slice A14 k14 c14)).toArray 35)).trans (hb15.mono (hB14.alloc hB14.size _).size))
        | ((with_reducible show wpList _ _ _ (⟨none, Op.store 28 _ _, _, _, _, _⟩ :: _) _ _); refine wpList_store_row rfl 28 (.tmp 15) (.tmp 75) rfl (w15.heap.size) ((sumU M).map bv).toArray rfl rfl 28 ((List.replicate 32 (0 : UInt8)).map bv).toArray (heap_alloc_new _ _) K1.out K2.out K3.out ?_; rw [World.setRow_alloc_new]))
      have hSM16 := hSM15.alloc (.cells ((sumU M).map bv).toArray 28)
      have hS16 := hS15.alloc (.cells ((sumU M).map bv).toArray 28)
      have hB16 : Below w.heap.size w (w15.alloc (.cells ((sumU M).map bv).toArray 28)) := hB15.alloc hB15.size _
      have hkeep : ∀ wx : World, Below (w15.alloc (.cells ((sumU M).map bv).toArray 28)).heap.size (w15.alloc (.cells ((sumU M).map bv).toArray 28)) wx → wx.rangeAt w15.heap.size 0 ((sumU M).map bv) ∧ wx.cell? ⟨w14.heap.size, 8, none⟩ = some (.int .u64 (M.length : Int)) ∧ wx.cell? ⟨w4.heap.size, 8, none⟩ = some (.int .u64 (L.length : Int)) :=
        fun wx hb => ⟨new_range rfl wx hb, (hSM16.below hb hSM16.lt).cellN, (hS16.below hb hS16.lt).cellN⟩
      generalize w15.alloc (.cells ((sumU M).map bv).toArray 28) = w16 at *
      have hq := fun wx : World => key_same wx (sumU M) (sumU_len _)
      have hund := Tryd.underlying28
      have hinf : (Tryd.prog.info? 28).map (·.size) = some ((sumU M).map bv).length := by rw [info32]; simp [sumU_len]
      have n1 : IntKind.u64.wrap ((L.length : Int) + (X.length : Int)) = (M.length : Int) := by rw [IntKind.wrap_u64]; have := HMl.out; omega
      have n2 : IntKind.u64.wrap (X.length : Int) = (X.length : Int) := by rw [IntKind.wrap_u64]; omega
      have Hu1 := Lib.hid (show q ≤ 1048576 by have := Hu.out; omega)
      have Hu2 := Lib.hid (show mu ≤ 1048576 by have := Hu'.out; omega)
      obtain ⟨i0, hi0, hz0, hz1, hz2⟩ := info_parts textInfo
      clear hS14 hst14 hB14 hb15 hSM15 hS15 hB15 hSM16 hS16
      go_region_held3 (fun wx => wx.rangeAt w15.heap.size 0 ((sumU M).map bv) ∧ wx.cell? ⟨w14.heap.size, 8, none⟩ = some (.int .u64 (M.length : Int)) ∧ wx.cell? ⟨w4.heap.size, 8, none⟩ = some (.int .u64 (L.length : Int)))
        (exact hkeep _ (by ((repeat (first | exact c_refl _ | exact hBa | exact hBb | refine c_drew ?_ | refine c_call ?_ hbs | refine c_call ?_ hbx)); first | done | fail "open")))
        (first
          | (refine step_append_rd (by rfl) (.const (.slice none 0 0)) (.tmp 88) _ rfl w16.heap.size 25 i0 _ 24 Tryd.underlying22 hi0 hz0 hz1 hz2 rfl (.slice none 0 0) 0 [] rfl (World.ownsRow_nil _ _ _ _) _ At q ct vs rfl (d_rd hv (by ((repeat (first | exact c_refl _ | exact hB16 | refine c_drew ?_)); first | done | fail "open"))) ht.one_cell (by have := Hu1.out; simp only [maxLen]; omega) (by have := Hu1.out; omega) (show Below w16.heap.size w16 _ from (by ((repeat (first | exact c_refl _ | exact hB16 | refine c_drew ?_)); first | done | fail "open"))).size ?_; intro va wa howna hgra; have hBa : Below w16.heap.size w16 wa := (show Below w16.heap.size w16 _ from (by ((repeat (first | exact c_refl _ | exact hB16 | refine c_drew ?_)); first | done | fail "open"))).grown hgra (show Below w16.heap.size w16 _ from (by ((repeat (first | exact c_refl _ | exact hB16 | refine c_drew ?_)); first | done | fail "open"))).size (by simp [Value.ownBlock]))
          | (refine step_append_rd (by rfl) (.tmp 89) (.tmp 90) _ rfl w16.heap.size 25 i0 _ 24 Tryd.underlying22 hi0 hz0 hz1 hz2 rfl va q vs rfl (by simpa using howna) _ Au mu cu us rfl (d_rd hv' (by ((repeat (first | exact c_refl _ | exact hBa | exact hB16.trans (hBa.mono hB16.size) | refine c_drew ?_)); first | done | fail "open"))) ht'.one_cell (by have := Hu1.out; have := Hu2.out; simp only [maxLen]; omega) (by have := Hu1.out; have := Hu2.out; omega) (show Below w16.heap.size w16 _ from (by ((repeat (first | exact c_refl _ | exact hBa | exact hB16.trans (hBa.mono hB16.size) | refine c_drew ?_)); first | done | fail "open"))).size ?_; intro vb wb hownb hgrb; have hBb : Below w16.heap.size w16 wb := (show Below w16.heap.size w16 _ from (by ((repeat (first | exact c_refl _ | exact hBa | exact hB16.trans (hBa.mono hB16.size) | refine c_drew ?_)); first | done | fail "open"))).grown hgrb (show Below w16.heap.size w16 _ from (by ((repeat (first | exact c_refl _ | exact hBa | exact hB16.trans (hBa.mono hB16.size) | refine c_drew ?_)); first | done | fail "open"))).size (fun g hg => (howna.lt g hg).1); obtain ⟨Ab, cb, rfl, hcb, _⟩ := own_form hownb; have hRb := Rd.of_own hownb)
          | (go_at_call 11; refine (hSumX Ab (q + mu) cb _ (by ((repeat (first | exact c_refl _ | exact hBb | exact hB16.trans (hBb.mono hB16.size) | refine c_drew ?_)); first | done | fail "open")) (by have := Hu1.out; have := Hu2.out; omega) (d_rd hRb (by ((repeat (first | exact c_refl _ | refine c_drew ?_)); first | done | fail "open")))).mono ?_; rintro e ws ⟨rfl, hbs⟩)
          | (go_at_call 10; refine (hAllX _ (by ((repeat (first | exact c_refl _ | exact hBb | exact hB16.trans (hBb.mono hB16.size) | refine c_drew ?_ | refine c_call ?_ hbs)); first | done | fail "open"))).mono ?_; rintro e wy ⟨Ay, ny, cy, rfl, hny, howny, hbx⟩; obtain rfl : X.length = ny := by have := (Rd.of_own howny).len; simpa using this))
      have hE : Below w.heap.size w wy := c_call (c_call (hB16.trans (hBb.mono hB16.size)) hbs) hbx
      go_wp2_with fail
      go_ret
      exact ⟨rfl, hE⟩

end Go.Proofs.YtjgacdhoopecgaaDoor
