/-
  THE WALK of MacSums (coterielaw03), for texts of bounded size; the contracts of both Extracts.
-/
import Derived.Test.YtmkkghlpdnoogaaDoorRefMacC
import Derived.Test.YtmkkghlpdnoogaaDoorMacLive
set_option linter.unusedVariables false
namespace Go.Proofs.YtmkkghlpdnoogaaDoor
open Go.RowKit

set_option maxRecDepth 1000000 in
theorem mExtract_any (A : Option Addr) (k c : Nat) (key : List UInt8) (A' : Option Addr) (k' c' : Nat) (b : List UInt8) (w : World) (hkc : k ≤ c) (hk : k ≤ 1073741824) (hkc' : k' ≤ c') (hk' : k' ≤ 1073741824)
    (hr : Rd w w.heap.size A k (key.map bv)) (hr' : Rd w w.heap.size A' k' (b.map bv)) (hT : CTab w) :
    Calls Tryd.prog 28 #[.slice A k c, .slice A' k' c'] w fun e w' => e = .returned (.agg ((macU key b).map bv).toArray) ∧ Below w.heap.size w w' := by
  have Hbl := Lib.hid (show b.length = k' by simpa using hr'.len)
  have b2 := (d_al w (.cells ((List.replicate 32 (0 : UInt8)).map bv).toArray 36)).alloc (al0 _ _) (.cells #[.slice A' k' c'] 25)
  have hZ : ArrB ((w.alloc (.cells ((List.replicate 32 (0 : UInt8)).map bv).toArray 36)).alloc (.cells #[.slice A' k' c'] 25)) w.heap.size 36 (List.replicate 32 0) := (ArrB.mk_ w _ _ _ rfl rfl).alloc _
  go_enter Tryd.func28, Tryd.ntmps28
  go_wp2_with fail
  refine (Mac_any A k c key (some ⟨w.heap.size + 1, 0, none⟩) 1 1 [.slice A' k' c'] [b] _ hkc hk (by omega) (by omega) (by have := Hbl.out; simp; omega) (d_rd hr b2) (Rd.mk_ _ _ _ (by simp) (by simp) rfl rfl) (txs_one1 Hbl.out hkc' (d_rd hr' b2)) (hT.below b2)).mono ?_
  rintro e w3 ⟨rfl, hb3⟩
  have hZ3 := hZ.below hb3 hZ.lt
  have hB3 : Below w.heap.size w w3 := c_call b2 hb3
  rw [show [b].flatten = b by simp]
  have Hl := Lib.hid (macU_len key b)
  generalize hr0 : macU key b = r at *
  have Hr0 := Lib.hid hr0
  clear hZ b2 hb3 hr0
  go_wp2_with ((with_reducible show wpList _ _ _ (⟨none, Op.store 36 _ _, _, _, _, _⟩ :: _) _ _); refine wpList_store_row rfl 36 (.tmp 4) (.tmp 8) rfl w.heap.size (r.map bv).toArray rfl rfl 36 _ hZ3 (infoK32 Hl.out) (sizeK Hl.out) (one_bvA _) ?_)
  exact bodyPost_ret (results_cell_row rfl _ _ w.heap.size 36 _ (0, 0) _ rfl (hZ3.row r) Tryd.underlying36 rfl (infoK32 Hl.out)) rfl ⟨by rw [Hr0.out], below_setRow hB3 (Nat.le_refl _) _⟩

set_option maxRecDepth 1000000 in
theorem rExtract_any (A : Option Addr) (k c : Nat) (key : List UInt8) (A' : Option Addr) (k' c' : Nat) (b : List UInt8) (w : World) (hkc : k ≤ c) (hk : k ≤ 1073741824) (hkc' : k' ≤ c') (hk' : k' ≤ 1073741824)
    (hr : Rd w w.heap.size A k (key.map bv)) (hr' : Rd w w.heap.size A' k' (b.map bv)) (hK : KTab w) :
    Calls Tryd.prog 29 #[.slice A k c, .slice A' k' c'] w fun e w' => e = .returned (.agg ((macU key b).map bv).toArray) ∧ Below w.heap.size w w' := by
  have Hbl := Lib.hid (show b.length = k' by simpa using hr'.len)
  have b2 := (d_al w (.cells ((List.replicate 32 (0 : UInt8)).map bv).toArray 36)).alloc (al0 _ _) (.cells #[.slice A' k' c'] 25)
  have hZ : ArrB ((w.alloc (.cells ((List.replicate 32 (0 : UInt8)).map bv).toArray 36)).alloc (.cells #[.slice A' k' c'] 25)) w.heap.size 36 (List.replicate 32 0) := (ArrB.mk_ w _ _ _ rfl rfl).alloc _
  go_enter Tryd.func29, Tryd.ntmps29
  go_wp2_with fail
  refine (rMac_any A k c key (some ⟨w.heap.size + 1, 0, none⟩) 1 1 [.slice A' k' c'] [b] _ hkc hk (by omega) (by have := Hbl.out; simp; omega) (d_rd hr b2) (Rd.mk_ _ _ _ (by simp) (by simp) rfl rfl) (txs_one1 Hbl.out hkc' (d_rd hr' b2)) (hK.below b2)).mono ?_
  rintro e w3 ⟨rfl, hb3⟩
  have hZ3 := hZ.below hb3 hZ.lt
  have hB3 : Below w.heap.size w w3 := c_call b2 hb3
  rw [show [b].flatten = b by simp]
  have Hl := Lib.hid (macU_len key b)
  generalize hr0 : macU key b = r at *
  have Hr0 := Lib.hid hr0
  clear hZ b2 hb3 hr0
  go_wp2_with ((with_reducible show wpList _ _ _ (⟨none, Op.store 36 _ _, _, _, _, _⟩ :: _) _ _); refine wpList_store_row rfl 36 (.tmp 4) (.tmp 8) rfl w.heap.size (r.map bv).toArray rfl rfl 36 _ hZ3 (infoK32 Hl.out) (sizeK Hl.out) (one_bvA _) ?_)
  exact bodyPost_ret (results_cell_row rfl _ _ w.heap.size 36 _ (0, 0) _ rfl (hZ3.row r) Tryd.underlying36 rfl (infoK32 Hl.out)) rfl ⟨by rw [Hr0.out], below_setRow hB3 (Nat.le_refl _) _⟩

set_option maxRecDepth 1000000 in
set_option maxHeartbeats 2000000 in
theorem walk_MacSums (A : Option Addr) (k c : Nat) (key : List UInt8) (At : Option Addr) (m ct : Nat) (vs : List Value) (ts : List (List UInt8)) (A' : Option Addr) (k' c' : Nat) (b : List UInt8) (w : World)
    (hkc : k ≤ c) (hcm : c ≤ maxLen) (hr : Rd w w.heap.size A k (key.map bv)) (hmc : m ≤ ct) (hct : ct ≤ maxLen) (hv : Rd w w.heap.size At m vs) (ht : Txs w w.heap.size vs ts)
    (hkc' : k' ≤ c') (hcm' : c' ≤ maxLen) (hr' : Rd w w.heap.size A' k' (b.map bv)) (hK : KTab w) (hT : CTab w) (hu0 : k + 1 ≤ 1048576) (hu : ts.flatten.length + m ≤ 1048576) (hu2 : k' + 1 ≤ 1048576) :
    Calls Tryd.prog 4 #[.slice A k c, .slice At m ct, .slice A' k' c'] w fun e w' => e = .returned (.bool true) ∧ Below w.heap.size w w' := by
  have Hu := Lib.hid hu
  have u1 : m ≤ 1048576 := by omega
  clear hu
  go_enter Tryd.func4, Tryd.ntmps4
  go_wp2_with fail
  refine (live03 _ hT).mono ?_
  rintro e w2 ⟨rfl, hB2⟩
  by_cases hk : k ≤ 2000
  rotate_left
  · go_wp2_with fail
    go_ret
    exact ⟨rfl, hB2⟩
  by_cases hk' : k' ≤ 2000
  rotate_left
  · go_wp2_with (go_at_call 12; refine (Few_any At m ct vs ts _ _ (by omega) (d_rd hv hB2) (d_txs ht hB2)).mono ?_; rintro e wf ⟨bf, rfl, hbf, rfl⟩; clear hbf; cases bf)
    all_goals
      go_ret
      exact ⟨rfl, hB2⟩
  have Hml := Lib.hid (macU_len key ts.flatten)
  have Hml2 := Lib.hid (macU_len key b)
  have hq1 := fun wx : World => key_same wx (macU key ts.flatten) (macU_len _ _)
  have hq2 := fun wx : World => key_same wx (macU key b) (macU_len _ _)
  have c1 : k ≤ 1073741824 := by omega
  have c2 : k' ≤ 1073741824 := by omega
  have c3 : m ≤ 1073741823 := by omega
  have c4 := Lib.hid (show ts.flatten.length ≤ 1073741824 by have := Hu.out; omega)
  have hss : ∀ s : Bool, (s == s) = true := by intro s; cases s <;> rfl
  go_wp2_with (first
    | (go_at_call 12; refine (Few_any At m ct vs ts _ _ (by omega) (d_rd hv hB2) (d_txs ht hB2)).mono ?_; rintro e wf ⟨bf, rfl, hbf, rfl⟩; clear hbf; cases bf)
    | (go_at_call 26; refine (Mac_any A k c key At m ct vs ts _ hkc c1 hmc c3 c4.out (d_rd hr hB2) (d_rd hv hB2) (d_txs ht hB2) (hT.below hB2)).mono ?_; rintro e w3 ⟨rfl, hb3⟩; have hB3 := c_call hB2 hb3)
    | (go_at_call 27; refine (rMac_any A k c key At m ct vs ts _ hkc c1 c3 c4.out (d_rd hr hB3) (d_rd hv hB3) (d_txs ht hB3) (hK.below hB3)).mono ?_; rintro e w4 ⟨rfl, hb4⟩; have hB4 := c_call hB3 hb4)
    | (go_at_call 28; refine (mExtract_any A k c key A' k' c' b _ hkc c1 hkc' c2 (d_rd hr hB4) (d_rd hr' hB4) (hT.below hB4)).mono ?_; rintro e w5 ⟨rfl, hb5⟩; have hB5 := c_call hB4 hb5)
    | (go_at_call 29; refine (rExtract_any A k c key A' k' c' b _ hkc c1 hkc' c2 (d_rd hr hB5) (d_rd hr' hB5) (hK.below hB5)).mono ?_; rintro e w6 ⟨rfl, hb6⟩; have hB6 := c_call hB5 hb6)
    | (go_at_call 30; refine (mEqual_any A A' k c k' c' key b _ _ _ (by omega) (by omega) (d_rd hr hB6) (d_rd hr' hB6)).mono ?_; rintro e w7 ⟨rfl, rfl⟩)
    | (go_at_call 24; refine (Same_any A A' k c k' c' key b _ _ _ (d_rd hr hB6) (d_rd hr' hB6)).mono ?_; rintro e w8 ⟨rfl, rfl⟩; generalize sameB key b = s at *))
  · go_ret
    exact ⟨rfl, hB2⟩
  · go_ret
    exact ⟨rfl, hB6⟩

end Go.Proofs.YtmkkghlpdnoogaaDoor
