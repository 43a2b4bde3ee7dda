/-
  CONTRACTS of the document's own padded (a long key), Mac and Extract (coterieref03).
-/
import Derived.Test.YtmkkghlpdnoogaaDoorRefMac
set_option linter.unusedVariables false
namespace Go.Proofs.YtmkkghlpdnoogaaDoor
open Go.RowKit

set_option maxRecDepth 100000 in
set_option maxHeartbeats 1000000 in
theorem padded_big (A : Option Addr) (k c : Nat) (key : List UInt8) (x : UInt8) (w : World) (hkc : k ≤ c) (hk : k ≤ 1073741824) (hr : Rd w w.heap.size A k (key.map bv)) (hK : KTab w) (hs : ¬ k ≤ 64) :
    Calls Tryd.prog 50 #[.slice A k c, .int .u8 (x.toNat : Int)] w (PadPost w key x) := by
  have Hkl := Lib.hid (show key.length = k by simpa using hr.len)
  have Hsl := Lib.hid (sumU_len key)
  obtain ⟨p, hp⟩ : ∃ p, padK (sumU key) = p := ⟨_, rfl⟩
  have HP := Lib.hid hp
  have Hpl := Lib.hid (show p.length = 64 by rw [← hp]; exact padK_len _)
  have Hxp := Lib.hid (show p.map (· ^^^ x) = xorK key x by rw [← hp, padK_sum key (by have := Hkl.out; omega)]; rfl)
  unfold PadPost
  rw [← Hxp.out]
  clear hp Hxp
  go_enter Tryd.func50, Tryd.ntmps50
  go_wp2_with fail
  refine (Sum_any _ 1 1 [.slice A k c] [key] _ (by omega) (by have := Hkl.out; simp; omega) (Rd.mk_ _ _ _ rfl (by simp) rfl rfl) (txs_one1 Hkl.out hkc (d_rd hr (d_al _ _))) (hK.below (d_al _ _))).mono ?_
  rintro e w3 ⟨rfl, hb3⟩
  have hB3 : Below w.heap.size w w3 := c_call (d_al _ _) hb3
  rw [show [key].flatten = key by simp]
  generalize sumU key = s at *
  clear hb3 hr
  have hA4 : ArrB (w3.alloc (.cells (s.map bv).toArray 36)) w3.heap.size 36 s := ArrB.mk_ _ _ _ _ rfl rfl
  have hB4 := c_alloc hB3 (.cells (s.map bv).toArray 36)
  go_wp2_with ((with_reducible show wpList _ _ _ (⟨none, Op.store 36 _ _, _, _, _, _⟩ :: _) _ _); refine wpList_store_row rfl 36 (.tmp 5) (.tmp 13) rfl w3.heap.size (s.map bv).toArray rfl rfl 36 ((List.replicate 32 (0 : UInt8)).map bv).toArray (heap_alloc_new _ _) (infoK32 Hsl.out) (sizeK Hsl.out) (one_bvA _) ?_; rw [World.setRow_alloc_new]; refine wpList_gen (fun wx => ArrB wx w3.heap.size 36 s ∧ Below w.heap.size w wx) ⟨hA4, hB4⟩ ?_; rintro w4 ⟨hQ4, hC4⟩; have hr4 := hQ4.rd Hsl.out; generalize w3.heap.size = gS at *; clear hA4 hB4 hB3 hQ4; obtain ⟨wm, hmk, hAm, hBm⟩ := make_bytes 64 w4 .i64 64 rfl (by omega); have hBw : Below w.heap.size w wm := c_call hC4 hBm; have hrm : Rd wm w4.heap.size (some ⟨gS, 0, none⟩) 32 (s.map bv) := (hr4).below hBm; have hgw : w.heap.size ≤ w4.heap.size := (hC4).size; generalize hgm : w4.heap.size = gm at *; clear hBm)
  go_loopw [18] (fun i wr => ∃ j : Nat, j ≤ 64 ∧ i = .int .i64 (j : Int) ∧ ArrB wr (gm) 5 (padX p x j) ∧ Rd wr (gm) (some ⟨gS, 0, none⟩) 32 (s.map bv) ∧ Below w.heap.size w wr) (fun i _ => 64 - (intOf i).toNat)
  case atStart => exact ⟨0, by omega, rfl, by rw [padX_zero]; exact hAm, hrm, hBw⟩
  case round =>
    obtain ⟨j, hj, rfl, hA, hR, hB⟩ := hrel
    by_cases hlt : j < 64
    · have f0 := hA.frozen j
      have hpl := padX_len x Hpl.out hj
      obtain ⟨z0, hz0⟩ : ∃ z0, (padX p x j)[j]? = some z0 := ⟨_, List.getElem?_eq_getElem (by omega)⟩
      have c0 := hA.cell hz0
      obtain ⟨y, hy⟩ : ∃ y, p[j]? = some y := ⟨_, List.getElem?_eq_getElem (by have := Hpl.out; omega)⟩
      have Hs := Lib.hid (padX_succ x hy Hpl.out)
      have Hy := Lib.hid hy
      have j0 : (0 : Int) ≤ (j : Int) := by omega
      have j1 : (j : Int) < 64 := by omega
      have hA2 := hA.set_ j x
      have hB2 := hB.setCell (p := ⟨gm, j, none⟩) hgw (.int .u8 (x.toNat : Int))
      have hR2 := hR.setCell (p := ⟨gm, j, none⟩) (Nat.le_refl _) (.int .u8 (x.toNat : Int))
      have c2l : ((padX p x j).set j x)[j]? = some x := by rw [List.getElem?_set_self (by omega)]
      have c2 := hA2.cell (i := j) (x := x) c2l
      have f2 := hA2.frozen j
      clear hy hz0 hpl
      by_cases hjk : j < 32
      · obtain ⟨b, o, hAe, hb, hc⟩ := hR2.pos (by omega)
        obtain ⟨yk, hyk⟩ : ∃ y, (s)[j]? = some y := ⟨_, List.getElem?_eq_getElem (by have := Hsl.out; omega)⟩
        have hyy : yk = y := by
          have h1 := padK_at (j := j) (y := yk) (by have := Hsl.out; omega) hyk
          rw [HP.out, Hy.out] at h1
          exact (Option.some.inj h1).symm
        subst hyy
        have ck := hc j (.int .u8 (yk.toNat : Int)) (by rw [List.getElem?_map, hyk]; rfl)
        have hx := b_xor x yk
        rw [UInt8.xor_comm x yk] at hx
        clear hc
        obtain ⟨rfl, rfl⟩ : gS = b ∧ 0 = o := by simp at hAe; exact ⟨hAe.1, hAe.2⟩
        go_wp2_with fail
        refine wp_gen (fun wx => ArrB wx (gm) 5 ((padX p x j).set j x) ∧ Rd wx (gm) (some ⟨gS, 0, none⟩) 32 (s.map bv) ∧ Below w.heap.size w wx) ⟨hA2, hR2, hB2⟩ ?_
        clear c0 f0 c2 f2 ck
        rintro wz ⟨hAz, hRz, hBz⟩
        have cz1 : wz.cell? ⟨gm, j, none⟩ = some (.int .u8 (x.toNat : Int)) := hAz.cell (i := j) (x := x) c2l
        have cz2 : wz.cell? ⟨gS, j, none⟩ = some (.int .u8 (yk.toNat : Int)) := by
          obtain ⟨b', o', he, _, hcz⟩ := hRz.pos (by omega)
          injection he with he
          injection he with he1 he2
          subst he1 he2
          have h0 := hcz j (.int .u8 (yk.toNat : Int)) (by rw [List.getElem?_map, hyk]; rfl)
          rwa [Nat.zero_add] at h0
        go_still_tail 10, (by kernel_rfl)
        change wpList _ _ _ _ _ wz.drew
        clear cz1 cz2
        refine wpList_gen (fun wx => ArrB wx (gm) 5 ((padX p x j).set j x) ∧ Rd wx (gm) (some ⟨gS, 0, none⟩) 32 (s.map bv) ∧ Below w.heap.size w wx) ⟨hAz.drew, hRz.drew, hBz.drew⟩ ?_
        rintro w5 ⟨hA5, hR5, hB5⟩
        have c5 := hA5.cell (i := j) (x := x) c2l
        have f5 := hA5.frozen j
        have hA6 := hA5.set_ j (x ^^^ yk)
        rw [List.set_set, UInt8.xor_comm x yk, ← Hs.out] at hA6
        have hB6 := hB5.setCell (p := ⟨gm, j, none⟩) hgw (.int .u8 ((yk ^^^ x).toNat : Int))
        have hR6 := hR5.setCell (p := ⟨gm, j, none⟩) (Nat.le_refl _) (.int .u8 ((yk ^^^ x).toNat : Int))
        go_wp2_with fail
        go_roundw
        case rel => exact ⟨j + 1, by omega, by go_num, hA6, hR6, hB6⟩
        case measure => simp [intOf]; omega
      · have hyy : y = 0 := by
          have h1 := padK_past (key := s) (j := j) (by have := Hsl.out; omega) (by have := Hsl.out; omega) hlt
          rw [HP.out, Hy.out] at h1
          exact Option.some.inj h1
        subst hyy
        rw [zero_xor8] at Hs
        rw [← Hs.out] at hA2
        go_wp2_with fail
        go_roundw
        case rel => exact ⟨j + 1, by omega, by go_num, hA2, hR2, hB2⟩
        case measure => simp [intOf]; omega
    · obtain rfl : j = 64 := by omega
      rw [padX_all x Hpl.out] at hA
      rw [show ((64 : Nat) : Int) = 64 from rfl]
      go_wp2_with fail
      go_ret
      exact ⟨gm, rfl, hA, hB⟩


theorem padded_any (A : Option Addr) (k c : Nat) (key : List UInt8) (x : UInt8) (w : World) (hkc : k ≤ c) (hk : k ≤ 1073741824) (hr : Rd w w.heap.size A k (key.map bv)) (hK : KTab w) :
    Calls Tryd.prog 50 #[.slice A k c, .int .u8 (x.toNat : Int)] w (PadPost w key x) := by
  by_cases hs : k ≤ 64
  · exact padded_small A k c key x w hs hr
  · exact padded_big A k c key x w hkc hk hr hK hs
theorem padded54 (A : Option Addr) (k c : Nat) (key : List UInt8) (w : World) (hkc : k ≤ c) (hk : k ≤ 1073741824) (hr : Rd w w.heap.size A k (key.map bv)) (hK : KTab w) :
    Calls Tryd.prog 50 #[.slice A k c, .int .u8 54] w (PadPost w key 54) := padded_any A k c key 54 w hkc hk hr hK
theorem padded92 (A : Option Addr) (k c : Nat) (key : List UInt8) (w : World) (hkc : k ≤ c) (hk : k ≤ 1073741824) (hr : Rd w w.heap.size A k (key.map bv)) (hK : KTab w) :
    Calls Tryd.prog 50 #[.slice A k c, .int .u8 92] w (PadPost w key 92) := padded_any A k c key 92 w hkc hk hr hK

end Go.Proofs.YtmkkghlpdnoogaaDoor
