/-
  CONTRACTS of the document's own Done (coterieref02).
-/
import Derived.Test.YtmkkghlpdnoogaaDoorRefShaC
set_option linter.unusedVariables false
namespace Go.Proofs.YtmkkghlpdnoogaaDoor
open Go.RowKit

set_option maxRecDepth 1000000 in
theorem rDone_bad (h : List UInt32) (n : Nat) (A : Option Addr) (k c : Nat) (w : World) (hh : h.length = 8) (hn : n < 18446744073709551616) (hk : k ≤ 9223372036854775807) (hc : chkU h n k = false) :
    Calls Tryd.prog 17 #[.agg (shaL h n (.slice A k c)).toArray] w fun e w' => e = .returned (.tuple #[.agg (zeroKey.map bv).toArray, .int .i64 1]) ∧ Below w.heap.size w w' := by
  have Hh := Lib.hid hh
  have Hc := Lib.hid hc
  have I10 := Lib.hid (show (Tryd.prog.info? 27).map (·.size) = some ((shaL h n (.slice A k c)).toArray).size by rw [infoSha]; simp [shaL_len hh])
  clear hh hc
  go_enter Tryd.func17, Tryd.ntmps17
  go_wp2_with ((with_reducible show wpList _ _ _ (⟨some 6, _, _, _, _, _⟩ :: _) _ _); refine wpList_load_row rfl 27 (.tmp 1) rfl w.heap.size rfl 27 (shaL h n (.slice A k c)).toArray (0, 0) _ ((heap_alloc_old _ _ (by simp)).trans (heap_alloc_new _ _)) Tryd.underlying27 rfl I10.out ?_)
  refine (rCheck_any h n A k c _ Hh.out hn hk).mono ?_
  rintro e w2 ⟨rfl, hb2⟩
  rw [Hc.out, errK]
  have hR2 : ArrB w2 (w.heap.size + 1) 36 zeroKey := by
    refine (ArrB.mk_ _ _ _ zeroKey (size_alloc1 _ _) ?_).below hb2 (by simp)
    rfl
  have hb02 : Below w.heap.size w w2 := (((Below.refl _ _).alloc (Nat.le_refl _) _).alloc (al0 _ _) _).trans (hb2.mono (Nat.le_trans (al0 _ _) (al0 _ _)))
  go_wp2_with ((with_reducible show wpList _ _ _ (⟨none, Op.store 36 _ _, _, _, _, _⟩ :: _) _ _); refine wpList_store_row rfl 36 (.tmp 2) (.tmp 9) rfl (w.heap.size + 1) (zeroKey.map bv).toArray rfl rfl 36 _ hR2 key_zero rfl one_key ?_)
  exact bodyPost_ret (results_cell_tmp rfl _ _ (w.heap.size + 1) 36 _ (0, 0) _ rfl (hR2.row zeroKey) Tryd.underlying36 rfl key_zero) rfl ⟨rfl, below_setRow hb02 (by omega) _⟩

theorem zeros_mod (n : Nat) : zeros (n % 64) = zeros n := by unfold zeros; omega
theorem done_pad (rest : List UInt8) (n : Nat) : padTo rest (zeros (n % 64)) ++ be 8 (8 * n) = rest ++ tailU n := by
  rw [zeros_mod]; simp [padTo, tailU]

set_option maxRecDepth 1000000 in
set_option maxHeartbeats 2000000 in
theorem rDone_ok (h : List UInt32) (n : Nat) (A : Option Addr) (k c : Nat) (rest : List UInt8) (w : World) (hh : h.length = 8) (hn : n < 18446744073709551616) (hr : Rd w w.heap.size A k (rest.map bv)) (hT : KTab w) (hc : chkU h n k = true) :
    Calls Tryd.prog 17 #[.agg (shaL h n (.slice A k c)).toArray] w fun e w' => e = .returned (.tuple #[.agg ((doneU h n rest).map bv).toArray, .int .i64 0]) ∧ Below w.heap.size w w' := by
  have Hh := Lib.hid hh
  have Hc := Lib.hid hc
  have hn1 := (chk_true hc).1
  have hk : k < 64 := by have := (chk_true hc).2; omega
  have Hkl := Lib.hid (show rest.length = k by simpa using hr.len)
  have Hpad := Lib.hid (show padTo rest (zeros k) ++ be 8 (8 * n) = rest ++ tailU n by rw [(chk_true hc).2]; exact done_pad rest n)
  have I10 := Lib.hid (show (Tryd.prog.info? 27).map (·.size) = some ((shaL h n (.slice A k c)).toArray).size by rw [infoSha]; simp [shaL_len hh])
  clear hh hc
  obtain ⟨i0, hi0, hz0, hz1, hz2⟩ := info_parts byteInfo
  go_enter Tryd.func17, Tryd.ntmps17
  go_wp2_with ((with_reducible show wpList _ _ _ (⟨some 6, _, _, _, _, _⟩ :: _) _ _); refine wpList_load_row rfl 27 (.tmp 1) rfl w.heap.size rfl 27 (shaL h n (.slice A k c)).toArray (0, 0) _ ((heap_alloc_old _ _ (by simp)).trans (heap_alloc_new _ _)) Tryd.underlying27 rfl I10.out ?_)
  refine (rCheck_any h n A k c _ Hh.out hn (by omega)).mono ?_
  rintro e w2 ⟨rfl, hb2⟩
  rw [Hc.out, errK]
  have hR2 : ArrB w2 (w.heap.size + 1) 36 zeroKey := by
    refine (ArrB.mk_ _ _ _ zeroKey (size_alloc1 _ _) ?_).below hb2 (by simp)
    rfl
  have hS2 : ShaAt w2 w.heap.size h n (.slice A k c) := (ShaAt.alloc ⟨Hh.out, heap_alloc_new _ _⟩ _).below hb2 (by simp; omega)
  have hB2 : Below w.heap.size w w2 := (((Below.refl _ _).alloc (Nat.le_refl _) _).alloc (al0 _ _) _).trans (hb2.mono (Nat.le_trans (al0 _ _) (al0 _ _)))
  have hs2 : w.heap.size + 2 ≤ w2.heap.size := by have := hR2.lt; omega
  have cV2 := hS2.cellV
  have hr2 := (hr.below hB2).more hB2.size
  clear hb2
  go_wp2_with (first
    | (go_at_call 13; refine (Copy_any A k c rest _ (by omega) hr2).mono ?_; rintro e w3 ⟨A3, c3, rfl, hown3, hb3⟩)
    | (at_builtin; refine wpList_append_rd _ rfl (.tmp 12) (.tmp 13) _ rfl w2.heap.size 5 i0 _ 1 Tryd.underlying25 hi0 hz0 hz1 hz2 rfl (.slice A3 k c3) k _ rfl (hown3.alloc _) (w3.heap.size + 1) _ 1 1 [.int .u8 128] rfl (Rd.new _ _ #[_]) (by simp [Value.oneCell']) (by simp only [maxLen]; omega) (by omega) (Nat.le_trans hb3.size (al0 _ _)) ?_; intro v4 w4 hown4 hgr4 hat4))
  have hb4 : Below w2.heap.size w2 w4 := (hb3.alloc hb3.size _).grown hgr4 (Nat.le_trans hb3.size (al0 _ _)) (fun g hg => (hown3.lt g hg).1)
  clear hgr4 hat4 hb3 hown3 hr2 cV2
  go_loopw [4] (fun v wr => ∃ (j : Nat) (A' : Option Addr) (c' : Nat), j ≤ zeros k ∧ v = .slice A' (k + 1 + j) c' ∧ wr.ownsRow w2.heap.size 5 1 v (k + 1 + j) ((padTo rest j).map bv) ∧ Below w2.heap.size w2 wr) (fun v _ => k + 65 - lenOf v)
  case atStart =>
    obtain ⟨A2, c2, rfl, _, _⟩ := own_form hown4
    refine ⟨0, A2, c2, Nat.zero_le _, rfl, ?_, hb4⟩
    simpa [padTo, bv] using hown4
  case round =>
    obtain ⟨j, A3, c3, hj, rfl, hown3, hb3⟩ := hrel
    have hz := zeros_le k
    by_cases hlt : j < zeros k
    · have hne := zeros_ne k j hlt
      have Hz := Lib.hid (show k + 1 + (j + 1) = k + 1 + j + 1 from rfl)
      generalize hm : k + 1 + j = m at *
      have hm2 : ((m : Int) % 64 != 56) = true := by simp; omega
      have Hm := Lib.hid hm
      have hm3 : m ≤ 1099511627776 + 65 := by omega
      clear hm hne
      have hb4 := hb3.size
      go_wp2_with (at_builtin; refine wpList_append_rd _ rfl (.tmp 19) (.tmp 20) _ rfl w2.heap.size 5 i0 _ 1 Tryd.underlying25 hi0 hz0 hz1 hz2 rfl (.slice A3 m c3) m _ rfl (hown3.alloc _) (wr.heap.size + 1) _ 1 1 [.int .u8 0] rfl (Rd.new _ _ #[_]) (by simp [Value.oneCell']) (by simp only [maxLen]; omega) (by omega) (Nat.le_trans hb4 (al0 _ _)) ?_; intro v4 w4 hown4 hgr4 hat4)
      obtain ⟨A4, c4, rfl, _, _⟩ := own_form hown4
      go_roundw
      case rel =>
        refine ⟨j + 1, A4, c4, by omega, by rw [Hz.out], ?_, ?_⟩
        · rw [Hz.out, padTo_succ]
          exact hown4
        · exact (hb3.alloc hb4 _).grown hgr4 (Nat.le_trans hb4 (al0 _ _)) (fun g hg => (hown3.lt g hg).1)
      case measure =>
        have := Hm.out
        simp [lenOf]; omega
    · obtain rfl : j = zeros k := by omega
      have heq := zeros_eq k
      have Hpm := Lib.hid (show (padTo rest (zeros k)).length = k + 1 + zeros k by rw [padTo_len, Hkl.out])
      generalize hm : k + 1 + zeros k = m at *
      have hm2 : ((m : Int) % 64 != 56) = false := by simp; omega
      have Hm64 := Lib.hid (show m % 64 = 56 by omega)
      have hm3 : m ≤ 128 := by omega
      clear hm heq hz hj hlt
      have hb4 := hb3.size
      have cN3 := (hS2.below hb3 hS2.lt).cellN
      have n8 : IntKind.u64.wrap (8 * (n : Int)) = 8 * (n : Int) := by rw [IntKind.wrap_u64]; omega
      go_wp2_with (first
        | (go_at_call 42; rw [show ((8 : Int) * (n : Int)) = ((8 * n : Nat) : Int) from by omega]; refine (Bytes_any 8 (8 * n) _ (by omega) (by omega)).mono ?_; rintro e w4 ⟨A4, c4, rfl, hown4, hb4⟩)
        | (at_builtin; refine wpList_append_rd _ rfl (.tmp 22) (.tmp 26) _ rfl w2.heap.size 5 i0 _ 1 Tryd.underlying25 hi0 hz0 hz1 hz2 rfl (.slice A3 m c3) m _ rfl (own_below hown3 hb4) w4.heap.size _ 8 c4 _ rfl (Rd.of_own hown4) (one_bv _) (by simp only [maxLen]; omega) (by omega) (Nat.le_trans hb3.size hb4.size) ?_; intro v5 w5 hown5 hgr5 hat5))
      have hB5 : Below w2.heap.size w2 w5 := (hb3.trans (hb4.mono hb3.size)).grown hgr5 (Nat.le_trans hb3.size hb4.size) (fun g hg => (hown3.lt g hg).1)
      obtain ⟨p, hp⟩ : ∃ p, p = rest ++ tailU n := ⟨_, rfl⟩
      rw [← List.map_append, Hpad.out, ← hp] at hown5
      have Hpl := Lib.hid (show p.length = m + 8 by rw [hp, ← Hpad.out, List.length_append, Hpm.out, be_length])
      have Hd := Lib.hid (show doneU h n rest = bytesU (blocksTo h p (p.length / 64)) by rw [doneU, ← hp])
      clear hp
      have hB0 : Below w.heap.size w w5 := hB2.trans (hB5.mono hB2.size)
      have hS5 := hS2.below hB5 hS2.lt
      have hR5 := hR2.below hB5 hR2.lt
      obtain ⟨A5, c5, rfl, hc5, _⟩ := own_form hown5
      have hr5 : Rd w5 w5.heap.size A5 (m + 8) (p.map bv) := Rd.of_own hown5
      have hfar5 : ∀ ad, A5 = some ad → w.heap.size + 1 < ad.block := by
        intro ad e
        subst e
        have := (hown5.lt ad.block rfl).1
        omega
      obtain ⟨N, hN⟩ : ∃ N, N = m + 8 := ⟨_, rfl⟩
      rw [← hN] at hr5 Hpl hc5 ⊢
      have hN8 : N ≤ 136 := by omega
      have HN := Lib.hid (show N % 64 = 0 by have := Hm64.out; omega)
      obtain ⟨B5, hB5e⟩ : ∃ B5, B5 = w5.heap.size := ⟨_, rfl⟩
      rw [← hB5e] at hr5
      have HB5 := Lib.hid hB5e
      clear hN hB5e hown5 hown3 hown4 hb3 hb4 hB5 hgr5 hat5 cN3 hS2 hR2 hB2 hs2
      go_loopw [5] (fun i wr => ∃ q : Nat, 64 * q ≤ N ∧ i = .int .i64 ((64 * q : Nat) : Int) ∧ ShaAt wr w.heap.size (blocksTo h p q) n (.slice A k c) ∧ Rd wr B5 A5 N (p.map bv) ∧ B5 ≤ wr.heap.size ∧ ArrB wr (w.heap.size + 1) 36 zeroKey ∧ Below w.heap.size w wr) (fun i _ => (N - intOf i).toNat)
      case atStart => exact ⟨0, by omega, rfl, hS5, hr5, by rw [HB5.out]; exact Nat.le_refl _, hR5, hB0⟩
      case round =>
        clear hS5 hr5 hR5 hB0
        obtain ⟨q, hq, rfl, hS, hrr, hsz, hR, hB⟩ := hrel
        by_cases hlt : 64 * q < N
        · have hfit : 64 * q + 64 ≤ N := by have := HN.out; omega
          obtain ⟨bb, oo, rfl, hbb, hcc⟩ := hrr.pos (by omega)
          have hfb : w.heap.size + 1 < bb := hfar5 _ rfl
          have Hl4 := Lib.hid hS.1
          obtain ⟨nx, hnx⟩ : ∃ nx, blocksTo h p (q + 1) = nx := ⟨_, rfl⟩
          have hnl : nx.length = 8 := by rw [← hnx]; exact blocksTo_len Hh.out p _
          have Hnx := Lib.hid (show blocksTo h p (q + 1) = blockW (blocksTo h p q) (wordsU (chunk p q)) from rfl)
          obtain ⟨a0, a1, a2, a3, a4, a5, a6, a7, hv⟩ := eight Hl4.out
          have hS' := hS
          rw [hv] at hS'
          have m0 := hS'.word (i := 0) (x := a0) rfl
          have m1 := hS'.word (i := 1) (x := a1) rfl
          have m2 := hS'.word (i := 2) (x := a2) rfl
          have m3 := hS'.word (i := 3) (x := a3) rfl
          have m4 := hS'.word (i := 4) (x := a4) rfl
          have m5 := hS'.word (i := 5) (x := a5) rfl
          have m6 := hS'.word (i := 6) (x := a6) rfl
          have m7 := hS'.word (i := 7) (x := a7) rfl
          have Hv := Lib.hid hv
          clear hv
          have Hblk := Lib.hid (show Calls Tryd.prog 40 #[.agg #[.int .u32 (a0.toNat : Int), .int .u32 (a1.toNat : Int), .int .u32 (a2.toNat : Int), .int .u32 (a3.toNat : Int), .int .u32 (a4.toNat : Int), .int .u32 (a5.toNat : Int), .int .u32 (a6.toNat : Int), .int .u32 (a7.toNat : Int)], .slice (some ⟨bb, oo + 64 * q, none⟩) 64 (c5 - 64 * q)] wr.drew
              (fun e w' => e = .returned (.agg (nx.map wv).toArray) ∧ Below wr.heap.size wr.drew w') by
            have hrc : Rd wr.drew wr.drew.heap.size (some ⟨bb, oo + 64 * q, none⟩) 64 ((chunk p q).map bv) := by
              refine ⟨?_, fun _ => ⟨bb, oo + 64 * q, rfl, Nat.lt_of_lt_of_le hbb hsz, fun j u hu => ?_⟩⟩
              · simp [chunk, Hpl.out]; omega
              · have := hcc (64 * q + j) u (by
                  rw [chunk, List.map_take, List.map_drop, List.getElem?_take] at hu
                  split at hu
                  · rwa [List.getElem?_drop] at hu
                  · cases hu)
                rw [← Nat.add_assoc] at this
                exact this
            have hb := Block_any [a0, a1, a2, a3, a4, a5, a6, a7] (some ⟨bb, oo + 64 * q, none⟩) 64 (c5 - 64 * q) (chunk p q) wr.drew rfl (by omega) (by omega) hrc (fun i x hx => (hT.below hB) i x hx)
            rw [← Hv.out, ← Hnx.out, hnx, Hv.out] at hb
            exact hb)
          have Hnx2 := Lib.hid hnx
          have Hnl := Lib.hid hnl
          have Hi7 := Lib.hid (show (Tryd.prog.info? 23).map (·.size) = some ((nx.map wv).toArray).size by rw [info8]; simp [hnl])
          clear hnx hnl hcc
          have q0 : 0 ≤ 64 * (q : Int) := by omega
          have q1 : 64 * (q : Int) + 64 ≤ (N : Int) := by omega
          have hw : IntKind.i64.wrap (64 * (q : Int) + 64) = 64 * (q : Int) + 64 := IntWalk.i64_in _ (by omega)
          have q2 : 64 * (q : Int) ≤ 64 * (q : Int) + 64 := by omega
          have q3 : 64 * (q : Int) + 64 ≤ (c5 : Int) := by omega
          have q4 : (64 * (q : Int)).toNat = 64 * q := by omega
          have q5 : (64 * (q : Int) + 64).toNat = 64 * q + 64 := by omega
          have q6 : ¬ c5 = 64 * q := by omega
          have q7 : 0 ≤ 64 * (q : Int) + 64 := by omega
          go_wp2_with fail
          go_still_tail 7, (by kernel_rfl)
          change wpList _ _ _ _ _ wr.drew
          clear m0 m1 m2 m3 m4 m5 m6 m7
          go_wp2_with fail
          refine Hblk.out.mono ?_
          rintro e w5 ⟨rfl, hb5⟩
          have hb5' : Below wr.heap.size wr w5 := (⟨rfl, rfl, rfl, Nat.le_refl _, fun _ _ => rfl⟩ : Below wr.heap.size wr wr.drew).trans hb5
          have hS5 := hS.below hb5' hS.lt
          have hR5 := hR.below hb5' hR.lt
          have hB5 : Below w.heap.size w w5 := hB.trans (hb5'.mono hB.size)
          have hr5 : Rd w5 B5 (some ⟨bb, oo, none⟩) N (p.map bv) := hrr.below (hb5'.mono hsz)
          have hsz5 : B5 ≤ w5.heap.size := Nat.le_trans hsz hb5'.size
          have Ht5 := Lib.hid (show w5.there w.heap.size 0 ((nx.map wv).toArray).size by simp [Hnl.out]; exact hS5.there)
          have hS6 := hS5.setH Hnl.out
          have hR6 : ArrB (w5.setCells w.heap.size 0 (nx.map wv)) (w.heap.size + 1) 36 zeroKey := hR5.of (setCells_far _ _ (by omega) _ _ _)
          have hB6 := below_setCells (Nat.le_refl w.heap.size) (nx.map wv) 0 _ hB5
          have hr6 : Rd (w5.setCells w.heap.size 0 (nx.map wv)) B5 (some ⟨bb, oo, none⟩) N (p.map bv) := hr5.keepAt (fun ad e p hp => World.cell?_of_block (w := w5) (setCells_far _ _ (by injection e with e; rw [hp, ← e]; show bb ≠ _; omega) _ _ _))
          have hsz6 : B5 ≤ (w5.setCells w.heap.size 0 (nx.map wv)).heap.size := Nat.le_trans hsz5 (below_setCells (Nat.le_refl w.heap.size) (nx.map wv) 0 w5 (Below.refl w.heap.size w5)).size
          clear hS hR hB hrr hb5 hb5' hS5 hR5 hB5 hr5 hS'
          go_wp2_with ((with_reducible show wpList _ _ _ (⟨none, Op.store 23 _ _, _, _, _, _⟩ :: _) _ _); refine wpList_store_mid rfl 23 (.tmp 42) (.tmp 41) rfl w.heap.size 0 (nx.map wv).toArray rfl rfl Ht5.out Hi7.out (one_wv _) ?_)
          go_roundw
          case rel => exact ⟨q + 1, by omega, by go_num, by rw [Hnx2.out]; exact hS6, hr6, hsz6, hR6, hB6⟩
          case measure => simp [intOf]; omega
        · have hqe : 64 * q = N := by omega
          have hl4 := hS.1
          have Hfin := Lib.hid (show doneU h n rest = bytesU (blocksTo h p q) by rw [Hd.out, Hpl.out, ← hqe, Nat.mul_div_cancel_left _ (by omega)])
          have hW := hS.words
          generalize blocksTo h p q = hx at *
          have Hi4 := Lib.hid (show (Tryd.prog.info? 23).map (·.size) = some (hx.map wv).length by rw [info8]; simp [hl4])
          have Hl4 := Lib.hid hl4
          have Hf := Lib.hid (show (Tryd.prog.info? 36).map (·.size) = some (((bytesU hx).map bv).toArray).size by rw [info32]; simp [bytesU_len, hl4])
          have Hz := Lib.hid (show (zeroKey.map bv).toArray.size = (((bytesU hx).map bv).toArray).size by simp [bytesU_len, hl4, zeroKey])
          have i0 : ¬ (64 * (q : Int)) < (N : Int) := by omega
          clear hl4 hqe
          go_wp2_with (first
            | ((with_reducible show wpList _ _ _ (⟨some 44, _, _, _, _, _⟩ :: _) _ _); refine wpList_load_mid rfl 23 (.tmp 43) rfl w.heap.size 0 rfl (hx.map wv) _ hW Tryd.underlying23 rfl Hi4.out ?_)
            | (go_at_call 43; refine (ShaBytes_any hx _ Hl4.out).mono ?_; rintro e w7 ⟨rfl, hb7⟩)
            | ((with_reducible show wpList _ _ _ (⟨none, Op.store 36 _ _, _, _, _, _⟩ :: _) _ _); refine wpList_store_row rfl 36 (.tmp 2) (.tmp 45) rfl (w.heap.size + 1) ((bytesU hx).map bv).toArray rfl rfl 36 _ (hR.below hb7 hR.lt) Hf.out Hz.out (one_bvA _) ?_))
          exact bodyPost_ret (results_cell_tmp rfl _ _ (w.heap.size + 1) 36 _ (0, 0) _ rfl ((hR.below hb7 hR.lt).row (bytesU hx)) Tryd.underlying36 rfl Hf.out) rfl ⟨by rw [Hfin.out]; rfl, below_setRow (hB.trans (hb7.mono hB.size)) (by omega) _⟩

end Go.Proofs.YtmkkghlpdnoogaaDoor
