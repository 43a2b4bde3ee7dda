/-
  THE WALK of FeBytes (coterielaw05).
-/
import Derived.Test.YtbkdlmneidboaaaFeKit
import Derived.Test.YtbkdlmneidboaaaFeBig
set_option linter.unusedVariables false
namespace Go.Proofs.Ytbkdlmneidboaaa
open Go.RowKit

theorem Check_bad (f : Fe5) (w : World) (hf : WordF f) (h : ¬ MayF f) : Calls Try.prog 34 #[.agg (feC f)] w fun e w' => e = .returned (.int .i64 1) ∧ Below w.heap.size w w' := by
  have := Check_any f w hf
  rwa [show errU f = 1 from if_neg h] at this

theorem top_le {v : Nat} (h : v < P25) : ((byteK (keyB v) 31).toNat : Int) ≤ 127 := by
  have h1 := byteK_val (l := keyB v) (k := 31) (by rw [keyB_len]; omega)
  rw [keyV_keyB (Nat.lt_trans h (by decide +kernel)), show (256 : Nat) ^ 31 = 452312848583266388373324160190187140051835877600158453279131187530910662656 from rfl] at h1
  unfold P25 at h
  omega
theorem not_big {v : Nat} (h : v < P25) : bigN (keyB v) 30 = false := by
  have hv : keyV (keyB v) = v := keyV_keyB (Nat.lt_trans h (by decide +kernel))
  rw [bigN_spec (keyB_len v) (by rw [hv]; exact Nat.lt_trans h (by decide +kernel)), hv]
  exact decide_eq_false (by omega)

/-- bytes without their highest bit -/
def lowK (k : List UInt8) : List UInt8 := k.set 31 (byteK k 31 % 128)
theorem lowK_len {k : List UInt8} (h : k.length = 32) : (lowK k).length = 32 := by rw [lowK, List.length_set, h]
theorem lowK_val {k : List UInt8} (h : k.length = 32) : keyV (lowK k) = keyV k % 57896044618658097711785492504343953926634992332820282019728792003956564819968 := by
  have e : lowK k = k.take 31 ++ [byteK k 31 % 128] := by
    rw [lowK, List.set_eq_take_append_cons_drop, if_pos (by omega), show k.drop (31 + 1) = [] from List.drop_of_length_le (by omega)]
  have e2 : k = k.take 31 ++ [byteK k 31] := by
    have h3 := List.take_append_getElem (show 31 < k.length by omega)
    have h32 : k.take 32 = k := List.take_of_length_le (by omega)
    rw [show 31 + 1 = 32 from rfl, h32] at h3
    have h4 : k[31] = byteK k 31 := by
      have := byteK_at (l := k) (k := 31) (by omega)
      rw [List.getElem?_eq_getElem (by omega)] at this
      exact Option.some.inj this
    rw [h4] at h3
    exact h3.symm
  have h1 := keyV_lt (k.take 31)
  have hl : (k.take 31).length = 31 := by rw [List.length_take]; omega
  have h5 : (byteK k 31 % 128).toNat = (byteK k 31).toNat % 128 := by rw [UInt8.toNat_mod]; rfl
  rw [hl] at h1
  rw [e, keyV_append, hl]
  conv => rhs; rw [e2]
  rw [keyV_append, hl]
  simp only [keyV, Nat.mul_zero, Nat.add_zero, h5]
  rw [show (256 : Nat) ^ 31 = 452312848583266388373324160190187140051835877600158453279131187530910662656 from rfl] at *
  have h6 : (byteK k 31).toNat < 256 := (byteK k 31).toBitVec.isLt
  generalize keyV (k.take 31) = M at *
  omega
/-- what is answered of such bytes: themselves, or less by the prime -/
theorem low_not {k : List UInt8} (h : k.length = 32) (hb : bigN (lowK k) 30 = false) : keyB (valF (ofU k) % P25) = lowK k := by
  have hv := lowK_val h
  have hK : keyV (lowK k) < 57896044618658097711785492504343953926634992332820282019728792003956564819968 := by rw [hv]; exact Nat.mod_lt _ (by omega)
  rw [bigN_spec (lowK_len h) hK] at hb
  rw [ofU_val, ← hv, Nat.mod_eq_of_lt (show keyV (lowK k) < P25 by have := of_decide_eq_false hb; omega), keyB_keyV (lowK_len h)]
theorem low_big {k : List UInt8} (h : k.length = 32) (hb : bigN (lowK k) 30 = true) : keyB (valF (ofU k) % P25) = (keyB 0).set 0 (byteK (lowK k) 0 - 237) ∧ 237 ≤ (byteK (lowK k) 0).toNat := by
  have hv := lowK_val h
  have hK : keyV (lowK k) < 57896044618658097711785492504343953926634992332820282019728792003956564819968 := by rw [hv]; exact Nat.mod_lt _ (by omega)
  have hiff := (bigN_iff (lowK_len h) 30 (by omega)).1 hb
  have h0 := byteK_val (l := lowK k) (k := 0) (by rw [lowK_len h]; omega)
  rw [Nat.pow_zero, Nat.div_one] at h0
  rw [bigN_spec (lowK_len h) hK] at hb
  have hlow := big_low _ hK (of_decide_eq_true hb)
  have h237 : 237 ≤ (byteK (lowK k) 0).toNat := by rw [← h0]; exact hiff.1.2
  refine ⟨?_, h237⟩
  rw [ofU_val, ← hv, hlow, h0]
  have hs := keyB_set 0 ((byteK (lowK k) 0).toNat - 237) 0 (by omega) (by have := (byteK (lowK k) 0).toBitVec.isLt; simp; omega) (byteK (lowK k) 0 - 237) (by
    apply UInt8.toNat_inj.1
    rw [UInt8.toNat_sub_of_le _ _ (by rw [UInt8.le_iff_toNat_le]; exact h237), UInt8.toNat_ofNat']
    have := (byteK (lowK k) 0).toBitVec.isLt
    simp
    omega)
  rw [hs]
  simp

set_option maxRecDepth 100000 in
set_option maxHeartbeats 8000000 in
theorem walk_FeBytes (a : Fe5) (k : List UInt8) (w : World) (ha : WordF a) (hk : k.length = 32) :
    Calls Try.prog 8 #[.agg (feC a), .agg (keyC k)] w fun e w' => e = .returned (.bool true) ∧ Below w.heap.size w w' := by
  have hM0 := ((Ms.nil w).box 37 (feC a)).box 39 (keyC k)
  simp only [World.size_alloc] at hM0
  have Hk := Lib.hid hk
  by_cases hm : MayF a
  · have Ha := Lib.hid hm
    clear hm ha hk
    go_enter Try.func8, Try.ntmps8
    go_wp2_with fail
    refine (live05 _).mono ?_
    rintro e w1 ⟨rfl, hb1⟩
    have hM1 := hM0.call hb1
    clear hM0 hb1
    go_wp2_with ((with_reducible show wpList _ _ _ (⟨some 19, _, _, _, _, _⟩ :: _) _ _); refine wpList_loadC (by kernel_rfl) 37 (.tmp 2) rfl (w.heap.size) rfl 37 (feC a) _ (hM1.get 1 rfl) Try.underlying37 rfl (sizeFe _) ?_)
    refine (Bytes_ok a _ Ha.out).mono ?_
    rintro e w2 ⟨rfl, hb2⟩
    have hM2 := hM1.call hb2
    clear hM1 hb2
    have HV := Lib.hid (P25_lt (valF a))
    have Hv := Lib.hid (show valF a % P25 = valF a % P25 from rfl)
    obtain ⟨v, hv⟩ : ∃ v, v = valF a % P25 := ⟨_, rfl⟩
    rw [← hv] at HV Hv ⊢
    have Hv2 := Lib.hid hv
    clear hv Hv
    have hM3 := hM2.put 39 (keyC (keyB 0)) (keyC (keyB v))
    have Hkz := Lib.hid (show (keyC (keyB 0)).size = (keyC (keyB v)).size by rw [keyC_size, keyC_size, keyB_len, keyB_len])
    rw [keyZ] at hM3 Hkz
    have hgB := (hM2.get 0 rfl).lt
    clear hM2
    go_wp2_with ((with_reducible show wpList _ _ _ (⟨none, Op.store 39 _ _, _, _, _, _⟩ :: _) _ _); refine wpList_store_row rfl 39 (.tmp 6) (.tmp 21) rfl (w2.heap.size) (keyC (keyB v)) rfl rfl 39 _ (RowC.new _ _ _) (sizeKey (keyB_len v)) Hkz.out (one_key _) ?_)
    refine wp_gen (fun wx => Ms w wx [(w2.heap.size, 39, keyC (keyB v)), (w.heap.size + 1, 39, keyC k), (w.heap.size, 37, feC a)]) hM3 ?_
    clear hM3
    rintro v1 hM3
    generalize w2.heap.size = gB at *
    have hof := fun wx => Of_any (keyB v) wx (keyB_len v)
    have hsm := fun wx => Same_true (ofU (keyB v)) a wx (ofU_may _) Ha.out (by
      rw [ofU_val, keyV_keyB (Nat.lt_trans HV.out (by decide +kernel)), Nat.mod_eq_of_lt (Nat.lt_trans HV.out (by decide +kernel)), Hv2.out, Nat.mod_mod])
    have hkeep : ∀ wx : World, Below v1.heap.size v1 wx → (wx.rangeAt gB 0 (keyC (keyB v)).toList ∧ wx.cell? ⟨w.heap.size, 0, none⟩ = some (.int .u64 (a.a0 : Int)) ∧ wx.cell? ⟨w.heap.size, 1, none⟩ = some (.int .u64 (a.a1 : Int)) ∧ wx.cell? ⟨w.heap.size, 2, none⟩ = some (.int .u64 (a.a2 : Int)) ∧ wx.cell? ⟨w.heap.size, 3, none⟩ = some (.int .u64 (a.a3 : Int)) ∧ wx.cell? ⟨w.heap.size, 4, none⟩ = some (.int .u64 (a.a4 : Int)) ∧ wx.cell? ⟨gB, 31, none⟩ = some (.int .u8 ((byteK (keyB v) 31).toNat : Int))) := fun wx hb =>
      ⟨((hM3.get 0 rfl).call hb).range, ((hM3.get 2 rfl).call hb).cell rfl, ((hM3.get 2 rfl).call hb).cell rfl, ((hM3.get 2 rfl).call hb).cell rfl, ((hM3.get 2 rfl).call hb).cell rfl, ((hM3.get 2 rfl).call hb).cell rfl, ((hM3.get 0 rfl).call hb).cell (keyC_at (byteK_at (by rw [keyB_len]; omega)))⟩
    have hx31 : decide ((127 : Int) < ((byteK (keyB v) 31).toNat : Int)) = false := decide_eq_false (by have := top_le HV.out; omega)
    have Hkb := Lib.hid (sizeKey (keyB_len v))
    have Hsa := Lib.hid (sizeFe a)
    generalize hkb : keyC (keyB v) = kb at *
    have Hkbe := Lib.hid hkb
    clear hkb
    have hu1 := Try.underlying39
    have hi1 : (Try.prog.info? 39).map (·.size) = some kb.toList.length := by simpa using Hkb.out
    have HM3 := Lib.hid hM3
    have Hhgb := Lib.hid hgB
    clear hM3 hgB
    have hsm2 := hsm
    simp only [feC] at hsm2
    generalize feC (ofU (keyB v)) = co at *
    rw [show feC a = #[.int .u64 (a.a0 : Int), .int .u64 (a.a1 : Int), .int .u64 (a.a2 : Int), .int .u64 (a.a3 : Int), .int .u64 (a.a4 : Int)] from rfl] at hsm
    go_region_held3 (fun wx : World => wx.rangeAt gB 0 kb.toList ∧ wx.cell? ⟨w.heap.size, 0, none⟩ = some (.int .u64 (a.a0 : Int)) ∧ wx.cell? ⟨w.heap.size, 1, none⟩ = some (.int .u64 (a.a1 : Int)) ∧ wx.cell? ⟨w.heap.size, 2, none⟩ = some (.int .u64 (a.a2 : Int)) ∧ wx.cell? ⟨w.heap.size, 3, none⟩ = some (.int .u64 (a.a3 : Int)) ∧ wx.cell? ⟨w.heap.size, 4, none⟩ = some (.int .u64 (a.a4 : Int)) ∧ wx.cell? ⟨gB, 31, none⟩ = some (.int .u8 ((byteK (keyB v) 31).toNat : Int)))
      ((refine hkeep _ ?_; (repeat (first | exact c_refl _ | refine c_drew ?_ | refine c_alloc ?_ _ | refine c_call ?_ (by assumption))); done))
      (first
        | (with_reducible refine (hof _).mono ?_; rintro e wm1 ⟨rfl, hc1⟩)
        | (with_reducible refine (hsm _).mono ?_; rintro e wm2 ⟨rfl, hc2⟩))
    have hM4 := HM3.out.call (show Below v1.heap.size v1 wm2 from by (repeat (first | exact c_refl _ | refine c_drew ?_ | refine c_alloc ?_ _ | refine c_call ?_ (by assumption))); first | done | fail "chain")
    have hgB := Hhgb.out
    clear hkeep hof hsm hsm2 hc1 hc2 HM3 Hhgb hi1 hu1 hx31
    go_upto_region 9 with (fail)
    rw [← Hkbe.out] at hM4
    have hb31 := (hM4.get 0 rfl).cell (keyC_at (byteK_at (l := keyB v) (k := 31) (by rw [keyB_len]; omega)))
    have hb0 := (hM4.get 0 rfl).cell (keyC_at (byteK_at (l := keyB v) (k := 0) (by rw [keyB_len]; omega)))
    obtain ⟨e1, he1⟩ : ∃ e, (((byteK (keyB v) 31).toNat : Int) == 127) = e := ⟨_, rfl⟩
    obtain ⟨e2, he2⟩ : ∃ e, decide ((237 : Int) ≤ ((byteK (keyB v) 0).toNat : Int)) = e := ⟨_, rfl⟩
    have Hfirst := Lib.hid (show bigN (keyB v) 0 = (e1 && e2) by rw [bigN, he1, he2])
    generalize ((byteK (keyB v) 31).toNat : Int) = y31 at *
    generalize ((byteK (keyB v) 0).toNat : Int) = y0 at *
    go_cut [8] (fun p wx => p = .bool (bigN (keyB v) 0) ∧ wm2 = wx)
    case first =>
      cases e1
      · go_wp2_with fail
        go_meet
        exact ⟨by rw [Hfirst.out]; rfl, rfl⟩
      · cases e2
        · go_wp2_with fail
          go_meet
          exact ⟨by rw [Hfirst.out]; rfl, rfl⟩
        · go_wp2_with fail
          go_meet
          exact ⟨by rw [Hfirst.out]; rfl, rfl⟩
    case rest =>
      obtain ⟨rfl, rfl⟩ := hcut
      clear hb31 hb0 he1 he2 Hfirst
      go_wp2_with fail
      go_loopw [8, 9] (fun p i wr => ∃ n : Nat, n ≤ 30 ∧ i = .int .i64 ((n + 1 : Nat) : Int) ∧ p = .bool (bigN (keyB v) n) ∧ wm2 = wr) (fun _ i _ => (31 - intOf i).toNat)
      case atStart => exact ⟨0, by omega, rfl, rfl, rfl⟩
      case round =>
        obtain ⟨n, hn, rfl, rfl, rfl⟩ := hrel
        by_cases hlt : n < 30
        · have hbn := (hM4.get 0 rfl).cell (keyC_at (byteK_at (l := keyB v) (k := n + 1) (by rw [keyB_len]; omega)))
          obtain ⟨e3, he3⟩ : ∃ e, (((byteK (keyB v) (n + 1)).toNat : Int) == 255) = e := ⟨_, rfl⟩
          have Hst := Lib.hid (show bigN (keyB v) (n + 1) = (bigN (keyB v) n && e3) by rw [bigN, he3])
          generalize hbe : bigN (keyB v) n = e0 at *
          have Hbe := Lib.hid hbe
          clear hbe
          generalize ((byteK (keyB v) (n + 1)).toNat : Int) = y at *
          have h1 : ((n + 1 : Nat) : Int) < 31 := by omega
          have h2 : (0 : Int) ≤ ((n + 1 : Nat) : Int) := by omega
          have h3 : ((n + 1 : Nat) : Int) < 32 := by omega
          obtain ⟨m, hm⟩ : ∃ m, m = n + 1 := ⟨_, rfl⟩
          rw [← hm] at hbn h1 h2 h3 Hst ⊢
          have Hm := Lib.hid hm
          clear hm
          cases e0
          · go_wp2_with fail
            exact ⟨⟨n + 1, by omega, by rw [Hm.out]; simp, by rw [← Hm.out, Hst.out]; rfl, trivial⟩, by simp [intOf]; omega⟩
          · go_wp2_with fail
            exact ⟨⟨n + 1, by omega, by rw [Hm.out]; simp, by rw [← Hm.out, Hst.out]; rfl, trivial⟩, by simp [intOf]; omega⟩
        · obtain rfl : n = 30 := by omega
          rw [show ((30 + 1 : Nat) : Int) = 31 from rfl]
          rw [not_big HV.out]
          go_wp2_with ((with_reducible show wpList _ _ _ (⟨some 65, _, _, _, _, _⟩ :: _) _ _); refine wpList_loadC (by kernel_rfl) 39 (.tmp 3) rfl (w.heap.size + 1) rfl 39 (keyC k) _ (hM4.get 1 rfl) Try.underlying39 rfl (sizeKey Hk.out) ?_)
          refine (Of_any k _ Hk.out).mono ?_
          rintro e w5 ⟨rfl, hb5⟩
          have hM5 := hM4.call hb5
          clear hM4 hb5
          go_wp2_with fail
          refine (Bytes_ok (ofU k) _ (ofU_may k)).mono ?_
          rintro e w6 ⟨rfl, hb6⟩
          have hM6 := hM5.call hb6
          clear hM5 hb6
          have hM7 := hM6.put 39 (keyC (keyB 0)) (keyC (keyB (valF (ofU k) % P25)))
          have Hkz2 := Lib.hid (show (keyC (keyB 0)).size = (keyC (keyB (valF (ofU k) % P25))).size by rw [keyC_size, keyC_size, keyB_len, keyB_len])
          rw [keyZ] at hM7 Hkz2
          have hgC1 := (hM6.get 1 rfl).lt
          have hM8 : Ms w _ ((w.heap.size + 1, 39, keyC k) :: [(w6.heap.size, 39, keyC (keyB (valF (ofU k) % P25)))]) := ⟨hM7.old, fun p hp => hM7.rows p (by simp only [List.mem_cons, List.not_mem_nil, or_false] at hp ⊢; rcases hp with h | h <;> simp [h])⟩
          have hc31 := (hM8.get 0 rfl).cell (keyC_at (byteK_at (l := k) (k := 31) (by rw [Hk.out]; omega)))
          have hf31 := (hM8.get 0 rfl).frozen 31
          have hM9 := hM8.setCell (by omega) (by simp; omega) 31 (.int .u8 ((byteK k 31 % 128).toNat : Int))
          rw [keyC_set, show k.set 31 (byteK k 31 % 128) = lowK k from rfl] at hM9
          have hrem : ((byteK k 31).toNat : Int) % 128 = ((byteK k 31 % 128).toNat : Int) := by rw [UInt8.toNat_mod]; rfl
          have hremt : Int.tmod ((byteK k 31).toNat : Int) 128 = ((byteK k 31 % 128).toNat : Int) := by rw [Int.tmod_eq_emod_of_nonneg (by omega)]; exact hrem
          clear hM6 hM7 hM8 hgC1
          generalize ((byteK k 31 % 128).toNat : Int) = z1 at *
          generalize ((byteK k 31).toNat : Int) = z0 at *
          go_upto_region 16 with ((with_reducible show wpList _ _ _ (⟨none, Op.store 39 _ _, _, _, _, _⟩ :: _) _ _); refine wpList_store_row rfl 39 (.tmp 10) (.tmp 68) rfl (w6.heap.size) (keyC (keyB (valF (ofU k) % P25))) rfl rfl 39 _ (RowC.new _ _ _) (sizeKey (keyB_len _)) Hkz2.out (one_key _) ?_)
          refine wp_gen (fun wx => Ms w wx ((w.heap.size + 1, 39, keyC (lowK k)) :: [(w6.heap.size, 39, keyC (keyB (valF (ofU k) % P25)))])) hM9 ?_
          clear hM9 hc31 hf31 hrem hremt
          rintro v3 hM9
          have hb31 := (hM9.get 0 rfl).cell (keyC_at (byteK_at (l := lowK k) (k := 31) (by rw [lowK_len Hk.out]; omega)))
          have hb0 := (hM9.get 0 rfl).cell (keyC_at (byteK_at (l := lowK k) (k := 0) (by rw [lowK_len Hk.out]; omega)))
          obtain ⟨e1, he1⟩ : ∃ e, (((byteK (lowK k) 31).toNat : Int) == 127) = e := ⟨_, rfl⟩
          obtain ⟨e2, he2⟩ : ∃ e, decide ((237 : Int) ≤ ((byteK (lowK k) 0).toNat : Int)) = e := ⟨_, rfl⟩
          have Hfirst := Lib.hid (show bigN (lowK k) 0 = (e1 && e2) by rw [bigN, he1, he2])
          generalize ((byteK (lowK k) 31).toNat : Int) = y31 at *
          generalize ((byteK (lowK k) 0).toNat : Int) = y0 at *
          go_cut [12] (fun p wx => p = .bool (bigN (lowK k) 0) ∧ v3 = wx)
          case first =>
            cases e1
            · go_wp2_with fail
              go_meet
              exact ⟨by rw [Hfirst.out]; rfl, rfl⟩
            · cases e2
              · go_wp2_with fail
                go_meet
                exact ⟨by rw [Hfirst.out]; rfl, rfl⟩
              · go_wp2_with fail
                go_meet
                exact ⟨by rw [Hfirst.out]; rfl, rfl⟩
          case rest =>
            obtain ⟨rfl, rfl⟩ := hcut
            clear hb31 hb0 he1 he2 Hfirst
            go_wp2_with fail
            go_loopw [12, 13] (fun p i wr => ∃ n : Nat, n ≤ 30 ∧ i = .int .i64 ((n + 1 : Nat) : Int) ∧ p = .bool (bigN (lowK k) n) ∧ v3 = wr) (fun _ i _ => (31 - intOf i).toNat)
            case atStart => exact ⟨0, by omega, rfl, rfl, rfl⟩
            case round =>
              obtain ⟨n, hn, rfl, rfl, rfl⟩ := hrel
              by_cases hlt : n < 30
              · have hbn := (hM9.get 0 rfl).cell (keyC_at (byteK_at (l := lowK k) (k := n + 1) (by rw [lowK_len Hk.out]; omega)))
                obtain ⟨e3, he3⟩ : ∃ e, (((byteK (lowK k) (n + 1)).toNat : Int) == 255) = e := ⟨_, rfl⟩
                have Hst := Lib.hid (show bigN (lowK k) (n + 1) = (bigN (lowK k) n && e3) by rw [bigN, he3])
                generalize hbe : bigN (lowK k) n = e0 at *
                have Hbe := Lib.hid hbe
                clear hbe
                generalize ((byteK (lowK k) (n + 1)).toNat : Int) = y at *
                have h1 : ((n + 1 : Nat) : Int) < 31 := by omega
                have h2 : (0 : Int) ≤ ((n + 1 : Nat) : Int) := by omega
                have h3 : ((n + 1 : Nat) : Int) < 32 := by omega
                obtain ⟨m, hm⟩ : ∃ m, m = n + 1 := ⟨_, rfl⟩
                rw [← hm] at hbn h1 h2 h3 Hst ⊢
                have Hm := Lib.hid hm
                clear hm
                cases e0
                · go_wp2_with fail
                  exact ⟨⟨n + 1, by omega, by rw [Hm.out]; simp, by rw [← Hm.out, Hst.out]; rfl, trivial⟩, by simp [intOf]; omega⟩
                · go_wp2_with fail
                  exact ⟨⟨n + 1, by omega, by rw [Hm.out]; simp, by rw [← Hm.out, Hst.out]; rfl, trivial⟩, by simp [intOf]; omega⟩
              · obtain rfl : n = 30 := by omega
                rw [show ((30 + 1 : Nat) : Int) = 31 from rfl]
                have hlen1 := keyB_len (valF (ofU k) % P25)
                cases hbig : bigN (lowK k) 30
                · have hq := fun wx => eql_key wx (keyB (valF (ofU k) % P25)) (lowK k) (keyB_len _) (lowK_len Hk.out)
                  rw [low_not Hk.out hbig, beq_self_eq_true] at hq
                  have hrc := hM9.get 1 rfl
                  rw [low_not Hk.out hbig] at hrc
                  have hrk := hM9.get 0 rfl
                  have hs := Lib.hid (sizeKey (lowK_len Hk.out))
                  have hold := hM9.old
                  clear hbig hM9 hlen1
                  generalize keyC (lowK k) = kk at *
                  go_wp2_with (first
                    | ((with_reducible show wpList _ _ _ (⟨some 122, _, _, _, _, _⟩ :: _) _ _); refine wpList_loadC (by kernel_rfl) 39 (.tmp 10) rfl (w6.heap.size) rfl 39 kk _ (hrc) Try.underlying39 rfl hs.out ?_)
                    | ((with_reducible show wpList _ _ _ (⟨some 123, _, _, _, _, _⟩ :: _) _ _); refine wpList_loadC (by kernel_rfl) 39 (.tmp 3) rfl (w.heap.size + 1) rfl 39 kk _ (hrk) Try.underlying39 rfl hs.out ?_))
                  go_ret
                  exact ⟨rfl, hold⟩
                · have hbb := low_big Hk.out hbig
                  have hq := fun wx => eql_key wx (keyB (valF (ofU k) % P25)) ((keyB 0).set 0 (byteK (lowK k) 0 - 237)) (keyB_len _) (by rw [List.length_set, keyB_len])
                  rw [hbb.1, beq_self_eq_true] at hq
                  have hrc := hM9.get 1 rfl
                  rw [hbb.1] at hrc
                  have hc0 := ((hM9.get 0 rfl).alloc (.cells (keyC (keyB 0)) 39)).cell (keyC_at (byteK_at (l := lowK k) (k := 0) (by rw [lowK_len Hk.out]; omega)))
                  have hsub : IntKind.u8.wrap (((byteK (lowK k) 0).toNat : Int) - 237) = ((byteK (lowK k) 0 - 237).toNat : Int) := by
                    rw [IntKind.wrap_u8, UInt8.toNat_sub_of_le _ _ (by rw [UInt8.le_iff_toNat_le]; exact hbb.2)]
                    have h1 := hbb.2
                    have h2 := (byteK (lowK k) 0).toBitVec.isLt
                    have h3 : (byteK (lowK k) 0).toNat < 256 := h2
                    simp
                    omega
                  have hlit : keyC ((keyB 0).set 0 (byteK (lowK k) 0 - 237)) = #[.int .u8 ((byteK (lowK k) 0 - 237).toNat : Int), .int .u8 0, .int .u8 0, .int .u8 0, .int .u8 0, .int .u8 0, .int .u8 0, .int .u8 0, .int .u8 0, .int .u8 0, .int .u8 0, .int .u8 0, .int .u8 0, .int .u8 0, .int .u8 0, .int .u8 0, .int .u8 0, .int .u8 0, .int .u8 0, .int .u8 0, .int .u8 0, .int .u8 0, .int .u8 0, .int .u8 0, .int .u8 0, .int .u8 0, .int .u8 0, .int .u8 0, .int .u8 0, .int .u8 0, .int .u8 0, .int .u8 0] := by rw [← keyC_set, keyZ]; simp
                  have hrc2 : RowC (v3.alloc (.cells #[.int .u8 ((byteK (lowK k) 0 - 237).toNat : Int), .int .u8 0, .int .u8 0, .int .u8 0, .int .u8 0, .int .u8 0, .int .u8 0, .int .u8 0, .int .u8 0, .int .u8 0, .int .u8 0, .int .u8 0, .int .u8 0, .int .u8 0, .int .u8 0, .int .u8 0, .int .u8 0, .int .u8 0, .int .u8 0, .int .u8 0, .int .u8 0, .int .u8 0, .int .u8 0, .int .u8 0, .int .u8 0, .int .u8 0, .int .u8 0, .int .u8 0, .int .u8 0, .int .u8 0, .int .u8 0, .int .u8 0] 39)) w6.heap.size 39 (keyC ((keyB 0).set 0 (byteK (lowK k) 0 - 237))) := hrc.alloc _
                  have hrl : RowC (v3.alloc (.cells #[.int .u8 ((byteK (lowK k) 0 - 237).toNat : Int), .int .u8 0, .int .u8 0, .int .u8 0, .int .u8 0, .int .u8 0, .int .u8 0, .int .u8 0, .int .u8 0, .int .u8 0, .int .u8 0, .int .u8 0, .int .u8 0, .int .u8 0, .int .u8 0, .int .u8 0, .int .u8 0, .int .u8 0, .int .u8 0, .int .u8 0, .int .u8 0, .int .u8 0, .int .u8 0, .int .u8 0, .int .u8 0, .int .u8 0, .int .u8 0, .int .u8 0, .int .u8 0, .int .u8 0, .int .u8 0, .int .u8 0] 39)) v3.heap.size 39 (keyC ((keyB 0).set 0 (byteK (lowK k) 0 - 237))) := by rw [hlit]; exact RowC.new _ _ _
                  have hold : Below w.heap.size w (v3.alloc (.cells #[.int .u8 ((byteK (lowK k) 0 - 237).toNat : Int), .int .u8 0, .int .u8 0, .int .u8 0, .int .u8 0, .int .u8 0, .int .u8 0, .int .u8 0, .int .u8 0, .int .u8 0, .int .u8 0, .int .u8 0, .int .u8 0, .int .u8 0, .int .u8 0, .int .u8 0, .int .u8 0, .int .u8 0, .int .u8 0, .int .u8 0, .int .u8 0, .int .u8 0, .int .u8 0, .int .u8 0, .int .u8 0, .int .u8 0, .int .u8 0, .int .u8 0, .int .u8 0, .int .u8 0, .int .u8 0, .int .u8 0] 39)) := hM9.old.alloc hM9.old.size _
                  have hs := Lib.hid (sizeKey (show ((keyB 0).set 0 (byteK (lowK k) 0 - 237)).length = 32 by rw [List.length_set, keyB_len]))
                  rw [keyZ] at hc0
                  clear hbig hM9 hlen1 hbb hrc hlit
                  generalize keyC ((keyB 0).set 0 (byteK (lowK k) 0 - 237)) = kk at *
                  generalize ((byteK (lowK k) 0 - 237).toNat : Int) = z9 at *
                  generalize ((byteK (lowK k) 0).toNat : Int) = z8 at *
                  go_wp2_with (first
                    | ((with_reducible show wpList _ _ _ (⟨some 108, _, _, _, _, _⟩ :: _) _ _); refine wpList_loadC (by kernel_rfl) 39 (.tmp 10) rfl (w6.heap.size) rfl 39 kk _ (hrc2) Try.underlying39 rfl hs.out ?_)
                    | ((with_reducible show wpList _ _ _ (⟨some 109, _, _, _, _, _⟩ :: _) _ _); refine wpList_loadC (by kernel_rfl) 39 (.tmp 14) rfl (v3.heap.size) rfl 39 kk _ (hrl) Try.underlying39 rfl hs.out ?_))
                  go_ret
                  exact ⟨rfl, hold⟩
  · have Hn := Lib.hid hm
    have Hw := Lib.hid ha
    clear hm ha hk
    go_enter Try.func8, Try.ntmps8
    go_wp2_with fail
    refine (live05 _).mono ?_
    rintro e w1 ⟨rfl, hb1⟩
    have hM1 := hM0.call hb1
    clear hM0 hb1
    go_wp2_with ((with_reducible show wpList _ _ _ (⟨some 19, _, _, _, _, _⟩ :: _) _ _); refine wpList_loadC (by kernel_rfl) 37 (.tmp 2) rfl (w.heap.size) rfl 37 (feC a) _ (hM1.get 1 rfl) Try.underlying37 rfl (sizeFe _) ?_)
    refine (Bytes_bad a _ Hw.out Hn.out).mono ?_
    rintro e w2 ⟨rfl, hb2⟩
    have hM2 := hM1.call hb2
    clear hM1 hb2
    have hM3 := hM2.put 39 (keyC (keyB 0)) (keyC (keyB 0))
    have Hsz := Lib.hid (sizeKey (keyB_len 0))
    have Hso := Lib.hid (one_key (keyB 0))
    rw [keyZ] at hM3 Hsz Hso ⊢
    clear hM2
    have hM4 := hM3.get 2 rfl
    go_wp2_with (first
      | ((with_reducible show wpList _ _ _ (⟨none, Op.store 39 _ _, _, _, _, _⟩ :: _) _ _); refine wpList_store_row rfl 39 (.tmp 6) (.tmp 21) rfl (w2.heap.size) _ rfl rfl 39 _ (RowC.new _ _ _) Hsz.out rfl Hso.out ?_)
      | ((with_reducible show wpList _ _ _ (⟨some 31, _, _, _, _, _⟩ :: _) _ _); refine wpList_loadC (by kernel_rfl) 37 (.tmp 2) rfl (w.heap.size) rfl 37 (feC a) _ (hM4) Try.underlying37 rfl (sizeFe _) ?_))
    refine (Check_bad a _ Hw.out Hn.out).mono ?_
    rintro e w3 ⟨rfl, hb3⟩
    have hM5 := hM3.call hb3
    go_wp2_with fail
    go_ret
    exact ⟨rfl, hM5.old⟩

end Go.Proofs.Ytbkdlmneidboaaa
