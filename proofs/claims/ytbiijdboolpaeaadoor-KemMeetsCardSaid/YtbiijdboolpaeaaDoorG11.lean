import Derived.Test.YtbiijdboolpaeaaDoorG08
import Derived.Test.YtbiijdboolpaeaaDoorG04
import Derived.Deep.DeepCutAuto
set_option linter.unusedVariables false
namespace Go.Proofs.YtbiijdboolpaeaaDoor
open Go.RowKit
set_option maxRecDepth 1000000 in
set_option maxHeartbeats 2000000 in
theorem encrypted_any (g : Nat) (k b : List UInt8) (w : World) (hC : CipAt w g (keysU k)) (hk : k.length = 16) (hb : b.length = 16) :
  Calls Tryd.prog 61 #[.pointer (some ⟨g, 0, none⟩), .agg (b.map bv).toArray] w fun e w' => e = .returned (.agg ((encU k b).map bv).toArray) ∧ Below w.heap.size w w' := by
 have Hb := Lib.hid hb
 have Hk := Lib.hid hk
 have hg := ArrB.lt hC
 have hkey : ∀ wx : World, Below w.heap.size w wx → ∀ i, i < 11 → wx.rangeAt g (256 + 16 * i) ((keyU k i).map bv) := fun wx hw i hi => CipAt.key (rest := []) hk (by rw [List.append_nil, ← keysU_kTo]; exact ArrB.below hC hw hg) hi
 have Hkey := Lib.hid hkey
 clear hkey
 go_enter Tryd.func61, Tryd.ntmps61
 go_wp2_with fail
 have g0 := (ArrB.mk_ w 69 _ b rfl rfl).alloc (.cells (zero16.map bv).toArray 69)
 have g1 := ArrB.mk_ (b := w.heap.size + 1) (w.alloc (.cells (b.map bv).toArray 69)) 69 _ zero16 (by simp) rfl
 have hB0 := ((Below.refl w.heap.size w).alloc (Nat.le_refl _) (.cells (b.map bv).toArray 69)).alloc (al0 _ _) (.cells (zero16.map bv).toArray 69)
 refine wp_gen (fun wx => ArrB wx w.heap.size 69 b ∧ ArrB wx (w.heap.size + 1) 69 zero16 ∧ Below w.heap.size w wx) ⟨g0, g1, hB0⟩ ?_
 clear g0 g1 hB0
 rintro w1 ⟨g0, g1, hB1⟩
 have hg1 := g1.lt
 go_cut [5] (fun p wx => ∃ g5, p = .pointer (some ⟨g5, 0, none⟩) ∧ w.heap.size + 1 < g5 ∧ ArrB wx g5 69 (addU b k) ∧ ArrB wx (w.heap.size + 1) 69 zero16 ∧ Below w.heap.size w wx)
 case first =>
  have hu := Tryd.underlying69
  have hi1 := size16L Hb.out
  have hi2 := size16L (keyU_len Hk.out 0)
  have hkeep : ∀ wx : World, Below w1.heap.size w1 wx → wx.rangeAt w.heap.size 0 (b.map bv) ∧ wx.rangeAt g 256 ((keyU k 0).map bv) := fun wx hw =>
   ⟨(g0.below hw g0.lt).range, Hkey.out wx (hB1.trans (hw.mono hB1.size)) 0 (by omega)⟩
  refine beginT (fun wx => wx.rangeAt w.heap.size 0 (b.map bv) ∧ wx.rangeAt g 256 ((keyU k 0).map bv)) 8 (by kernel_rfl) ?_
  have hS := hkeep _ (c_drew (c_refl _))
  refine ldQ 0 (some 8) 69 (.tmp 3) w.heap.size 0 (b.map bv) (fun wx hSw => hSw.1) hu hi1 (fun _ _ _ h => h) hS ?_
  simp only [Act.put, sA, sZ, sS]
  refine tk 1 (some 9) (.pointer (some ⟨g, 0, none⟩)) (fun _ _ _ h => h) hS ?_
  simp only [Act.put, sA, sZ, sS]
  refine tk 2 (some 10) (.pointer (some ⟨g, 0, none⟩)) (fun _ _ _ h => h) hS ?_
  simp only [Act.put, sA, sZ, sS]
  refine tk 3 (some 11) (.pointer (some ⟨g, 256, none⟩)) (fun _ _ _ h => h) hS ?_
  simp only [Act.put, sA, sZ, sS]
  refine tk 4 (some 12) (.pointer (some ⟨g, 256, none⟩)) (fun _ _ _ h => h) hS ?_
  simp only [Act.put, sA, sZ, sS]
  refine ldQ 5 (some 13) 69 (.tmp 12) g 256 ((keyU k 0).map bv) (fun wx hSw => hSw.2) hu hi2 (fun _ _ _ h => h) hS ?_
  simp only [Act.put, sA, sZ, sS]
  refine rd2 6 7 (fun K hK => ?_) fun K hK => ?_
  ·
   go_simp
   refine (added_any b (keyU k 0) _ Hb.out (keyU_len Hk.out 0)).mono ?_
   rintro e wm ⟨rfl, hbm⟩
   have hm : w1.heap.size ≤ wm.heap.size := (show Below w1.heap.size w1 wm from bl).size
   refine kp hK hkeep ?_
   clear hK K
   refine on1 7 fun K hK => ?_
   go_simp
   refine kp hK hkeep ?_
   clear hK K
   refine on1 8 fun K hK => ?_
   refine step_store_row rfl 69 (.tmp 5) (.tmp 14) rfl wm.heap.size ((addU b (keyU k 0)).map bv).toArray rfl rfl 69 ((zero16).map bv).toArray (heap_alloc_new _ _) (size16 (addU_len _ _)) (same16 (addU_len _ _) zero16_len) (one_bvA _) ?_
   refine hK.out _ _ (fun h => absurd rfl h) ?_
   clear hK K
   refine doneT (by kernel_rfl) ?_ _
   go_wp2_with fail
   go_meet
   exact ⟨wm.heap.size, rfl, by omega, (ArrB.mk_ wm _ _ zero16 rfl rfl).row _, g1.below (B := w1.heap.size) bl g1.lt, hB1.trans (Below.mono (B := w1.heap.size) bl hB1.size)⟩
  ·
   go_simp
   refine kp hK hkeep ?_
   clear hK K
   refine on1 6 fun K hK => ?_
   go_simp
   refine (added_any b (keyU k 0) _ Hb.out (keyU_len Hk.out 0)).mono ?_
   rintro e wm ⟨rfl, hbm⟩
   have hm : w1.heap.size ≤ wm.heap.size := (show Below w1.heap.size w1 wm from bl).size
   refine kp hK hkeep ?_
   clear hK K
   refine on1 8 fun K hK => ?_
   refine step_store_row rfl 69 (.tmp 5) (.tmp 14) rfl w1.drew.heap.size ((addU b (keyU k 0)).map bv).toArray rfl rfl 69 ((zero16).map bv).toArray ((hbm.block _ (by simp)).trans (heap_alloc_new _ _)) (size16 (addU_len _ _)) (same16 (addU_len _ _) zero16_len) (one_bvA _) ?_
   refine hK.out _ _ (fun h => absurd rfl h) ?_
   clear hK K
   refine doneT (by kernel_rfl) ?_ _
   go_wp2_with fail
   go_meet
   exact ⟨w1.heap.size, rfl, by omega, ((ArrB.mk_ w1.drew _ _ zero16 rfl rfl).below hbm (by simp)).row _, g1.below (B := w1.heap.size) bl g1.lt, hB1.trans (Below.mono (B := w1.heap.size) bl hB1.size)⟩
 case rest =>
  obtain ⟨g5, rfl, hg5, k5, k1, hB⟩ := hcut
  clear hB1 g0 g1 hg1
  go_wp2_with fail
  go_loopw [20] (fun i wr => ∃ n : Nat, n ≤ 9 ∧ i = .int .i64 (n : Int) ∧ ArrB wr g5 69 (encTo k b n) ∧ ArrB wr (w.heap.size + 1) 69 zero16 ∧ Below w.heap.size w wr) (fun i _ => (9 - intOf i).toNat)
  case atStart => exact ⟨0, by omega, rfl, k5, k1, hB⟩
  case round =>
   obtain ⟨n, hn, rfl, k5, k1, hB⟩ := hrel
   have hl5 := k5.lt
   by_cases hlt : n < 9
   ·
    have hr := Hkey.out wr hB (n + 1) (by omega)
    have s1 := size16L (keyU_len Hk.out (n + 1))
    have Hkl := Lib.hid (keyU_len Hk.out (n + 1))
    have Hst := Lib.hid (show encTo k b (n + 1) = addU (mixU (turnU (boxL (encTo k b n)))) (keyU k (n + 1)) from rfl)
    have Hel := Lib.hid (encTo_len k b n)
    have j0 : 0 ≤ (n : Int) := by omega
    have j1 : (n : Int) < 9 := by omega
    have k7 := ArrB.mk_ wr 69 _ (keyU k (n + 1)) rfl rfl
    have k5' := k5.alloc (.cells ((keyU k (n + 1)).map bv).toArray 69)
    have k1' := k1.alloc (.cells ((keyU k (n + 1)).map bv).toArray 69)
    have hB' := hB.alloc hB.size (.cells ((keyU k (n + 1)).map bv).toArray 69)
    generalize encTo k b n = q at *
    generalize keyU k (n + 1) = kn at *
    go_wp2_with (first
     | ((with_reducible refine tdQ 23 ?_); refine wpList_load_mid rfl 69 (.tmp 22) rfl g _ rfl (kn.map bv) _ (by rw [show 256 + 16 * (n + 1) = 272 + n * 16 by omega] at hr; exact hr) Tryd.underlying69 rfl s1 ?_)
     | ((with_reducible refine tsQ 69 ?_); refine srQ 69 (.tmp 7) (.tmp 23) wr.heap.size (kn.map bv).toArray (zero16.map bv).toArray (heap_alloc_new _ _) (size16 Hkl.out) (same16 Hkl.out zero16_len) (one_bvA _) ?_; rw [World.setRow_alloc_new]))
    have hl7 : wr.heap.size < (wr.alloc (.cells (kn.map bv).toArray 69)).heap.size := k7.lt
    generalize wr.alloc (.cells (kn.map bv).toArray 69) = w2 at *
    generalize wr.heap.size = g7 at *
    clear k5 k1 hB hr
    have hu := Tryd.underlying69
    have hi1 := size16L Hel.out
    have hi2 := size16L Hkl.out
    have hkeep : ∀ wx : World, Below w2.heap.size w2 wx → wx.rangeAt g5 0 (q.map bv) ∧ wx.rangeAt g7 0 (kn.map bv) := fun wx hw => ⟨(k5'.below hw k5'.lt).range, (k7.below hw k7.lt).range⟩
    have hcip : ∀ wx : World, Below w2.heap.size w2 wx → CipAt wx g (keysU k) := fun wx hw => ArrB.below hC (hB'.trans (hw.mono hB'.size)) hg
    simp only [Act.put]
    refine beginT (fun wx => wx.rangeAt g5 0 (q.map bv) ∧ wx.rangeAt g7 0 (kn.map bv)) 7 (by kernel_rfl) ?_
    have hS := hkeep _ (c_drew (c_refl _))
    refine tk 0 (some 24) (.pointer (some ⟨g, 0, none⟩)) (fun _ _ _ h => h) hS ?_
    simp only [Act.put, sA, sZ, sS]
    refine ldQ 1 (some 25) 69 (.tmp 5) g5 0 (q.map bv) (fun wx hSw => hSw.1) hu hi1 (fun _ _ _ h => h) hS ?_
    simp only [Act.put, sA, sZ, sS]
    refine ldQ 5 (some 29) 69 (.tmp 7) g7 0 (kn.map bv) (fun wx hSw => hSw.2) hu hi2 (fun _ _ _ h => h) hS ?_
    simp only [Act.put, sA, sZ, sS]
    refine on1 2 fun K hK => ?_
    go_simp
    refine (boxed_any g (keysU k) q _ (hcip _ bl) Hel.out).mono ?_
    rintro e wa ⟨rfl, hba⟩
    refine kp hK hkeep ?_
    clear hK K
    refine on1 3 fun K hK => ?_
    go_simp
    refine (turned_any (boxL q) _ (boxL_len _)).mono ?_
    rintro e wb ⟨rfl, hbb⟩
    refine kp hK hkeep ?_
    clear hK K
    refine on1 4 fun K hK => ?_
    go_simp
    refine (mixedA_any (turnU (boxL q)) _ (turnU_len _)).mono ?_
    rintro e wd ⟨rfl, hbd⟩
    refine kp hK hkeep ?_
    clear hK K
    refine on1 6 fun K hK => ?_
    go_simp
    refine (added_any (mixU (turnU (boxL q))) kn _ (mixU_len _) Hkl.out).mono ?_
    rintro e we ⟨rfl, hbe⟩
    refine kp hK hkeep ?_
    clear hK K
    have hE : Below w2.heap.size w2 we := bl
    rw [← Hst.out]
    have k5e := k5'.below hE k5'.lt
    refine on1 7 fun K hK => ?_
    refine step_store_row rfl 69 (.tmp 5) (.tmp 30) rfl g5 ((encTo k b (n + 1)).map bv).toArray rfl rfl 69 ((q).map bv).toArray k5e (size16 (encTo_len _ _ _)) (same16 (encTo_len _ _ _) Hel.out) (one_bvA _) ?_
    refine hK.out _ _ (fun h => absurd rfl h) ?_
    clear hK K
    refine doneT (by kernel_rfl) ?_ _
    go_wp2_with fail
    refine ⟨⟨n + 1, by omega, by go_num, k5e.row _, (k1'.below hE k1'.lt).rowFar (by omega) _, below_setRow (hB'.trans (hE.mono hB'.size)) (by omega) _⟩, by simp [intOf]; omega⟩
   ·
    obtain rfl : n = 9 := by omega
    rw [show ((9 : Nat) : Int) = 9 from rfl]
    have Hst := Lib.hid (show encU k b = addU (turnU (boxL (encTo k b 9))) (keyU k 10) from rfl)
    have Hel := Lib.hid (encTo_len k b 9)
    generalize encTo k b 9 = q at *
    have hu := Tryd.underlying69
    have hi1 := size16L Hel.out
    have hi2 := size16L (keyU_len Hk.out 10)
    have hkeep : ∀ wx : World, Below wr.heap.size wr wx → wx.rangeAt g5 0 (q.map bv) ∧ wx.rangeAt g 416 ((keyU k 10).map bv) := fun wx hw => ⟨(k5.below hw k5.lt).range, Hkey.out wx (hB.trans (hw.mono hB.size)) 10 (by omega)⟩
    have hcip : ∀ wx : World, Below wr.heap.size wr wx → CipAt wx g (keysU k) := fun wx hw => ArrB.below hC (hB.trans (hw.mono hB.size)) hg
    have Hkl := Lib.hid (keyU_len Hk.out 10)
    generalize keyU k 10 = kn at *
    go_wp2_with fail
    refine beginT (fun wx => wx.rangeAt g5 0 (q.map bv) ∧ wx.rangeAt g 416 (kn.map bv)) 10 (by kernel_rfl) ?_
    have hS := hkeep _ (c_drew (c_refl _))
    refine tk 0 (some 32) (.pointer (some ⟨g, 0, none⟩)) (fun _ _ _ h => h) hS ?_
    simp only [Act.put, sA, sZ, sS]
    refine ldQ 1 (some 33) 69 (.tmp 5) g5 0 (q.map bv) (fun wx hSw => hSw.1) hu hi1 (fun _ _ _ h => h) hS ?_
    simp only [Act.put, sA, sZ, sS]
    refine tk 4 (some 36) (.pointer (some ⟨g, 0, none⟩)) (fun _ _ _ h => h) hS ?_
    simp only [Act.put, sA, sZ, sS]
    refine tk 5 (some 37) (.pointer (some ⟨g, 0, none⟩)) (fun _ _ _ h => h) hS ?_
    simp only [Act.put, sA, sZ, sS]
    refine tk 6 (some 38) (.pointer (some ⟨g, 256, none⟩)) (fun _ _ _ h => h) hS ?_
    simp only [Act.put, sA, sZ, sS]
    refine tk 7 (some 39) (.pointer (some ⟨g, 416, none⟩)) (fun _ _ _ h => h) hS ?_
    simp only [Act.put, sA, sZ, sS]
    refine ldQ 8 (some 40) 69 (.tmp 39) g 416 (kn.map bv) (fun wx hSw => hSw.2) hu hi2 (fun _ _ _ h => h) hS ?_
    simp only [Act.put, sA, sZ, sS]
    refine on1 2 fun K hK => ?_
    go_simp
    refine (boxed_any g (keysU k) q _ (hcip _ bl) Hel.out).mono ?_
    rintro e wa ⟨rfl, hba⟩
    refine kp hK hkeep ?_
    clear hK K
    refine on1 3 fun K hK => ?_
    go_simp
    refine (turned_any (boxL q) _ (boxL_len _)).mono ?_
    rintro e wb ⟨rfl, hbb⟩
    refine kp hK hkeep ?_
    clear hK K
    refine on1 9 fun K hK => ?_
    go_simp
    refine (added_any (turnU (boxL q)) kn _ (turnU_len _) Hkl.out).mono ?_
    rintro e we ⟨rfl, hbe⟩
    refine kp hK hkeep ?_
    clear hK K
    have hE : Below wr.heap.size wr we := bl
    rw [← Hst.out]
    have k1e := k1.below hE k1.lt
    refine on1 10 fun K hK => ?_
    refine step_store_row rfl 69 (.tmp 4) (.tmp 41) rfl (w.heap.size + 1) ((encU k b).map bv).toArray rfl rfl 69 ((zero16).map bv).toArray k1e (size16 (encU_len _ _)) (same16 (encU_len _ _) zero16_len) (one_bvA _) ?_
    refine hK.out _ _ (fun h => absurd rfl h) ?_
    clear hK K
    refine doneT (by kernel_rfl) ?_ _
    simp only [Act.put]
    go_wp2_with fail
    exact bodyPost_ret (results_cell_row rfl _ _ (w.heap.size + 1) 69 _ (0, 0) _ rfl (k1e.row (encU k b)) Tryd.underlying69 rfl (size16 (encU_len _ _))) rfl ⟨rfl, below_setRow (hB.trans (hE.mono hB.size)) (by omega) _⟩
end Go.Proofs.YtbiijdboolpaeaaDoor
