import Derived.Test.YtbiijdboolpaeaaDoorG44
import Derived.Test.YtbiijdboolpaeaaDoorG45
set_option linter.unusedVariables false
namespace Go.Proofs.YtbiijdboolpaeaaDoor
open Go.RowKit
set_option maxRecDepth 100000 in
set_option maxHeartbeats 2000000 in
theorem PSeal_any : PS := by
 intro k b A m c At mt ct vs ts w hk hmc hcm hr hmct hctm hmt hf hv ht hT
 have Hk := Lib.hid hk
 have Hbl := Lib.hid (show b.length = m by simpa using hr.len)
 have htx := few_txs (show ts.length = mt by rw [← ht.1]; exact hv.len) hmt hf
 have hA4 : ArrB (w.alloc (.cells (k.map bv).toArray 23)) w.heap.size 23 k := ArrB.mk_ _ _ _ _ rfl rfl
 have hB4 := d_al w (.cells (k.map bv).toArray 23)
 have hr4 := d_rd hr hB4
 have hv4 := d_rd hv hB4
 have ht4 := d_txs ht hB4
 clear hk hr hv ht hf
 obtain ⟨i0, hi0, hz0, hz1, hz2⟩ := info_parts byteInfo
 go_enter Tryd.func15, Tryd.ntmps15
 go_upto_region 1 with (fail)
 generalize w.alloc (.cells (k.map bv).toArray 23) = w4 at *
 by_cases hm : m ≤ 1048576
 rotate_left
 ·
  have hm1 : (1048576 : Int) < (m : Int) := by omega
  go_wp2_with fail
  exact bodyPost_ret (results_tmp2 rfl _ _ _) rfl ⟨hB4, .inr ⟨fun h => hm (by rw [← Hbl.out]; exact h.1), rfl⟩⟩
 have hm1 : ¬ (1048576 : Int) < (m : Int) := by omega
 go_wp2_with fail
 refine (PCounted_any At mt ct vs ts w4 (by omega) htx hv4 ht4).mono ?_
 rintro e w5 ⟨hb5, ⟨hg, A5, n, c5, rfl, hn, hnc, hr5⟩ | ⟨hg, rfl⟩⟩
 rotate_left
 ·
  go_wp2_with fail
  exact bodyPost_ret (results_tmp2 rfl _ _ _) rfl ⟨c_call hB4 hb5, .inr ⟨fun h => hg h.2, rfl⟩⟩
 have hA5 := hA4.below hb5 hA4.lt
 have hB5 := c_call hB4 hb5
 have hr5b := d_rd hr4 hb5
 clear hA4 hr4 hv4 ht4
 go_wp2_with ((with_reducible refine tdQ 22 ?_); refine wpList_load_row rfl 23 (.tmp 3) rfl (w.heap.size) rfl 23 (k.map bv).toArray (0, 0) _ (hA5) Tryd.underlying23 rfl (infoK32 Hk.out) ?_)
 refine (PStream_any k b A m c w5 Hk.out hr5b hm (hT.below hB5)).mono ?_
 rintro e w6 ⟨A6, c6, rfl, hown6, hb6⟩
 have hmc6 := own_cap hown6
 have hA6 := hA5.below hb6 hA5.lt
 have hB6 := c_call hB5 hb6
 have hr56 := d_rd hr5 hb6
 have Hse := Lib.hid (show sealU k b ts = streamU k b ++ tagU k (streamU k b) ts from rfl)
 have Htu := Lib.hid (tagOf_tagU k (streamU k b) ts)
 have Htl := Lib.hid (tagU_len k (streamU k b) ts)
 clear hA5 hr5 hr5b
 go_wp2_with ((with_reducible refine tdQ 26 ?_); refine wpList_load_row rfl 23 (.tmp 3) rfl (w.heap.size) rfl 23 (k.map bv).toArray (0, 0) _ (hA6) Tryd.underlying23 rfl (infoK32 Hk.out) ?_)
 refine (PTagged_any k (besideU ts) (streamU k b) A5 n c5 A6 m c6 w6 Hk.out hnc hmc6 hr56 (Rd.of_own hown6) (by omega) (hT.below hB6)).mono ?_
 rintro e w7 ⟨g7, hg7, rfl, hr7, hb7⟩
 rw [Htu.out] at hr7
 have hown7 := own_below hown6 hb7
 have hB7 := c_call hB6 hb7
 have hs5 := hB5.size
 have hs6 := hb6.size
 have hs7 := hb7.size
 clear hA6 hown6 hr56
 go_wp2_with (at_builtin; refine wpList_append_rd _ rfl (.tmp 25) (.tmp 29) _ rfl (w5.heap.size) 5 i0 _ 1 Tryd.underlying24 hi0 hz0 hz1 hz2 rfl (.slice A6 m c6) m _ rfl hown7 w7.heap.size (some ⟨g7, 0, none⟩) 16 32 ((tagU k (streamU k b) ts).map bv) rfl hr7 (one_bv _) (by simp only [maxLen]; omega) (by omega) (by omega) ?_; intro v8 w8 hown8 hgr8 hat8)
 obtain ⟨A8, c8, rfl, hc8, _⟩ := own_form hown8
 rw [← List.map_append, ← Hse.out] at hown8
 have hge : ∀ g, (Value.slice A6 m c6).ownBlock = some g → w.heap.size ≤ g := fun g hg => Nat.le_trans hs5 (hown7.lt g hg).1
 exact bodyPost_ret (results_tmp2 rfl _ _ _) rfl ⟨hB7.grown hgr8 hB7.size hge, .inl ⟨by rw [Hbl.out]; exact hm, hg, A8, m + 16, c8, rfl, NewB.of_own hown8 hs5⟩⟩
set_option maxRecDepth 100000 in
set_option maxHeartbeats 4000000 in
theorem POpen_any : PO := by
 intro k b A m c At mt ct vs ts w hk hmc hcm hr hmct hctm hmt hf hv ht hT
 have Hk := Lib.hid hk
 have Hbl := Lib.hid (show b.length = m by simpa using hr.len)
 have htx := few_txs (show ts.length = mt by rw [← ht.1]; exact hv.len) hmt hf
 have hA4 : ArrB (w.alloc (.cells (k.map bv).toArray 23)) w.heap.size 23 k := ArrB.mk_ _ _ _ _ rfl rfl
 have hB4 := d_al w (.cells (k.map bv).toArray 23)
 have hr4 := d_rd hr hB4
 have hv4 := d_rd hv hB4
 have ht4 := d_txs ht hB4
 clear hk hr hv ht hf
 rw [maxLen] at hcm
 go_enter Tryd.func16, Tryd.ntmps16
 go_upto_region 1 with (fail)
 generalize w.alloc (.cells (k.map bv).toArray 23) = w4 at *
 by_cases h16 : m < 16
 ·
  have hm1 : (m : Int) < 16 := by omega
  go_wp2_with fail
  exact bodyPost_ret (results_tmp2 rfl _ _ _) rfl ⟨hB4, .inl ⟨by rw [Hbl.out]; exact h16, rfl⟩⟩
 have hm1 : ¬ (m : Int) < 16 := by omega
 by_cases hm : m ≤ 1048592
 rotate_left
 ·
  have hm2 : (1048592 : Int) < (m : Int) := by omega
  go_wp2_with fail
  exact bodyPost_ret (results_tmp2 rfl _ _ _) rfl ⟨hB4, .inr (.inl ⟨by rw [Hbl.out]; omega, fun h => hm (by rw [← Hbl.out]; exact h.1), rfl⟩)⟩
 have hm2 : ¬ (1048592 : Int) < (m : Int) := by omega
 go_wp2_with fail
 refine (PCounted_any At mt ct vs ts w4 (by omega) htx hv4 ht4).mono ?_
 rintro e w5 ⟨hb5, ⟨hg, A5, n, c5, rfl, hn, hnc, hr5⟩ | ⟨hg, rfl⟩⟩
 rotate_left
 ·
  go_wp2_with fail
  exact bodyPost_ret (results_tmp2 rfl _ _ _) rfl ⟨c_call hB4 hb5, .inr (.inl ⟨by rw [Hbl.out]; omega, fun h => hg h.2, rfl⟩)⟩
 have hA5 := hA4.below hb5 hA4.lt
 have hB5 := c_call hB4 hb5
 have hr5b := d_rd hr4 hb5
 clear hA4 hr4 hv4 ht4 htx
 obtain ⟨h, hh⟩ : ∃ h, m = h + 16 := ⟨m - 16, by omega⟩
 have Hm := Lib.hid hh
 have e1 : (m : Int) - 16 = (h : Int) := by omega
 have e2 : IntKind.i64.wrap (h : Int) = (h : Int) := by rw [IntKind.wrap_i64]; omega
 have k0 : (0 : Int) ≤ (h : Int) := by omega
 have k1 : (h : Int) ≤ (c : Int) := by omega
 have k2 : (h : Int) ≤ (m : Int) := by omega
 have k3 : (m : Int) ≤ (c : Int) := by omega
 have kne : ¬ c = h := by omega
 have hmh : m - h = 16 := by omega
 have h48 : h ≤ 1048576 := by omega
 have hrh := hr5b.take (show h ≤ m by omega)
 have hrt := hr5b.cut (show h ≤ m by omega) hmc
 rw [← List.map_take] at hrh
 rw [← List.map_drop, if_neg kne, hmh] at hrt
 have Hop := Lib.hid (show openU k b = streamU k (b.take h) by unfold openU; rw [Hbl.out, hh, Nat.add_sub_cancel])
 have Hso := Lib.hid (show soundU k b ts ↔ tagU k (b.take h) ts = b.drop h by unfold soundU; rw [Hbl.out, hh, Nat.add_sub_cancel])
 have Htu := Lib.hid (tagOf_tagU k (b.take h) ts)
 clear hh hr5b
 generalize b.take h = bh at *
 generalize b.drop h = bt at *
 have huk := Tryd.underlying23
 have hK32 : (Tryd.prog.info? 23).map (·.size) = some (k.map bv).length := by rw [info32, List.length_map, Hk.out]
 have hk0 : ∀ wx : World, Below w5.heap.size w5 wx → wx.rangeAt w.heap.size 0 (k.map bv) := fun wx hb => (hA5.below hb hA5.lt).range
 have Htag := Lib.hid (fun (wx : World) (hb : Below w5.heap.size w5 wx) => PTagged_any k (besideU ts) bh A5 n c5 A h c wx Hk.out hnc (by omega) (d_rd hr5 hb) (d_rd hrh hb) (by omega) (hT.below (c_call hB5 hb)))
 clear hr5
 go_wp2_with fail
 refine beginT (fun wx => wx.rangeAt w.heap.size 0 (k.map bv)) 11 (by kernel_rfl) ?_
 have hS := hk0 _ (c_drew (c_refl _))
 refine ldQ 0 (some 28) 23 (.tmp 3) w.heap.size 0 (k.map bv) (fun wx hSw => hSw) huk hK32 (fun _ _ _ h => h) hS ?_
 simp only [Act.put, sA, sZ, sS]
 refine tk 1 (some 29) (.slice A5 n c5) (fun _ _ _ h => h) hS ?_
 simp only [Act.put, sA, sZ, sS]
 refine tk 2 (some 30) (.slice A m c) (fun _ _ _ h => h) hS ?_
 simp only [Act.put, sA, sZ, sS]
 refine tk 3 (some 31) (.int .i64 (h : Int)) (fun _ _ _ h => h) hS ?_
 simp only [Act.put, sA, sZ, sS]
 refine tk 4 (some 32) (.slice A h c) (fun _ _ _ h => h) hS ?_
 simp only [Act.put, sA, sZ, sS]
 refine tk 6 (some 34) (.slice A m c) (fun _ _ _ h => h) hS ?_
 simp only [Act.put, sA, sZ, sS]
 refine tk 7 (some 35) (.int .i64 (h : Int)) (fun _ _ _ h => h) hS ?_
 simp only [Act.put, sA, sZ, sS]
 refine tk 8 (some 36) (.slice (A.map (·.add h)) 16 (c - h)) (fun _ _ _ h => h) hS ?_
 simp only [Act.put, sA, sZ, sS]
 refine on1 5 fun K hK => ?_
 go_simp
 refine (Htag.out _ bl).mono ?_
 rintro e w7 ⟨g7, hg7, rfl, hr7, hb7⟩
 rw [Htu.out] at hr7
 refine kp hK hk0 ?_
 clear hK K
 have hrt7 := d_rd hrt (show Below w5.heap.size w5 w7 from bl)
 obtain ⟨sb, hsb⟩ : ∃ sb, sameB (tagU k bh ts) bt = sb := ⟨_, rfl⟩
 have heq := mEqual_any (some ⟨g7, 0, none⟩) (A.map (·.add h)) 16 32 16 (c - h) (tagU k bh ts) bt w7 w7.heap.size w7.heap.size (by omega) (by omega) hr7 hrt7
 rw [hsb] at heq
 refine on1 9 fun K hK => ?_
 go_simp
 refine heq.mono ?_
 rintro e w8 ⟨rfl, rfl⟩
 refine kp hK hk0 ?_
 clear hK K
 refine on1 10 fun K hK => ?_
 go_simp
 refine kp hK hk0 ?_
 clear hK K
 refine doneT (by kernel_rfl) ?_ _
 have hE7 : Below w5.heap.size w5 w7 := by
  repeat (first | exact c_refl _ | refine c_drew ?_ | refine c_call ?_ hb7)
 have hB7 := c_call hB5 hE7
 have hrh7 := d_rd hrh hE7
 have hso : sb = true ↔ soundU k b ts := by rw [← hsb, Hso.out, sameB, beq_iff_eq]
 clear hk0 Htag hrt hrh hr7 hrt7
 cases sb
 ·
  go_wp2_with fail
  exact bodyPost_ret (results_tmp2 rfl _ _ _) rfl ⟨hB7, .inr (.inr (.inl ⟨by rw [Hbl.out]; omega, by rw [Hbl.out]; exact hm, hg, fun h => absurd (hso.2 h) (by simp), rfl⟩))⟩
 have Hss := Lib.hid (hso.1 rfl)
 clear hso heq hsb e1 hmh
 have hA7 := hA5.below hE7 hA5.lt
 have hk1 : ∀ wx : World, Below w7.heap.size w7 wx → wx.rangeAt w.heap.size 0 (k.map bv) := fun wx hb => (hA7.below hb hA7.lt).range
 have Hst := Lib.hid (fun (wx : World) (hb : Below w7.heap.size w7 wx) => PStream_any k bh A h c wx Hk.out (d_rd hrh7 hb) (by omega) (hT.below (c_call hB7 hb)))
 clear hb7 hb5
 go_wp2_with fail
 refine beginT (fun wx => wx.rangeAt w.heap.size 0 (k.map bv)) 6 (by kernel_rfl) ?_
 have hS := hk1 _ (c_drew (c_refl _))
 refine ldQ 0 (some 39) 23 (.tmp 3) w.heap.size 0 (k.map bv) (fun wx hSw => hSw) huk hK32 (fun _ _ _ h => h) hS ?_
 simp only [Act.put, sA, sZ, sS]
 refine tk 1 (some 40) (.slice A m c) (fun _ _ _ h => h) hS ?_
 simp only [Act.put, sA, sZ, sS]
 refine tk 2 (some 41) (.int .i64 (h : Int)) (fun _ _ _ h => h) hS ?_
 simp only [Act.put, sA, sZ, sS]
 refine tk 3 (some 42) (.slice A h c) (fun _ _ _ h => h) hS ?_
 simp only [Act.put, sA, sZ, sS]
 refine on1 4 fun K hK => ?_
 go_simp
 refine (Hst.out _ bl).mono ?_
 rintro e w8 ⟨A8, c8, rfl, hown8, hb8⟩
 refine kp hK hk1 ?_
 clear hK K
 have hS2 := hk1 w8 bl
 refine on1 5 fun K hK => ?_
 go_simp
 refine hK.out _ _ (fun _ => hS2) ?_
 clear hK K
 refine on1 6 fun K hK => ?_
 go_simp
 refine hK.out _ _ (fun h => absurd rfl h) ?_
 clear hK K
 refine doneT (by kernel_rfl) ?_ _
 have hE8 : Below w7.heap.size w7 w8 := by
  repeat (first | exact c_refl _ | refine c_drew ?_ | refine c_call ?_ hb8)
 go_wp2_with fail
 rw [← Hop.out] at hown8
 exact bodyPost_ret (results_tmp2 rfl _ _ _) rfl ⟨c_call hB7 hE8, .inr (.inr (.inr ⟨by rw [Hbl.out]; omega, by rw [Hbl.out]; exact hm, hg, Hss.out, A8, h, c8, rfl, NewB.of_own hown8 (by simpa using hB7.size)⟩))⟩
end Go.Proofs.YtbiijdboolpaeaaDoor
