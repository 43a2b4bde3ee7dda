import Derived.Test.YtmganbdbihjbmaaK22
/-
  CONTRACT of the program's taken (tree): one member fewer, in rows of the call's own. Printed by gen_treetaken.py.
-/
set_option linter.unusedVariables false
namespace Go.Proofs.Ytmganbdbihjbmaa
open Go.RowKit

theorem delL_nbr (l l2 : List Nat) (ls : List (List Nat)) (a : Nat) : delL (l :: l2 :: ls) a =
    if l[grpT l a]? = some 3 then l.set (grpT l a) 2 :: l2 :: ls
    else if l[nbrT l2 (grpT l a)]? = some 3 then ((l.set (nbrT l2 (grpT l a)) 2).set (grpT l a) 2) :: l2 :: ls
    else ((l.set (nbrT l2 (grpT l a)) 3).eraseIdx (grpT l a)) :: delL (l2 :: ls) (grpT l a) := by
  rw [delL_two]
  unfold nbrT
  split
  · rfl
  · split <;> rfl
theorem nbr_ok {l2 : List Nat} {k : Nat} (h2 : two3 l2) (hk : k < l2.sum) : nbrT l2 k < l2.sum ∧ nbrT l2 k ≠ k := by
  obtain ⟨j1, j2, j3⟩ := grpT_spec l2 k hk
  have hj := startT_succ l2 j1
  have hj2 := two3_get h2 j1
  have hjl := startT_le l2 (grpT l2 k + 1)
  unfold nbrT
  split <;> omega

theorem delL_three {l : List Nat} {ls : List (List Nat)} {a : Nat} (h : l[grpT l a]? = some 3) : delL (l :: ls) a = l.set (grpT l a) 2 :: ls := by
  match ls with
  | [] => rw [delL_one, if_pos h]
  | l2 :: ls => rw [delL_two, if_pos h]
theorem erase_set_two {l : List Nat} {j q x y : Nat} (hne : q ≠ j) : ((l.set j x).set q y).eraseIdx j = (l.set q y).eraseIdx j := by
  rw [List.set_comm _ _ (Ne.symm hne), List.eraseIdx_set_eq]

set_option maxRecDepth 100000 in
set_option maxHeartbeats 8000000 in
theorem PTaken_any (base : Nat) (Ai : Option Addr) (n ci : Nat) (Al : Option Addr) (nl cl : Nat) (vs : List Value) (ids : List Int) (lv : List (List Nat)) (p : Nat) (w : World) (hb : base ≤ w.heap.size) (hn6 : ids.length ≤ 1000) (hnl : lv.length ≤ 20) (hp : p < ids.length)
    (hok : lvOK ids.length lv) (h : OwW base w (.slice Ai n ci) (.slice Al nl cl) vs vs ids (levI lv)) :
    Calls Try.prog 50 #[.agg (shV Ai n ci Al nl cl), .int .i64 (p : Nat)] w (PutPost base w (ids.eraseIdx p) (delL lv p)) := by
  have Hpost := Lib.hid (show ∀ Ai ni ci Al nl cl vs w', Below base w w' → OwW base w' (.slice Ai ni ci) (.slice Al nl cl) vs vs (ids.eraseIdx p) (levI (delL lv p)) → PutPost base w (ids.eraseIdx p) (delL lv p) (.returned (.agg (shV Ai ni ci Al nl cl))) w' from fun _ _ _ _ _ _ _ _ h1 h2 => ⟨h1, _, _, _, _, _, _, _, rfl, h2⟩)
  generalize PutPost base w (ids.eraseIdx p) (delL lv p) = PO at *
  have Hp := Lib.hid hp
  obtain ⟨R, hR⟩ : ∃ R, R = delL lv p := ⟨_, rfl⟩
  rw [← hR] at Hpost
  have HR0 := Lib.hid hR
  clear hR
  have hM0 := MsB.of (((Ms.nil w).box 25 (shV Ai n ci Al nl cl)).box 25 #[.slice none 0 0, .slice none 0 0]) hb
  simp only [World.size_alloc] at hM0
  have h0 := (h.quiet (d_al w (.cells (shV Ai n ci Al nl cl) 25))).quiet (d_al _ (.cells #[.slice none 0 0, .slice none 0 0] 25))
  have hs0 : ((w.alloc (.cells (shV Ai n ci Al nl cl) 25)).alloc (.cells #[.slice none 0 0, .slice none 0 0] 25)).heap.size = w.heap.size + 1 + 1 := by simp
  obtain ⟨Ac, cc, ec, hcc, hmm⟩ := own_formT h.i
  injection ec with e1 e2 e3
  subst e1 e3
  have Hn := Lib.hid e2
  clear e2
  have hmm' : ci < 9223372036854775808 := by unfold maxLen at hmm; omega
  rw [← Hn.out] at hcc
  have hpn : (p : Int) < (n : Int) := by have := Hn.out; omega
  have hn1000 : n ≤ 1000 := by have := Hn.out; omega
  have hi0 := h.i
  rw [← Hn.out] at hi0
  obtain ⟨gI, rfl⟩ := own_someT hi0 (by omega)
  clear hi0
  clear h hp
  have hwp : IntKind.i64.wrap ((p : Int) + 1) = (p : Int) + 1 := by rw [IntKind.wrap_i64]; omega
  go_enter Try.func50, Try.ntmps50
  go_upto_region 1 with fail
  try simp only [Act.put]
  obtain ⟨gB, hgB⟩ : ∃ g, g = w.heap.size := ⟨_, rfl⟩
  rw [← hgB] at hM0 hs0 hb ⊢
  refine wp_gen (fun wx => MsB base w wx [(gB, 25, shV (some ⟨gI, 0, none⟩) n ci Al nl cl), (gB + 1, 25, #[.slice none 0 0, .slice none 0 0])] ∧ OwW base wx (.slice (some ⟨gI, 0, none⟩) n ci) (.slice Al nl cl) vs vs ids (levI lv) ∧ gB + 1 + 1 ≤ wx.heap.size) ⟨⟨hM0.old, fun p hp => hM0.rows p (by simp only [List.mem_cons, List.not_mem_nil, or_false] at hp ⊢; rcases hp with rfl | rfl <;> simp)⟩, h0, by rw [hs0]; exact Nat.le_refl _⟩ ?_
  clear hM0 h0 hs0 hgB
  rintro w1 ⟨hM1, h1, hs1⟩
  obtain ⟨m, hm⟩ : ∃ m, m + 1 = n := ⟨n - 1, by omega⟩
  have Hm := Lib.hid hm
  clear hm
  have hi1 := h1.i
  rw [← Hn.out] at hi1
  have hdel := DelI_any base gI n ci p m ((p : Int) + 1) (ids.map iv) w1 rfl Hm.out (by have := Hm.out; omega) (by omega) (one_iv _) hi1
  have kb0 := (hM1.get 0 rfl).cell (i := 0) (v := .slice (some ⟨gI, 0, none⟩) n ci) rfl
  go_wp2_with fail
  refine hdel.mono ?_
  rintro e w2 ⟨rfl, hown2, hgr2⟩
  have h2 : OwW base w2 (.slice (some ⟨gI, 0, none⟩) m ci) (.slice Al nl cl) vs vs (ids.eraseIdx p) (levI lv) := h1.idsT hgr2 (by
    have he : (ids.map iv).eraseIdx p = (ids.eraseIdx p).map iv := by simp [List.eraseIdx_eq_take_drop_succ, List.map_append, List.map_take, List.map_drop]
    have hl : (ids.eraseIdx p).length = m := by rw [List.length_eraseIdx, if_pos Hp.out]; have := Hm.out; have := Hn.out; omega
    rw [he] at hown2
    rw [hl]
    exact hown2) (.inl rfl)
  have hgI : base ≤ gI := own_blockT hi1 gI rfl
  have hM2 := hM1.turn hgr2 (by omega) (fun g hg => by
    injection hg with hg
    subst hg
    obtain ⟨cs, hr⟩ := own_tyT hi1 (g := gI) rfl
    exact ⟨hgI, _, cs, hr, fun q hq => by simp at hq; rcases hq with rfl | rfl <;> exact sh_ne.1.symm⟩)
  have hs2 := hgr2.size
  clear hown2 hdel hM1 h1 hi1 kb0 hgr2
  have kc := (hM2.get 0 rfl).cell (i := 0) (v := .slice (some ⟨gI, 0, none⟩) n ci) rfl
  have kf := (hM2.get 0 rfl).frozen 0
  go_upto_region 2 with fail
  try simp only [Act.put]
  have hM3 := hM2.set (by omega) (fun q hq => by simp at hq; subst hq; simp) 0 (.slice (some ⟨gI, 0, none⟩) m ci)
  rw [show (shV (some ⟨gI, 0, none⟩) n ci Al nl cl).setIfInBounds 0 (.slice (some ⟨gI, 0, none⟩) m ci) = #[.slice (some ⟨gI, 0, none⟩) m ci, .slice Al nl cl] from rfl] at hM3
  have h3 := h2.far (grown_setCell w2 gB 0 (.slice (some ⟨gI, 0, none⟩) m ci)) (hM2.get 0 rfl) sh_ne.1 sh_ne.2
  obtain ⟨vI, hvI⟩ : ∃ vI : Value, vI = .slice (some ⟨gI, 0, none⟩) m ci := ⟨_, rfl⟩
  refine wp_gen (fun wx => MsB base w wx [(gB, 25, #[.slice (some ⟨gI, 0, none⟩) m ci, .slice Al nl cl]), (gB + 1, 25, #[.slice none 0 0, .slice none 0 0])] ∧ OwW base wx (.slice (some ⟨gI, 0, none⟩) m ci) (.slice Al nl cl) vs vs (ids.eraseIdx p) (levI lv) ∧ gB + 1 + 1 ≤ wx.heap.size) ⟨hM3, h3, (hM3.get 1 rfl).lt⟩ ?_
  clear hM3 h3 hM2 h2 kc kf hs1 hs2 hvI vI
  rintro w3 ⟨hM3, h3, hs3⟩
  generalize ids.eraseIdx p = ids2 at *
  have Hnl := Lib.hid (show nl = lv.length by
    have := h3.l
    rw [levI_lenX] at this
    obtain ⟨_, _, e, _⟩ := own_formT this
    injection e with _ e2)
  have hnl20 : nl ≤ 20 := by rw [Hnl.out]; exact hnl
  have k1 := (hM3.get 0 rfl).cell (i := 1) (v := .slice Al nl cl) rfl
  go_wp2_with fail
  go_loopw [1, 18] (fun a i wr => ∃ (k b many : Nat) (done : List (List Nat)) (vs' : List Value), k ≤ nl ∧ i = .int .i64 (k : Int) ∧ a = .int .i64 (b : Int) ∧ b < many ∧ many ≤ 1000 ∧ lvOK many (lv.drop k) ∧ R = done ++ delL (lv.drop k) b ∧ done.length = k ∧
    OwW base wr (.slice (some ⟨gI, 0, none⟩) m ci) (.slice Al nl cl) vs' vs' ids2 (levI (done ++ lv.drop k)) ∧ MsB base w wr [(gB, 25, #[.slice (some ⟨gI, 0, none⟩) m ci, .slice Al nl cl]), (gB + 1, 25, #[.slice none 0 0, .slice none 0 0])] ∧ gB + 1 + 1 ≤ wr.heap.size) (fun _ i _ => nl - (intOf i).toNat)
  case atStart => exact ⟨0, p, ids.length, [], vs, by omega, rfl, rfl, Hp.out, hn6, hok, HR0.out, rfl, h3, hM3, hs3⟩
  case round =>
    clear hM3 h3 k1 hs3
    obtain ⟨k, b, many, done, vs', hk, rfl, rfl, hbm, hm1000, hlo, hR, hdl, h4, hM4, hs4⟩ := hrel
    have HR := Lib.hid hR
    have Hdl := Lib.hid hdl
    have Hlo := Lib.hid hlo
    clear hR hdl hlo
    by_cases hlt : k < nl
    · have hkl : k < lv.length := by rw [← Hnl.out]; exact hlt
      obtain ⟨l, hl⟩ : ∃ l, lv[k]? = some l := ⟨_, List.getElem?_eq_getElem hkl⟩
      have hd : lv.drop k = l :: lv.drop (k + 1) := by rw [List.drop_eq_getElem_cons hkl, (List.getElem?_eq_some_iff.1 hl).2]
      have hX : (done ++ lv.drop k)[k]? = some l := by rw [List.getElem?_append_right (by have := Hdl.out; omega), Hdl.out, Nat.sub_self, hd]; rfl
      have hlo2 := Hlo.out
      rw [hd] at hlo2
      obtain ⟨o1, o2, o3, o4⟩ := hlo2
      obtain ⟨g1, g2, g3⟩ := grpT_spec l b (by omega)
      have hlm := (two3_len o2).1
      obtain ⟨gl, g, c, rfl, hnl', hcl1, hcl2, hc, hm, hv, hcell, hown, hgg⟩ := h4.lvl hX (by omega)
      have HX := Lib.hid hX
      have Hv := Lib.hid hv
      have HRR := Lib.hid (show R = done ++ delL (l :: lv.drop (k + 1)) b by rw [HR.out, hd])
      have Hset := Lib.hid (fun (y : List Nat) => show (done ++ lv.drop k).set k y = done ++ y :: lv.drop (k + 1) by
        rw [List.set_append_right _ _ (by have := Hdl.out; omega), Hdl.out, Nat.sub_self, hd, List.set_cons_zero])
      have hgo := PGroupOf_any (some ⟨g, 0, none⟩) l.length c (castL l) b wr hc hm (by omega) (by omega) (in23_mk o2) (Rd.of_own hown)
      rw [natL_cast] at hgo
      have h23 := two3_get o2 g1
      have H23 := Lib.hid o2
      have Ho4 := Lib.hid o4
      have hlen1 : l.length ≤ 1000 := by omega
      have hm63 : c < 9223372036854775808 := by unfold maxLen at hm; omega
      have hnlk : nl ≤ cl := hcl1
      have hwk : IntKind.i64.wrap ((k : Int) + 1) = (k : Int) + 1 := by rw [IntKind.wrap_i64]; omega
      clear hX hv hl hd g2 g3 o3 o4 hlm hnl' o2
      obtain ⟨j, hj⟩ : ∃ j, j = grpT l b := ⟨_, rfl⟩
      rw [← hj] at hgo g1
      have h23' : l[j]'g1 = 2 ∨ l[j]'g1 = 3 := by subst hj; exact h23
      clear h23
      have Hj := Lib.hid hj
      clear hj
      obtain ⟨hc1, hf1⟩ := lvl_cell hown g1
      have hjl : (j : Int) < (l.length : Int) := by omega
      have hget : l[j]? = some l[j] := List.getElem?_eq_getElem g1
      have kl := (hM4.get 0 rfl).cell (i := 1) (v := .slice (some ⟨gl, 0, none⟩) nl cl) rfl
      obtain ⟨crow, hgrow, _⟩ := own_rowT hown
      have hgb : base ≤ g := own_blockT hown g rfl
      generalize hxx : l[j] = x at *
      clear hxx
      rcases h23' with rfl | rfl
      rotate_left
      · have Hf := Lib.hid (show R = done ++ (l.set j 2 :: lv.drop (k + 1)) by rw [HRR.out, delL_three (by rw [← Hj.out]; exact hget), ← Hj.out])
        clear hget
        go_wp2_with fail
        refine hgo.mono ?_
        rintro e wr ⟨rfl, rfl⟩
        go_upto_region 7 with fail
        try simp only [Act.put]
        have h5 : OwW base (wr.setCell ⟨g, j, none⟩ (.int .i64 2)) (.slice (some ⟨gI, 0, none⟩) m ci) (.slice (some ⟨gl, 0, none⟩) nl cl) vs' vs' ids2 (levI ((done ++ lv.drop k).set k (l.set j 2))) := h4.num HX.out Hv.out j 2
        rw [Hset.out, ← Hf.out] at h5
        have hM5 := hM4.turn (grown_setCell wr g j (.int .i64 2)) (by omega) (fun q' hq => by injection hq with hq; subst hq; exact ⟨hgb, _, _, hgrow, fun q'' hq2 => by simp at hq2; rcases hq2 with rfl | rfl <;> exact sh_ne.1.symm⟩)
        have hcc5 : (wr.setCell ⟨g, j, none⟩ (.int .i64 2)).cell? ⟨g, j, none⟩ = some (.int .i64 2) := World.cell?_setCell_same _ _ _ hc1
        refine wp_gen (fun wx => MsB base w wx [(gB, 25, #[.slice (some ⟨gI, 0, none⟩) m ci, .slice (some ⟨gl, 0, none⟩) nl cl]), (gB + 1, 25, #[.slice none 0 0, .slice none 0 0])] ∧ OwW base wx (.slice (some ⟨gI, 0, none⟩) m ci) (.slice (some ⟨gl, 0, none⟩) nl cl) vs' vs' ids2 (levI R) ∧ wx.cell? ⟨g, j, none⟩ = some (.int .i64 2)) ⟨hM5, h5, hcc5⟩ ?_
        clear hM5 h5 hcc5 hM4 h4 hcell hown hc1 hf1 kl hgo hgrow
        rintro w5 ⟨hM5, h5, hcc5⟩
        go_wp2_with (first
          | ((with_reducible show wpList _ _ _ (⟨some 37, _, _, _, _, _⟩ :: _) _ _); refine wpList_loadC (by kernel_rfl) 25 (.tmp 2) rfl gB rfl 25 #[.slice (some ⟨gI, 0, none⟩) m ci, .slice (some ⟨gl, 0, none⟩) nl cl] _ (hM5.get 0 rfl) Try.underlying25 rfl shapeInfo2 ?_)
          | ((with_reducible show wpList _ _ _ (⟨none, Op.store 25 _ _, _, _, _, _⟩ :: _) _ _); refine wpList_store_row rfl 25 (.tmp 4) (.tmp 37) rfl (gB + 1) #[.slice (some ⟨gI, 0, none⟩) m ci, .slice (some ⟨gl, 0, none⟩) nl cl] rfl rfl 25 _ (hM5.get 1 rfl) shapeInfo2 rfl (by simp [Value.oneCell']) ?_))
        try simp only [Act.put]
        have hR9 := (hM5.get 1 rfl).row #[.slice (some ⟨gI, 0, none⟩) m ci, .slice (some ⟨gl, 0, none⟩) nl cl]
        have hw9 := h5.far (grown_setRow _ (gB + 1) #[.slice (some ⟨gI, 0, none⟩) m ci, .slice (some ⟨gl, 0, none⟩) nl cl]) (hM5.get 1 rfl) sh_ne.1 sh_ne.2
        have hb9 := below_setRow hM5.old (show base ≤ (gB + 1) by omega) #[.slice (some ⟨gI, 0, none⟩) m ci, .slice (some ⟨gl, 0, none⟩) nl cl]
        refine bodyPost_ret (results_cell_one rfl _ _ (gB + 1) _ #[.slice (some ⟨gI, 0, none⟩) m ci, .slice (some ⟨gl, 0, none⟩) nl cl] _ rfl hR9 Try.underlying25 rfl shapeInfo2) rfl (Hpost.out _ _ _ _ _ _ _ _ hb9 hw9)
      go_wp2_with fail
      refine hgo.mono ?_
      rintro e wr ⟨rfl, rfl⟩
      go_upto_region 7 with fail
      try simp only [Act.put]
      have h5 : OwW base (wr.setCell ⟨g, j, none⟩ (.int .i64 1)) (.slice (some ⟨gI, 0, none⟩) m ci) (.slice (some ⟨gl, 0, none⟩) nl cl) vs' vs' ids2 (levI ((done ++ lv.drop k).set k (l.set j 1))) := h4.num HX.out Hv.out j 1
      have hM5 := hM4.turn (grown_setCell wr g j (.int .i64 1)) (by omega) (fun q' hq => by injection hq with hq; subst hq; exact ⟨hgb, _, _, hgrow, fun q'' hq2 => by simp at hq2; rcases hq2 with rfl | rfl <;> exact sh_ne.1.symm⟩)
      have hcc5 : (wr.setCell ⟨g, j, none⟩ (.int .i64 1)).cell? ⟨g, j, none⟩ = some (.int .i64 1) := World.cell?_setCell_same _ _ _ hc1
      have hs5 : gB + 1 + 1 ≤ (wr.setCell ⟨g, j, none⟩ (.int .i64 1)).heap.size := by simp; exact hs4
      refine wp_gen (fun wx => MsB base w wx [(gB, 25, #[.slice (some ⟨gI, 0, none⟩) m ci, .slice (some ⟨gl, 0, none⟩) nl cl]), (gB + 1, 25, #[.slice none 0 0, .slice none 0 0])] ∧ OwW base wx (.slice (some ⟨gI, 0, none⟩) m ci) (.slice (some ⟨gl, 0, none⟩) nl cl) vs' vs' ids2 (levI ((done ++ lv.drop k).set k (l.set j 1))) ∧ wx.cell? ⟨g, j, none⟩ = some (.int .i64 1) ∧ gB + 1 + 1 ≤ wx.heap.size) ⟨hM5, h5, hcc5, hs5⟩ ?_
      clear hM5 h5 hcc5 hM4 h4 hcell hown hc1 hf1 kl hgo hgrow hs5 hs4
      rintro w5 ⟨hM5, h5, hcc5, hs5⟩
      have hX5 : ((done ++ lv.drop k).set k (l.set j 1))[k]? = some (l.set j 1) := List.getElem?_set_self (List.getElem?_eq_some_iff.1 HX.out).1
      have hv5 : vs'[k]? = some (.slice (some ⟨g, 0, none⟩) (l.set j 1).length c) := by rw [List.length_set]; exact Hv.out
      have HX5 := Lib.hid hX5
      have Hv5 := Lib.hid hv5
      have Hg2 := Lib.hid hget
      have kb := (hM5.get 0 rfl).cell (i := 1) (v := .slice (some ⟨gl, 0, none⟩) nl cl) rfl
      clear hX5 hv5 hget
      by_cases hl1 : l.length = 1
      · have hls : lv.drop (k + 1) = [] := lv_nilT Ho4.out (by omega)
        have hkn : k + 1 = nl := by
          have := congrArg List.length hls
          rw [List.length_drop, List.length_nil] at this
          have := Hnl.out
          omega
        have Hf := Lib.hid (show R = done by
          rw [HRR.out, hls, delL_one, if_neg (by rw [← Hj.out, Hg2.out]; simp), List.append_nil])
        clear hls
        have hll := h5.l
        have hlX : ((done ++ lv.drop k).set k (l.set j 1)).length = nl := by rw [List.length_set, List.length_append, List.length_drop, Hdl.out]; have := Hnl.out; omega
        rw [levI_lenX, hlX] at hll
        have hone : ∀ u ∈ vs', u.oneCell' = true := by
          intro u hu
          obtain ⟨i, hi⟩ := List.mem_iff_getElem?.1 hu
          obtain ⟨_, _, h6⟩ := h5.at_ hi
          obtain ⟨_, _, rfl, _⟩ := own_formT h6
          rfl
        have hdel := DelL_any base gl nl cl k k ((k : Int) + 1) vs' w5 rfl hkn (Nat.le_refl _) (by omega) hone hll
        have Hkn := Lib.hid hkn
        have Hlen := Lib.hid hlX
        have hle : ((l.length : Int) == 1) = true := by rw [hl1]; rfl
        clear hkn hlX hl1
        go_wp2_with fail
        refine hdel.mono ?_
        rintro e w6 ⟨rfl, hown6, hgr6⟩
        have h6 := h5.lastOff (k := k) (g := gl) (vL' := .slice (some ⟨gl, 0, none⟩) k cl) (by rw [levI_lenX, Hlen.out]; exact Hkn.out) rfl hgr6 hown6
        rw [Hset.out, show (levI (done ++ l.set j 1 :: lv.drop (k + 1))).take k = levI R by
          rw [Hf.out]; simp [levI, Hdl.out]] at h6
        have hM6 := hM5.turn hgr6 (by omega) (fun q' hq => by
          injection hq with hq
          subst hq
          obtain ⟨cs, hr⟩ := own_tyT hll (g := gl) rfl
          exact ⟨own_blockT hll gl rfl, _, cs, hr, fun q'' hq2 => by simp at hq2; rcases hq2 with rfl | rfl <;> exact sh_ne.2.symm⟩)
        have hs6 := hgr6.size
        have kc := (hM6.get 0 rfl).cell (i := 1) (v := .slice (some ⟨gl, 0, none⟩) nl cl) rfl
        have kf := (hM6.get 0 rfl).frozen 1
        clear hdel hown6 hgr6 hll hone h5 hM5 hcc5 kb
        go_upto_region 11 with fail
        try simp only [Act.put]
        have hM7 := hM6.set (by omega) (fun q hq => by simp at hq; subst hq; simp) 1 (.slice (some ⟨gl, 0, none⟩) k cl)
        rw [show (#[.slice (some ⟨gI, 0, none⟩) m ci, .slice (some ⟨gl, 0, none⟩) nl cl] : Array Value).setIfInBounds 1 (.slice (some ⟨gl, 0, none⟩) k cl) = #[.slice (some ⟨gI, 0, none⟩) m ci, .slice (some ⟨gl, 0, none⟩) k cl] from rfl] at hM7
        have h7 := h6.far (grown_setCell w6 gB 1 (.slice (some ⟨gl, 0, none⟩) k cl)) (hM6.get 0 rfl) sh_ne.1 sh_ne.2
        refine wp_gen (fun wx => MsB base w wx [(gB, 25, #[.slice (some ⟨gI, 0, none⟩) m ci, .slice (some ⟨gl, 0, none⟩) k cl]), (gB + 1, 25, #[.slice none 0 0, .slice none 0 0])] ∧ OwW base wx (.slice (some ⟨gI, 0, none⟩) m ci) (.slice (some ⟨gl, 0, none⟩) k cl) (vs'.take k) (vs'.take k) ids2 (levI R)) ⟨hM7, h7⟩ ?_
        clear hM7 h7 hM6 h6 kc kf hs6
        rintro w7 ⟨hM7, h7⟩
        go_wp2_with (first
          | ((with_reducible show wpList _ _ _ (⟨some 48, _, _, _, _, _⟩ :: _) _ _); refine wpList_loadC (by kernel_rfl) 25 (.tmp 2) rfl gB rfl 25 #[.slice (some ⟨gI, 0, none⟩) m ci, .slice (some ⟨gl, 0, none⟩) k cl] _ (hM7.get 0 rfl) Try.underlying25 rfl shapeInfo2 ?_)
          | ((with_reducible show wpList _ _ _ (⟨none, Op.store 25 _ _, _, _, _, _⟩ :: _) _ _); refine wpList_store_row rfl 25 (.tmp 4) (.tmp 48) rfl (gB + 1) #[.slice (some ⟨gI, 0, none⟩) m ci, .slice (some ⟨gl, 0, none⟩) k cl] rfl rfl 25 _ (hM7.get 1 rfl) shapeInfo2 rfl (by simp [Value.oneCell']) ?_))
        try simp only [Act.put]
        have hR9 := (hM7.get 1 rfl).row #[.slice (some ⟨gI, 0, none⟩) m ci, .slice (some ⟨gl, 0, none⟩) k cl]
        have hw9 := h7.far (grown_setRow _ (gB + 1) #[.slice (some ⟨gI, 0, none⟩) m ci, .slice (some ⟨gl, 0, none⟩) k cl]) (hM7.get 1 rfl) sh_ne.1 sh_ne.2
        have hb9 := below_setRow hM7.old (show base ≤ (gB + 1) by omega) #[.slice (some ⟨gI, 0, none⟩) m ci, .slice (some ⟨gl, 0, none⟩) k cl]
        refine bodyPost_ret (results_cell_one rfl _ _ (gB + 1) _ #[.slice (some ⟨gI, 0, none⟩) m ci, .slice (some ⟨gl, 0, none⟩) k cl] _ rfl hR9 Try.underlying25 rfl shapeInfo2) rfl (Hpost.out _ _ _ _ _ _ _ _ hb9 hw9)
      have hne1 : ¬ (l.length : Int) = 1 := by omega
      have hlt2 : k + 1 < lv.length := by
        rcases Nat.lt_or_ge (k + 1) lv.length with h1 | h1
        · exact h1
        · have h2 := Ho4.out
          rw [List.drop_of_length_le h1] at h2
          have h3 : l.length ≤ 1 := h2
          omega
      obtain ⟨l2, hl2⟩ : ∃ l2, lv[k + 1]? = some l2 := ⟨_, List.getElem?_eq_getElem hlt2⟩
      have hd2 : lv.drop (k + 1) = l2 :: lv.drop (k + 1 + 1) := by rw [List.drop_eq_getElem_cons hlt2, (List.getElem?_eq_some_iff.1 hl2).2]
      have ho5 := Ho4.out
      rw [hd2] at ho5
      obtain ⟨p1, p2, p3, p4⟩ := ho5
      have hX2 : ((done ++ lv.drop k).set k (l.set j 1))[k + 1]? = some l2 := by
        rw [List.getElem?_set_ne (by omega), List.getElem?_append_right (by have := Hdl.out; omega), Hdl.out, List.getElem?_drop, show k + (k + 1 - k) = k + 1 by omega]
        exact hl2
      obtain ⟨gl', g2, c2, e1, hnlX, _, _, hc2, hm2, hv2, hcell2, hown2, _⟩ := h5.lvl hX2 (by have := (two3_len p2).2; omega)
      clear hnlX
      injection e1 with e1
      injection e1 with e1 _ _
      subst e1
      have hnb := PNeighbour_any (some ⟨g2, 0, none⟩) l2.length c2 (castL l2) j w5 hc2 hm2 (by have := (two3_len p2).1; omega) (by omega) (in23_mk p2) (by rw [natL_cast, p3]; exact g1) (Rd.of_own hown2)
      rw [natL_cast] at hnb
      obtain ⟨q1, q2⟩ := nbr_ok p2 (k := j) (by omega)
      rw [p3] at q1
      have hRn := delL_nbr l l2 (lv.drop (k + 1 + 1)) b
      rw [← Hj.out, if_neg (by rw [Hg2.out]; simp), ← hd2] at hRn
      have HRn := Lib.hid hRn
      have hk2 : (k : Int) + 1 < (nl : Int) := by have := Hnl.out; omega
      have hk2' : ((k : Int) + 1).toNat = k + 1 := by omega
      have hk0 : (0 : Int) ≤ (k : Int) + 1 := by omega
      clear hX2 hl2 hd2 p1 p2 p3 p4 hv2 hRn
      generalize nbrT l2 j = q at *
      go_wp2_with fail
      refine hnb.mono ?_
      rintro e w5 ⟨rfl, rfl⟩
      have hr5 := h5.r k _ _ Hv5.out (levI_get HX5.out)
      rw [castL_len] at hr5
      obtain ⟨kq, fq⟩ := lvl_cell hr5 (j := q) (by rw [List.length_set]; exact q1)
      rw [List.getElem_set_ne (Ne.symm q2)] at kq
      obtain ⟨crow5, hgrow5, _⟩ := own_rowT hr5
      have hq23 := two3_get H23.out q1
      have hgq : l[q]? = some l[q] := List.getElem?_eq_getElem q1
      have Hgq := Lib.hid hgq
      have hql : (q : Int) < (l.length : Int) := by omega
      clear hcell2 hown2 hnb hgq hr5
      generalize l[q] = y at *
      have fj := hgrow5.frozen j
      rcases hq23 with rfl | rfl
      rotate_left
      · have Hf := Lib.hid (show R = done ++ ((l.set q 2).set j 2 :: lv.drop (k + 1)) by rw [HRR.out, HRn.out, if_pos Hgq.out])
        have kj2 : (w5.setCell ⟨g, q, none⟩ (.int .i64 2)).cell? ⟨g, j, none⟩ = some (.int .i64 1) := by rw [World.cell?_setCell_other _ _ _ _ (by intro e; injection e with _ e; exact q2 e), hcc5]
        have fj2 : (w5.setCell ⟨g, q, none⟩ (.int .i64 2)).frozen? ⟨g, j, none⟩ = false := (hgrow5.set_ q _).frozen j
        have h6 : OwW base (w5.setCell ⟨g, q, none⟩ (.int .i64 2)) (.slice (some ⟨gI, 0, none⟩) m ci) (.slice (some ⟨gl, 0, none⟩) nl cl) vs' vs' ids2 (levI (((done ++ lv.drop k).set k (l.set j 1)).set k ((l.set j 1).set q 2))) := h5.num HX5.out Hv5.out q 2
        have hM6 := hM5.turn (grown_setCell w5 g q (.int .i64 2)) (by omega) (fun q' hq => by injection hq with hq; subst hq; exact ⟨hgb, _, _, hgrow5, fun q'' hq2 => by simp at hq2; rcases hq2 with rfl | rfl <;> exact sh_ne.1.symm⟩)
        have hX6 : (((done ++ lv.drop k).set k (l.set j 1)).set k ((l.set j 1).set q 2))[k]? = some ((l.set j 1).set q 2) := List.getElem?_set_self (List.getElem?_eq_some_iff.1 HX5.out).1
        have h7 : OwW base ((w5.setCell ⟨g, q, none⟩ (.int .i64 2)).setCell ⟨g, j, none⟩ (.int .i64 2)) (.slice (some ⟨gI, 0, none⟩) m ci) (.slice (some ⟨gl, 0, none⟩) nl cl) vs' vs' ids2 (levI ((((done ++ lv.drop k).set k (l.set j 1)).set k ((l.set j 1).set q 2)).set k (((l.set j 1).set q 2).set j 2))) := h6.num hX6 (by rw [List.length_set]; exact Hv5.out) j 2
        have hM7 := hM6.turn (grown_setCell (w5.setCell ⟨g, q, none⟩ (.int .i64 2)) g j (.int .i64 2)) (by simp; omega) (fun q' hq => by injection hq with hq; subst hq; exact ⟨hgb, _, _, (hgrow5.set_ q (.int .i64 2)), fun q'' hq2 => by simp at hq2; rcases hq2 with rfl | rfl <;> exact sh_ne.1.symm⟩)
        rw [List.set_set, List.set_set, Hset.out, List.set_comm _ _ (Ne.symm q2), List.set_set, ← Hf.out] at h7
        have Hr7 := Lib.hid (show MsB base w ((w5.setCell ⟨g, q, none⟩ (.int .i64 2)).setCell ⟨g, j, none⟩ (.int .i64 2)) [(gB, 25, #[.slice (some ⟨gI, 0, none⟩) m ci, .slice (some ⟨gl, 0, none⟩) nl cl]), (gB + 1, 25, #[.slice none 0 0, .slice none 0 0])] ∧ OwW base ((w5.setCell ⟨g, q, none⟩ (.int .i64 2)).setCell ⟨g, j, none⟩ (.int .i64 2)) (.slice (some ⟨gI, 0, none⟩) m ci) (.slice (some ⟨gl, 0, none⟩) nl cl) vs' vs' ids2 (levI R) from ⟨hM7, h7⟩)
        clear hM7 h7 hX6 hM6 h6 hM5 h5 kb
        go_upto_region 15 with fail
        try simp only [Act.put]
        refine wp_gen (fun wx => MsB base w wx [(gB, 25, #[.slice (some ⟨gI, 0, none⟩) m ci, .slice (some ⟨gl, 0, none⟩) nl cl]), (gB + 1, 25, #[.slice none 0 0, .slice none 0 0])] ∧ OwW base wx (.slice (some ⟨gI, 0, none⟩) m ci) (.slice (some ⟨gl, 0, none⟩) nl cl) vs' vs' ids2 (levI R)) Hr7.out ?_
        clear Hr7
        rintro w7 ⟨hM7, h7⟩
        go_wp2_with (first
          | ((with_reducible show wpList _ _ _ (⟨some 68, _, _, _, _, _⟩ :: _) _ _); refine wpList_loadC (by kernel_rfl) 25 (.tmp 2) rfl gB rfl 25 #[.slice (some ⟨gI, 0, none⟩) m ci, .slice (some ⟨gl, 0, none⟩) nl cl] _ (hM7.get 0 rfl) Try.underlying25 rfl shapeInfo2 ?_)
          | ((with_reducible show wpList _ _ _ (⟨none, Op.store 25 _ _, _, _, _, _⟩ :: _) _ _); refine wpList_store_row rfl 25 (.tmp 4) (.tmp 68) rfl (gB + 1) #[.slice (some ⟨gI, 0, none⟩) m ci, .slice (some ⟨gl, 0, none⟩) nl cl] rfl rfl 25 _ (hM7.get 1 rfl) shapeInfo2 rfl (by simp [Value.oneCell']) ?_))
        try simp only [Act.put]
        have hR9 := (hM7.get 1 rfl).row #[.slice (some ⟨gI, 0, none⟩) m ci, .slice (some ⟨gl, 0, none⟩) nl cl]
        have hw9 := h7.far (grown_setRow _ (gB + 1) #[.slice (some ⟨gI, 0, none⟩) m ci, .slice (some ⟨gl, 0, none⟩) nl cl]) (hM7.get 1 rfl) sh_ne.1 sh_ne.2
        have hb9 := below_setRow hM7.old (show base ≤ (gB + 1) by omega) #[.slice (some ⟨gI, 0, none⟩) m ci, .slice (some ⟨gl, 0, none⟩) nl cl]
        refine bodyPost_ret (results_cell_one rfl _ _ (gB + 1) _ #[.slice (some ⟨gI, 0, none⟩) m ci, .slice (some ⟨gl, 0, none⟩) nl cl] _ rfl hR9 Try.underlying25 rfl shapeInfo2) rfl (Hpost.out _ _ _ _ _ _ _ _ hb9 hw9)
      have Hf := Lib.hid (show R = done ++ ((l.set q 3).eraseIdx j :: delL (lv.drop (k + 1)) j) by rw [HRR.out, HRn.out, if_neg (by rw [Hgq.out]; simp)])
      go_upto_region 17 with fail
      try simp only [Act.put]
      have h6 : OwW base (w5.setCell ⟨g, q, none⟩ (.int .i64 3)) (.slice (some ⟨gI, 0, none⟩) m ci) (.slice (some ⟨gl, 0, none⟩) nl cl) vs' vs' ids2 (levI (((done ++ lv.drop k).set k (l.set j 1)).set k ((l.set j 1).set q 3))) := h5.num HX5.out Hv5.out q 3
      rw [List.set_set] at h6
      have hM6 := hM5.turn (grown_setCell w5 g q (.int .i64 3)) (by omega) (fun q' hq => by injection hq with hq; subst hq; exact ⟨hgb, _, _, hgrow5, fun q'' hq2 => by simp at hq2; rcases hq2 with rfl | rfl <;> exact sh_ne.1.symm⟩)
      have hs6 : gB + 1 + 1 ≤ (w5.setCell ⟨g, q, none⟩ (.int .i64 3)).heap.size := by simp; exact hs5
      refine wp_gen (fun wx => MsB base w wx [(gB, 25, #[.slice (some ⟨gI, 0, none⟩) m ci, .slice (some ⟨gl, 0, none⟩) nl cl]), (gB + 1, 25, #[.slice none 0 0, .slice none 0 0])] ∧ OwW base wx (.slice (some ⟨gI, 0, none⟩) m ci) (.slice (some ⟨gl, 0, none⟩) nl cl) vs' vs' ids2 (levI ((done ++ lv.drop k).set k ((l.set j 1).set q 3))) ∧ gB + 1 + 1 ≤ wx.heap.size) ⟨hM6, h6, hs6⟩ ?_
      clear hM6 h6 hs6 hM5 h5 hcc5 hs5 kb kq fq hgrow5 fj
      rintro w6 ⟨hM6, h6, hs6⟩
      have hkeep : ∀ wx : World, Below w6.heap.size w6 wx → wx.cell? ⟨gB, 1, none⟩ = some (.slice (some ⟨gl, 0, none⟩) nl cl) := fun wx hb => ((hM6.get 0 rfl).call hb).cell rfl
      have hwj : IntKind.i64.wrap ((j : Int) + 1) = (j : Int) + 1 := by rw [IntKind.wrap_i64]; omega
      refine beginT (fun wx => wx.cell? ⟨gB, 1, none⟩ = some (.slice (some ⟨gl, 0, none⟩) nl cl)) 9 (by kernel_rfl) ?_
      have hS := hkeep _ (c_drew (c_refl _))
      refine takeD 0 (some 72) (.pointer (some ⟨gB, 1, none⟩)) rfl rfl (by kernel_rfl) (by kernel_rfl) (by kernel_rfl) (by kernel_rfl) (fun _ _ _ h => h) (Or.inl ⟨by kernel_rfl, fun wx hSw => by have h := hSw; go_simp⟩) hS ?_
      simp only [Act.put, List.setIfInBounds_toArray, List.set_cons_zero, List.set_cons_succ]
      refine takeD 1 (some 73) (.slice (some ⟨gl, 0, none⟩) nl cl) rfl rfl (by kernel_rfl) (by kernel_rfl) (by kernel_rfl) (by kernel_rfl) (fun _ _ _ h => h) (Or.inl ⟨by kernel_rfl, fun wx hSw => by have h := hSw; go_simp⟩) hS ?_
      simp only [Act.put, List.setIfInBounds_toArray, List.set_cons_zero, List.set_cons_succ]
      refine takeD 2 (some 74) (.int .i64 (k : Int)) rfl rfl (by kernel_rfl) (by kernel_rfl) (by kernel_rfl) (by kernel_rfl) (fun _ _ _ h => h) (Or.inl ⟨by kernel_rfl, fun wx hSw => by have h := hSw; go_simp⟩) hS ?_
      simp only [Act.put, List.setIfInBounds_toArray, List.set_cons_zero, List.set_cons_succ]
      refine takeD 3 (some 75) (.slice (some ⟨g, 0, none⟩) l.length c) rfl rfl (by kernel_rfl) (by kernel_rfl) (by kernel_rfl) (by kernel_rfl) (fun _ _ _ h => h) (Or.inl ⟨by kernel_rfl, fun wx hSw => by have h := hSw; go_simp⟩) hS ?_
      simp only [Act.put, List.setIfInBounds_toArray, List.set_cons_zero, List.set_cons_succ]
      refine takeD 4 (some 76) (.int .i64 (j : Int)) rfl rfl (by kernel_rfl) (by kernel_rfl) (by kernel_rfl) (by kernel_rfl) (fun _ _ _ h => h) (Or.inl ⟨by kernel_rfl, fun wx hSw => by have h := hSw; go_simp⟩) hS ?_
      simp only [Act.put, List.setIfInBounds_toArray, List.set_cons_zero, List.set_cons_succ]
      refine takeD 5 (some 77) (.int .i64 (j : Int)) rfl rfl (by kernel_rfl) (by kernel_rfl) (by kernel_rfl) (by kernel_rfl) (fun _ _ _ h => h) (Or.inl ⟨by kernel_rfl, fun wx hSw => by have h := hSw; go_simp⟩) hS ?_
      simp only [Act.put, List.setIfInBounds_toArray, List.set_cons_zero, List.set_cons_succ]
      refine takeD 6 (some 78) (.int .i64 ((j : Int) + 1)) rfl rfl (by kernel_rfl) (by kernel_rfl) (by kernel_rfl) (by kernel_rfl) (fun _ _ _ h => h) (Or.inl ⟨by kernel_rfl, fun wx hSw => by have h := hSw; go_simp⟩) hS ?_
      simp only [Act.put, List.setIfInBounds_toArray, List.set_cons_zero, List.set_cons_succ]
      have hx0 : Below w6.heap.size w6 w6.drew := c_drew (c_refl _)
      have h60 := h6.quiet hx0
      have hM60 := hM6.call hx0 (by omega)
      have hs60 : gB + 1 + 1 ≤ w6.drew.heap.size := hs6
      generalize w6.drew = x1 at *
      have hX6 : ((done ++ lv.drop k).set k ((l.set j 1).set q 3))[k]? = some ((l.set j 1).set q 3) := List.getElem?_set_self (List.getElem?_eq_some_iff.1 HX.out).1
      have hl6 : ((l.set j 1).set q 3).length = l.length := by rw [List.length_set, List.length_set]
      have hv6 : vs'[k]? = some (.slice (some ⟨g, 0, none⟩) ((l.set j 1).set q 3).length c) := by rw [hl6]; exact Hv.out
      have hr6 := h60.r k _ _ hv6 (levI_get hX6)
      rw [castL_len, hl6] at hr6
      obtain ⟨pl, hpl⟩ : ∃ pl, pl + 1 = l.length := ⟨l.length - 1, by omega⟩
      have Hpl := Lib.hid hpl
      clear hpl
      have hdel := DelI_any base g l.length c j pl ((j : Int) + 1) ((castL ((l.set j 1).set q 3)).map iv) x1 rfl Hpl.out (by have := Hpl.out; omega) (by omega) (one_iv _) hr6
      refine oneT 7 (by kernel_rfl) rfl (fun K hK => ?_)
      go_simp
      refine hdel.mono ?_
      rintro e x2 ⟨rfl, hown7, hgr7⟩
      have h7 := h60.del hX6 hv6 (n := pl) (j := j) (by rw [hl6]; exact Hpl.out) (by rw [hl6]; exact g1) hown7 hgr7
      have hM7 := hM60.turn hgr7 (by omega) (fun q' hq => by
        injection hq with hq
        subst hq
        obtain ⟨cs, hr⟩ := own_tyT hr6 (g := g) rfl
        exact ⟨hgb, _, cs, hr, fun q'' hq2 => by simp at hq2; rcases hq2 with rfl | rfl <;> exact sh_ne.1.symm⟩)
      have kx : x2.cell? ⟨gB, 1, none⟩ = some (.slice (some ⟨gl, 0, none⟩) nl cl) := (hM7.get 0 rfl).cell rfl
      refine hK.out _ _ (fun _ => kx) ?_
      clear hK K
      try simp only [Act.put, List.setIfInBounds_toArray, List.set_cons_zero, List.set_cons_succ]
      have hlX : nl = (((done ++ lv.drop k).set k ((l.set j 1).set q 3)).set k (((l.set j 1).set q 3).eraseIdx j)).length := by
        rw [List.length_set, List.length_set, List.length_append, List.length_drop, Hdl.out, Hnl.out]; have := Hnl.out; omega
      have hl7 := h7.l
      rw [levI_lenX, ← hlX] at hl7
      have hkv : k < vs'.length := (List.getElem?_eq_some_iff.1 Hv.out).1
      have kl : x2.cell? ⟨gl, k, none⟩ = vs'[k]? := hl7.cellAt k (by omega)
      rw [Hv.out] at kl
      have fl : x2.frozen? ⟨gl, k, none⟩ = false := hl7.frozenAt k
      have h8 := h7.storeL hlX rfl
      have hgb2 : base ≤ gl := own_blockT hl7 gl rfl
      have hM8 := hM7.turn (grown_setCell x2 gl k (.slice (some ⟨g, 0, none⟩) pl c)) (by have := hgr7.size; omega) (fun q' hq => by
        injection hq with hq
        subst hq
        obtain ⟨cs, hr⟩ := own_tyT hl7 (g := gl) rfl
        exact ⟨hgb2, _, cs, hr, fun q'' hq2 => by simp at hq2; rcases hq2 with rfl | rfl <;> exact sh_ne.2.symm⟩)
      have hs8 : gB + 1 + 1 ≤ (x2.setCell ⟨gl, k, none⟩ (.slice (some ⟨g, 0, none⟩) pl c)).heap.size := by have := hgr7.size; simp; omega
      rw [List.set_set, erase_set_two q2, Hset.out, show done ++ (l.set q 3).eraseIdx j :: lv.drop (k + 1) = (done ++ [(l.set q 3).eraseIdx j]) ++ lv.drop (k + 1) by simp] at h8
      have hlti : (k : Int) < (nl : Int) := by omega
      clear hgr7 hown7 hdel h60 hM60 hr6 hx0 hkeep h7 hM7 hl7 hlX hS h6 hM6 hX6 hv6 hl6
      refine takeD 8 (some 80) (.pointer (some ⟨gl, k, none⟩)) rfl rfl (by kernel_rfl) (by kernel_rfl) (by kernel_rfl) (by kernel_rfl) (fun _ _ _ h => h) (Or.inl ⟨by kernel_rfl, fun wx hSw => by go_simp⟩) kx ?_
      simp only [Act.put, List.setIfInBounds_toArray, List.set_cons_zero, List.set_cons_succ]
      refine oneT 9 (by kernel_rfl) rfl (fun K hK => ?_)
      go_simp
      refine hK.out _ _ (fun h => absurd rfl h) ?_
      clear hK K
      refine doneT (by kernel_rfl) ?_ _
      go_wp2_with fail
      go_roundw
      case rel => exact ⟨k + 1, j, l.length, done ++ [(l.set q 3).eraseIdx j], _, by omega, by go_num, rfl, g1, hlen1, Ho4.out, by rw [Hf.out]; simp, by simp [Hdl.out], h8, hM8, hs8⟩
      case measure => simp [intOf]; omega
    · obtain rfl : k = nl := by omega
      have hdn : lv.drop k = [] := List.drop_of_length_le (by rw [← Hnl.out]; exact Nat.le_refl _)
      rw [hdn, List.append_nil] at h4
      have Hf3 := Lib.hid (show R = done by rw [HR.out, hdn]; simp [delL])
      clear hdn
      rw [← Hf3.out] at h4
      go_wp2_with (first
        | ((with_reducible show wpList _ _ _ (⟨some 82, _, _, _, _, _⟩ :: _) _ _); refine wpList_loadC (by kernel_rfl) 25 (.tmp 2) rfl gB rfl 25 #[.slice (some ⟨gI, 0, none⟩) m ci, .slice Al k cl] _ (hM4.get 0 rfl) Try.underlying25 rfl shapeInfo2 ?_)
        | ((with_reducible show wpList _ _ _ (⟨none, Op.store 25 _ _, _, _, _, _⟩ :: _) _ _); refine wpList_store_row rfl 25 (.tmp 4) (.tmp 82) rfl (gB + 1) #[.slice (some ⟨gI, 0, none⟩) m ci, .slice Al k cl] rfl rfl 25 _ (hM4.get 1 rfl) shapeInfo2 rfl (by simp [Value.oneCell']) ?_))
      try simp only [Act.put]
      have hR9 := (hM4.get 1 rfl).row #[.slice (some ⟨gI, 0, none⟩) m ci, .slice Al k cl]
      have hw9 := h4.far (grown_setRow _ (gB + 1) #[.slice (some ⟨gI, 0, none⟩) m ci, .slice Al k cl]) (hM4.get 1 rfl) sh_ne.1 sh_ne.2
      have hb9 := below_setRow hM4.old (show base ≤ (gB + 1) by omega) #[.slice (some ⟨gI, 0, none⟩) m ci, .slice Al k cl]
      refine bodyPost_ret (results_cell_one rfl _ _ (gB + 1) _ #[.slice (some ⟨gI, 0, none⟩) m ci, .slice Al k cl] _ rfl hR9 Try.underlying25 rfl shapeInfo2) rfl (Hpost.out _ _ _ _ _ _ _ _ hb9 hw9)

end Go.Proofs.Ytmganbdbihjbmaa

/-
  CONTRACT of the program's copied (tree): a handed tree in rows of the call's own. Printed by gen_treecopied.py.
-/
set_option linter.unusedVariables false
namespace Go.Proofs.Ytmganbdbihjbmaa
open Go.RowKit

theorem own_monoT {w : World} {base base' : Nat} {e : TypeId} {size : Nat} {v : Value} {n : Nat} {xs : List Value} (h : w.ownsRow base e size v n xs) (hb : base' ≤ base) : w.ownsRow base' e size v n xs := by
  refine ⟨h.1, ?_⟩
  rcases h.2 with h2 | ⟨g, cap, cur, h1, h2, h3⟩
  · exact .inl h2
  · exact .inr ⟨g, cap, cur, h1, by omega, h3⟩
/-- make of no elements and some room: one step of a region that draws its order -/
theorem step_makeT {P : Program} {w : World} {ops : Array Oper} {o : Oper} {a : Act} {K : Act → World → Prop} {Q : Exit → Act → World → Prop} {E : Prop} (hgd : Region.wanted o (yielded ops a.tmps) = true) (dst : Option Tmp) (hd : o.dst = dst) (l c : Operand) (t : TypeId) (hop : o.op = Op.makeSlice t l c)
    (base : Nat) (e : TypeId) (i : TypeInfo) (z : Value) (size : Nat) (h1 : P.underlying t = some (.slice e)) (h2 : P.info? e = some i) (h3 : i.zero = some z) (h4 : i.size = size)
    (kl kc : IntKind) (C : Int) (n : Nat) (hl : a.eval l = .int kl 0) (hc : a.eval c = .int kc C) (hC : C = (n : Int)) (b2 : i.bytes * n ≤ 281474976710656) (b3 : n ≤ maxLen) (b4 : base ≤ w.heap.size)
    (hK : ∀ w', w'.ownsRow base e size (.slice (some ⟨w.heap.size, 0, none⟩) 0 n) 0 [] → w.grownBy w' none → K (a.put dst (.slice (some ⟨w.heap.size, 0, none⟩) 0 n)) w') : if Region.wanted o (yielded ops a.tmps) = true then Oper.wp P o a w K Q else E := by
  obtain ⟨w', hrun, r1, r2⟩ := run_make_own (P := P) w base t e i z size h1 h2 h3 h4 kl kc n b2 b3 b4
  subst hC
  refine step_val hgd dst hd (.slice (some ⟨w.heap.size, 0, none⟩) 0 n) (w' := w') ?_ (hK w' r1 r2)
  simp [execOp, hop, hl, hc, hrun, Result.andThen]

set_option maxRecDepth 100000 in
set_option maxHeartbeats 8000000 in
theorem PCopied_any (Ai : Option Addr) (ni ci : Nat) (Al : Option Addr) (nl cl : Nat) (ids : List Int) (lv : List (List Nat)) (w : World) (hn2 : lv.length ≤ 20) (hn1 : ids.length ≤ 1000) (hlm : ∀ l ∈ lv, l.length ≤ 1000) (h : ShR w w.heap.size Ai ni ci Al nl cl ids (levI lv)) :
    Calls Try.prog 51 #[.agg (shV Ai ni ci Al nl cl)] w (PutPost w.heap.size w ids lv) := by
  obtain ⟨i1, hi1, hy0, hy1, hy2⟩ := info_parts listInfo
  have Hpost := Lib.hid (show ∀ Ai ni ci Al nl cl vs w', Below w.heap.size w w' → OwW w.heap.size w' (.slice Ai ni ci) (.slice Al nl cl) vs vs ids (levI lv) → PutPost w.heap.size w ids lv (.returned (.agg (shV Ai ni ci Al nl cl))) w' from fun _ _ _ _ _ _ _ _ h1 h2 => ⟨h1, _, _, _, _, _, _, _, rfl, h2⟩)
  generalize PutPost w.heap.size w ids lv = PO at *
  have hM0 := ((Ms.nil w).box 25 (shV Ai ni ci Al nl cl)).box 25 #[.slice none 0 0, .slice none 0 0]
  simp only [World.size_alloc] at hM0
  have Hni := Lib.hid h.hni
  have Hnl := Lib.hid (show lv.length = nl by have := h.hnl; rwa [levI_lenX] at this)
  have hnl20 : nl ≤ 20 := by rw [← Hnl.out]; exact hn2
  have hni1 : ni ≤ 1000 := by rw [← Hni.out]; exact hn1
  have hci := h.hci
  have hcl := h.hcl
  have hwn : IntKind.i64.wrap ((nl : Int) + 1) = (nl : Int) + 1 := by rw [IntKind.wrap_i64]; omega
  obtain ⟨vs, hv, hlv⟩ := h.lvs
  have hids := h.hids
  clear h
  go_enter Try.func51, Try.ntmps51
  go_upto_region 1 with fail
  try simp only [Act.put]
  obtain ⟨gS, hgS⟩ : ∃ g, g = w.heap.size := ⟨_, rfl⟩
  refine wp_gen (fun wx => Ms w wx [(w.heap.size + 1, 25, #[.slice none 0 0, .slice none 0 0]), (w.heap.size, 25, shV Ai ni ci Al nl cl)]) hM0 ?_
  clear hM0
  rintro w0 hM0
  have hs0 := (hM0.get 0 rfl).lt
  have hw00 := hM0.old
  rw [← hgS] at hM0 hs0 ⊢
  have HgS := Lib.hid hgS
  clear hgS
  have hid0 := (hids.below hw00).more hw00.size
  go_cut [3] (fun p wx => ∃ (gO : Nat) (A2 : Option Addr) (c2 gM : Nat), p = .pointer (some ⟨gO, 0, none⟩) ∧ w0.heap.size ≤ gO ∧ RowC wx gO 25 #[.slice A2 ni c2, .slice (some ⟨gM, 0, none⟩) 0 (nl + 1)] ∧ Below w0.heap.size w0 wx ∧
    wx.ownsRow w.heap.size 3 1 (.slice A2 ni c2) ni (ids.map iv) ∧ wx.ownsRow w.heap.size 22 1 (.slice (some ⟨gM, 0, none⟩) 0 (nl + 1)) 0 [])
  case first =>
    have hkeep : ∀ wx : World, Below w0.heap.size w0 wx → wx.cell? ⟨gS, 0, none⟩ = some (.slice Ai ni ci) ∧ wx.cell? ⟨gS, 1, none⟩ = some (.slice Al nl cl) := fun wx hb => ⟨((hM0.get 1 rfl).call hb).cell rfl, ((hM0.get 1 rfl).call hb).cell rfl⟩
    have hcl : ∀ wx : World, Below w0.heap.size w0 wx → Calls Try.prog 48 #[.slice Ai ni ci] wx fun e w' => ∃ A' c', e = .returned (.slice A' ni c') ∧ w'.ownsRow wx.heap.size 3 1 (.slice A' ni c') ni (ids.map iv) ∧ Below wx.heap.size wx w' := fun wx hb => Clone_any Ai ni ci (ids.map iv) wx hci (by omega) (one_iv _) ((hid0.below hb).more hb.size)
    have hsw : w.heap.size ≤ w0.heap.size := by have := HgS.out; omega
    have c_size : ∀ wx : World, Below w0.heap.size w0 wx → w.heap.size ≤ wx.heap.size := fun wx hb => by have := hb.size; omega
    refine beginT (fun wx => wx.cell? ⟨gS, 0, none⟩ = some (.slice Ai ni ci) ∧ wx.cell? ⟨gS, 1, none⟩ = some (.slice Al nl cl)) 10 (by kernel_rfl) ?_
    have hS := hkeep _ (c_drew (c_refl _))
    refine takeD 0 (some 6) (.pointer (some ⟨gS, 0, none⟩)) rfl rfl (by kernel_rfl) (by kernel_rfl) (by kernel_rfl) (by kernel_rfl) (fun _ _ _ h => h) (Or.inl ⟨by kernel_rfl, fun wx hSw => by have h := hSw.1; have h2 := hSw.2; go_simp⟩) hS ?_
    simp only [Act.put, List.setIfInBounds_toArray, List.set_cons_zero, List.set_cons_succ]
    refine takeD 1 (some 7) (.slice Ai ni ci) rfl rfl (by kernel_rfl) (by kernel_rfl) (by kernel_rfl) (by kernel_rfl) (fun _ _ _ h => h) (Or.inl ⟨by kernel_rfl, fun wx hSw => by have h := hSw.1; have h2 := hSw.2; go_simp⟩) hS ?_
    simp only [Act.put, List.setIfInBounds_toArray, List.set_cons_zero, List.set_cons_succ]
    refine takeD 3 (some 9) (.pointer (some ⟨gS, 1, none⟩)) rfl rfl (by kernel_rfl) (by kernel_rfl) (by kernel_rfl) (by kernel_rfl) (fun _ _ _ h => h) (Or.inl ⟨by kernel_rfl, fun wx hSw => by have h := hSw.1; have h2 := hSw.2; go_simp⟩) hS ?_
    simp only [Act.put, List.setIfInBounds_toArray, List.set_cons_zero, List.set_cons_succ]
    refine takeD 4 (some 10) (.slice Al nl cl) rfl rfl (by kernel_rfl) (by kernel_rfl) (by kernel_rfl) (by kernel_rfl) (fun _ _ _ h => h) (Or.inl ⟨by kernel_rfl, fun wx hSw => by have h := hSw.1; have h2 := hSw.2; go_simp⟩) hS ?_
    simp only [Act.put, List.setIfInBounds_toArray, List.set_cons_zero, List.set_cons_succ]
    refine takeD 5 (some 11) (.int .i64 (nl : Int)) rfl rfl (by kernel_rfl) (by kernel_rfl) (by kernel_rfl) (by kernel_rfl) (fun _ _ _ h => h) (Or.inl ⟨by kernel_rfl, fun wx hSw => by have h := hSw.1; have h2 := hSw.2; go_simp⟩) hS ?_
    simp only [Act.put, List.setIfInBounds_toArray, List.set_cons_zero, List.set_cons_succ]
    refine takeD 6 (some 12) (.int .i64 ((nl : Int) + 1)) rfl rfl (by kernel_rfl) (by kernel_rfl) (by kernel_rfl) (by kernel_rfl) (fun _ _ _ h => h) (Or.inl ⟨by kernel_rfl, fun wx hSw => by have h := hSw.1; have h2 := hSw.2; go_simp⟩) hS ?_
    simp only [Act.put, List.setIfInBounds_toArray, List.set_cons_zero, List.set_cons_succ]
    have hwx0 : Below w0.heap.size w0 w0.drew := c_drew (c_refl _)
    generalize w0.drew = x0 at *
    refine readyT [2, 7, 9] (by kernel_rfl) (by simp) (AllReadyT.cons rfl (fun K hK => ?_) (AllReadyT.cons rfl (fun K hK => ?_) (AllReadyT.cons rfl (fun K hK => ?_) AllReadyT.nil)))
    · go_simp
      refine (hcl x0 hwx0).mono ?_
      rintro e x1 ⟨A2, c2, rfl, ho2, hx1⟩
      have hwx1 := c_call hwx0 hx1
      have ho2 := own_monoT ho2 (c_size x0 hwx0)
      refine hK.out _ _ (fun _ => hkeep _ hwx1) ?_
      clear hK K
      try simp only [Act.put, List.setIfInBounds_toArray, List.set_cons_zero, List.set_cons_succ]
      refine readyT [7, 9] (by kernel_rfl) (by simp) (AllReadyT.cons rfl (fun K hK => ?_) (AllReadyT.cons rfl (fun K hK => ?_) AllReadyT.nil))
      · refine step_makeT (by kernel_rfl) (some 13) rfl _ _ 23 rfl w.heap.size 22 i1 _ 1 Try.underlying23 hi1 hy0 hy1 .i64 .i64 _ (nl + 1) rfl rfl (by omega) (by rw [hy2]; omega) (by simp only [maxLen]; omega) (c_size x1 hwx1) ?_
        intro x2 hoM hgM
        have hx2 := (Below.refl x1.heap.size x1).grown hgM (Nat.le_refl _) (by simp)
        have hwx2 := c_call hwx1 hx2
        have ho2 := own_below ho2 hx2
        clear hgM
        generalize x1.heap.size = gM at *
        refine hK.out _ _ (fun _ => hkeep _ hwx2) ?_
        clear hK K
        try simp only [Act.put, List.setIfInBounds_toArray, List.set_cons_zero, List.set_cons_succ]
        have hS9 := hkeep _ hwx2
        refine takeD 8 (some 14) (.agg #[.slice A2 ni c2, .slice (some ⟨gM, 0, none⟩) 0 (nl + 1)]) rfl rfl (by kernel_rfl) (by kernel_rfl) (by kernel_rfl) (by kernel_rfl) (fun _ _ _ h => h) (Or.inl ⟨by kernel_rfl, fun wx hSw => by have h := hSw; go_simp⟩) hS9 ?_
        simp only [Act.put, List.setIfInBounds_toArray, List.set_cons_zero, List.set_cons_succ]
        refine oneT 9 (by kernel_rfl) rfl (fun K hK => ?_)
        go_simp
        have hx3 := d_al x2 (.cells #[.slice none 0 0, .slice none 0 0] 25)
        have hrO : RowC (x2.alloc (.cells #[.slice none 0 0, .slice none 0 0] 25)) x2.heap.size 25 #[.slice none 0 0, .slice none 0 0] := RowC.new _ _ _
        have hgO := hwx2.size
        have ho2 := own_below ho2 hx3
        have hoM := own_below hoM hx3
        have hwx3 := c_call hwx2 hx3
        generalize (x2.alloc (.cells #[.slice none 0 0, .slice none 0 0] 25)) = x3 at *
        generalize x2.heap.size = gO at *
        refine hK.out _ _ (fun _ => hkeep _ hwx3) ?_
        clear hK K
        try simp only [Act.put, List.setIfInBounds_toArray, List.set_cons_zero, List.set_cons_succ]
        have hR9 := hrO.row #[.slice A2 ni c2, .slice (some ⟨gM, 0, none⟩) 0 (nl + 1)]
        have hg9 := grown_setRow x3 gO #[.slice A2 ni c2, .slice (some ⟨gM, 0, none⟩) 0 (nl + 1)]
        have ho9 := own_farT ho2 hg9 hrO sh_ne.1
        have hm9 := own_farT hoM hg9 hrO sh_ne.2
        have hb9 := below_setRow hwx3 (show w0.heap.size ≤ gO by omega) #[.slice A2 ni c2, .slice (some ⟨gM, 0, none⟩) 0 (nl + 1)]
        refine oneT 10 (by kernel_rfl) rfl (fun K hK => ?_)
        refine step_store_row rfl 25 (.tmp 3) (.tmp 14) rfl gO #[.slice A2 ni c2, .slice (some ⟨gM, 0, none⟩) 0 (nl + 1)] rfl rfl 25 _ hrO shapeInfo2 rfl (by simp [Value.oneCell']) ?_
        refine hK.out _ _ (fun h => absurd rfl h) ?_
        clear hK K
        refine doneT (by kernel_rfl) ?_ _
        go_wp2_with fail
        go_meet
        exact ⟨gO, A2, c2, gM, rfl, by omega, hR9, hb9, ho9, hm9⟩
      · go_simp
        have hx2 := d_al x1 (.cells #[.slice none 0 0, .slice none 0 0] 25)
        have hrO : RowC (x1.alloc (.cells #[.slice none 0 0, .slice none 0 0] 25)) x1.heap.size 25 #[.slice none 0 0, .slice none 0 0] := RowC.new _ _ _
        have hgO := hwx1.size
        have ho2 := own_below ho2 hx2
        have hwx2 := c_call hwx1 hx2
        generalize (x1.alloc (.cells #[.slice none 0 0, .slice none 0 0] 25)) = x2 at *
        generalize x1.heap.size = gO at *
        refine hK.out _ _ (fun _ => hkeep _ hwx2) ?_
        clear hK K
        try simp only [Act.put, List.setIfInBounds_toArray, List.set_cons_zero, List.set_cons_succ]
        refine oneT 7 (by kernel_rfl) rfl (fun K hK => ?_)
        refine step_makeT (by kernel_rfl) (some 13) rfl _ _ 23 rfl w.heap.size 22 i1 _ 1 Try.underlying23 hi1 hy0 hy1 .i64 .i64 _ (nl + 1) rfl rfl (by omega) (by rw [hy2]; omega) (by simp only [maxLen]; omega) (c_size x2 hwx2) ?_
        intro x3 hoM hgM
        have hx3 := (Below.refl x2.heap.size x2).grown hgM (Nat.le_refl _) (by simp)
        have hwx3 := c_call hwx2 hx3
        have ho2 := own_below ho2 hx3
        have hrO := hrO.call hx3
        clear hgM
        generalize x2.heap.size = gM at *
        refine hK.out _ _ (fun _ => hkeep _ hwx3) ?_
        clear hK K
        try simp only [Act.put, List.setIfInBounds_toArray, List.set_cons_zero, List.set_cons_succ]
        have hS9 := hkeep _ hwx3
        refine takeD 8 (some 14) (.agg #[.slice A2 ni c2, .slice (some ⟨gM, 0, none⟩) 0 (nl + 1)]) rfl rfl (by kernel_rfl) (by kernel_rfl) (by kernel_rfl) (by kernel_rfl) (fun _ _ _ h => h) (Or.inl ⟨by kernel_rfl, fun wx hSw => by have h := hSw; go_simp⟩) hS9 ?_
        simp only [Act.put, List.setIfInBounds_toArray, List.set_cons_zero, List.set_cons_succ]
        have hR9 := hrO.row #[.slice A2 ni c2, .slice (some ⟨gM, 0, none⟩) 0 (nl + 1)]
        have hg9 := grown_setRow x3 gO #[.slice A2 ni c2, .slice (some ⟨gM, 0, none⟩) 0 (nl + 1)]
        have ho9 := own_farT ho2 hg9 hrO sh_ne.1
        have hm9 := own_farT hoM hg9 hrO sh_ne.2
        have hb9 := below_setRow hwx3 (show w0.heap.size ≤ gO by omega) #[.slice A2 ni c2, .slice (some ⟨gM, 0, none⟩) 0 (nl + 1)]
        refine oneT 10 (by kernel_rfl) rfl (fun K hK => ?_)
        refine step_store_row rfl 25 (.tmp 3) (.tmp 14) rfl gO #[.slice A2 ni c2, .slice (some ⟨gM, 0, none⟩) 0 (nl + 1)] rfl rfl 25 _ hrO shapeInfo2 rfl (by simp [Value.oneCell']) ?_
        refine hK.out _ _ (fun h => absurd rfl h) ?_
        clear hK K
        refine doneT (by kernel_rfl) ?_ _
        go_wp2_with fail
        go_meet
        exact ⟨gO, A2, c2, gM, rfl, by omega, hR9, hb9, ho9, hm9⟩
    · refine step_makeT (by kernel_rfl) (some 13) rfl _ _ 23 rfl w.heap.size 22 i1 _ 1 Try.underlying23 hi1 hy0 hy1 .i64 .i64 _ (nl + 1) rfl rfl (by omega) (by rw [hy2]; omega) (by simp only [maxLen]; omega) (c_size x0 hwx0) ?_
      intro x1 hoM hgM
      have hx1 := (Below.refl x0.heap.size x0).grown hgM (Nat.le_refl _) (by simp)
      have hwx1 := c_call hwx0 hx1
      clear hgM
      generalize x0.heap.size = gM at *
      refine hK.out _ _ (fun _ => hkeep _ hwx1) ?_
      clear hK K
      try simp only [Act.put, List.setIfInBounds_toArray, List.set_cons_zero, List.set_cons_succ]
      refine readyT [2, 9] (by kernel_rfl) (by simp) (AllReadyT.cons rfl (fun K hK => ?_) (AllReadyT.cons rfl (fun K hK => ?_) AllReadyT.nil))
      · go_simp
        refine (hcl x1 hwx1).mono ?_
        rintro e x2 ⟨A2, c2, rfl, ho2, hx2⟩
        have hwx2 := c_call hwx1 hx2
        have ho2 := own_monoT ho2 (c_size x1 hwx1)
        have hoM := own_below hoM hx2
        refine hK.out _ _ (fun _ => hkeep _ hwx2) ?_
        clear hK K
        try simp only [Act.put, List.setIfInBounds_toArray, List.set_cons_zero, List.set_cons_succ]
        have hS9 := hkeep _ hwx2
        refine takeD 8 (some 14) (.agg #[.slice A2 ni c2, .slice (some ⟨gM, 0, none⟩) 0 (nl + 1)]) rfl rfl (by kernel_rfl) (by kernel_rfl) (by kernel_rfl) (by kernel_rfl) (fun _ _ _ h => h) (Or.inl ⟨by kernel_rfl, fun wx hSw => by have h := hSw; go_simp⟩) hS9 ?_
        simp only [Act.put, List.setIfInBounds_toArray, List.set_cons_zero, List.set_cons_succ]
        refine oneT 9 (by kernel_rfl) rfl (fun K hK => ?_)
        go_simp
        have hx3 := d_al x2 (.cells #[.slice none 0 0, .slice none 0 0] 25)
        have hrO : RowC (x2.alloc (.cells #[.slice none 0 0, .slice none 0 0] 25)) x2.heap.size 25 #[.slice none 0 0, .slice none 0 0] := RowC.new _ _ _
        have hgO := hwx2.size
        have ho2 := own_below ho2 hx3
        have hoM := own_below hoM hx3
        have hwx3 := c_call hwx2 hx3
        generalize (x2.alloc (.cells #[.slice none 0 0, .slice none 0 0] 25)) = x3 at *
        generalize x2.heap.size = gO at *
        refine hK.out _ _ (fun _ => hkeep _ hwx3) ?_
        clear hK K
        try simp only [Act.put, List.setIfInBounds_toArray, List.set_cons_zero, List.set_cons_succ]
        have hR9 := hrO.row #[.slice A2 ni c2, .slice (some ⟨gM, 0, none⟩) 0 (nl + 1)]
        have hg9 := grown_setRow x3 gO #[.slice A2 ni c2, .slice (some ⟨gM, 0, none⟩) 0 (nl + 1)]
        have ho9 := own_farT ho2 hg9 hrO sh_ne.1
        have hm9 := own_farT hoM hg9 hrO sh_ne.2
        have hb9 := below_setRow hwx3 (show w0.heap.size ≤ gO by omega) #[.slice A2 ni c2, .slice (some ⟨gM, 0, none⟩) 0 (nl + 1)]
        refine oneT 10 (by kernel_rfl) rfl (fun K hK => ?_)
        refine step_store_row rfl 25 (.tmp 3) (.tmp 14) rfl gO #[.slice A2 ni c2, .slice (some ⟨gM, 0, none⟩) 0 (nl + 1)] rfl rfl 25 _ hrO shapeInfo2 rfl (by simp [Value.oneCell']) ?_
        refine hK.out _ _ (fun h => absurd rfl h) ?_
        clear hK K
        refine doneT (by kernel_rfl) ?_ _
        go_wp2_with fail
        go_meet
        exact ⟨gO, A2, c2, gM, rfl, by omega, hR9, hb9, ho9, hm9⟩
      · go_simp
        have hx2 := d_al x1 (.cells #[.slice none 0 0, .slice none 0 0] 25)
        have hrO : RowC (x1.alloc (.cells #[.slice none 0 0, .slice none 0 0] 25)) x1.heap.size 25 #[.slice none 0 0, .slice none 0 0] := RowC.new _ _ _
        have hgO := hwx1.size
        have hoM := own_below hoM hx2
        have hwx2 := c_call hwx1 hx2
        generalize (x1.alloc (.cells #[.slice none 0 0, .slice none 0 0] 25)) = x2 at *
        generalize x1.heap.size = gO at *
        refine hK.out _ _ (fun _ => hkeep _ hwx2) ?_
        clear hK K
        try simp only [Act.put, List.setIfInBounds_toArray, List.set_cons_zero, List.set_cons_succ]
        refine oneT 2 (by kernel_rfl) rfl (fun K hK => ?_)
        go_simp
        refine (hcl x2 hwx2).mono ?_
        rintro e x3 ⟨A2, c2, rfl, ho2, hx3⟩
        have hwx3 := c_call hwx2 hx3
        have ho2 := own_monoT ho2 (c_size x2 hwx2)
        have hoM := own_below hoM hx3
        have hrO := hrO.call hx3
        refine hK.out _ _ (fun _ => hkeep _ hwx3) ?_
        clear hK K
        try simp only [Act.put, List.setIfInBounds_toArray, List.set_cons_zero, List.set_cons_succ]
        have hS9 := hkeep _ hwx3
        refine takeD 8 (some 14) (.agg #[.slice A2 ni c2, .slice (some ⟨gM, 0, none⟩) 0 (nl + 1)]) rfl rfl (by kernel_rfl) (by kernel_rfl) (by kernel_rfl) (by kernel_rfl) (fun _ _ _ h => h) (Or.inl ⟨by kernel_rfl, fun wx hSw => by have h := hSw; go_simp⟩) hS9 ?_
        simp only [Act.put, List.setIfInBounds_toArray, List.set_cons_zero, List.set_cons_succ]
        have hR9 := hrO.row #[.slice A2 ni c2, .slice (some ⟨gM, 0, none⟩) 0 (nl + 1)]
        have hg9 := grown_setRow x3 gO #[.slice A2 ni c2, .slice (some ⟨gM, 0, none⟩) 0 (nl + 1)]
        have ho9 := own_farT ho2 hg9 hrO sh_ne.1
        have hm9 := own_farT hoM hg9 hrO sh_ne.2
        have hb9 := below_setRow hwx3 (show w0.heap.size ≤ gO by omega) #[.slice A2 ni c2, .slice (some ⟨gM, 0, none⟩) 0 (nl + 1)]
        refine oneT 10 (by kernel_rfl) rfl (fun K hK => ?_)
        refine step_store_row rfl 25 (.tmp 3) (.tmp 14) rfl gO #[.slice A2 ni c2, .slice (some ⟨gM, 0, none⟩) 0 (nl + 1)] rfl rfl 25 _ hrO shapeInfo2 rfl (by simp [Value.oneCell']) ?_
        refine hK.out _ _ (fun h => absurd rfl h) ?_
        clear hK K
        refine doneT (by kernel_rfl) ?_ _
        go_wp2_with fail
        go_meet
        exact ⟨gO, A2, c2, gM, rfl, by omega, hR9, hb9, ho9, hm9⟩
    · go_simp
      have hx1 := d_al x0 (.cells #[.slice none 0 0, .slice none 0 0] 25)
      have hrO : RowC (x0.alloc (.cells #[.slice none 0 0, .slice none 0 0] 25)) x0.heap.size 25 #[.slice none 0 0, .slice none 0 0] := RowC.new _ _ _
      have hgO := hwx0.size
      have hwx1 := c_call hwx0 hx1
      generalize (x0.alloc (.cells #[.slice none 0 0, .slice none 0 0] 25)) = x1 at *
      generalize x0.heap.size = gO at *
      refine hK.out _ _ (fun _ => hkeep _ hwx1) ?_
      clear hK K
      try simp only [Act.put, List.setIfInBounds_toArray, List.set_cons_zero, List.set_cons_succ]
      refine readyT [2, 7] (by kernel_rfl) (by simp) (AllReadyT.cons rfl (fun K hK => ?_) (AllReadyT.cons rfl (fun K hK => ?_) AllReadyT.nil))
      · go_simp
        refine (hcl x1 hwx1).mono ?_
        rintro e x2 ⟨A2, c2, rfl, ho2, hx2⟩
        have hwx2 := c_call hwx1 hx2
        have ho2 := own_monoT ho2 (c_size x1 hwx1)
        have hrO := hrO.call hx2
        refine hK.out _ _ (fun _ => hkeep _ hwx2) ?_
        clear hK K
        try simp only [Act.put, List.setIfInBounds_toArray, List.set_cons_zero, List.set_cons_succ]
        refine oneT 7 (by kernel_rfl) rfl (fun K hK => ?_)
        refine step_makeT (by kernel_rfl) (some 13) rfl _ _ 23 rfl w.heap.size 22 i1 _ 1 Try.underlying23 hi1 hy0 hy1 .i64 .i64 _ (nl + 1) rfl rfl (by omega) (by rw [hy2]; omega) (by simp only [maxLen]; omega) (c_size x2 hwx2) ?_
        intro x3 hoM hgM
        have hx3 := (Below.refl x2.heap.size x2).grown hgM (Nat.le_refl _) (by simp)
        have hwx3 := c_call hwx2 hx3
        have ho2 := own_below ho2 hx3
        have hrO := hrO.call hx3
        clear hgM
        generalize x2.heap.size = gM at *
        refine hK.out _ _ (fun _ => hkeep _ hwx3) ?_
        clear hK K
        try simp only [Act.put, List.setIfInBounds_toArray, List.set_cons_zero, List.set_cons_succ]
        have hS9 := hkeep _ hwx3
        refine takeD 8 (some 14) (.agg #[.slice A2 ni c2, .slice (some ⟨gM, 0, none⟩) 0 (nl + 1)]) rfl rfl (by kernel_rfl) (by kernel_rfl) (by kernel_rfl) (by kernel_rfl) (fun _ _ _ h => h) (Or.inl ⟨by kernel_rfl, fun wx hSw => by have h := hSw; go_simp⟩) hS9 ?_
        simp only [Act.put, List.setIfInBounds_toArray, List.set_cons_zero, List.set_cons_succ]
        have hR9 := hrO.row #[.slice A2 ni c2, .slice (some ⟨gM, 0, none⟩) 0 (nl + 1)]
        have hg9 := grown_setRow x3 gO #[.slice A2 ni c2, .slice (some ⟨gM, 0, none⟩) 0 (nl + 1)]
        have ho9 := own_farT ho2 hg9 hrO sh_ne.1
        have hm9 := own_farT hoM hg9 hrO sh_ne.2
        have hb9 := below_setRow hwx3 (show w0.heap.size ≤ gO by omega) #[.slice A2 ni c2, .slice (some ⟨gM, 0, none⟩) 0 (nl + 1)]
        refine oneT 10 (by kernel_rfl) rfl (fun K hK => ?_)
        refine step_store_row rfl 25 (.tmp 3) (.tmp 14) rfl gO #[.slice A2 ni c2, .slice (some ⟨gM, 0, none⟩) 0 (nl + 1)] rfl rfl 25 _ hrO shapeInfo2 rfl (by simp [Value.oneCell']) ?_
        refine hK.out _ _ (fun h => absurd rfl h) ?_
        clear hK K
        refine doneT (by kernel_rfl) ?_ _
        go_wp2_with fail
        go_meet
        exact ⟨gO, A2, c2, gM, rfl, by omega, hR9, hb9, ho9, hm9⟩
      · refine step_makeT (by kernel_rfl) (some 13) rfl _ _ 23 rfl w.heap.size 22 i1 _ 1 Try.underlying23 hi1 hy0 hy1 .i64 .i64 _ (nl + 1) rfl rfl (by omega) (by rw [hy2]; omega) (by simp only [maxLen]; omega) (c_size x1 hwx1) ?_
        intro x2 hoM hgM
        have hx2 := (Below.refl x1.heap.size x1).grown hgM (Nat.le_refl _) (by simp)
        have hwx2 := c_call hwx1 hx2
        have hrO := hrO.call hx2
        clear hgM
        generalize x1.heap.size = gM at *
        refine hK.out _ _ (fun _ => hkeep _ hwx2) ?_
        clear hK K
        try simp only [Act.put, List.setIfInBounds_toArray, List.set_cons_zero, List.set_cons_succ]
        refine oneT 2 (by kernel_rfl) rfl (fun K hK => ?_)
        go_simp
        refine (hcl x2 hwx2).mono ?_
        rintro e x3 ⟨A2, c2, rfl, ho2, hx3⟩
        have hwx3 := c_call hwx2 hx3
        have ho2 := own_monoT ho2 (c_size x2 hwx2)
        have hoM := own_below hoM hx3
        have hrO := hrO.call hx3
        refine hK.out _ _ (fun _ => hkeep _ hwx3) ?_
        clear hK K
        try simp only [Act.put, List.setIfInBounds_toArray, List.set_cons_zero, List.set_cons_succ]
        have hS9 := hkeep _ hwx3
        refine takeD 8 (some 14) (.agg #[.slice A2 ni c2, .slice (some ⟨gM, 0, none⟩) 0 (nl + 1)]) rfl rfl (by kernel_rfl) (by kernel_rfl) (by kernel_rfl) (by kernel_rfl) (fun _ _ _ h => h) (Or.inl ⟨by kernel_rfl, fun wx hSw => by have h := hSw; go_simp⟩) hS9 ?_
        simp only [Act.put, List.setIfInBounds_toArray, List.set_cons_zero, List.set_cons_succ]
        have hR9 := hrO.row #[.slice A2 ni c2, .slice (some ⟨gM, 0, none⟩) 0 (nl + 1)]
        have hg9 := grown_setRow x3 gO #[.slice A2 ni c2, .slice (some ⟨gM, 0, none⟩) 0 (nl + 1)]
        have ho9 := own_farT ho2 hg9 hrO sh_ne.1
        have hm9 := own_farT hoM hg9 hrO sh_ne.2
        have hb9 := below_setRow hwx3 (show w0.heap.size ≤ gO by omega) #[.slice A2 ni c2, .slice (some ⟨gM, 0, none⟩) 0 (nl + 1)]
        refine oneT 10 (by kernel_rfl) rfl (fun K hK => ?_)
        refine step_store_row rfl 25 (.tmp 3) (.tmp 14) rfl gO #[.slice A2 ni c2, .slice (some ⟨gM, 0, none⟩) 0 (nl + 1)] rfl rfl 25 _ hrO shapeInfo2 rfl (by simp [Value.oneCell']) ?_
        refine hK.out _ _ (fun h => absurd rfl h) ?_
        clear hK K
        refine doneT (by kernel_rfl) ?_ _
        go_wp2_with fail
        go_meet
        exact ⟨gO, A2, c2, gM, rfl, by omega, hR9, hb9, ho9, hm9⟩
  case rest =>
    obtain ⟨gO, A2, c2, gM, rfl, hgO, hRO, hbc, ho, hmm⟩ := hcut
    have hMc := hM0.call hbc
    have hMB : MsB w.heap.size w wc [(gO, 25, #[.slice A2 ni c2, .slice (some ⟨gM, 0, none⟩) 0 (nl + 1)]), (gS + 1, 25, #[.slice none 0 0, .slice none 0 0]), (gS, 25, shV Ai ni ci Al nl cl)] := ⟨hMc.old, fun p hp => by
      simp only [List.mem_cons, List.not_mem_nil, or_false] at hp
      rcases hp with rfl | rfl | rfl
      · exact hRO
      · exact hMc.get 0 rfl
      · exact hMc.get 1 rfl⟩
    have hO : OwW w.heap.size wc (.slice A2 ni c2) (.slice (some ⟨gM, 0, none⟩) 0 (nl + 1)) [] [] ids (levI (lv.take 0)) := ⟨by rw [Hni.out]; exact ho, hmm, rfl, fun k u l hk => by simp at hk, fun k u g hk => by simp at hk, fun j k u v g hj => by simp at hj⟩
    have k1 := (hMB.get 2 rfl).cell (i := 1) (v := .slice Al nl cl) rfl
    clear hM0 hw00 hid0 hMc hRO hbc ho hmm
    go_wp2_with fail
    go_loopw [18] (fun i wr => ∃ (j : Nat) (A3 : Option Addr) (c3 : Nat) (us : List Value), j ≤ nl ∧ i = .int .i64 (j : Int) ∧ OwW w.heap.size wr (.slice A2 ni c2) (.slice A3 j c3) us us ids (levI (lv.take j)) ∧
      MsB w.heap.size w wr [(gO, 25, #[.slice A2 ni c2, .slice A3 j c3]), (gS + 1, 25, #[.slice none 0 0, .slice none 0 0]), (gS, 25, shV Ai ni ci Al nl cl)]) (fun i _ => nl - (intOf i).toNat)
    case atStart => exact ⟨0, some ⟨gM, 0, none⟩, nl + 1, [], by omega, rfl, hO, hMB⟩
    case round =>
      clear hMB hO k1
      obtain ⟨j, A3, c3, us, hj, rfl, h, hM⟩ := hrel
      have hb := hM.old
      have hltO := (hM.get 0 rfl).lt
      have hbs := hb.size
      by_cases hjn : j < nl
      · have hjl : j < lv.length := by rw [Hnl.out]; exact hjn
        obtain ⟨l, hl⟩ : ∃ l, lv[j]? = some l := ⟨_, List.getElem?_eq_getElem hjl⟩
        have hjl' : j < (levI lv).length := by rw [levI_lenX]; exact hjl
        obtain ⟨b, o, rfl, hbb, hcell⟩ := (hv.below hb).pos (by omega)
        obtain ⟨Aj, cj, hvj, hcj, hmj, hrj⟩ := hlv.get hjl'
        have hce : (levI lv)[j] = castL l := Option.some.inj ((List.getElem?_eq_getElem hjl').symm.trans (levI_get hl))
        rw [hce, castL_len] at hvj hcj hrj
        have c1 := hcell j _ hvj
        have hlen : l.length ≤ 1000 := hlm _ (List.mem_of_getElem? hl)
        have hrjw := hrj.below hb
        have Htk := Lib.hid (show lv.take (j + 1) = lv.take j ++ [l] by rw [List.take_add_one, hl]; rfl)
        have hlj : (levI (lv.take j)).length = j := by rw [levI_lenX, List.length_take]; omega
        have hol := h.l
        rw [hlj] at hol
        have Hlj := Lib.hid hlj
        obtain ⟨m, hm⟩ : ∃ m, m = l.length := ⟨_, rfl⟩
        rw [← hm] at hvj hcj hrjw c1 hlen
        have Hm := Lib.hid hm
        have kO := (hM.get 0 rfl).cell (i := 1) (v := .slice A3 j c3) rfl
        clear hcell hvj hrj hjl hjl' hce hl hlj hm
        go_upto_region 5 with fail
        try simp only [Act.put]
        have hkeep : ∀ wx : World, Below wr.heap.size wr wx → wx.cell? ⟨gO, 1, none⟩ = some (.slice A3 j c3) := fun wx hb => ((hM.get 0 rfl).call hb).cell rfl
        refine beginT (fun wx => wx.cell? ⟨gO, 1, none⟩ = some (.slice A3 j c3)) 7 (by kernel_rfl) ?_
        have hS := hkeep _ (c_drew (c_refl _))
        refine takeD 0 (some 22) (.pointer (some ⟨gO, 1, none⟩)) rfl rfl (by kernel_rfl) (by kernel_rfl) (by kernel_rfl) (by kernel_rfl) (fun _ _ _ h => h) (Or.inl ⟨by kernel_rfl, fun wx hSw => by have h := hSw; go_simp⟩) hS ?_
        simp only [Act.put, List.setIfInBounds_toArray, List.set_cons_zero, List.set_cons_succ]
        refine takeD 1 (some 23) (.slice A3 j c3) rfl rfl (by kernel_rfl) (by kernel_rfl) (by kernel_rfl) (by kernel_rfl) (fun _ _ _ h => h) (Or.inl ⟨by kernel_rfl, fun wx hSw => by have h := hSw; go_simp⟩) hS ?_
        simp only [Act.put, List.setIfInBounds_toArray, List.set_cons_zero, List.set_cons_succ]
        refine takeD 2 (some 24) (.slice Aj m cj) rfl rfl (by kernel_rfl) (by kernel_rfl) (by kernel_rfl) (by kernel_rfl) (fun _ _ _ h => h) (Or.inl ⟨by kernel_rfl, fun wx hSw => by have h := hSw; go_simp⟩) hS ?_
        simp only [Act.put, List.setIfInBounds_toArray, List.set_cons_zero, List.set_cons_succ]
        have hx0 : Below wr.heap.size wr wr.drew := c_drew (c_refl _)
        have hrj0 := (hrjw.below (hx0.mono hbs)).more (show w.heap.size ≤ wr.drew.heap.size from hbs)
        have hsx0 : wr.drew.heap.size = wr.heap.size := rfl
        have hMx0 := hM.call hx0 hbs
        have hox0 := own_below hol hx0
        generalize wr.drew = x0 at *
        refine oneT 3 (by kernel_rfl) rfl (fun K hK => ?_)
        go_simp
        refine (Clone_any Aj m cj ((castL l).map iv) x0 hcj (by omega) (one_iv _) hrj0).mono ?_
        rintro e x1 ⟨A5, c5, rfl, ho5, hx1⟩
        have hwx1 := c_call hx0 hx1
        have hMx1 := hMx0.call hx1 (by omega)
        have hox1 := own_below hox0 hx1
        have hf5 : ∀ q, (Value.slice A5 m c5).ownBlock = some q → wr.heap.size ≤ q := fun q hq => by rw [← hsx0]; exact own_blockT ho5 q hq
        have ho5 := own_monoT ho5 (show w.heap.size ≤ x0.heap.size by omega)
        refine hK.out _ _ (fun _ => hkeep _ hwx1) ?_
        clear hK K
        try simp only [Act.put, List.setIfInBounds_toArray, List.set_cons_zero, List.set_cons_succ]
        have hal := d_al x1 (.cells #[.slice A5 m c5] 22)
        have hwx2 := c_call hwx1 hal
        have hMx2 := hMx1.call hal (by have := hwx1.size; omega)
        have hox2 := own_below hox1 hal
        have ho52 := own_below ho5 hal
        have hs1 := hwx1.size
        refine oneT 4 (by kernel_rfl) rfl (fun K hK => ?_)
        go_simp
        refine hK.out _ _ (fun _ => hkeep _ hwx2) ?_
        clear hK K
        have hone : ∀ u ∈ [Value.slice A5 m c5], u.oneCell' = true := by intro u hu; simp at hu; subst hu; rfl
        have hz2 : (x1.alloc (.cells #[.slice A5 m c5] 22)).heap.size = x1.heap.size + 1 := by simp
        refine oneT 5 (by kernel_rfl) rfl (fun K hK => ?_)
        refine step_append_rdT (by kernel_rfl) (some 27) rfl (.tmp 23) (.tmp 26) _ rfl w.heap.size 22 i1 _ 24 Try.underlying23 hi1 hy0 hy1 hy2 rfl (.slice A3 j c3) j us rfl hox2 (x1.heap.size + 1) (some ⟨x1.heap.size, 0, none⟩) 1 1 [.slice A5 m c5] rfl (Rd.mk_ _ _ _ rfl (by omega) rfl rfl) hone (by simp only [maxLen]; omega) (by omega) (by omega) ?_
        intro v6 x3 hown6 hgr6 hat6
        obtain ⟨A6, c6, rfl, _, _⟩ := own_formT hown6
        have h6 := h.snoc (u := .slice A5 m c5) (vL' := .slice A6 (j + 1) c6) (l := castL l) hwx2 (by rw [castL_len, ← Hm.out]; exact ho52) hf5 hgr6 (by rw [Hlj.out]; exact hown6)
        rw [show levI (lv.take j) ++ [castL l] = levI (lv.take (j + 1)) by rw [Htk.out]; simp [levI_cast]] at h6
        have hMx3 := hMx2.turn hgr6 (by omega) (fun q hq => by
          obtain ⟨cs, hr⟩ := own_tyT hox2 hq
          exact ⟨own_blockT hox2 q hq, _, cs, hr, fun p hp => by simp at hp; rcases hp with rfl | rfl | rfl <;> exact sh_ne.2.symm⟩)
        have kx : x3.cell? ⟨gO, 1, none⟩ = some (.slice A3 j c3) := (hMx3.get 0 rfl).cell rfl
        have fx := (hMx3.get 0 rfl).frozen 1
        refine hK.out _ _ (fun _ => kx) ?_
        clear hK K
        try simp only [Act.put, List.setIfInBounds_toArray, List.set_cons_zero, List.set_cons_succ]
        generalize us ++ [Value.slice A5 m c5] = us2 at h6
        have hgw : w.heap.size ≤ gO := by have := HgS.out; omega
        have hM7 := hMx3.set hgw (fun q hq => by simp at hq; rcases hq with rfl | rfl <;> simp <;> omega) 1 (.slice A6 (j + 1) c6)
        rw [show (#[.slice A2 ni c2, .slice A3 j c3] : Array Value).setIfInBounds 1 (.slice A6 (j + 1) c6) = #[.slice A2 ni c2, .slice A6 (j + 1) c6] from rfl] at hM7
        have h7 := h6.far (grown_setCell x3 gO 1 (.slice A6 (j + 1) c6)) (hMx3.get 0 rfl) sh_ne.1 sh_ne.2
        clear hMx3 hMx2 hMx1 hMx0 hox2 hox1 hox0 ho52 ho5 hf5 hown6 hgr6 hat6 h6 h hM hol hrj0 hrjw hS hkeep hone
        refine takeD 6 (some 28) (.pointer (some ⟨gO, 1, none⟩)) rfl rfl (by kernel_rfl) (by kernel_rfl) (by kernel_rfl) (by kernel_rfl) (fun _ _ _ h => h) (Or.inl ⟨by kernel_rfl, fun wx hSw => by go_simp⟩) kx ?_
        simp only [Act.put, List.setIfInBounds_toArray, List.set_cons_zero, List.set_cons_succ]
        refine oneT 7 (by kernel_rfl) rfl (fun K hK => ?_)
        go_simp
        refine hK.out _ _ (fun h => absurd rfl h) ?_
        clear hK K
        refine doneT (by kernel_rfl) ?_ _
        go_wp2_with fail
        go_roundw
        case rel => exact ⟨j + 1, A6, c6, us2, by omega, by go_num, h7, hM7⟩
        case measure => simp [intOf]; omega
      · obtain rfl : j = nl := by omega
        rw [List.take_of_length_le (by rw [Hnl.out]; exact Nat.le_refl _)] at h
        go_wp2_with (first
          | ((with_reducible show wpList _ _ _ (⟨some 30, _, _, _, _, _⟩ :: _) _ _); refine wpList_loadC (by kernel_rfl) 25 (.tmp 3) rfl gO rfl 25 #[.slice A2 ni c2, .slice A3 j c3] _ (hM.get 0 rfl) Try.underlying25 rfl shapeInfo2 ?_)
          | ((with_reducible show wpList _ _ _ (⟨none, Op.store 25 _ _, _, _, _, _⟩ :: _) _ _); refine wpList_store_row rfl 25 (.tmp 2) (.tmp 30) rfl (gS + 1) #[.slice A2 ni c2, .slice A3 j c3] rfl rfl 25 _ (hM.get 1 rfl) shapeInfo2 rfl (by simp [Value.oneCell']) ?_))
        try simp only [Act.put]
        have hR9 := (hM.get 1 rfl).row #[.slice A2 ni c2, .slice A3 j c3]
        have hw9 := h.far (grown_setRow _ (gS + 1) #[.slice A2 ni c2, .slice A3 j c3]) (hM.get 1 rfl) sh_ne.1 sh_ne.2
        have hb9 := below_setRow hM.old (show w.heap.size ≤ gS + 1 by have := HgS.out; omega) #[.slice A2 ni c2, .slice A3 j c3]
        refine bodyPost_ret (results_cell_one rfl _ _ (gS + 1) _ #[.slice A2 ni c2, .slice A3 j c3] _ rfl hR9 Try.underlying25 rfl shapeInfo2) rfl (Hpost.out _ _ _ _ _ _ _ _ hb9 hw9)

end Go.Proofs.Ytmganbdbihjbmaa

/-
  CONTRACTS of the program's Insert and Delete (tree). Printed by gen_treepid.py.
-/
set_option linter.unusedVariables false
namespace Go.Proofs.Ytmganbdbihjbmaa
open Go.RowKit

theorem tells_nil (w : World) (er : Value) : TellsThawed (.returned (.tuple #[.agg #[.slice none 0 0, .slice none 0 0], er])) w := by
  intro Ai ni ci Al nl cl er' e
  simp only [shV, Ending.returned.injEq, Value.tuple.injEq, Array.mk.injEq, List.cons.injEq, Value.agg.injEq, Value.slice.injEq, and_true] at e
  obtain ⟨⟨⟨rfl, _, _⟩, rfl, _, _⟩, _⟩ := e
  exact ⟨fun ad h => (by cases h), fun b o j h => (by cases h)⟩
theorem tells_own {w : World} {Ai Al : Option Addr} {ni ci nl cl : Nat} {er : Value} (h : ThawS w Ai Al nl) : TellsThawed (.returned (.tuple #[.agg (shV Ai ni ci Al nl cl), er])) w := by
  intro Ai' ni' ci' Al' nl' cl' er' e
  simp only [shV, Ending.returned.injEq, Value.tuple.injEq, Array.mk.injEq, List.cons.injEq, Value.agg.injEq, Value.slice.injEq, and_true] at e
  obtain ⟨⟨⟨rfl, _, _⟩, rfl, rfl, _⟩, _⟩ := e
  exact h
theorem insE_ref {ids : List Int} {ll : List (List Int)} {id : Int} (h : chkT ids ll = true) : insE ids ll id = refT ids id := by
  have h1 := (chkT_lv h).1
  unfold insE refT
  by_cases hm : mayT id = false
  · rw [if_pos hm, if_pos]
    rw [mayT, Bool.and_eq_false_iff, decide_eq_false_iff_not, decide_eq_false_iff_not] at hm
    omega
  · rw [if_neg hm, if_neg]
    · split
      · rfl
      · by_cases h2 : ids.length = 1000
        · rw [if_pos h2, if_pos (by omega)]
        · rw [if_neg h2, if_neg (by omega)]
    · simp only [mayT, Bool.and_eq_false_iff, decide_eq_false_iff_not] at hm
      rw [h]
      simp only [Bool.true_eq_false, false_or]
      omega

set_option maxRecDepth 100000 in
set_option maxHeartbeats 4000000 in
theorem PInsert_any (Ai : Option Addr) (ni ci : Nat) (Al : Option Addr) (nl cl : Nat) (ids : List Int) (ll : List (List Int)) (id : Int) (w : World) (h : ShR w w.heap.size Ai ni ci Al nl cl ids ll) (hf : fewT ids ll = true) :
    Calls Try.prog 30 #[.agg (shV Ai ni ci Al nl cl), .int .i64 id] w fun e w' => InsPost w ids ll id e w' ∧ TellsThawed e w' := by
  have HE := Lib.hid (show ∀ er : Int, insE ids ll id = er → er ≠ 0 → ∀ w', Below w.heap.size w w' → (fun e w' => InsPost w ids ll id e w' ∧ TellsThawed e w') (.returned (.tuple #[.agg #[.slice none 0 0, .slice none 0 0], .int .i64 er])) w' from fun er h1 h2 w' hb => ⟨⟨hb, .inl ⟨by rw [h1]; exact h2, by rw [h1]; rfl⟩⟩, tells_nil _ _⟩)
  have HO := Lib.hid (show insE ids ll id = 0 → ∀ base w' Ai ni ci Al nl cl vs, w.heap.size ≤ base → Below w.heap.size w w' → OwW base w' (.slice Ai ni ci) (.slice Al nl cl) vs vs (insS ids (lvN ll) id).1 (levI (insS ids (lvN ll) id).2) →
    (fun e w' => InsPost w ids ll id e w' ∧ TellsThawed e w') (.returned (.tuple #[.agg (shV Ai ni ci Al nl cl), .int .i64 0])) w' from fun h0 base w' _ _ _ _ _ _ vs hb h1 h2 => ⟨⟨h1, .inr ⟨h0, _, _, _, _, _, _, rfl, (h2.shN hb).1⟩⟩, tells_own (h2.shN hb).2⟩)
  generalize (fun e w' => InsPost w ids ll id e w' ∧ TellsThawed e w') = PO at *
  have hM0 := ((Ms.nil w).box 25 (shV Ai ni ci Al nl cl)).box 25 #[.slice none 0 0, .slice none 0 0]
  simp only [World.size_alloc] at hM0
  have hsh0 := (h.below hM0.old).more hM0.old.size
  have hck := PCheck_any Ai ni ci Al nl cl ids ll _ hsh0 (few_million hf) (by have := (few_len hf).2.1; have := h.hni; omega)
  clear hsh0
  have hci := h.hci
  have hmi := h.hmi
  go_enter Try.func30, Try.ntmps30
  go_wp2_with ((with_reducible show wpList _ _ _ (⟨some 8, _, _, _, _, _⟩ :: _) _ _); refine wpList_loadC (by kernel_rfl) 25 (.tmp 2) rfl (w.heap.size) rfl 25 (shV Ai ni ci Al nl cl) _ (hM0.get 1 rfl) Try.underlying25 rfl shapeInfo2 ?_)
  refine hck.mono ?_
  rintro e w1 ⟨rfl, hb1⟩
  have hM1 := hM0.call hb1
  clear hM0 hb1 hck
  by_cases hc : chkT ids ll = true
  rotate_left
  · have hcf : chkT ids ll = false := by simpa using hc
    rw [show chkE ids ll = 1 by rw [chkE, hcf]; rfl]
    clear hc
    go_wp2_with ((with_reducible show wpList _ _ _ (⟨none, Op.store 25 _ _, _, _, _, _⟩ :: _) _ _); refine wpList_store_row rfl 25 (.tmp 4) (.tmp 12) rfl (w.heap.size + 1) #[.slice none 0 0, .slice none 0 0] rfl rfl 25 _ (hM1.get 0 rfl) shapeInfo2 rfl (by simp [Value.oneCell']) ?_)
    refine bodyPost_ret (results_cell_two rfl _ _ (w.heap.size + 1) 25 #[.slice none 0 0, .slice none 0 0] _ rfl ((hM1.get 0 rfl).row _) Try.underlying25 rfl shapeInfo2) rfl ?_
    exact (HE.out 1 (by rw [insE, if_pos (.inl hcf)]) (by decide) _ (below_setRow hM1.old (by omega) _))
  rw [show chkE ids ll = 0 by rw [chkE, hc]; rfl]
  obtain ⟨c1, c2, c3, c4⟩ := chkT_lv hc
  have hl2 := levI_lvN c4
  have hlm : ∀ l ∈ lvN ll, l.length ≤ 1000 := fun l hl => Nat.le_trans (lvOK_len _ _ c3 l hl) c1
  have hh := lv_high hc
  have hrise := okI_rise ids c2
  have hrf := PRefused_any Ai ni ci ids id w1 hci hmi (by have := h.hni; omega) hrise ((h.hids.below hM1.old).more hM1.old.size)
  have hsh1 : ShR w1 w1.heap.size Ai ni ci Al nl cl ids (levI (lvN ll)) := by rw [hl2]; exact (h.below hM1.old).more hM1.old.size
  have hcp := PCopied_any Ai ni ci Al nl cl ids (lvN ll) w1 (by omega) c1 hlm hsh1
  have Her := Lib.hid (insE_ref (id := id) hc)
  have k0 := (hM1.get 1 rfl).cell (i := 0) (v := .slice Ai ni ci) rfl
  clear hc hsh1 h hlm c2 c4
  go_wp2_with fail
  refine hrf.mono ?_
  rintro e w1 ⟨rfl, rfl⟩
  by_cases hr : refT ids id = 0
  rotate_left
  · have Hr := Lib.hid hr
    have hne : (refT ids id != 0) = true := by rw [bne_iff_ne]; exact hr
    obtain ⟨er, her⟩ : ∃ er, er = refT ids id := ⟨_, rfl⟩
    rw [← her] at hne Her Hr ⊢
    clear hr her k0
    go_wp2_with ((with_reducible show wpList _ _ _ (⟨none, Op.store 25 _ _, _, _, _, _⟩ :: _) _ _); refine wpList_store_row rfl 25 (.tmp 4) (.tmp 20) rfl (w.heap.size + 1) #[.slice none 0 0, .slice none 0 0] rfl rfl 25 _ (hM1.get 0 rfl) shapeInfo2 rfl (by simp [Value.oneCell']) ?_)
    refine bodyPost_ret (results_cell_two rfl _ _ (w.heap.size + 1) 25 #[.slice none 0 0, .slice none 0 0] _ rfl ((hM1.get 0 rfl).row _) Try.underlying25 rfl shapeInfo2) rfl ?_
    exact (HE.out er (Her.out) Hr.out _ (below_setRow hM1.old (by omega) _))
  have Hr := Lib.hid (Her.out.trans hr)
  rw [hr]
  clear hr k0
  go_wp2_with ((with_reducible show wpList _ _ _ (⟨some 22, _, _, _, _, _⟩ :: _) _ _); refine wpList_loadC (by kernel_rfl) 25 (.tmp 2) rfl (w.heap.size) rfl 25 (shV Ai ni ci Al nl cl) _ (hM1.get 1 rfl) Try.underlying25 rfl shapeInfo2 ?_)
  refine hcp.mono ?_
  rintro e w2 ⟨hb2, A2, n2, c2', B2, m2, d2, vs2, rfl, h2⟩
  have hM2 := hM1.call hb2
  have hput := PPut_any w1.heap.size A2 n2 c2' B2 m2 d2 vs2 ids (lvN ll) id w2 hb2.size c1 (by omega) hrise c3 h2
  have hlt1 := (hM1.get 0 rfl).lt
  clear hcp hM1 h2
  go_wp2_with fail
  refine hput.mono ?_
  rintro e w3 ⟨hb3, A3, n3, c3', B3, m3, d3, vs3, rfl, h3⟩
  have hR3 := (hM2.get 0 rfl).below hb3 hlt1
  have hB3 : Below w.heap.size w w3 := hM2.old.trans (hb3.mono (by omega))
  clear hM2 hput hb3 hb2
  have h4 := h3.far (grown_setRow w3 (w.heap.size + 1) (shV A3 n3 c3' B3 m3 d3)) hR3 sh_ne.1 sh_ne.2
  have hB4 := below_setRow hB3 (show w.heap.size ≤ w.heap.size + 1 by omega) (shV A3 n3 c3' B3 m3 d3)
  have hlw : w.heap.size ≤ w1.heap.size := by omega
  go_wp2_with ((with_reducible show wpList _ _ _ (⟨none, Op.store 25 _ _, _, _, _, _⟩ :: _) _ _); refine wpList_store_row rfl 25 (.tmp 4) (.tmp 25) rfl (w.heap.size + 1) (shV A3 n3 c3' B3 m3 d3) rfl rfl 25 _ (hR3) shapeInfo2 rfl (by simp [shV, Value.oneCell']) ?_)
  refine bodyPost_ret (results_cell_two rfl _ _ (w.heap.size + 1) 25 (shV A3 n3 c3' B3 m3 d3) _ rfl (hR3.row _) Try.underlying25 rfl shapeInfo2) rfl ?_
  exact HO.out Hr.out _ _ _ _ _ _ _ _ _ hlw hB4 h4

set_option maxRecDepth 100000 in
set_option maxHeartbeats 4000000 in
theorem PDelete_any (Ai : Option Addr) (ni ci : Nat) (Al : Option Addr) (nl cl : Nat) (ids : List Int) (ll : List (List Int)) (id : Int) (w : World) (h : ShR w w.heap.size Ai ni ci Al nl cl ids ll) (hf : fewT ids ll = true) :
    Calls Try.prog 29 #[.agg (shV Ai ni ci Al nl cl), .int .i64 id] w fun e w' => DelPost w ids ll id e w' ∧ TellsThawed e w' := by
  have HE := Lib.hid (show ∀ er : Int, delE ids ll id = er → er ≠ 0 → ∀ w', Below w.heap.size w w' → (fun e w' => DelPost w ids ll id e w' ∧ TellsThawed e w') (.returned (.tuple #[.agg #[.slice none 0 0, .slice none 0 0], .int .i64 er])) w' from fun er h1 h2 w' hb => ⟨⟨hb, .inl ⟨by rw [h1]; exact h2, by rw [h1]; rfl⟩⟩, tells_nil _ _⟩)
  have HO := Lib.hid (show delE ids ll id = 0 → ∀ base w' Ai ni ci Al nl cl vs, w.heap.size ≤ base → Below w.heap.size w w' → OwW base w' (.slice Ai ni ci) (.slice Al nl cl) vs vs (delS ids (lvN ll) id).1 (levI (delS ids (lvN ll) id).2) →
    (fun e w' => DelPost w ids ll id e w' ∧ TellsThawed e w') (.returned (.tuple #[.agg (shV Ai ni ci Al nl cl), .int .i64 0])) w' from fun h0 base w' _ _ _ _ _ _ vs hb h1 h2 => ⟨⟨h1, .inr ⟨h0, _, _, _, _, _, _, rfl, (h2.shN hb).1⟩⟩, tells_own (h2.shN hb).2⟩)
  generalize (fun e w' => DelPost w ids ll id e w' ∧ TellsThawed e w') = PO at *
  have hM0 := ((Ms.nil w).box 25 (shV Ai ni ci Al nl cl)).box 25 #[.slice none 0 0, .slice none 0 0]
  simp only [World.size_alloc] at hM0
  have hsh0 := (h.below hM0.old).more hM0.old.size
  have hck := PCheck_any Ai ni ci Al nl cl ids ll _ hsh0 (few_million hf) (by have := (few_len hf).2.1; have := h.hni; omega)
  clear hsh0
  have hci := h.hci
  have hmi := h.hmi
  go_enter Try.func29, Try.ntmps29
  go_wp2_with ((with_reducible show wpList _ _ _ (⟨some 9, _, _, _, _, _⟩ :: _) _ _); refine wpList_loadC (by kernel_rfl) 25 (.tmp 2) rfl (w.heap.size) rfl 25 (shV Ai ni ci Al nl cl) _ (hM0.get 1 rfl) Try.underlying25 rfl shapeInfo2 ?_)
  refine hck.mono ?_
  rintro e w1 ⟨rfl, hb1⟩
  have hM1 := hM0.call hb1
  clear hM0 hb1 hck
  by_cases hc : chkT ids ll = true
  rotate_left
  · have hcf : chkT ids ll = false := by simpa using hc
    rw [show chkE ids ll = 1 by rw [chkE, hcf]; rfl]
    clear hc
    go_wp2_with ((with_reducible show wpList _ _ _ (⟨none, Op.store 25 _ _, _, _, _, _⟩ :: _) _ _); refine wpList_store_row rfl 25 (.tmp 4) (.tmp 13) rfl (w.heap.size + 1) #[.slice none 0 0, .slice none 0 0] rfl rfl 25 _ (hM1.get 0 rfl) shapeInfo2 rfl (by simp [Value.oneCell']) ?_)
    refine bodyPost_ret (results_cell_two rfl _ _ (w.heap.size + 1) 25 #[.slice none 0 0, .slice none 0 0] _ rfl ((hM1.get 0 rfl).row _) Try.underlying25 rfl shapeInfo2) rfl ?_
    exact (HE.out 1 (by rw [delE, if_pos hcf]) (by decide) _ (below_setRow hM1.old (by omega) _))
  rw [show chkE ids ll = 0 by rw [chkE, hc]; rfl]
  obtain ⟨c1, c2, c3, c4⟩ := chkT_lv hc
  have hl2 := levI_lvN c4
  have hlm : ∀ l ∈ lvN ll, l.length ≤ 1000 := fun l hl => Nat.le_trans (lvOK_len _ _ c3 l hl) c1
  have hh := lv_high hc
  have hrise := okI_rise ids c2
  have hsr := Search_any Ai ni ci ids id w1 hci hmi (by have := h.hni; omega) hrise ((h.hids.below hM1.old).more hM1.old.size)
  have hsh1 : ShR w1 w1.heap.size Ai ni ci Al nl cl ids (levI (lvN ll)) := by rw [hl2]; exact (h.below hM1.old).more hM1.old.size
  have hcp := PCopied_any Ai ni ci Al nl cl ids (lvN ll) w1 (by omega) c1 hlm hsh1
  have Hc := Lib.hid hc
  have k0 := (hM1.get 1 rfl).cell (i := 0) (v := .slice Ai ni ci) rfl
  have Hrb := Lib.hid (fun h => rise_bel ids id hrise h)
  have Hdl := Lib.hid (show isT ids id = true → (delS ids (lvN ll) id).1 = ids.eraseIdx (belT ids id) ∧ (delS ids (lvN ll) id).2 = delL (lvN ll) (belT ids id) from fun hi => by
    have hb := (rise_bel ids id hrise hi).1
    rw [delS]
    split
    · rename_i h1
      have h0 : belT ids id = 0 := by omega
      have hlv : lvN ll = [] := lv_nilT c3 (by omega)
      rw [h0, hlv]
      match ids, h1 with
      | [x], _ => exact ⟨rfl, rfl⟩
    · exact ⟨rfl, rfl⟩)
  have Hbb := Lib.hid (show isT ids id = true → belT ids id < ids.length from fun hi => (rise_bel ids id hrise hi).1)
  clear hc hsh1 h hlm c2 c4 Hrb
  generalize belT ids id = p at *
  go_wp2_with fail
  refine hsr.mono ?_
  rintro e w1 ⟨rfl, rfl⟩
  by_cases hi : isT ids id = true
  rotate_left
  · have hif : isT ids id = false := by simpa using hi
    have He := Lib.hid (show delE ids ll id = 6 by rw [delE, if_neg (by rw [Hc.out]; simp), if_pos hif])
    rw [hif]
    clear hi hif k0
    go_wp2_with ((with_reducible show wpList _ _ _ (⟨none, Op.store 25 _ _, _, _, _, _⟩ :: _) _ _); refine wpList_store_row rfl 25 (.tmp 4) (.tmp 24) rfl (w.heap.size + 1) #[.slice none 0 0, .slice none 0 0] rfl rfl 25 _ (hM1.get 0 rfl) shapeInfo2 rfl (by simp [Value.oneCell']) ?_)
    refine bodyPost_ret (results_cell_two rfl _ _ (w.heap.size + 1) 25 #[.slice none 0 0, .slice none 0 0] _ rfl ((hM1.get 0 rfl).row _) Try.underlying25 rfl shapeInfo2) rfl ?_
    exact (HE.out 6 (He.out) (by decide) _ (below_setRow hM1.old (by omega) _))
  have Hr := Lib.hid (show delE ids ll id = 0 by rw [delE, if_neg (by rw [Hc.out]; simp), if_neg (by rw [hi]; simp)])
  have Hdl2 := Lib.hid (Hdl.out hi)
  have hpl := Hbb.out hi
  rw [hi]
  clear hi k0 hsr
  go_wp2_with ((with_reducible show wpList _ _ _ (⟨some 25, _, _, _, _, _⟩ :: _) _ _); refine wpList_loadC (by kernel_rfl) 25 (.tmp 2) rfl (w.heap.size) rfl 25 (shV Ai ni ci Al nl cl) _ (hM1.get 1 rfl) Try.underlying25 rfl shapeInfo2 ?_)
  refine hcp.mono ?_
  rintro e w2 ⟨hb2, A2, n2, c2', B2, m2, d2, vs2, rfl, h2⟩
  have hM2 := hM1.call hb2
  have hput := PTaken_any w1.heap.size A2 n2 c2' B2 m2 d2 vs2 ids (lvN ll) p w2 hb2.size c1 (by omega) hpl c3 h2
  have hlt1 := (hM1.get 0 rfl).lt
  clear hcp hM1 h2
  go_wp2_with fail
  refine hput.mono ?_
  rintro e w3 ⟨hb3, A3, n3, c3', B3, m3, d3, vs3, rfl, h3⟩
  have hR3 := (hM2.get 0 rfl).below hb3 hlt1
  have hB3 : Below w.heap.size w w3 := hM2.old.trans (hb3.mono (by omega))
  clear hM2 hput hb3 hb2
  have h4 := h3.far (grown_setRow w3 (w.heap.size + 1) (shV A3 n3 c3' B3 m3 d3)) hR3 sh_ne.1 sh_ne.2
  have hB4 := below_setRow hB3 (show w.heap.size ≤ w.heap.size + 1 by omega) (shV A3 n3 c3' B3 m3 d3)
  have hlw : w.heap.size ≤ w1.heap.size := by omega
  go_wp2_with ((with_reducible show wpList _ _ _ (⟨none, Op.store 25 _ _, _, _, _, _⟩ :: _) _ _); refine wpList_store_row rfl 25 (.tmp 4) (.tmp 28) rfl (w.heap.size + 1) (shV A3 n3 c3' B3 m3 d3) rfl rfl 25 _ (hR3) shapeInfo2 rfl (by simp [shV, Value.oneCell']) ?_)
  refine bodyPost_ret (results_cell_two rfl _ _ (w.heap.size + 1) 25 (shV A3 n3 c3' B3 m3 d3) _ rfl (hR3.row _) Try.underlying25 rfl shapeInfo2) rfl ?_
  exact HO.out Hr.out _ _ _ _ _ _ _ _ _ hlw hB4 (by rw [Hdl2.out.1, Hdl2.out.2]; exact h4)

end Go.Proofs.Ytmganbdbihjbmaa

