import Derived.Test.YtjhcnhihmgpgbaaG26
/-
  THE WALK of TreeNear (coterielaw10), over what the program's calls answer; what Insert and Delete answer, as one shape.
-/
set_option linter.unusedVariables false
namespace Go.Proofs.Ytjhcnhihmgpgbaa
open Go.RowKit

theorem sh0_shV : (sh0 : Array Value) = shV none 0 0 none 0 0 := rfl
theorem InsPost.shape {w : World} {ids : List Int} {ll : List (List Int)} {id : Int} {e : Ending} {w' : World} (h : InsPost w ids ll id e w') : Below w.heap.size w w' ∧ ∃ Ai ni ci Al nl cl ids1 ll1,
    e = .returned (.tuple #[.agg (shV Ai ni ci Al nl cl), .int .i64 (insE ids ll id)]) ∧ ShN w.heap.size w' w'.heap.size Ai ni ci Al nl cl ids1 ll1 ∧ (insE ids ll id = 0 → ids1 = (insS ids (lvN ll) id).1 ∧ ll1 = levI (insS ids (lvN ll) id).2) := by
  obtain ⟨hb, ⟨h1, h2⟩ | ⟨h1, Ai, ni, ci, Al, nl, cl, h2, h3⟩⟩ := h
  · exact ⟨hb, none, 0, 0, none, 0, 0, [], [], by rw [h2, sh0_shV], ShN.nil _ _ _, fun h => absurd h h1⟩
  · exact ⟨hb, Ai, ni, ci, Al, nl, cl, _, _, by rw [h1]; exact h2, h3, fun _ => ⟨rfl, rfl⟩⟩
theorem DelPost.shape {w : World} {ids : List Int} {ll : List (List Int)} {id : Int} {e : Ending} {w' : World} (h : DelPost w ids ll id e w') : Below w.heap.size w w' ∧ ∃ Ai ni ci Al nl cl ids1 ll1,
    e = .returned (.tuple #[.agg (shV Ai ni ci Al nl cl), .int .i64 (delE ids ll id)]) ∧ ShN w.heap.size w' w'.heap.size Ai ni ci Al nl cl ids1 ll1 ∧ (delE ids ll id = 0 → ids1 = (delS ids (lvN ll) id).1 ∧ ll1 = levI (delS ids (lvN ll) id).2) := by
  obtain ⟨hb, ⟨h1, h2⟩ | ⟨h1, Ai, ni, ci, Al, nl, cl, h2, h3⟩⟩ := h
  · exact ⟨hb, none, 0, 0, none, 0, 0, [], [], by rw [h2, sh0_shV], ShN.nil _ _ _, fun h => absurd h h1⟩
  · exact ⟨hb, Ai, ni, ci, Al, nl, cl, _, _, by rw [h1]; exact h2, h3, fun _ => ⟨rfl, rfl⟩⟩

/-- levels as the law compares them -/
def nearI (few more : List (List Int)) : Prop := few.length ≤ more.length ∧ more.length ≤ few.length + 1 ∧ ∀ i (h : i < few.length) (h' : i < more.length), few[i].length ≤ more[i].length ∧ more[i].length ≤ few[i].length + 1
theorem lvN_len (ll : List (List Int)) : (lvN ll).length = ll.length := by simp [lvN]
theorem nearI_ins {ll : List (List Int)} {lv : List (List Nat)} (h : nearL (lvN ll) lv) : nearI ll (levI lv) := by
  obtain ⟨h1, h2, h3⟩ := h
  rw [lvN_len] at h1 h2
  refine ⟨by simpa [levI] using h1, by simpa [levI] using h2, fun i hi hi' => ?_⟩
  have := h3 i (by rw [lvN_len]; exact hi) (by simpa [levI] using hi')
  simpa [levI, lvN, natL] using this
theorem nearI_del {ll : List (List Int)} {lv : List (List Nat)} (h : nearL lv (lvN ll)) : nearI (levI lv) ll := by
  obtain ⟨h1, h2, h3⟩ := h
  rw [lvN_len] at h1 h2
  refine ⟨by simpa [levI] using h1, by simpa [levI] using h2, fun i hi hi' => ?_⟩
  have := h3 i (by simpa [levI] using hi) (by rw [lvN_len]; exact hi')
  simpa [levI, lvN, natL] using this
theorem lvOK_nil {lv : List (List Nat)} {many : Nat} (h : lvOK many lv) (hm : many ≤ 1) : lv = [] := by
  cases lv with
  | nil => rfl
  | cons l ls => exact absurd h.1 (by omega)
theorem insS_near {ids : List Int} {ll : List (List Int)} {id : Int} (h : insE ids ll id = 0) : nearI ll (levI (insS ids (lvN ll) id).2) := by
  have hc := (chkT_lv (insE_zero h).1).2.2.1
  refine nearI_ins ?_
  unfold insS
  by_cases h0 : ids = []
  · rw [if_pos h0, lvOK_nil hc (by rw [h0]; simp)]
    exact nearL_refl _
  · rw [if_neg h0]
    have hp := List.length_pos_iff.2 h0
    have := belT_le ids id
    exact insL_near _ ids.length _ hc (by omega)
theorem bel_lt {ids : List Int} {id : Int} (h : ids.Pairwise (· < ·)) (hi : id ∈ ids) : belT ids id < ids.length := by
  obtain ⟨E, L, h1, _, _, h2, _⟩ := erase_form h hi
  rw [h2, h1]
  simp
theorem delS_near {ids : List Int} {ll : List (List Int)} {id : Int} (h : delE ids ll id = 0) : nearI (levI (delS ids (lvN ll) id).2) ll := by
  obtain ⟨hc, hi⟩ := delE_zero h
  have hl := (chkT_lv hc).2.2.1
  refine nearI_del ?_
  unfold delS
  by_cases h0 : ids.length = 1
  · rw [if_pos h0, lvOK_nil hl (by omega)]
    exact nearL_refl _
  · rw [if_neg h0]
    exact delL_near _ ids.length _ hl (bel_lt (okI_rise _ (chkT_lv hc).2.1) hi)

set_option maxRecDepth 100000 in
set_option maxHeartbeats 4000000 in
theorem near_any (Ai : Option Addr) (ni ci : Nat) (Al : Option Addr) (nl cl : Nat) (ids : List Int) (ll : List (List Int)) (Ai' : Option Addr) (ni' ci' : Nat) (Al' : Option Addr) (nl' cl' : Nat) (ids' : List Int) (ll' : List (List Int)) (w : World)
    (h : ShR w w.heap.size Ai ni ci Al nl cl ids ll) (h' : ShR w w.heap.size Ai' ni' ci' Al' nl' cl' ids' ll') (hn : nearI ll ll') (hs : ll.length ≤ 1000000) (hu : ∀ l ∈ ll, l.length ≤ 1000000) :
    Calls Try.prog 31 #[.agg (shV Ai ni ci Al nl cl), .agg (shV Ai' ni' ci' Al' nl' cl')] w fun e w' => e = .returned (.bool true) ∧ Below w.heap.size w w' := by
  have Hnl := Lib.hid h.hnl
  have Hnl' := Lib.hid h'.hnl
  have hml := h.hml
  have hcl := h.hcl
  have hml' := h'.hml
  have hcl' := h'.hcl
  obtain ⟨vs, hv, hlv⟩ := h.lvs
  obtain ⟨vs', hv', hlv'⟩ := h'.lvs
  obtain ⟨g1, g2, g3⟩ := hn
  rw [h.hnl, h'.hnl] at g1 g2
  rw [h.hnl] at hs
  clear h h'
  rw [maxLen] at hml hml'
  rw [shV, shV]
  have hM := ((Ms.nil w).box 25 #[.slice Ai ni ci, .slice Al nl cl]).box 25 #[.slice Ai' ni' ci', .slice Al' nl' cl']
  simp only [World.size_alloc] at hM
  have n1 : ¬ (nl' : Int) < (nl : Int) := by omega
  have n2 : ¬ (nl : Int) + 1 < (nl' : Int) := by omega
  have n3 : (nl : Int) < 9223372036854775807 := by omega
  go_enter Try.func31, Try.ntmps31
  go_wp2_with fail
  clear n1 n2 n3
  go_loopw [27] (fun i wr => ∃ j : Nat, j ≤ nl ∧ i = .int .i64 (j : Int) ∧ Ms w wr [(w.heap.size + 1, 25, #[.slice Ai' ni' ci', .slice Al' nl' cl']), (w.heap.size, 25, #[.slice Ai ni ci, .slice Al nl cl])]) (fun i _ => nl - (intOf i).toNat)
  case atStart => exact ⟨0, by omega, rfl, hM⟩
  case round =>
    clear hM
    obtain ⟨j, hj, rfl, hM⟩ := hrel
    by_cases hlt : j < nl
    · have hj1 : j < ll.length := by rw [Hnl.out]; exact hlt
      have hj2 : j < ll'.length := by rw [Hnl'.out]; omega
      have hb := hM.old
      obtain ⟨A, c, hvj, hc, hm, hrj⟩ := hlv.get hj1
      obtain ⟨A', c', hvj', hc', hm', hrj'⟩ := hlv'.get hj2
      obtain ⟨g, o, rfl, hg, hcell⟩ := (hv.below hb).pos (by omega)
      obtain ⟨g', o', rfl, hg', hcell'⟩ := (hv'.below hb).pos (by omega)
      have k0 := (hM.get 1 rfl).cell (i := 1) (v := .slice (some ⟨g, o, none⟩) nl cl) rfl
      have k1 := (hM.get 0 rfl).cell (i := 1) (v := .slice (some ⟨g', o', none⟩) nl' cl') rfl
      have c1 := hcell j _ hvj
      have c2 := hcell' j _ hvj'
      obtain ⟨d1, d2⟩ := g3 j hj1 hj2
      have d3 := hu _ (List.getElem_mem hj1)
      clear hcell hcell' hvj hvj' hrj hrj'
      generalize ll[j].length = u at *
      generalize ll'[j].length = u' at *
      rw [maxLen] at hm hm'
      have b0 : (j : Int) < (nl : Int) := by omega
      have b2 : (j : Int) < (nl' : Int) := by omega
      have b1 : (0 : Int) ≤ (j : Int) := by omega
      have n1 : ¬ (u' : Int) < (u : Int) := by omega
      have n2 : ¬ (u : Int) + 1 < (u' : Int) := by omega
      have n3 : (u : Int) < 9223372036854775807 := by omega
      go_wp2_with fail
      go_roundw
      case rel => exact ⟨j + 1, by omega, by go_num, hM⟩
      case measure => simp [intOf]; omega
    · obtain rfl : j = nl := by omega
      go_wp2_with fail
      go_ret
      exact ⟨rfl, hM.old⟩

theorem few_ll {ids : List Int} {ll : List (List Int)} (h : fewT ids ll = true) : ll.length ≤ 1000000 ∧ ∀ l ∈ ll, l.length ≤ 1000000 := by
  have := (few_len h).2.2
  exact ⟨by omega, few_million h⟩

set_option maxRecDepth 100000 in
set_option maxHeartbeats 4000000 in
theorem walkH_TreeNear (hB : HTB) (hC : HTC) (hS : HTM) (hI : HTI) (hD : HTD) (Ai : Option Addr) (ni ci : Nat) (Al : Option Addr) (nl cl : Nat) (ids : List Int) (ll : List (List Int)) (id : Int) (w : World)
    (h : ShR w w.heap.size Ai ni ci Al nl cl ids ll) :
    Calls Try.prog 10 #[.agg (shV Ai ni ci Al nl cl), .int .i64 id] w fun e w' => e = .returned (.bool true) ∧ Below w.heap.size w w' := by
  have hM0 := (Ms.nil w).box 25 (shV Ai ni ci Al nl cl)
  have sh := fun wx (hb : Below w.heap.size w wx) => (h.below hb).more hb.size
  have hfe := fun wx hb => FewT_any Ai ni ci Al nl cl ids ll wx (sh wx hb)
  have hck := fun (hf : fewT ids ll = true) wx hb => hC Ai ni ci Al nl cl ids ll wx (sh wx hb) hf
  have hin := fun (hf : fewT ids ll = true) wx hb => hI Ai ni ci Al nl cl ids ll id wx (sh wx hb) hf
  have hde := fun (hf : fewT ids ll = true) wx hb => hD Ai ni ci Al nl cl ids ll id wx (sh wx hb) hf
  have Hfl := Lib.hid (fun hf => few_ll (ids := ids) (ll := ll) hf)
  have Hsz := Lib.hid (sizeSh Ai ni ci Al nl cl)
  have hne1 := fun wx hb Ai' ni' ci' Al' nl' cl' ids' ll' h' hn => fun hf : fewT ids ll = true => near_any Ai ni ci Al nl cl ids ll Ai' ni' ci' Al' nl' cl' ids' ll' wx (sh wx hb) h' hn (few_ll hf).1 (few_ll hf).2
  have hne2 := fun wx hb Ai' ni' ci' Al' nl' cl' ids' ll' h' hn h1 h2 => near_any Ai' ni' ci' Al' nl' cl' ids' ll' Ai ni ci Al nl cl ids ll wx h' (sh wx hb) hn h1 h2
  clear sh h
  generalize hsv : shV Ai ni ci Al nl cl = sv at *
  clear hsv
  go_enter Try.func10, Try.ntmps10
  go_wp2_with fail
  refine (live10 hB hC hS _).mono ?_
  rintro e w1 ⟨rfl, hb1⟩
  have hM1 := hM0.call hb1
  clear hM0 hb1
  go_wp2_with ((with_reducible show wpList _ _ _ (⟨some 11, _, _, _, _, _⟩ :: _) _ _); refine wpList_loadC (by kernel_rfl) 25 (.tmp 2) rfl (w.heap.size) rfl 25 sv _ (hM1.get 0 rfl) Try.underlying25 rfl Hsz.out ?_)
  refine (hfe _ hM1.old).mono ?_
  rintro e w2 ⟨rfl, hb2⟩
  have hM2 := hM1.call hb2
  clear hM1 hb2
  by_cases hfw : fewT ids ll = true
  rotate_left
  · have hff : fewT ids ll = false := by simpa using hfw
    rw [hff]
    go_wp2_with fail
    go_ret
    exact ⟨rfl, hM2.old⟩
  rw [hfw]
  go_wp2_with ((with_reducible show wpList _ _ _ (⟨some 15, _, _, _, _, _⟩ :: _) _ _); refine wpList_loadC (by kernel_rfl) 25 (.tmp 2) rfl (w.heap.size) rfl 25 sv _ (hM2.get 0 rfl) Try.underlying25 rfl Hsz.out ?_)
  refine (hck hfw _ hM2.old).mono ?_
  rintro e w3 ⟨rfl, hb3⟩
  have hM3 := hM2.call hb3
  clear hM2 hb3 hck
  rw [chkE]
  by_cases hc : chkT ids ll = true
  rotate_left
  · rw [if_neg hc]
    go_wp2_with fail
    go_ret
    exact ⟨rfl, hM3.old⟩
  rw [if_pos hc]
  clear hc
  have hin := hin hfw
  have hde := hde hfw
  have hne1 := fun wx hb Ai' ni' ci' Al' nl' cl' ids' ll' h' hn => hne1 wx hb Ai' ni' ci' Al' nl' cl' ids' ll' h' hn hfw
  clear Hfl hfe hfw
  go_wp2_with ((with_reducible show wpList _ _ _ (⟨some 21, _, _, _, _, _⟩ :: _) _ _); refine wpList_loadC (by kernel_rfl) 25 (.tmp 2) rfl (w.heap.size) rfl 25 sv _ (hM3.get 0 rfl) Try.underlying25 rfl Hsz.out ?_)
  refine (hin _ hM3.old).mono ?_
  intro e w4 hP
  obtain ⟨hb4, Ai1, ni1, ci1, Al1, nl1, cl1, ids1, ll1, rfl, hn1, hi1⟩ := hP.shape
  have hM4 := (hM3.call hb4).put 25 #[.slice none 0 0, .slice none 0 0] (shV Ai1 ni1 ci1 Al1 nl1 cl1)
  have hB4 : Below w4.heap.size w4 ((w4.alloc (.cells #[.slice none 0 0, .slice none 0 0] 25)).setRow w4.heap.size (shV Ai1 ni1 ci1 Al1 nl1 cl1)) := below_setRow ((Below.refl _ _).alloc (Nat.le_refl _) _) (Nat.le_refl _) _
  have hs1 := (hn1.sh.below hB4).more hB4.size
  have hw1 : insE ids ll id = 0 → nearI ll ll1 := fun h => by rw [(hi1 h).2]; exact insS_near h
  clear hin hM3 hB4 hn1 hi1 hP hb4
  generalize insE ids ll id = ei at *
  go_upto_region 5 with first | ((with_reducible show wpList _ _ _ (⟨some 21, _, _, _, _, _⟩ :: _) _ _); refine wpList_loadC (by kernel_rfl) 25 (.tmp 2) rfl (w.heap.size) rfl 25 sv _ (hM3.get 0 rfl) Try.underlying25 rfl Hsz.out ?_) | ((with_reducible show wpList _ _ _ (⟨none, Op.store 25 _ _, _, _, _, _⟩ :: _) _ _); refine wpList_store_row rfl 25 (.tmp 6) (.tmp 24) rfl (w4.heap.size) (shV Ai1 ni1 ci1 Al1 nl1 cl1) rfl rfl 25 _ (RowC.new _ _ _) (sizeSh _ _ _ _ _ _) rfl (one_sh _ _ _ _ _ _) ?_)
  try simp only [Act.put]
  refine wp_gen (fun wx => Ms w wx [(w4.heap.size, 25, shV Ai1 ni1 ci1 Al1 nl1 cl1), (w.heap.size, 25, sv)] ∧ ShR wx wx.heap.size Ai1 ni1 ci1 Al1 nl1 cl1 ids1 ll1) ⟨hM4, hs1⟩ ?_
  clear hM4 hs1
  rintro w5 ⟨hM5, hs5⟩
  obtain ⟨g1, hg1⟩ : ∃ g, g = w4.heap.size := ⟨_, rfl⟩
  rw [← hg1] at hM5 ⊢
  clear hg1
  go_wp2_with ((with_reducible show wpList _ _ _ (⟨some 27, _, _, _, _, _⟩ :: _) _ _); refine wpList_loadC (by kernel_rfl) 25 (.tmp 2) rfl (w.heap.size) rfl 25 sv _ (hM5.get 1 rfl) Try.underlying25 rfl Hsz.out ?_)
  refine (hde _ hM5.old).mono ?_
  intro e w6 hP
  obtain ⟨hb6, Ai2, ni2, ci2, Al2, nl2, cl2, ids2, ll2, rfl, hn2, hi2⟩ := hP.shape
  have hM6 := (hM5.call hb6).put 25 #[.slice none 0 0, .slice none 0 0] (shV Ai2 ni2 ci2 Al2 nl2 cl2)
  have hB6 : Below w6.heap.size w6 ((w6.alloc (.cells #[.slice none 0 0, .slice none 0 0] 25)).setRow w6.heap.size (shV Ai2 ni2 ci2 Al2 nl2 cl2)) := below_setRow ((Below.refl _ _).alloc (Nat.le_refl _) _) (Nat.le_refl _) _
  have hs2 := (hn2.sh.below hB6).more hB6.size
  have hs6 := (((hs5.below hb6).more hb6.size).below hB6).more hB6.size
  have hw2 : delE ids ll id = 0 → nearI ll2 ll ∧ ll2.length ≤ 1000000 ∧ ∀ l ∈ ll2, l.length ≤ 1000000 := fun h => by
    rw [(hi2 h).2]
    exact ⟨delS_near h, few_ll (few_of_chk (del_chk h).2.2)⟩
  clear hde hM5 hB6 hn2 hi2 hP hb6 hs5
  generalize delE ids ll id = di at *
  go_upto_region 6 with first | ((with_reducible show wpList _ _ _ (⟨some 27, _, _, _, _, _⟩ :: _) _ _); refine wpList_loadC (by kernel_rfl) 25 (.tmp 2) rfl (w.heap.size) rfl 25 sv _ (hM5.get 1 rfl) Try.underlying25 rfl Hsz.out ?_) | ((with_reducible show wpList _ _ _ (⟨none, Op.store 25 _ _, _, _, _, _⟩ :: _) _ _); refine wpList_store_row rfl 25 (.tmp 8) (.tmp 30) rfl (w6.heap.size) (shV Ai2 ni2 ci2 Al2 nl2 cl2) rfl rfl 25 _ (RowC.new _ _ _) (sizeSh _ _ _ _ _ _) rfl (one_sh _ _ _ _ _ _) ?_)
  try simp only [Act.put]
  refine wp_gen (fun wx => Ms w wx [(w6.heap.size, 25, shV Ai2 ni2 ci2 Al2 nl2 cl2), (g1, 25, shV Ai1 ni1 ci1 Al1 nl1 cl1), (w.heap.size, 25, sv)] ∧ ShR wx wx.heap.size Ai1 ni1 ci1 Al1 nl1 cl1 ids1 ll1 ∧ ShR wx wx.heap.size Ai2 ni2 ci2 Al2 nl2 cl2 ids2 ll2) ⟨hM6, hs6, hs2⟩ ?_
  clear hM6 hs6 hs2
  rintro w7 ⟨hM7, hs7, hs7'⟩
  obtain ⟨g2, hg2⟩ : ∃ g, g = w6.heap.size := ⟨_, rfl⟩
  rw [← hg2] at hM7 ⊢
  clear hg2
  have ha := fun hn => hne1 w7 hM7.old Ai1 ni1 ci1 Al1 nl1 cl1 ids1 ll1 hs7 hn
  have hb := fun wx (hx : Below w7.heap.size w7 wx) hn h1 h2 => hne2 wx (hM7.call hx).old Ai2 ni2 ci2 Al2 nl2 cl2 ids2 ll2 ((hs7'.below hx).more hx.size) hn h1 h2
  have Hsz1 := Lib.hid (sizeSh Ai1 ni1 ci1 Al1 nl1 cl1)
  have Hsz2 := Lib.hid (sizeSh Ai2 ni2 ci2 Al2 nl2 cl2)
  clear hne1 hne2 hs7 hs7'
  generalize shV Ai1 ni1 ci1 Al1 nl1 cl1 = sv1 at *
  generalize shV Ai2 ni2 ci2 Al2 nl2 cl2 = sv2 at *
  by_cases he : ei = 0
  · subst he
    have ha := ha (hw1 rfl)
    clear hw1
    go_wp2_with first | ((with_reducible show wpList _ _ _ (⟨some 37, _, _, _, _, _⟩ :: _) _ _); refine wpList_loadC (by kernel_rfl) 25 (.tmp 2) rfl (w.heap.size) rfl 25 sv _ (hM7.get 2 rfl) Try.underlying25 rfl Hsz.out ?_) | ((with_reducible show wpList _ _ _ (⟨some 38, _, _, _, _, _⟩ :: _) _ _); refine wpList_loadC (by kernel_rfl) 25 (.tmp 6) rfl (g1) rfl 25 sv1 _ (hM7.get 1 rfl) Try.underlying25 rfl Hsz1.out ?_)
    refine ha.mono ?_
    rintro e w8 ⟨rfl, hb8⟩
    have hM8 := hM7.call hb8
    have hb := hb w8 hb8
    clear ha hM7 hb8
    by_cases hf : di = 0
    · subst hf
      obtain ⟨k1, k2, k3⟩ := hw2 rfl
      have hb := hb k1 k2 k3
      clear hw2 k1 k2 k3
      go_wp2_with first | ((with_reducible show wpList _ _ _ (⟨some 46, _, _, _, _, _⟩ :: _) _ _); refine wpList_loadC (by kernel_rfl) 25 (.tmp 8) rfl (g2) rfl 25 sv2 _ (hM8.get 0 rfl) Try.underlying25 rfl Hsz2.out ?_) | ((with_reducible show wpList _ _ _ (⟨some 47, _, _, _, _, _⟩ :: _) _ _); refine wpList_loadC (by kernel_rfl) 25 (.tmp 2) rfl (w.heap.size) rfl 25 sv _ (hM8.get 2 rfl) Try.underlying25 rfl Hsz.out ?_)
      refine hb.mono ?_
      rintro e w9 ⟨rfl, hb9⟩
      have hw := (hM8.call hb9).old
      clear hb
      go_wp2_with fail
      go_ret
      exact ⟨rfl, hw⟩
    · clear hb hw2
      go_wp2_with fail
      go_ret
      exact ⟨rfl, hM8.old⟩
  · clear ha hw1
    have hb := hb w7 (Below.refl _ _)
    by_cases hf : di = 0
    · subst hf
      obtain ⟨k1, k2, k3⟩ := hw2 rfl
      have hb := hb k1 k2 k3
      clear hw2 k1 k2 k3
      go_wp2_with first | ((with_reducible show wpList _ _ _ (⟨some 46, _, _, _, _, _⟩ :: _) _ _); refine wpList_loadC (by kernel_rfl) 25 (.tmp 8) rfl (g2) rfl 25 sv2 _ (hM7.get 0 rfl) Try.underlying25 rfl Hsz2.out ?_) | ((with_reducible show wpList _ _ _ (⟨some 47, _, _, _, _, _⟩ :: _) _ _); refine wpList_loadC (by kernel_rfl) 25 (.tmp 2) rfl (w.heap.size) rfl 25 sv _ (hM7.get 2 rfl) Try.underlying25 rfl Hsz.out ?_)
      refine hb.mono ?_
      rintro e w9 ⟨rfl, hb9⟩
      have hw := (hM7.call hb9).old
      clear hb
      go_wp2_with fail
      go_ret
      exact ⟨rfl, hw⟩
    · clear hb hw2
      go_wp2_with fail
      go_ret
      exact ⟨rfl, hM7.old⟩

end Go.Proofs.Ytjhcnhihmgpgbaa

/-
  THE WALK of TreeBack (coterielaw10), over what the program's calls answer.
-/
set_option linter.unusedVariables false
namespace Go.Proofs.Ytjhcnhihmgpgbaa
open Go.RowKit

theorem delE_mk {ids : List Int} {ll : List (List Int)} {id : Int} (h : chkT ids ll = true) (hi : id ∈ ids) : delE ids ll id = 0 := by
  rw [delE, if_neg (by simp [h]), if_neg (by simp [isT_mem.2 hi])]
theorem insE_mk {ids : List Int} {ll : List (List Int)} {id : Int} (h : chkT ids ll = true) (h1 : 0 ≤ id) (h2 : id ≤ 1048576) (hi : id ∉ ids) (hl : ids.length < 1000) : insE ids ll id = 0 := by
  have hn : ¬ isT ids id = true := fun h => hi (isT_mem.1 h)
  rw [insE, if_neg (by simp [h]; omega), if_neg hn, if_neg (by omega)]
/-- put in, and taken out again -/
theorem back_ins {ids : List Int} {ll : List (List Int)} {id : Int} (h : insE ids ll id = 0) {ids1 : List Int} {ll1 : List (List Int)} (h1 : ids1 = (insS ids (lvN ll) id).1) (h2 : ll1 = levI (insS ids (lvN ll) id).2) :
    fewT ids1 ll1 = true ∧ delE ids1 ll1 id = 0 ∧ isT ids1 id = true ∧ (∃ h : belT ids1 id < ids1.length, ids1[belT ids1 id] = id) ∧
      ∀ ids2 ll2, ids2 = (delS ids1 (lvN ll1) id).1 → ll2 = levI (delS ids1 (lvN ll1) id).2 → ids2 = ids ∧ fewT ids2 ll2 = true ∧ chkT ids2 ll2 = true := by
  obtain ⟨c1, c2, c3⟩ := ins_chk h
  rw [← h1] at c1 c3
  rw [← h2] at c3
  obtain ⟨z1, z2, z3, z4, z5⟩ := insE_zero h
  have hr := okI_rise _ (chkT_lv z1).2.1
  have hr1 := okI_rise _ (chkT_lv c3).2.1
  have hm : id ∈ ids1 := by rw [c1, mem_insI]; exact Or.inl rfl
  have hd := delE_mk c3 hm
  refine ⟨few_of_chk c3, hd, isT_mem.2 hm, rise_bel ids1 id hr1 (isT_mem.2 hm), fun ids2 ll2 e1 e2 => ?_⟩
  obtain ⟨d1, d2, d3⟩ := del_chk hd
  rw [← e1] at d1 d3
  rw [← e2] at d3
  exact ⟨by rw [d1, c1, erase_ins hr z4], few_of_chk d3, d3⟩
/-- taken out, and put in again -/
theorem back_del {ids : List Int} {ll : List (List Int)} {id : Int} (h : delE ids ll id = 0) {ids1 : List Int} {ll1 : List (List Int)} (h1 : ids1 = (delS ids (lvN ll) id).1) (h2 : ll1 = levI (delS ids (lvN ll) id).2) :
    fewT ids1 ll1 = true ∧ insE ids1 ll1 id = 0 ∧
      ∀ ids2 ll2, ids2 = (insS ids1 (lvN ll1) id).1 → ll2 = levI (insS ids1 (lvN ll1) id).2 → ids2 = ids ∧ fewT ids2 ll2 = true ∧ chkT ids2 ll2 = true := by
  obtain ⟨c1, c2, c3⟩ := del_chk h
  rw [← h1] at c1 c3
  rw [← h2] at c3
  obtain ⟨z1, z2⟩ := delE_zero h
  have hk := chkT_lv z1
  have hr := okI_rise _ hk.2.1
  obtain ⟨m1, m2⟩ := okI_mem hk.2.1 id z2
  have hp : 0 < ids.length := List.length_pos_of_mem z2
  have hl : ids1.length < 1000 := by
    have := hk.1
    have := bel_lt hr z2
    rw [c1, List.length_eraseIdx, if_pos this]
    omega
  have hi := insE_mk c3 m1 m2 (by rw [c1, mem_erase hr z2]; exact fun h => h.2 rfl) hl
  refine ⟨few_of_chk c3, hi, fun ids2 ll2 e1 e2 => ?_⟩
  obtain ⟨d1, d2, d3⟩ := ins_chk hi
  rw [← e1] at d1 d3
  rw [← e2] at d3
  exact ⟨by rw [d1, c1, ins_erase hr z2], few_of_chk d3, d3⟩
theorem delE_six {ids : List Int} {ll : List (List Int)} {id : Int} (h : chkT ids ll = true) (hz : ¬ delE ids ll id = 0) : delE ids ll id = 6 ∧ isT ids id = false := by
  have hi : isT ids id = false := by
    by_cases hi : isT ids id = true
    · exact absurd (delE_mk h (isT_mem.1 hi)) hz
    · simpa using hi
  exact ⟨by rw [delE, if_neg (by simp [h]), if_pos hi], hi⟩
theorem len_le_max {ids : List Int} {ll : List (List Int)} (h : fewT ids ll = true) : ids.length ≤ maxLen := by
  have := (few_len h).2.1
  unfold maxLen
  omega

set_option maxRecDepth 100000 in
set_option maxHeartbeats 8000000 in
theorem walkH_TreeBack (hB : HTB) (hC : HTC) (hS : HTM) (hI : HTI) (hD : HTD) (hF : HTF) (Ai : Option Addr) (ni ci : Nat) (Al : Option Addr) (nl cl : Nat) (ids : List Int) (ll : List (List Int)) (id : Int) (w : World)
    (h : ShR w w.heap.size Ai ni ci Al nl cl ids ll) :
    Calls Try.prog 7 #[.agg (shV Ai ni ci Al nl cl), .int .i64 id] w fun e w' => e = .returned (.bool true) ∧ Below w.heap.size w w' := by
  have hM0 := (Ms.nil w).box 25 (shV Ai ni ci Al nl cl)
  have sh := fun wx (hb : Below w.heap.size w wx) => (h.below hb).more hb.size
  have hid := fun wx (hb : Below w.heap.size w wx) => (sh wx hb).hids
  have hfe := fun wx hb => FewT_any Ai ni ci Al nl cl ids ll wx (sh wx hb)
  have hck := fun (hf : fewT ids ll = true) wx hb => hC Ai ni ci Al nl cl ids ll wx (sh wx hb) hf
  have hin := fun (hf : fewT ids ll = true) wx hb => hI Ai ni ci Al nl cl ids ll id wx (sh wx hb) hf
  have hde := fun (hf : fewT ids ll = true) wx hb => hD Ai ni ci Al nl cl ids ll id wx (sh wx hb) hf
  have hfi := fun (hf : fewT ids ll = true) wx hb => hF Ai ni ci Al nl cl ids ll id wx (sh wx hb) hf
  have Hsz := Lib.hid (sizeSh Ai ni ci Al nl cl)
  have hsc := fun wx g (hR : RowC wx g 25 (shV Ai ni ci Al nl cl)) => hR.cell (i := 0) (v := .slice Ai ni ci) rfl
  clear sh h
  generalize hsv : shV Ai ni ci Al nl cl = sv at *
  clear hsv
  go_enter Try.func7, Try.ntmps7
  go_wp2_with fail
  refine (live10 hB hC hS _).mono ?_
  rintro e w1 ⟨rfl, hb1⟩
  have hM1 := hM0.call hb1
  clear hM0 hb1
  go_wp2_with ((with_reducible show wpList _ _ _ (⟨some 19, _, _, _, _, _⟩ :: _) _ _); refine wpList_loadC (by kernel_rfl) 25 (.tmp 2) rfl (w.heap.size) rfl 25 sv _ (hM1.get 0 rfl) Try.underlying25 rfl Hsz.out ?_)
  refine (hfe _ hM1.old).mono ?_
  rintro e w2 ⟨rfl, hb2⟩
  have hM2 := hM1.call hb2
  clear hM1 hb2
  by_cases hfw : fewT ids ll = true
  rotate_left
  · have hff : fewT ids ll = false := by simpa using hfw
    rw [hff]
    go_wp2_with fail
    go_ret
    exact ⟨rfl, hM2.old⟩
  rw [hfw]
  go_wp2_with ((with_reducible show wpList _ _ _ (⟨some 23, _, _, _, _, _⟩ :: _) _ _); refine wpList_loadC (by kernel_rfl) 25 (.tmp 2) rfl (w.heap.size) rfl 25 sv _ (hM2.get 0 rfl) Try.underlying25 rfl Hsz.out ?_)
  refine (hck hfw _ hM2.old).mono ?_
  rintro e w3 ⟨rfl, hb3⟩
  have hM3 := hM2.call hb3
  clear hM2 hb3 hck
  rw [chkE]
  by_cases hc : chkT ids ll = true
  rotate_left
  · rw [if_neg hc]
    go_wp2_with fail
    go_ret
    exact ⟨rfl, hM3.old⟩
  rw [if_pos hc]
  have Hc := Lib.hid hc
  clear hc
  have hin := hin hfw
  have hde := hde hfw
  have hfi := hfi hfw
  have Hln := Lib.hid (len_le_max hfw)
  clear hfe hfw
  go_wp2_with ((with_reducible show wpList _ _ _ (⟨some 29, _, _, _, _, _⟩ :: _) _ _); refine wpList_loadC (by kernel_rfl) 25 (.tmp 2) rfl (w.heap.size) rfl 25 sv _ (hM3.get 0 rfl) Try.underlying25 rfl Hsz.out ?_)
  refine (hin _ hM3.old).mono ?_
  intro e w4 hP
  obtain ⟨hb4, Ai1, ni1, ci1, Al1, nl1, cl1, ids1, ll1, rfl, hn1, hi1⟩ := hP.shape
  have hM4 := (hM3.call hb4).put 25 #[.slice none 0 0, .slice none 0 0] (shV Ai1 ni1 ci1 Al1 nl1 cl1)
  have hB4 : Below w4.heap.size w4 ((w4.alloc (.cells #[.slice none 0 0, .slice none 0 0] 25)).setRow w4.heap.size (shV Ai1 ni1 ci1 Al1 nl1 cl1)) := below_setRow ((Below.refl _ _).alloc (Nat.le_refl _) _) (Nat.le_refl _) _
  have hs1 := (hn1.sh.below hB4).more hB4.size
  have hw1 := fun h : insE ids ll id = 0 => back_ins h (hi1 h).1 (hi1 h).2
  clear hin hM3 hB4 hn1 hi1 hP hb4
  generalize insE ids ll id = ei at *
  go_upto_region 5 with first | ((with_reducible show wpList _ _ _ (⟨some 29, _, _, _, _, _⟩ :: _) _ _); refine wpList_loadC (by kernel_rfl) 25 (.tmp 2) rfl (w.heap.size) rfl 25 sv _ (hM3.get 0 rfl) Try.underlying25 rfl Hsz.out ?_) | ((with_reducible show wpList _ _ _ (⟨none, Op.store 25 _ _, _, _, _, _⟩ :: _) _ _); refine wpList_store_row rfl 25 (.tmp 6) (.tmp 32) rfl (w4.heap.size) (shV Ai1 ni1 ci1 Al1 nl1 cl1) rfl rfl 25 _ (RowC.new _ _ _) (sizeSh _ _ _ _ _ _) rfl (one_sh _ _ _ _ _ _) ?_)
  try simp only [Act.put]
  refine wp_gen (fun wx => Ms w wx [(w4.heap.size, 25, shV Ai1 ni1 ci1 Al1 nl1 cl1), (w.heap.size, 25, sv)] ∧ ShR wx wx.heap.size Ai1 ni1 ci1 Al1 nl1 cl1 ids1 ll1) ⟨hM4, hs1⟩ ?_
  clear hM4 hs1
  rintro w5 ⟨hM5, hs5⟩
  obtain ⟨g1, hg1⟩ : ∃ g, g = w4.heap.size := ⟨_, rfl⟩
  rw [← hg1] at hM5 ⊢
  clear hg1
  by_cases he : ei = 0
  rotate_left
  · clear hw1 hs5
    have hMt := hM5.subT (L' := [(w.heap.size, 25, sv)]) (by simp)
    clear hM5
    go_upto_region 12 with fail
    try simp only [Act.put]
    refine wp_gen (fun wx => Ms w wx [(w.heap.size, 25, sv)]) hMt ?_
    clear hMt
    intro u1 hU1
    have hde := hde u1 hU1.old
    go_wp2_with ((with_reducible show wpList _ _ _ (⟨some 82, _, _, _, _, _⟩ :: _) _ _); refine wpList_loadC (by kernel_rfl) 25 (.tmp 2) rfl (w.heap.size) rfl 25 sv _ (hU1.get 0 rfl) Try.underlying25 rfl Hsz.out ?_)
    refine hde.mono ?_
    intro e u2 hP
    obtain ⟨hb2, Ai3, ni3, ci3, Al3, nl3, cl3, ids3, ll3, rfl, hn3, hi3⟩ := hP.shape
    have hU2 := (hU1.call hb2).put 25 #[.slice none 0 0, .slice none 0 0] (shV Ai3 ni3 ci3 Al3 nl3 cl3)
    have hB2 : Below u2.heap.size u2 ((u2.alloc (.cells #[.slice none 0 0, .slice none 0 0] 25)).setRow u2.heap.size (shV Ai3 ni3 ci3 Al3 nl3 cl3)) := below_setRow ((Below.refl _ _).alloc (Nat.le_refl _) _) (Nat.le_refl _) _
    have hs3 := (hn3.sh.below hB2).more hB2.size
    have hw3 := fun h : delE ids ll id = 0 => back_del h (hi3 h).1 (hi3 h).2
    have hw6 := fun h => delE_six (id := id) Hc.out h
    clear hde hU1 hB2 hn3 hi3 hP hb2
    generalize delE ids ll id = gi at *
    go_upto_region 13 with first | ((with_reducible show wpList _ _ _ (⟨some 82, _, _, _, _, _⟩ :: _) _ _); refine wpList_loadC (by kernel_rfl) 25 (.tmp 2) rfl (w.heap.size) rfl 25 sv _ (hU1.get 0 rfl) Try.underlying25 rfl Hsz.out ?_) | ((with_reducible show wpList _ _ _ (⟨none, Op.store 25 _ _, _, _, _, _⟩ :: _) _ _); refine wpList_store_row rfl 25 (.tmp 12) (.tmp 85) rfl (u2.heap.size) (shV Ai3 ni3 ci3 Al3 nl3 cl3) rfl rfl 25 _ (RowC.new _ _ _) (sizeSh _ _ _ _ _ _) rfl (one_sh _ _ _ _ _ _) ?_)
    try simp only [Act.put]
    refine wp_gen (fun wx => Ms w wx [(u2.heap.size, 25, shV Ai3 ni3 ci3 Al3 nl3 cl3), (w.heap.size, 25, sv)] ∧ ShR wx wx.heap.size Ai3 ni3 ci3 Al3 nl3 cl3 ids3 ll3) ⟨hU2, hs3⟩ ?_
    clear hU2 hs3
    rintro u3 ⟨hU3, hs3⟩
    obtain ⟨g3, hg3⟩ : ∃ g, g = u2.heap.size := ⟨_, rfl⟩
    rw [← hg3] at hU3 ⊢
    clear hg3
    by_cases hg : gi = 0
    rotate_left
    · obtain ⟨rfl, ht⟩ := hw6 hg
      have hfi := hfi u3 hU3.old
      rw [ht] at hfi
      clear hw3 hw6 hg hs3
      go_wp2_with ((with_reducible show wpList _ _ _ (⟨some 90, _, _, _, _, _⟩ :: _) _ _); refine wpList_loadC (by kernel_rfl) 25 (.tmp 2) rfl (w.heap.size) rfl 25 sv _ (hU3.get 1 rfl) Try.underlying25 rfl Hsz.out ?_)
      refine hfi.mono ?_
      rintro e u4 ⟨rfl, hb4⟩
      have hw := (hU3.call hb4).old
      clear hfi
      go_wp2_with fail
      go_ret
      exact ⟨rfl, hw⟩
    · subst hg
      obtain ⟨f1, f2, f6⟩ := hw3 rfl
      have h3i := hI Ai3 ni3 ci3 Al3 nl3 cl3 ids3 ll3 id u3 hs3 f1
      have Hsz3 := Lib.hid (sizeSh Ai3 ni3 ci3 Al3 nl3 cl3)
      clear hw3 hw6 hs3 f1
      generalize shV Ai3 ni3 ci3 Al3 nl3 cl3 = sv3 at *
      go_wp2_with ((with_reducible show wpList _ _ _ (⟨some 105, _, _, _, _, _⟩ :: _) _ _); refine wpList_loadC (by kernel_rfl) 25 (.tmp 12) rfl (g3) rfl 25 sv3 _ (hU3.get 0 rfl) Try.underlying25 rfl Hsz3.out ?_)
      refine h3i.mono ?_
      intro e u4 hP
      obtain ⟨hb4, Ai4, ni4, ci4, Al4, nl4, cl4, ids4, ll4, rfl, hn4, hi4⟩ := hP.shape
      rw [f2] at hi4 ⊢
      obtain ⟨e1, e2⟩ := hi4 rfl
      obtain ⟨hk0, k2, k3⟩ := f6 ids4 ll4 e1 e2
      clear e1
      subst ids4
      have hU4 := ((hU3.call hb4).put 25 #[.slice none 0 0, .slice none 0 0] (shV Ai4 ni4 ci4 Al4 nl4 cl4)).subT (L' := [(u4.heap.size, 25, shV Ai4 ni4 ci4 Al4 nl4 cl4), (w.heap.size, 25, sv)]) (by simp)
      have hB4 : Below u4.heap.size u4 ((u4.alloc (.cells #[.slice none 0 0, .slice none 0 0] 25)).setRow u4.heap.size (shV Ai4 ni4 ci4 Al4 nl4 cl4)) := below_setRow ((Below.refl _ _).alloc (Nat.le_refl _) _) (Nat.le_refl _) _
      have hs4 := (hn4.sh.below hB4).more hB4.size
      clear h3i hU3 hB4 hn4 hi4 hP hb4 e2 f6
      go_upto_region 17 with first | ((with_reducible show wpList _ _ _ (⟨some 105, _, _, _, _, _⟩ :: _) _ _); refine wpList_loadC (by kernel_rfl) 25 (.tmp 12) rfl (g3) rfl 25 sv3 _ (hU3.get 0 rfl) Try.underlying25 rfl Hsz3.out ?_) | ((with_reducible show wpList _ _ _ (⟨none, Op.store 25 _ _, _, _, _, _⟩ :: _) _ _); refine wpList_store_row rfl 25 (.tmp 16) (.tmp 108) rfl (u4.heap.size) (shV Ai4 ni4 ci4 Al4 nl4 cl4) rfl rfl 25 _ (RowC.new _ _ _) (sizeSh _ _ _ _ _ _) rfl (one_sh _ _ _ _ _ _) ?_)
      try simp only [Act.put]
      refine wp_gen (fun wx => Ms w wx [(u4.heap.size, 25, shV Ai4 ni4 ci4 Al4 nl4 cl4), (w.heap.size, 25, sv)] ∧ ShR wx wx.heap.size Ai4 ni4 ci4 Al4 nl4 cl4 ids ll4) ⟨hU4, hs4⟩ ?_
      clear hU4 hs4
      rintro u5 ⟨hU5, hs5⟩
      obtain ⟨g4, hg4⟩ : ∃ g, g = u4.heap.size := ⟨_, rfl⟩
      rw [← hg4] at hU5 ⊢
      clear hg4
      have hsm := SameInts_any Ai4 Ai ni4 ci4 ni ci ids ids u5 (Nat.le_trans hs5.hci hs5.hmi) hs5.hids (hid _ hU5.old)
      simp only [beq_self_eq_true] at hsm
      have hc4 := fun wx (hx : Below u5.heap.size u5 wx) => hC Ai4 ni4 ci4 Al4 nl4 cl4 ids ll4 wx ((hs5.below hx).more hx.size) k2
      rw [chkE, if_pos k3] at hc4
      have q4 := (hU5.get 0 rfl).cell (i := 0) (v := .slice Ai4 ni4 ci4) rfl
      have q0 := hsc _ _ (hU5.get 1 rfl)
      have Hsz4 := Lib.hid (sizeSh Ai4 ni4 ci4 Al4 nl4 cl4)
      clear hs5 k2 k3
      generalize shV Ai4 ni4 ci4 Al4 nl4 cl4 = sv4 at *
      go_wp2_with fail
      refine hsm.mono ?_
      rintro e u6 ⟨rfl, hb6⟩
      have hU6 := hU5.call hb6
      have hc4 := hc4 u6 hb6
      clear hsm hU5 q4 q0 hb6
      go_wp2_with ((with_reducible show wpList _ _ _ (⟨some 123, _, _, _, _, _⟩ :: _) _ _); refine wpList_loadC (by kernel_rfl) 25 (.tmp 16) rfl (g4) rfl 25 sv4 _ (hU6.get 0 rfl) Try.underlying25 rfl Hsz4.out ?_)
      refine hc4.mono ?_
      rintro e u7 ⟨rfl, hb7⟩
      have hw := (hU6.call hb7).old
      clear hc4
      go_wp2_with fail
      go_ret
      exact ⟨rfl, hw⟩
  · subst he
    obtain ⟨f1, f2, f3, ⟨f4, f5⟩, f6⟩ := hw1 rfl
    clear hw1
    have h1d := hD Ai1 ni1 ci1 Al1 nl1 cl1 ids1 ll1 id w5 hs5 f1
    have h1f := fun wx (hx : Below w5.heap.size w5 wx) => hF Ai1 ni1 ci1 Al1 nl1 cl1 ids1 ll1 id wx ((hs5.below hx).more hx.size) f1
    have h1s := hs5.hids
    have Hn1 := Lib.hid hs5.hni
    have h1c := hs5.hci
    have h1m := hs5.hmi
    have hsc1 := fun wx (hR : RowC wx g1 25 (shV Ai1 ni1 ci1 Al1 nl1 cl1)) => hR.cell (i := 0) (v := .slice Ai1 ni1 ci1) rfl
    have Hsz1 := Lib.hid (sizeSh Ai1 ni1 ci1 Al1 nl1 cl1)
    clear hs5 f1
    generalize shV Ai1 ni1 ci1 Al1 nl1 cl1 = sv1 at *
    go_wp2_with ((with_reducible show wpList _ _ _ (⟨some 37, _, _, _, _, _⟩ :: _) _ _); refine wpList_loadC (by kernel_rfl) 25 (.tmp 6) rfl (g1) rfl 25 sv1 _ (hM5.get 0 rfl) Try.underlying25 rfl Hsz1.out ?_)
    refine h1d.mono ?_
    intro e w6 hP
    obtain ⟨hb6, Ai2, ni2, ci2, Al2, nl2, cl2, ids2, ll2, rfl, hn2, hi2⟩ := hP.shape
    rw [f2] at hi2 ⊢
    obtain ⟨e1, e2⟩ := hi2 rfl
    obtain ⟨hk0, k2, k3⟩ := f6 ids2 ll2 e1 e2
    clear e1
    subst ids2
    have hM6 := (hM5.call hb6).put 25 #[.slice none 0 0, .slice none 0 0] (shV Ai2 ni2 ci2 Al2 nl2 cl2)
    have hB6 : Below w6.heap.size w6 ((w6.alloc (.cells #[.slice none 0 0, .slice none 0 0] 25)).setRow w6.heap.size (shV Ai2 ni2 ci2 Al2 nl2 cl2)) := below_setRow ((Below.refl _ _).alloc (Nat.le_refl _) _) (Nat.le_refl _) _
    have hs2 := (hn2.sh.below hB6).more hB6.size
    have hb56 := hb6.trans (hB6.mono hb6.size)
    clear h1d hM5 hB6 hn2 hi2 hP hb6 e2 f6
    go_upto_region 7 with first | ((with_reducible show wpList _ _ _ (⟨some 37, _, _, _, _, _⟩ :: _) _ _); refine wpList_loadC (by kernel_rfl) 25 (.tmp 6) rfl (g1) rfl 25 sv1 _ (hM5.get 0 rfl) Try.underlying25 rfl Hsz1.out ?_) | ((with_reducible show wpList _ _ _ (⟨none, Op.store 25 _ _, _, _, _, _⟩ :: _) _ _); refine wpList_store_row rfl 25 (.tmp 8) (.tmp 40) rfl (w6.heap.size) (shV Ai2 ni2 ci2 Al2 nl2 cl2) rfl rfl 25 _ (RowC.new _ _ _) (sizeSh _ _ _ _ _ _) rfl (one_sh _ _ _ _ _ _) ?_)
    try simp only [Act.put]
    refine wp_gen (fun wx => Below w5.heap.size w5 wx ∧ Ms w wx [(w6.heap.size, 25, shV Ai2 ni2 ci2 Al2 nl2 cl2), (g1, 25, sv1), (w.heap.size, 25, sv)] ∧ ShR wx wx.heap.size Ai2 ni2 ci2 Al2 nl2 cl2 ids ll2) ⟨hb56, hM6, hs2⟩ ?_
    clear hM6 hs2 hb56
    rintro w7 ⟨hb57, hM7, hs7⟩
    obtain ⟨g2, hg2⟩ : ∃ g, g = w6.heap.size := ⟨_, rfl⟩
    rw [← hg2] at hM7 ⊢
    clear hg2
    have hsm := SameInts_any Ai2 Ai ni2 ci2 ni ci ids ids w7 (Nat.le_trans hs7.hci hs7.hmi) hs7.hids (hid _ hM7.old)
    simp only [beq_self_eq_true] at hsm
    have hc2 := fun wx (hx : Below w7.heap.size w7 wx) => hC Ai2 ni2 ci2 Al2 nl2 cl2 ids ll2 wx ((hs7.below hx).more hx.size) k2
    rw [chkE, if_pos k3] at hc2
    have q2 := (hM7.get 0 rfl).cell (i := 0) (v := .slice Ai2 ni2 ci2) rfl
    have q0 := hsc _ _ (hM7.get 2 rfl)
    have Hsz2 := Lib.hid (sizeSh Ai2 ni2 ci2 Al2 nl2 cl2)
    clear hs7 k2 k3
    generalize shV Ai2 ni2 ci2 Al2 nl2 cl2 = sv2 at *
    go_wp2_with fail
    refine hsm.mono ?_
    rintro e w8 ⟨rfl, hb8⟩
    have hM8 := hM7.call hb8
    have hb58 := hb57.trans (hb8.mono hb57.size)
    have hc2 := hc2 w8 hb8
    clear hsm hM7 q2 q0 hb57 hb8
    go_wp2_with ((with_reducible show wpList _ _ _ (⟨some 53, _, _, _, _, _⟩ :: _) _ _); refine wpList_loadC (by kernel_rfl) 25 (.tmp 8) rfl (g2) rfl 25 sv2 _ (hM8.get 0 rfl) Try.underlying25 rfl Hsz2.out ?_)
    refine hc2.mono ?_
    rintro e w9 ⟨rfl, hb9⟩
    have hM9 := hM8.call hb9
    have hb59 := hb58.trans (hb9.mono hb58.size)
    have h1f := h1f w9 hb59
    clear hc2 hM8 hb9 hb58
    go_wp2_with ((with_reducible show wpList _ _ _ (⟨some 58, _, _, _, _, _⟩ :: _) _ _); refine wpList_loadC (by kernel_rfl) 25 (.tmp 6) rfl (g1) rfl 25 sv1 _ (hM9.get 1 rfl) Try.underlying25 rfl Hsz1.out ?_)
    refine h1f.mono ?_
    rintro e w10 ⟨rfl, hb10⟩
    have hM10 := hM9.call hb10
    have hb510 := hb59.trans (hb10.mono hb59.size)
    rw [f3]
    clear h1f hM9 hb10 hb59 f3
    have q1 := hsc1 _ (hM10.get 1 rfl)
    obtain ⟨g, o, rfl, hg, hcell⟩ := (h1s.below hb510).pos (by have := Hn1.out; omega)
    have c1 := hcell (belT ids1 id) _ (by rw [List.getElem?_map, List.getElem?_eq_getElem f4, f5]; rfl)
    rw [iv] at c1
    rw [Hn1.out] at f4
    clear hcell f5 h1s hb510
    rw [maxLen] at h1m
    generalize belT ids1 id = bt at *
    have b0 : (0 : Int) ≤ (bt : Int) := by omega
    have b1 : (bt : Int) < (ni1 : Int) := by omega
    have b2 : ¬ (ni1 : Int) ≤ (bt : Int) := by omega
    have hMt := hM10.subT (L' := [(w.heap.size, 25, sv)]) (by simp)
    clear hM10
    go_upto_region 12 with fail
    try simp only [Act.put]
    clear q1 c1 b0 b1 b2 f4 h1m h1c
    refine wp_gen (fun wx => Ms w wx [(w.heap.size, 25, sv)]) hMt ?_
    clear hMt
    intro u1 hU1
    have hde := hde u1 hU1.old
    go_wp2_with ((with_reducible show wpList _ _ _ (⟨some 82, _, _, _, _, _⟩ :: _) _ _); refine wpList_loadC (by kernel_rfl) 25 (.tmp 2) rfl (w.heap.size) rfl 25 sv _ (hU1.get 0 rfl) Try.underlying25 rfl Hsz.out ?_)
    refine hde.mono ?_
    intro e u2 hP
    obtain ⟨hb2, Ai3, ni3, ci3, Al3, nl3, cl3, ids3, ll3, rfl, hn3, hi3⟩ := hP.shape
    have hU2 := (hU1.call hb2).put 25 #[.slice none 0 0, .slice none 0 0] (shV Ai3 ni3 ci3 Al3 nl3 cl3)
    have hB2 : Below u2.heap.size u2 ((u2.alloc (.cells #[.slice none 0 0, .slice none 0 0] 25)).setRow u2.heap.size (shV Ai3 ni3 ci3 Al3 nl3 cl3)) := below_setRow ((Below.refl _ _).alloc (Nat.le_refl _) _) (Nat.le_refl _) _
    have hs3 := (hn3.sh.below hB2).more hB2.size
    have hw3 := fun h : delE ids ll id = 0 => back_del h (hi3 h).1 (hi3 h).2
    have hw6 := fun h => delE_six (id := id) Hc.out h
    clear hde hU1 hB2 hn3 hi3 hP hb2
    generalize delE ids ll id = gi at *
    go_upto_region 13 with first | ((with_reducible show wpList _ _ _ (⟨some 82, _, _, _, _, _⟩ :: _) _ _); refine wpList_loadC (by kernel_rfl) 25 (.tmp 2) rfl (w.heap.size) rfl 25 sv _ (hU1.get 0 rfl) Try.underlying25 rfl Hsz.out ?_) | ((with_reducible show wpList _ _ _ (⟨none, Op.store 25 _ _, _, _, _, _⟩ :: _) _ _); refine wpList_store_row rfl 25 (.tmp 12) (.tmp 85) rfl (u2.heap.size) (shV Ai3 ni3 ci3 Al3 nl3 cl3) rfl rfl 25 _ (RowC.new _ _ _) (sizeSh _ _ _ _ _ _) rfl (one_sh _ _ _ _ _ _) ?_)
    try simp only [Act.put]
    refine wp_gen (fun wx => Ms w wx [(u2.heap.size, 25, shV Ai3 ni3 ci3 Al3 nl3 cl3), (w.heap.size, 25, sv)] ∧ ShR wx wx.heap.size Ai3 ni3 ci3 Al3 nl3 cl3 ids3 ll3) ⟨hU2, hs3⟩ ?_
    clear hU2 hs3
    rintro u3 ⟨hU3, hs3⟩
    obtain ⟨g3, hg3⟩ : ∃ g, g = u2.heap.size := ⟨_, rfl⟩
    rw [← hg3] at hU3 ⊢
    clear hg3
    by_cases hg : gi = 0
    rotate_left
    · obtain ⟨rfl, ht⟩ := hw6 hg
      have hfi := hfi u3 hU3.old
      rw [ht] at hfi
      clear hw3 hw6 hg hs3
      go_wp2_with ((with_reducible show wpList _ _ _ (⟨some 90, _, _, _, _, _⟩ :: _) _ _); refine wpList_loadC (by kernel_rfl) 25 (.tmp 2) rfl (w.heap.size) rfl 25 sv _ (hU3.get 1 rfl) Try.underlying25 rfl Hsz.out ?_)
      refine hfi.mono ?_
      rintro e u4 ⟨rfl, hb4⟩
      have hw := (hU3.call hb4).old
      clear hfi
      go_wp2_with fail
      go_ret
      exact ⟨rfl, hw⟩
    · subst hg
      obtain ⟨f1, f2, f6⟩ := hw3 rfl
      have h3i := hI Ai3 ni3 ci3 Al3 nl3 cl3 ids3 ll3 id u3 hs3 f1
      have Hsz3 := Lib.hid (sizeSh Ai3 ni3 ci3 Al3 nl3 cl3)
      clear hw3 hw6 hs3 f1
      generalize shV Ai3 ni3 ci3 Al3 nl3 cl3 = sv3 at *
      go_wp2_with ((with_reducible show wpList _ _ _ (⟨some 105, _, _, _, _, _⟩ :: _) _ _); refine wpList_loadC (by kernel_rfl) 25 (.tmp 12) rfl (g3) rfl 25 sv3 _ (hU3.get 0 rfl) Try.underlying25 rfl Hsz3.out ?_)
      refine h3i.mono ?_
      intro e u4 hP
      obtain ⟨hb4, Ai4, ni4, ci4, Al4, nl4, cl4, ids4, ll4, rfl, hn4, hi4⟩ := hP.shape
      rw [f2] at hi4 ⊢
      obtain ⟨e1, e2⟩ := hi4 rfl
      obtain ⟨hk0, k2, k3⟩ := f6 ids4 ll4 e1 e2
      clear e1
      subst ids4
      have hU4 := ((hU3.call hb4).put 25 #[.slice none 0 0, .slice none 0 0] (shV Ai4 ni4 ci4 Al4 nl4 cl4)).subT (L' := [(u4.heap.size, 25, shV Ai4 ni4 ci4 Al4 nl4 cl4), (w.heap.size, 25, sv)]) (by simp)
      have hB4 : Below u4.heap.size u4 ((u4.alloc (.cells #[.slice none 0 0, .slice none 0 0] 25)).setRow u4.heap.size (shV Ai4 ni4 ci4 Al4 nl4 cl4)) := below_setRow ((Below.refl _ _).alloc (Nat.le_refl _) _) (Nat.le_refl _) _
      have hs4 := (hn4.sh.below hB4).more hB4.size
      clear h3i hU3 hB4 hn4 hi4 hP hb4 e2 f6
      go_upto_region 17 with first | ((with_reducible show wpList _ _ _ (⟨some 105, _, _, _, _, _⟩ :: _) _ _); refine wpList_loadC (by kernel_rfl) 25 (.tmp 12) rfl (g3) rfl 25 sv3 _ (hU3.get 0 rfl) Try.underlying25 rfl Hsz3.out ?_) | ((with_reducible show wpList _ _ _ (⟨none, Op.store 25 _ _, _, _, _, _⟩ :: _) _ _); refine wpList_store_row rfl 25 (.tmp 16) (.tmp 108) rfl (u4.heap.size) (shV Ai4 ni4 ci4 Al4 nl4 cl4) rfl rfl 25 _ (RowC.new _ _ _) (sizeSh _ _ _ _ _ _) rfl (one_sh _ _ _ _ _ _) ?_)
      try simp only [Act.put]
      refine wp_gen (fun wx => Ms w wx [(u4.heap.size, 25, shV Ai4 ni4 ci4 Al4 nl4 cl4), (w.heap.size, 25, sv)] ∧ ShR wx wx.heap.size Ai4 ni4 ci4 Al4 nl4 cl4 ids ll4) ⟨hU4, hs4⟩ ?_
      clear hU4 hs4
      rintro u5 ⟨hU5, hs5⟩
      obtain ⟨g4, hg4⟩ : ∃ g, g = u4.heap.size := ⟨_, rfl⟩
      rw [← hg4] at hU5 ⊢
      clear hg4
      have hsm := SameInts_any Ai4 Ai ni4 ci4 ni ci ids ids u5 (Nat.le_trans hs5.hci hs5.hmi) hs5.hids (hid _ hU5.old)
      simp only [beq_self_eq_true] at hsm
      have hc4 := fun wx (hx : Below u5.heap.size u5 wx) => hC Ai4 ni4 ci4 Al4 nl4 cl4 ids ll4 wx ((hs5.below hx).more hx.size) k2
      rw [chkE, if_pos k3] at hc4
      have q4 := (hU5.get 0 rfl).cell (i := 0) (v := .slice Ai4 ni4 ci4) rfl
      have q0 := hsc _ _ (hU5.get 1 rfl)
      have Hsz4 := Lib.hid (sizeSh Ai4 ni4 ci4 Al4 nl4 cl4)
      clear hs5 k2 k3
      generalize shV Ai4 ni4 ci4 Al4 nl4 cl4 = sv4 at *
      go_wp2_with fail
      refine hsm.mono ?_
      rintro e u6 ⟨rfl, hb6⟩
      have hU6 := hU5.call hb6
      have hc4 := hc4 u6 hb6
      clear hsm hU5 q4 q0 hb6
      go_wp2_with ((with_reducible show wpList _ _ _ (⟨some 123, _, _, _, _, _⟩ :: _) _ _); refine wpList_loadC (by kernel_rfl) 25 (.tmp 16) rfl (g4) rfl 25 sv4 _ (hU6.get 0 rfl) Try.underlying25 rfl Hsz4.out ?_)
      refine hc4.mono ?_
      rintro e u7 ⟨rfl, hb7⟩
      have hw := (hU6.call hb7).old
      clear hc4
      go_wp2_with fail
      go_ret
      exact ⟨rfl, hw⟩

end Go.Proofs.Ytjhcnhihmgpgbaa

