import Derived.Test.YtmganbdbihjbmaaG20
import Derived.Test.YtmganbdbihjbmaaG17
import Derived.Test.YtmganbdbihjbmaaG19
/-
  CONTRACT of the program's put (tree): one member more, in rows of the call's own. Printed by gen_treeput.py.
-/
set_option linter.unusedVariables false
namespace Go.Proofs.Ytmganbdbihjbmaa
open Go.RowKit

theorem sh_ne : (25 : TypeId) ≠ 3 ∧ (25 : TypeId) ≠ 22 := by decide
theorem lv_nilT {many : Nat} {lv : List (List Nat)} (h : lvOK many lv) (hm : many ≤ 1) : lv = [] := by
  match lv, h with
  | [], _ => rfl
  | l :: ls, h => have := h.1; omega
theorem drop_set_self {α : Type} : ∀ {l : List α} {j : Nat} {x : α}, j < l.length → (l.set j x).drop j = x :: l.drop (j + 1)
  | y :: l, 0, x, _ => rfl
  | y :: l, j + 1, x, h => drop_set_self (l := l) (by simpa using h)
/-- what put leaves -/
def PutPost (base : Nat) (w : World) (ids : List Int) (lv : List (List Nat)) (e : Ending) (w' : World) : Prop :=
  Below base w w' ∧ ∃ Ai ni ci Al nl cl vs, e = .returned (.agg (shV Ai ni ci Al nl cl)) ∧ OwW base w' (.slice Ai ni ci) (.slice Al nl cl) vs vs ids (levI lv)

set_option maxRecDepth 100000 in
set_option maxHeartbeats 8000000 in
theorem PPut_any (base : Nat) (Ai : Option Addr) (ni ci : Nat) (Al : Option Addr) (nl cl : Nat) (vs : List Value) (ids : List Int) (lv : List (List Nat)) (id : Int) (w : World) (hb : base ≤ w.heap.size) (hn6 : ids.length ≤ 1000) (hnl : lv.length ≤ 20)
    (hp : ids.Pairwise (· < ·)) (hok : lvOK ids.length lv) (h : OwW base w (.slice Ai ni ci) (.slice Al nl cl) vs vs ids (levI lv)) :
    Calls Try.prog 45 #[.agg (shV Ai ni ci Al nl cl), .int .i64 id] w (PutPost base w (insS ids lv id).1 (insS ids lv id).2) := by
  obtain ⟨i0, hi0, hz0, hz1, hz2⟩ := info_parts intInfo
  obtain ⟨i1, hi1, hy0, hy1, hy2⟩ := info_parts listInfo
  have Hpost := Lib.hid (show ∀ Ai ni ci Al nl cl vs w', Below base w w' → OwW base w' (.slice Ai ni ci) (.slice Al nl cl) vs vs (insS ids lv id).1 (levI (insS ids lv id).2) → PutPost base w (insS ids lv id).1 (insS ids lv id).2 (.returned (.agg (shV Ai ni ci Al nl cl))) w' from fun _ _ _ _ _ _ _ _ h1 h2 => ⟨h1, _, _, _, _, _, _, _, rfl, h2⟩)
  generalize PutPost base w (insS ids lv id).1 (insS ids lv id).2 = PO at *
  have hM0 := MsB.of (((Ms.nil w).box 25 (shV Ai ni ci Al nl cl)).box 25 #[.slice none 0 0, .slice none 0 0]) hb
  simp only [World.size_alloc] at hM0
  have h0 := (h.quiet (d_al w (.cells (shV Ai ni ci Al nl cl) 25))).quiet (d_al _ (.cells #[.slice none 0 0, .slice none 0 0] 25))
  have hs0 : ((w.alloc (.cells (shV Ai ni ci Al nl cl) 25)).alloc (.cells #[.slice none 0 0, .slice none 0 0] 25)).heap.size = w.heap.size + 1 + 1 := by simp
  obtain ⟨Ac, cc, ec, hcc, hmm⟩ := own_formT h.i
  injection ec with e1 e2 e3
  subst e1 e2 e3
  clear h
  go_enter Try.func45, Try.ntmps45
  go_upto_region 1 with fail
  try simp only [Act.put]
  obtain ⟨gB, hgB⟩ : ∃ g, g = w.heap.size := ⟨_, rfl⟩
  rw [← hgB] at hM0 hs0 hb ⊢
  refine wp_gen (fun wx => MsB base w wx [(gB, 25, shV Ai ids.length ci Al nl cl), (gB + 1, 25, #[.slice none 0 0, .slice none 0 0])] ∧ OwW base wx (.slice Ai ids.length ci) (.slice Al nl cl) vs vs ids (levI lv) ∧ gB + 1 + 1 = wx.heap.size) ⟨⟨hM0.old, fun p hp => hM0.rows p (by simp only [List.mem_cons, List.not_mem_nil, or_false] at hp ⊢; rcases hp with rfl | rfl <;> simp)⟩, h0, hs0.symm⟩ ?_
  clear hM0 h0 hs0 hgB
  rintro w1 ⟨hM1, h1, hs1⟩
  have kb0 := (hM1.get 0 rfl).cell (i := 0) (v := .slice Ai ids.length ci) rfl
  have hsr := Search_any Ai ids.length ci ids id w1 hcc hmm (by omega) hp (Rd.of_own h1.i)
  have Hbl := Lib.hid (belT_le ids id)
  have Hi1 := Lib.hid (show (insS ids lv id).1 = ids.take (belT ids id) ++ id :: ids.drop (belT ids id) by
    rw [insS]
    split
    · rename_i h0; subst h0; simp [belT]
    · rfl)
  have Hi2 := Lib.hid (show ids ≠ [] → (insS ids lv id).2 = insL lv (belT ids id - 1) from fun hne => by rw [insS, if_neg hne])
  have Hi0 := Lib.hid (show ids = [] → (insS ids lv id).2 = [] from fun hne => by rw [insS, if_pos hne])
  generalize belT ids id = p at *
  generalize isT ids id = ti at *
  generalize insS ids lv id = R at *
  obtain ⟨m, hm⟩ : ∃ m, m = ids.length + 1 := ⟨_, rfl⟩
  have Hm := Lib.hid hm
  have hm2 : m ≤ 1001 := by omega
  obtain ⟨n, hn⟩ : ∃ n, n = ids.length := ⟨_, rfl⟩
  have Hn := Lib.hid hn
  rw [← hn] at hsr kb0 hM1 h1 hcc
  have hi1 := h1.i
  rw [← hn] at hi1
  rw [← hn] at Hbl hm
  clear hn
  go_wp2_with fail
  refine hsr.mono ?_
  rintro e w1 ⟨rfl, rfl⟩
  go_upto_region 2 with fail
  try simp only [Act.put]
  clear hsr
  have hal := d_al w1 (.cells #[.int .i64 id] 3)
  have hMa := hM1.call hal (by omega)
  have ha := h1.quiet hal
  have hia := own_below hi1 hal
  have hrv : RowC (w1.alloc (.cells #[.int .i64 id] 3)) w1.heap.size 3 #[.int .i64 id] := RowC.new _ _ _
  have hza : (w1.alloc (.cells #[.int .i64 id] 3)).heap.size = w1.heap.size + 1 := by simp
  have hins := InsI_any base Ai n ci p w1.heap.size (.int .i64 id) (ids.map iv) _ (by have := Hn.out; omega) Hbl.out rfl (one_iv _) (by omega) hia hrv (fun ad e => by
    subst e
    have := own_ltT hi1 ad.block rfl
    omega)
  rw [← hm] at hins
  have Hmn := Lib.hid hm
  clear hm
  go_wp2_with fail
  refine hins.mono ?_
  rintro e w2 hpost2
  obtain ⟨A2, c2, rfl, h2, hgr2⟩ := ha.insIds Hm.out hpost2
  have hM2 := hMa.turn hgr2 (by omega) (fun g hg => by
    obtain ⟨cs, hr⟩ := own_tyT hia hg
    exact ⟨own_blockT hia g hg, _, cs, hr, fun q hq => by simp at hq; rcases hq with rfl | rfl <;> exact sh_ne.1.symm⟩)
  clear hpost2 hins hMa ha hia hrv hM1 h1 hi1 kb0 hgr2
  have kc := (hM2.get 0 rfl).cell (i := 0) (v := .slice Ai n ci) rfl
  have kf := (hM2.get 0 rfl).frozen 0
  go_upto_region 3 with fail
  try simp only [Act.put]
  have hM3 := hM2.set (by omega) (fun q hq => by simp at hq; subst hq; simp) 0 (.slice A2 m c2)
  rw [show (shV Ai n ci Al nl cl).setIfInBounds 0 (.slice A2 m c2) = #[.slice A2 m c2, .slice Al nl cl] from rfl] at hM3
  have h3 := h2.far (grown_setCell w2 gB 0 (.slice A2 m c2)) (hM2.get 0 rfl) sh_ne.1 sh_ne.2
  refine wp_gen (fun wx => MsB base w wx [(gB, 25, #[.slice A2 m c2, .slice Al nl cl]), (gB + 1, 25, #[.slice none 0 0, .slice none 0 0])] ∧ OwW base wx (.slice A2 m c2) (.slice Al nl cl) vs vs R.1 (levI lv) ∧ gB + 1 + 1 ≤ wx.heap.size) ⟨hM3, by rw [Hi1.out]; exact h3, (hM3.get 1 rfl).lt⟩ ?_
  clear hM3 h3 hM2 h2 kc kf hs1 hza
  rintro w3 ⟨hM3, h3, hs3⟩
  have k0 := (hM3.get 0 rfl).cell (i := 0) (v := .slice A2 m c2) rfl
  by_cases hm1 : m < 2
  · have hz : ids = [] := List.eq_nil_of_length_eq_zero (by have := Hm.out; omega)
    have hlv0 := lv_nilT hok (by have := Hm.out; omega)
    have hlt : (m : Int) < 2 := by omega
    have Hfin := Lib.hid (show R.2 = lv by rw [Hi0.out hz, hlv0])
    clear hz hlv0
    go_wp2_with (first
      | ((with_reducible show wpList _ _ _ (⟨some 27, _, _, _, _, _⟩ :: _) _ _); refine wpList_loadC (by kernel_rfl) 25 (.tmp 2) rfl gB rfl 25 #[.slice A2 m c2, .slice Al nl cl] _ (hM3.get 0 rfl) Try.underlying25 rfl shapeInfo2 ?_)
      | ((with_reducible show wpList _ _ _ (⟨none, Op.store 25 _ _, _, _, _, _⟩ :: _) _ _); refine wpList_store_row rfl 25 (.tmp 4) (.tmp 27) rfl (gB + 1) #[.slice A2 m c2, .slice Al nl cl] rfl rfl 25 _ (hM3.get 1 rfl) shapeInfo2 rfl (by simp [Value.oneCell']) ?_))
    try simp only [Act.put]
    have hR9 := (hM3.get 1 rfl).row #[.slice A2 m c2, .slice Al nl cl]
    have hw9 := h3.far (grown_setRow _ (gB + 1) #[.slice A2 m c2, .slice Al nl cl]) (hM3.get 1 rfl) sh_ne.1 sh_ne.2
    have hb9 := below_setRow hM3.old (show base ≤ (gB + 1) by omega) #[.slice A2 m c2, .slice Al nl cl]
    rw [← Hfin.out] at hw9
    refine bodyPost_ret (results_cell_one rfl _ _ (gB + 1) _ #[.slice A2 m c2, .slice Al nl cl] _ rfl hR9 Try.underlying25 rfl shapeInfo2) rfl (Hpost.out _ _ _ _ _ _ _ _ hb9 hw9)

  have hge : ¬ (m : Int) < 2 := by omega
  have hne : ids ≠ [] := fun e => by have := Hm.out; rw [e] at this; simp at this; omega
  have Hfin := Lib.hid (Hi2.out hne)
  clear hne
  by_cases hm2' : m = 2
  · have hlv0 := lv_nilT hok (by have := Hm.out; omega)
    have Hf2 := Lib.hid (show R.2 = [[2]] by rw [Hfin.out, hlv0]; rfl)
    have heq : ((m : Int) == 2) = true := by rw [hm2']; rfl
    rw [hlv0] at h3
    have h4 := OwW.first (h3 : OwW base w3 (.slice A2 m c2) (.slice Al nl cl) vs vs R.1 []) (by omega)
    clear hm2' hlv0
    have b1 := d_al w3 (.cells #[.int .i64 2] 3)
    have b2 := d_al (w3.alloc (.cells #[.int .i64 2] 3)) (.cells #[.slice (some ⟨w3.heap.size, 0, none⟩) 1 1] 22)
    have hM4 := (hM3.call b1 (by omega)).call b2 (by simp; omega)
    have kc := (hM4.get 0 rfl).cell (i := 1) (v := .slice Al nl cl) rfl
    have kf := (hM4.get 0 rfl).frozen 1
    go_upto_region 7 with fail
    try simp only [Act.put]
    have hM5 := hM4.set (by omega) (fun q hq => by simp at hq; subst hq; simp) 1 (.slice (some ⟨w3.heap.size + 1, 0, none⟩) 1 1)
    rw [show (#[.slice A2 m c2, .slice Al nl cl] : Array Value).setIfInBounds 1 (.slice (some ⟨w3.heap.size + 1, 0, none⟩) 1 1) = #[.slice A2 m c2, .slice (some ⟨w3.heap.size + 1, 0, none⟩) 1 1] from rfl] at hM5
    have h5 := h4.far (grown_setCell _ gB 1 (.slice (some ⟨w3.heap.size + 1, 0, none⟩) 1 1)) (hM4.get 0 rfl) sh_ne.1 sh_ne.2
    obtain ⟨q2, hq2⟩ : ∃ q, q = w3.heap.size + 1 := ⟨_, rfl⟩
    rw [← hq2] at hM5 h5 ⊢
    refine wp_gen (fun wx => MsB base w wx [(gB, 25, #[.slice A2 m c2, .slice (some ⟨q2, 0, none⟩) 1 1]), (gB + 1, 25, #[.slice none 0 0, .slice none 0 0])] ∧ OwW base wx (.slice A2 m c2) (.slice (some ⟨q2, 0, none⟩) 1 1) _ _ R.1 [[2]]) ⟨hM5, h5⟩ ?_
    clear hM5 h5 hM4 h4 kc kf b1 b2 hM3 h3 hq2 k0
    rintro w5 ⟨hM5, h5⟩
    go_wp2_with (first
      | ((with_reducible show wpList _ _ _ (⟨some 35, _, _, _, _, _⟩ :: _) _ _); refine wpList_loadC (by kernel_rfl) 25 (.tmp 2) rfl gB rfl 25 #[.slice A2 m c2, .slice (some ⟨q2, 0, none⟩) 1 1] _ (hM5.get 0 rfl) Try.underlying25 rfl shapeInfo2 ?_)
      | ((with_reducible show wpList _ _ _ (⟨none, Op.store 25 _ _, _, _, _, _⟩ :: _) _ _); refine wpList_store_row rfl 25 (.tmp 4) (.tmp 35) rfl (gB + 1) #[.slice A2 m c2, .slice (some ⟨q2, 0, none⟩) 1 1] rfl rfl 25 _ (hM5.get 1 rfl) shapeInfo2 rfl (by simp [Value.oneCell']) ?_))
    try simp only [Act.put]
    have hR9 := (hM5.get 1 rfl).row #[.slice A2 m c2, .slice (some ⟨q2, 0, none⟩) 1 1]
    have hw9 := h5.far (grown_setRow _ (gB + 1) #[.slice A2 m c2, .slice (some ⟨q2, 0, none⟩) 1 1]) (hM5.get 1 rfl) sh_ne.1 sh_ne.2
    have hb9 := below_setRow hM5.old (show base ≤ (gB + 1) by omega) #[.slice A2 m c2, .slice (some ⟨q2, 0, none⟩) 1 1]
    rw [show ([[2]] : List (List Int)) = levI R.2 by rw [Hf2.out]; rfl] at hw9
    refine bodyPost_ret (results_cell_one rfl _ _ (gB + 1) _ #[.slice A2 m c2, .slice (some ⟨q2, 0, none⟩) 1 1] _ rfl hR9 Try.underlying25 rfl shapeInfo2) rfl (Hpost.out _ _ _ _ _ _ _ _ hb9 hw9)

  have hne2 : ¬ (m : Int) = 2 := by omega
  have hge3 : 3 ≤ m := by omega
  have hpw : IntKind.i64.wrap ((p : Int) - 1) = (p : Int) - 1 := by have := Hbl.out; have := Hn.out; rw [IntKind.wrap_i64]; omega
  have hmx : max ((p : Int) - 1) 0 = ((p - 1 : Nat) : Int) := by omega
  have Hnl := Lib.hid (show nl = lv.length by
    have := h3.l
    rw [levI_lenX] at this
    obtain ⟨_, _, e, _⟩ := own_formT this
    injection e with _ e2)
  have hnl20 : nl ≤ 20 := by rw [Hnl.out]; exact hnl
  have Hb0 := Lib.hid (show p - 1 < ids.length ∧ ids.length ≤ 1000 by have := Hbl.out; have := Hn.out; have := Hm.out; omega)
  have k1 := (hM3.get 0 rfl).cell (i := 1) (v := .slice Al nl cl) rfl
  clear hne2 hm2'
  go_wp2_with fail
  go_loopw [5, 42] (fun a i wr => ∃ (k b many : Nat) (done : List (List Nat)) (vs' : List Value), k ≤ nl ∧ i = .int .i64 (k : Int) ∧ a = .int .i64 (b : Int) ∧ b < many ∧ many ≤ 1000 ∧ lvOK many (lv.drop k) ∧ R.2 = done ++ insL (lv.drop k) b ∧ done.length = k ∧
    OwW base wr (.slice A2 m c2) (.slice Al nl cl) vs' vs' R.1 (levI (done ++ lv.drop k)) ∧ MsB base w wr [(gB, 25, #[.slice A2 m c2, .slice Al nl cl]), (gB + 1, 25, #[.slice none 0 0, .slice none 0 0])] ∧ gB + 1 + 1 ≤ wr.heap.size) (fun _ i _ => nl - (intOf i).toNat)
  case atStart => exact ⟨0, p - 1, ids.length, [], vs, by omega, rfl, rfl, Hb0.out.1, Hb0.out.2, hok, Hfin.out, rfl, h3, hM3, hs3⟩
  case round =>
    clear hM3 h3 k0 k1 hmx hpw hs3
    obtain ⟨k, b, many, done, vs', hk, rfl, rfl, hbm, hm1000, hlo, hR, hdl, h4, hM4, hs4⟩ := hrel
    have HR := Lib.hid hR
    have Hdl := Lib.hid hdl
    have Hlo := Lib.hid hlo
    clear hR hdl hlo
    by_cases hlt : k < nl
    · have hkl : k < lv.length := by rw [← Hnl.out]; exact hlt
      obtain ⟨l, hl⟩ : ∃ l, lv[k]? = some l := ⟨_, List.getElem?_eq_getElem hkl⟩
      have hd : lv.drop k = l :: lv.drop (k + 1) := by rw [List.drop_eq_getElem_cons hkl, (List.getElem?_eq_some_iff.1 hl).2]
      have hX : (done ++ lv.drop k)[k]? = some l := by rw [List.getElem?_append_right (by have := Hdl.out; omega), Hdl.out, Nat.sub_self, hd]; rfl
      have hlo2 := Hlo.out
      rw [hd] at hlo2
      obtain ⟨o1, o2, o3, o4⟩ := hlo2
      obtain ⟨g1, g2, g3⟩ := grpT_spec l b (by omega)
      have hlm := (two3_len o2).1
      obtain ⟨gl, g, c, rfl, hnl', hcl1, hcl2, hc, hm, hv, hcell, hown, hgg⟩ := h4.lvl hX (by omega)
      have HX := Lib.hid hX
      have Hv := Lib.hid hv
      have HR2 := Lib.hid (show R.2 = done ++ (if l[grpT l b]? = some 2 then l.set (grpT l b) 3 :: lv.drop (k + 1) else splitT l (grpT l b) :: insL (lv.drop (k + 1)) (grpT l b)) by rw [HR.out, hd, insL_cons])
      have Hset := Lib.hid (fun (y : List Nat) => show (done ++ lv.drop k).set k y = done ++ y :: lv.drop (k + 1) by
        rw [List.set_append_right _ _ (by have := Hdl.out; omega), Hdl.out, Nat.sub_self, hd, List.set_cons_zero])
      have hgo := PGroupOf_any (some ⟨g, 0, none⟩) l.length c (castL l) b wr hc hm (by omega) (by omega) (in23_mk o2) (Rd.of_own hown)
      rw [natL_cast] at hgo
      have h23 := two3_get o2 g1
      have Ho4 := Lib.hid o4
      have hlen1 : l.length ≤ 1000 := by omega
      clear hX hv hl hd g2 g3 o3 o4 hlm hnl' o2
      generalize grpT l b = j at *
      obtain ⟨hc1, hf1⟩ := lvl_cell hown g1
      have hjl : (j : Int) < (l.length : Int) := by omega
      have hget : l[j]? = some l[j] := List.getElem?_eq_getElem g1
      have kl := (hM4.get 0 rfl).cell (i := 1) (v := .slice (some ⟨gl, 0, none⟩) nl cl) rfl
      obtain ⟨crow, hgrow, _⟩ := own_rowT hown
      have hgb : base ≤ g := own_blockT hown g rfl
      generalize hxx : l[j] = x at *
      clear hxx
      rcases h23 with rfl | rfl
      · have Hf := Lib.hid (show R.2 = done ++ (l.set j 3 :: lv.drop (k + 1)) by rw [HR2.out, if_pos hget])
        clear hget
        go_wp2_with fail
        refine hgo.mono ?_
        rintro e wr ⟨rfl, rfl⟩
        go_upto_region 14 with fail
        try simp only [Act.put]
        have h5 : OwW base (wr.setCell ⟨g, j, none⟩ (.int .i64 3)) (.slice A2 m c2) (.slice (some ⟨gl, 0, none⟩) nl cl) vs' vs' R.1 (levI ((done ++ lv.drop k).set k (l.set j 3))) := h4.num HX.out Hv.out j 3
        rw [Hset.out, ← Hf.out] at h5
        have hM5 := hM4.turn (grown_setCell wr g j (.int .i64 3)) (by omega) (fun q hq => by injection hq with hq; subst hq; exact ⟨hgb, _, _, hgrow, fun q hq => by simp at hq; rcases hq with rfl | rfl <;> exact sh_ne.1.symm⟩)
        have hcc5 : (wr.setCell ⟨g, j, none⟩ (.int .i64 3)).cell? ⟨g, j, none⟩ = some (.int .i64 3) := World.cell?_setCell_same _ _ _ hc1
        refine wp_gen (fun wx => MsB base w wx [(gB, 25, #[.slice A2 m c2, .slice (some ⟨gl, 0, none⟩) nl cl]), (gB + 1, 25, #[.slice none 0 0, .slice none 0 0])] ∧ OwW base wx (.slice A2 m c2) (.slice (some ⟨gl, 0, none⟩) nl cl) vs' vs' R.1 (levI R.2) ∧ wx.cell? ⟨g, j, none⟩ = some (.int .i64 3)) ⟨hM5, h5, hcc5⟩ ?_
        clear hM5 h5 hcc5 hM4 h4 hcell hown hc1 hf1 kl hgo hgrow
        rintro w5 ⟨hM5, h5, hcc5⟩
        go_wp2_with (first
          | ((with_reducible show wpList _ _ _ (⟨some 61, _, _, _, _, _⟩ :: _) _ _); refine wpList_loadC (by kernel_rfl) 25 (.tmp 2) rfl gB rfl 25 #[.slice A2 m c2, .slice (some ⟨gl, 0, none⟩) nl cl] _ (hM5.get 0 rfl) Try.underlying25 rfl shapeInfo2 ?_)
          | ((with_reducible show wpList _ _ _ (⟨none, Op.store 25 _ _, _, _, _, _⟩ :: _) _ _); refine wpList_store_row rfl 25 (.tmp 4) (.tmp 61) rfl (gB + 1) #[.slice A2 m c2, .slice (some ⟨gl, 0, none⟩) nl cl] rfl rfl 25 _ (hM5.get 1 rfl) shapeInfo2 rfl (by simp [Value.oneCell']) ?_))
        try simp only [Act.put]
        have hR9 := (hM5.get 1 rfl).row #[.slice A2 m c2, .slice (some ⟨gl, 0, none⟩) nl cl]
        have hw9 := h5.far (grown_setRow _ (gB + 1) #[.slice A2 m c2, .slice (some ⟨gl, 0, none⟩) nl cl]) (hM5.get 1 rfl) sh_ne.1 sh_ne.2
        have hb9 := below_setRow hM5.old (show base ≤ (gB + 1) by omega) #[.slice A2 m c2, .slice (some ⟨gl, 0, none⟩) nl cl]
        refine bodyPost_ret (results_cell_one rfl _ _ (gB + 1) _ #[.slice A2 m c2, .slice (some ⟨gl, 0, none⟩) nl cl] _ rfl hR9 Try.underlying25 rfl shapeInfo2) rfl (Hpost.out _ _ _ _ _ _ _ _ hb9 hw9)

      have Hf := Lib.hid (show R.2 = done ++ (splitT l j :: insL (lv.drop (k + 1)) j) by rw [HR2.out, if_neg (by rw [hget]; simp)])
      clear hget
      go_wp2_with fail
      refine hgo.mono ?_
      rintro e wr ⟨rfl, rfl⟩
      go_upto_region 14 with fail
      try simp only [Act.put]
      have h5 : OwW base (wr.setCell ⟨g, j, none⟩ (.int .i64 4)) (.slice A2 m c2) (.slice (some ⟨gl, 0, none⟩) nl cl) vs' vs' R.1 (levI ((done ++ lv.drop k).set k (l.set j 4))) := h4.num HX.out Hv.out j 4
      have hM5 := hM4.turn (grown_setCell wr g j (.int .i64 4)) (by omega) (fun q hq => by injection hq with hq; subst hq; exact ⟨hgb, _, _, hgrow, fun q hq => by simp at hq; rcases hq with rfl | rfl <;> exact sh_ne.1.symm⟩)
      have hcc5 : (wr.setCell ⟨g, j, none⟩ (.int .i64 4)).cell? ⟨g, j, none⟩ = some (.int .i64 4) := World.cell?_setCell_same _ _ _ hc1
      have hgrow5 := hgrow.set_ j (.int .i64 4)
      have hs5 : gB + 1 + 1 ≤ (wr.setCell ⟨g, j, none⟩ (.int .i64 4)).heap.size := by simp; exact hs4
      refine wp_gen (fun wx => MsB base w wx [(gB, 25, #[.slice A2 m c2, .slice (some ⟨gl, 0, none⟩) nl cl]), (gB + 1, 25, #[.slice none 0 0, .slice none 0 0])] ∧ OwW base wx (.slice A2 m c2) (.slice (some ⟨gl, 0, none⟩) nl cl) vs' vs' R.1 (levI ((done ++ lv.drop k).set k (l.set j 4))) ∧ wx.cell? ⟨g, j, none⟩ = some (.int .i64 4) ∧ RowC wx g 3 (crow.setIfInBounds j (.int .i64 4)) ∧ gB + 1 + 1 ≤ wx.heap.size) ⟨hM5, h5, hcc5, hgrow5, hs5⟩ ?_
      clear hM5 h5 hcc5 hM4 h4 hcell hown hc1 hf1 kl hgo hgrow hgrow5 hs5 hs4
      rintro w5 ⟨hM5, h5, hcc5, hgrow5, hs5⟩
      have hf5 := hgrow5.frozen j
      go_upto_region 17 with fail
      try simp only [Act.put]
      have hX5 : ((done ++ lv.drop k).set k (l.set j 4))[k]? = some (l.set j 4) := List.getElem?_set_self (List.getElem?_eq_some_iff.1 HX.out).1
      have hv5 : vs'[k]? = some (.slice (some ⟨g, 0, none⟩) (l.set j 4).length c) := by rw [List.length_set]; exact Hv.out
      have h6 : OwW base (w5.setCell ⟨g, j, none⟩ (.int .i64 2)) (.slice A2 m c2) (.slice (some ⟨gl, 0, none⟩) nl cl) vs' vs' R.1 (levI (((done ++ lv.drop k).set k (l.set j 4)).set k ((l.set j 4).set j 2))) := h5.num hX5 hv5 j 2
      rw [List.set_set, List.set_set] at h6
      have hM6 := hM5.turn (grown_setCell w5 g j (.int .i64 2)) (by omega) (fun q hq => by injection hq with hq; subst hq; exact ⟨hgb, _, _, hgrow5, fun q hq => by simp at hq; rcases hq with rfl | rfl <;> exact sh_ne.1.symm⟩)
      have hs6 : gB + 1 + 1 ≤ (w5.setCell ⟨g, j, none⟩ (.int .i64 2)).heap.size := by simp; exact hs5
      refine wp_gen (fun wx => MsB base w wx [(gB, 25, #[.slice A2 m c2, .slice (some ⟨gl, 0, none⟩) nl cl]), (gB + 1, 25, #[.slice none 0 0, .slice none 0 0])] ∧ OwW base wx (.slice A2 m c2) (.slice (some ⟨gl, 0, none⟩) nl cl) vs' vs' R.1 (levI ((done ++ lv.drop k).set k (l.set j 2))) ∧ gB + 1 + 1 ≤ wx.heap.size) ⟨hM6, h6, hs6⟩ ?_
      clear hM6 h6 hs6 hM5 h5 hcc5 hf5 hgrow5 hs5 hX5 hv5
      rintro w6 ⟨hM6, h6, hs6⟩
      have hkeep : ∀ wx : World, Below w6.heap.size w6 wx → wx.cell? ⟨gB, 1, none⟩ = some (.slice (some ⟨gl, 0, none⟩) nl cl) := fun wx hb => ((hM6.get 0 rfl).call hb).cell rfl
      refine beginT (fun wx => wx.cell? ⟨gB, 1, none⟩ = some (.slice (some ⟨gl, 0, none⟩) nl cl)) 8 (by kernel_rfl) ?_
      have hS := hkeep _ (c_drew (c_refl _))
      refine takeD 0 (some 65) (.pointer (some ⟨gB, 1, none⟩)) rfl rfl (by kernel_rfl) (by kernel_rfl) (by kernel_rfl) (by kernel_rfl) (fun _ _ _ h => h) (Or.inl ⟨by kernel_rfl, fun wx hSw => by have h := hSw; go_simp⟩) hS ?_
      simp only [Act.put, List.setIfInBounds_toArray, List.set_cons_zero, List.set_cons_succ]
      refine takeD 1 (some 66) (.slice (some ⟨gl, 0, none⟩) nl cl) rfl rfl (by kernel_rfl) (by kernel_rfl) (by kernel_rfl) (by kernel_rfl) (fun _ _ _ h => h) (Or.inl ⟨by kernel_rfl, fun wx hSw => by have h := hSw; go_simp⟩) hS ?_
      simp only [Act.put, List.setIfInBounds_toArray, List.set_cons_zero, List.set_cons_succ]
      refine takeD 2 (some 67) (.int .i64 (k : Int)) rfl rfl (by kernel_rfl) (by kernel_rfl) (by kernel_rfl) (by kernel_rfl) (fun _ _ _ h => h) (Or.inl ⟨by kernel_rfl, fun wx hSw => by have h := hSw; go_simp⟩) hS ?_
      simp only [Act.put, List.setIfInBounds_toArray, List.set_cons_zero, List.set_cons_succ]
      refine takeD 3 (some 68) (.slice (some ⟨g, 0, none⟩) l.length c) rfl rfl (by kernel_rfl) (by kernel_rfl) (by kernel_rfl) (by kernel_rfl) (fun _ _ _ h => h) (Or.inl ⟨by kernel_rfl, fun wx hSw => by have h := hSw; go_simp⟩) hS ?_
      simp only [Act.put, List.setIfInBounds_toArray, List.set_cons_zero, List.set_cons_succ]
      refine takeD 4 (some 69) (.int .i64 (j : Int)) rfl rfl (by kernel_rfl) (by kernel_rfl) (by kernel_rfl) (by kernel_rfl) (fun _ _ _ h => h) (Or.inl ⟨by kernel_rfl, fun wx hSw => by have h := hSw; go_simp⟩) hS ?_
      simp only [Act.put, List.setIfInBounds_toArray, List.set_cons_zero, List.set_cons_succ]
      have hx0 : Below w6.heap.size w6 w6.drew := c_drew (c_refl _)
      have h60 := h6.quiet hx0
      have hM60 := hM6.call hx0 (by omega)
      have hs60 : gB + 1 + 1 ≤ w6.drew.heap.size := hs6
      generalize w6.drew = x0 at *
      have hal := d_al x0 (.cells #[.int .i64 2] 3)
      have hrv : RowC (x0.alloc (.cells #[.int .i64 2] 3)) x0.heap.size 3 #[.int .i64 2] := RowC.new _ _ _
      have hz1' : (x0.alloc (.cells #[.int .i64 2] 3)).heap.size = x0.heap.size + 1 := by simp
      have hx1 := c_call hx0 hal
      have h61 := h60.quiet hal
      have hM61 := hM60.call hal (by omega)
      have hX6 : ((done ++ lv.drop k).set k (l.set j 2))[k]? = some (l.set j 2) := List.getElem?_set_self (List.getElem?_eq_some_iff.1 HX.out).1
      have hv6 : vs'[k]? = some (.slice (some ⟨g, 0, none⟩) (l.set j 2).length c) := by rw [List.length_set]; exact Hv.out
      have hgvb : x0.heap.size ≠ g := by
        have h0 := h60.r k _ _ hv6 (levI_get hX6)
        have := own_ltT h0 g rfl
        omega
      refine oneT 5 (by kernel_rfl) rfl (fun K hK => ?_)
      go_simp
      refine hK.out _ _ (fun _ => hkeep _ hx1) ?_
      clear hK K
      generalize x0.alloc (.cells #[.int .i64 2] 3) = x1 at *
      generalize x0.heap.size = vb at *
      have hr6 := h61.r k _ _ hv6 (levI_get hX6)
      rw [castL_len, List.length_set] at hr6
      have hins := InsI_any base (some ⟨g, 0, none⟩) l.length c j vb (.int .i64 2) ((castL (l.set j 2)).map iv) x1 (by omega) (Nat.le_of_lt g1) rfl (one_iv _) (by omega) hr6 hrv (fun ad e => by injection e with e; subst e; exact hgvb)
      refine oneT 6 (by kernel_rfl) rfl (fun K hK => ?_)
      go_simp
      refine hins.mono ?_
      rintro e x2 hpost
      obtain ⟨A7, c7, rfl, h7, hgr7⟩ := h61.ins hX6 hv6 (by rw [List.length_set]) hpost
      have hM7 := hM61.turn hgr7 (by omega) (fun q hq => by
        injection hq with hq
        subst hq
        obtain ⟨cs, hr⟩ := own_tyT hr6 (g := g) rfl
        exact ⟨hgb, _, cs, hr, fun q hq => by simp at hq; rcases hq with rfl | rfl <;> exact sh_ne.1.symm⟩)
      have kx : x2.cell? ⟨gB, 1, none⟩ = some (.slice (some ⟨gl, 0, none⟩) nl cl) := (hM7.get 0 rfl).cell rfl
      refine hK.out _ _ (fun _ => kx) ?_
      clear hK K
      try simp only [Act.put, List.setIfInBounds_toArray, List.set_cons_zero, List.set_cons_succ]
      have hlX : nl = (((done ++ lv.drop k).set k (l.set j 2)).set k ((l.set j 2).take j ++ 2 :: (l.set j 2).drop j)).length := by
        rw [List.length_set, List.length_set, List.length_append, List.length_drop, Hdl.out, Hnl.out]; have := Hnl.out; omega
      have hl7 := h7.l
      rw [levI_lenX, ← hlX] at hl7
      have hkv : k < vs'.length := (List.getElem?_eq_some_iff.1 Hv.out).1
      have kl : x2.cell? ⟨gl, k, none⟩ = vs'[k]? := hl7.cellAt k (by omega)
      rw [Hv.out] at kl
      have fl : x2.frozen? ⟨gl, k, none⟩ = false := hl7.frozenAt k
      have h8 := h7.storeL hlX rfl
      have hgb2 : base ≤ gl := own_blockT hl7 gl rfl
      have hM8 := hM7.turn (grown_setCell x2 gl k (.slice A7 (l.length + 1) c7)) (by have := hM7.old.size; have := hgr7.size; omega) (fun q hq => by
        injection hq with hq
        subst hq
        obtain ⟨cs, hr⟩ := own_tyT hl7 (g := gl) rfl
        exact ⟨hgb2, _, cs, hr, fun q hq => by simp at hq; rcases hq with rfl | rfl <;> exact sh_ne.2.symm⟩)
      have hs8 : gB + 1 + 1 ≤ (x2.setCell ⟨gl, k, none⟩ (.slice A7 (l.length + 1) c7)).heap.size := by have := hgr7.size; simp; omega
      have hsp : (l.set j 2).take j ++ 2 :: (l.set j 2).drop j = splitT l j := by
        rw [splitT, List.take_set_of_le (Nat.le_refl _), drop_set_self g1]
      rw [hsp, List.set_set, Hset.out, show done ++ splitT l j :: lv.drop (k + 1) = (done ++ [splitT l j]) ++ lv.drop (k + 1) by simp] at h8
      have hlti : (k : Int) < (nl : Int) := by omega
      have hnc : l.length + 1 ≤ c7 + (l.length + 1) := by omega
      clear hgr7 hpost hins h61 hM61 h60 hM60 hr6 hrv hx1 hx0 hal hkeep h7 hM7 hl7 hsp hlX hS h6 hM6
      refine takeD 7 (some 72) (.pointer (some ⟨gl, k, none⟩)) rfl rfl (by kernel_rfl) (by kernel_rfl) (by kernel_rfl) (by kernel_rfl) (fun _ _ _ h => h) (Or.inl ⟨by kernel_rfl, fun wx hSw => by go_simp⟩) kx ?_
      simp only [Act.put, List.setIfInBounds_toArray, List.set_cons_zero, List.set_cons_succ]
      refine oneT 8 (by kernel_rfl) rfl (fun K hK => ?_)
      go_simp
      refine hK.out _ _ (fun h => absurd rfl h) ?_
      clear hK K
      refine doneT (by kernel_rfl) ?_ _
      go_wp2_with fail
      go_roundw
      case rel => exact ⟨k + 1, j, l.length, done ++ [splitT l j], _, by omega, by go_num, rfl, g1, hlen1, Ho4.out, by rw [Hf.out]; simp, by simp [Hdl.out], h8, hM8, hs8⟩
      case measure => simp [intOf]; omega
    · obtain rfl : k = nl := by omega
      have hdn : lv.drop k = [] := List.drop_of_length_le (by rw [← Hnl.out]; exact Nat.le_refl _)
      rw [hdn, List.append_nil] at h4
      have Hf3 := Lib.hid (show R.2 = done ++ [[2]] by rw [HR.out, hdn]; rfl)
      clear hdn
      have k1 := (hM4.get 0 rfl).cell (i := 1) (v := .slice Al k cl) rfl
      have hll := h4.l
      rw [levI_lenX, Hdl.out] at hll
      have b1 := d_al wr (.cells #[.int .i64 2] 3)
      have b2 := d_al (wr.alloc (.cells #[.int .i64 2] 3)) (.cells #[.slice (some ⟨wr.heap.size, 0, none⟩) 1 1] 22)
      have z1 : (wr.alloc (.cells #[.int .i64 2] 3)).heap.size = wr.heap.size + 1 := by simp
      have z2 : ((wr.alloc (.cells #[.int .i64 2] 3)).alloc (.cells #[.slice (some ⟨wr.heap.size, 0, none⟩) 1 1] 22)).heap.size = wr.heap.size + 1 + 1 := by simp
      have hMa := (hM4.call b1 (by omega)).call b2 (by omega)
      have hoa := own_below (own_below hll b1) b2
      have hua := own_below (own_two wr base (by omega)) b2
      have hone : ∀ u ∈ [Value.slice (some ⟨wr.heap.size, 0, none⟩) 1 1], u.oneCell' = true := by intro u hu; simp at hu; subst hu; rfl
      go_upto_region 20 with (at_builtin; refine wpList_append_rd _ rfl (.tmp 75) (.tmp 77) _ rfl base 22 i1 _ 24 Try.underlying23 hi1 hy0 hy1 hy2 rfl (.slice Al k cl) k vs' rfl hoa (wr.heap.size + 1 + 1) (some ⟨wr.heap.size + 1, 0, none⟩) 1 1 [.slice (some ⟨wr.heap.size, 0, none⟩) 1 1] rfl (Rd.mk_ _ _ _ z1 (by omega) rfl rfl) hone (by simp only [maxLen]; omega) (by omega) (by omega) ?_; intro v5 w5 hown5 hgr5 hat5; obtain ⟨A5, c5, rfl, _, _⟩ := own_formT hown5; have hM5 := hMa.turn hgr5 (by omega) (fun g hg => by
        obtain ⟨cs, hr⟩ := own_tyT hoa hg
        exact ⟨own_blockT hoa g hg, _, cs, hr, fun q hq => by simp at hq; rcases hq with rfl | rfl <;> exact sh_ne.2.symm⟩); have kc := (hM5.get 0 rfl).cell (i := 1) (v := .slice Al k cl) rfl; have kf := (hM5.get 0 rfl).frozen 1)
      try simp only [Act.put]
      have h5 := h4.snoc (u := .slice (some ⟨wr.heap.size, 0, none⟩) 1 1) (vL' := .slice A5 (k + 1) c5) (l := [2]) (c_call b1 b2) hua (fun q hq => by simp [Value.ownBlock] at hq; omega) hgr5 (by rw [levI_lenX, Hdl.out]; exact hown5)
      have hM6 := hM5.set (by omega) (fun q hq => by simp at hq; subst hq; simp) 1 (.slice A5 (k + 1) c5)
      rw [show (#[.slice A2 m c2, .slice Al k cl] : Array Value).setIfInBounds 1 (.slice A5 (k + 1) c5) = #[.slice A2 m c2, .slice A5 (k + 1) c5] from rfl] at hM6
      have h6 := h5.far (grown_setCell _ gB 1 (.slice A5 (k + 1) c5)) (hM5.get 0 rfl) sh_ne.1 sh_ne.2
      rw [show levI done ++ [[2]] = levI R.2 by rw [Hf3.out]; simp [levI]] at h6
      generalize hus : vs' ++ [Value.slice (some ⟨wr.heap.size, 0, none⟩) 1 1] = us at h6
      refine wp_gen (fun wx => MsB base w wx [(gB, 25, #[.slice A2 m c2, .slice A5 (k + 1) c5]), (gB + 1, 25, #[.slice none 0 0, .slice none 0 0])] ∧ OwW base wx (.slice A2 m c2) (.slice A5 (k + 1) c5) us us R.1 (levI R.2)) ⟨hM6, h6⟩ ?_
      clear hM6 h6 hM5 h5 hMa hoa hua hone hown5 hgr5 hat5 kc kf hM4 h4 hll k1 b1 b2 z1 z2 hus
      rintro w7 ⟨hM7, h7⟩
      go_wp2_with (first
        | ((with_reducible show wpList _ _ _ (⟨some 80, _, _, _, _, _⟩ :: _) _ _); refine wpList_loadC (by kernel_rfl) 25 (.tmp 2) rfl gB rfl 25 #[.slice A2 m c2, .slice A5 (k + 1) c5] _ (hM7.get 0 rfl) Try.underlying25 rfl shapeInfo2 ?_)
        | ((with_reducible show wpList _ _ _ (⟨none, Op.store 25 _ _, _, _, _, _⟩ :: _) _ _); refine wpList_store_row rfl 25 (.tmp 4) (.tmp 80) rfl (gB + 1) #[.slice A2 m c2, .slice A5 (k + 1) c5] rfl rfl 25 _ (hM7.get 1 rfl) shapeInfo2 rfl (by simp [Value.oneCell']) ?_))
      try simp only [Act.put]
      have hR9 := (hM7.get 1 rfl).row #[.slice A2 m c2, .slice A5 (k + 1) c5]
      have hw9 := h7.far (grown_setRow _ (gB + 1) #[.slice A2 m c2, .slice A5 (k + 1) c5]) (hM7.get 1 rfl) sh_ne.1 sh_ne.2
      have hb9 := below_setRow hM7.old (show base ≤ (gB + 1) by omega) #[.slice A2 m c2, .slice A5 (k + 1) c5]
      refine bodyPost_ret (results_cell_one rfl _ _ (gB + 1) _ #[.slice A2 m c2, .slice A5 (k + 1) c5] _ rfl hR9 Try.underlying25 rfl shapeInfo2) rfl (Hpost.out _ _ _ _ _ _ _ _ hb9 hw9)

end Go.Proofs.Ytmganbdbihjbmaa

/-
  CONTRACT of the program's taken (tree): one member fewer, in rows of the call's own. Printed by gen_treetaken.py.
-/
set_option linter.unusedVariables false
namespace Go.Proofs.Ytmganbdbihjbmaa
open Go.RowKit

theorem delL_nbr (l l2 : List Nat) (ls : List (List Nat)) (a : Nat) : delL (l :: l2 :: ls) a =
    if l[grpT l a]? = some 3 then l.set (grpT l a) 2 :: l2 :: ls
    else if l[nbrT l2 (grpT l a)]? = some 3 then ((l.set (nbrT l2 (grpT l a)) 2).set (grpT l a) 2) :: l2 :: ls
    else ((l.set (nbrT l2 (grpT l a)) 3).eraseIdx (grpT l a)) :: delL (l2 :: ls) (grpT l a) := by
  rw [delL_two]
  unfold nbrT
  split
  · rfl
  · split <;> rfl
theorem nbr_ok {l2 : List Nat} {k : Nat} (h2 : two3 l2) (hk : k < l2.sum) : nbrT l2 k < l2.sum ∧ nbrT l2 k ≠ k := by
  obtain ⟨j1, j2, j3⟩ := grpT_spec l2 k hk
  have hj := startT_succ l2 j1
  have hj2 := two3_get h2 j1
  have hjl := startT_le l2 (grpT l2 k + 1)
  unfold nbrT
  split <;> omega

theorem delL_three {l : List Nat} {ls : List (List Nat)} {a : Nat} (h : l[grpT l a]? = some 3) : delL (l :: ls) a = l.set (grpT l a) 2 :: ls := by
  match ls with
  | [] => rw [delL_one, if_pos h]
  | l2 :: ls => rw [delL_two, if_pos h]
theorem erase_set_two {l : List Nat} {j q x y : Nat} (hne : q ≠ j) : ((l.set j x).set q y).eraseIdx j = (l.set q y).eraseIdx j := by
  rw [List.set_comm _ _ (Ne.symm hne), List.eraseIdx_set_eq]

set_option maxRecDepth 100000 in
set_option maxHeartbeats 8000000 in
theorem PTaken_any (base : Nat) (Ai : Option Addr) (n ci : Nat) (Al : Option Addr) (nl cl : Nat) (vs : List Value) (ids : List Int) (lv : List (List Nat)) (p : Nat) (w : World) (hb : base ≤ w.heap.size) (hn6 : ids.length ≤ 1000) (hnl : lv.length ≤ 20) (hp : p < ids.length)
    (hok : lvOK ids.length lv) (h : OwW base w (.slice Ai n ci) (.slice Al nl cl) vs vs ids (levI lv)) :
    Calls Try.prog 50 #[.agg (shV Ai n ci Al nl cl), .int .i64 (p : Nat)] w (PutPost base w (ids.eraseIdx p) (delL lv p)) := by
  have Hpost := Lib.hid (show ∀ Ai ni ci Al nl cl vs w', Below base w w' → OwW base w' (.slice Ai ni ci) (.slice Al nl cl) vs vs (ids.eraseIdx p) (levI (delL lv p)) → PutPost base w (ids.eraseIdx p) (delL lv p) (.returned (.agg (shV Ai ni ci Al nl cl))) w' from fun _ _ _ _ _ _ _ _ h1 h2 => ⟨h1, _, _, _, _, _, _, _, rfl, h2⟩)
  generalize PutPost base w (ids.eraseIdx p) (delL lv p) = PO at *
  have Hp := Lib.hid hp
  obtain ⟨R, hR⟩ : ∃ R, R = delL lv p := ⟨_, rfl⟩
  rw [← hR] at Hpost
  have HR0 := Lib.hid hR
  clear hR
  have hM0 := MsB.of (((Ms.nil w).box 25 (shV Ai n ci Al nl cl)).box 25 #[.slice none 0 0, .slice none 0 0]) hb
  simp only [World.size_alloc] at hM0
  have h0 := (h.quiet (d_al w (.cells (shV Ai n ci Al nl cl) 25))).quiet (d_al _ (.cells #[.slice none 0 0, .slice none 0 0] 25))
  have hs0 : ((w.alloc (.cells (shV Ai n ci Al nl cl) 25)).alloc (.cells #[.slice none 0 0, .slice none 0 0] 25)).heap.size = w.heap.size + 1 + 1 := by simp
  obtain ⟨Ac, cc, ec, hcc, hmm⟩ := own_formT h.i
  injection ec with e1 e2 e3
  subst e1 e3
  have Hn := Lib.hid e2
  clear e2
  have hmm' : ci < 9223372036854775808 := by unfold maxLen at hmm; omega
  rw [← Hn.out] at hcc
  have hpn : (p : Int) < (n : Int) := by have := Hn.out; omega
  have hn1000 : n ≤ 1000 := by have := Hn.out; omega
  have hi0 := h.i
  rw [← Hn.out] at hi0
  obtain ⟨gI, rfl⟩ := own_someT hi0 (by omega)
  clear hi0
  clear h hp
  have hwp : IntKind.i64.wrap ((p : Int) + 1) = (p : Int) + 1 := by rw [IntKind.wrap_i64]; omega
  go_enter Try.func50, Try.ntmps50
  go_upto_region 1 with fail
  try simp only [Act.put]
  obtain ⟨gB, hgB⟩ : ∃ g, g = w.heap.size := ⟨_, rfl⟩
  rw [← hgB] at hM0 hs0 hb ⊢
  refine wp_gen (fun wx => MsB base w wx [(gB, 25, shV (some ⟨gI, 0, none⟩) n ci Al nl cl), (gB + 1, 25, #[.slice none 0 0, .slice none 0 0])] ∧ OwW base wx (.slice (some ⟨gI, 0, none⟩) n ci) (.slice Al nl cl) vs vs ids (levI lv) ∧ gB + 1 + 1 ≤ wx.heap.size) ⟨⟨hM0.old, fun p hp => hM0.rows p (by simp only [List.mem_cons, List.not_mem_nil, or_false] at hp ⊢; rcases hp with rfl | rfl <;> simp)⟩, h0, by rw [hs0]; exact Nat.le_refl _⟩ ?_
  clear hM0 h0 hs0 hgB
  rintro w1 ⟨hM1, h1, hs1⟩
  obtain ⟨m, hm⟩ : ∃ m, m + 1 = n := ⟨n - 1, by omega⟩
  have Hm := Lib.hid hm
  clear hm
  have hi1 := h1.i
  rw [← Hn.out] at hi1
  have hdel := DelI_any base gI n ci p m ((p : Int) + 1) (ids.map iv) w1 rfl Hm.out (by have := Hm.out; omega) (by omega) (one_iv _) hi1
  have kb0 := (hM1.get 0 rfl).cell (i := 0) (v := .slice (some ⟨gI, 0, none⟩) n ci) rfl
  go_wp2_with fail
  refine hdel.mono ?_
  rintro e w2 ⟨rfl, hown2, hgr2⟩
  have h2 : OwW base w2 (.slice (some ⟨gI, 0, none⟩) m ci) (.slice Al nl cl) vs vs (ids.eraseIdx p) (levI lv) := h1.idsT hgr2 (by
    have he : (ids.map iv).eraseIdx p = (ids.eraseIdx p).map iv := by simp [List.eraseIdx_eq_take_drop_succ, List.map_append, List.map_take, List.map_drop]
    have hl : (ids.eraseIdx p).length = m := by rw [List.length_eraseIdx, if_pos Hp.out]; have := Hm.out; have := Hn.out; omega
    rw [he] at hown2
    rw [hl]
    exact hown2) (.inl rfl)
  have hgI : base ≤ gI := own_blockT hi1 gI rfl
  have hM2 := hM1.turn hgr2 (by omega) (fun g hg => by
    injection hg with hg
    subst hg
    obtain ⟨cs, hr⟩ := own_tyT hi1 (g := gI) rfl
    exact ⟨hgI, _, cs, hr, fun q hq => by simp at hq; rcases hq with rfl | rfl <;> exact sh_ne.1.symm⟩)
  have hs2 := hgr2.size
  clear hown2 hdel hM1 h1 hi1 kb0 hgr2
  have kc := (hM2.get 0 rfl).cell (i := 0) (v := .slice (some ⟨gI, 0, none⟩) n ci) rfl
  have kf := (hM2.get 0 rfl).frozen 0
  go_upto_region 2 with fail
  try simp only [Act.put]
  have hM3 := hM2.set (by omega) (fun q hq => by simp at hq; subst hq; simp) 0 (.slice (some ⟨gI, 0, none⟩) m ci)
  rw [show (shV (some ⟨gI, 0, none⟩) n ci Al nl cl).setIfInBounds 0 (.slice (some ⟨gI, 0, none⟩) m ci) = #[.slice (some ⟨gI, 0, none⟩) m ci, .slice Al nl cl] from rfl] at hM3
  have h3 := h2.far (grown_setCell w2 gB 0 (.slice (some ⟨gI, 0, none⟩) m ci)) (hM2.get 0 rfl) sh_ne.1 sh_ne.2
  obtain ⟨vI, hvI⟩ : ∃ vI : Value, vI = .slice (some ⟨gI, 0, none⟩) m ci := ⟨_, rfl⟩
  refine wp_gen (fun wx => MsB base w wx [(gB, 25, #[.slice (some ⟨gI, 0, none⟩) m ci, .slice Al nl cl]), (gB + 1, 25, #[.slice none 0 0, .slice none 0 0])] ∧ OwW base wx (.slice (some ⟨gI, 0, none⟩) m ci) (.slice Al nl cl) vs vs (ids.eraseIdx p) (levI lv) ∧ gB + 1 + 1 ≤ wx.heap.size) ⟨hM3, h3, (hM3.get 1 rfl).lt⟩ ?_
  clear hM3 h3 hM2 h2 kc kf hs1 hs2 hvI vI
  rintro w3 ⟨hM3, h3, hs3⟩
  generalize ids.eraseIdx p = ids2 at *
  have Hnl := Lib.hid (show nl = lv.length by
    have := h3.l
    rw [levI_lenX] at this
    obtain ⟨_, _, e, _⟩ := own_formT this
    injection e with _ e2)
  have hnl20 : nl ≤ 20 := by rw [Hnl.out]; exact hnl
  have k1 := (hM3.get 0 rfl).cell (i := 1) (v := .slice Al nl cl) rfl
  go_wp2_with fail
  go_loopw [1, 18] (fun a i wr => ∃ (k b many : Nat) (done : List (List Nat)) (vs' : List Value), k ≤ nl ∧ i = .int .i64 (k : Int) ∧ a = .int .i64 (b : Int) ∧ b < many ∧ many ≤ 1000 ∧ lvOK many (lv.drop k) ∧ R = done ++ delL (lv.drop k) b ∧ done.length = k ∧
    OwW base wr (.slice (some ⟨gI, 0, none⟩) m ci) (.slice Al nl cl) vs' vs' ids2 (levI (done ++ lv.drop k)) ∧ MsB base w wr [(gB, 25, #[.slice (some ⟨gI, 0, none⟩) m ci, .slice Al nl cl]), (gB + 1, 25, #[.slice none 0 0, .slice none 0 0])] ∧ gB + 1 + 1 ≤ wr.heap.size) (fun _ i _ => nl - (intOf i).toNat)
  case atStart => exact ⟨0, p, ids.length, [], vs, by omega, rfl, rfl, Hp.out, hn6, hok, HR0.out, rfl, h3, hM3, hs3⟩
  case round =>
    clear hM3 h3 k1 hs3
    obtain ⟨k, b, many, done, vs', hk, rfl, rfl, hbm, hm1000, hlo, hR, hdl, h4, hM4, hs4⟩ := hrel
    have HR := Lib.hid hR
    have Hdl := Lib.hid hdl
    have Hlo := Lib.hid hlo
    clear hR hdl hlo
    by_cases hlt : k < nl
    · have hkl : k < lv.length := by rw [← Hnl.out]; exact hlt
      obtain ⟨l, hl⟩ : ∃ l, lv[k]? = some l := ⟨_, List.getElem?_eq_getElem hkl⟩
      have hd : lv.drop k = l :: lv.drop (k + 1) := by rw [List.drop_eq_getElem_cons hkl, (List.getElem?_eq_some_iff.1 hl).2]
      have hX : (done ++ lv.drop k)[k]? = some l := by rw [List.getElem?_append_right (by have := Hdl.out; omega), Hdl.out, Nat.sub_self, hd]; rfl
      have hlo2 := Hlo.out
      rw [hd] at hlo2
      obtain ⟨o1, o2, o3, o4⟩ := hlo2
      obtain ⟨g1, g2, g3⟩ := grpT_spec l b (by omega)
      have hlm := (two3_len o2).1
      obtain ⟨gl, g, c, rfl, hnl', hcl1, hcl2, hc, hm, hv, hcell, hown, hgg⟩ := h4.lvl hX (by omega)
      have HX := Lib.hid hX
      have Hv := Lib.hid hv
      have HRR := Lib.hid (show R = done ++ delL (l :: lv.drop (k + 1)) b by rw [HR.out, hd])
      have Hset := Lib.hid (fun (y : List Nat) => show (done ++ lv.drop k).set k y = done ++ y :: lv.drop (k + 1) by
        rw [List.set_append_right _ _ (by have := Hdl.out; omega), Hdl.out, Nat.sub_self, hd, List.set_cons_zero])
      have hgo := PGroupOf_any (some ⟨g, 0, none⟩) l.length c (castL l) b wr hc hm (by omega) (by omega) (in23_mk o2) (Rd.of_own hown)
      rw [natL_cast] at hgo
      have h23 := two3_get o2 g1
      have H23 := Lib.hid o2
      have Ho4 := Lib.hid o4
      have hlen1 : l.length ≤ 1000 := by omega
      have hm63 : c < 9223372036854775808 := by unfold maxLen at hm; omega
      have hnlk : nl ≤ cl := hcl1
      have hwk : IntKind.i64.wrap ((k : Int) + 1) = (k : Int) + 1 := by rw [IntKind.wrap_i64]; omega
      clear hX hv hl hd g2 g3 o3 o4 hlm hnl' o2
      obtain ⟨j, hj⟩ : ∃ j, j = grpT l b := ⟨_, rfl⟩
      rw [← hj] at hgo g1
      have h23' : l[j]'g1 = 2 ∨ l[j]'g1 = 3 := by subst hj; exact h23
      clear h23
      have Hj := Lib.hid hj
      clear hj
      obtain ⟨hc1, hf1⟩ := lvl_cell hown g1
      have hjl : (j : Int) < (l.length : Int) := by omega
      have hget : l[j]? = some l[j] := List.getElem?_eq_getElem g1
      have kl := (hM4.get 0 rfl).cell (i := 1) (v := .slice (some ⟨gl, 0, none⟩) nl cl) rfl
      obtain ⟨crow, hgrow, _⟩ := own_rowT hown
      have hgb : base ≤ g := own_blockT hown g rfl
      generalize hxx : l[j] = x at *
      clear hxx
      rcases h23' with rfl | rfl
      rotate_left
      · have Hf := Lib.hid (show R = done ++ (l.set j 2 :: lv.drop (k + 1)) by rw [HRR.out, delL_three (by rw [← Hj.out]; exact hget), ← Hj.out])
        clear hget
        go_wp2_with fail
        refine hgo.mono ?_
        rintro e wr ⟨rfl, rfl⟩
        go_upto_region 7 with fail
        try simp only [Act.put]
        have h5 : OwW base (wr.setCell ⟨g, j, none⟩ (.int .i64 2)) (.slice (some ⟨gI, 0, none⟩) m ci) (.slice (some ⟨gl, 0, none⟩) nl cl) vs' vs' ids2 (levI ((done ++ lv.drop k).set k (l.set j 2))) := h4.num HX.out Hv.out j 2
        rw [Hset.out, ← Hf.out] at h5
        have hM5 := hM4.turn (grown_setCell wr g j (.int .i64 2)) (by omega) (fun q' hq => by injection hq with hq; subst hq; exact ⟨hgb, _, _, hgrow, fun q'' hq2 => by simp at hq2; rcases hq2 with rfl | rfl <;> exact sh_ne.1.symm⟩)
        have hcc5 : (wr.setCell ⟨g, j, none⟩ (.int .i64 2)).cell? ⟨g, j, none⟩ = some (.int .i64 2) := World.cell?_setCell_same _ _ _ hc1
        refine wp_gen (fun wx => MsB base w wx [(gB, 25, #[.slice (some ⟨gI, 0, none⟩) m ci, .slice (some ⟨gl, 0, none⟩) nl cl]), (gB + 1, 25, #[.slice none 0 0, .slice none 0 0])] ∧ OwW base wx (.slice (some ⟨gI, 0, none⟩) m ci) (.slice (some ⟨gl, 0, none⟩) nl cl) vs' vs' ids2 (levI R) ∧ wx.cell? ⟨g, j, none⟩ = some (.int .i64 2)) ⟨hM5, h5, hcc5⟩ ?_
        clear hM5 h5 hcc5 hM4 h4 hcell hown hc1 hf1 kl hgo hgrow
        rintro w5 ⟨hM5, h5, hcc5⟩
        go_wp2_with (first
          | ((with_reducible show wpList _ _ _ (⟨some 37, _, _, _, _, _⟩ :: _) _ _); refine wpList_loadC (by kernel_rfl) 25 (.tmp 2) rfl gB rfl 25 #[.slice (some ⟨gI, 0, none⟩) m ci, .slice (some ⟨gl, 0, none⟩) nl cl] _ (hM5.get 0 rfl) Try.underlying25 rfl shapeInfo2 ?_)
          | ((with_reducible show wpList _ _ _ (⟨none, Op.store 25 _ _, _, _, _, _⟩ :: _) _ _); refine wpList_store_row rfl 25 (.tmp 4) (.tmp 37) rfl (gB + 1) #[.slice (some ⟨gI, 0, none⟩) m ci, .slice (some ⟨gl, 0, none⟩) nl cl] rfl rfl 25 _ (hM5.get 1 rfl) shapeInfo2 rfl (by simp [Value.oneCell']) ?_))
        try simp only [Act.put]
        have hR9 := (hM5.get 1 rfl).row #[.slice (some ⟨gI, 0, none⟩) m ci, .slice (some ⟨gl, 0, none⟩) nl cl]
        have hw9 := h5.far (grown_setRow _ (gB + 1) #[.slice (some ⟨gI, 0, none⟩) m ci, .slice (some ⟨gl, 0, none⟩) nl cl]) (hM5.get 1 rfl) sh_ne.1 sh_ne.2
        have hb9 := below_setRow hM5.old (show base ≤ (gB + 1) by omega) #[.slice (some ⟨gI, 0, none⟩) m ci, .slice (some ⟨gl, 0, none⟩) nl cl]
        refine bodyPost_ret (results_cell_one rfl _ _ (gB + 1) _ #[.slice (some ⟨gI, 0, none⟩) m ci, .slice (some ⟨gl, 0, none⟩) nl cl] _ rfl hR9 Try.underlying25 rfl shapeInfo2) rfl (Hpost.out _ _ _ _ _ _ _ _ hb9 hw9)
      go_wp2_with fail
      refine hgo.mono ?_
      rintro e wr ⟨rfl, rfl⟩
      go_upto_region 7 with fail
      try simp only [Act.put]
      have h5 : OwW base (wr.setCell ⟨g, j, none⟩ (.int .i64 1)) (.slice (some ⟨gI, 0, none⟩) m ci) (.slice (some ⟨gl, 0, none⟩) nl cl) vs' vs' ids2 (levI ((done ++ lv.drop k).set k (l.set j 1))) := h4.num HX.out Hv.out j 1
      have hM5 := hM4.turn (grown_setCell wr g j (.int .i64 1)) (by omega) (fun q' hq => by injection hq with hq; subst hq; exact ⟨hgb, _, _, hgrow, fun q'' hq2 => by simp at hq2; rcases hq2 with rfl | rfl <;> exact sh_ne.1.symm⟩)
      have hcc5 : (wr.setCell ⟨g, j, none⟩ (.int .i64 1)).cell? ⟨g, j, none⟩ = some (.int .i64 1) := World.cell?_setCell_same _ _ _ hc1
      have hs5 : gB + 1 + 1 ≤ (wr.setCell ⟨g, j, none⟩ (.int .i64 1)).heap.size := by simp; exact hs4
      refine wp_gen (fun wx => MsB base w wx [(gB, 25, #[.slice (some ⟨gI, 0, none⟩) m ci, .slice (some ⟨gl, 0, none⟩) nl cl]), (gB + 1, 25, #[.slice none 0 0, .slice none 0 0])] ∧ OwW base wx (.slice (some ⟨gI, 0, none⟩) m ci) (.slice (some ⟨gl, 0, none⟩) nl cl) vs' vs' ids2 (levI ((done ++ lv.drop k).set k (l.set j 1))) ∧ wx.cell? ⟨g, j, none⟩ = some (.int .i64 1) ∧ gB + 1 + 1 ≤ wx.heap.size) ⟨hM5, h5, hcc5, hs5⟩ ?_
      clear hM5 h5 hcc5 hM4 h4 hcell hown hc1 hf1 kl hgo hgrow hs5 hs4
      rintro w5 ⟨hM5, h5, hcc5, hs5⟩
      have hX5 : ((done ++ lv.drop k).set k (l.set j 1))[k]? = some (l.set j 1) := List.getElem?_set_self (List.getElem?_eq_some_iff.1 HX.out).1
      have hv5 : vs'[k]? = some (.slice (some ⟨g, 0, none⟩) (l.set j 1).length c) := by rw [List.length_set]; exact Hv.out
      have HX5 := Lib.hid hX5
      have Hv5 := Lib.hid hv5
      have Hg2 := Lib.hid hget
      have kb := (hM5.get 0 rfl).cell (i := 1) (v := .slice (some ⟨gl, 0, none⟩) nl cl) rfl
      clear hX5 hv5 hget
      by_cases hl1 : l.length = 1
      · have hls : lv.drop (k + 1) = [] := lv_nilT Ho4.out (by omega)
        have hkn : k + 1 = nl := by
          have := congrArg List.length hls
          rw [List.length_drop, List.length_nil] at this
          have := Hnl.out
          omega
        have Hf := Lib.hid (show R = done by
          rw [HRR.out, hls, delL_one, if_neg (by rw [← Hj.out, Hg2.out]; simp), List.append_nil])
        clear hls
        have hll := h5.l
        have hlX : ((done ++ lv.drop k).set k (l.set j 1)).length = nl := by rw [List.length_set, List.length_append, List.length_drop, Hdl.out]; have := Hnl.out; omega
        rw [levI_lenX, hlX] at hll
        have hone : ∀ u ∈ vs', u.oneCell' = true := by
          intro u hu
          obtain ⟨i, hi⟩ := List.mem_iff_getElem?.1 hu
          obtain ⟨_, _, h6⟩ := h5.at_ hi
          obtain ⟨_, _, rfl, _⟩ := own_formT h6
          rfl
        have hdel := DelL_any base gl nl cl k k ((k : Int) + 1) vs' w5 rfl hkn (Nat.le_refl _) (by omega) hone hll
        have Hkn := Lib.hid hkn
        have Hlen := Lib.hid hlX
        have hle : ((l.length : Int) == 1) = true := by rw [hl1]; rfl
        clear hkn hlX hl1
        go_wp2_with fail
        refine hdel.mono ?_
        rintro e w6 ⟨rfl, hown6, hgr6⟩
        have h6 := h5.lastOff (k := k) (g := gl) (vL' := .slice (some ⟨gl, 0, none⟩) k cl) (by rw [levI_lenX, Hlen.out]; exact Hkn.out) rfl hgr6 hown6
        rw [Hset.out, show (levI (done ++ l.set j 1 :: lv.drop (k + 1))).take k = levI R by
          rw [Hf.out]; simp [levI, Hdl.out]] at h6
        have hM6 := hM5.turn hgr6 (by omega) (fun q' hq => by
          injection hq with hq
          subst hq
          obtain ⟨cs, hr⟩ := own_tyT hll (g := gl) rfl
          exact ⟨own_blockT hll gl rfl, _, cs, hr, fun q'' hq2 => by simp at hq2; rcases hq2 with rfl | rfl <;> exact sh_ne.2.symm⟩)
        have hs6 := hgr6.size
        have kc := (hM6.get 0 rfl).cell (i := 1) (v := .slice (some ⟨gl, 0, none⟩) nl cl) rfl
        have kf := (hM6.get 0 rfl).frozen 1
        clear hdel hown6 hgr6 hll hone h5 hM5 hcc5 kb
        go_upto_region 11 with fail
        try simp only [Act.put]
        have hM7 := hM6.set (by omega) (fun q hq => by simp at hq; subst hq; simp) 1 (.slice (some ⟨gl, 0, none⟩) k cl)
        rw [show (#[.slice (some ⟨gI, 0, none⟩) m ci, .slice (some ⟨gl, 0, none⟩) nl cl] : Array Value).setIfInBounds 1 (.slice (some ⟨gl, 0, none⟩) k cl) = #[.slice (some ⟨gI, 0, none⟩) m ci, .slice (some ⟨gl, 0, none⟩) k cl] from rfl] at hM7
        have h7 := h6.far (grown_setCell w6 gB 1 (.slice (some ⟨gl, 0, none⟩) k cl)) (hM6.get 0 rfl) sh_ne.1 sh_ne.2
        refine wp_gen (fun wx => MsB base w wx [(gB, 25, #[.slice (some ⟨gI, 0, none⟩) m ci, .slice (some ⟨gl, 0, none⟩) k cl]), (gB + 1, 25, #[.slice none 0 0, .slice none 0 0])] ∧ OwW base wx (.slice (some ⟨gI, 0, none⟩) m ci) (.slice (some ⟨gl, 0, none⟩) k cl) (vs'.take k) (vs'.take k) ids2 (levI R)) ⟨hM7, h7⟩ ?_
        clear hM7 h7 hM6 h6 kc kf hs6
        rintro w7 ⟨hM7, h7⟩
        go_wp2_with (first
          | ((with_reducible show wpList _ _ _ (⟨some 48, _, _, _, _, _⟩ :: _) _ _); refine wpList_loadC (by kernel_rfl) 25 (.tmp 2) rfl gB rfl 25 #[.slice (some ⟨gI, 0, none⟩) m ci, .slice (some ⟨gl, 0, none⟩) k cl] _ (hM7.get 0 rfl) Try.underlying25 rfl shapeInfo2 ?_)
          | ((with_reducible show wpList _ _ _ (⟨none, Op.store 25 _ _, _, _, _, _⟩ :: _) _ _); refine wpList_store_row rfl 25 (.tmp 4) (.tmp 48) rfl (gB + 1) #[.slice (some ⟨gI, 0, none⟩) m ci, .slice (some ⟨gl, 0, none⟩) k cl] rfl rfl 25 _ (hM7.get 1 rfl) shapeInfo2 rfl (by simp [Value.oneCell']) ?_))
        try simp only [Act.put]
        have hR9 := (hM7.get 1 rfl).row #[.slice (some ⟨gI, 0, none⟩) m ci, .slice (some ⟨gl, 0, none⟩) k cl]
        have hw9 := h7.far (grown_setRow _ (gB + 1) #[.slice (some ⟨gI, 0, none⟩) m ci, .slice (some ⟨gl, 0, none⟩) k cl]) (hM7.get 1 rfl) sh_ne.1 sh_ne.2
        have hb9 := below_setRow hM7.old (show base ≤ (gB + 1) by omega) #[.slice (some ⟨gI, 0, none⟩) m ci, .slice (some ⟨gl, 0, none⟩) k cl]
        refine bodyPost_ret (results_cell_one rfl _ _ (gB + 1) _ #[.slice (some ⟨gI, 0, none⟩) m ci, .slice (some ⟨gl, 0, none⟩) k cl] _ rfl hR9 Try.underlying25 rfl shapeInfo2) rfl (Hpost.out _ _ _ _ _ _ _ _ hb9 hw9)
      have hne1 : ¬ (l.length : Int) = 1 := by omega
      have hlt2 : k + 1 < lv.length := by
        rcases Nat.lt_or_ge (k + 1) lv.length with h1 | h1
        · exact h1
        · have h2 := Ho4.out
          rw [List.drop_of_length_le h1] at h2
          have h3 : l.length ≤ 1 := h2
          omega
      obtain ⟨l2, hl2⟩ : ∃ l2, lv[k + 1]? = some l2 := ⟨_, List.getElem?_eq_getElem hlt2⟩
      have hd2 : lv.drop (k + 1) = l2 :: lv.drop (k + 1 + 1) := by rw [List.drop_eq_getElem_cons hlt2, (List.getElem?_eq_some_iff.1 hl2).2]
      have ho5 := Ho4.out
      rw [hd2] at ho5
      obtain ⟨p1, p2, p3, p4⟩ := ho5
      have hX2 : ((done ++ lv.drop k).set k (l.set j 1))[k + 1]? = some l2 := by
        rw [List.getElem?_set_ne (by omega), List.getElem?_append_right (by have := Hdl.out; omega), Hdl.out, List.getElem?_drop, show k + (k + 1 - k) = k + 1 by omega]
        exact hl2
      obtain ⟨gl', g2, c2, e1, hnlX, _, _, hc2, hm2, hv2, hcell2, hown2, _⟩ := h5.lvl hX2 (by have := (two3_len p2).2; omega)
      clear hnlX
      injection e1 with e1
      injection e1 with e1 _ _
      subst e1
      have hnb := PNeighbour_any (some ⟨g2, 0, none⟩) l2.length c2 (castL l2) j w5 hc2 hm2 (by have := (two3_len p2).1; omega) (by omega) (in23_mk p2) (by rw [natL_cast, p3]; exact g1) (Rd.of_own hown2)
      rw [natL_cast] at hnb
      obtain ⟨q1, q2⟩ := nbr_ok p2 (k := j) (by omega)
      rw [p3] at q1
      have hRn := delL_nbr l l2 (lv.drop (k + 1 + 1)) b
      rw [← Hj.out, if_neg (by rw [Hg2.out]; simp), ← hd2] at hRn
      have HRn := Lib.hid hRn
      have hk2 : (k : Int) + 1 < (nl : Int) := by have := Hnl.out; omega
      have hk2' : ((k : Int) + 1).toNat = k + 1 := by omega
      have hk0 : (0 : Int) ≤ (k : Int) + 1 := by omega
      clear hX2 hl2 hd2 p1 p2 p3 p4 hv2 hRn
      generalize nbrT l2 j = q at *
      go_wp2_with fail
      refine hnb.mono ?_
      rintro e w5 ⟨rfl, rfl⟩
      have hr5 := h5.r k _ _ Hv5.out (levI_get HX5.out)
      rw [castL_len] at hr5
      obtain ⟨kq, fq⟩ := lvl_cell hr5 (j := q) (by rw [List.length_set]; exact q1)
      rw [List.getElem_set_ne (Ne.symm q2)] at kq
      obtain ⟨crow5, hgrow5, _⟩ := own_rowT hr5
      have hq23 := two3_get H23.out q1
      have hgq : l[q]? = some l[q] := List.getElem?_eq_getElem q1
      have Hgq := Lib.hid hgq
      have hql : (q : Int) < (l.length : Int) := by omega
      clear hcell2 hown2 hnb hgq hr5
      generalize l[q] = y at *
      have fj := hgrow5.frozen j
      rcases hq23 with rfl | rfl
      rotate_left
      · have Hf := Lib.hid (show R = done ++ ((l.set q 2).set j 2 :: lv.drop (k + 1)) by rw [HRR.out, HRn.out, if_pos Hgq.out])
        have kj2 : (w5.setCell ⟨g, q, none⟩ (.int .i64 2)).cell? ⟨g, j, none⟩ = some (.int .i64 1) := by rw [World.cell?_setCell_other _ _ _ _ (by intro e; injection e with _ e; exact q2 e), hcc5]
        have fj2 : (w5.setCell ⟨g, q, none⟩ (.int .i64 2)).frozen? ⟨g, j, none⟩ = false := (hgrow5.set_ q _).frozen j
        have h6 : OwW base (w5.setCell ⟨g, q, none⟩ (.int .i64 2)) (.slice (some ⟨gI, 0, none⟩) m ci) (.slice (some ⟨gl, 0, none⟩) nl cl) vs' vs' ids2 (levI (((done ++ lv.drop k).set k (l.set j 1)).set k ((l.set j 1).set q 2))) := h5.num HX5.out Hv5.out q 2
        have hM6 := hM5.turn (grown_setCell w5 g q (.int .i64 2)) (by omega) (fun q' hq => by injection hq with hq; subst hq; exact ⟨hgb, _, _, hgrow5, fun q'' hq2 => by simp at hq2; rcases hq2 with rfl | rfl <;> exact sh_ne.1.symm⟩)
        have hX6 : (((done ++ lv.drop k).set k (l.set j 1)).set k ((l.set j 1).set q 2))[k]? = some ((l.set j 1).set q 2) := List.getElem?_set_self (List.getElem?_eq_some_iff.1 HX5.out).1
        have h7 : OwW base ((w5.setCell ⟨g, q, none⟩ (.int .i64 2)).setCell ⟨g, j, none⟩ (.int .i64 2)) (.slice (some ⟨gI, 0, none⟩) m ci) (.slice (some ⟨gl, 0, none⟩) nl cl) vs' vs' ids2 (levI ((((done ++ lv.drop k).set k (l.set j 1)).set k ((l.set j 1).set q 2)).set k (((l.set j 1).set q 2).set j 2))) := h6.num hX6 (by rw [List.length_set]; exact Hv5.out) j 2
        have hM7 := hM6.turn (grown_setCell (w5.setCell ⟨g, q, none⟩ (.int .i64 2)) g j (.int .i64 2)) (by simp; omega) (fun q' hq => by injection hq with hq; subst hq; exact ⟨hgb, _, _, (hgrow5.set_ q (.int .i64 2)), fun q'' hq2 => by simp at hq2; rcases hq2 with rfl | rfl <;> exact sh_ne.1.symm⟩)
        rw [List.set_set, List.set_set, Hset.out, List.set_comm _ _ (Ne.symm q2), List.set_set, ← Hf.out] at h7
        have Hr7 := Lib.hid (show MsB base w ((w5.setCell ⟨g, q, none⟩ (.int .i64 2)).setCell ⟨g, j, none⟩ (.int .i64 2)) [(gB, 25, #[.slice (some ⟨gI, 0, none⟩) m ci, .slice (some ⟨gl, 0, none⟩) nl cl]), (gB + 1, 25, #[.slice none 0 0, .slice none 0 0])] ∧ OwW base ((w5.setCell ⟨g, q, none⟩ (.int .i64 2)).setCell ⟨g, j, none⟩ (.int .i64 2)) (.slice (some ⟨gI, 0, none⟩) m ci) (.slice (some ⟨gl, 0, none⟩) nl cl) vs' vs' ids2 (levI R) from ⟨hM7, h7⟩)
        clear hM7 h7 hX6 hM6 h6 hM5 h5 kb
        go_upto_region 15 with fail
        try simp only [Act.put]
        refine wp_gen (fun wx => MsB base w wx [(gB, 25, #[.slice (some ⟨gI, 0, none⟩) m ci, .slice (some ⟨gl, 0, none⟩) nl cl]), (gB + 1, 25, #[.slice none 0 0, .slice none 0 0])] ∧ OwW base wx (.slice (some ⟨gI, 0, none⟩) m ci) (.slice (some ⟨gl, 0, none⟩) nl cl) vs' vs' ids2 (levI R)) Hr7.out ?_
        clear Hr7
        rintro w7 ⟨hM7, h7⟩
        go_wp2_with (first
          | ((with_reducible show wpList _ _ _ (⟨some 68, _, _, _, _, _⟩ :: _) _ _); refine wpList_loadC (by kernel_rfl) 25 (.tmp 2) rfl gB rfl 25 #[.slice (some ⟨gI, 0, none⟩) m ci, .slice (some ⟨gl, 0, none⟩) nl cl] _ (hM7.get 0 rfl) Try.underlying25 rfl shapeInfo2 ?_)
          | ((with_reducible show wpList _ _ _ (⟨none, Op.store 25 _ _, _, _, _, _⟩ :: _) _ _); refine wpList_store_row rfl 25 (.tmp 4) (.tmp 68) rfl (gB + 1) #[.slice (some ⟨gI, 0, none⟩) m ci, .slice (some ⟨gl, 0, none⟩) nl cl] rfl rfl 25 _ (hM7.get 1 rfl) shapeInfo2 rfl (by simp [Value.oneCell']) ?_))
        try simp only [Act.put]
        have hR9 := (hM7.get 1 rfl).row #[.slice (some ⟨gI, 0, none⟩) m ci, .slice (some ⟨gl, 0, none⟩) nl cl]
        have hw9 := h7.far (grown_setRow _ (gB + 1) #[.slice (some ⟨gI, 0, none⟩) m ci, .slice (some ⟨gl, 0, none⟩) nl cl]) (hM7.get 1 rfl) sh_ne.1 sh_ne.2
        have hb9 := below_setRow hM7.old (show base ≤ (gB + 1) by omega) #[.slice (some ⟨gI, 0, none⟩) m ci, .slice (some ⟨gl, 0, none⟩) nl cl]
        refine bodyPost_ret (results_cell_one rfl _ _ (gB + 1) _ #[.slice (some ⟨gI, 0, none⟩) m ci, .slice (some ⟨gl, 0, none⟩) nl cl] _ rfl hR9 Try.underlying25 rfl shapeInfo2) rfl (Hpost.out _ _ _ _ _ _ _ _ hb9 hw9)
      have Hf := Lib.hid (show R = done ++ ((l.set q 3).eraseIdx j :: delL (lv.drop (k + 1)) j) by rw [HRR.out, HRn.out, if_neg (by rw [Hgq.out]; simp)])
      go_upto_region 17 with fail
      try simp only [Act.put]
      have h6 : OwW base (w5.setCell ⟨g, q, none⟩ (.int .i64 3)) (.slice (some ⟨gI, 0, none⟩) m ci) (.slice (some ⟨gl, 0, none⟩) nl cl) vs' vs' ids2 (levI (((done ++ lv.drop k).set k (l.set j 1)).set k ((l.set j 1).set q 3))) := h5.num HX5.out Hv5.out q 3
      rw [List.set_set] at h6
      have hM6 := hM5.turn (grown_setCell w5 g q (.int .i64 3)) (by omega) (fun q' hq => by injection hq with hq; subst hq; exact ⟨hgb, _, _, hgrow5, fun q'' hq2 => by simp at hq2; rcases hq2 with rfl | rfl <;> exact sh_ne.1.symm⟩)
      have hs6 : gB + 1 + 1 ≤ (w5.setCell ⟨g, q, none⟩ (.int .i64 3)).heap.size := by simp; exact hs5
      refine wp_gen (fun wx => MsB base w wx [(gB, 25, #[.slice (some ⟨gI, 0, none⟩) m ci, .slice (some ⟨gl, 0, none⟩) nl cl]), (gB + 1, 25, #[.slice none 0 0, .slice none 0 0])] ∧ OwW base wx (.slice (some ⟨gI, 0, none⟩) m ci) (.slice (some ⟨gl, 0, none⟩) nl cl) vs' vs' ids2 (levI ((done ++ lv.drop k).set k ((l.set j 1).set q 3))) ∧ gB + 1 + 1 ≤ wx.heap.size) ⟨hM6, h6, hs6⟩ ?_
      clear hM6 h6 hs6 hM5 h5 hcc5 hs5 kb kq fq hgrow5 fj
      rintro w6 ⟨hM6, h6, hs6⟩
      have hkeep : ∀ wx : World, Below w6.heap.size w6 wx → wx.cell? ⟨gB, 1, none⟩ = some (.slice (some ⟨gl, 0, none⟩) nl cl) := fun wx hb => ((hM6.get 0 rfl).call hb).cell rfl
      have hwj : IntKind.i64.wrap ((j : Int) + 1) = (j : Int) + 1 := by rw [IntKind.wrap_i64]; omega
      refine beginT (fun wx => wx.cell? ⟨gB, 1, none⟩ = some (.slice (some ⟨gl, 0, none⟩) nl cl)) 9 (by kernel_rfl) ?_
      have hS := hkeep _ (c_drew (c_refl _))
      refine takeD 0 (some 72) (.pointer (some ⟨gB, 1, none⟩)) rfl rfl (by kernel_rfl) (by kernel_rfl) (by kernel_rfl) (by kernel_rfl) (fun _ _ _ h => h) (Or.inl ⟨by kernel_rfl, fun wx hSw => by have h := hSw; go_simp⟩) hS ?_
      simp only [Act.put, List.setIfInBounds_toArray, List.set_cons_zero, List.set_cons_succ]
      refine takeD 1 (some 73) (.slice (some ⟨gl, 0, none⟩) nl cl) rfl rfl (by kernel_rfl) (by kernel_rfl) (by kernel_rfl) (by kernel_rfl) (fun _ _ _ h => h) (Or.inl ⟨by kernel_rfl, fun wx hSw => by have h := hSw; go_simp⟩) hS ?_
      simp only [Act.put, List.setIfInBounds_toArray, List.set_cons_zero, List.set_cons_succ]
      refine takeD 2 (some 74) (.int .i64 (k : Int)) rfl rfl (by kernel_rfl) (by kernel_rfl) (by kernel_rfl) (by kernel_rfl) (fun _ _ _ h => h) (Or.inl ⟨by kernel_rfl, fun wx hSw => by have h := hSw; go_simp⟩) hS ?_
      simp only [Act.put, List.setIfInBounds_toArray, List.set_cons_zero, List.set_cons_succ]
      refine takeD 3 (some 75) (.slice (some ⟨g, 0, none⟩) l.length c) rfl rfl (by kernel_rfl) (by kernel_rfl) (by kernel_rfl) (by kernel_rfl) (fun _ _ _ h => h) (Or.inl ⟨by kernel_rfl, fun wx hSw => by have h := hSw; go_simp⟩) hS ?_
      simp only [Act.put, List.setIfInBounds_toArray, List.set_cons_zero, List.set_cons_succ]
      refine takeD 4 (some 76) (.int .i64 (j : Int)) rfl rfl (by kernel_rfl) (by kernel_rfl) (by kernel_rfl) (by kernel_rfl) (fun _ _ _ h => h) (Or.inl ⟨by kernel_rfl, fun wx hSw => by have h := hSw; go_simp⟩) hS ?_
      simp only [Act.put, List.setIfInBounds_toArray, List.set_cons_zero, List.set_cons_succ]
      refine takeD 5 (some 77) (.int .i64 (j : Int)) rfl rfl (by kernel_rfl) (by kernel_rfl) (by kernel_rfl) (by kernel_rfl) (fun _ _ _ h => h) (Or.inl ⟨by kernel_rfl, fun wx hSw => by have h := hSw; go_simp⟩) hS ?_
      simp only [Act.put, List.setIfInBounds_toArray, List.set_cons_zero, List.set_cons_succ]
      refine takeD 6 (some 78) (.int .i64 ((j : Int) + 1)) rfl rfl (by kernel_rfl) (by kernel_rfl) (by kernel_rfl) (by kernel_rfl) (fun _ _ _ h => h) (Or.inl ⟨by kernel_rfl, fun wx hSw => by have h := hSw; go_simp⟩) hS ?_
      simp only [Act.put, List.setIfInBounds_toArray, List.set_cons_zero, List.set_cons_succ]
      have hx0 : Below w6.heap.size w6 w6.drew := c_drew (c_refl _)
      have h60 := h6.quiet hx0
      have hM60 := hM6.call hx0 (by omega)
      have hs60 : gB + 1 + 1 ≤ w6.drew.heap.size := hs6
      generalize w6.drew = x1 at *
      have hX6 : ((done ++ lv.drop k).set k ((l.set j 1).set q 3))[k]? = some ((l.set j 1).set q 3) := List.getElem?_set_self (List.getElem?_eq_some_iff.1 HX.out).1
      have hl6 : ((l.set j 1).set q 3).length = l.length := by rw [List.length_set, List.length_set]
      have hv6 : vs'[k]? = some (.slice (some ⟨g, 0, none⟩) ((l.set j 1).set q 3).length c) := by rw [hl6]; exact Hv.out
      have hr6 := h60.r k _ _ hv6 (levI_get hX6)
      rw [castL_len, hl6] at hr6
      obtain ⟨pl, hpl⟩ : ∃ pl, pl + 1 = l.length := ⟨l.length - 1, by omega⟩
      have Hpl := Lib.hid hpl
      clear hpl
      have hdel := DelI_any base g l.length c j pl ((j : Int) + 1) ((castL ((l.set j 1).set q 3)).map iv) x1 rfl Hpl.out (by have := Hpl.out; omega) (by omega) (one_iv _) hr6
      refine oneT 7 (by kernel_rfl) rfl (fun K hK => ?_)
      go_simp
      refine hdel.mono ?_
      rintro e x2 ⟨rfl, hown7, hgr7⟩
      have h7 := h60.del hX6 hv6 (n := pl) (j := j) (by rw [hl6]; exact Hpl.out) (by rw [hl6]; exact g1) hown7 hgr7
      have hM7 := hM60.turn hgr7 (by omega) (fun q' hq => by
        injection hq with hq
        subst hq
        obtain ⟨cs, hr⟩ := own_tyT hr6 (g := g) rfl
        exact ⟨hgb, _, cs, hr, fun q'' hq2 => by simp at hq2; rcases hq2 with rfl | rfl <;> exact sh_ne.1.symm⟩)
      have kx : x2.cell? ⟨gB, 1, none⟩ = some (.slice (some ⟨gl, 0, none⟩) nl cl) := (hM7.get 0 rfl).cell rfl
      refine hK.out _ _ (fun _ => kx) ?_
      clear hK K
      try simp only [Act.put, List.setIfInBounds_toArray, List.set_cons_zero, List.set_cons_succ]
      have hlX : nl = (((done ++ lv.drop k).set k ((l.set j 1).set q 3)).set k (((l.set j 1).set q 3).eraseIdx j)).length := by
        rw [List.length_set, List.length_set, List.length_append, List.length_drop, Hdl.out, Hnl.out]; have := Hnl.out; omega
      have hl7 := h7.l
      rw [levI_lenX, ← hlX] at hl7
      have hkv : k < vs'.length := (List.getElem?_eq_some_iff.1 Hv.out).1
      have kl : x2.cell? ⟨gl, k, none⟩ = vs'[k]? := hl7.cellAt k (by omega)
      rw [Hv.out] at kl
      have fl : x2.frozen? ⟨gl, k, none⟩ = false := hl7.frozenAt k
      have h8 := h7.storeL hlX rfl
      have hgb2 : base ≤ gl := own_blockT hl7 gl rfl
      have hM8 := hM7.turn (grown_setCell x2 gl k (.slice (some ⟨g, 0, none⟩) pl c)) (by have := hgr7.size; omega) (fun q' hq => by
        injection hq with hq
        subst hq
        obtain ⟨cs, hr⟩ := own_tyT hl7 (g := gl) rfl
        exact ⟨hgb2, _, cs, hr, fun q'' hq2 => by simp at hq2; rcases hq2 with rfl | rfl <;> exact sh_ne.2.symm⟩)
      have hs8 : gB + 1 + 1 ≤ (x2.setCell ⟨gl, k, none⟩ (.slice (some ⟨g, 0, none⟩) pl c)).heap.size := by have := hgr7.size; simp; omega
      rw [List.set_set, erase_set_two q2, Hset.out, show done ++ (l.set q 3).eraseIdx j :: lv.drop (k + 1) = (done ++ [(l.set q 3).eraseIdx j]) ++ lv.drop (k + 1) by simp] at h8
      have hlti : (k : Int) < (nl : Int) := by omega
      clear hgr7 hown7 hdel h60 hM60 hr6 hx0 hkeep h7 hM7 hl7 hlX hS h6 hM6 hX6 hv6 hl6
      refine takeD 8 (some 80) (.pointer (some ⟨gl, k, none⟩)) rfl rfl (by kernel_rfl) (by kernel_rfl) (by kernel_rfl) (by kernel_rfl) (fun _ _ _ h => h) (Or.inl ⟨by kernel_rfl, fun wx hSw => by go_simp⟩) kx ?_
      simp only [Act.put, List.setIfInBounds_toArray, List.set_cons_zero, List.set_cons_succ]
      refine oneT 9 (by kernel_rfl) rfl (fun K hK => ?_)
      go_simp
      refine hK.out _ _ (fun h => absurd rfl h) ?_
      clear hK K
      refine doneT (by kernel_rfl) ?_ _
      go_wp2_with fail
      go_roundw
      case rel => exact ⟨k + 1, j, l.length, done ++ [(l.set q 3).eraseIdx j], _, by omega, by go_num, rfl, g1, hlen1, Ho4.out, by rw [Hf.out]; simp, by simp [Hdl.out], h8, hM8, hs8⟩
      case measure => simp [intOf]; omega
    · obtain rfl : k = nl := by omega
      have hdn : lv.drop k = [] := List.drop_of_length_le (by rw [← Hnl.out]; exact Nat.le_refl _)
      rw [hdn, List.append_nil] at h4
      have Hf3 := Lib.hid (show R = done by rw [HR.out, hdn]; simp [delL])
      clear hdn
      rw [← Hf3.out] at h4
      go_wp2_with (first
        | ((with_reducible show wpList _ _ _ (⟨some 82, _, _, _, _, _⟩ :: _) _ _); refine wpList_loadC (by kernel_rfl) 25 (.tmp 2) rfl gB rfl 25 #[.slice (some ⟨gI, 0, none⟩) m ci, .slice Al k cl] _ (hM4.get 0 rfl) Try.underlying25 rfl shapeInfo2 ?_)
        | ((with_reducible show wpList _ _ _ (⟨none, Op.store 25 _ _, _, _, _, _⟩ :: _) _ _); refine wpList_store_row rfl 25 (.tmp 4) (.tmp 82) rfl (gB + 1) #[.slice (some ⟨gI, 0, none⟩) m ci, .slice Al k cl] rfl rfl 25 _ (hM4.get 1 rfl) shapeInfo2 rfl (by simp [Value.oneCell']) ?_))
      try simp only [Act.put]
      have hR9 := (hM4.get 1 rfl).row #[.slice (some ⟨gI, 0, none⟩) m ci, .slice Al k cl]
      have hw9 := h4.far (grown_setRow _ (gB + 1) #[.slice (some ⟨gI, 0, none⟩) m ci, .slice Al k cl]) (hM4.get 1 rfl) sh_ne.1 sh_ne.2
      have hb9 := below_setRow hM4.old (show base ≤ (gB + 1) by omega) #[.slice (some ⟨gI, 0, none⟩) m ci, .slice Al k cl]
      refine bodyPost_ret (results_cell_one rfl _ _ (gB + 1) _ #[.slice (some ⟨gI, 0, none⟩) m ci, .slice Al k cl] _ rfl hR9 Try.underlying25 rfl shapeInfo2) rfl (Hpost.out _ _ _ _ _ _ _ _ hb9 hw9)

end Go.Proofs.Ytmganbdbihjbmaa

