import Derived.Test.YtlidhdljgnijaaaDoorL19
import Derived.Test.YtlidhdljgnijaaaDoorL20
import Derived.Test.YtlidhdljgnijaaaDoorL04
import Derived.Test.YtlidhdljgnijaaaDoorL17
import Derived.Test.YtlidhdljgnijaaaDoorL11
import Derived.Deep.RegionHeld3
import Derived.Test.YtlidhdljgnijaaaDoorL12
/-
  CONTRACTS of coterieref13's Few and Leaf.
-/
set_option linter.unusedVariables false
namespace Go.Proofs.YtlidhdljgnijaaaDoor
open Go.RowKit

set_option maxRecDepth 100000 in
set_option maxHeartbeats 4000000 in
theorem RFew13 (kind : Int) (Ai : Option Addr) (ni ci : Nat) (Al : Option Addr) (nl cl : Nat) (ids : List Int) (ll : List (List Int)) (Ap : Option Addr) (np cp : Nat) (ps : List UInt8) (w : World) (h : TgR w w.heap.size Ai ni ci Al nl cl ids ll Ap np cp ps) :
    Calls Tryd.prog 9 #[.agg (tgV kind Ai ni ci Al nl cl Ap np cp)] w fun e w' => e = .returned (.bool (fewG ids ll np)) ∧ Below w.heap.size w w' := by
  have hM := (Ms.nil w).box 28 (tgV kind Ai ni ci Al nl cl Ap np cp)
  have hfw := fun wx (hb : Below w.heap.size w wx) => FewT_any Ai ni ci Al nl cl ids ll wx ((h.sh.below hb).more hb.size)
  have Hni := Lib.hid h.sh.hni
  clear h
  go_enter Tryd.func9, Tryd.ntmps9
  go_upto_region 1 with fail
  try simp only [Act.put]
  obtain ⟨g, hg⟩ : ∃ g, g = w.heap.size := ⟨_, rfl⟩
  rw [← hg] at hM ⊢
  refine wp_gen (fun wx => Ms w wx [(g, 28, tgV kind Ai ni ci Al nl cl Ap np cp)]) hM ?_
  clear hM hg
  rintro w0 hM0
  have hr1 := tg_sh (hM0.get 0 rfl)
  go_wp2_with ((with_reducible show wpList _ _ _ (⟨some 4, _, _, _, _, _⟩ :: _) _ _); refine wpList_load_midG (by kernel_rfl) 25 (.tmp 3) rfl g 1 rfl (shV Ai ni ci Al nl cl).toList _ hr1 Tryd.underlying25 rfl shapeInfo2 ?_)
  refine (hfw _ hM0.old).mono ?_
  rintro e w1 ⟨he, hb1⟩
  subst he
  have hM1 := hM0.call hb1
  have hold := hM1.old
  have c1 := (hM1.get 0 rfl).cell (i := 1) (v := .slice Ai ni ci) rfl
  have c3 := (hM1.get 0 rfl).cell (i := 3) (v := .slice Ap np cp) rfl
  have Hf := Lib.hid (show fewG ids ll np = (fewT ids ll && (decide (ni ≤ 100) && decide (np ≤ 400))) by rw [fewG, Hni.out])
  generalize fewT ids ll = fb at *
  clear hM0 hM1 hb1 hfw hr1
  cases fb
  · go_wp2_with fail
    go_ret
    exact ⟨by rw [Hf.out]; rfl, hold⟩
  · by_cases h1 : ni ≤ 100
    · by_cases h2 : np ≤ 400
      · have z1 : (ni : Int) ≤ 100 := by omega
        have z2 : (np : Int) ≤ 400 := by omega
        have HF := Lib.hid (show fewG ids ll np = true by rw [Hf.out, decide_eq_true h1, decide_eq_true h2]; rfl)
        clear Hf h1 h2
        go_wp2_with fail
        go_ret
        exact ⟨by rw [HF.out]; rfl, hold⟩
      · have z1 : (ni : Int) ≤ 100 := by omega
        have z2 : decide ((np : Int) ≤ 400) = false := decide_eq_false (by omega)
        have HF := Lib.hid (show fewG ids ll np = false by rw [Hf.out, decide_eq_true h1, decide_eq_false h2]; rfl)
        clear Hf h1 h2
        go_wp2_with fail
        go_ret
        exact ⟨by rw [HF.out]; rfl, hold⟩
    · have z1 : decide ((ni : Int) ≤ 100) = false := decide_eq_false (by omega)
      have HF := Lib.hid (show fewG ids ll np = false by rw [Hf.out, decide_eq_false h1]; rfl)
      clear Hf h1
      go_wp2_with fail
      go_ret
      exact ⟨by rw [HF.out]; rfl, hold⟩

/-- a member's leaf's place; why there is none -/
def leafG (kind : Int) (ids : List Int) (ll : List (List Int)) (np : Nat) (ps : List UInt8) (id : Int) : Int := if okG kind ids ll np ps = true ∧ id ∈ ids then (((pathI kind ids ll id).getD 0 0 : Nat) : Int) else 0
def leafE (kind : Int) (ids : List Int) (ll : List (List Int)) (np : Nat) (ps : List UInt8) (id : Int) : Int := if okG kind ids ll np ps = true then (if id ∈ ids then 0 else 6) else 1
theorem okG_may {kind : Int} {ids : List Int} {ll : List (List Int)} {np : Nat} {ps : List UInt8} (h : okG kind ids ll np ps = true) : mayB kind ids ll = true := by
  rw [okG, Bool.and_eq_true] at h
  exact h.1
theorem path_pos {kind : Int} {ids : List Int} {ll : List (List Int)} {id : Int} (hm : mayB kind ids ll = true) (hi : id ∈ ids) : 0 < (pathI kind ids ll id).length := by
  have h0 := List.length_pos_of_mem hi
  have hT := top_facts hm h0
  obtain ⟨hpa, hpl⟩ := path_top hT hm (isT_mem.2 hi)
  obtain ⟨a, t, x, e, _⟩ := (way_top hT hpl).first
  rw [hpa, e]
  simp

set_option maxRecDepth 100000 in
set_option maxHeartbeats 4000000 in
theorem RLeaf13 (kind : Int) (Ai : Option Addr) (ni ci : Nat) (Al : Option Addr) (nl cl : Nat) (ids : List Int) (ll : List (List Int)) (Ap : Option Addr) (np cp : Nat) (ps : List UInt8) (id : Int) (w : World) (h : TgR w w.heap.size Ai ni ci Al nl cl ids ll Ap np cp ps) (hf : fewT ids ll = true) :
    Calls Tryd.prog 16 #[.agg (tgV kind Ai ni ci Al nl cl Ap np cp), .int .i64 id] w fun e w' => e = .returned (.tuple #[.int .i64 (leafG kind ids ll np ps id), .int .i64 (leafE kind ids ll np ps id)]) ∧ Below w.heap.size w w' := by
  have hM := (Ms.nil w).box 28 (tgV kind Ai ni ci Al nl cl Ap np cp)
  have hck := fun wx (hb : Below w.heap.size w wx) => RCheck13 kind Ai ni ci Al nl cl ids ll Ap np cp ps wx ((h.below hb).more hb.size) hf
  have hpa := fun wx (hb : Below w.heap.size w wx) => Path11_any kind Ai ni ci Al nl cl ids ll id wx ((h.sh.below hb).more hb.size) hf
  clear h
  go_enter Tryd.func16, Tryd.ntmps16
  go_upto_region 1 with fail
  try simp only [Act.put]
  obtain ⟨g, hg⟩ : ∃ g, g = w.heap.size := ⟨_, rfl⟩
  rw [← hg] at hM ⊢
  refine wp_gen (fun wx => Ms w wx [(g, 28, tgV kind Ai ni ci Al nl cl Ap np cp)]) hM ?_
  clear hM hg
  rintro w0 hM0
  go_wp2_with ((with_reducible show wpList _ _ _ (⟨some 8, _, _, _, _, _⟩ :: _) _ _); refine wpList_loadC (by kernel_rfl) 28 (.tmp 2) rfl g rfl 28 (tgV kind Ai ni ci Al nl cl Ap np cp) _ (hM0.get 0 rfl) Tryd.underlying28 rfl tgInfo2 ?_)
  refine (hck _ hM0.old).mono ?_
  rintro e w1 ⟨he, hb1⟩
  subst he
  have hM1 := hM0.call hb1
  have hold := hM1.old
  clear hM0 hb1 hck
  by_cases hok : okG kind ids ll np ps = true
  rotate_left
  · have HF := Lib.hid (show leafG kind ids ll np ps id = 0 ∧ leafE kind ids ll np ps id = 1 from ⟨by rw [leafG, if_neg (fun h => hok h.1)], by rw [leafE, if_neg hok]⟩)
    rw [chkG, if_neg hok]
    clear hM1 hpa
    go_wp2_with fail
    refine bodyPost_ret (results_tmp2 rfl _ _ _) rfl ⟨?_, hold⟩
    rw [HF.out.1, HF.out.2]
    rfl
  have HF := Lib.hid (show (id ∈ ids → leafG kind ids ll np ps id = (((pathI kind ids ll id).getD 0 0 : Nat) : Int) ∧ leafE kind ids ll np ps id = 0) ∧ (id ∉ ids → leafG kind ids ll np ps id = 0 ∧ leafE kind ids ll np ps id = 6) from
    ⟨fun hi => ⟨by rw [leafG, if_pos ⟨hok, hi⟩], by rw [leafE, if_pos hok, if_pos hi]⟩, fun hi => ⟨by rw [leafG, if_neg (fun h => hi h.2)], by rw [leafE, if_pos hok, if_neg hi]⟩⟩)
  have hmay := okG_may hok
  rw [chkG, if_pos hok]
  have HP := Lib.hid (fun hi => path_pos hmay (id := id) hi)
  have c0 := (hM1.get 0 rfl).cell (i := 0) (v := .int .i64 kind) rfl
  have hr1 := tg_sh (hM1.get 0 rfl)
  have HE := Lib.hid (show pathE kind ids ll id = if id ∈ ids then 0 else 6 by
    rw [pathE, if_pos hmay]
    by_cases hi : id ∈ ids
    · rw [if_pos (isT_mem.2 hi), if_pos hi]
    · rw [if_neg (fun e => hi (isT_mem.1 e)), if_neg hi])
  clear hok hmay
  go_wp2_with ((with_reducible show wpList _ _ _ (⟨some 15, _, _, _, _, _⟩ :: _) _ _); refine wpList_load_midG (by kernel_rfl) 25 (.tmp 14) rfl g 1 rfl (shV Ai ni ci Al nl cl).toList _ hr1 Tryd.underlying25 rfl shapeInfo2 ?_)
  refine (hpa _ hM1.old).mono ?_
  rintro e w2 ⟨hb2, A, n, c, he, hnc, hcm, hr⟩
  subst he
  have hold2 := hold.trans (hb2.mono hold.size)
  rw [HE.out]
  clear hM1 hold hb2 hpa c0 hr1
  by_cases hi : id ∈ ids
  · rw [if_pos hi]
    have hpos := HP.out hi
    have hln : (pathI kind ids ll id).length = n := by simpa [kidV] using hr.len
    have hn0 : 0 < n := by omega
    obtain ⟨b, o, rfl, _, hc⟩ := hr.pos hn0
    have hcell := hc 0 (.int .i64 (((pathI kind ids ll id).getD 0 0 : Nat) : Int)) (by
      rw [kidV, List.getElem?_map, List.getElem?_eq_getElem hpos, getD_at (List.getElem?_eq_getElem hpos)]; rfl)
    rw [Nat.add_zero] at hcell
    have HF2 := Lib.hid (HF.out.1 hi)
    generalize ((pathI kind ids ll id).getD 0 0) = p at *
    have zn : (0 : Int) < (n : Int) := by omega
    clear hr hc hln hpos HP HF HE
    go_wp2_with fail
    refine bodyPost_ret (results_tmp2 rfl _ _ _) rfl ⟨?_, hold2⟩
    rw [HF2.out.1, HF2.out.2]
    rfl
  · rw [if_neg hi]
    have HF2 := Lib.hid (HF.out.2 hi)
    clear hr HP HF HE
    go_wp2_with fail
    refine bodyPost_ret (results_tmp2 rfl _ _ _) rfl ⟨?_, hold2⟩
    rw [HF2.out.1, HF2.out.2]
    rfl

end Go.Proofs.YtlidhdljgnijaaaDoor

/-
  CONTRACTS of the document's Same of keys (coterieref09) that stand anywhere, and of coterieref13's Same.
-/
set_option linter.unusedVariables false
namespace Go.Proofs.YtlidhdljgnijaaaDoor
open Go.RowKit

theorem neq_keyK (w : World) (a b : List UInt8) (ha : a.length = 32) (hb : b.length = 32) :
    (binOp .neq 36 (.agg (keyC a)) (.agg (keyC b))).run Tryd.prog w = .ok (.bool (!(a == b))) w := by
  obtain ⟨i, hi⟩ := byte_info
  rw [run_neq_struct, keyC, keyC, run_eqlRow w false Tryd.underlying36 Tryd.underlying5 hi byteCells bv (fun x => (x.toNat : Int)) (fun _ => rfl) bv_inj 0 a b ha hb]
  rfl
set_option maxRecDepth 100000 in
set_option maxHeartbeats 2000000 in
theorem RKSame (A A' : Option Addr) (k c k' c' : Nat) (xs ys : List UInt8) (w : World) (hk : k ≤ 1000000) (hk' : k' ≤ 1000000) (hx : KyR w w.heap.size A k c xs) (hy : KyR w w.heap.size A' k' c' ys) :
    Calls Tryd.prog 19 #[.slice A k c, .slice A' k' c'] w fun e w' => e = .returned (.bool (xs == ys)) ∧ Below w.heap.size w w' := by
  go_enter Tryd.func19, Tryd.ntmps19
  by_cases hkk : k = k'
  rotate_left
  · have h1 : ¬ (k : Int) = (k' : Int) := by omega
    have He := Lib.hid (show (xs == ys) = false by
      rw [beq_eq_false_iff_ne]
      intro e
      have e1 := hx.len
      have e2 := hy.len
      rw [e] at e1
      omega)
    clear hkk
    go_wp2_with fail
    go_ret
    exact ⟨by rw [He.out]; rfl, c_refl _⟩
  subst hkk
  go_wp2_with fail
  go_loopw [13] (fun i wr => ∃ j : Nat, j ≤ k ∧ i = .int .i64 (j : Int) ∧ Hid (∀ q, q < j → keyI xs q = keyI ys q) ∧ Below w.heap.size w wr) (fun i _ => k - (intOf i).toNat)
  case atStart => exact ⟨0, by omega, rfl, Lib.hid (fun q hq => absurd hq (by omega)), c_refl _⟩
  case round =>
    obtain ⟨j, hj, rfl, hall, hB⟩ := hrel
    by_cases hlt : j < k
    · have j0 : (0 : Int) ≤ (j : Int) := by omega
      have j1 : (j : Int) < (k : Int) := by omega
      obtain ⟨b, o, rfl, hb, hrb⟩ := (hx.below hB).range hlt
      obtain ⟨b', o', rfl, hb', hrb'⟩ := (hy.below hB).range hlt
      have Hlx := Lib.hid (keyI_len hx.len hlt)
      have Hly := Lib.hid (keyI_len hy.len hlt)
      have hkeep : ∀ wx : World, Below wr.heap.size wr wx → wx.rangeAt b (o + j * 32) (keyC (keyI xs j)).toList ∧ wx.rangeAt b' (o' + j * 32) (keyC (keyI ys j)).toList := fun wx hbx => by
        obtain ⟨b2, o2, e2, _, h2⟩ := ((hx.below hB).below (hbx.mono hB.size)).range hlt
        obtain ⟨b3, o3, e3, _, h3⟩ := ((hy.below hB).below (hbx.mono hB.size)).range hlt
        injection e2 with e2
        injection e2 with e2 e4
        injection e3 with e3
        injection e3 with e3 e5
        subst e2 e3 e4 e5
        exact ⟨h2, h3⟩
      have hne := fun wx => neq_keyK wx (keyI xs j) (keyI ys j) Hlx.out Hly.out
      have hun := Tryd.underlying36
      have hsx : (Tryd.prog.info? 36).map (·.size) = some (keyC (keyI xs j)).toList.length := by simpa using sizeKey Hlx.out
      have hsy : (Tryd.prog.info? 36).map (·.size) = some (keyC (keyI ys j)).toList.length := by simpa using sizeKey Hly.out
      obtain ⟨sb, hsb⟩ : ∃ sb, (keyI xs j == keyI ys j) = sb := ⟨_, rfl⟩
      simp only [hsb] at hne
      have Hsb := Lib.hid hsb
      clear hrb hrb' hsb
      generalize hkx : keyI xs j = kx at *
      generalize hky : keyI ys j = ky at *
      have Hkx := Lib.hid hkx
      have Hky := Lib.hid hky
      clear hkx hky
      go_wp2_with fail
      refine beginT (fun wx => wx.rangeAt b (o + j * 32) (keyC kx).toList ∧ wx.rangeAt b' (o' + j * 32) (keyC ky).toList) 9 (by kernel_rfl) ?_
      have hS := hkeep _ (c_drew (c_refl _))
      refine takeD 0 (some 16) (.slice (some ⟨b, o, none⟩) k c) rfl rfl (by kernel_rfl) (by kernel_rfl) (by kernel_rfl) (by kernel_rfl) (fun _ _ _ h => h) (Or.inl ⟨by kernel_rfl, fun wx hSw => by go_simp⟩) hS ?_
      simp only [Act.put, List.setIfInBounds_toArray, List.set_cons_zero, List.set_cons_succ]
      refine takeD 1 (some 17) (.int .i64 (j : Int)) rfl rfl (by kernel_rfl) (by kernel_rfl) (by kernel_rfl) (by kernel_rfl) (fun _ _ _ h => h) (Or.inl ⟨by kernel_rfl, fun wx hSw => by go_simp⟩) hS ?_
      simp only [Act.put, List.setIfInBounds_toArray, List.set_cons_zero, List.set_cons_succ]
      refine takeD 2 (some 18) (.pointer (some ⟨b, o + j * 32, none⟩)) rfl rfl (by kernel_rfl) (by kernel_rfl) (by kernel_rfl) (by kernel_rfl) (fun _ _ _ h => h) (Or.inl ⟨by kernel_rfl, fun wx hSw => by go_simp⟩) hS ?_
      simp only [Act.put, List.setIfInBounds_toArray, List.set_cons_zero, List.set_cons_succ]
      refine loadT 3 (some 19) 36 (.tmp 18) b (o + j * 32) (keyC kx).toList rfl rfl (by kernel_rfl) (by kernel_rfl) (by kernel_rfl) (by kernel_rfl) rfl (by kernel_rfl) rfl (fun wx hSw => hSw.1) hun rfl hsx (fun _ _ _ h => h) hS ?_
      simp only [Act.put, List.setIfInBounds_toArray, List.set_cons_zero, List.set_cons_succ, Array.toArray_toList]
      refine takeD 4 (some 20) (.slice (some ⟨b', o', none⟩) k c') rfl rfl (by kernel_rfl) (by kernel_rfl) (by kernel_rfl) (by kernel_rfl) (fun _ _ _ h => h) (Or.inl ⟨by kernel_rfl, fun wx hSw => by go_simp⟩) hS ?_
      simp only [Act.put, List.setIfInBounds_toArray, List.set_cons_zero, List.set_cons_succ]
      refine takeD 5 (some 21) (.int .i64 (j : Int)) rfl rfl (by kernel_rfl) (by kernel_rfl) (by kernel_rfl) (by kernel_rfl) (fun _ _ _ h => h) (Or.inl ⟨by kernel_rfl, fun wx hSw => by go_simp⟩) hS ?_
      simp only [Act.put, List.setIfInBounds_toArray, List.set_cons_zero, List.set_cons_succ]
      refine takeD 6 (some 22) (.pointer (some ⟨b', o' + j * 32, none⟩)) rfl rfl (by kernel_rfl) (by kernel_rfl) (by kernel_rfl) (by kernel_rfl) (fun _ _ _ h => h) (Or.inl ⟨by kernel_rfl, fun wx hSw => by go_simp⟩) hS ?_
      simp only [Act.put, List.setIfInBounds_toArray, List.set_cons_zero, List.set_cons_succ]
      refine loadT 7 (some 23) 36 (.tmp 22) b' (o' + j * 32) (keyC ky).toList rfl rfl (by kernel_rfl) (by kernel_rfl) (by kernel_rfl) (by kernel_rfl) rfl (by kernel_rfl) rfl (fun wx hSw => hSw.2) hun rfl hsy (fun _ _ _ h => h) hS ?_
      simp only [Act.put, List.setIfInBounds_toArray, List.set_cons_zero, List.set_cons_succ, Array.toArray_toList]
      refine takeD 8 (some 24) (.bool (!sb)) rfl rfl (by kernel_rfl) (by kernel_rfl) (by kernel_rfl) (by kernel_rfl) (fun _ _ _ h => h) (Or.inl ⟨by kernel_rfl, fun wx hSw => by go_simp⟩) hS ?_
      simp only [Act.put, List.setIfInBounds_toArray, List.set_cons_zero, List.set_cons_succ]
      refine doneT (by kernel_rfl) ?_ _
      have hE : Below w.heap.size w wr.drew := c_drew hB
      cases sb
      · have He := Lib.hid (show (xs == ys) = false by
          rw [beq_eq_false_iff_ne]
          intro e
          have h1 := Hsb.out
          rw [beq_eq_false_iff_ne, ← Hkx.out, ← Hky.out, e] at h1
          exact h1 rfl)
        go_wp2_with fail
        go_ret
        exact ⟨by rw [He.out]; rfl, hE⟩
      · go_wp2_with fail
        go_roundw
        case rel =>
          refine ⟨j + 1, by omega, by go_num, Lib.hid (fun q hq => ?_), hE⟩
          rcases Nat.lt_or_ge q j with h | h
          · exact hall.out q h
          · obtain rfl : q = j := by omega
            rw [Hkx.out, Hky.out]
            have h1 := Hsb.out
            rwa [beq_iff_eq] at h1
        case measure => simp [intOf]; omega
    · obtain rfl : j = k := by omega
      have He := Lib.hid (show (xs == ys) = true by
        rw [beq_iff_eq]
        exact keysI_eq hx.len hy.len hall.out)
      go_wp2_with fail
      go_ret
      exact ⟨by rw [He.out]; rfl, hB⟩


def sameG (kind : Int) (ids : List Int) (ll : List (List Int)) (ps : List UInt8) (kind' : Int) (ids' : List Int) (ll' : List (List Int)) (ps' : List UInt8) : Bool := decide (kind = kind') && ((ids == ids' && ll == ll') && (ps == ps'))
set_option maxRecDepth 100000 in
set_option maxHeartbeats 4000000 in
theorem RSame13 (kind : Int) (Ai : Option Addr) (ni ci : Nat) (Al : Option Addr) (nl cl : Nat) (ids : List Int) (ll : List (List Int)) (Ap : Option Addr) (np cp : Nat) (ps : List UInt8)
    (kind' : Int) (Ai' : Option Addr) (ni' ci' : Nat) (Al' : Option Addr) (nl' cl' : Nat) (ids' : List Int) (ll' : List (List Int)) (Ap' : Option Addr) (np' cp' : Nat) (ps' : List UInt8) (w : World)
    (h : TgR w w.heap.size Ai ni ci Al nl cl ids ll Ap np cp ps) (h' : TgR w w.heap.size Ai' ni' ci' Al' nl' cl' ids' ll' Ap' np' cp' ps') (hn : np ≤ 1000000) (hn' : np' ≤ 1000000) :
    Calls Tryd.prog 24 #[.agg (tgV kind Ai ni ci Al nl cl Ap np cp), .agg (tgV kind' Ai' ni' ci' Al' nl' cl' Ap' np' cp')] w fun e w' => e = .returned (.bool (sameG kind ids ll ps kind' ids' ll' ps')) ∧ Below w.heap.size w w' := by
  have hM := ((Ms.nil w).box 28 (tgV kind Ai ni ci Al nl cl Ap np cp)).box 28 (tgV kind' Ai' ni' ci' Al' nl' cl' Ap' np' cp')
  simp only [World.size_alloc] at hM
  have hsm := fun wx (hb : Below w.heap.size w wx) => Same_anyT Ai ni ci Al nl cl ids ll Ai' ni' ci' Al' nl' cl' ids' ll' wx ((h.sh.below hb).more hb.size) ((h'.sh.below hb).more hb.size)
  have hky := fun wx (hb : Below w.heap.size w wx) => RKSame Ap Ap' np cp np' cp' ps ps' wx hn hn' ((h.pts.below hb).more hb.size) ((h'.pts.below hb).more hb.size)
  clear h h'
  go_enter Tryd.func24, Tryd.ntmps24
  go_upto_region 1 with fail
  try simp only [Act.put]
  obtain ⟨g, hg⟩ : ∃ g, g = w.heap.size := ⟨_, rfl⟩
  rw [← hg] at hM ⊢
  refine wp_gen (fun wx => Ms w wx [(g + 1, 28, tgV kind' Ai' ni' ci' Al' nl' cl' Ap' np' cp'), (g, 28, tgV kind Ai ni ci Al nl cl Ap np cp)]) hM ?_
  clear hM hg
  rintro w0 hM0
  have c0 := (hM0.get 1 rfl).cell (i := 0) (v := .int .i64 kind) rfl
  have c0' := (hM0.get 0 rfl).cell (i := 0) (v := .int .i64 kind') rfl
  have hold := hM0.old
  by_cases hk : kind = kind'
  rotate_left
  · have HF := Lib.hid (show sameG kind ids ll ps kind' ids' ll' ps' = false by rw [sameG, decide_eq_false hk]; rfl)
    have zk : (kind == kind') = false := by rw [beq_eq_false_iff_ne]; exact hk
    clear hM0 hsm hky hk
    go_wp2_with fail
    go_ret
    exact ⟨by rw [HF.out]; rfl, hold⟩
  subst hk
  have hr1 := tg_sh (hM0.get 1 rfl)
  have hr1' := tg_sh (hM0.get 0 rfl)
  clear hold
  go_wp2_with (first
    | ((with_reducible show wpList _ _ _ (⟨some 12, _, _, _, _, _⟩ :: _) _ _); refine wpList_load_midG (by kernel_rfl) 25 (.tmp 11) rfl g 1 rfl (shV Ai ni ci Al nl cl).toList _ hr1 Tryd.underlying25 rfl shapeInfo2 ?_)
    | ((with_reducible show wpList _ _ _ (⟨some 14, _, _, _, _, _⟩ :: _) _ _); refine wpList_load_midG (by kernel_rfl) 25 (.tmp 13) rfl (g + 1) 1 rfl (shV Ai' ni' ci' Al' nl' cl').toList _ hr1' Tryd.underlying25 rfl shapeInfo2 ?_))
  refine (hsm _ hM0.old).mono ?_
  rintro e w1 ⟨he, hb1⟩
  subst he
  have hM1 := hM0.call hb1
  have hold1 := hM1.old
  have HF := Lib.hid (show sameG kind ids ll ps kind ids' ll' ps' = ((ids == ids' && ll == ll') && (ps == ps')) by rw [sameG, decide_eq_true rfl, Bool.true_and])
  generalize (ids == ids' && ll == ll') = sb at *
  clear hM0 hb1 hsm c0 c0' hr1 hr1'
  cases sb
  · clear hM1 hky
    go_wp2_with fail
    go_ret
    exact ⟨by rw [HF.out]; rfl, hold1⟩
  have c3 := (hM1.get 1 rfl).cell (i := 3) (v := .slice Ap np cp) rfl
  have c3' := (hM1.get 0 rfl).cell (i := 3) (v := .slice Ap' np' cp') rfl
  clear hold1
  go_wp2_with fail
  refine (hky _ hM1.old).mono ?_
  rintro e w2 ⟨he, hb2⟩
  subst he
  have hold2 := hM1.old.trans (hb2.mono hM1.old.size)
  clear hM1 hky hb2 c3 c3'
  go_wp2_with fail
  go_ret
  exact ⟨by rw [HF.out]; rfl, hold2⟩
end Go.Proofs.YtlidhdljgnijaaaDoor

/-
  CONTRACT of coterieref13's Write.
-/
set_option linter.unusedVariables false
namespace Go.Proofs.YtlidhdljgnijaaaDoor
open Go.RowKit

def byteU (n : Int) : UInt8 := UInt8.ofNat n.toNat
def idB (id : Int) : List UInt8 := be 4 id.toNat
def lvB (l : List Int) : List UInt8 := be 2 l.length ++ l.map byteU
/-- a tree's text -/
def writeT (kind : Int) (ids : List Int) (ll : List (List Int)) (ps : List UInt8) : List UInt8 := (byteU kind :: be 2 ids.length) ++ ids.flatMap idB ++ (UInt8.ofNat ll.length :: ll.flatMap lvB) ++ ps
def WritePost (w : World) (ok : Bool) (l : List UInt8) (e : Ending) (w' : World) : Prop :=
  Below w.heap.size w w' ∧ ((ok = false ∧ e = .returned (.tuple #[.slice none 0 0, .int .i64 1])) ∨ (ok = true ∧ ∃ A n c, e = .returned (.tuple #[.slice A n c, .int .i64 0]) ∧ w'.ownsRow w.heap.size 5 1 (.slice A n c) n (l.map bv)))

theorem okG_mayD {kind : Int} {ids : List Int} {ll : List (List Int)} {np : Nat} {ps : List UInt8} (h : okG kind ids ll np ps = true) : (kind = 1 ∨ kind = 2) ∧ chkT ids ll = true ∧ 0 < ids.length := by
  rw [okG, Bool.and_eq_true, Bool.and_eq_true, decide_eq_true_eq] at h
  obtain ⟨h1, h2, _⟩ := h
  rw [nodesI, if_pos h1, List.length_map, nodesU] at h2
  rw [mayB, Bool.and_eq_true] at h1
  refine ⟨by simpa using h1.1, h1.2, ?_⟩
  rcases Nat.eq_zero_or_pos ids.length with e | e
  · rw [if_pos e] at h2; simp at h2
  · exact e

set_option maxRecDepth 100000 in
set_option maxHeartbeats 8000000 in
theorem RWrite13 (kind : Int) (Ai : Option Addr) (ni ci : Nat) (Al : Option Addr) (nl cl : Nat) (ids : List Int) (ll : List (List Int)) (Ap : Option Addr) (np cp : Nat) (ps : List UInt8) (w : World) (h : TgR w w.heap.size Ai ni ci Al nl cl ids ll Ap np cp ps) (hf : fewT ids ll = true) :
    Calls Tryd.prog 18 #[.agg (tgV kind Ai ni ci Al nl cl Ap np cp)] w (WritePost w (okG kind ids ll np ps) (writeT kind ids ll ps)) := by
  obtain ⟨i0, hi0, hz0, hz1, hz2⟩ := info_parts byteInfo
  have hM := (Ms.nil w).box 28 (tgV kind Ai ni ci Al nl cl Ap np cp)
  have hck := fun wx (hb : Below w.heap.size w wx) => RCheck13 kind Ai ni ci Al nl cl ids ll Ap np cp ps wx ((h.below hb).more hb.size) hf
  have Hpost := Lib.hid (show (∀ w', Below w.heap.size w w' → okG kind ids ll np ps = false → WritePost w (okG kind ids ll np ps) (writeT kind ids ll ps) (.returned (.tuple #[.slice none 0 0, .int .i64 1])) w') ∧ (∀ w' A n c l, Below w.heap.size w w' → okG kind ids ll np ps = true → w'.ownsRow w.heap.size 5 1 (.slice A n c) n (l.map bv) → l = writeT kind ids ll ps → WritePost w (okG kind ids ll np ps) (writeT kind ids ll ps) (.returned (.tuple #[.slice A n c, .int .i64 0])) w') from
    ⟨fun w' h1 h2 => ⟨h1, .inl ⟨h2, rfl⟩⟩, fun w' A n c l h1 h2 h3 h4 => ⟨h1, .inr ⟨h2, A, n, c, rfl, by rw [← h4]; exact h3⟩⟩⟩)
  generalize WritePost w (okG kind ids ll np ps) (writeT kind ids ll ps) = PO at *
  go_enter Tryd.func18, Tryd.ntmps18
  go_upto_region 1 with fail
  try simp only [Act.put]
  obtain ⟨g, hg⟩ : ∃ g, g = w.heap.size := ⟨_, rfl⟩
  rw [← hg] at hM ⊢
  refine wp_gen (fun wx => Ms w wx [(g, 28, tgV kind Ai ni ci Al nl cl Ap np cp)]) hM ?_
  clear hM
  have Hg := Lib.hid hg
  clear hg
  rintro w0 hM0
  go_wp2_with ((with_reducible show wpList _ _ _ (⟨some 13, _, _, _, _, _⟩ :: _) _ _); refine wpList_loadC (by kernel_rfl) 28 (.tmp 1) rfl g rfl 28 (tgV kind Ai ni ci Al nl cl Ap np cp) _ (hM0.get 0 rfl) Tryd.underlying28 rfl tgInfo2 ?_)
  refine (hck _ hM0.old).mono ?_
  rintro e w1 ⟨he, hb1⟩
  subst he
  have hM1 := hM0.call hb1
  have hold := hM1.old
  clear hM0 hb1 hck
  by_cases hok : okG kind ids ll np ps = true
  rotate_left
  · have HF := Lib.hid (Hpost.out.1 w1 hold (by simpa using hok))
    rw [chkG, if_neg hok]
    clear hM1
    go_wp2_with fail
    exact HF.out
  rw [chkG, if_pos hok]
  have Hok := Lib.hid hok
  clear hok
  go_upto_region 3 with fail
  rename_i K hK0
  have hm := okG_mayD Hok.out
  have hR := hM1.get 0 rfl
  have hT1 := h.below hold
  have hg1 : g + 1 ≤ w1.heap.size := hR.lt
  obtain ⟨hf1, hf2, hf3⟩ := few_len hf
  have Hni := Lib.hid h.sh.hni
  have Hnl := Lib.hid h.sh.hnl
  have hn1 : ni ≤ 1100 := by rw [← h.sh.hni]; exact hf2
  have hn2 : nl ≤ 20 := by rw [← h.sh.hnl]; exact hf3
  have Hids := Lib.hid (okI_mem (chkT_lv hm.2.1).2.1)
  have Hf1 := Lib.hid hf1
  have Hpl := Lib.hid h.pts.len
  have hnp : np ≤ 2000 := by
    have h1 := Hok.out
    rw [okG, Bool.and_eq_true, Bool.and_eq_true, Bool.and_eq_true, decide_eq_true_eq, decide_eq_true_eq] at h1
    have h2 := nodesU_len kind ids ll
    omega
  have H23 := Lib.hid (fun (l : List Int) (hl : l ∈ ll) => show ∀ x : Int, x ∈ l → x = 2 ∨ x = 3 from fun x hx => by
    have h1 := (chkT_lv hm.2.1).2.2.2 l hl
    rw [in23, List.all_eq_true] at h1
    simpa using h1 x hx)
  have hall : ∀ (v16 v17 v18 v19 v20 v21 v22 v23 v24 v25 v26 : Value) (A : Option Addr) (n c : Nat) (w2 : World), Below (g + 1) w1 w2 → w2.ownsRow (g + 1) 5 1 (.slice A n c) n ((byteU kind :: be 2 ids.length).map bv) → K ⟨#[.agg (tgV kind Ai ni ci Al nl cl Ap np cp), .pointer (some ⟨g, 0, none⟩), .slice none 0 0, .int .i64 0, .slice A n c, undef, undef, undef, undef, undef, undef, undef, undef, .agg (tgV kind Ai ni ci Al nl cl Ap np cp), .int .i64 0, .bool false, v16, v17, v18, v19, v20, v21, v22, v23, v24, v25, v26, undef, undef, undef, undef, undef, undef, undef, undef, undef, undef, undef, undef, undef, undef, undef, undef, undef, undef, undef, undef, undef, undef, undef, undef, undef, undef, undef, undef, undef, undef, undef, undef, undef, undef, undef, undef, undef, undef, undef, undef, undef, undef, undef, undef, undef, undef, undef, undef, undef, undef, undef, undef, undef, undef, undef, undef, undef, undef, undef, undef, undef], []⟩ w2 := by
    intro v16 v17 v18 v19 v20 v21 v22 v23 v24 v25 v26 A n c w2 hb2 hown
    refine hK0 _ _ ?_
    clear hK0
    have c1 := (hR.below hb2 (Nat.lt_succ_self g)).cell (i := 1) (v := .slice Ai ni ci) rfl
    have HO := Lib.hid hown
    have HB2 := Lib.hid hb2
    clear hown hb2
    go_wp2_with fail
    go_loopw [4, 31] (fun v4 v31 wr => ∃ (j n : Nat) (A : Option Addr) (c : Nat), j ≤ ni ∧ v31 = .int .i64 (j : Int) ∧ v4 = .slice A n c ∧ wr.ownsRow (g + 1) 5 1 (.slice A n c) n (((byteU kind :: be 2 ids.length) ++ (ids.take j).flatMap idB).map bv) ∧ Below (g + 1) w1 wr) (fun _ v31 _ => ni - (intOf v31).toNat)
    case atStart => exact ⟨0, n, A, c, by omega, rfl, rfl, by simpa using HO.out, HB2.out⟩
    case round =>
      clear HO HB2 c1
      obtain ⟨j, n, A, c, hj, rfl, rfl, hown, hb⟩ := hrel
      have hbw := hb.mono (show w.heap.size ≤ g + 1 by have := Hg.out; omega)
      have hsz : g + 1 ≤ wr.heap.size := Nat.le_trans hg1 hb.size
      by_cases hjn : j < ni
      · obtain ⟨b, o, x, rfl, _, hx, q0⟩ := rdI_num (hT1.sh.hids.below hbw) hjn
        obtain ⟨hx0, hx1⟩ := Hids.out x (List.mem_of_getElem? hx)
        obtain ⟨m, rfl⟩ : ∃ m : Nat, x = (m : Int) := ⟨x.toNat, by omega⟩
        have hn : n ≤ 4403 + 4 * j := by
          have h1 := hown.1
          have h2 := flat_le (f := idB) (m := 4) (ids.take j) (fun y _ => by rw [idB, be_length]; exact Nat.le_refl _)
          rw [List.length_take] at h2
          simp only [List.length_map, List.length_append, List.length_cons, be_length] at h1
          omega
        have Hx := Lib.hid hx
        have zc : IntKind.u64.wrap (m : Int) = (m : Int) := by rw [IntKind.wrap_u64]; omega
        have zj : (j : Int) < (ni : Int) := by omega
        clear hx
        go_wp2_with (first
          | (go_at_call 30; refine (Bytes_any 4 m _ (by omega) (by omega)).mono ?_; rintro e w3 ⟨A3, c3, rfl, hown3, hbel3⟩; have hown' := own_below hown hbel3; have hs3 := hbel3.size)
          | (at_builtin; refine wpList_append_rd _ rfl (.tmp 35) (.tmp 38) _ rfl (g + 1) 5 i0 _ 1 Tryd.underlying41 hi0 hz0 hz1 hz2 rfl (.slice A n c) n _ rfl hown' w3.heap.size A3 4 c3 ((be 4 m).map bv) rfl (Rd.of_own hown3) (one_bv _) (by simp only [maxLen]; omega) (by omega) (Nat.le_trans hsz hs3) ?_; intro v4 w4 hown4 hgr4 hat4))
        go_roundw
        case rel =>
          obtain ⟨A4, c4, rfl, _, _⟩ := own_form hown4
          refine ⟨j + 1, n + 4, A4, c4, by omega, by go_num, rfl, ?_, (hb.trans (hbel3.mono hsz)).grown hgr4 (Nat.le_trans hsz hs3) (fun k hk => (hown'.lt k hk).1)⟩
          rw [take_flat Hx.out, ← List.append_assoc, List.map_append (l₂ := idB _)]
          exact hown4
        case measure => simp [intOf]; omega
      · obtain rfl : j = ni := by omega
        rw [show ids.take j = ids by rw [← Hni.out]; exact List.take_length] at hown
        have c2 := (hR.below hb (Nat.lt_succ_self g)).cell (i := 2) (v := .slice Al nl cl) rfl
        have hn : n ≤ 8803 := by
          have h1 := hown.1
          have h2 := flat_le (f := idB) (m := 4) ids (fun y _ => by rw [idB, be_length]; exact Nat.le_refl _)
          have := Hni.out
          simp only [List.length_map, List.length_append, List.length_cons, be_length] at h1
          omega
        obtain ⟨P1, hP1⟩ : ∃ P, P = (byteU kind :: be 2 ids.length) ++ ids.flatMap idB := ⟨_, rfl⟩
        rw [← hP1] at hown
        have HP1 := Lib.hid hP1
        have zb : IntKind.u8.wrap (nl : Int) = (nl : Int) := by rw [IntKind.wrap_u8]; omega
        have hal := d_al wr (.cells #[.int .u8 (nl : Int)] 5)
        have hown' := own_below hown hal
        have hsa := hal.size
        have hb' := hb.alloc hsz (.cells #[.int .u8 (nl : Int)] 5)
        have hzA : (wr.alloc (.cells #[.int .u8 (nl : Int)] 5)).heap.size = wr.heap.size + 1 := by simp
        clear hP1 hown hal
        have hone : ∀ u ∈ [Value.int .u8 (nl : Int)], u.oneCell' = true := by intro u hu; simp at hu; subst hu; rfl
        have hnews := (Rd.mk_ wr 5 #[.int .u8 (nl : Int)] (b := wr.heap.size) (B := wr.heap.size + 1) (n := 1) (l := [.int .u8 (nl : Int)]) rfl (by omega) rfl rfl)
        go_upto_region 10 with (at_builtin; refine wpList_append_rd _ rfl (.tmp 41) (.tmp 47) _ rfl (g + 1) 5 i0 _ 1 Tryd.underlying41 hi0 hz0 hz1 hz2 rfl (.slice A n c) n _ rfl hown' (wr.heap.size + 1) (some ⟨wr.heap.size, 0, none⟩) 1 1 [.int .u8 (nl : Int)] rfl hnews hone (by simp only [maxLen]; omega) (by omega) (by rw [hzA]; omega) ?_; intro v2 w2 hown2 hgr2 hat2)
        try simp only [Act.put]
        have hb2 := hb'.grown hgr2 (by rw [hzA]; omega) (fun k hk => (hown'.lt k hk).1)
        rw [show [Value.int .u8 (nl : Int)] = [UInt8.ofNat ll.length].map bv by
          rw [Hnl.out]
          have : nl % 256 = nl := Nat.mod_eq_of_lt (by omega)
          simp [bv, this], ← List.map_append] at hown2
        obtain ⟨A2, c2', rfl, _, _⟩ := own_form hown2
        obtain ⟨vs, hvs, hls⟩ := hT1.sh.lvs
        have HO := Lib.hid hown2
        have HB2 := Lib.hid hb2
        have c2 := (hR.below hb2 (Nat.lt_succ_self g)).cell (i := 2) (v := .slice Al nl cl) rfl
        clear hown2 hb2 hgr2 hat2 hnews hone hown' hb' hsa hzA hb hbw
        go_wp2_with fail
        go_loopw [4, 53] (fun v4 v53 wx => ∃ (j n : Nat) (A : Option Addr) (c : Nat), j ≤ nl ∧ v53 = .int .i64 (j : Int) ∧ v4 = .slice A n c ∧ wx.ownsRow (g + 1) 5 1 (.slice A n c) n ((P1 ++ [UInt8.ofNat ll.length] ++ (ll.take j).flatMap lvB).map bv) ∧ Below (g + 1) w1 wx) (fun _ v53 _ => nl - (intOf v53).toNat)
        case atStart => exact ⟨0, _, A2, c2', by omega, rfl, rfl, by simpa using HO.out, HB2.out⟩
        case round =>
          clear HO HB2 c2
          obtain ⟨j, n, A, c, hj, rfl, rfl, hown, hb⟩ := hrel
          have hbw := hb.mono (show w.heap.size ≤ g + 1 by have := Hg.out; omega)
          have hsz : g + 1 ≤ wr.heap.size := Nat.le_trans hg1 hb.size
          have hn : n ≤ 40000 := by
            have h1 := hown.1
            have h2 := flat_le (f := lvB) (m := 1102) (ll.take j) (fun y hy => by
              have := Hf1.out y (List.mem_of_mem_take hy)
              rw [lvB, List.length_append, be_length, List.length_map]
              omega)
            have h3 := flat_le (f := idB) (m := 4) ids (fun y _ => by rw [idB, be_length]; exact Nat.le_refl _)
            have := Hni.out
            have := Hnl.out
            rw [List.length_take] at h2
            simp only [HP1.out, List.length_map, List.length_append, List.length_cons, List.length_nil, be_length] at h1
            omega
          by_cases hjn : j < nl
          · have hjl : j < ll.length := by rw [Hnl.out]; exact hjn
            obtain ⟨Av, cv, hv, hvc, hvm, hrv⟩ := hls.get hjl
            obtain ⟨b, o, rfl, _, hcc⟩ := (hvs.below hbw).pos (by omega)
            have q0 := hcc j _ hv
            have Hx := Lib.hid (List.getElem?_eq_getElem hjl)
            have hln := Hf1.out _ (List.getElem_mem hjl)
            have H23 := Lib.hid (H23.out _ (List.getElem_mem hjl))
            generalize ll[j] = l at *
            obtain ⟨ln, hln2⟩ : ∃ k, k = l.length := ⟨_, rfl⟩
            rw [← hln2] at q0 hln hvc hrv
            have Hln := Lib.hid hln2
            clear hv hcc hln2 hvm
            have zc : IntKind.u64.wrap (ln : Int) = (ln : Int) := by rw [IntKind.wrap_u64]; omega
            have zj : (j : Int) < (nl : Int) := by omega
            go_upto_region 14 with (first
              | (go_at_call 30; refine (Bytes_any 2 ln _ (by omega) (by omega)).mono ?_; rintro e w3 ⟨A3, c3, rfl, hown3, hbel3⟩; have hown' := own_below hown hbel3; have hs3 := hbel3.size)
              | (at_builtin; refine wpList_append_rd _ rfl (.tmp 57) (.tmp 61) _ rfl (g + 1) 5 i0 _ 1 Tryd.underlying41 hi0 hz0 hz1 hz2 rfl (.slice A n c) n _ rfl hown' w3.heap.size A3 2 c3 ((be 2 ln).map bv) rfl (Rd.of_own hown3) (one_bv _) (by simp only [maxLen]; omega) (by omega) (Nat.le_trans hsz hs3) ?_; intro v4 w4 hown4 hgr4 hat4))
            try simp only [Act.put]
            have hb4 := (hb.trans (hbel3.mono hsz)).grown hgr4 (Nat.le_trans hsz hs3) (fun k hk => (hown'.lt k hk).1)
            rw [← List.map_append] at hown4
            obtain ⟨A4, c4, rfl, _, _⟩ := own_form hown4
            obtain ⟨P2, hP2⟩ : ∃ P, P = P1 ++ [UInt8.ofNat ll.length] ++ (ll.take j).flatMap lvB ++ be 2 ln := ⟨_, rfl⟩
            rw [← hP2] at hown4
            have HP2 := Lib.hid hP2
            have HO := Lib.hid hown4
            have HB4 := Lib.hid hb4
            clear hP2 hown4 hb4 hgr4 hat4 hown3 hbel3 hown' hs3 hown hb hbw hsz q0
            go_wp2_with fail
            go_loopw [4, 65] (fun v4 v65 wy => ∃ (k m : Nat) (A : Option Addr) (c : Nat), k ≤ ln ∧ v65 = .int .i64 (k : Int) ∧ v4 = .slice A m c ∧ m = n + 2 + k ∧ wy.ownsRow (g + 1) 5 1 (.slice A m c) m ((P2 ++ (l.take k).map byteU).map bv) ∧ Below (g + 1) w1 wy) (fun _ v65 _ => ln - (intOf v65).toNat)
            case atStart => exact ⟨0, n + 2, A4, c4, by omega, rfl, rfl, rfl, by simpa using HO.out, HB4.out⟩
            case round =>
              clear HO HB4
              obtain ⟨k, m, A, c, hk, rfl, rfl, hmm, hown, hb⟩ := hrel
              have hbw := hb.mono (show w.heap.size ≤ g + 1 by have := Hg.out; omega)
              have hsz : g + 1 ≤ wr.heap.size := Nat.le_trans hg1 hb.size
              have hm4 : m ≤ 50000 := by omega
              by_cases hkn : k < ln
              · obtain ⟨b', o', x, rfl, _, hx, q0⟩ := rdI_num (hrv.below hbw) hkn
                have h23 := H23.out x (List.mem_of_getElem? hx)
                obtain ⟨y, rfl⟩ : ∃ y : Nat, x = (y : Int) := ⟨x.toNat, by omega⟩
                have hy3 : y ≤ 3 := by omega
                have Hy := Lib.hid hx
                have zb : IntKind.u8.wrap (y : Int) = (y : Int) := by rw [IntKind.wrap_u8]; omega
                have zk : (k : Int) < (ln : Int) := by omega
                have hown' := own_below hown (d_al wr (.cells #[.int .u8 (y : Int)] 5))
                have hb' := hb.alloc hsz (.cells #[.int .u8 (y : Int)] 5)
                have hzA : (wr.alloc (.cells #[.int .u8 (y : Int)] 5)).heap.size = wr.heap.size + 1 := by simp
                have hone : ∀ u ∈ [Value.int .u8 (y : Int)], u.oneCell' = true := by intro u hu; simp at hu; subst hu; rfl
                have HE := Lib.hid (show (P2 ++ (l.take (k + 1)).map byteU).map bv = (P2 ++ (l.take k).map byteU).map bv ++ [Value.int .u8 (y : Int)] by
                  obtain ⟨hkl, e⟩ := List.getElem?_eq_some_iff.1 hx
                  have : y % 256 = y := Nat.mod_eq_of_lt (by omega)
                  rw [List.take_succ_eq_append_getElem hkl, e]
                  simp [bv, byteU, this])
                have Hmm := Lib.hid hmm
                have hnews := (Rd.mk_ wr 5 #[.int .u8 (y : Int)] (b := wr.heap.size) (B := wr.heap.size + 1) (n := 1) (l := [.int .u8 (y : Int)]) rfl (by omega) rfl rfl)
                clear hx h23 hb hbw hown hmm
                go_wp2_with (at_builtin; refine wpList_append_rd _ rfl (.tmp 69) (.tmp 72) _ rfl (g + 1) 5 i0 _ 1 Tryd.underlying41 hi0 hz0 hz1 hz2 rfl (.slice A m c) m _ rfl hown' (wr.heap.size + 1) (some ⟨wr.heap.size, 0, none⟩) 1 1 [.int .u8 (y : Int)] rfl hnews hone (by simp only [maxLen]; omega) (by omega) (by rw [hzA]; omega) ?_; intro v2 w2 hown2 hgr2 hat2)
                go_roundw
                case rel =>
                  obtain ⟨A2, c2, rfl, _, _⟩ := own_form hown2
                  refine ⟨k + 1, m + 1, A2, c2, by omega, by go_num, rfl, by have := Hmm.out; omega, ?_, hb'.grown hgr2 (by rw [hzA]; omega) (fun q hq => (hown'.lt q hq).1)⟩
                  rw [HE.out]
                  exact hown2
                case measure => simp [intOf]; omega
              · obtain rfl : k = ln := by omega
                rw [show l.take k = l by rw [Hln.out]; exact List.take_length] at hown
                have HO := Lib.hid hown
                have HB := Lib.hid hb
                have HE := Lib.hid (show P1 ++ [UInt8.ofNat ll.length] ++ (ll.take (j + 1)).flatMap lvB = P2 ++ l.map byteU by
                  rw [take_flat Hx.out, HP2.out, lvB, ← Hln.out]
                  simp only [List.append_assoc])
                clear hown hb hbw hmm
                go_wp2_with fail
                go_roundw
                case rel => exact ⟨j + 1, m, A, c, by omega, by go_num, rfl, by rw [HE.out]; exact HO.out, HB.out⟩
                case measure => simp [intOf]; omega
          · obtain rfl : j = nl := by omega
            rw [show ll.take j = ll by rw [← Hnl.out]; exact List.take_length] at hown
            obtain ⟨P3, hP3⟩ : ∃ P, P = P1 ++ [UInt8.ofNat ll.length] ++ ll.flatMap lvB := ⟨_, rfl⟩
            rw [← hP3] at hown
            have HP3 := Lib.hid hP3
            have c3 := (hR.below hb (Nat.lt_succ_self g)).cell (i := 3) (v := .slice Ap np cp) rfl
            have HO := Lib.hid hown
            have HB := Lib.hid hb
            clear hP3 hown hb hbw
            go_wp2_with fail
            go_loopw [4, 79] (fun v4 v79 wy => ∃ (k m : Nat) (A : Option Addr) (c : Nat), k ≤ np ∧ v79 = .int .i64 (k : Int) ∧ v4 = .slice A m c ∧ m = n + 32 * k ∧ wy.ownsRow (g + 1) 5 1 (.slice A m c) m ((P3 ++ ps.take (k * 32)).map bv) ∧ Below (g + 1) w1 wy) (fun _ v79 _ => np - (intOf v79).toNat)
            case atStart => exact ⟨0, n, A, c, by omega, rfl, rfl, rfl, by simpa using HO.out, HB.out⟩
            case round =>
              clear HO HB c3
              obtain ⟨k, m, A, c, hk, rfl, rfl, hmm, hown, hb⟩ := hrel
              have hbw := hb.mono (show w.heap.size ≤ g + 1 by have := Hg.out; omega)
              have hsz : g + 1 ≤ wr.heap.size := Nat.le_trans hg1 hb.size
              have hm4 : m ≤ 110000 := by omega
              by_cases hkn : k < np
              · obtain ⟨b, o, rfl, _, hr⟩ := (hT1.pts.below hbw).range hkn
                have hkl := keyI_len Hpl.out hkn
                have HE := Lib.hid (show (P3 ++ ps.take ((k + 1) * 32)).map bv = (P3 ++ ps.take (k * 32)).map bv ++ (keyI ps k).map bv by
                  rw [show (k + 1) * 32 = k * 32 + 32 by omega, List.take_add, ← List.append_assoc, List.map_append (l₂ := (ps.drop (k * 32)).take 32)]
                  rfl)
                have zk : (k : Int) < (np : Int) := by omega
                have hsk := sizeKeyL hkl
                have hsa := sizeKey hkl
                have hput := ((Ms.nil wr).put 36 (keyC zeroK) (keyC (keyI ps k)))
                rw [keyC_zero] at hput
                have Hmm := Lib.hid hmm
                generalize keyI ps k = ky at *
                have hone := one_keyF ky
                have hown' := own_below hown hput.old
                have hb' := hb.trans (hput.old.mono hsz)
                clear hown hb hbw hmm
                go_upto_region 23 with (first
                  | ((with_reducible show wpList _ _ _ (⟨some 82, _, _, _, _, _⟩ :: _) _ _); refine wpList_load_midG (by kernel_rfl) 36 (.tmp 81) rfl b (o + k * 32) rfl (keyC ky).toList _ hr Tryd.underlying36 rfl hsk ?_)
                  | ((with_reducible show wpList _ _ _ (⟨none, Op.store 36 _ _, _, _, _, _⟩ :: _) _ _); refine wpList_store_row rfl 36 (.tmp 12) (.tmp 82) rfl wr.heap.size (keyC ky) rfl rfl 36 _ (RowC.new _ _ _) hsa (by rw [keyC_size, hkl]; rfl) hone ?_))
                try simp only [Act.put]
                obtain ⟨gk, hgk⟩ : ∃ q, q = wr.heap.size := ⟨_, rfl⟩
                rw [← hgk] at hput hown' hb' hsz ⊢
                refine wp_gen (fun wx => Ms wr wx [(gk, 36, keyC ky)] ∧ wx.ownsRow (g + 1) 5 1 (.slice A m c) m ((P3 ++ ps.take (k * 32)).map bv) ∧ Below (g + 1) w1 wx) ⟨hput, hown', hb'⟩ ?_
                clear hput hown' hb' hr hsk hone hgk
                rintro wA ⟨hMA, hown', hb'⟩
                have hrow := hMA.get 0 rfl
                have hnews : Rd wA (gk + 1) (some ⟨gk, 0, none⟩) 32 (ky.map bv) := ⟨by simpa using hkl, fun _ => ⟨gk, 0, rfl, by omega, fun q u hu => by
                  rw [Nat.zero_add]
                  exact hrow.cell (by simpa [keyC] using hu)⟩⟩
                have hszA : g + 1 ≤ wA.heap.size := Nat.le_trans hg1 hb'.size
                clear hMA hrow
                go_wp2_with (at_builtin; refine wpList_append_rd _ rfl (.tmp 83) (.tmp 84) _ rfl (g + 1) 5 i0 _ 1 Tryd.underlying41 hi0 hz0 hz1 hz2 rfl (.slice A m c) m _ rfl hown' (gk + 1) (some ⟨gk, 0, none⟩) 32 32 (ky.map bv) rfl hnews (one_bv _) (by simp only [maxLen]; omega) (by omega) hszA ?_; intro v2 w2 hown2 hgr2 hat2)
                go_roundw
                case rel =>
                  obtain ⟨A2, c2, rfl, _, _⟩ := own_form hown2
                  refine ⟨k + 1, m + 32, A2, c2, by omega, by go_num, rfl, by have := Hmm.out; omega, ?_, hb'.grown hgr2 hszA (fun q hq => (hown'.lt q hq).1)⟩
                  rw [HE.out]
                  exact hown2
                case measure => simp [intOf]; omega
              · obtain rfl : k = np := by omega
                rw [show ps.take (k * 32) = ps by rw [← Hpl.out]; exact List.take_length] at hown
                have hfin := Hpost.out.2 wr A m c _ ((hold.trans (hb.mono (show w.heap.size ≤ g + 1 by have := Hg.out; omega)))) Hok.out (own_lower hown (show w.heap.size ≤ g + 1 by have := Hg.out; omega)) (by rw [HP3.out, HP1.out, writeT]; simp only [List.append_assoc, List.cons_append, List.nil_append])
                have HF := Lib.hid hfin
                clear hown hb hbw hmm hfin
                go_wp2_with fail
                exact HF.out
  have hkeep : ∀ wx : World, Below w1.heap.size w1 wx → wx.cell? ⟨g, 0, none⟩ = some (.int .i64 kind) ∧ wx.cell? ⟨g, 1, none⟩ = some (.slice Ai ni ci) := fun wx hb => ⟨(hR.call hb).cell rfl, (hR.call hb).cell rfl⟩
  have zk8 : IntKind.u8.wrap kind = kind := by
    rw [IntKind.wrap_u8]
    rcases hm.1 with h | h <;> rw [h] <;> rfl
  have zc : IntKind.u64.wrap (ni : Int) = (ni : Int) := by rw [IntKind.wrap_u64]; omega
  have HE := Lib.hid (show (byteU kind :: be 2 ids.length).map bv = [Value.int .u8 kind] ++ (be 2 ni).map bv by
    rw [List.map_cons, Hni.out]
    rcases hm.1 with h | h <;> rw [h] <;> rfl)
  have Hall := Lib.hid hall
  have hdr : Below w1.heap.size w1 w1.drew := c_drew (c_refl _)
  have hone : ∀ u ∈ [Value.int .u8 kind], u.oneCell' = true := by intro u hu; simp at hu; subst hu; rfl
  clear hall hK0 Hpost hM1 hold h hf hT1 H23 Hids Hf1 Hok hf1 hf2 hf3
  refine beginT (fun wx => wx.cell? ⟨g, 0, none⟩ = some (.int .i64 kind) ∧ wx.cell? ⟨g, 1, none⟩ = some (.slice Ai ni ci)) 12 (by kernel_rfl) ?_
  have hS := hkeep _ hdr
  refine takeD 0 (some 16) (.pointer (some ⟨g, 0, none⟩)) rfl rfl (by kernel_rfl) (by kernel_rfl) (by kernel_rfl) (by kernel_rfl) (fun _ _ _ h => h) (Or.inl ⟨by kernel_rfl, fun wx hSw => by go_simp⟩) hS ?_
  simp only [Act.put, List.setIfInBounds_toArray, List.set_cons_zero, List.set_cons_succ]
  refine takeD 1 (some 17) (.int .i64 kind) rfl rfl (by kernel_rfl) (by kernel_rfl) (by kernel_rfl) (by kernel_rfl) (fun _ _ _ h => h) (Or.inl ⟨by kernel_rfl, fun wx hSw => by go_simp⟩) hS ?_
  simp only [Act.put, List.setIfInBounds_toArray, List.set_cons_zero, List.set_cons_succ]
  refine takeD 2 (some 18) (.int .u8 kind) rfl rfl (by kernel_rfl) (by kernel_rfl) (by kernel_rfl) (by kernel_rfl) (fun _ _ _ h => h) (Or.inl ⟨by kernel_rfl, fun wx hSw => by go_simp⟩) hS ?_
  simp only [Act.put, List.setIfInBounds_toArray, List.set_cons_zero, List.set_cons_succ]
  refine takeD 4 (some 20) (.pointer (some ⟨g, 1, none⟩)) rfl rfl (by kernel_rfl) (by kernel_rfl) (by kernel_rfl) (by kernel_rfl) (fun _ _ _ h => h) (Or.inl ⟨by kernel_rfl, fun wx hSw => by go_simp⟩) hS ?_
  simp only [Act.put, List.setIfInBounds_toArray, List.set_cons_zero, List.set_cons_succ]
  refine takeD 5 (some 21) (.pointer (some ⟨g, 1, none⟩)) rfl rfl (by kernel_rfl) (by kernel_rfl) (by kernel_rfl) (by kernel_rfl) (fun _ _ _ h => h) (Or.inl ⟨by kernel_rfl, fun wx hSw => by go_simp⟩) hS ?_
  simp only [Act.put, List.setIfInBounds_toArray, List.set_cons_zero, List.set_cons_succ]
  refine takeD 6 (some 22) (.slice Ai ni ci) rfl rfl (by kernel_rfl) (by kernel_rfl) (by kernel_rfl) (by kernel_rfl) (fun _ _ _ h => h) (Or.inl ⟨by kernel_rfl, fun wx hSw => by go_simp⟩) hS ?_
  simp only [Act.put, List.setIfInBounds_toArray, List.set_cons_zero, List.set_cons_succ]
  refine takeD 7 (some 23) (.int .i64 (ni : Int)) rfl rfl (by kernel_rfl) (by kernel_rfl) (by kernel_rfl) (by kernel_rfl) (fun _ _ _ h => h) (Or.inl ⟨by kernel_rfl, fun wx hSw => by go_simp⟩) hS ?_
  simp only [Act.put, List.setIfInBounds_toArray, List.set_cons_zero, List.set_cons_succ]
  refine takeD 8 (some 24) (.int .u64 (ni : Int)) rfl rfl (by kernel_rfl) (by kernel_rfl) (by kernel_rfl) (by kernel_rfl) (fun _ _ _ h => h) (Or.inl ⟨by kernel_rfl, fun wx hSw => by go_simp⟩) hS ?_
  simp only [Act.put, List.setIfInBounds_toArray, List.set_cons_zero, List.set_cons_succ]
  have hgd : g + 1 ≤ w1.drew.heap.size := hg1
  generalize w1.drew = wd at *
  refine readyT [3, 9] (by kernel_rfl) (by simp) (AllReadyT.cons rfl (fun K2 hK2 => ?_) (AllReadyT.cons rfl (fun K2 hK2 => ?_) AllReadyT.nil))
  · have hal := d_al wd (.cells #[.int .u8 kind] 5)
    have hb2 := c_call hdr hal
    have hown := own_new wd (g + 1) 5 #[.int .u8 kind] hgd (by simp [maxLen])
    go_simp
    refine hK2.out _ _ (fun _ => hkeep _ hb2) ?_
    clear hK2 K2
    try simp only [Act.put, List.setIfInBounds_toArray, List.set_cons_zero, List.set_cons_succ]
    have hs2 := hal.size
    generalize hwa : wd.alloc (.cells #[.int .u8 kind] 5) = wa at *
    refine oneT 9 (by kernel_rfl) rfl (fun K2 hK2 => ?_)
    go_simp
    refine (Bytes_any 2 ni wa (by omega) (by omega)).mono ?_
    rintro e w3 ⟨A3, c3, rfl, hown3, hbel3⟩
    have hb3 := c_call hb2 hbel3
    have hown' := own_below hown hbel3
    have hs3 := hbel3.size
    refine hK2.out _ _ (fun _ => hkeep _ hb3) ?_
    clear hK2 K2
    try simp only [Act.put, List.setIfInBounds_toArray, List.set_cons_zero, List.set_cons_succ]
    refine oneT 10 (by kernel_rfl) rfl (fun K2 hK2 => ?_)
    refine step_append_rdT (by kernel_rfl) (some 26) rfl (.tmp 19) (.tmp 25) _ rfl (g + 1) 5 i0 _ 1 Tryd.underlying41 hi0 hz0 hz1 hz2 rfl (.slice (some ⟨wd.heap.size, 0, none⟩) 1 1) 1 [.int .u8 kind] rfl hown' w3.heap.size A3 2 c3 ((be 2 ni).map bv) rfl (Rd.of_own hown3) (one_bv _) (by simp only [maxLen]; omega) (by omega) (by omega) ?_
    intro v4 w4 hown4 hgr4 hat4
    obtain ⟨A4, c4, rfl, _, _⟩ := own_form hown4
    have hB4 : Below (g + 1) w1 w4 := (hb3.mono hg1).grown hgr4 (by omega) (fun q hq => (hown'.lt q hq).1)
    have hS4 : w4.cell? ⟨g, 0, none⟩ = some (.int .i64 kind) ∧ w4.cell? ⟨g, 1, none⟩ = some (.slice Ai ni ci) := ⟨(hR.below hB4 (Nat.lt_succ_self g)).cell rfl, (hR.below hB4 (Nat.lt_succ_self g)).cell rfl⟩
    refine hK2.out _ _ (fun _ => hS4) ?_
    clear hK2 K2
    try simp only [Act.put, List.setIfInBounds_toArray, List.set_cons_zero, List.set_cons_succ]
    refine oneT 11 (by kernel_rfl) rfl (fun K2 hK2 => ?_)
    try go_simp
    refine hK2.out _ _ (fun _ => hS4) ?_
    clear hK2 K2
    refine doneT (by kernel_rfl) ?_ _
    exact Hall.out _ _ _ _ _ _ _ _ _ _ _ A4 3 c4 w4 hB4 (by rw [HE.out]; exact hown4)
  · go_simp
    refine (Bytes_any 2 ni wd (by omega) (by omega)).mono ?_
    rintro e w3 ⟨A3, c3, rfl, hown3, hbel3⟩
    have hb3 := c_call hdr hbel3
    have hs3 := hbel3.size
    refine hK2.out _ _ (fun _ => hkeep _ hb3) ?_
    clear hK2 K2
    try simp only [Act.put, List.setIfInBounds_toArray, List.set_cons_zero, List.set_cons_succ]
    have hal := d_al w3 (.cells #[.int .u8 kind] 5)
    have hb4 := c_call hb3 hal
    have hown := own_new w3 (g + 1) 5 #[.int .u8 kind] (by omega) (by simp [maxLen])
    have hown3' := own_below hown3 hal
    have hs4 := hal.size
    refine oneT 3 (by kernel_rfl) rfl (fun K2 hK2 => ?_)
    go_simp
    refine hK2.out _ _ (fun _ => hkeep _ hb4) ?_
    clear hK2 K2
    try simp only [Act.put, List.setIfInBounds_toArray, List.set_cons_zero, List.set_cons_succ]
    generalize hwa : w3.alloc (.cells #[.int .u8 kind] 5) = wa at *
    refine oneT 10 (by kernel_rfl) rfl (fun K2 hK2 => ?_)
    refine step_append_rdT (by kernel_rfl) (some 26) rfl (.tmp 19) (.tmp 25) _ rfl (g + 1) 5 i0 _ 1 Tryd.underlying41 hi0 hz0 hz1 hz2 rfl (.slice (some ⟨w3.heap.size, 0, none⟩) 1 1) 1 [.int .u8 kind] rfl hown wa.heap.size A3 2 c3 ((be 2 ni).map bv) rfl (Rd.of_own hown3') (one_bv _) (by simp only [maxLen]; omega) (by omega) (by omega) ?_
    intro v4 w4 hown4 hgr4 hat4
    obtain ⟨A4, c4, rfl, _, _⟩ := own_form hown4
    have hB4 : Below (g + 1) w1 w4 := (hb4.mono hg1).grown hgr4 (by omega) (fun q hq => (hown.lt q hq).1)
    have hS4 : w4.cell? ⟨g, 0, none⟩ = some (.int .i64 kind) ∧ w4.cell? ⟨g, 1, none⟩ = some (.slice Ai ni ci) := ⟨(hR.below hB4 (Nat.lt_succ_self g)).cell rfl, (hR.below hB4 (Nat.lt_succ_self g)).cell rfl⟩
    refine hK2.out _ _ (fun _ => hS4) ?_
    clear hK2 K2
    try simp only [Act.put, List.setIfInBounds_toArray, List.set_cons_zero, List.set_cons_succ]
    refine oneT 11 (by kernel_rfl) rfl (fun K2 hK2 => ?_)
    try go_simp
    refine hK2.out _ _ (fun _ => hS4) ?_
    clear hK2 K2
    refine doneT (by kernel_rfl) ?_ _
    exact Hall.out _ _ _ _ _ _ _ _ _ _ _ A4 3 c4 w4 hB4 (by rw [HE.out]; exact hown4)

end Go.Proofs.YtlidhdljgnijaaaDoor

