import Derived.Test.YtlidhdljgnijaaaDoorL19
import Derived.Test.YtlidhdljgnijaaaDoorL23
import Derived.Test.YtlidhdljgnijaaaDoorL24
import Derived.Test.YtlidhdljgnijaaaDoorL30
import Derived.Test.YtlidhdljgnijaaaDoorL11
import Derived.Test.YtlidhdljgnijaaaDoorL12
import Derived.Test.YtlidhdljgnijaaaDoorL20
import Derived.Test.YtlidhdljgnijaaaDoorL15
import Derived.Lib.SlBytesConst
/-
  CONTRACT of coterieref13's Sums. Printed by gen_tagsums.py.
-/
set_option linter.unusedVariables false
namespace Go.Proofs.YtlidhdljgnijaaaDoor
open Go.RowKit

def SumsPost (w : World) (ok : Bool) (np : Nat) (l : List UInt8) (e : Ending) (w' : World) : Prop :=
  Below w.heap.size w w' ∧ ((ok = false ∧ e = .returned (.tuple #[.slice none 0 0, .int .i64 1])) ∨ (ok = true ∧ ∃ A c, e = .returned (.tuple #[.slice A np c, .int .i64 0]) ∧ w'.ownsRow w.heap.size 36 32 (.slice A np c) np (l.map bv)))

set_option maxRecDepth 100000 in
set_option maxHeartbeats 16000000 in
theorem RSums13 (kind : Int) (Ai : Option Addr) (ni ci : Nat) (Al : Option Addr) (nl cl : Nat) (ids : List Int) (ll : List (List Int)) (Ap : Option Addr) (np cp : Nat) (ps : List UInt8) (w : World) (h : TgR w w.heap.size Ai ni ci Al nl cl ids ll Ap np cp ps) (hf : fewT ids ll = true) (hK : KTab w) :
    Calls Tryd.prog 12 #[.agg (tgV kind Ai ni ci Al nl cl Ap np cp)] w (SumsPost w (okG kind ids ll np ps) np (sumsT kind ids ll ps np)) := by
  obtain ⟨i0, hi0, hz0, hz1, hz2⟩ := info_parts byteInfo
  obtain ⟨i1, hi1, hy0, hy1, hy2⟩ := info_parts textInfo
  obtain ⟨iK, hiK, hzK, hsK, hbK⟩ := info_parts infoKeyK
  have hM := (Ms.nil w).box 28 (tgV kind Ai ni ci Al nl cl Ap np cp)
  have hck := fun wx (hb : Below w.heap.size w wx) => RCheck13 kind Ai ni ci Al nl cl ids ll Ap np cp ps wx ((h.below hb).more hb.size) hf
  have hnd := fun wx (hb : Below w.heap.size w wx) => Nodes11_any kind Ai ni ci Al nl cl ids ll wx ((h.sh.below hb).more hb.size) hf
  have Hpost := Lib.hid (show (∀ w', Below w.heap.size w w' → okG kind ids ll np ps = false → SumsPost w (okG kind ids ll np ps) np (sumsT kind ids ll ps np) (.returned (.tuple #[.slice none 0 0, .int .i64 1])) w') ∧ (∀ w' A c l, Below w.heap.size w w' → okG kind ids ll np ps = true → w'.ownsRow w.heap.size 36 32 (.slice A np c) np (l.map bv) → l = sumsT kind ids ll ps np → SumsPost w (okG kind ids ll np ps) np (sumsT kind ids ll ps np) (.returned (.tuple #[.slice A np c, .int .i64 0])) w') from
    ⟨fun w' h1 h2 => ⟨h1, .inl ⟨h2, rfl⟩⟩, fun w' A c l h1 h2 h3 h4 => ⟨h1, .inr ⟨h2, A, c, rfl, by rw [← h4]; exact h3⟩⟩⟩)
  generalize SumsPost w (okG kind ids ll np ps) np (sumsT kind ids ll ps np) = PO at *
  have kc := fun (w : World) (C : Array Value) (n c : Nat) => Lib.run_convert_bytes_const (P := Tryd.prog) w 41 5 C n c Tryd.underlying41 Tryd.underlying5
  go_enter Tryd.func12, Tryd.ntmps12
  go_upto_region 1 with fail
  try simp only [Act.put]
  obtain ⟨g, hg⟩ : ∃ g, g = w.heap.size := ⟨_, rfl⟩
  rw [← hg] at hM ⊢
  refine wp_gen (fun wx => Ms w wx [(g, 28, tgV kind Ai ni ci Al nl cl Ap np cp)]) hM ?_
  clear hM
  have Hg := Lib.hid hg
  clear hg
  rintro w0 hM0
  go_wp2_with ((with_reducible show wpList _ _ _ (⟨some 15, _, _, _, _, _⟩ :: _) _ _); refine wpList_loadC (by kernel_rfl) 28 (.tmp 1) rfl g rfl 28 (tgV kind Ai ni ci Al nl cl Ap np cp) _ (hM0.get 0 rfl) Tryd.underlying28 rfl tgInfo2 ?_)
  refine (hck _ hM0.old).mono ?_
  rintro e w1 ⟨he, hb1⟩
  subst he
  have hM1 := hM0.call hb1
  have hold := hM1.old
  clear hM0 hb1 hck
  by_cases hok : okG kind ids ll np ps = true
  rotate_left
  · have HF := Lib.hid (Hpost.out.1 w1 hold (by simpa using hok))
    rw [chkG, if_neg hok]
    clear hM1
    go_wp2_with fail
    exact HF.out
  rw [chkG, if_pos hok]
  have Hok := Lib.hid hok
  have hmay : mayB kind ids ll = true := by rw [okG, Bool.and_eq_true] at hok; exact hok.1
  have hnp0 : (nodesI kind ids ll).length = np := by
    rw [okG, Bool.and_eq_true, Bool.and_eq_true, Bool.and_eq_true, decide_eq_true_eq, decide_eq_true_eq] at hok
    exact hok.2.2.1
  have hnp : np ≤ 2000 := by have h2 := nodesU_len kind ids ll; omega
  have hchk : chkT ids ll = true := by rw [mayB, Bool.and_eq_true] at hmay; exact hmay.2
  have Hids := Lib.hid (okI_mem (chkT_lv hchk).2.1)
  clear hok
  have c0 := (hM1.get 0 rfl).cell (i := 0) (v := .int .i64 kind) rfl
  have hr1 := tg_sh (hM1.get 0 rfl)
  go_wp2_with ((with_reducible show wpList _ _ _ (⟨some 22, _, _, _, _, _⟩ :: _) _ _); refine wpList_load_midG (by kernel_rfl) 25 (.tmp 21) rfl g 1 rfl (shV Ai ni ci Al nl cl).toList _ hr1 Tryd.underlying25 rfl shapeInfo2 ?_)
  refine (hnd _ hM1.old).mono ?_
  rintro e w2 ⟨hb2, An, nn, cn, he, hN⟩
  subst he
  have hM2 := hM1.call hb2
  obtain ⟨en, NFn⟩ := nodesG_nf hmay
  have hk3 : ∀ x ∈ nodesG kind ids ll, x.kids.length ≤ 3 := fun x hx => by
    have h1 := nodesI_kids kind ids ll x.i (by rw [en]; exact List.mem_map_of_mem hx)
    simpa [RN.i, castL] using h1
  rw [mayE, if_pos hmay]
  have Hsum := Lib.hid (show sumsT kind ids ll ps np = sumsJ (nodesG kind ids ll) ids ps np from rfl)
  rw [en] at hN hnp0
  rw [List.length_map] at hnp0
  generalize nodesG kind ids ll = L at *
  have hnn : np = nn := by have := hN.len; rw [List.length_map] at this; omega
  subst hnn
  have hR := hM2.get 0 rfl
  have hg2 : g + 1 ≤ w2.heap.size := hR.lt
  have hold2 := hM2.old
  have hT2 := h.below hold2
  have hK2 := hK.below hold2
  have HNF := Lib.hid NFn
  have Hk3 := Lib.hid hk3
  have Hnp := Lib.hid hnp0
  have hcn := hN.cap
  unfold maxLen at hcn
  clear hM1 hM2 hnd hb2 h hf hK hold c0 hr1 en NFn hk3 hnp0 hmay hchk
  go_wp2_with fail
  go_loopw [6, 28] (fun v6 v28 wr => ∃ (j : Nat) (A : Option Addr) (c : Nat), j ≤ np ∧ v28 = .int .i64 (j : Int) ∧ v6 = .slice A j c ∧ wr.ownsRow w2.heap.size 36 32 (.slice A j c) j ((sumsJ L ids ps j).map bv) ∧ Below w2.heap.size w2 wr) (fun _ v28 _ => np - (intOf v28).toNat)
  case atStart => exact ⟨0, none, 0, by omega, rfl, rfl, World.ownsRow_nil _ _ _ _, c_refl _⟩
  case round =>
    obtain ⟨j, A, c, hj, rfl, rfl, hown, hb⟩ := hrel
    obtain ⟨wO, hwO⟩ : ∃ v, v = wr := ⟨_, rfl⟩
    subst hwO
    by_cases hjn : j < np
    · have hjl : j < L.length := by have := Hnp.out; omega
      have hx := List.getElem?_eq_getElem hjl
      obtain ⟨bn, on, Au, cu, rfl, hbn, hrn, hcu, hmu, hku⟩ := hN.range (k := j) (x := (L[j]).i) (by rw [List.getElem?_map, hx]; rfl)
      have Hx := Lib.hid hx
      have Hkk := Lib.hid (show ∀ k ∈ L[j].kids, k < j from fun k hk => (HNF.out.kidUp hx hk).choose_spec.2.2)
      have Hx3 := Lib.hid (Hk3.out _ (List.getElem_mem hjl))
      have Hlf := Lib.hid (show L[j].lev = 0 → L[j].at_ < ids.length from fun e => (HNF.out.leafAt hx e).2.2)
      have Hsl := Lib.hid (sumsJ_len L ids ps j (by omega))
      have Hsn := Lib.hid (sumsJ_succ hx ids ps)
      generalize L[j] = x at *
      have hbT := hb.mono (show w.heap.size ≤ w2.heap.size from hold2.size)
      obtain ⟨bp, op, rfl, hbp, hrp⟩ := (hT2.pts).range hjn
      have hrp := rangeW hrp (Nat.lt_of_lt_of_le hbp hold2.size) hb
      have hrn := rangeW hrn hbn hb
      have hkl := keyI_len hT2.pts.len hjn
      have Hky := Lib.hid (show ∃ k, k = keyI ps j from ⟨_, rfl⟩)
      obtain ⟨ky, hky⟩ := Hky.out
      rw [← hky] at hrp hkl
      have HKy := Lib.hid hky
      clear hky Hky hx
      have hkul : x.i.kids.length = x.kids.length := castL_len x.kids
      rw [hkul] at hrn hcu hku
      have zj : (j : Int) < (np : Int) := by omega
      have hsn : (Tryd.prog.info? 68).map (·.size) = some (riC x.i (.slice Au x.kids.length cu)).length := by kernel_rfl
      have hsk := sizeKeyL hkl
      have hsa := sizeKey hkl
      have hone := one_keyF ky
      have hput := ((Ms.nil wO).put 68 #[.int .i64 0, .int .i64 0, .bool false, .int .i64 0, .int .i64 0, .slice none 0 0, .int .i64 0] (riC x.i (.slice Au x.kids.length cu)).toArray)
      go_upto_region 8 with (first
        | ((with_reducible show wpList _ _ _ (⟨some 32, _, _, _, _, _⟩ :: _) _ _); refine wpList_load_midG (by kernel_rfl) 68 (.tmp 31) rfl bn (on + j * 7) rfl (riC x.i (.slice Au x.kids.length cu)) _ hrn Tryd.underlying68 rfl hsn ?_)
        | ((with_reducible show wpList _ _ _ (⟨none, Op.store 68 _ _, _, _, _, _⟩ :: _) _ _); refine wpList_store_row rfl 68 (.tmp 8) (.tmp 32) rfl wO.heap.size (riC x.i (.slice Au x.kids.length cu)).toArray rfl rfl 68 _ (RowC.new _ _ _) (by simpa using hsn) rfl (by simp [riC, Value.oneCell']) ?_))
      try simp only [Act.put]
      obtain ⟨gx, hgx⟩ : ∃ q, q = wO.heap.size := ⟨_, rfl⟩
      have Hgx := Lib.hid hgx
      rw [← hgx] at hput ⊢
      refine wp_gen (fun wx => Ms wO wx [(gx, 68, (riC x.i (.slice Au x.kids.length cu)).toArray)]) hput ?_
      clear hput hrn hsn hgx
      rintro wa hMa
      have hbA := hb.trans (hMa.old.mono hb.size)
      have c3 := (hR.call hbA).cell (i := 3) (v := .slice (some ⟨bp, op, none⟩) np cp) rfl
      have hrpA := rangeW hrp (Nat.lt_of_lt_of_le hbp (Nat.le_trans hold2.size hb.size)) hMa.old
      have hput := hMa.put 36 #[.int .u8 0, .int .u8 0, .int .u8 0, .int .u8 0, .int .u8 0, .int .u8 0, .int .u8 0, .int .u8 0, .int .u8 0, .int .u8 0, .int .u8 0, .int .u8 0, .int .u8 0, .int .u8 0, .int .u8 0, .int .u8 0, .int .u8 0, .int .u8 0, .int .u8 0, .int .u8 0, .int .u8 0, .int .u8 0, .int .u8 0, .int .u8 0, .int .u8 0, .int .u8 0, .int .u8 0, .int .u8 0, .int .u8 0, .int .u8 0, .int .u8 0, .int .u8 0] (keyC ky)
      go_upto_region 9 with (first
        | ((with_reducible show wpList _ _ _ (⟨some 37, _, _, _, _, _⟩ :: _) _ _); refine wpList_load_midG (by kernel_rfl) 36 (.tmp 36) rfl bp (op + j * 32) rfl (keyC ky).toList _ hrpA Tryd.underlying36 rfl hsk ?_)
        | ((with_reducible show wpList _ _ _ (⟨none, Op.store 36 _ _, _, _, _, _⟩ :: _) _ _); refine wpList_store_row rfl 36 (.tmp 9) (.tmp 37) rfl wa.heap.size (keyC ky) rfl rfl 36 _ (RowC.new _ _ _) hsa (by rw [keyC_size, hkl]; rfl) hone ?_))
      try simp only [Act.put]
      obtain ⟨gk, hgk⟩ : ∃ q, q = wa.heap.size := ⟨_, rfl⟩
      rw [← hgk] at hput ⊢
      refine wp_gen (fun wx => Ms wO wx [(gk, 36, keyC ky), (gx, 68, (riC x.i (.slice Au x.kids.length cu)).toArray)]) hput ?_
      clear hput hrpA hsk hsa hone c3 hbA hMa hgk hrp
      rintro wb hMwb
      obtain ⟨pn, hpn⟩ : ∃ q, q = partsN (sumsJ L ids ps j) ids ps j x := ⟨_, rfl⟩
      have Hpn := Lib.hid hpn
      have Hsn2 := Lib.hid (show sumsJ L ids ps (j + 1) = sumsJ L ids ps j ++ sumU (txs pn) by rw [hpn]; exact Hsn.out)
      obtain ⟨hps1, hps2⟩ := parts_short (sumsJ L ids ps j) ids ps j x Hx3.out
      rw [← hpn] at hps1 hps2
      obtain ⟨htl, hgood⟩ := txs_le32 pn hps1
      have Htl := Lib.hid (show (txs pn).length ≤ 170 by omega)
      have Hgood := Lib.hid hgood
      obtain ⟨s, hs⟩ : ∃ q, q = sumU (txs pn) := ⟨_, rfl⟩
      have hsl : s.length = 32 := by rw [hs]; exact sumU_len _
      have Hs := Lib.hid hs
      have Hfd := Lib.hid (show Array.foldl (fun cs x => cs.setIfInBounds x.snd x.fst) (#[.int .u8 0, .int .u8 0, .int .u8 0, .int .u8 0, .int .u8 0, .int .u8 0, .int .u8 0, .int .u8 0, .int .u8 0, .int .u8 0, .int .u8 0, .int .u8 0, .int .u8 0, .int .u8 0, .int .u8 0, .int .u8 0, .int .u8 0, .int .u8 0, .int .u8 0, .int .u8 0, .int .u8 0, .int .u8 0, .int .u8 0, .int .u8 0, .int .u8 0, .int .u8 0, .int .u8 0, .int .u8 0, .int .u8 0, .int .u8 0, .int .u8 0, .int .u8 0] : Array Value) (keyC s).zipIdx 0 32 = keyC s from fold_keyK hsl)
      clear hpn hps1 hps2 htl hgood hs
      have hgxr := Hgx.out
      have hbx : Below gx wO wb := by rw [hgxr]; exact hMwb.old
      have Hbx := Lib.hid hgxr
      clear hgxr
      obtain ⟨pQ, hpQ⟩ : ∃ q, q = wb.heap.size := ⟨_, rfl⟩
      have hgxb : gx < wb.heap.size := (hMwb.get 1 rfl).lt
      have hgkb : gk < wb.heap.size := (hMwb.get 0 rfl).lt
      have hMt := ((hMwb.call (d_al wb (.cells #[.int .u8 108, .int .u8 101, .int .u8 97, .int .u8 102] 5 (4, 4 + 1)))).call (d_al _ (.cells #[.slice (some ⟨wb.heap.size, 0, none⟩) 4 4] 41)))
      have hot := own_new (wb.alloc (.cells #[.int .u8 108, .int .u8 101, .int .u8 97, .int .u8 102] 5 (4, 4 + 1))) gx 41 #[.slice (some ⟨wb.heap.size, 0, none⟩) 4 4] (by simp only [World.size_alloc]; omega) (by simp [maxLen])
      have htx : TxP ((wb.alloc (.cells #[.int .u8 108, .int .u8 101, .int .u8 97, .int .u8 102] 5 (4, 4 + 1))).alloc (.cells #[.slice (some ⟨wb.heap.size, 0, none⟩) 4 4] 41)) (some (wb.heap.size + 1)) [.slice (some ⟨wb.heap.size, 0, none⟩) 4 4] [leafTag] :=
        TxP.snoc (vs := []) (ts := []) (t := leafTag) ⟨rfl, fun i v t h => by simp at h⟩ (by decide) (((rd_marked wb 5 #[.int .u8 108, .int .u8 101, .int .u8 97, .int .u8 102] (4, 4 + 1) (n := 4) rfl).below ((d_al _ _).mono (by simp))).more (by simp)) (fun b o e => by
          injection e with e
          injection e with e _
          subst e
          exact ⟨by simp, by simp only [World.size_alloc]; omega⟩)
      simp only [World.size_alloc] at hot
      go_upto_region 10 with fail
      try simp only [Act.put]
      rw [← hpQ] at hMt hot htx ⊢
      refine wp_gen (fun wx => Ms wO wx [(gk, 36, keyC ky), (gx, 68, (riC x.i (.slice Au x.kids.length cu)).toArray)] ∧ wx.ownsRow gx 41 1 (.slice (some ⟨pQ + 1, 0, none⟩) 1 1) 1 [.slice (some ⟨pQ, 0, none⟩) 4 4] ∧ TxP wx (some (pQ + 1)) [.slice (some ⟨pQ, 0, none⟩) 4 4] [leafTag]) ⟨hMt, hot, htx⟩ ?_
      have hgkq : gk < pQ := by rw [hpQ]; exact hgkb
      have hgxq : gx < pQ := by rw [hpQ]; exact hgxb
      clear hMt hot htx hpQ hgxb hgkb hMwb
      rintro wc ⟨hMwc, hot, htx⟩
      have hlev := (hMwc.get 1 rfl).cell (i := 0) (v := .int .i64 (x.lev : Nat)) rfl
      by_cases hl0 : x.lev = 0
      · have hat := Hlf.out hl0
        have zl : decide ((0 : Int) < ((x.lev : Nat) : Int)) = false := decide_eq_false (by omega)
        have zl2 : ¬ (0 : Int) < ((x.lev : Nat) : Int) := by omega
        have hbC := hb.trans (hMwc.old.mono hb.size)
        have hszc : wO.heap.size ≤ wc.heap.size := hMwc.old.size
        have hni := hT2.sh.hni
        obtain ⟨bi, oi, y, rfl, hbi, hy, hcy⟩ := rdI_num hT2.sh.hids (k := x.at_) (by omega)
        obtain ⟨hy0', hy1'⟩ := Hids.out y (List.mem_of_getElem? hy)
        obtain ⟨m, rfl⟩ : ∃ m : Nat, y = (m : Int) := ⟨y.toNat, by omega⟩
        have hpl : pn = [leafTag] ++ [be 4 m] ++ [ky] := by
          rw [Hpn.out, partsN, if_pos hl0, HKy.out, getD_at hy]
          rfl
        have zm : IntKind.u64.wrap (m : Int) = (m : Int) := by rw [IntKind.wrap_u64]; omega
        have zat : ((x.at_ : Nat) : Int) < (ni : Int) := by omega
        have hkeep : ∀ wx : World, Below wc.heap.size wc wx → wx.cell? ⟨g, 1, none⟩ = some (.slice (some ⟨bi, oi, none⟩) ni ci) ∧ wx.cell? ⟨gx, 1, none⟩ = some (.int .i64 (x.at_ : Nat)) ∧ wx.cell? ⟨bi, oi + x.at_, none⟩ = some (.int .i64 (m : Int)) := fun wx hbx => ⟨(hR.call (hbC.trans (hbx.mono hbC.size))).cell rfl, ((hMwc.get 1 rfl).call hbx).cell rfl, ((hbC.trans (hbx.mono hbC.size)).cell (p := ⟨bi, oi + x.at_, none⟩) (Nat.lt_of_lt_of_le hbi hold2.size)).trans hcy⟩
        have hlt := hot.lt (pQ + 1) rfl
        have HKY := hMwc.get 0 rfl
        have Hpl := Lib.hid hpl
        clear hpl
        go_upto_region 20 with fail
        refine beginT (fun wx => wx.cell? ⟨g, 1, none⟩ = some (.slice (some ⟨bi, oi, none⟩) ni ci) ∧ wx.cell? ⟨gx, 1, none⟩ = some (.int .i64 (x.at_ : Nat)) ∧ wx.cell? ⟨bi, oi + x.at_, none⟩ = some (.int .i64 (m : Int))) 14 (by kernel_rfl) ?_
        have hdr : Below wc.heap.size wc wc.drew := c_drew (c_refl _)
        have hS := hkeep _ hdr
        refine takeD 0 (some 72) (.slice (some ⟨pQ + 1, 0, none⟩) 1 1) rfl rfl (by kernel_rfl) (by kernel_rfl) (by kernel_rfl) (by kernel_rfl) (fun _ _ _ h => h) (Or.inl ⟨by kernel_rfl, fun wx hSw => by go_simp⟩) hS ?_
        try simp only [Act.put, List.setIfInBounds_toArray, List.set_cons_zero, List.set_cons_succ]
        refine takeD 1 (some 73) (.pointer (some ⟨g, 1, none⟩)) rfl rfl (by kernel_rfl) (by kernel_rfl) (by kernel_rfl) (by kernel_rfl) (fun _ _ _ h => h) (Or.inl ⟨by kernel_rfl, fun wx hSw => by go_simp⟩) hS ?_
        try simp only [Act.put, List.setIfInBounds_toArray, List.set_cons_zero, List.set_cons_succ]
        refine takeD 2 (some 74) (.pointer (some ⟨g, 1, none⟩)) rfl rfl (by kernel_rfl) (by kernel_rfl) (by kernel_rfl) (by kernel_rfl) (fun _ _ _ h => h) (Or.inl ⟨by kernel_rfl, fun wx hSw => by go_simp⟩) hS ?_
        try simp only [Act.put, List.setIfInBounds_toArray, List.set_cons_zero, List.set_cons_succ]
        refine takeD 3 (some 75) (.slice (some ⟨bi, oi, none⟩) ni ci) rfl rfl (by kernel_rfl) (by kernel_rfl) (by kernel_rfl) (by kernel_rfl) (fun _ _ _ h => h) (Or.inl ⟨by kernel_rfl, fun wx hSw => by go_simp⟩) hS ?_
        try simp only [Act.put, List.setIfInBounds_toArray, List.set_cons_zero, List.set_cons_succ]
        refine takeD 4 (some 76) (.pointer (some ⟨gx, 1, none⟩)) rfl rfl (by kernel_rfl) (by kernel_rfl) (by kernel_rfl) (by kernel_rfl) (fun _ _ _ h => h) (Or.inl ⟨by kernel_rfl, fun wx hSw => by go_simp⟩) hS ?_
        try simp only [Act.put, List.setIfInBounds_toArray, List.set_cons_zero, List.set_cons_succ]
        refine takeD 5 (some 77) (.int .i64 (x.at_ : Nat)) rfl rfl (by kernel_rfl) (by kernel_rfl) (by kernel_rfl) (by kernel_rfl) (fun _ _ _ h => h) (Or.inl ⟨by kernel_rfl, fun wx hSw => by go_simp⟩) hS ?_
        try simp only [Act.put, List.setIfInBounds_toArray, List.set_cons_zero, List.set_cons_succ]
        refine takeD 6 (some 78) (.pointer (some ⟨bi, oi + x.at_, none⟩)) rfl rfl (by kernel_rfl) (by kernel_rfl) (by kernel_rfl) (by kernel_rfl) (fun _ _ _ h => h) (Or.inl ⟨by kernel_rfl, fun wx hSw => by go_simp⟩) hS ?_
        try simp only [Act.put, List.setIfInBounds_toArray, List.set_cons_zero, List.set_cons_succ]
        refine takeD 7 (some 79) (.int .i64 (m : Int)) rfl rfl (by kernel_rfl) (by kernel_rfl) (by kernel_rfl) (by kernel_rfl) (fun _ _ _ h => h) (Or.inl ⟨by kernel_rfl, fun wx hSw => by go_simp⟩) hS ?_
        try simp only [Act.put, List.setIfInBounds_toArray, List.set_cons_zero, List.set_cons_succ]
        refine takeD 8 (some 80) (.int .u64 (m : Int)) rfl rfl (by kernel_rfl) (by kernel_rfl) (by kernel_rfl) (by kernel_rfl) (fun _ _ _ h => h) (Or.inl ⟨by kernel_rfl, fun wx hSw => by go_simp⟩) hS ?_
        try simp only [Act.put, List.setIfInBounds_toArray, List.set_cons_zero, List.set_cons_succ]
        refine takeD 10 (some 82) (.slice (some ⟨gk, 0, none⟩) 32 32) rfl rfl (by kernel_rfl) (by kernel_rfl) (by kernel_rfl) (by kernel_rfl) (fun _ _ _ h => h) (Or.inl ⟨by kernel_rfl, fun wx hSw => by go_simp⟩) hS ?_
        try simp only [Act.put, List.setIfInBounds_toArray, List.set_cons_zero, List.set_cons_succ]

        have hotd := own_below hot hdr
        have htxd := htx.below hdr
        have hszd : wc.drew.heap.size = wc.heap.size := rfl
        generalize wc.drew = wd at *
        refine oneT 9 (by kernel_rfl) rfl (fun K2 hK2 => ?_)
        go_simp
        refine (Bytes_any 4 m wd (by omega) (by omega)).mono ?_
        rintro e w3 ⟨A3, c3, rfl, hown3, hbel3⟩
        have hb3 := c_call hdr hbel3
        refine hK2.out _ _ (fun _ => hkeep _ hb3) ?_
        clear hK2 K2
        try simp only [Act.put, List.setIfInBounds_toArray, List.set_cons_zero, List.set_cons_succ]
        have ht3 := (htxd.below hbel3).snoc (t := be 4 m) (A := A3) (c := c3) (by
          obtain ⟨_, _, e3, h3, _⟩ := own_form hown3
          injection e3 with _ _ e3
          rw [be_length, e3]; exact h3) (by rw [be_length]; exact Rd.of_own hown3) (fun b o e => by
          subst e
          have := hown3.lt b rfl
          exact ⟨by intro h; injection h with h; omega, this.2⟩)
        have hkr := HKY.call hb3
        have ht3 := ht3.snoc (t := ky) (A := some ⟨gk, 0, none⟩) (c := 32) (by omega) ⟨by simp, fun _ => ⟨gk, 0, rfl, hkr.lt, fun q u hu => by
          rw [Nat.zero_add]
          exact hkr.cell (by simpa [keyC] using hu)⟩⟩ (fun b o e => by
          injection e with e
          injection e with e _
          subst e
          exact ⟨by intro h; injection h with h; omega, hkr.lt⟩)
        rw [be_length, hkl, ← Hpl.out] at ht3
        have ho3 := own_below hotd hbel3
        have hal := d_al w3 (.cells #[.slice A3 4 c3, .slice (some ⟨gk, 0, none⟩) 32 32] 41)
        have hb4 := c_call hb3 hal
        have ht4 := ht3.below hal
        have ho4 := own_below ho3 hal
        have hs4 := hb4.size
        have hz4 : (w3.alloc (.cells #[.slice A3 4 c3, .slice (some ⟨gk, 0, none⟩) 32 32] 41)).heap.size = w3.heap.size + 1 := by simp
        refine oneT 11 (by kernel_rfl) rfl (fun K2 hK2 => ?_)
        go_simp
        refine hK2.out _ _ (fun _ => hkeep _ hb4) ?_
        clear hK2 K2
        try simp only [Act.put, List.setIfInBounds_toArray, List.set_cons_zero, List.set_cons_succ]
        have hone2 : ∀ u ∈ [Value.slice A3 4 c3, .slice (some ⟨gk, 0, none⟩) 32 32], u.oneCell' = true := by intro u hu; simp at hu; rcases hu with rfl | rfl <;> rfl
        refine oneT 12 (by kernel_rfl) rfl (fun K2 hK2 => ?_)
        refine step_append_rdT (by kernel_rfl) (some 84) rfl (.tmp 72) (.tmp 83) _ rfl gx 41 i1 _ 24 Tryd.underlying71 hi1 hy0 hy1 hy2 rfl (.slice (some ⟨pQ + 1, 0, none⟩) 1 1) 1 [.slice (some ⟨pQ, 0, none⟩) 4 4] rfl ho4 (w3.heap.size + 1) (some ⟨w3.heap.size, 0, none⟩) 2 2 [.slice A3 4 c3, .slice (some ⟨gk, 0, none⟩) 32 32] rfl (Rd.mk_ _ _ _ rfl (by omega) rfl rfl) hone2 (by simp only [maxLen]; omega) (by omega) (by rw [hz4]; have := hlt.2; have := hb3.size; omega) ?_
        intro v6 w6 hown6 hgr6 hat6
        obtain ⟨Av, cv, rfl, _, _⟩ := own_form hown6
        have HB : Below wO.heap.size wO w6 := ((hMwc.old.trans (hb4.mono hszc))).grown hgr6 (Nat.le_trans hszc hs4) (fun q hq => by
          have := (ho4.lt q hq).1
          have := Hgx.out
          omega)
        have ht6 := ht4.grown hgr6 hat6
        have hS6 : w6.cell? ⟨g, 1, none⟩ = some (.slice (some ⟨bi, oi, none⟩) ni ci) ∧ w6.cell? ⟨gx, 1, none⟩ = some (.int .i64 (x.at_ : Nat)) ∧ w6.cell? ⟨bi, oi + x.at_, none⟩ = some (.int .i64 (m : Int)) := by
          have hB6 := hb.trans (HB.mono hb.size)
          have hgx4 := (hMwc.get 1 rfl).call hb4
          exact ⟨(hR.call hB6).cell rfl, (hgx4.of (hgr6.block gx hgx4.lt (by simp [Value.ownBlock]; omega))).cell rfl, (hB6.cell (p := ⟨bi, oi + x.at_, none⟩) (Nat.lt_of_lt_of_le hbi hold2.size)).trans hcy⟩
        refine hK2.out _ _ (fun _ => hS6) ?_
        clear hK2 K2
        try simp only [Act.put, List.setIfInBounds_toArray, List.set_cons_zero, List.set_cons_succ]
        refine oneT 13 (by kernel_rfl) rfl (fun K2 hK2 => ?_)
        try go_simp
        refine hK2.out _ _ (fun _ => hS6) ?_
        clear hK2 K2
        try simp only [Act.put, List.setIfInBounds_toArray, List.set_cons_zero, List.set_cons_succ]
        refine doneT (by kernel_rfl) ?_ _
        have HP := hown6
        have HT := ht6
        obtain ⟨nv, hnv⟩ : ∃ q, q = 1 + 2 := ⟨_, rfl⟩
        clear hS6 hS hkeep hgr6 hat6 hown6 ht6 ht4 ht3 ho4 ho3 hone2 hal hb4 hb3 hbel3 hown3 htxd hotd hdr hot htx hMwc HKY hcy hkr

        have hownD := own_below hown HB
        have hKD := hK2.below (hb.trans (HB.mono hb.size))
        have hszD : w2.heap.size ≤ w6.heap.size := Nat.le_trans hb.size HB.size
        have HBD := Lib.hid HB
        have htl2 := Htl.out
        have hks : (keyC s).size = 32 := by rw [keyC_size, hsl]
        go_wp2_with (first
          | (go_at_call 29; refine (refText_any none 0 0 [] Av 3 cv _ pn _ (by omega) (by omega) (Rd.zero _ _ _) (Rd.of_own HP) HT.txs).mono ?_; intro e wE hp; obtain ⟨At, nt, ct, he, hot2, hntc, Hnt, hbt⟩ := hp.yes Hgood.out; subst he; obtain rfl : nt = (txs pn).length := (by simpa using Hnt.out); have hal := d_al wE (.cells #[.slice At (txs pn).length ct] 41); have hbE1 := c_call hbt hal; have hKE := hKD.below hbE1; have hrd := Rd.mk_ wE 41 #[.slice At (txs pn).length ct] (b := wE.heap.size) (B := wE.heap.size + 1) (n := 1) rfl (by omega) rfl rfl; have htE := Txs.one (w := wE.alloc (.cells #[.slice At (txs pn).length ct] 41)) (B := wE.heap.size) (((Rd.of_own hot2).below hal)) hntc)
          | (go_at_call 38; refine (Sum_any (some ⟨wE.heap.size, 0, none⟩) 1 1 [.slice At (txs pn).length ct] [txs pn] _ (by omega) (by simp; omega) (hrd.more (by simp)) (htE.more (by simp)) hKE).mono ?_; rintro e wF ⟨he, hbF⟩; subst he; rw [show sumU [txs pn].flatten = s by rw [Hs.out]; simp, show (s.map bv).toArray = keyC s from rfl]; have hbF1 := c_call hbE1 hbF; have halF := d_al wF (.cells (keyC s) 36); have hbF2 := c_call hbF1 halF; have hownF := own_below hownD hbF2; have hsF := hbF2.size; have hnewsF : ∀ q u, (s.map bv)[q]? = some u → (wF.alloc (.cells (keyC s) 36)).cell? ((⟨wF.heap.size, 0, none⟩ : Addr).add q) = some u := fun q u hu => (by rw [Addr.add_lit, Nat.zero_add]; exact (RowC.new wF 36 (keyC s)).cell (by simpa [keyC] using hu)))
          | (at_builtin; rw [Hfd.out]; refine wpList_append_own_at _ rfl (.tmp 90) (.tmp 94) _ rfl w2.heap.size 36 iK _ 32 32 Tryd.underlying26 hiK hzK hsK hbK rfl (by omega) (.slice A j c) j _ rfl hownF ⟨wF.heap.size, 0, none⟩ 1 1 (s.map bv) rfl (by simp [hsl]) hnewsF (one_bv _) (by simp only [maxLen]; omega) (by omega) (Nat.le_trans hszD hsF) ?_; intro v5 w5 hown5 hgr5 hnil5 hat5))
        go_roundw
        case rel =>
          obtain ⟨A5, c5, rfl, _, _⟩ := own_slK hown5
          refine ⟨j + 1, A5, c5, by omega, by go_num, rfl, ?_, (((hb.trans (HBD.out.mono hb.size)).trans (hbF2.mono hszD)).grown hgr5 (Nat.le_trans hszD hsF) (fun q hq => (hownF.lt q hq).1))⟩
          rw [Hsn2.out, ← Hs.out, List.map_append]
          exact hown5
        case measure => simp [intOf]; omega
      · have zl : decide ((0 : Int) < ((x.lev : Nat) : Int)) = true := decide_eq_true (by omega)
        clear hot htx hgkq hgxq
        obtain ⟨pQ, hpQ⟩ : ∃ q, q = wc.heap.size := ⟨_, rfl⟩
        have hgxb : gx < wc.heap.size := (hMwc.get 1 rfl).lt
        have hgkb : gk < wc.heap.size := (hMwc.get 0 rfl).lt
        have hMt := ((hMwc.call (d_al wc (.cells #[.int .u8 110, .int .u8 111, .int .u8 100, .int .u8 101] 5 (4, 4 + 1)))).call (d_al _ (.cells #[.slice (some ⟨wc.heap.size, 0, none⟩) 4 4] 41)))
        have hot := own_new (wc.alloc (.cells #[.int .u8 110, .int .u8 111, .int .u8 100, .int .u8 101] 5 (4, 4 + 1))) gx 41 #[.slice (some ⟨wc.heap.size, 0, none⟩) 4 4] (by simp only [World.size_alloc]; omega) (by simp [maxLen])
        have htx : TxP ((wc.alloc (.cells #[.int .u8 110, .int .u8 111, .int .u8 100, .int .u8 101] 5 (4, 4 + 1))).alloc (.cells #[.slice (some ⟨wc.heap.size, 0, none⟩) 4 4] 41)) (some (wc.heap.size + 1)) [.slice (some ⟨wc.heap.size, 0, none⟩) 4 4] [nodeTag] :=
          TxP.snoc (vs := []) (ts := []) (t := nodeTag) ⟨rfl, fun i v t h => by simp at h⟩ (by decide) (((rd_marked wc 5 #[.int .u8 110, .int .u8 111, .int .u8 100, .int .u8 101] (4, 4 + 1) (n := 4) rfl).below ((d_al _ _).mono (by simp))).more (by simp)) (fun b o e => by
            injection e with e
            injection e with e _
            subst e
            exact ⟨by simp, by simp only [World.size_alloc]; omega⟩)
        simp only [World.size_alloc] at hot
        go_upto_region 12 with fail
        try simp only [Act.put]
        rw [← hpQ] at hMt hot htx ⊢
        refine wp_gen (fun wx => Ms wO wx [(gk, 36, keyC ky), (gx, 68, (riC x.i (.slice Au x.kids.length cu)).toArray)] ∧ wx.ownsRow gx 41 1 (.slice (some ⟨pQ + 1, 0, none⟩) 1 1) 1 [.slice (some ⟨pQ, 0, none⟩) 4 4] ∧ TxP wx (some (pQ + 1)) [.slice (some ⟨pQ, 0, none⟩) 4 4] [nodeTag]) ⟨hMt, hot, htx⟩ ?_
        have hgkq : gk < pQ := by rw [hpQ]; exact hgkb
        have hgxq : gx < pQ := by rw [hpQ]; exact hgxb
        clear hMt hot htx hpQ hgxb hgkb hMwc
        rintro wd ⟨hMwd, hot, htx⟩
        have hred := (hMwd.get 1 rfl).cell (i := 2) (v := .bool x.red) rfl
        have hcon : x.red = true ∨ x.red = false := by cases x.red <;> simp
        rcases hcon with hrb | hrb
        · rw [hrb] at hred
          clear hot htx hgkq hgxq
          obtain ⟨pQ, hpQ⟩ : ∃ q, q = wd.heap.size := ⟨_, rfl⟩
          have hgxb : gx < wd.heap.size := (hMwd.get 1 rfl).lt
          have hgkb : gk < wd.heap.size := (hMwd.get 0 rfl).lt
          have hMt := ((hMwd.call (d_al wd (.cells #[.int .u8 114, .int .u8 101, .int .u8 100] 5 (3, 3 + 1)))).call (d_al _ (.cells #[.slice (some ⟨wd.heap.size, 0, none⟩) 3 3] 41)))
          have hot := own_new (wd.alloc (.cells #[.int .u8 114, .int .u8 101, .int .u8 100] 5 (3, 3 + 1))) gx 41 #[.slice (some ⟨wd.heap.size, 0, none⟩) 3 3] (by simp only [World.size_alloc]; omega) (by simp [maxLen])
          have htx : TxP ((wd.alloc (.cells #[.int .u8 114, .int .u8 101, .int .u8 100] 5 (3, 3 + 1))).alloc (.cells #[.slice (some ⟨wd.heap.size, 0, none⟩) 3 3] 41)) (some (wd.heap.size + 1)) [.slice (some ⟨wd.heap.size, 0, none⟩) 3 3] [redTag] :=
            TxP.snoc (vs := []) (ts := []) (t := redTag) ⟨rfl, fun i v t h => by simp at h⟩ (by decide) (((rd_marked wd 5 #[.int .u8 114, .int .u8 101, .int .u8 100] (3, 3 + 1) (n := 3) rfl).below ((d_al _ _).mono (by simp))).more (by simp)) (fun b o e => by
              injection e with e
              injection e with e _
              subst e
              exact ⟨by simp, by simp only [World.size_alloc]; omega⟩)
          simp only [World.size_alloc] at hot
          go_upto_region 14 with fail
          try simp only [Act.put]
          rw [← hpQ] at hMt hot htx ⊢
          refine wp_gen (fun wx => Ms wO wx [(gk, 36, keyC ky), (gx, 68, (riC x.i (.slice Au x.kids.length cu)).toArray)] ∧ wx.ownsRow gx 41 1 (.slice (some ⟨pQ + 1, 0, none⟩) 1 1) 1 [.slice (some ⟨pQ, 0, none⟩) 3 3] ∧ TxP wx (some (pQ + 1)) [.slice (some ⟨pQ, 0, none⟩) 3 3] [redTag]) ⟨hMt, hot, htx⟩ ?_
          have hgkq : gk < pQ := by rw [hpQ]; exact hgkb
          have hgxq : gx < pQ := by rw [hpQ]; exact hgxb
          clear hMt hot htx hpQ hgxb hgkb hMwd
          rintro we ⟨hMwe, hot, htx⟩
          have hkr := hMwe.get 0 rfl
          have hxr := hMwe.get 1 rfl
          have hlt := hot.lt (pQ + 1) rfl
          have hszc : wO.heap.size ≤ we.heap.size := hMwe.old.size
          have ht3 := htx.snoc (t := ky) (A := some ⟨gk, 0, none⟩) (c := 32) (by omega) ⟨by simp, fun _ => ⟨gk, 0, rfl, hkr.lt, fun q u hu => by
            rw [Nat.zero_add]
            exact hkr.cell (by simpa [keyC] using hu)⟩⟩ (fun b o e => by
            injection e with e
            injection e with e _
            subst e
            exact ⟨by intro h; injection h with h; omega, hkr.lt⟩)
          rw [hkl] at ht3
          have hal := d_al we (.cells #[.slice (some ⟨gk, 0, none⟩) 32 32] 41)
          have ht4 := ht3.below hal
          have ho4 := own_below hot hal
          have hz4 : (we.alloc (.cells #[.slice (some ⟨gk, 0, none⟩) 32 32] 41)).heap.size = we.heap.size + 1 := by simp
          have hone2 : ∀ u ∈ [Value.slice (some ⟨gk, 0, none⟩) 32 32], u.oneCell' = true := by intro u hu; simp at hu; subst hu; rfl
          have hpl : pn = [redTag] ++ [ky] ++ x.kids.map (keyI (sumsJ L ids ps j)) := by
            rw [Hpn.out, partsN, if_neg hl0, HKy.out]
            simp [hrb]
          have Hpl := Lib.hid hpl
          have HrO := Lib.hid hkr
          clear hpl ht3 hkr
          go_upto_region 15 with (at_builtin; refine wpList_append_rd _ rfl (.tmp 52) (.tmp 54) _ rfl gx 41 i1 _ 24 Tryd.underlying71 hi1 hy0 hy1 hy2 rfl (.slice (some ⟨pQ + 1, 0, none⟩) 1 1) 1 [.slice (some ⟨pQ, 0, none⟩) 3 3] rfl ho4 (we.heap.size + 1) (some ⟨we.heap.size, 0, none⟩) 1 1 [.slice (some ⟨gk, 0, none⟩) 32 32] rfl (Rd.mk_ _ _ _ rfl (by omega) rfl rfl) hone2 (by simp only [maxLen]; omega) (by omega) (by rw [hz4]; have := hlt.2; omega) ?_; intro v6 w6 hown6 hgr6 hat6)
          try simp only [Act.put]
          obtain ⟨Av, cv, rfl, _, _⟩ := own_form hown6
          have HB := Lib.hid (show Below wO.heap.size wO w6 from ((hMwe.old.trans (hal.mono hszc))).grown hgr6 (Nat.le_trans hszc hal.size) (fun q hq => by
            have := (ho4.lt q hq).1
            have := Hgx.out
            omega))
          have HT6 := Lib.hid (ht4.grown hgr6 hat6)
          have HO6 := Lib.hid hown6
          have hx4 := hxr.call hal
          have hkids := (hx4.of (hgr6.block gx hx4.lt (by simp [Value.ownBlock]; omega))).cell (i := 5) (v := .slice Au x.kids.length cu) rfl
          clear ht4 ho4 hal hone2 hown6 hgr6 hat6 hx4 hxr hot htx hMwe
          have hx3 := Hx3.out
          go_wp2_with fail
          go_loopw [10, 59] (fun v10 v59 wy => ∃ (q : Nat) (A : Option Addr) (c : Nat) (vs : List Value), q ≤ x.kids.length ∧ v59 = .int .i64 (q : Int) ∧ v10 = .slice A (2 + q) c ∧ wy.ownsRow gx 41 1 (.slice A (2 + q) c) (2 + q) vs ∧ TxP wy (Value.slice A (2 + q) c).ownBlock vs ([redTag] ++ [ky] ++ (x.kids.take q).map (keyI (sumsJ L ids ps j))) ∧ Below wO.heap.size wO wy) (fun _ v59 _ => x.kids.length - (intOf v59).toNat)
          case atStart => exact ⟨0, Av, cv, _, by omega, rfl, rfl, HO6.out, by simpa using HT6.out, HB.out⟩
          case round =>
            clear HB HT6 HO6 hkids
            obtain ⟨q, Av, cv, vs, hq, rfl, rfl, HP, HT, HB⟩ := hrel
            by_cases hqn : q < x.kids.length
            · have hbw := hb.trans (HB.mono hb.size)
              have hql : q < x.kids.length := hqn
              obtain ⟨bk, ok, y, rfl, hbk, hy, q0⟩ := rdI_num (hku.below hbw) hqn
              have hky : x.kids[q]? = some x.kids[q] := List.getElem?_eq_getElem hql
              obtain rfl : y = ((x.kids[q] : Nat) : Int) := by
                have : (castL x.kids)[q]? = some ((x.kids[q] : Nat) : Int) := by rw [castL, List.getElem?_map, hky]; rfl
                rw [show x.i.kids = castL x.kids from rfl, this] at hy
                exact (Option.some.inj hy).symm
              have hkj := Hkk.out _ (List.getElem_mem hql)
              have HE := Lib.hid (show [redTag] ++ [ky] ++ (x.kids.take (q + 1)).map (keyI (sumsJ L ids ps j)) = [redTag] ++ [ky] ++ (x.kids.take q).map (keyI (sumsJ L ids ps j)) ++ [keyI (sumsJ L ids ps j) x.kids[q]] by
                rw [List.take_succ_eq_append_getElem hql, List.map_append]
                simp only [List.map_cons, List.map_nil, List.append_assoc])
              generalize x.kids[q] = k at *
              have hKo := KyR.of_own (own_below hown HB)
              obtain ⟨bo, oo, rfl, hbo, hro⟩ := hKo.range hkj
              have hk32 := keyI_len Hsl.out hkj
              have hrk : Rd wr wr.heap.size (some ⟨bo, oo + k * 32, none⟩) 32 ((keyI (sumsJ L ids ps j) k).map bv) := ⟨by simpa using hk32, fun _ => ⟨bo, oo + k * 32, rfl, hbo, fun z u hu => hro z u (by simpa [keyC] using hu)⟩⟩
              have zq : (q : Int) < (x.kids.length : Int) := by omega
              have zk : (k : Int) < (j : Int) := by omega
              have hlv := fun z hz => (HP.lt z hz).2
              clear hy hky
              go_wp2_with (first
                | (at_builtin; refine wpList_append_rd _ rfl (.const (.slice none 0 0)) (.tmp 67) _ rfl wr.heap.size 5 i0 _ 1 Tryd.underlying41 hi0 hz0 hz1 hz2 rfl (.slice none 0 0) 0 [] rfl (World.ownsRow_nil _ _ _ _) wr.heap.size (some ⟨bo, oo + k * 32, none⟩) 32 32 ((keyI (sumsJ L ids ps j) k).map bv) rfl hrk (one_bv _) (by simp only [maxLen]; omega) (by omega) (Nat.le_refl _) ?_; intro v7 w7 hown7 hgr7 hat7; rw [Nat.zero_add, List.nil_append] at hown7; obtain ⟨A7, c7, rfl, hc7, _⟩ := own_form hown7; have hb7 : Below wr.heap.size wr w7 := (c_refl wr).grown hgr7 (Nat.le_refl _) (fun z hz => by simp [Value.ownBlock] at hz); have ht7 := (HT.below hb7).snoc (t := keyI (sumsJ L ids ps j) k) (A := A7) (c := c7) (by rw [hk32]; exact hc7) (by rw [hk32]; exact Rd.of_own hown7) (fun b o e => by subst e; have h7 := hown7.lt b rfl; exact ⟨fun h => by have := hlv _ h; omega, h7.2⟩); rw [hk32] at ht7; have ho7 := own_below HP hb7; have hal7 := d_al w7 (.cells #[.slice A7 32 c7] 41); have ht8 := ht7.below hal7; have ho8 := own_below ho7 hal7; have hb8 := c_call hb7 hal7; have hz8 : (w7.alloc (.cells #[.slice A7 32 c7] 41)).heap.size = w7.heap.size + 1 := (by simp); have hone8 : ∀ u ∈ [Value.slice A7 32 c7], u.oneCell' = true := (by intro u hu; simp at hu; subst hu; rfl))
                | (at_builtin; refine wpList_append_rd _ rfl (.tmp 63) (.tmp 69) _ rfl gx 41 i1 _ 24 Tryd.underlying71 hi1 hy0 hy1 hy2 rfl (.slice Av (2 + q) cv) (2 + q) vs rfl ho8 (w7.heap.size + 1) (some ⟨w7.heap.size, 0, none⟩) 1 1 [.slice A7 32 c7] rfl (Rd.mk_ _ _ _ rfl (by omega) rfl rfl) hone8 (by simp only [maxLen]; omega) (by omega) (by have := hb8.size; have := HB.size; have := Hgx.out; omega) ?_; intro v8 w8 hown8 hgr8 hat8))
              go_roundw
              case rel =>
                obtain ⟨A8, c8, rfl, _, _⟩ := own_form hown8
                refine ⟨_, _, _, _, _, _, _, _, _, _, _, _, _, _, _, ?_, rfl⟩
                refine ⟨q + 1, A8, c8, _, by omega, by go_num, rfl, hown8, ?_, (HB.trans (hb8.mono HB.size)).grown hgr8 (Nat.le_trans HB.size hb8.size) (fun z hz => by
                  have := (ho8.lt z hz).1
                  have := Hgx.out
                  omega)⟩
                rw [HE.out]
                exact ht8.grown hgr8 hat8
              case measure => simp [intOf]; omega
            · obtain rfl : q = x.kids.length := by omega
              rw [List.take_length, ← Hpl.out] at HT
              have hownD := own_below hown HB
              have hKD := hK2.below (hb.trans (HB.mono hb.size))
              have hszD : w2.heap.size ≤ wr.heap.size := Nat.le_trans hb.size HB.size
              have HBD := Lib.hid HB
              have htl2 := Htl.out
              have hks : (keyC s).size = 32 := by rw [keyC_size, hsl]
              go_wp2_with (first
                | (go_at_call 29; refine (refText_any none 0 0 [] Av (2 + x.kids.length) cv _ pn _ (by omega) (by omega) (Rd.zero _ _ _) (Rd.of_own HP) HT.txs).mono ?_; intro e wE hp; obtain ⟨At, nt, ct, he, hot2, hntc, Hnt, hbt⟩ := hp.yes Hgood.out; subst he; obtain rfl : nt = (txs pn).length := (by simpa using Hnt.out); have hal := d_al wE (.cells #[.slice At (txs pn).length ct] 41); have hbE1 := c_call hbt hal; have hKE := hKD.below hbE1; have hrd := Rd.mk_ wE 41 #[.slice At (txs pn).length ct] (b := wE.heap.size) (B := wE.heap.size + 1) (n := 1) rfl (by omega) rfl rfl; have htE := Txs.one (w := wE.alloc (.cells #[.slice At (txs pn).length ct] 41)) (B := wE.heap.size) (((Rd.of_own hot2).below hal)) hntc)
                | (go_at_call 38; refine (Sum_any (some ⟨wE.heap.size, 0, none⟩) 1 1 [.slice At (txs pn).length ct] [txs pn] _ (by omega) (by simp; omega) (hrd.more (by simp)) (htE.more (by simp)) hKE).mono ?_; rintro e wF ⟨he, hbF⟩; subst he; rw [show sumU [txs pn].flatten = s by rw [Hs.out]; simp, show (s.map bv).toArray = keyC s from rfl]; have hbF1 := c_call hbE1 hbF; have halF := d_al wF (.cells (keyC s) 36); have hbF2 := c_call hbF1 halF; have hownF := own_below hownD hbF2; have hsF := hbF2.size; have hnewsF : ∀ q u, (s.map bv)[q]? = some u → (wF.alloc (.cells (keyC s) 36)).cell? ((⟨wF.heap.size, 0, none⟩ : Addr).add q) = some u := fun q u hu => (by rw [Addr.add_lit, Nat.zero_add]; exact (RowC.new wF 36 (keyC s)).cell (by simpa [keyC] using hu)))
                | (at_builtin; rw [Hfd.out]; refine wpList_append_own_at _ rfl (.tmp 90) (.tmp 94) _ rfl w2.heap.size 36 iK _ 32 32 Tryd.underlying26 hiK hzK hsK hbK rfl (by omega) (.slice A j c) j _ rfl hownF ⟨wF.heap.size, 0, none⟩ 1 1 (s.map bv) rfl (by simp [hsl]) hnewsF (one_bv _) (by simp only [maxLen]; omega) (by omega) (Nat.le_trans hszD hsF) ?_; intro v5 w5 hown5 hgr5 hnil5 hat5))
              go_roundw
              case rel =>
                obtain ⟨A5, c5, rfl, _, _⟩ := own_slK hown5
                refine ⟨j + 1, A5, c5, by omega, by go_num, rfl, ?_, (((hb.trans (HBD.out.mono hb.size)).trans (hbF2.mono hszD)).grown hgr5 (Nat.le_trans hszD hsF) (fun q hq => (hownF.lt q hq).1))⟩
                rw [Hsn2.out, ← Hs.out, List.map_append]
                exact hown5
              case measure => simp [intOf]; omega
        · rw [hrb] at hred
          go_upto_region 14 with fail
          try simp only [Act.put]
          have hkr := hMwd.get 0 rfl
          have hxr := hMwd.get 1 rfl
          have hlt := hot.lt (pQ + 1) rfl
          have hszc : wO.heap.size ≤ wd.heap.size := hMwd.old.size
          have ht3 := htx.snoc (t := ky) (A := some ⟨gk, 0, none⟩) (c := 32) (by omega) ⟨by simp, fun _ => ⟨gk, 0, rfl, hkr.lt, fun q u hu => by
            rw [Nat.zero_add]
            exact hkr.cell (by simpa [keyC] using hu)⟩⟩ (fun b o e => by
            injection e with e
            injection e with e _
            subst e
            exact ⟨by intro h; injection h with h; omega, hkr.lt⟩)
          rw [hkl] at ht3
          have hal := d_al wd (.cells #[.slice (some ⟨gk, 0, none⟩) 32 32] 41)
          have ht4 := ht3.below hal
          have ho4 := own_below hot hal
          have hz4 : (wd.alloc (.cells #[.slice (some ⟨gk, 0, none⟩) 32 32] 41)).heap.size = wd.heap.size + 1 := by simp
          have hone2 : ∀ u ∈ [Value.slice (some ⟨gk, 0, none⟩) 32 32], u.oneCell' = true := by intro u hu; simp at hu; subst hu; rfl
          have hpl : pn = [nodeTag] ++ [ky] ++ x.kids.map (keyI (sumsJ L ids ps j)) := by
            rw [Hpn.out, partsN, if_neg hl0, HKy.out]
            simp [hrb]
          have Hpl := Lib.hid hpl
          have HrO := Lib.hid hkr
          clear hpl ht3 hkr
          go_upto_region 15 with (at_builtin; refine wpList_append_rd _ rfl (.tmp 52) (.tmp 54) _ rfl gx 41 i1 _ 24 Tryd.underlying71 hi1 hy0 hy1 hy2 rfl (.slice (some ⟨pQ + 1, 0, none⟩) 1 1) 1 [.slice (some ⟨pQ, 0, none⟩) 4 4] rfl ho4 (wd.heap.size + 1) (some ⟨wd.heap.size, 0, none⟩) 1 1 [.slice (some ⟨gk, 0, none⟩) 32 32] rfl (Rd.mk_ _ _ _ rfl (by omega) rfl rfl) hone2 (by simp only [maxLen]; omega) (by omega) (by rw [hz4]; have := hlt.2; omega) ?_; intro v6 w6 hown6 hgr6 hat6)
          try simp only [Act.put]
          obtain ⟨Av, cv, rfl, _, _⟩ := own_form hown6
          have HB := Lib.hid (show Below wO.heap.size wO w6 from ((hMwd.old.trans (hal.mono hszc))).grown hgr6 (Nat.le_trans hszc hal.size) (fun q hq => by
            have := (ho4.lt q hq).1
            have := Hgx.out
            omega))
          have HT6 := Lib.hid (ht4.grown hgr6 hat6)
          have HO6 := Lib.hid hown6
          have hx4 := hxr.call hal
          have hkids := (hx4.of (hgr6.block gx hx4.lt (by simp [Value.ownBlock]; omega))).cell (i := 5) (v := .slice Au x.kids.length cu) rfl
          clear ht4 ho4 hal hone2 hown6 hgr6 hat6 hx4 hxr hot htx hMwd
          have hx3 := Hx3.out
          go_wp2_with fail
          go_loopw [10, 59] (fun v10 v59 wy => ∃ (q : Nat) (A : Option Addr) (c : Nat) (vs : List Value), q ≤ x.kids.length ∧ v59 = .int .i64 (q : Int) ∧ v10 = .slice A (2 + q) c ∧ wy.ownsRow gx 41 1 (.slice A (2 + q) c) (2 + q) vs ∧ TxP wy (Value.slice A (2 + q) c).ownBlock vs ([nodeTag] ++ [ky] ++ (x.kids.take q).map (keyI (sumsJ L ids ps j))) ∧ Below wO.heap.size wO wy) (fun _ v59 _ => x.kids.length - (intOf v59).toNat)
          case atStart => exact ⟨0, Av, cv, _, by omega, rfl, rfl, HO6.out, by simpa using HT6.out, HB.out⟩
          case round =>
            clear HB HT6 HO6 hkids
            obtain ⟨q, Av, cv, vs, hq, rfl, rfl, HP, HT, HB⟩ := hrel
            by_cases hqn : q < x.kids.length
            · have hbw := hb.trans (HB.mono hb.size)
              have hql : q < x.kids.length := hqn
              obtain ⟨bk, ok, y, rfl, hbk, hy, q0⟩ := rdI_num (hku.below hbw) hqn
              have hky : x.kids[q]? = some x.kids[q] := List.getElem?_eq_getElem hql
              obtain rfl : y = ((x.kids[q] : Nat) : Int) := by
                have : (castL x.kids)[q]? = some ((x.kids[q] : Nat) : Int) := by rw [castL, List.getElem?_map, hky]; rfl
                rw [show x.i.kids = castL x.kids from rfl, this] at hy
                exact (Option.some.inj hy).symm
              have hkj := Hkk.out _ (List.getElem_mem hql)
              have HE := Lib.hid (show [nodeTag] ++ [ky] ++ (x.kids.take (q + 1)).map (keyI (sumsJ L ids ps j)) = [nodeTag] ++ [ky] ++ (x.kids.take q).map (keyI (sumsJ L ids ps j)) ++ [keyI (sumsJ L ids ps j) x.kids[q]] by
                rw [List.take_succ_eq_append_getElem hql, List.map_append]
                simp only [List.map_cons, List.map_nil, List.append_assoc])
              generalize x.kids[q] = k at *
              have hKo := KyR.of_own (own_below hown HB)
              obtain ⟨bo, oo, rfl, hbo, hro⟩ := hKo.range hkj
              have hk32 := keyI_len Hsl.out hkj
              have hrk : Rd wr wr.heap.size (some ⟨bo, oo + k * 32, none⟩) 32 ((keyI (sumsJ L ids ps j) k).map bv) := ⟨by simpa using hk32, fun _ => ⟨bo, oo + k * 32, rfl, hbo, fun z u hu => hro z u (by simpa [keyC] using hu)⟩⟩
              have zq : (q : Int) < (x.kids.length : Int) := by omega
              have zk : (k : Int) < (j : Int) := by omega
              have hlv := fun z hz => (HP.lt z hz).2
              clear hy hky
              go_wp2_with (first
                | (at_builtin; refine wpList_append_rd _ rfl (.const (.slice none 0 0)) (.tmp 67) _ rfl wr.heap.size 5 i0 _ 1 Tryd.underlying41 hi0 hz0 hz1 hz2 rfl (.slice none 0 0) 0 [] rfl (World.ownsRow_nil _ _ _ _) wr.heap.size (some ⟨bo, oo + k * 32, none⟩) 32 32 ((keyI (sumsJ L ids ps j) k).map bv) rfl hrk (one_bv _) (by simp only [maxLen]; omega) (by omega) (Nat.le_refl _) ?_; intro v7 w7 hown7 hgr7 hat7; rw [Nat.zero_add, List.nil_append] at hown7; obtain ⟨A7, c7, rfl, hc7, _⟩ := own_form hown7; have hb7 : Below wr.heap.size wr w7 := (c_refl wr).grown hgr7 (Nat.le_refl _) (fun z hz => by simp [Value.ownBlock] at hz); have ht7 := (HT.below hb7).snoc (t := keyI (sumsJ L ids ps j) k) (A := A7) (c := c7) (by rw [hk32]; exact hc7) (by rw [hk32]; exact Rd.of_own hown7) (fun b o e => by subst e; have h7 := hown7.lt b rfl; exact ⟨fun h => by have := hlv _ h; omega, h7.2⟩); rw [hk32] at ht7; have ho7 := own_below HP hb7; have hal7 := d_al w7 (.cells #[.slice A7 32 c7] 41); have ht8 := ht7.below hal7; have ho8 := own_below ho7 hal7; have hb8 := c_call hb7 hal7; have hz8 : (w7.alloc (.cells #[.slice A7 32 c7] 41)).heap.size = w7.heap.size + 1 := (by simp); have hone8 : ∀ u ∈ [Value.slice A7 32 c7], u.oneCell' = true := (by intro u hu; simp at hu; subst hu; rfl))
                | (at_builtin; refine wpList_append_rd _ rfl (.tmp 63) (.tmp 69) _ rfl gx 41 i1 _ 24 Tryd.underlying71 hi1 hy0 hy1 hy2 rfl (.slice Av (2 + q) cv) (2 + q) vs rfl ho8 (w7.heap.size + 1) (some ⟨w7.heap.size, 0, none⟩) 1 1 [.slice A7 32 c7] rfl (Rd.mk_ _ _ _ rfl (by omega) rfl rfl) hone8 (by simp only [maxLen]; omega) (by omega) (by have := hb8.size; have := HB.size; have := Hgx.out; omega) ?_; intro v8 w8 hown8 hgr8 hat8))
              go_roundw
              case rel =>
                obtain ⟨A8, c8, rfl, _, _⟩ := own_form hown8
                refine ⟨_, _, _, _, _, _, _, _, _, _, _, _, _, _, _, ?_, rfl⟩
                refine ⟨q + 1, A8, c8, _, by omega, by go_num, rfl, hown8, ?_, (HB.trans (hb8.mono HB.size)).grown hgr8 (Nat.le_trans HB.size hb8.size) (fun z hz => by
                  have := (ho8.lt z hz).1
                  have := Hgx.out
                  omega)⟩
                rw [HE.out]
                exact ht8.grown hgr8 hat8
              case measure => simp [intOf]; omega
            · obtain rfl : q = x.kids.length := by omega
              rw [List.take_length, ← Hpl.out] at HT
              have hownD := own_below hown HB
              have hKD := hK2.below (hb.trans (HB.mono hb.size))
              have hszD : w2.heap.size ≤ wr.heap.size := Nat.le_trans hb.size HB.size
              have HBD := Lib.hid HB
              have htl2 := Htl.out
              have hks : (keyC s).size = 32 := by rw [keyC_size, hsl]
              go_wp2_with (first
                | (go_at_call 29; refine (refText_any none 0 0 [] Av (2 + x.kids.length) cv _ pn _ (by omega) (by omega) (Rd.zero _ _ _) (Rd.of_own HP) HT.txs).mono ?_; intro e wE hp; obtain ⟨At, nt, ct, he, hot2, hntc, Hnt, hbt⟩ := hp.yes Hgood.out; subst he; obtain rfl : nt = (txs pn).length := (by simpa using Hnt.out); have hal := d_al wE (.cells #[.slice At (txs pn).length ct] 41); have hbE1 := c_call hbt hal; have hKE := hKD.below hbE1; have hrd := Rd.mk_ wE 41 #[.slice At (txs pn).length ct] (b := wE.heap.size) (B := wE.heap.size + 1) (n := 1) rfl (by omega) rfl rfl; have htE := Txs.one (w := wE.alloc (.cells #[.slice At (txs pn).length ct] 41)) (B := wE.heap.size) (((Rd.of_own hot2).below hal)) hntc)
                | (go_at_call 38; refine (Sum_any (some ⟨wE.heap.size, 0, none⟩) 1 1 [.slice At (txs pn).length ct] [txs pn] _ (by omega) (by simp; omega) (hrd.more (by simp)) (htE.more (by simp)) hKE).mono ?_; rintro e wF ⟨he, hbF⟩; subst he; rw [show sumU [txs pn].flatten = s by rw [Hs.out]; simp, show (s.map bv).toArray = keyC s from rfl]; have hbF1 := c_call hbE1 hbF; have halF := d_al wF (.cells (keyC s) 36); have hbF2 := c_call hbF1 halF; have hownF := own_below hownD hbF2; have hsF := hbF2.size; have hnewsF : ∀ q u, (s.map bv)[q]? = some u → (wF.alloc (.cells (keyC s) 36)).cell? ((⟨wF.heap.size, 0, none⟩ : Addr).add q) = some u := fun q u hu => (by rw [Addr.add_lit, Nat.zero_add]; exact (RowC.new wF 36 (keyC s)).cell (by simpa [keyC] using hu)))
                | (at_builtin; rw [Hfd.out]; refine wpList_append_own_at _ rfl (.tmp 90) (.tmp 94) _ rfl w2.heap.size 36 iK _ 32 32 Tryd.underlying26 hiK hzK hsK hbK rfl (by omega) (.slice A j c) j _ rfl hownF ⟨wF.heap.size, 0, none⟩ 1 1 (s.map bv) rfl (by simp [hsl]) hnewsF (one_bv _) (by simp only [maxLen]; omega) (by omega) (Nat.le_trans hszD hsF) ?_; intro v5 w5 hown5 hgr5 hnil5 hat5))
              go_roundw
              case rel =>
                obtain ⟨A5, c5, rfl, _, _⟩ := own_slK hown5
                refine ⟨j + 1, A5, c5, by omega, by go_num, rfl, ?_, (((hb.trans (HBD.out.mono hb.size)).trans (hbF2.mono hszD)).grown hgr5 (Nat.le_trans hszD hsF) (fun q hq => (hownF.lt q hq).1))⟩
                rw [Hsn2.out, ← Hs.out, List.map_append]
                exact hown5
              case measure => simp [intOf]; omega
    · obtain rfl : j = np := by omega
      have hfin := Hpost.out.2 wO A c _ (hold2.trans (hb.mono hold2.size)) Hok.out (own_lower hown hold2.size) Hsum.out.symm
      have HF := Lib.hid hfin
      clear hown hb hfin
      go_wp2_with fail
      exact HF.out

end Go.Proofs.YtlidhdljgnijaaaDoor

