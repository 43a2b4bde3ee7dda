import Derived.Test.YtlidhdljgnijaaaDoorK34
import Derived.Test.YtlidhdljgnijaaaDoorK49
import Derived.Test.YtlidhdljgnijaaaDoorK43
/-
  THE WALK of coterielaw13.TagWay over what the program's functions are asked to do. Printed by gen_tagway.py.
-/
set_option linter.unusedVariables false
namespace Go.Proofs.YtlidhdljgnijaaaDoor
open Go.RowKit

theorem grown_setCells (b : Nat) : ∀ (vs : List Value) (o : Nat) (w : World), w.grownBy (w.setCells b o vs) (some b)
  | [], o, w => World.grownBy.refl w _
  | v :: vs, o, w => by
    have h1 : w.grownBy (w.setCell ⟨b, o, none⟩ v) (some b) := ⟨rfl, rfl, rfl, by simp [World.setCell], fun k _ hk => Below.heap_setCell w ⟨b, o, none⟩ v k (fun e => hk (by rw [e]))⟩
    have h2 := grown_setCells b vs (o + 1) (w.setCell ⟨b, o, none⟩ v)
    exact ⟨h2.os.trans h1.os, h2.tape.trans h1.tape, h2.output.trans h1.output, Nat.le_trans h1.size h2.size, fun q hq hn => by rw [World.setCells, h2.block q (Nat.lt_of_lt_of_le hq h1.size) hn, h1.block q hq hn]⟩
/-- the points with another one at a place, as they stand -/
theorem ky_setK {w : World} {b o n c : Nat} {ps pt : List UInt8} (h : KyR w w.heap.size (some ⟨b, o, none⟩) n c ps) {i : Nat} (hi : i < n) (ht : pt.length = 32) (hth : w.there b (o + i * 32) 32) : KyR (w.setCells b (o + i * 32) (keyC pt).toList) w.heap.size (some ⟨b, o, none⟩) n c (setK ps i pt) := by
  have hl : (keyC pt).toList.length = 32 := by simp [keyC, ht]
  refine ⟨⟨by rw [List.length_map]; exact setK_len h.len ht hi, fun h0 => ?_⟩, h.hnc, h.hcm⟩
  obtain ⟨b', o', e, hb, hc⟩ := h.row.pos h0
  injection e with e
  injection e with e1 e2
  subst e1 e2
  refine ⟨b, o, rfl, hb, fun q u hu => ?_⟩
  rw [List.getElem?_map, setK_at h.len ht hi] at hu
  split at hu
  · next hq =>
    have hr := World.rangeAt_setCells_same w b (o + i * 32) (keyC pt).toList (by rw [hl]; exact hth)
    have := hr (q - i * 32) u (by rw [← List.getElem?_map] at hu; simpa [keyC] using hu)
    rw [show o + i * 32 + (q - i * 32) = o + q by omega] at this
    exact this
  · next hq =>
    have hr : w.rangeAt b (o + q) [u] := fun z v hv => by
      match z, hv with
      | 0, hv =>
        simp at hv
        subst hv
        rw [Nat.add_zero]
        exact hc q _ (by rw [List.getElem?_map]; exact hu)
    have := World.rangeAt_setCells_apart hr b (o + i * 32) (keyC pt).toList (by rw [hl]; simp only [List.length_cons, List.length_nil]; omega) 0 u rfl
    rwa [Nat.add_zero] at this

theorem Path11_eqT (w : World) (kind : Int) (ids : List Int) (ll : List (List Int)) (id : Int) : Path11Post w kind ids ll id = fun e w' => Below w.heap.size w w' ∧ ∃ A n c, e = .returned (.tuple #[.slice A n c, .int .i64 (pathE kind ids ll id)]) ∧ n ≤ c ∧ c ≤ maxLen ∧ Rd w' w'.heap.size A n (kidV (pathI kind ids ll id)) := rfl
set_option maxRecDepth 100000 in
set_option maxHeartbeats 16000000 in
theorem walkH_TagWay (hC : HGC) (hS : HGS) (hU : HGU) (hL : HGL) (kind : Int) (Ai : Option Addr) (ni ci : Nat) (Al : Option Addr) (nl cl : Nat) (ids : List Int) (ll : List (List Int)) (Ap : Option Addr) (np cp : Nat) (ps : List UInt8) (id : Int) (pt : List UInt8) (w : World)
    (h : TgR w w.heap.size Ai ni ci Al nl cl ids ll Ap np cp ps) (hpt : pt.length = 32) (hT : CTab w) :
    Calls Tryd.prog 7 #[.agg (tgV kind Ai ni ci Al nl cl Ap np cp), .int .i64 id, .agg (keyC pt)] w fun e w' => e = .returned (.bool true) ∧ Below w.heap.size w w' := by
  have hM0 := ((Ms.nil w).box 28 (tgV kind Ai ni ci Al nl cl Ap np cp)).box 36 (keyC pt)
  simp only [World.size_alloc] at hM0
  have hsp := sizeKey hpt
  have hspL := sizeKeyL hpt
  have honp := one_keyF pt
  go_enter Tryd.func7, Tryd.ntmps7
  go_upto_region 1 with fail
  try simp only [Act.put]
  obtain ⟨g, hg⟩ : ∃ g, g = w.heap.size := ⟨_, rfl⟩
  rw [← hg] at hM0 ⊢
  refine wp_gen (fun wx => Ms w wx [(g + 1, 36, keyC pt), (g, 28, (tgV kind Ai ni ci Al nl cl Ap np cp))]) hM0 ?_
  have Hg := Lib.hid hg
  clear hM0 hg
  rintro w0 hM0
  go_wp2_with fail
  refine (live13 hC hS hU _ (hT.below hM0.old)).mono ?_
  rintro e w1 ⟨he, hb1⟩
  subst he
  have hM1 := hM0.call hb1
  clear hM0 hb1
  have hr1 := hM1.get 1 rfl
  have hf1 := RFew13 kind Ai ni ci Al nl cl ids ll Ap np cp ps w1 ((h.below hM1.old).more hM1.old.size)
  go_wp2_with ((with_reducible show wpList _ _ _ (⟨some 22, _, _, _, _, _⟩ :: _) _ _); refine wpList_loadC (by kernel_rfl) 28 (.tmp 3) rfl g rfl 28 (tgV kind Ai ni ci Al nl cl Ap np cp) _ hr1 Tryd.underlying28 rfl tgInfo2 ?_)
  refine hf1.mono ?_
  rintro e w2 ⟨he, hb2⟩
  subst he
  have hM2 := hM1.call hb2
  clear hM1 hb2 hr1 hf1
  by_cases hfw : fewG ids ll np = true
  rotate_left
  · rw [Bool.eq_false_iff.2 hfw]
    have hold := hM2.old
    clear hM2
    go_wp2_with fail
    go_ret
    exact ⟨rfl, hold⟩
  rw [hfw]
  rw [fewG, Bool.and_eq_true, Bool.and_eq_true, decide_eq_true_eq, decide_eq_true_eq] at hfw
  obtain ⟨hf, _, hnp⟩ := hfw
  have hq := fun wx => eql_keyK wx pt zeroK hpt zeroK_len
  rw [keyC_zero] at hq
  have hr5 := hM2.get 0 rfl
  by_cases hz : pt = zeroK
  · have hzb : (pt == zeroK) = true := by rw [beq_iff_eq]; exact hz
    simp only [hzb] at hq
    have hold := hM2.old
    clear hM2 hz hzb
    go_wp2_with ((with_reducible show wpList _ _ _ (⟨some 26, _, _, _, _, _⟩ :: _) _ _); refine wpList_loadC (by kernel_rfl) 36 (.tmp 5) rfl (g + 1) rfl 36 (keyC pt) _ hr5 Tryd.underlying36 rfl hsp ?_)
    go_ret
    exact ⟨rfl, hold⟩
  have hzb : (pt == zeroK) = false := by rw [beq_eq_false_iff_ne]; exact hz
  simp only [hzb] at hq
  clear hzb
  have hlf := hL kind Ai ni ci Al nl cl ids ll Ap np cp ps id w2 ((h.below hM2.old).more hM2.old.size) hf
  have hr3 := hM2.get 1 rfl
  go_wp2_with (first
    | ((with_reducible show wpList _ _ _ (⟨some 26, _, _, _, _, _⟩ :: _) _ _); refine wpList_loadC (by kernel_rfl) 36 (.tmp 5) rfl (g + 1) rfl 36 (keyC pt) _ hr5 Tryd.underlying36 rfl hsp ?_)
    | ((with_reducible show wpList _ _ _ (⟨some 32, _, _, _, _, _⟩ :: _) _ _); refine wpList_loadC (by kernel_rfl) 28 (.tmp 3) rfl g rfl 28 (tgV kind Ai ni ci Al nl cl Ap np cp) _ hr3 Tryd.underlying28 rfl tgInfo2 ?_))
  refine hlf.mono ?_
  rintro e w3 ⟨he, hb3⟩
  subst he
  have hM3 := hM2.call hb3
  clear hM2 hb3 hr3 hr5 hlf hq
  have hold3 := hM3.old
  by_cases hok : okG kind ids ll np ps = true
  rotate_left
  · rw [show leafE kind ids ll np ps id = 1 by rw [leafE, if_neg hok]]
    clear hM3
    go_wp2_with fail
    go_ret
    exact ⟨rfl, hold3⟩
  by_cases hid : id ∈ ids
  rotate_left
  · rw [show leafE kind ids ll np ps id = 6 by rw [leafE, if_pos hok, if_neg hid]]
    clear hM3
    go_wp2_with fail
    go_ret
    exact ⟨rfl, hold3⟩
  rw [show leafE kind ids ll np ps id = 0 by rw [leafE, if_pos hok, if_pos hid], show leafG kind ids ll np ps id = (((pathI kind ids ll id).getD 0 0 : Nat) : Int) by rw [leafG, if_pos ⟨hok, hid⟩]]
  obtain ⟨hi, hok2, hsame⟩ := tag_way hok h.pts.len hpt hz hid
  have hm := okG_may hok
  have hpe : pathE kind ids ll id = 0 := by rw [pathE, if_pos hm, if_pos (isT_mem.2 hid)]
  have hpl := pathI_len kind ids ll id
  have hlps := h.pts.len
  generalize (pathI kind ids ll id).getD 0 0 = i at *
  have HB := Lib.hid (fun wx (hb : Below w.heap.size w wx) => (h.below hb).more hb.size)
  have Hh := Lib.hid h
  have zi : (i : Int) < (np : Int) := by omega
  have Hok2 := Lib.hid hok2
  have Hsame := Lib.hid hsame
  have Hok := Lib.hid hok
  clear hok hok2 hsame hm h hold3
  have hcp := RCopy13 kind Ai ni ci Al nl cl ids ll Ap np cp ps w3 (HB.out w3 hM3.old) hf (by omega)
  have hr3 := hM3.get 1 rfl
  go_wp2_with ((with_reducible show wpList _ _ _ (⟨some 48, _, _, _, _, _⟩ :: _) _ _); refine wpList_loadC (by kernel_rfl) 28 (.tmp 3) rfl g rfl 28 (tgV kind Ai ni ci Al nl cl Ap np cp) _ hr3 Tryd.underlying28 rfl tgInfo2 ?_)
  refine hcp.mono ?_
  rintro e w4 ⟨hb4, Aw, nw, cw, Bw, mw, dw, Pw, ew, he, hshw, hownw, B0, hB0, hsh0, hq0⟩
  subst he
  have hM4 := hM3.call hb4
  have hkyw := KyR.of_own hownw
  obtain ⟨bw, ow, hPw, hbw, hcw⟩ := hkyw.row.pos (show 0 < np * 32 by omega)
  subst hPw
  have hqb := hq0 bw rfl
  have hput := hM4.put 28 #[.int .i64 0, .slice none 0 0, .slice none 0 0, .slice none 0 0] (tgV kind Aw nw cw Bw mw dw (some ⟨bw, ow, none⟩) np ew)
  have hB4 := below_setRow ((Below.refl w4.heap.size w4).alloc (Nat.le_refl _) (.cells #[.int .i64 0, .slice none 0 0, .slice none 0 0, .slice none 0 0] 28)) (Nat.le_refl _) (tgV kind Aw nw cw Bw mw dw (some ⟨bw, ow, none⟩) np ew)
  have hown4 := own_below hownw hB4
  have hsh4 := hsh0.below (hB4.mono hB0)
  have hltb := (hownw.lt bw rfl)
  have Hg3 := Lib.hid (show g + 1 < w3.heap.size from (hM3.get 0 rfl).lt)
  clear hcp hr3 hM3 hb4 hM4 hshw hownw hkyw hcw hsh0 hq0
  go_upto_region 8 with ((with_reducible show wpList _ _ _ (⟨none, Op.store 28 _ _, _, _, _, _⟩ :: _) _ _); refine wpList_store_row rfl 28 (.tmp 10) (.tmp 49) rfl w4.heap.size (tgV kind Aw nw cw Bw mw dw (some ⟨bw, ow, none⟩) np ew) rfl rfl 28 _ (RowC.new _ _ _) tgInfo2 rfl (by simp [tgV, Value.oneCell']) ?_)
  try simp only [Act.put]
  obtain ⟨gw, hgw⟩ : ∃ q, q = w4.heap.size := ⟨_, rfl⟩
  have hbgw : bw < gw := by rw [hgw]; exact hltb.2
  have hle4 := hB4.size
  rw [← hgw] at hput hle4 hB0 hown4 hsh4 ⊢
  refine wp_gen (fun wx => Ms w wx [(gw, 28, (tgV kind Aw nw cw Bw mw dw (some ⟨bw, ow, none⟩) np ew)), (g + 1, 36, keyC pt), (g, 28, (tgV kind Ai ni ci Al nl cl Ap np cp))] ∧ wx.ownsRow w3.heap.size 36 32 (.slice (some ⟨bw, ow, none⟩) np ew) np (ps.map bv) ∧ ShR wx B0 Aw nw cw Bw mw dw ids ll ∧ gw ≤ wx.heap.size) ⟨hput, hown4, hsh4, hle4⟩ ?_
  have hb3w := hltb.1
  clear hput hown4 hsh4 hle4 hB4 hgw hltb hbw
  rintro w5 ⟨hM5, hown5, hsh5, hle5⟩
  have hg3 : g + 1 < w3.heap.size := Hg3.out
  have hky5 := KyR.of_own hown5
  have hrow5 : ∃ cur, RowC w5 bw 36 cur := by
    rcases hown5.2 with ⟨e, h0⟩ | ⟨q, cap, cur, e, _, hgc, _⟩
    · cases e
    · injection e with e
      injection e with e
      injection e with e _
      subst e
      exact ⟨cur, hgc⟩
  obtain ⟨cur, hcur⟩ := hrow5
  have hth : w5.there bw (ow + i * 32) 32 := fun z hz => by
    obtain ⟨b', o', e, _, hc⟩ := hky5.row.pos (show 0 < np * 32 by omega)
    injection e with e
    injection e with e1 e2
    subst e1 e2
    have h1 : (i + 1) * 32 ≤ np * 32 := Nat.mul_le_mul_right _ hi
    have hql : i * 32 + z < ps.length := by rw [hlps]; omega
    have := hc (i * 32 + z) _ (by rw [List.getElem?_map, List.getElem?_eq_getElem hql]; rfl)
    rw [← Nat.add_assoc] at this
    exact ⟨by rw [this]; rfl, hcur.frozen _⟩
  have hgrS := grown_setCells bw (keyC pt).toList (ow + i * 32) w5
  have hkyS := ky_setK hky5 hi hpt hth
  have hshS := hsh5.below ((Below.refl B0 w5).grown hgrS (Nat.le_trans hB0 hle5) (fun k hk => by injection hk with hk; omega))
  have hMS : Ms w (w5.setCells bw (ow + i * 32) (keyC pt).toList) [(gw, 28, (tgV kind Aw nw cw Bw mw dw (some ⟨bw, ow, none⟩) np ew)), (g + 1, 36, keyC pt), (g, 28, (tgV kind Ai ni ci Al nl cl Ap np cp))] := ⟨hM5.old.grown hgrS hM5.old.size (fun k hk => by injection hk with hk; have := Hg.out; omega), fun p hp => by
    have hlt := (hM5.rows p hp).lt
    refine (hM5.rows p hp).of (hgrS.block p.1 hlt (fun e => ?_))
    injection e with e
    simp only [List.mem_cons, List.not_mem_nil, or_false] at hp
    rcases hp with rfl | rfl | rfl <;> simp only at e <;> omega⟩
  have c3 := (hM5.get 0 rfl).cell (i := 3) (v := .slice (some ⟨bw, ow, none⟩) np ew) rfl
  have hr5 := hM5.get 1 rfl
  have hth2 : w5.there bw (ow + i * 32) (keyC pt).size := by rw [keyC_size, hpt]; exact hth
  have hszS : w5.heap.size ≤ (w5.setCells bw (ow + i * 32) (keyC pt).toList).heap.size := hgrS.size
  clear hM5 hown5 hsh5 hky5 hcur hth
  go_upto_region 9 with (first
    | ((with_reducible show wpList _ _ _ (⟨some 53, _, _, _, _, _⟩ :: _) _ _); refine wpList_loadC (by kernel_rfl) 36 (.tmp 5) rfl (g + 1) rfl 36 (keyC pt) _ hr5 Tryd.underlying36 rfl hsp ?_)
    | ((with_reducible show wpList _ _ _ (⟨none, Op.store 36 _ _, _, _, _, _⟩ :: _) _ _); refine wpList_store_mid rfl 36 (.tmp 54) (.tmp 53) rfl bw (ow + i * 32) (keyC pt) rfl rfl hth2 hsp honp ?_))
  try simp only [Act.put]
  refine wp_gen (fun wx => Ms w wx [(gw, 28, (tgV kind Aw nw cw Bw mw dw (some ⟨bw, ow, none⟩) np ew)), (g + 1, 36, keyC pt), (g, 28, (tgV kind Ai ni ci Al nl cl Ap np cp))] ∧ TgR wx wx.heap.size Aw nw cw Bw mw dw ids ll (some ⟨bw, ow, none⟩) np ew (setK ps i pt)) ⟨hMS, hshS.more (Nat.le_trans (Nat.le_trans hB0 hle5) hszS), hkyS.more hszS⟩ ?_
  clear hMS hshS hkyS hszS hgrS c3 hr5 hth2 hle5 hB0 hqb hb3w hg3 hbgw
  rintro w6 ⟨hM6, hTw⟩
  have hs6 := hS kind Ai ni ci Al nl cl ids ll Ap np cp ps w6 (HB.out w6 hM6.old) hf (hT.below hM6.old)
  have hr6 := hM6.get 2 rfl
  go_wp2_with ((with_reducible show wpList _ _ _ (⟨some 56, _, _, _, _, _⟩ :: _) _ _); refine wpList_loadC (by kernel_rfl) 28 (.tmp 3) rfl g rfl 28 (tgV kind Ai ni ci Al nl cl Ap np cp) _ hr6 Tryd.underlying28 rfl tgInfo2 ?_)
  refine hs6.mono ?_
  rintro e w7 ⟨hb7, ⟨hno, _⟩ | ⟨_, Aa, ca, he, howna⟩⟩
  · rw [Hok.out] at hno; cases hno
  subst he
  have hM7 := hM6.call hb7
  have hTw7 := (hTw.below hb7).more hb7.size
  have hka := KyR.of_own howna
  clear hM6 hs6 hr6 hTw hb7 howna
  have hs7 := hS kind Aw nw cw Bw mw dw ids ll (some ⟨bw, ow, none⟩) np ew (setK ps i pt) w7 hTw7 hf (hT.below hM7.old)
  have hr7 := hM7.get 0 rfl
  go_wp2_with ((with_reducible show wpList _ _ _ (⟨some 61, _, _, _, _, _⟩ :: _) _ _); refine wpList_loadC (by kernel_rfl) 28 (.tmp 10) rfl gw rfl 28 (tgV kind Aw nw cw Bw mw dw (some ⟨bw, ow, none⟩) np ew) _ hr7 Tryd.underlying28 rfl tgInfo2 ?_)
  refine hs7.mono ?_
  rintro e w8 ⟨hb8, ⟨hno, _⟩ | ⟨_, Ab, cb, he, hownb⟩⟩
  · rw [Hok2.out] at hno; cases hno
  subst he
  have hM8 := hM7.call hb8
  have hka8 := (hka.below hb8).more hb8.size
  have hkb := KyR.of_own hownb
  clear hM7 hs7 hr7 hTw7 hb8 hownb hka
  have hp8 := PPath_any11 kind Ai ni ci Al nl cl ids ll id w8 (HB.out w8 hM8.old).sh hf
  rw [Path11_eqT, hpe] at hp8
  have c0 := (hM8.get 2 rfl).cell (i := 0) (v := .int .i64 kind) rfl
  have hr8 := tg_sh (hM8.get 2 rfl)
  go_wp2_with ((with_reducible show wpList _ _ _ (⟨some 69, _, _, _, _, _⟩ :: _) _ _); refine wpList_load_midG (by kernel_rfl) 25 (.tmp 68) rfl g 1 rfl (shV Ai ni ci Al nl cl).toList _ hr8 Tryd.underlying25 rfl shapeInfo2 ?_)
  refine hp8.mono ?_
  rintro e w9 ⟨hb9, Ax, nx, cx, he, hxc, hxm, hpx⟩
  subst he
  have hfin := hM8.old.trans (hb9.mono hM8.old.size)
  have hka9 := (hka8.below hb9).more hb9.size
  have hkb9 := (hkb.below hb9).more hb9.size
  have hnx : (pathI kind ids ll id).length = nx := by have := hpx.len; rwa [kidV, List.length_map] at this
  have hla := sumsT_len Hok.out
  have hlb := sumsT_len Hok2.out
  generalize pathI kind ids ll id = P at *
  generalize sumsT kind ids ll ps np = xa at *
  generalize sumsT kind ids ll (setK ps i pt) np = xb at *
  have hnx2 : nx ≤ 2000 := by omega
  clear hM8 hp8 c0 hr8 hb9 hka8 hkb Hh HB hT hC hS hU hL
  have HA9 := Lib.hid hka9
  have HB9 := Lib.hid hkb9
  have HX9 := Lib.hid hpx
  have Hnx := Lib.hid hnx
  have hcm := Nat.le_trans hka9.hnc hka9.hcm
  clear hka9 hkb9 hpx hnx hcm
  go_wp2_with fail
  go_loopw [93] (fun v93 wr => ∃ k : Nat, k ≤ np ∧ v93 = .int .i64 (k : Int) ∧ Below w9.heap.size w9 wr) (fun v93 _ => np - (intOf v93).toNat)
  case atStart => exact ⟨0, by omega, rfl, Below.refl _ _⟩
  case round =>
    obtain ⟨k, hk, rfl, hb⟩ := hrel
    by_cases hkn : k < np
    · obtain ⟨wO, hwO⟩ : ∃ v, v = wr := ⟨_, rfl⟩
      subst hwO
      have zk : (k : Int) < (np : Int) := by omega
      have Hb := Lib.hid hb
      clear hb
      go_wp2_with fail
      go_loopw [18, 98] (fun v18 v98 wy => ∃ t : Nat, t ≤ nx ∧ v98 = .int .i64 (t : Int) ∧ v18 = .bool (decide (k ∈ P.take t)) ∧ wy = wO) (fun _ v98 _ => nx - (intOf v98).toNat)
      case atStart => exact ⟨0, by omega, rfl, by simp, rfl⟩
      case round =>
        obtain ⟨t, ht, rfl, rfl, hw⟩ := hrel
        subst hw
        by_cases htn : t < nx
        · have htl : t < P.length := by have := Hnx.out; omega
          obtain ⟨bx, ox, rfl, _, hcx⟩ := (HX9.out.below Hb.out).pos (by omega)
          have q0 := hcx t (.int .i64 ((P[t] : Nat) : Int)) (by rw [kidV, List.getElem?_map, List.getElem?_eq_getElem htl]; rfl)
          have hE : decide (k ∈ P.take (t + 1)) = (decide (k ∈ P.take t) || decide (P[t] = k)) := by
            rw [List.take_succ_eq_append_getElem htl]
            simp only [List.mem_append, List.mem_singleton, Bool.decide_or]
            congr 1
            exact decide_eq_decide.2 eq_comm
          have HE := Lib.hid hE
          have hpk : (((P[t] : Nat) : Int) == (k : Int)) = decide (P[t] = k) := by
            rw [Bool.eq_iff_iff, beq_iff_eq, decide_eq_true_eq]
            omega
          have hpk2 : decide (((P[t] : Nat) : Int) = (k : Int)) = decide (P[t] = k) := decide_eq_decide.2 (by omega)
          generalize decide (P[t] = k) = d1 at *
          generalize decide (k ∈ P.take t) = d0 at *
          generalize P[t] = pk at *
          have zt : (t : Int) < (nx : Int) := by omega
          clear hcx hE
          cases d0
          · go_wp2_with fail
            go_roundw
            case rel => exact ⟨t + 1, by omega, by go_num, by rw [HE.out]; rfl, trivial⟩
            case measure => simp [intOf]; omega
          · go_wp2_with fail
            go_roundw
            case rel => exact ⟨t + 1, by omega, by go_num, by rw [HE.out]; rfl, trivial⟩
            case measure => simp [intOf]; omega
        · obtain rfl : t = nx := by omega
          rw [show P.take t = P by rw [← Hnx.out]; exact List.take_length]
          have Hb2 := Lib.hid (c_drew Hb.out)
          by_cases hon : k ∈ P
          · rw [decide_eq_true hon]
            go_upto_region 23 with fail
            try simp only [Act.put]
            refine wp_region_still_lit (by kernel_rfl) (by kernel_rfl) ?_
            repeat (with_reducible refine wpStill_step (fun K hK => ?_); go_simp; with_reducible refine hK _ ?_; clear hK K)
            with_reducible refine wpStill_nil ?_
            change Exit.then _ _ Exit.normal _ wr.drew
            generalize wr.drew = wC at *
            go_wp2_with fail
            go_roundw
            case rel => exact ⟨k + 1, by omega, by go_num, Hb2.out⟩
            case measure => simp [intOf]; omega
          · rw [decide_eq_false hon]
            obtain ⟨ba, oa, rfl, hba, hra⟩ := HA9.out.range hkn
            obtain ⟨bb, ob, rfl, hbb, hrb⟩ := HB9.out.range hkn
            have hkl := keyI_len hla hkn
            rw [Hsame.out k hkn hon] at hrb
            generalize keyI xa k = kk at *
            have hq := fun wx : World => neq_keyK wx kk kk hkl hkl
            simp only [beq_self_eq_true, Bool.not_true] at hq
            have hsk := sizeKeyL hkl
            have hun := Tryd.underlying36
            have hkeep : ∀ wx : World, Below w9.heap.size w9 wx → wx.rangeAt ba (oa + k * 32) (keyC kk).toList ∧ wx.rangeAt bb (ob + k * 32) (keyC kk).toList := fun wx hbx => ⟨rangeW hra hba hbx, rangeW hrb hbb hbx⟩
            clear hra hrb
            go_upto_region 23 with fail
            try simp only [Act.put]
            refine beginT (fun wx : World => wx.rangeAt ba (oa + k * 32) (keyC kk).toList ∧ wx.rangeAt bb (ob + k * 32) (keyC kk).toList) 13 (by kernel_rfl) ?_
            have hS0 := hkeep _ (c_drew Hb.out)
            refine takeD 0 (some 109) (.bool false) rfl rfl (by kernel_rfl) (by kernel_rfl) (by kernel_rfl) (by kernel_rfl) (fun _ _ _ h => h) (Or.inl ⟨by kernel_rfl, fun wx hSw => by go_simp⟩) hS0 ?_
            try simp only [Act.put, List.setIfInBounds_toArray, List.set_cons_zero, List.set_cons_succ]
            refine takeD 1 (some 110) (.bool true) rfl rfl (by kernel_rfl) (by kernel_rfl) (by kernel_rfl) (by kernel_rfl) (fun _ _ _ h => h) (Or.inl ⟨by kernel_rfl, fun wx hSw => by go_simp⟩) hS0 ?_
            try simp only [Act.put, List.setIfInBounds_toArray, List.set_cons_zero, List.set_cons_succ]
            refine takeD 2 (some 111) (.bool true) rfl rfl (by kernel_rfl) (by kernel_rfl) (by kernel_rfl) (by kernel_rfl) (fun _ _ _ h => h) (Or.inl ⟨by kernel_rfl, fun wx hSw => by go_simp⟩) hS0 ?_
            try simp only [Act.put, List.setIfInBounds_toArray, List.set_cons_zero, List.set_cons_succ]
            refine takeD 3 (some 112) (.slice (some ⟨ba, oa, none⟩) np ca) rfl rfl (by kernel_rfl) (by kernel_rfl) (by kernel_rfl) (by kernel_rfl) (fun _ _ _ h => h) (Or.inl ⟨by kernel_rfl, fun wx hSw => by go_simp⟩) hS0 ?_
            try simp only [Act.put, List.setIfInBounds_toArray, List.set_cons_zero, List.set_cons_succ]
            refine takeD 4 (some 113) (.int .i64 (k : Int)) rfl rfl (by kernel_rfl) (by kernel_rfl) (by kernel_rfl) (by kernel_rfl) (fun _ _ _ h => h) (Or.inl ⟨by kernel_rfl, fun wx hSw => by go_simp⟩) hS0 ?_
            try simp only [Act.put, List.setIfInBounds_toArray, List.set_cons_zero, List.set_cons_succ]
            refine takeD 5 (some 114) (.pointer (some ⟨ba, oa + k * 32, none⟩)) rfl rfl (by kernel_rfl) (by kernel_rfl) (by kernel_rfl) (by kernel_rfl) (fun _ _ _ h => h) (Or.inl ⟨by kernel_rfl, fun wx hSw => by go_simp⟩) hS0 ?_
            try simp only [Act.put, List.setIfInBounds_toArray, List.set_cons_zero, List.set_cons_succ]
            refine loadT 6 (some 115) 36 (.tmp 114) ba (oa + k * 32) (keyC kk).toList rfl rfl (by kernel_rfl) (by kernel_rfl) (by kernel_rfl) (by kernel_rfl) rfl (by kernel_rfl) rfl (fun wx hSw => hSw.1) hun rfl hsk (fun _ _ _ h => h) hS0 ?_
            try simp only [Act.put, List.setIfInBounds_toArray, List.set_cons_zero, List.set_cons_succ, Array.toArray_toList]
            refine takeD 7 (some 116) (.slice (some ⟨bb, ob, none⟩) np cb) rfl rfl (by kernel_rfl) (by kernel_rfl) (by kernel_rfl) (by kernel_rfl) (fun _ _ _ h => h) (Or.inl ⟨by kernel_rfl, fun wx hSw => by go_simp⟩) hS0 ?_
            try simp only [Act.put, List.setIfInBounds_toArray, List.set_cons_zero, List.set_cons_succ]
            refine takeD 8 (some 117) (.int .i64 (k : Int)) rfl rfl (by kernel_rfl) (by kernel_rfl) (by kernel_rfl) (by kernel_rfl) (fun _ _ _ h => h) (Or.inl ⟨by kernel_rfl, fun wx hSw => by go_simp⟩) hS0 ?_
            try simp only [Act.put, List.setIfInBounds_toArray, List.set_cons_zero, List.set_cons_succ]
            refine takeD 9 (some 118) (.pointer (some ⟨bb, ob + k * 32, none⟩)) rfl rfl (by kernel_rfl) (by kernel_rfl) (by kernel_rfl) (by kernel_rfl) (fun _ _ _ h => h) (Or.inl ⟨by kernel_rfl, fun wx hSw => by go_simp⟩) hS0 ?_
            try simp only [Act.put, List.setIfInBounds_toArray, List.set_cons_zero, List.set_cons_succ]
            refine loadT 10 (some 119) 36 (.tmp 118) bb (ob + k * 32) (keyC kk).toList rfl rfl (by kernel_rfl) (by kernel_rfl) (by kernel_rfl) (by kernel_rfl) rfl (by kernel_rfl) rfl (fun wx hSw => hSw.2) hun rfl hsk (fun _ _ _ h => h) hS0 ?_
            try simp only [Act.put, List.setIfInBounds_toArray, List.set_cons_zero, List.set_cons_succ, Array.toArray_toList]
            refine takeD 11 (some 120) (.bool false) rfl rfl (by kernel_rfl) (by kernel_rfl) (by kernel_rfl) (by kernel_rfl) (fun _ _ _ h => h) (Or.inl ⟨by kernel_rfl, fun wx hSw => by go_simp⟩) hS0 ?_
            try simp only [Act.put, List.setIfInBounds_toArray, List.set_cons_zero, List.set_cons_succ]
            refine takeD 12 (some 121) (.bool false) rfl rfl (by kernel_rfl) (by kernel_rfl) (by kernel_rfl) (by kernel_rfl) (fun _ _ _ h => h) (Or.inl ⟨by kernel_rfl, fun wx hSw => by go_simp⟩) hS0 ?_
            try simp only [Act.put, List.setIfInBounds_toArray, List.set_cons_zero, List.set_cons_succ]
            refine doneT (by kernel_rfl) ?_ _
            generalize wr.drew = wC at *
            clear hS0 hkeep hq
            go_wp2_with fail
            go_roundw
            case rel => exact ⟨k + 1, by omega, by go_num, Hb2.out⟩
            case measure => simp [intOf]; omega
    · obtain rfl : k = np := by omega
      have hend := hfin.trans (hb.mono hfin.size)
      clear hb
      go_wp2_with fail
      go_ret
      exact ⟨rfl, hend⟩

end Go.Proofs.YtlidhdljgnijaaaDoor

/-
  THE WALK of TagWay (coterielaw13) at the program's own functions.
-/
set_option linter.unusedVariables false
namespace Go.Proofs.YtlidhdljgnijaaaDoor
open Go.RowKit

theorem walk_TagWay (kind : Int) (Ai : Option Addr) (ni ci : Nat) (Al : Option Addr) (nl cl : Nat) (ids : List Int) (ll : List (List Int)) (Ap : Option Addr) (np cp : Nat) (ps : List UInt8) (id : Int) (pt : List UInt8) (w : World) (h : TgR w w.heap.size Ai ni ci Al nl cl ids ll Ap np cp ps) (hi1 : -9223372036854775808 ≤ id) (hi2 : id ≤ 9223372036854775807) (hpt : pt.length = 32) (hT : CTab w) :
    Calls Tryd.prog 7 #[.agg (tgV kind Ai ni ci Al nl cl Ap np cp), .int .i64 id, .agg (keyC pt)] w fun e w' => e = .returned (.bool true) ∧ Below w.heap.size w w' :=
  walkH_TagWay tgC tgS tgU tgL kind Ai ni ci Al nl cl ids ll Ap np cp ps id pt w h hpt hT

end Go.Proofs.YtlidhdljgnijaaaDoor

