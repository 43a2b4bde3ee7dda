import Derived.Test.YtbickllpledlbaaG31
import Derived.Test.YtbickllpledlbaaG07
/-
  CONTRACT of the program's Spans (tree). Printed by gen_treepl.py.
-/
set_option linter.unusedVariables false
namespace Go.Proofs.Ytbickllpledlbaa
open Go.RowKit

theorem chunk_ones : ∀ (l : List Nat) (m : Nat), l.sum ≤ m → chunkT l (List.replicate m 1) = l
  | [], _, _ => rfl
  | n :: l, m, h => by
    rw [List.sum_cons] at h
    rw [chunkT, List.take_replicate, Nat.min_eq_left (by omega), List.drop_replicate, chunk_ones l (m - n) (by omega)]
    simp
theorem scan_len (l : List Nat) : (scanT l).length = l.length + 1 := by simp [scanT, scanTo]
theorem scan_upto (l : List Nat) (f : Nat → Nat) : scanT l = uptoN f (startT l) (l.length + 1) 0 := by rw [uptoN_zero]; rfl
theorem scan_done (l W : List Nat) (g : Nat → Nat) (hs : l.sum ≤ W.length) : uptoN (fun k => startT W (startT l k)) g (l.length + 1) (l.length + 1) = scanT (chunkT l W) := by
  rw [uptoN_all, scanT, scanTo, chunkT_len]
  apply List.map_congr_left
  intro k hk
  rw [chunkT_start l W k (by have := List.mem_range.1 hk; omega) hs]

theorem lvOK_next : ∀ (lv : List (List Nat)) (many q : Nat), lvOK many lv → ∀ (h : q + 1 < lv.length), lv[q + 1].sum = lv[q].length
  | [], many, q, _, h => by simp at h
  | [l], many, q, _, h => by simp at h
  | l :: l2 :: ls, many, 0, ⟨h1, h2, h3, h4⟩, h => h4.2.2.1
  | l :: l2 :: ls, many, q + 1, ⟨h1, h2, h3, h4⟩, h => by
    have := lvOK_next (l2 :: ls) l.length q h4 (by simpa using h)
    simpa using this
theorem wide_next {lv : List (List Nat)} {W : List Nat} {q : Nat} {l : List Nat} (h : lv[q]? = some l) : wideL W (lv.take (q + 1)) = chunkT l (wideL W (lv.take q)) := by
  rw [List.take_add_one, h]
  exact wideL_snoc _ _ _
theorem wide_len {lv : List (List Nat)} {W : List Nat} {q : Nat} {l : List Nat} (h : lv[q]? = some l) : (wideL W (lv.take (q + 1))).length = l.length := by rw [wide_next h, chunkT_len]
theorem scanTo_getT (W : List Nat) (i : Nat) (h : i ≤ W.length) : (scanTo W W.length)[i]? = some (startT W i) := by
  rw [scanTo, List.getElem?_map, List.getElem?_range (by omega)]
  rfl
theorem upto_get {f g : Nat → Nat} {m i : Nat} (h : i < m) : ((uptoN f g m i).map ivn)[i]? = some (.int .i64 (g i : Nat)) := by
  rw [List.getElem?_map, uptoN_old f g h (Nat.le_refl _)]
  rfl

set_option maxRecDepth 100000 in
set_option maxHeartbeats 4000000 in
theorem PSpans_any (Ai : Option Addr) (ni ci : Nat) (Al : Option Addr) (nl cl : Nat) (ids : List Int) (ll : List (List Int)) (level : Int) (w : World) (hl1 : -9223372036854775808 ≤ level) (hl2 : level ≤ 9223372036854775807) (h : ShR w w.heap.size Ai ni ci Al nl cl ids ll) (hf : fewT ids ll = true) :
    Calls Try.prog 25 #[.agg (shV Ai ni ci Al nl cl), .int .i64 level] w (SpansPost w ids ll level) := by
  have Hnl := Lib.hid h.hnl
  have hml := h.hml
  have hcl := h.hcl
  have hM := (Ms.nil w).box 25 (shV Ai ni ci Al nl cl)
  have hck := PCheck_any Ai ni ci Al nl cl ids ll _ ((h.below hM.old).more hM.old.size) (few_million hf) (by have := (few_len hf).2.1; have := h.hni; omega)
  have hlm := few_million hf
  obtain ⟨vs, hv, hlv⟩ := h.lvs
  clear h
  rw [maxLen] at hml
  have Hpost := Lib.hid (show ∀ e w', Below w.heap.size w w' → ((¬ spansOk ids ll level ∧ e = .returned (.tuple #[.slice none 0 0, .int .i64 1])) ∨
    (spansOk ids ll level ∧ ∃ A n c, e = .returned (.tuple #[.slice A n c, .int .i64 0]) ∧ n ≤ c ∧ c ≤ maxLen ∧ Rd w' w'.heap.size A n ((spansL ids.length (lvN ll) level.toNat).map ivn))) → SpansPost w ids ll level e w' from fun _ _ h1 h2 => ⟨h1, h2⟩)
  generalize SpansPost w ids ll level = PO at *
  go_enter Try.func25, Try.ntmps25
  go_wp2_with ((with_reducible show wpList _ _ _ (⟨some 13, _, _, _, _, _⟩ :: _) _ _); refine wpList_loadC (by kernel_rfl) 25 (.tmp 2) rfl (w.heap.size) rfl 25 (shV Ai ni ci Al nl cl) _ (hM.get 0 rfl) Try.underlying25 rfl shapeInfo2 ?_)
  refine hck.mono ?_
  rintro e w1 ⟨rfl, hb1⟩
  have hM1 := hM.call hb1
  clear hM hb1 hck
  by_cases hc : chkT ids ll = true
  rotate_left
  · have hcf : chkE ids ll = 1 := by rw [chkE, if_neg hc]
    rw [hcf]
    have Hno := Lib.hid (show ¬ spansOk ids ll level from fun h => hc h.1)
    clear hc hcf
    go_wp2_with fail
    (first | refine Hpost.out _ _ ?_ ?_ | refine bodyPost_ret (results_tmp2 rfl _ _ _) rfl (Hpost.out _ _ ?_ ?_))
    · exact hM1.old
    · exact .inl ⟨Hno.out, rfl⟩
  have he : chkE ids ll = 0 := by rw [chkE, hc]; rfl
  rw [he]
  clear he
  have k1 := (hM1.get 0 rfl).cell (i := 1) (v := .slice Al nl cl) rfl
  by_cases h0 : level < 0
  · have Hno := Lib.hid (show ¬ spansOk ids ll level from fun h => by have := h.2.1; omega)
    clear hc
    go_wp2_with fail
    (first | refine Hpost.out _ _ ?_ ?_ | refine bodyPost_ret (results_tmp2 rfl _ _ _) rfl (Hpost.out _ _ ?_ ?_))
    · exact hM1.old
    · exact .inl ⟨Hno.out, rfl⟩
  by_cases h1 : (nl : Int) ≤ level
  · have Hno := Lib.hid (show ¬ spansOk ids ll level from fun h => by have := h.2.2; rw [Hnl.out] at this; omega)
    clear hc
    go_wp2_with fail
    (first | refine Hpost.out _ _ ?_ ?_ | refine bodyPost_ret (results_tmp2 rfl _ _ _) rfl (Hpost.out _ _ ?_ ?_))
    · exact hM1.old
    · exact .inl ⟨Hno.out, rfl⟩
  have hok : spansOk ids ll level := ⟨hc, by omega, by rw [Hnl.out]; omega⟩
  obtain ⟨hn1000, _, hlo, hin⟩ := chkT_lv hc
  have hn10 : nl ≤ 10 := by
    have h1 := lv_high hc
    rw [lvN, List.length_map, Hnl.out] at h1
    exact h1
  obtain ⟨t, rfl⟩ : ∃ t : Nat, level = (t : Int) := ⟨level.toNat, by omega⟩
  have htn : t < nl := by omega
  have Hrest := Lib.hid (show ∀ e w', Below w.heap.size w w' → (∃ A n c, e = .returned (.tuple #[.slice A n c, .int .i64 0]) ∧ n ≤ c ∧ c ≤ maxLen ∧ Rd w' w'.heap.size A n ((spansL ids.length (lvN ll) t).map ivn)) → PO e w' from fun e w' h1 h2 => Hpost.out e w' h1 (.inr ⟨hok, by rw [Int.toNat_natCast]; exact h2⟩))
  clear Hpost hc hok h1 hl1 hl2
  have h0l : 0 < ll.length := by rw [Hnl.out]; omega
  obtain ⟨A0, c0, hv0, hc0, hm0, hr0⟩ := hlv.get h0l
  obtain ⟨b, o, rfl, hbb, hcell⟩ := (hv.below hM1.old).pos (by omega)
  have d0 := hcell 0 _ hv0
  rw [Nat.add_zero] at d0
  have hin0 := hin _ (List.getElem_mem h0l)
  have hlm0 := hlm _ (List.getElem_mem h0l)
  have hah := PAhead_any A0 ll[0].length c0 ll[0] w1 hc0 hm0 hlm0 hin0 ((hr0.below hM1.old).more hM1.old.size)
  have Hw0 := Lib.hid (show scanT (natL ll[0]) = scanT (wideL (List.replicate ids.length 1) ((lvN ll).take 1)) by
    have hsum : (natL ll[0]).sum ≤ ids.length := by
      match ll, h0l, hlo with
      | l :: ls, _, hlo => exact Nat.le_of_eq hlo.2.2.1
    have htk : (lvN ll).take 1 = [natL ll[0]] := by
      match ll, h0l with
      | l :: ls, _ => rfl
    rw [htk, wideL, wideL, chunk_ones _ _ hsum])
  generalize ll[0] = l0 at *
  have hwt : IntKind.i64.wrap ((t : Int) + 1) = (t : Int) + 1 := by rw [IntKind.wrap_i64]; omega
  have htt : ((t : Int) + 1).toNat = t + 1 := by omega
  have hb1' : (0 : Int) ≤ (t : Int) + 1 := by omega
  have hb2' : (1 : Int) ≤ (t : Int) + 1 := by omega
  have hb3' : (t : Int) + 1 ≤ (cl : Int) := by omega
  have hb4' : (0 : Int) < (nl : Int) := by omega
  have hm63 := hM1.old
  clear hcell hv0 hin0 hlm0 hr0 h0l
  have hkc := (hM1.get 0 rfl)
  go_wp2_with fail
  refine hah.mono ?_
  rintro e w2 ⟨A2, c2, rfl, hown2, hb2⟩
  have hM2 := hM1.call hb2
  rw [Hw0.out] at hown2
  have k2 := (hM2.get 0 rfl).cell (i := 1) (v := .slice (some ⟨b, o, none⟩) nl cl) rfl
  obtain ⟨_, _, e9, hc2, hm2⟩ := own_formT hown2
  injection e9 with e91 e92 e93
  subst e91 e93
  have hr2 : Rd w2 w2.heap.size A2 (l0.length + 1) _ := Rd.of_own hown2
  clear hah k1 hown2 hM1 hkc hm63 d0
  have hB2 := hM2.old
  by_cases hcl1 : cl = 1
  · obtain rfl : t = 0 := by omega
    have hnl1 : nl = 1 := by omega
    go_wp2_with fail
    go_loopw [7, 38] (fun v i wr => v = .slice A2 (l0.length + 1) c2 ∧ i = .int .i64 0 ∧ wr = w2) (fun _ i _ => 0)
    case atStart => exact ⟨rfl, rfl, rfl⟩
    case round =>
      obtain ⟨rfl, rfl, rfl⟩ := hrel
      go_wp2_with fail
      (first | refine Hrest.out _ _ ?_ ?_ | refine bodyPost_ret (results_tmp2 rfl _ _ _) rfl (Hrest.out _ _ ?_ ?_))
      · exact hB2
      · exact ⟨A2, _, c2, rfl, hc2, hm2, hr2⟩
  · have hlen : (lvN ll).length = nl := by rw [lvN, List.length_map]; exact Hnl.out
    have Hlen := Lib.hid hlen
    clear hlen
    go_wp2_with fail
    go_loopw [7, 38] (fun v i wr => ∃ (q n' c' : Nat) (A' : Option Addr), q ≤ t ∧ i = .int .i64 (q : Int) ∧ v = .slice A' n' c' ∧ n' ≤ c' ∧ c' ≤ maxLen ∧
      Rd wr wr.heap.size A' n' ((scanT (wideL (List.replicate ids.length 1) ((lvN ll).take (q + 1)))).map ivn) ∧ Below w.heap.size w wr) (fun _ i _ => t - (intOf i).toNat)
    case atStart => exact ⟨0, l0.length + 1, c2, A2, by omega, rfl, rfl, hc2, hm2, hr2, hB2⟩
    case round =>
      clear hr2 hc2 hm2 hB2 hM2 k2 hb2
      obtain ⟨q, n', c', A', hq, rfl, rfl, hn', hm', hrd, hB⟩ := hrel
      by_cases hlt : q < t
      · have hq1 : q + 1 < ll.length := by rw [Hnl.out]; omega
        obtain ⟨A1, c1, hvj, hc1, hm1, hrj⟩ := hlv.get hq1
        obtain ⟨b', o', e, hbb', hcell⟩ := (hv.below hB).pos (by omega)
        injection e with e
        injection e with e1 e2
        subst e1 e2
        have d1 := hcell (q + 1) _ hvj
        rw [show o + (q + 1) = o + 1 + q by omega] at d1
        have hin1 := hin _ (List.getElem_mem hq1)
        have hlm1 := hlm _ (List.getElem_mem hq1)
        have hah := PAhead_any A1 ll[q + 1].length c1 ll[q + 1] wr hc1 hm1 hlm1 hin1 ((hrj.below hB).more hB.size)
        have hN1 : (lvN ll)[q + 1]? = some (natL ll[q + 1]) := by rw [lvN, List.getElem?_map, List.getElem?_eq_getElem hq1]; rfl
        have hN0 : (lvN ll)[q]? = some (natL ll[q]) := by rw [lvN, List.getElem?_map, List.getElem?_eq_getElem (by omega)]; rfl
        have hnx := lvOK_next (lvN ll) ids.length q hlo (by rw [Hlen.out]; omega)
        have hsum : (natL ll[q + 1]).sum = (wideL (List.replicate ids.length 1) ((lvN ll).take (q + 1))).length := by
          rw [wide_len hN0]
          have e1 := (List.getElem?_eq_some_iff.1 hN1).2
          have e0 := (List.getElem?_eq_some_iff.1 hN0).2
          rw [e1, e0] at hnx
          exact hnx
        have Hw := Lib.hid (wide_next (W := List.replicate ids.length 1) hN1)
        have hnl1 : (natL ll[q + 1]).length = ll[q + 1].length := by rw [natL, List.length_map]
        have hln := hrd.len
        rw [List.length_map, scan_len] at hln
        clear hcell hvj hin1 hN1 hN0 hnx hrj
        generalize ll[q + 1] = l1 at *
        clear hq1
        generalize wideL (List.replicate ids.length 1) ((lvN ll).take (q + 1)) = W at *
        generalize natL l1 = L at *
        obtain ⟨m1, hm1e⟩ : ∃ m1, m1 = l1.length := ⟨_, rfl⟩
        rw [← hm1e] at hah hnl1 hlm1 d1 hc1
        have Hm1 := Lib.hid hm1e
        clear hm1e
        have Hsum := Lib.hid hsum
        have Hnl1 := Lib.hid hnl1
        have Hln := Lib.hid hln
        clear hsum hnl1 hln
        have hlti : (q : Int) < (t : Int) := by omega
        have hcm : c1 < 9223372036854775808 := by unfold maxLen at hm1; omega
        go_wp2_with fail
        refine hah.mono ?_
        rintro e w3 ⟨A3, c3, rfl, hown3, hb3⟩
        obtain ⟨g3, rfl⟩ := own_someT hown3 (by omega)
        obtain ⟨_, _, e9, hc3, hm3⟩ := own_formT hown3
        injection e9 with e91 e92 e93
        subst e93
        clear e91 e92
        have hown3' : w3.ownsRow wr.heap.size 3 1 (.slice (some ⟨g3, 0, none⟩) (m1 + 1) c3) (m1 + 1) ((uptoN (fun k => startT W (startT L k)) (startT L) (m1 + 1) 0).map ivn) := by
          rw [← Hnl1.out, ← scan_upto L (fun k => startT W (startT L k)), Hnl1.out]; exact hown3
        have hg3 := own_blockT hown3 g3 rfl
        clear hah hown3 d1
        go_wp2_with fail
        go_loopw [46] (fun i wx => ∃ k : Nat, k ≤ m1 + 1 ∧ i = .int .i64 (k : Int) ∧ wx.ownsRow wr.heap.size 3 1 (.slice (some ⟨g3, 0, none⟩) (m1 + 1) c3) (m1 + 1) ((uptoN (fun k => startT W (startT L k)) (startT L) (m1 + 1) k).map ivn) ∧ Below wr.heap.size wr wx) (fun i _ => m1 + 1 - (intOf i).toNat)
        case atStart => exact ⟨0, by omega, rfl, hown3', hb3⟩
        case round =>
          clear hown3' hb3
          obtain ⟨k, hk, rfl, how, hbx⟩ := hrel
          by_cases hkm : k < m1 + 1
          · have ck := how.cellAt k (by omega)
            rw [upto_get hkm] at ck
            have fk := how.frozenAt k
            have hle : startT L k ≤ L.sum := startT_le L k
            obtain ⟨x, hx⟩ : ∃ x, x = startT L k := ⟨_, rfl⟩
            have hx1 : x < n' := by have := Hsum.out; have := Hln.out; omega
            obtain ⟨ga, oa, rfl, hga, hcell⟩ := (hrd.below hbx).pos (by omega)
            have cx := hcell x (ivn (startT W x)) (by rw [List.getElem?_map, scanT, scanTo_getT W x (by have := Hln.out; omega)]; rfl)
            rw [show ivn (startT W x) = .int .i64 (startT W x : Nat) from rfl] at cx
            rw [← hx] at ck
            obtain ⟨s1, s2⟩ := how.stored k (.int .i64 (startT W x : Nat))
            have hst : ((uptoN (fun k => startT W (startT L k)) (startT L) (m1 + 1) k).map ivn).set k (.int .i64 (startT W x : Nat)) = (uptoN (fun k => startT W (startT L k)) (startT L) (m1 + 1) (k + 1)).map ivn := by
              rw [uptoN_succ, List.map_set, hx]; rfl
            rw [hst] at s1
            have hB1 := hbx.grown s2 hbx.size (fun q' hq => by injection hq with hq; subst hq; exact hg3)
            have hki : (k : Int) < (m1 : Int) + 1 := by omega
            have hxi : (x : Int) < (n' : Int) := by omega
            have hc3' : m1 + 1 ≤ c3 := hc3
            clear hcell hx hle hst how
            generalize startT W x = y at *
            go_wp2_with fail
            go_roundw
            case rel => exact ⟨k + 1, by omega, by go_num, s1, hB1⟩
            case measure => simp [intOf]; omega
          · obtain rfl : k = m1 + 1 := by omega
            have hfin := Rd.of_own how
            have hsd := scan_done L W (startT L) (by rw [Hsum.out]; exact Nat.le_refl _)
            rw [Hnl1.out] at hsd
            rw [hsd, ← Hw.out] at hfin
            have hB1 := hB.trans (hbx.mono hB.size)
            clear hsd
            go_wp2_with fail
            go_roundw
            case rel => exact ⟨q + 1, m1 + 1, c3, some ⟨g3, 0, none⟩, by omega, by go_num, rfl, hc3, hm3, hfin, hB1⟩
            case measure => simp [intOf]; omega
      · obtain rfl : q = t := by omega
        go_wp2_with fail
        (first | refine Hrest.out _ _ ?_ ?_ | refine bodyPost_ret (results_tmp2 rfl _ _ _) rfl (Hrest.out _ _ ?_ ?_))
        · exact hB
        · exact ⟨A', n', c', rfl, hn', hm', hrd⟩

end Go.Proofs.Ytbickllpledlbaa

