import Derived.Test.YtbickllpledlbaaG33
import Derived.Test.YtbickllpledlbaaG40
import Derived.Test.YtbickllpledlbaaG48
import Derived.Test.YtbickllpledlbaaG36
import Derived.Test.YtbickllpledlbaaG23
/-
  THE WALK of RedHeight (coterielaw11).
-/
set_option linter.unusedVariables false
namespace Go.Proofs.Ytbickllpledlbaa
open Go.RowKit

theorem bld_none : ∀ (r ids : List Int) (lv : List (List Nat)), ¬ (bldS r ids lv).1 = 0 → (bldS r ids lv).2 = ([], [])
  | [], ids, lv, h => absurd rfl h
  | id :: r, ids, lv, h => by
    rw [bld_cons] at h ⊢
    by_cases he : insE ids (levI lv) id = 0
    · rw [if_pos he] at h ⊢
      exact bld_none r _ _ h
    · rw [if_neg he]
theorem bld_few {xs : List Int} (hn : xs.length ≤ 150) : fewT (bldS xs [] []).2.1 (levI (bldS xs [] []).2.2) = true ∧ ((bldS xs [] []).1 = 0 → (bldS xs [] []).2.1.length = xs.length) := by
  by_cases h : (bldS xs [] []).1 = 0
  · obtain ⟨_, h2⟩ := bld_good xs [] [] (by decide) (by simp; omega)
    obtain ⟨h3, h4, _⟩ := h2 h
    exact ⟨few_of_chk h3, fun _ => by simpa using h4⟩
  · rw [bld_none xs [] [] h]
    exact ⟨by decide, fun e => absurd e h⟩
theorem high_small {kind : Int} {ids : List Int} {ll : List (List Int)} (hm : mayB kind ids ll = true) (g : Nat) (hg : ¬ 2 ^ (g + 1) ≤ ids.length) : highI kind ids ll ≤ if kind = 2 then 2 * (g : Int) else (g : Int) := by
  rcases Nat.eq_zero_or_pos ids.length with h0 | h0
  · have hi : ids = [] := List.eq_nil_of_length_eq_zero h0
    have : highI kind ids ll = 0 := by
      rw [highI, if_pos hm, hi]
      rfl
    rw [this]
    split <;> omega
  · have hT := top_facts hm h0
    rw [high_top hT hm]
    have h1 := hT.high
    have h2 := hT.pow
    have hk : (lvN ll).length ≤ g := by
      rcases Nat.lt_or_ge g (lvN ll).length with h | h
      · have : 2 ^ (g + 1) ≤ 2 ^ (lvN ll).length := Nat.pow_le_pow_right (by decide) h
        omega
      · exact h
    split at h1
    · rename_i e
      rw [if_pos e]
      omega
    · rename_i e
      rw [if_neg e]
      omega

set_option maxRecDepth 100000 in
set_option maxHeartbeats 16000000 in
theorem walk_RedHeight (A : Option Addr) (n c : Nat) (xs : List Int) (kind : Int) (w : World) (hn63 : n ≤ maxLen) (hr : Rd w w.heap.size A n (xs.map iv)) :
    Calls Try.prog 5 #[.slice A n c, .int .i64 kind] w fun e w' => e = .returned (.bool true) ∧ Below w.heap.size w w' := by
  have Hxl := Lib.hid (show xs.length = n by simpa using hr.len)
  go_enter Try.func5, Try.ntmps5
  go_wp2_with fail
  refine (live11 _).mono ?_
  rintro e w1 ⟨rfl, hb1⟩
  by_cases hn : 150 < n
  · have hn1 : (150 : Int) < (n : Int) := by omega
    go_wp2_with fail
    go_ret
    exact ⟨rfl, hb1⟩
  have hn1 : ¬ (150 : Int) < (n : Int) := by omega
  obtain ⟨hfew, hblen⟩ := bld_few (xs := xs) (by rw [Hxl.out]; omega)
  have hbl := PBuild_any A n c xs w1 (by omega) ((hr.below hb1).more hb1.size)
  have Hbl := Lib.hid hblen
  have Hfew := Lib.hid hfew
  clear hr hn hblen hfew hn63
  go_wp2_with fail
  refine hbl.mono ?_
  rintro e w2 ⟨hb2, Ai, ni, ci, Al, nl, cl, rfl, hsh⟩
  have hold2 := hb1.trans (hb2.mono hb1.size)
  generalize (bldS xs [] []).1 = er at *
  generalize (bldS xs [] []).2.1 = ids at *
  generalize levI (bldS xs [] []).2.2 = ll at *
  have hM2 := (show Ms w w2 [] from ⟨hold2, fun p hp => by cases hp⟩).put 25 #[.slice none 0 0, .slice none 0 0] (shV Ai ni ci Al nl cl)
  have hB3 : Below w2.heap.size w2 ((w2.alloc (.cells #[.slice none 0 0, .slice none 0 0] 25)).setRow w2.heap.size (shV Ai ni ci Al nl cl)) := below_setRow ((Below.refl _ _).alloc (Nat.le_refl _) _) (Nat.le_refl _) _
  have hsh1 := hsh.sh.below hB3
  clear hbl
  go_upto_region 7 with ((with_reducible show wpList _ _ _ (⟨none, Op.store 25 _ _, _, _, _, _⟩ :: _) _ _); refine wpList_store_row rfl 25 (.tmp 6) (.tmp 30) rfl (w2.heap.size) (shV Ai ni ci Al nl cl) rfl rfl 25 _ (RowC.new _ _ _) (sizeSh _ _ _ _ _ _) rfl (one_sh _ _ _ _ _ _) ?_)
  try simp only [Act.put]
  obtain ⟨g0, hg0⟩ : ∃ g, g = w2.heap.size := ⟨_, rfl⟩
  rw [← hg0] at hM2 hsh1 ⊢
  have hg0w : w.heap.size ≤ g0 := by rw [hg0]; exact hold2.size
  clear hg0
  refine wp_gen (fun wx => Ms w wx [(g0, 25, shV Ai ni ci Al nl cl)] ∧ ShR wx g0 Ai ni ci Al nl cl ids ll) ⟨hM2, hsh1⟩ ?_
  clear hM2 hsh1 hB3 hsh hb1 hb2 hold2
  rintro w3 ⟨hM3, hsh3⟩
  have hl3 := (hM3.get 0 rfl).lt
  have d1 := PNodes_any kind Ai ni ci Al nl cl ids ll w3 (hsh3.more (Nat.le_of_lt hl3)) Hfew.out
  go_wp2_with ((with_reducible show wpList _ _ _ (⟨some 34, _, _, _, _, _⟩ :: _) _ _); refine wpList_loadC (by kernel_rfl) 25 (.tmp 6) rfl g0 rfl 25 (shV Ai ni ci Al nl cl) _ (hM3.get 0 rfl) Try.underlying25 rfl shapeInfo2 ?_)
  refine d1.mono ?_
  rintro e w4 ⟨hb4, A1, n1, a1, rfl, r1⟩
  have hM4 := hM3.call hb4
  have hl4 := (hM4.get 0 rfl).lt
  have hsh4 := hsh3.below (hb4.mono (Nat.le_of_lt hl3))
  have d2 := PHigh_any kind Ai ni ci Al nl cl ids ll w4 (hsh4.more (Nat.le_of_lt hl4)) Hfew.out
  clear hM3 hsh3 d1 hb4 hl3
  go_wp2_with ((with_reducible show wpList _ _ _ (⟨some 40, _, _, _, _, _⟩ :: _) _ _); refine wpList_loadC (by kernel_rfl) 25 (.tmp 6) rfl g0 rfl 25 (shV Ai ni ci Al nl cl) _ (hM4.get 0 rfl) Try.underlying25 rfl shapeInfo2 ?_)
  refine d2.mono ?_
  rintro e w5 ⟨hb5, rfl⟩
  have hold5 := (hM4.call hb5).old
  replace r1 := (r1.below hb5).more hb5.size
  clear hM4 hsh4 d2 hb5 hl4
  have hmay : (mayB kind ids ll = false ∧ mayE kind ids ll = 1) ∨ (mayB kind ids ll = true ∧ mayE kind ids ll = 0) := by
    rw [mayE]
    cases mayB kind ids ll <;> simp
  by_cases her : er = 0
  rotate_left
  · have hne : ¬ er = 0 := her
    have hnb : (er != 0) = true := by simpa using her
    clear r1 hmay
    go_wp2_with fail
    all_goals go_ret
    all_goals exact ⟨rfl, hold5⟩
  subst her
  rcases hmay with ⟨hmb, hme⟩ | ⟨hmb, hme⟩
  · rw [hme]
    clear r1 hmb hme
    go_wp2_with fail
    go_ret
    exact ⟨rfl, hold5⟩
  rw [hme]
  obtain ⟨L, f1⟩ := lst_facts hmb
  have hk12 : kind = 1 ∨ kind = 2 := by
    have hmb' := hmb
    rw [mayB, Bool.and_eq_true] at hmb'
    simpa using hmb'.1
  have hidn : ids.length = n := (Hbl.out rfl).trans Hxl.out
  have Hhigh := Lib.hid (fun g hg => high_small hmb g hg)
  rw [hidn] at Hhigh
  generalize highI kind ids ll = hi at *
  have Hlv := Lib.hid (show L.countP (fun x => x.lev == 0) = n by rw [f1.leaves, hidn])
  have Hln := Lib.hid (show (n = 0 → L = []) ∧ (0 < n → L.length < 2 * n) by rw [← hidn]; exact f1.len)
  have Hok := Lib.hid f1.ok
  rw [f1.nodes] at r1
  have hnl := r1.len
  rw [List.length_map] at hnl
  have Hn := Lib.hid hnl
  have hsm := f1.small
  have hn2 : n1 ≤ 2000 := by omega
  have hn150 : n ≤ 150 := by omega
  clear f1 hmb hme hsm hnl hidn
  have zw : IntKind.i64.wrap (4 - kind) = 4 - kind := by rw [IntKind.wrap_i64]; omega
  go_wp2_with fail
  go_loopw [13, 63] (fun v13 v63 wr => ∃ j : Nat, j ≤ n1 ∧ v63 = .int .i64 (j : Int) ∧ v13 = .int .i64 (((L.take j).countP (fun x => x.lev == 0) : Nat) : Int) ∧ Ms w5 wr []) (fun _ v63 _ => n1 - (intOf v63).toNat)
  case atStart => exact ⟨0, by omega, rfl, rfl, Ms.nil _⟩
  case round =>
    obtain ⟨j, hj, rfl, rfl, hM⟩ := hrel
    have hold := hM.old
    by_cases hjn : j < n1
    · have hjl : j < L.length := by rw [Hn.out]; exact hjn
      have hx := List.getElem?_eq_getElem hjl
      have hokn := Hok.out _ (List.getElem_mem hjl)
      have Htk := Lib.hid (show (L.take (j + 1)).countP (fun x => x.lev == 0) = (L.take j).countP (fun x => x.lev == 0) + (if L[j].lev = 0 then 1 else 0) by
        rw [List.take_succ_eq_append_getElem hjl, List.countP_append, List.countP_cons, List.countP_nil, Nat.zero_add]
        simp only [beq_iff_eq])
      have hct : (L.take j).countP (fun x => x.lev == 0) ≤ 2000 := by
        have : (L.take j).countP (fun x => x.lev == 0) ≤ (L.take j).length := List.countP_le_length
        rw [List.length_take] at this
        omega
      have hxi : (L.map RN.i)[j]? = some L[j].i := by rw [List.getElem?_map, hx]; rfl
      generalize L[j] = x at *
      generalize (L.take j).countP (fun x => x.lev == 0) = ct at *
      obtain ⟨ba, oa, Au, cu, rfl, hba, hra, hcu, hmu, hku⟩ := (r1.below hold).range hxi
      have e1 : x.i.kids.length = x.kids.length := castL_len _
      rw [e1] at hra hcu hku
      rw [show x.i.kids = castL x.kids from rfl, castL_iv] at hku
      have hP := hM.put 42 zN (riC x.i (.slice Au x.kids.length cu)).toArray
      have hku5 := hku.below ((below_setRow ((Below.refl wr.heap.size wr).alloc (Nat.le_refl _) (.cells zN 42)) (Nat.le_refl _) (riC x.i (.slice Au x.kids.length cu)).toArray).mono hold.size)
      have zj : (j : Int) < (n1 : Int) := by omega
      go_upto_region 16 with (first
        | ((with_reducible show wpList _ _ _ (⟨some 66, _, _, _, _, _⟩ :: _) _ _); refine wpList_load_midG (by kernel_rfl) 42 (.tmp 65) rfl ba (oa + j * 7) rfl (riC x.i (.slice Au x.kids.length cu)) _ hra Try.underlying42 rfl rnInfo2 ?_)
        | ((with_reducible show wpList _ _ _ (⟨none, Op.store 42 _ _, _, _, _, _⟩ :: _) _ _); refine wpList_store_row rfl 42 (.tmp 15) (.tmp 66) rfl wr.heap.size (riC x.i (.slice Au x.kids.length cu)).toArray rfl rfl 42 zN (RowC.new _ _ _) rnInfo2 rfl (by simp [riC, Value.oneCell']) ?_))
      try simp only [Act.put]
      obtain ⟨g1, hg1⟩ : ∃ g1, g1 = wr.heap.size := ⟨_, rfl⟩
      rw [← hg1] at hP hku5 ⊢
      refine wp_gen (fun wx => Ms w5 wx [(g1, 42, (riC x.i (.slice Au x.kids.length cu)).toArray)] ∧ Rd wx w5.heap.size Au x.kids.length (kidV x.kids)) ⟨hP, hku5⟩ ?_
      clear hP hra hM hg1 hku hku5 hx hxi hold
      rintro w6 ⟨hM, hku⟩
      have hold := hM.old
      have p0 := (hM.get 0 rfl).cell (i := 0) (v := .int .i64 (x.lev : Nat)) rfl
      have p2 := (hM.get 0 rfl).cell (i := 2) (v := .bool x.red) rfl
      have p5 := (hM.get 0 rfl).cell (i := 5) (v := .slice Au x.kids.length cu) rfl
      obtain ⟨o1, o2, o3, o4, o5⟩ := hokn
      have Hkid := Lib.hid o5
      generalize hks : x.kids = ks at *
      obtain ⟨nk, hnk⟩ : ∃ nk, nk = ks.length := ⟨_, rfl⟩
      rw [← hnk] at p5 hku hcu o1 o2 o3
      have Hnk := Lib.hid hnk
      clear hnk hks o5 hM
      have z1 : ((nk : Int) == 1) = false := by simp only [beq_eq_false_iff_ne]; omega
      have z1' : ¬ (nk : Int) = 1 := by omega
      have z2 : decide (4 - kind < (nk : Int)) = false := decide_eq_false (by omega)
      have z2' : (4 - kind < (nk : Int)) = False := eq_false (by omega)
      have zc : IntKind.i64.wrap ((ct : Int) + 1) = (ct : Int) + 1 := by rw [IntKind.wrap_i64]; omega
      by_cases hl0 : x.lev = 0
      · have hnk0 : nk = 0 := o3.2 hl0
        have hr : x.red = false := by
          cases h : x.red with
          | false => rfl
          | true => exact absurd hl0 (o4 h).2
        have zn0 : (nk : Int) = 0 := by omega
        rw [hr] at p2
        rw [hl0] at p0
        clear z1 z2 o2 o3 o4
        go_wp2_with fail
        go_loopw [110] (fun v110 wx => ∃ i : Nat, i ≤ nk ∧ v110 = .int .i64 (i : Int) ∧ wx = w6) (fun v110 _ => nk - (intOf v110).toNat)
        case atStart => exact ⟨0, by omega, rfl, rfl⟩
        case round =>
          obtain ⟨i, hi, rfl, rfl⟩ := hrel
          obtain rfl : i = 0 := by omega
          go_wp2_with fail
          go_roundw
          case rel => exact ⟨j + 1, by omega, by go_num, (by rw [Htk.out, if_pos hl0]; first | done | rfl | exact congrArg (Value.int .i64) (by omega)), ⟨hold, fun q hq => by simp at hq⟩⟩
          case measure => simp [intOf]; omega
      · have hnk0 : ¬ nk = 0 := fun e => hl0 (o3.1 e)
        have zn0 : ((nk : Int) == 0) = false := by simp only [beq_eq_false_iff_ne]; omega
        have zn1 : ¬ (nk : Int) = 0 := by omega
        have zl0 : ((x.lev : Int) == 0) = false := by simp only [beq_eq_false_iff_ne]; omega
        have zl1 : ¬ (x.lev : Int) = 0 := by omega
        cases hr : x.red with
        | false =>
          rw [hr] at p2
          clear o3 o4
          go_wp2_with fail
          go_loopw [110] (fun v110 wx => ∃ i : Nat, i ≤ nk ∧ v110 = .int .i64 (i : Int) ∧ wx = w6) (fun v110 _ => nk - (intOf v110).toNat)
          case atStart => exact ⟨0, by omega, rfl, rfl⟩
          case round =>
            obtain ⟨i, hi, rfl, rfl⟩ := hrel
            by_cases hik : i < nk
            · have hix : i < ks.length := by rw [← Hnk.out]; exact hik
              obtain ⟨y, hy, hyr⟩ := Hkid.out i _ (List.getElem?_eq_getElem hix)
              obtain ⟨bb, ob, rfl, _, hcell⟩ := hku.pos (by omega)
              have d1 := hcell i (.int .i64 (ks[i] : Nat)) (by rw [kidV, List.getElem?_map, List.getElem?_eq_getElem hix]; rfl)
              have hkn : ks[i] < n1 := by rw [← Hn.out]; exact (List.getElem?_eq_some_iff.1 hy).1
              obtain ⟨bc, oc, Cu, eu, e2, -, hrb, -, -, -⟩ := (r1.below hold).range (k := ks[i]) (x := y.i) (by rw [List.getElem?_map, hy]; rfl)
              injection e2 with e2
              injection e2 with e3 e4
              subst e3 e4
              have s2 := hrb 2 (.bool y.red) rfl
              generalize ks[i] = k at *
              have zi : (i : Int) < (nk : Int) := by omega
              have zk : (k : Int) < (n1 : Int) := by omega
              have zk0 : (0 : Int) ≤ (k : Int) := by omega
              have zk2 : decide ((n1 : Int) ≤ (k : Int)) = false := decide_eq_false (by omega)
              have zk3 : ((n1 : Int) ≤ (k : Int)) = False := eq_false (by omega)
              clear hcell hrb hy
              cases hyred : y.red with
              | false =>
                rw [hyred] at s2
                clear hyr hyred
                go_wp2_with fail
                go_roundw
                case rel => exact ⟨i + 1, by omega, by go_num, by trivial⟩
                case measure => simp [intOf]; omega
              | true =>
                have hi0 := (hyr hyred).2
                have zi0 : decide ((0 : Int) < (i : Int)) = false := decide_eq_false (by omega)
                have zi1 : ((0 : Int) < (i : Int)) = False := eq_false (by omega)
                have zi2 : ((i : Int) ≤ 0) = True := eq_true (by omega)
                have Hi0 := Lib.hid hi0
                rw [hyred] at s2
                clear hyr hyred hi0
                go_wp2_with fail
                · exfalso
                  have := Hi0.out
                  omega
                · refine ⟨⟨i + 1, by omega, by go_num, trivial⟩, ?_⟩
                  simp [intOf]
                  omega
            · obtain rfl : i = nk := by omega
              go_wp2_with fail
              go_roundw
              case rel => exact ⟨j + 1, by omega, by go_num, (by rw [Htk.out, if_neg hl0]; first | done | rfl | exact congrArg (Value.int .i64) (by omega)), ⟨hold, fun q hq => by simp at hq⟩⟩
              case measure => simp [intOf]; omega
        | true =>
          obtain ⟨rfl, _⟩ := o4 hr
          rw [hr] at p2
          have z3 : decide ((2 : Int) < (nk : Int)) = false := decide_eq_false (by omega)
          have z3' : ((2 : Int) < (nk : Int)) = False := eq_false (by omega)
          clear o3 o4 z2 z2'
          go_wp2_with fail
          go_loopw [110] (fun v110 wx => ∃ i : Nat, i ≤ nk ∧ v110 = .int .i64 (i : Int) ∧ wx = w6) (fun v110 _ => nk - (intOf v110).toNat)
          case atStart => exact ⟨0, by omega, rfl, rfl⟩
          case round =>
            obtain ⟨i, hi, rfl, rfl⟩ := hrel
            by_cases hik : i < nk
            · have hix : i < ks.length := by rw [← Hnk.out]; exact hik
              obtain ⟨y, hy, hyr⟩ := Hkid.out i _ (List.getElem?_eq_getElem hix)
              obtain ⟨bb, ob, rfl, _, hcell⟩ := hku.pos (by omega)
              have d1 := hcell i (.int .i64 (ks[i] : Nat)) (by rw [kidV, List.getElem?_map, List.getElem?_eq_getElem hix]; rfl)
              have hkn : ks[i] < n1 := by rw [← Hn.out]; exact (List.getElem?_eq_some_iff.1 hy).1
              obtain ⟨bc, oc, Cu, eu, e2, -, hrb, -, -, -⟩ := (r1.below hold).range (k := ks[i]) (x := y.i) (by rw [List.getElem?_map, hy]; rfl)
              injection e2 with e2
              injection e2 with e3 e4
              subst e3 e4
              have s2 := hrb 2 (.bool y.red) rfl
              generalize ks[i] = k at *
              have zi : (i : Int) < (nk : Int) := by omega
              have zk : (k : Int) < (n1 : Int) := by omega
              have zk0 : (0 : Int) ≤ (k : Int) := by omega
              have zk2 : decide ((n1 : Int) ≤ (k : Int)) = false := decide_eq_false (by omega)
              have zk3 : ((n1 : Int) ≤ (k : Int)) = False := eq_false (by omega)
              clear hcell hrb hy
              cases hyred : y.red with
              | false =>
                rw [hyred] at s2
                clear hyr hyred
                go_wp2_with fail
                go_roundw
                case rel => exact ⟨i + 1, by omega, by go_num, by trivial⟩
                case measure => simp [intOf]; omega
              | true =>
                have := (hyr hyred).1
                rw [hr] at this
                cases this
            · obtain rfl : i = nk := by omega
              go_wp2_with fail
              go_roundw
              case rel => exact ⟨j + 1, by omega, by go_num, (by rw [Htk.out, if_neg hl0]; first | done | rfl | exact congrArg (Value.int .i64) (by omega)), ⟨hold, fun q hq => by simp at hq⟩⟩
              case measure => simp [intOf]; omega
    · obtain rfl : j = n1 := by omega
      rw [show (L.take j).countP (fun x => x.lev == 0) = n by rw [← Hn.out, List.take_length]; exact Hlv.out]
      have hold6 := hold5.trans (hold.mono hold5.size)
      have hlen : (n = 0 ∧ j = 0) ∨ (0 < n ∧ j < 2 * n) := by
        rcases Nat.eq_zero_or_pos n with h | h
        · refine .inl ⟨h, ?_⟩
          rw [← Hn.out, Hln.out.1 h]
          rfl
        · exact .inr ⟨h, by rw [← Hn.out]; exact Hln.out.2 h⟩
      have zw2 : IntKind.i64.wrap (2 * (n : Int)) = 2 * (n : Int) := by rw [IntKind.wrap_i64]; omega
      clear hM hold
      go_wp2_with fail
      go_loopw [18] (fun v18 wx => ∃ g : Nat, g ≤ 7 ∧ v18 = .int .i64 (g : Int) ∧ wx = wr) (fun v18 _ => 8 - (intOf v18).toNat)
      case atStart => exact ⟨0, by omega, rfl, rfl⟩
      case round =>
        obtain ⟨g, hg, rfl, rfl⟩ := hrel
        have Hh := Lib.hid (Hhigh.out g)
        by_cases hg0 : g = 0
        · subst hg0
          by_cases hp : 2 ^ (0 + 1) ≤ n
          · have hp2 : (2 : Int) ≤ (n : Int) := by omega
            go_wp2_with fail
            go_roundw
            case rel => exact ⟨1, by omega, by go_num, by trivial⟩
            case measure => simp [intOf]
          · have hp2 : ¬ (2 : Int) ≤ (n : Int) := by omega
            have hh := Hh.out hp
            clear hp
            rcases hk12 with rfl | rfl
            · have hh2 : hi ≤ 0 := by simpa using hh
              clear hh
              rcases hlen with ⟨h1, h2⟩ | ⟨h1, h2⟩
              · subst h1 h2
                go_wp2_with fail
                go_ret
                exact ⟨rfl, hold6⟩
              · have zz1 : ((n : Int) == 0) = false := by simp only [beq_eq_false_iff_ne]; omega
                have zz2 : ¬ (n : Int) = 0 := by omega
                have zz3 : (j : Int) < 2 * (n : Int) := by omega
                go_wp2_with fail
                go_ret
                exact ⟨rfl, hold6⟩
            · have hh2 : hi ≤ 0 := by simpa using hh
              clear hh
              rcases hlen with ⟨h1, h2⟩ | ⟨h1, h2⟩
              · subst h1 h2
                go_wp2_with fail
                go_ret
                exact ⟨rfl, hold6⟩
              · have zz1 : ((n : Int) == 0) = false := by simp only [beq_eq_false_iff_ne]; omega
                have zz2 : ¬ (n : Int) = 0 := by omega
                have zz3 : (j : Int) < 2 * (n : Int) := by omega
                go_wp2_with fail
                go_ret
                exact ⟨rfl, hold6⟩
        by_cases hg1 : g = 1
        · subst hg1
          by_cases hp : 2 ^ (1 + 1) ≤ n
          · have hp2 : (4 : Int) ≤ (n : Int) := by omega
            go_wp2_with fail
            go_roundw
            case rel => exact ⟨2, by omega, by go_num, by trivial⟩
            case measure => simp [intOf]
          · have hp2 : ¬ (4 : Int) ≤ (n : Int) := by omega
            have hh := Hh.out hp
            clear hp
            rcases hk12 with rfl | rfl
            · have hh2 : hi ≤ 1 := by simpa using hh
              clear hh
              rcases hlen with ⟨h1, h2⟩ | ⟨h1, h2⟩
              · subst h1 h2
                go_wp2_with fail
                go_ret
                exact ⟨rfl, hold6⟩
              · have zz1 : ((n : Int) == 0) = false := by simp only [beq_eq_false_iff_ne]; omega
                have zz2 : ¬ (n : Int) = 0 := by omega
                have zz3 : (j : Int) < 2 * (n : Int) := by omega
                go_wp2_with fail
                go_ret
                exact ⟨rfl, hold6⟩
            · have hh2 : hi ≤ 2 := by simpa using hh
              clear hh
              rcases hlen with ⟨h1, h2⟩ | ⟨h1, h2⟩
              · subst h1 h2
                go_wp2_with fail
                go_ret
                exact ⟨rfl, hold6⟩
              · have zz1 : ((n : Int) == 0) = false := by simp only [beq_eq_false_iff_ne]; omega
                have zz2 : ¬ (n : Int) = 0 := by omega
                have zz3 : (j : Int) < 2 * (n : Int) := by omega
                go_wp2_with fail
                go_ret
                exact ⟨rfl, hold6⟩
        by_cases hg2 : g = 2
        · subst hg2
          by_cases hp : 2 ^ (2 + 1) ≤ n
          · have hp2 : (8 : Int) ≤ (n : Int) := by omega
            go_wp2_with fail
            go_roundw
            case rel => exact ⟨3, by omega, by go_num, by trivial⟩
            case measure => simp [intOf]
          · have hp2 : ¬ (8 : Int) ≤ (n : Int) := by omega
            have hh := Hh.out hp
            clear hp
            rcases hk12 with rfl | rfl
            · have hh2 : hi ≤ 2 := by simpa using hh
              clear hh
              rcases hlen with ⟨h1, h2⟩ | ⟨h1, h2⟩
              · subst h1 h2
                go_wp2_with fail
                go_ret
                exact ⟨rfl, hold6⟩
              · have zz1 : ((n : Int) == 0) = false := by simp only [beq_eq_false_iff_ne]; omega
                have zz2 : ¬ (n : Int) = 0 := by omega
                have zz3 : (j : Int) < 2 * (n : Int) := by omega
                go_wp2_with fail
                go_ret
                exact ⟨rfl, hold6⟩
            · have hh2 : hi ≤ 4 := by simpa using hh
              clear hh
              rcases hlen with ⟨h1, h2⟩ | ⟨h1, h2⟩
              · subst h1 h2
                go_wp2_with fail
                go_ret
                exact ⟨rfl, hold6⟩
              · have zz1 : ((n : Int) == 0) = false := by simp only [beq_eq_false_iff_ne]; omega
                have zz2 : ¬ (n : Int) = 0 := by omega
                have zz3 : (j : Int) < 2 * (n : Int) := by omega
                go_wp2_with fail
                go_ret
                exact ⟨rfl, hold6⟩
        by_cases hg3 : g = 3
        · subst hg3
          by_cases hp : 2 ^ (3 + 1) ≤ n
          · have hp2 : (16 : Int) ≤ (n : Int) := by omega
            go_wp2_with fail
            go_roundw
            case rel => exact ⟨4, by omega, by go_num, by trivial⟩
            case measure => simp [intOf]
          · have hp2 : ¬ (16 : Int) ≤ (n : Int) := by omega
            have hh := Hh.out hp
            clear hp
            rcases hk12 with rfl | rfl
            · have hh2 : hi ≤ 3 := by simpa using hh
              clear hh
              rcases hlen with ⟨h1, h2⟩ | ⟨h1, h2⟩
              · subst h1 h2
                go_wp2_with fail
                go_ret
                exact ⟨rfl, hold6⟩
              · have zz1 : ((n : Int) == 0) = false := by simp only [beq_eq_false_iff_ne]; omega
                have zz2 : ¬ (n : Int) = 0 := by omega
                have zz3 : (j : Int) < 2 * (n : Int) := by omega
                go_wp2_with fail
                go_ret
                exact ⟨rfl, hold6⟩
            · have hh2 : hi ≤ 6 := by simpa using hh
              clear hh
              rcases hlen with ⟨h1, h2⟩ | ⟨h1, h2⟩
              · subst h1 h2
                go_wp2_with fail
                go_ret
                exact ⟨rfl, hold6⟩
              · have zz1 : ((n : Int) == 0) = false := by simp only [beq_eq_false_iff_ne]; omega
                have zz2 : ¬ (n : Int) = 0 := by omega
                have zz3 : (j : Int) < 2 * (n : Int) := by omega
                go_wp2_with fail
                go_ret
                exact ⟨rfl, hold6⟩
        by_cases hg4 : g = 4
        · subst hg4
          by_cases hp : 2 ^ (4 + 1) ≤ n
          · have hp2 : (32 : Int) ≤ (n : Int) := by omega
            go_wp2_with fail
            go_roundw
            case rel => exact ⟨5, by omega, by go_num, by trivial⟩
            case measure => simp [intOf]
          · have hp2 : ¬ (32 : Int) ≤ (n : Int) := by omega
            have hh := Hh.out hp
            clear hp
            rcases hk12 with rfl | rfl
            · have hh2 : hi ≤ 4 := by simpa using hh
              clear hh
              rcases hlen with ⟨h1, h2⟩ | ⟨h1, h2⟩
              · subst h1 h2
                go_wp2_with fail
                go_ret
                exact ⟨rfl, hold6⟩
              · have zz1 : ((n : Int) == 0) = false := by simp only [beq_eq_false_iff_ne]; omega
                have zz2 : ¬ (n : Int) = 0 := by omega
                have zz3 : (j : Int) < 2 * (n : Int) := by omega
                go_wp2_with fail
                go_ret
                exact ⟨rfl, hold6⟩
            · have hh2 : hi ≤ 8 := by simpa using hh
              clear hh
              rcases hlen with ⟨h1, h2⟩ | ⟨h1, h2⟩
              · subst h1 h2
                go_wp2_with fail
                go_ret
                exact ⟨rfl, hold6⟩
              · have zz1 : ((n : Int) == 0) = false := by simp only [beq_eq_false_iff_ne]; omega
                have zz2 : ¬ (n : Int) = 0 := by omega
                have zz3 : (j : Int) < 2 * (n : Int) := by omega
                go_wp2_with fail
                go_ret
                exact ⟨rfl, hold6⟩
        by_cases hg5 : g = 5
        · subst hg5
          by_cases hp : 2 ^ (5 + 1) ≤ n
          · have hp2 : (64 : Int) ≤ (n : Int) := by omega
            go_wp2_with fail
            go_roundw
            case rel => exact ⟨6, by omega, by go_num, by trivial⟩
            case measure => simp [intOf]
          · have hp2 : ¬ (64 : Int) ≤ (n : Int) := by omega
            have hh := Hh.out hp
            clear hp
            rcases hk12 with rfl | rfl
            · have hh2 : hi ≤ 5 := by simpa using hh
              clear hh
              rcases hlen with ⟨h1, h2⟩ | ⟨h1, h2⟩
              · subst h1 h2
                go_wp2_with fail
                go_ret
                exact ⟨rfl, hold6⟩
              · have zz1 : ((n : Int) == 0) = false := by simp only [beq_eq_false_iff_ne]; omega
                have zz2 : ¬ (n : Int) = 0 := by omega
                have zz3 : (j : Int) < 2 * (n : Int) := by omega
                go_wp2_with fail
                go_ret
                exact ⟨rfl, hold6⟩
            · have hh2 : hi ≤ 10 := by simpa using hh
              clear hh
              rcases hlen with ⟨h1, h2⟩ | ⟨h1, h2⟩
              · subst h1 h2
                go_wp2_with fail
                go_ret
                exact ⟨rfl, hold6⟩
              · have zz1 : ((n : Int) == 0) = false := by simp only [beq_eq_false_iff_ne]; omega
                have zz2 : ¬ (n : Int) = 0 := by omega
                have zz3 : (j : Int) < 2 * (n : Int) := by omega
                go_wp2_with fail
                go_ret
                exact ⟨rfl, hold6⟩
        by_cases hg6 : g = 6
        · subst hg6
          by_cases hp : 2 ^ (6 + 1) ≤ n
          · have hp2 : (128 : Int) ≤ (n : Int) := by omega
            go_wp2_with fail
            go_roundw
            case rel => exact ⟨7, by omega, by go_num, by trivial⟩
            case measure => simp [intOf]
          · have hp2 : ¬ (128 : Int) ≤ (n : Int) := by omega
            have hh := Hh.out hp
            clear hp
            rcases hk12 with rfl | rfl
            · have hh2 : hi ≤ 6 := by simpa using hh
              clear hh
              rcases hlen with ⟨h1, h2⟩ | ⟨h1, h2⟩
              · subst h1 h2
                go_wp2_with fail
                go_ret
                exact ⟨rfl, hold6⟩
              · have zz1 : ((n : Int) == 0) = false := by simp only [beq_eq_false_iff_ne]; omega
                have zz2 : ¬ (n : Int) = 0 := by omega
                have zz3 : (j : Int) < 2 * (n : Int) := by omega
                go_wp2_with fail
                go_ret
                exact ⟨rfl, hold6⟩
            · have hh2 : hi ≤ 12 := by simpa using hh
              clear hh
              rcases hlen with ⟨h1, h2⟩ | ⟨h1, h2⟩
              · subst h1 h2
                go_wp2_with fail
                go_ret
                exact ⟨rfl, hold6⟩
              · have zz1 : ((n : Int) == 0) = false := by simp only [beq_eq_false_iff_ne]; omega
                have zz2 : ¬ (n : Int) = 0 := by omega
                have zz3 : (j : Int) < 2 * (n : Int) := by omega
                go_wp2_with fail
                go_ret
                exact ⟨rfl, hold6⟩
        by_cases hg7 : g = 7
        · subst hg7
          by_cases hp : 2 ^ (7 + 1) ≤ n
          · have hp2 : (256 : Int) ≤ (n : Int) := by omega
            omega
          · have hp2 : ¬ (256 : Int) ≤ (n : Int) := by omega
            have hh := Hh.out hp
            clear hp
            rcases hk12 with rfl | rfl
            · have hh2 : hi ≤ 7 := by simpa using hh
              clear hh
              rcases hlen with ⟨h1, h2⟩ | ⟨h1, h2⟩
              · subst h1 h2
                go_wp2_with fail
                go_ret
                exact ⟨rfl, hold6⟩
              · have zz1 : ((n : Int) == 0) = false := by simp only [beq_eq_false_iff_ne]; omega
                have zz2 : ¬ (n : Int) = 0 := by omega
                have zz3 : (j : Int) < 2 * (n : Int) := by omega
                go_wp2_with fail
                go_ret
                exact ⟨rfl, hold6⟩
            · have hh2 : hi ≤ 14 := by simpa using hh
              clear hh
              rcases hlen with ⟨h1, h2⟩ | ⟨h1, h2⟩
              · subst h1 h2
                go_wp2_with fail
                go_ret
                exact ⟨rfl, hold6⟩
              · have zz1 : ((n : Int) == 0) = false := by simp only [beq_eq_false_iff_ne]; omega
                have zz2 : ¬ (n : Int) = 0 := by omega
                have zz3 : (j : Int) < 2 * (n : Int) := by omega
                go_wp2_with fail
                go_ret
                exact ⟨rfl, hold6⟩
        omega

end Go.Proofs.Ytbickllpledlbaa

