import Derived.Test.YtbickllpledlbaaG33
import Derived.Test.YtbickllpledlbaaG48
import Derived.Test.YtbickllpledlbaaG36
/-
  THE WALK of RedKinds (coterielaw11).
-/
set_option linter.unusedVariables false
namespace Go.Proofs.Ytbickllpledlbaa
open Go.RowKit

theorem thrI_snoc (ll : List (List Int)) (l : List Int) : thrI (ll ++ [l]) = thrI ll + l.countP (fun x => x == 3) := by simp [thrI]
theorem thrI_le (m : Nat) : ∀ ll : List (List Int), (∀ l ∈ ll, l.length ≤ m) → thrI ll ≤ m * ll.length
  | [], _ => by simp [thrI]
  | l :: ll, h => by
    have h1 := thrI_le m ll (fun x hx => h x (by simp [hx]))
    have h2 := h l (by simp)
    have h3 : l.countP (fun x => x == 3) ≤ l.length := List.countP_le_length
    have e : thrI (l :: ll) = l.countP (fun x => x == 3) + thrI ll := by simp [thrI]
    rw [e, List.length_cons, Nat.mul_add]
    omega
theorem filter_at {α : Type} (p : α → Bool) : ∀ (l : List α) (j : Nat) (x : α), l[j]? = some x → p x = true → (l.filter p)[(l.take j).countP p]? = some x
  | [], j, x, h, _ => by simp at h
  | y :: l, 0, x, h, hp => by
    simp at h
    subst h
    simp [hp]
  | y :: l, j + 1, x, h, hp => by
    have ih := filter_at p l j x (by simpa using h) hp
    rw [List.take_succ_cons, List.countP_cons, List.filter_cons]
    by_cases hy : p y = true
    · rw [if_pos hy, if_pos hy, List.getElem?_cons_succ]
      exact ih
    · rw [if_neg hy, if_neg hy]
      exact ih
theorem few_all {ids : List Int} {ll : List (List Int)} (h : fewT ids ll = true) : (∀ l ∈ ll, l.length ≤ 1100) ∧ ll.length ≤ 20 := ⟨(few_len h).1, (few_len h).2.2⟩

set_option maxRecDepth 100000 in
set_option maxHeartbeats 16000000 in
theorem walk_RedKinds (Ai : Option Addr) (ni ci : Nat) (Al : Option Addr) (nl cl : Nat) (ids : List Int) (ll : List (List Int)) (w : World) (h : ShR w w.heap.size Ai ni ci Al nl cl ids ll) :
    Calls Try.prog 7 #[.agg (shV Ai ni ci Al nl cl)] w fun e w' => e = .returned (.bool true) ∧ Below w.heap.size w w' := by
  have hM0 := (Ms.nil w).box 25 (shV Ai ni ci Al nl cl)
  have sh := fun wx (hb : Below w.heap.size w wx) => (h.below hb).more hb.size
  have hf1 := fun wx hb => FewT_any Ai ni ci Al nl cl ids ll wx (sh wx hb)
  have c1 := fun (hf : fewT ids ll = true) wx hb => PNodes_any 1 Ai ni ci Al nl cl ids ll wx (sh wx hb) hf
  have c2 := fun (hf : fewT ids ll = true) wx hb => PNodes_any 2 Ai ni ci Al nl cl ids ll wx (sh wx hb) hf
  have c3 := fun (hf : fewT ids ll = true) wx hb => PCheck_any Ai ni ci Al nl cl ids ll wx (sh wx hb) (few_million hf) (by have := (few_len hf).2.1; have := h.hni; omega)
  have Hni := Lib.hid h.hni
  have Hnl := Lib.hid h.hnl
  have Hcl := Lib.hid h.hcl
  have Hml := Lib.hid h.hml
  have Hlv := Lib.hid h.lvs
  go_enter Try.func7, Try.ntmps7
  go_wp2_with fail
  refine (live11 _).mono ?_
  rintro e w1 ⟨rfl, hb1⟩
  have hM1 := hM0.call hb1
  clear hM0 hb1
  go_wp2_with ((with_reducible show wpList _ _ _ (⟨some 17, _, _, _, _, _⟩ :: _) _ _); refine wpList_loadC (by kernel_rfl) 25 (.tmp 1) rfl w.heap.size rfl 25 (shV Ai ni ci Al nl cl) _ (hM1.get 0 rfl) Try.underlying25 rfl shapeInfo2 ?_)
  refine (hf1 _ hM1.old).mono ?_
  rintro e w2 ⟨rfl, hb2⟩
  have hM2 := hM1.call hb2
  have k0 := (hM2.get 0 rfl).cell (i := 0) (v := .slice Ai ni ci) rfl
  clear hM1 hb2
  have hret := hM2.old
  by_cases hfw : fewT ids ll = true
  rotate_left
  · have hff : fewT ids ll = false := by simpa using hfw
    rw [hff]
    clear hM2 c1 c2 c3
    go_wp2_with fail
    go_ret
    exact ⟨rfl, hret⟩
  rw [hfw]
  have d1 := c1 hfw
  have d2 := c2 hfw
  have d3 := c3 hfw
  by_cases hn : 120 < ni
  · have hn1 : (120 : Int) < (ni : Int) := by omega
    clear hM2 c1 c2 c3 d1 d2 d3
    go_wp2_with fail
    go_ret
    exact ⟨rfl, hret⟩
  have hn1 : ¬ (120 : Int) < (ni : Int) := by omega
  obtain ⟨hll1, hll2⟩ := few_all hfw
  have Hll := Lib.hid hll1
  have Hll2 := Lib.hid hll2
  clear c1 c2 c3 hf1 hret hn hfw hll1 hll2
  go_wp2_with ((with_reducible show wpList _ _ _ (⟨some 28, _, _, _, _, _⟩ :: _) _ _); refine wpList_loadC (by kernel_rfl) 25 (.tmp 1) rfl w.heap.size rfl 25 (shV Ai ni ci Al nl cl) _ (hM2.get 0 rfl) Try.underlying25 rfl shapeInfo2 ?_)
  refine (d1 _ hM2.old).mono ?_
  rintro e w3 ⟨hb3, A1, n1, a1, rfl, r1⟩
  have hM3 := hM2.call hb3
  clear hM2 hb3 d1
  go_wp2_with ((with_reducible show wpList _ _ _ (⟨some 33, _, _, _, _, _⟩ :: _) _ _); refine wpList_loadC (by kernel_rfl) 25 (.tmp 1) rfl w.heap.size rfl 25 (shV Ai ni ci Al nl cl) _ (hM3.get 0 rfl) Try.underlying25 rfl shapeInfo2 ?_)
  refine (d2 _ hM3.old).mono ?_
  rintro e w4 ⟨hb4, A2, n2, a2, rfl, r2⟩
  have hM4 := hM3.call hb4
  have r1 := (r1.below hb4).more hb4.size
  clear hM3 hb4 d2
  by_cases hck : chkT ids ll = true
  rotate_left
  · have hckf : chkT ids ll = false := by simpa using hck
    have e1 : mayE 1 ids ll = 1 := by rw [mayE, mayB, hckf]; rfl
    have e2 : mayE 2 ids ll = 1 := by rw [mayE, mayB, hckf]; rfl
    have e3 : chkE ids ll = 1 := by rw [chkE, hckf]; rfl
    rw [e1, e2]
    have d4 := d3 _ hM4.old
    rw [e3] at d4
    have hold4 := hM4.old
    clear r1 r2 d3 e1 e2 e3
    go_wp2_with ((with_reducible show wpList _ _ _ (⟨some 46, _, _, _, _, _⟩ :: _) _ _); refine wpList_loadC (by kernel_rfl) 25 (.tmp 1) rfl w.heap.size rfl 25 (shV Ai ni ci Al nl cl) _ (hM4.get 0 rfl) Try.underlying25 rfl shapeInfo2 ?_)
    refine d4.mono ?_
    rintro e w5 ⟨rfl, hb5⟩
    have hold5 := hold4.trans (hb5.mono hold4.size)
    clear d4 hM4
    go_wp2_with fail
    go_ret
    exact ⟨rfl, hold5⟩
  have e1 : mayE 1 ids ll = 0 := by rw [mayE, mayB, hck]; rfl
  have e2 : mayE 2 ids ll = 0 := by rw [mayE, mayB, hck]; rfl
  rw [e1, e2]
  obtain ⟨L1, L2, f1, f2, hcore, hred⟩ := kinds_facts hck
  rw [f1.nodes] at r1
  rw [f2.nodes] at r2
  have hs1 := f1.small
  have hs2 := f2.small
  obtain ⟨vs, hv, hlv⟩ := Hlv.out
  have hold4 := hM4.old
  have k1 := (hM4.get 0 rfl).cell (i := 1) (v := .slice Al nl cl) rfl
  have Hcore := Lib.hid hcore
  have Hred := Lib.hid hred
  have hcl := Hcl.out
  have hml := Hml.out
  have hnl20 : nl ≤ 20 := by have := Hnl.out; have := Hll2.out; omega
  have hn1l := r1.len
  have hn2l := r2.len
  rw [List.length_map] at hn1l hn2l
  have Hn1 := Lib.hid hn1l
  have Hn2 := Lib.hid hn2l
  have hn12 : n1 ≤ 2000 := by omega
  have hn22 : n2 ≤ 2000 := by omega
  have Hthr := Lib.hid (show thrI ll ≤ 22000 by
    have := thrI_le 1100 ll Hll.out
    have := Hll2.out
    omega)
  clear hM4 f1 f2 hcore hred e1 e2 hck d3 h sh hs1 hs2 hn1l hn2l
  go_wp2_with fail
  go_loopw [8, 53] (fun v8 v53 wr => ∃ j : Nat, j ≤ nl ∧ v53 = .int .i64 (j : Int) ∧ v8 = .int .i64 ((thrI (ll.take j) : Nat) : Int) ∧ wr = w4) (fun _ v53 _ => nl - (intOf v53).toNat)
  case atStart => exact ⟨0, by omega, rfl, rfl, rfl⟩
  case round =>
    obtain ⟨j, hj, rfl, rfl, rfl⟩ := hrel
    by_cases hjn : j < nl
    · have hjl : j < ll.length := by rw [Hnl.out]; exact hjn
      obtain ⟨A0, c0, hvj, hc0, hm0, hr0⟩ := hlv.get hjl
      obtain ⟨b, o, rfl, hbb, hcell⟩ := (hv.below hold4).pos (by omega)
      have d0 := hcell j _ hvj
      have hl1100 := Hll.out _ (List.getElem_mem hjl)
      have Htk := Lib.hid (show thrI (ll.take (j + 1)) = thrI (ll.take j) + ll[j].countP (fun x => x == 3) by rw [List.take_succ_eq_append_getElem hjl, thrI_snoc])
      have hth := thrI_le 1100 (ll.take j) (fun l hl => Hll.out l (List.mem_of_mem_take hl))
      rw [List.length_take] at hth
      have hr1 := hr0.below hold4
      generalize ll[j] = l at *
      have zj : (j : Int) < (nl : Int) := by omega
      have hth2 : thrI (ll.take j) ≤ 22000 := by omega
      generalize thrI (ll.take j) = th at *
      clear hcell hvj hth hr0
      go_wp2_with fail
      go_loopw [8, 59] (fun v8 v59 wx => ∃ i : Nat, i ≤ l.length ∧ v59 = .int .i64 (i : Int) ∧ v8 = .int .i64 ((th + (l.take i).countP (fun x => x == 3) : Nat) : Int) ∧ wx = wr) (fun _ v59 _ => l.length - (intOf v59).toNat)
      case atStart => exact ⟨0, by omega, rfl, by simp, rfl⟩
      case round =>
        obtain ⟨i, hi, rfl, rfl, rfl⟩ := hrel
        by_cases hil : i < l.length
        · obtain ⟨b2, o2, rfl, _, hcell⟩ := hr1.pos (by omega)
          have d1 := hcell i (.int .i64 l[i]) (by rw [List.getElem?_map, List.getElem?_eq_getElem hil]; rfl)
          have Hti := Lib.hid (show (l.take (i + 1)).countP (fun x => x == 3) = (l.take i).countP (fun x => x == 3) + (if l[i] = 3 then 1 else 0) by
            rw [List.take_succ_eq_append_getElem hil, List.countP_append, List.countP_cons, List.countP_nil, Nat.zero_add]
            simp only [beq_iff_eq])
          have hct : (l.take i).countP (fun x => x == 3) ≤ 1100 := by
            have : (l.take i).countP (fun x => x == 3) ≤ (l.take i).length := List.countP_le_length
            rw [List.length_take] at this
            omega
          generalize l[i] = x at *
          generalize (l.take i).countP (fun x => x == 3) = ct at *
          have zi : (i : Int) < (l.length : Int) := by omega
          have zw : IntKind.i64.wrap (((th + ct : Nat) : Int) + 1) = ((th + ct : Nat) : Int) + 1 := by rw [IntKind.wrap_i64]; omega
          have zw2 : IntKind.i64.wrap ((th : Int) + (ct : Int) + 1) = (th : Int) + (ct : Int) + 1 := by rw [IntKind.wrap_i64]; omega
          clear hcell
          by_cases hx3 : x = 3
          · have hb : (x == 3) = true := by simpa using hx3
            rw [if_pos hx3] at Hti
            clear hx3
            go_wp2_with fail
            go_roundw
            case rel => exact ⟨i + 1, by omega, by go_num, (by have e := Hti.out; rw [e]; first | done | rfl | exact congrArg (Value.int .i64) (by omega)), by trivial⟩
            case measure => simp [intOf]; omega
          · have hb : (x == 3) = false := by simpa using hx3
            rw [if_neg hx3] at Hti
            clear hx3
            go_wp2_with fail
            go_roundw
            case rel => exact ⟨i + 1, by omega, by go_num, (by have e := Hti.out; rw [e]; first | done | rfl | exact congrArg (Value.int .i64) (by omega)), by trivial⟩
            case measure => simp [intOf]; omega
        · obtain rfl : i = l.length := by omega
          rw [List.take_length]
          go_wp2_with fail
          go_roundw
          case rel => exact ⟨j + 1, by omega, by go_num, by rw [Htk.out], by trivial⟩
          case measure => simp [intOf]; omega
    · obtain rfl : j = nl := by omega
      rw [show ll.take j = ll by rw [← Hnl.out, List.take_length]]
      obtain ⟨th, hth⟩ : ∃ th, th = thrI ll := ⟨_, rfl⟩
      have hth2 : th ≤ 22000 := by rw [hth]; exact Hthr.out
      have hred := Hred.out
      rw [← hth] at hred ⊢
      have Hth := Lib.hid hred
      clear hth hred k1 hv hlv
      generalize wr = w4 at *
      go_wp2_with fail
      go_loopw [8, 13, 71] (fun v8 v13 v71 wx => ∃ i : Nat, i ≤ n2 ∧ v71 = .int .i64 (i : Int) ∧ v8 = .int .i64 ((th : Int) - ((L2.take i).countP (fun x => x.red) : Nat)) ∧ v13 = .int .i64 (((L2.take i).countP (fun x => !x.red) : Nat) : Int) ∧ Ms w4 wx []) (fun _ _ v71 _ => n2 - (intOf v71).toNat)
      case atStart => exact ⟨0, by omega, rfl, by simp, rfl, Ms.nil _⟩
      case round =>
        obtain ⟨i, hi, rfl, rfl, rfl, hM⟩ := hrel
        have hold := hM.old
        by_cases hin : i < n2
        · have hil : i < L2.length := by rw [Hn2.out]; exact hin
          have hx := List.getElem?_eq_getElem hil
          have Ht1 := Lib.hid (show (L2.take (i + 1)).countP (fun x => x.red) = (L2.take i).countP (fun x => x.red) + (if L2[i].red = true then 1 else 0) by
            rw [List.take_succ_eq_append_getElem hil, List.countP_append, List.countP_cons, List.countP_nil, Nat.zero_add])
          have Ht2 := Lib.hid (show (L2.take (i + 1)).countP (fun x => !x.red) = (L2.take i).countP (fun x => !x.red) + (if (!L2[i].red) = true then 1 else 0) by
            rw [List.take_succ_eq_append_getElem hil, List.countP_append, List.countP_cons, List.countP_nil, Nat.zero_add])
          have hr1 : (L2.take i).countP (fun x => x.red) ≤ 2000 := by
            have : (L2.take i).countP (fun x => x.red) ≤ (L2.take i).length := List.countP_le_length
            rw [List.length_take] at this
            omega
          have hr2 : (L2.take i).countP (fun x => !x.red) ≤ 2000 := by
            have : (L2.take i).countP (fun x => !x.red) ≤ (L2.take i).length := List.countP_le_length
            rw [List.length_take] at this
            omega
          have Hat := Lib.hid (show L2[i].red = false → ∃ y, L1[(L2.take i).countP (fun x => !x.red)]? = some y ∧ coreR y = coreR L2[i] from fun hr => by
            have h1 := filter_at (fun x : RN => !x.red) L2 i _ hx (by rw [hr]; rfl)
            have h2 : ((L2.filter fun x => !x.red).map coreR)[(L2.take i).countP (fun x => !x.red)]? = some (coreR L2[i]) := by rw [List.getElem?_map, h1]; rfl
            rw [Hcore.out, List.getElem?_map] at h2
            obtain ⟨y, hy1, hy2⟩ := Option.map_eq_some_iff.1 h2
            exact ⟨y, hy1, hy2⟩)
          have hxi : (L2.map RN.i)[i]? = some L2[i].i := by rw [List.getElem?_map, hx]; rfl
          generalize L2[i] = x at *
          generalize (L2.take i).countP (fun x => x.red) = q1 at *
          generalize (L2.take i).countP (fun x => !x.red) = q2 at *
          obtain ⟨ba, oa, Au, cu, rfl, hba, hra, hcu, hmu, hku⟩ := (r2.below hold).range hxi
          have hP := hM.put 42 zN (riC x.i (.slice Au x.i.kids.length cu)).toArray
          have zi : (i : Int) < (n2 : Int) := by omega
          go_upto_region 23 with (first
            | ((with_reducible show wpList _ _ _ (⟨some 74, _, _, _, _, _⟩ :: _) _ _); refine wpList_load_midG (by kernel_rfl) 42 (.tmp 73) rfl ba (oa + i * 7) rfl (riC x.i (.slice Au x.i.kids.length cu)) _ hra Try.underlying42 rfl rnInfo2 ?_)
            | ((with_reducible show wpList _ _ _ (⟨none, Op.store 42 _ _, _, _, _, _⟩ :: _) _ _); refine wpList_store_row rfl 42 (.tmp 15) (.tmp 74) rfl wr.heap.size (riC x.i (.slice Au x.i.kids.length cu)).toArray rfl rfl 42 zN (RowC.new _ _ _) rnInfo2 rfl (by simp [riC, Value.oneCell']) ?_))
          try simp only [Act.put]
          obtain ⟨g1, hg1⟩ : ∃ g1, g1 = wr.heap.size := ⟨_, rfl⟩
          rw [← hg1] at hP ⊢
          refine wp_gen (fun wx => Ms w4 wx [(g1, 42, (riC x.i (.slice Au x.i.kids.length cu)).toArray)]) hP ?_
          clear hP hra hM hg1 hku hx hxi hold
          rintro w5 hM
          have p0 := (hM.get 0 rfl).cell (i := 0) (v := .int .i64 (x.lev : Nat)) rfl
          have p1 := (hM.get 0 rfl).cell (i := 1) (v := .int .i64 (x.at_ : Nat)) rfl
          have p2 := (hM.get 0 rfl).cell (i := 2) (v := .bool x.red) rfl
          have p3 := (hM.get 0 rfl).cell (i := 3) (v := .int .i64 (x.fr : Nat)) rfl
          have p4 := (hM.get 0 rfl).cell (i := 4) (v := .int .i64 (x.to : Nat)) rfl
          have hold5 := hM.old
          cases hxr : x.red with
          | true =>
            rw [hxr] at p2 Ht1 Ht2
            have zw : IntKind.i64.wrap ((th : Int) - (q1 : Int) - 1) = (th : Int) - (q1 : Int) - 1 := by rw [IntKind.wrap_i64]; omega
            clear hxr
            go_wp2_with fail
            go_roundw
            case rel => exact ⟨i + 1, by omega, by go_num, (by rw [Ht1.out, if_pos rfl]; first | done | rfl | exact congrArg (Value.int .i64) (by omega)), (by rw [Ht2.out, if_neg (by simp)]; first | done | rfl | exact congrArg (Value.int .i64) (by omega)), ⟨hold5, fun q hq => by simp at hq⟩⟩
            case measure => simp [intOf]; omega
          | false =>
            obtain ⟨y, hy, hyc⟩ := Hat.out hxr
            rw [hxr] at p2 Ht1 Ht2
            simp only [coreR, Prod.mk.injEq] at hyc
            obtain ⟨y1, y2, y3, y4⟩ := hyc
            have hqn : q2 < n1 := by rw [← Hn1.out]; exact (List.getElem?_eq_some_iff.1 hy).1
            obtain ⟨bb, ob, Bu, du, rfl, -, hrb, -, -, -⟩ := (r1.below hold5).range (k := q2) (x := y.i) (by rw [List.getElem?_map, hy]; rfl)
            have s0 := hrb 0 (.int .i64 (x.lev : Nat)) (by rw [← y1]; rfl)
            have s1 := hrb 1 (.int .i64 (x.at_ : Nat)) (by rw [← y2]; rfl)
            have s3 := hrb 3 (.int .i64 (x.fr : Nat)) (by rw [← y3]; rfl)
            have s4 := hrb 4 (.int .i64 (x.to : Nat)) (by rw [← y4]; rfl)
            rw [Nat.add_zero] at s0
            have zq : (q2 : Int) < (n1 : Int) := by omega
            have zq2 : ¬ (n1 : Int) ≤ (q2 : Int) := by omega
            have zw : IntKind.i64.wrap ((q2 : Int) + 1) = (q2 : Int) + 1 := by rw [IntKind.wrap_i64]; omega
            clear hxr hrb hy y1 y2 y3 y4
            go_wp2_with fail
            go_quiet (fail)
            go_wp2_with fail
            go_roundw
            case rel => exact ⟨i + 1, by omega, by go_num, (by rw [Ht1.out, if_neg (by simp)]; first | done | rfl | exact congrArg (Value.int .i64) (by omega)), (by rw [Ht2.out, if_pos (show (!false) = true from rfl)]; first | done | rfl | exact congrArg (Value.int .i64) (by omega)), ⟨below_drewN hold5 _, fun q hq => by simp at hq⟩⟩
            case measure => simp [intOf]; omega
        · obtain rfl : i = n2 := by omega
          have hfin := hold4.trans (hold.mono hold4.size)
          have hr1 : (L2.take i).countP (fun x => x.red) = th := by rw [← Hn2.out, List.take_length]; exact Hth.out
          have hr2 : (L2.take i).countP (fun x => !x.red) = n1 := by
            rw [← Hn2.out, List.take_length, List.countP_eq_length_filter, ← Hn1.out]
            have := congrArg List.length Hcore.out
            rw [List.length_map, List.length_map] at this
            exact this
          rw [hr1, hr2]
          have zz : (th : Int) - (th : Int) = 0 := by omega
          clear hr1 hr2 hM
          go_wp2_with fail
          go_ret
          exact ⟨rfl, hfin⟩

end Go.Proofs.Ytbickllpledlbaa

/-
  THE WALK of RedSpans (coterielaw11).
-/
set_option linter.unusedVariables false
namespace Go.Proofs.Ytbickllpledlbaa
open Go.RowKit

theorem scan_at (l : List Nat) {j : Nat} (h : j ≤ l.length) : (scanT l)[j]? = some (startT l j) := by
  rw [scanT, scanTo, List.getElem?_map, List.getElem?_range (by omega)]
  rfl
theorem spans_at {many : Nat} {lv : List (List Nat)} (hs : lvSum many lv) {k j : Nat} (hk : 0 < k) (hk2 : k ≤ lv.length) (hj : j ≤ wideN many lv k) : (spansL many lv ((k : Int) - 1).toNat)[j]? = some (leafS lv k j) := by
  rw [spansL, show ((k : Int) - 1).toNat + 1 = k by omega, scan_at _ (by rw [wide_lenN hs k hk2]; exact hj), leafS_start hs k j hk2 hj]
theorem spans_len {many : Nat} {lv : List (List Nat)} (hs : lvSum many lv) {k : Nat} (hk : 0 < k) (hk2 : k ≤ lv.length) : (spansL many lv ((k : Int) - 1).toNat).length = wideN many lv k + 1 := by
  rw [spansL, show ((k : Int) - 1).toNat + 1 = k by omega, scanT, scanTo, List.length_map, List.length_range, wide_lenN hs k hk2]

set_option maxRecDepth 100000 in
set_option maxHeartbeats 16000000 in
theorem walk_RedSpans (kind : Int) (Ai : Option Addr) (ni ci : Nat) (Al : Option Addr) (nl cl : Nat) (ids : List Int) (ll : List (List Int)) (w : World) (h : ShR w w.heap.size Ai ni ci Al nl cl ids ll) :
    Calls Try.prog 8 #[.int .i64 kind, .agg (shV Ai ni ci Al nl cl)] w fun e w' => e = .returned (.bool true) ∧ Below w.heap.size w w' := by
  have hM0 := (Ms.nil w).box 25 (shV Ai ni ci Al nl cl)
  have sh := fun wx (hb : Below w.heap.size w wx) => (h.below hb).more hb.size
  have hf1 := fun wx hb => FewT_any Ai ni ci Al nl cl ids ll wx (sh wx hb)
  have c1 := fun (hf : fewT ids ll = true) wx hb => PNodes_any kind Ai ni ci Al nl cl ids ll wx (sh wx hb) hf
  have Hsp := Lib.hid (fun (hf : fewT ids ll = true) level h1 h2 wx hb => PSpans_any Ai ni ci Al nl cl ids ll level wx h1 h2 (sh wx hb) hf)
  go_enter Try.func8, Try.ntmps8
  go_wp2_with fail
  refine (live11 _).mono ?_
  rintro e w1 ⟨rfl, hb1⟩
  have hM1 := hM0.call hb1
  clear hM0 hb1
  go_wp2_with ((with_reducible show wpList _ _ _ (⟨some 16, _, _, _, _, _⟩ :: _) _ _); refine wpList_loadC (by kernel_rfl) 25 (.tmp 3) rfl w.heap.size rfl 25 (shV Ai ni ci Al nl cl) _ (hM1.get 0 rfl) Try.underlying25 rfl shapeInfo2 ?_)
  refine (hf1 _ hM1.old).mono ?_
  rintro e w2 ⟨rfl, hb2⟩
  have hM2 := hM1.call hb2
  have k0 := (hM2.get 0 rfl).cell (i := 0) (v := .slice Ai ni ci) rfl
  clear hM1 hb2
  have hret := hM2.old
  by_cases hfw : fewT ids ll = true
  rotate_left
  · have hff : fewT ids ll = false := by simpa using hfw
    rw [hff]
    clear hM2 c1
    go_wp2_with fail
    go_ret
    exact ⟨rfl, hret⟩
  rw [hfw]
  have d1 := c1 hfw
  by_cases hn : 120 < ni
  · have hn1 : (120 : Int) < (ni : Int) := by omega
    clear hM2 c1 d1
    go_wp2_with fail
    go_ret
    exact ⟨rfl, hret⟩
  have hn1 : ¬ (120 : Int) < (ni : Int) := by omega
  have HSp := Lib.hid (Hsp.out hfw)
  clear c1 hf1 hret hn hfw Hsp
  go_wp2_with ((with_reducible show wpList _ _ _ (⟨some 28, _, _, _, _, _⟩ :: _) _ _); refine wpList_loadC (by kernel_rfl) 25 (.tmp 3) rfl w.heap.size rfl 25 (shV Ai ni ci Al nl cl) _ (hM2.get 0 rfl) Try.underlying25 rfl shapeInfo2 ?_)
  refine (d1 _ hM2.old).mono ?_
  rintro e w3 ⟨hb3, A1, n1, a1, rfl, r1⟩
  have hM3 := hM2.call hb3
  clear hM2 hb3 d1
  have hold3 := hM3.old
  have hmay : (mayB kind ids ll = false ∧ mayE kind ids ll = 1) ∨ (mayB kind ids ll = true ∧ mayE kind ids ll = 0) := by
    rw [mayE]
    cases mayB kind ids ll <;> simp
  rcases hmay with ⟨hmb, hme⟩ | ⟨hmb, hme⟩
  · rw [hme]
    clear r1 hM3 hmb hme sh h
    go_wp2_with fail
    go_ret
    exact ⟨rfl, hold3⟩
  rw [hme]
  obtain ⟨L, f1⟩ := lst_facts hmb
  have hmb' := hmb
  rw [mayB, Bool.and_eq_true] at hmb'
  have hck := hmb'.2
  have hk12 : kind = 1 ∨ kind = 2 := by simpa using hmb'.1
  obtain ⟨_, _, h3, hin⟩ := chkT_lv hck
  have hs := lvOK_sum _ _ h3
  have hlvn : (lvN ll).length = ll.length := by rw [lvN, List.length_map]
  have hhi := lv_high hck
  rw [f1.nodes] at r1
  have hnl := r1.len
  rw [List.length_map] at hnl
  have Hn := Lib.hid hnl
  have hsm := f1.small
  have hn2 : n1 ≤ 2000 := by omega
  have Hf := Lib.hid f1
  have HSs := Lib.hid hs
  have Hck := Lib.hid hck
  have Hhi := Lib.hid hhi
  have Hlvn := Lib.hid hlvn
  clear f1 hmb hmb' hme hck h3 hin hs hlvn hhi hnl hsm k0 sh h
  go_wp2_with fail
  go_loopw [41] (fun v41 wr => ∃ j : Nat, j ≤ n1 ∧ v41 = .int .i64 (j : Int) ∧ Ms w wr [(w.heap.size, 25, shV Ai ni ci Al nl cl)] ∧ Below w3.heap.size w3 wr) (fun v41 _ => n1 - (intOf v41).toNat)
  case atStart => exact ⟨0, by omega, rfl, hM3, Below.refl _ _⟩
  case round =>
    clear hM3
    obtain ⟨j, hj, rfl, hM, hb3⟩ := hrel
    have hold := hM.old
    by_cases hjn : j < n1
    · have hjl : j < L.length := by rw [Hn.out]; exact hjn
      have hx := List.getElem?_eq_getElem hjl
      have hkid := Hf.out.kid j _ hx
      have hgrp := Hf.out.grp _ (List.getElem_mem hjl)
      have hokn := Hf.out.ok _ (List.getElem_mem hjl)
      have hxi : (L.map RN.i)[j]? = some L[j].i := by rw [List.getElem?_map, hx]; rfl
      generalize L[j] = x at *
      obtain ⟨ba, oa, Au, cu, rfl, hba, hra, hcu, hmu, hku⟩ := (r1.below hb3).range hxi
      have e1 : x.i.kids.length = x.kids.length := castL_len _
      rw [e1] at hra hcu hku
      rw [show x.i.kids = castL x.kids from rfl, castL_iv] at hku
      have hP := hM.put 42 zN (riC x.i (.slice Au x.kids.length cu)).toArray
      have hb5 : Below w3.heap.size w3 ((wr.alloc (.cells zN 42)).setRow wr.heap.size (riC x.i (.slice Au x.kids.length cu)).toArray) := hb3.trans ((below_setRow ((Below.refl wr.heap.size wr).alloc (Nat.le_refl _) (.cells zN 42)) (Nat.le_refl _) (riC x.i (.slice Au x.kids.length cu)).toArray).mono hb3.size)
      have hku5 := hku.below ((below_setRow ((Below.refl wr.heap.size wr).alloc (Nat.le_refl _) (.cells zN 42)) (Nat.le_refl _) (riC x.i (.slice Au x.kids.length cu)).toArray).mono hb3.size)
      have zj : (j : Int) < (n1 : Int) := by omega
      go_upto_region 10 with (first
        | ((with_reducible show wpList _ _ _ (⟨some 44, _, _, _, _, _⟩ :: _) _ _); refine wpList_load_midG (by kernel_rfl) 42 (.tmp 43) rfl ba (oa + j * 7) rfl (riC x.i (.slice Au x.kids.length cu)) _ hra Try.underlying42 rfl rnInfo2 ?_)
        | ((with_reducible show wpList _ _ _ (⟨none, Op.store 42 _ _, _, _, _, _⟩ :: _) _ _); refine wpList_store_row rfl 42 (.tmp 9) (.tmp 44) rfl wr.heap.size (riC x.i (.slice Au x.kids.length cu)).toArray rfl rfl 42 zN (RowC.new _ _ _) rnInfo2 rfl (by simp [riC, Value.oneCell']) ?_))
      try simp only [Act.put]
      obtain ⟨g1, hg1⟩ : ∃ g1, g1 = wr.heap.size := ⟨_, rfl⟩
      rw [← hg1] at hP hb5 hku5 ⊢
      refine wp_gen (fun wx => Ms w wx [(g1, 42, (riC x.i (.slice Au x.kids.length cu)).toArray), (w.heap.size, 25, shV Ai ni ci Al nl cl)] ∧ Below w3.heap.size w3 wx ∧ Rd wx w3.heap.size Au x.kids.length (kidV x.kids)) ⟨hP, hb5, hku5⟩ ?_
      clear hP hra hM hg1 hku hku5 hb5 hb3 hx hxi hold
      rintro w5 ⟨hM, hb3, hku⟩
      have hold := hM.old
      have p0 := (hM.get 0 rfl).cell (i := 0) (v := .int .i64 (x.lev : Nat)) rfl
      have p1 := (hM.get 0 rfl).cell (i := 1) (v := .int .i64 (x.at_ : Nat)) rfl
      have p2 := (hM.get 0 rfl).cell (i := 2) (v := .bool x.red) rfl
      have p3 := (hM.get 0 rfl).cell (i := 3) (v := .int .i64 (x.fr : Nat)) rfl
      have p4 := (hM.get 0 rfl).cell (i := 4) (v := .int .i64 (x.to : Nat)) rfl
      have p5 := (hM.get 0 rfl).cell (i := 5) (v := .slice Au x.kids.length cu) rfl
      obtain ⟨hspan, _, hlf, _⟩ := hkid
      have Hspan := Lib.hid hspan
      have Hlf := Lib.hid hlf
      have Hgrp := Lib.hid hgrp
      have hk3 : x.kids.length ≤ 3 := by
        have h1 := hokn.2.1
        omega
      have Hokn := Lib.hid hokn.2.2.1
      have Hrl := Lib.hid (fun h : x.red = true => (hokn.2.2.2.1 h).2)
      have hat : x.red = false → x.at_ < 1000 ∧ x.lev ≤ 10 := fun hr => by
        rcases hgrp with h | ⟨h1, h2, _⟩
        · rw [hr] at h; cases h
        · have := wideN_le HSs.out _ h1
          have := Hhi.out
          omega
      have Hat := Lib.hid hat
      clear hat
      clear hokn hspan hlf hgrp
      generalize hks : x.kids = ks at *
      obtain ⟨nk, hnk⟩ : ∃ nk, nk = ks.length := ⟨_, rfl⟩
      rw [← hnk] at p5 hku hcu hk3 Hokn
      have Hnk := Lib.hid hnk
      have Hks := Lib.hid hks
      clear hnk hks
      go_wp2_with fail
      go_loopw [10, 50] (fun v10 v50 wx => ∃ i q : Nat, i ≤ nk ∧ v50 = .int .i64 (i : Int) ∧ v10 = .int .i64 (q : Int) ∧ Hid (ks ≠ [] → spanK L q (ks.drop i) x.to) ∧ wx = w5) (fun _ v50 _ => nk - (intOf v50).toNat)
      case atStart => exact ⟨0, x.fr, by omega, rfl, rfl, Hspan, rfl⟩
      case round =>
        obtain ⟨i, q, hi, rfl, rfl, Hsp, rfl⟩ := hrel
        by_cases hik : i < nk
        · have hix : i < ks.length := by rw [← Hnk.out]; exact hik
          have hne : ks ≠ [] := fun e => by rw [e] at hix; simp at hix
          have hsp := Hsp.out hne
          rw [List.drop_eq_getElem_cons hix] at hsp
          obtain ⟨y, hy, hyf, hsp2⟩ := hsp
          have Hs2 := Lib.hid (show ks ≠ [] → spanK L y.to (ks.drop (i + 1)) x.to from fun _ => hsp2)
          obtain ⟨bb, ob, rfl, _, hcell⟩ := hku.pos (by omega)
          have d1 := hcell i (.int .i64 (ks[i] : Nat)) (by rw [kidV, List.getElem?_map, List.getElem?_eq_getElem hix]; rfl)
          have hkn : ks[i] < n1 := by rw [← Hn.out]; exact (List.getElem?_eq_some_iff.1 hy).1
          obtain ⟨bc, oc, Cu, eu, e2, -, hrb, -, -, -⟩ := (r1.below hb3).range (k := ks[i]) (x := y.i) (by rw [List.getElem?_map, hy]; rfl)
          injection e2 with e2
          injection e2 with e3 e4
          subst e3 e4
          have s3 := hrb 3 (.int .i64 (q : Nat)) (by rw [← hyf]; rfl)
          have s4 := hrb 4 (.int .i64 (y.to : Nat)) rfl
          generalize ks[i] = k at *
          have zi : (i : Int) < (nk : Int) := by omega
          have zk : (k : Int) < (n1 : Int) := by omega
          have zk0 : (0 : Int) ≤ (k : Int) := by omega
          have zk2 : ¬ (n1 : Int) ≤ (k : Int) := by omega
          clear hcell hrb hy hsp2 hyf Hsp hne
          go_wp2_with fail
          go_roundw
          case rel => exact ⟨i + 1, y.to, by omega, by go_num, rfl, Hs2, by trivial⟩
          case measure => simp [intOf]; omega
        · obtain rfl : i = nk := by omega
          have hqt : x.lev ≠ 0 → q = x.to := fun hl0 => by
            have hne : ks ≠ [] := fun e => by
              have := Hokn.out
              have := Hnk.out
              rw [e] at this
              exact hl0 (Hokn.out.1 this)
            have := Hsp.out hne
            rw [Hnk.out, List.drop_length] at this
            exact this
          by_cases hl0 : x.lev = 0
          · have hnk0 : i = 0 := Hokn.out.2 hl0
            obtain ⟨h1, h2⟩ := Hlf.out hl0
            have hrf : x.red = false := by
              cases hr : x.red with
              | false => rfl
              | true => exact absurd hl0 (Hrl.out hr)
            obtain ⟨ha1, _⟩ := Hat.out hrf
            rw [hl0] at p0
            rw [h1] at p3
            rw [h2] at p4
            have zi : (i : Int) = 0 := by omega
            have zw : IntKind.i64.wrap ((x.at_ : Int) + 1) = (x.at_ : Int) + 1 := by rw [IntKind.wrap_i64]; omega
            have ze : (((x.at_ + 1 : Nat) : Int) != (x.at_ : Int) + 1) = false := by simp
            clear hqt h1 h2 hl0
            go_wp2_with fail
            go_roundw
            case rel => exact ⟨j + 1, by omega, by go_num, ⟨hold, fun q hq => by simp at hq; subst hq; exact hM.get 1 rfl⟩, hb3⟩
            case measure => simp [intOf]; omega
          · have hq := hqt hl0
            have hlp : 0 < x.lev := by omega
            have zi0 : (0 : Int) < (i : Int) := by
              have h1 : i ≠ 0 := fun e => hl0 (Hokn.out.1 e)
              omega
            have zl : ¬ (x.lev : Int) = 0 := by omega
            have zlb : ((x.lev : Int) == 0) = false := by simp only [beq_eq_false_iff_ne]; exact zl
            have ze : ((q : Int) != (x.to : Int)) = false := by rw [hq]; simp
            cases hr : x.red with
            | true =>
              rw [hr] at p2
              clear hqt hl0 hr
              go_wp2_with fail
              go_roundw
              case rel => exact ⟨j + 1, by omega, by go_num, ⟨hold, fun q hq => by simp at hq; subst hq; exact hM.get 1 rfl⟩, hb3⟩
              case measure => simp [intOf]; omega
            | false =>
              rw [hr] at p2
              obtain ⟨ha1, ha2⟩ := Hat.out hr
              have hg : x.lev ≤ (lvN ll).length ∧ x.at_ < wideN ids.length (lvN ll) x.lev ∧ x.fr = leafS (lvN ll) x.lev x.at_ ∧ x.to = leafS (lvN ll) x.lev (x.at_ + 1) := by
                rcases Hgrp.out with h | h
                · rw [hr] at h; cases h
                · exact h
              obtain ⟨hg1, hg2, hg3, hg4⟩ := hg
              have hspc := HSp.out ((x.lev : Int) - 1) (by omega) (by omega) _ hold
              have g1' := spans_at HSs.out hlp hg1 (j := x.at_) (by omega)
              have g2' := spans_at HSs.out hlp hg1 (j := x.at_ + 1) (by omega)
              have g3' := spans_len HSs.out hlp hg1
              rw [← hg3] at g1'
              rw [← hg4] at g2'
              clear hg3 hg4
              have hok : spansOk ids ll ((x.lev : Int) - 1) := ⟨Hck.out, by omega, by have := Hlvn.out; omega⟩
              have zw : IntKind.i64.wrap ((x.lev : Int) - 1) = (x.lev : Int) - 1 := by rw [IntKind.wrap_i64]; omega
              have zw2 : IntKind.i64.wrap ((x.at_ : Int) + 1) = (x.at_ : Int) + 1 := by rw [IntKind.wrap_i64]; omega
              have hbx := hM.get 1 rfl
              clear hqt hl0 hr
              go_wp2_with ((with_reducible show wpList _ _ _ (⟨some 115, _, _, _, _, _⟩ :: _) _ _); refine wpList_loadC (by kernel_rfl) 25 (.tmp 3) rfl w.heap.size rfl 25 (shV Ai ni ci Al nl cl) _ hbx Try.underlying25 rfl shapeInfo2 ?_)
              refine hspc.mono ?_
              rintro e w6 ⟨hb6, h6⟩
              rcases h6 with ⟨h6, _⟩ | ⟨_, A6, n6, c6, rfl, hn6, hm6, hr6⟩
              · exact absurd hok h6
              have hM6 := hM.call hb6
              have hold6 := hM6.old
              have q1 := (hM6.get 0 rfl).cell (i := 1) (v := .int .i64 (x.at_ : Nat)) rfl
              have q3 := (hM6.get 0 rfl).cell (i := 3) (v := .int .i64 (x.fr : Nat)) rfl
              have q4 := (hM6.get 0 rfl).cell (i := 4) (v := .int .i64 (x.to : Nat)) rfl
              have hl6 := hr6.len
              rw [List.length_map, g3'] at hl6
              obtain ⟨b6, o6, rfl, _, hc6⟩ := hr6.pos (by omega)
              have t1 := hc6 x.at_ (.int .i64 (x.fr : Nat)) (by rw [List.getElem?_map, g1']; rfl)
              have t2 := hc6 (x.at_ + 1) (.int .i64 (x.to : Nat)) (by rw [List.getElem?_map, g2']; rfl)
              have hb7 := hb3.trans (hb6.mono hb3.size)
              have za : (0 : Int) ≤ (x.at_ : Int) := by omega
              have za1 : (x.at_ : Int) < (n6 : Int) := by omega
              have za2 : (x.at_ : Int) + 1 < (n6 : Int) := by omega
              have za3 : decide ((n6 : Int) ≤ (x.at_ : Int) + 1) = false := decide_eq_false (by omega)
              have za5 : (0 : Int) ≤ (x.at_ : Int) + 1 := by omega
              have za6 : ((x.at_ : Int) + 1).toNat = x.at_ + 1 := by omega
              have za7 : ¬ (x.at_ : Int) + 1 < 0 := by omega
              have za4 : ((n6 : Int) ≤ (x.at_ : Int) + 1) = False := eq_false (by omega)
              clear hspc hc6 g1' g2' g3' hg1 hg2 hbx p0 p1 p2 p3 p4 p5
              go_wp2_with fail
              go_quiet (fail)
              go_wp2_with fail
              go_roundw
              case rel => exact ⟨j + 1, by omega, by go_num, ⟨below_drewN hold6 _, fun q hq => by simp at hq; subst hq; exact (hM6.get 1 rfl).drewN _⟩, below_drewN hb7 _⟩
              case measure => simp [intOf]; omega
    · obtain rfl : j = n1 := by omega
      clear hM
      go_wp2_with fail
      go_ret
      exact ⟨rfl, hold⟩

end Go.Proofs.Ytbickllpledlbaa

