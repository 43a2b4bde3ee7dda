import Derived.Test.YtmganbdbihjbmaaK32
import Derived.Test.YtmganbdbihjbmaaK40
import Derived.Test.YtmganbdbihjbmaaK41
import Derived.Test.YtmganbdbihjbmaaK38
import Derived.Test.YtmganbdbihjbmaaK23
/-
  CONTRACTS of the program's plan.Sends, sameStep, slices.EqualFunc over steps, and plan.Same.
-/
set_option linter.unusedVariables false
namespace Go.Proofs.Ytmganbdbihjbmaa
open Go.RowKit

set_option maxRecDepth 100000 in
set_option maxHeartbeats 2000000 in
theorem PSends_any (Ak : Option Addr) (nk ck : Nat) (As : Option Addr) (ns cs : Nat) (ks : List Int) (ss : List SI) (w : World) (h : PlR w w.heap.size Ak nk ck As ns cs ks ss) (hs : ∀ j, sendsT (ss.take j) ≤ 4611686018427387904) :
    Calls Try.prog 20 #[.agg (plV Ak nk ck As ns cs)] w fun e w' => e = .returned (.int .i64 (sendsT ss : Nat)) ∧ Below w.heap.size w w' := by
  have hM0 := (Ms.nil w).box 28 (plV Ak nk ck As ns cs)
  have k1 := (hM0.get 0 rfl).cell (i := 1) (v := .slice As ns cs) rfl
  have Hl := Lib.hid h.steps.len
  have hcap := h.steps.cap
  rw [maxLen] at hcap
  go_enter Try.func20, Try.ntmps20
  go_wp2_with fail
  have HM0 := Lib.hid hM0
  clear hM0 k1
  go_loopw [3, 9] (fun v3 v9 wx => ∃ j : Nat, j ≤ ns ∧ v9 = .int .i64 (j : Int) ∧ v3 = .int .i64 ((sendsT (ss.take j) : Nat) : Int) ∧ Ms w wx []) (fun _ v9 _ => ns - (intOf v9).toNat)
  case atStart => exact ⟨0, by omega, rfl, rfl, ⟨HM0.out.old, fun p hp => by cases hp⟩⟩
  case round =>
    clear HM0
    obtain ⟨j, hj, rfl, rfl, hM⟩ := hrel
    have hold := hM.old
    by_cases hjn : j < ns
    · have hx := List.getElem?_eq_getElem (show j < ss.length by rw [Hl.out]; exact hjn)
      obtain ⟨b, o, Au, cu, rfl, hb, hra, h3, h4, -⟩ := (h.steps.below hold).told j _ hx
      have Hs := Lib.hid (sends_take hx)
      have hs0 := hs j
      have hs1 := hs (j + 1)
      rw [Hs.out] at hs1
      generalize ss[j]'_ = x at *
      generalize sendsT (ss.take j) = q at *
      have hP := hM.put 51 zS (siC x (.slice Au x.send.length cu)).toArray
      have zj : (j : Int) < (ns : Int) := by omega
      go_upto_region 5 with (first
        | ((with_reducible show wpList _ _ _ (⟨some 12, _, _, _, _, _⟩ :: _) _ _); refine wpList_load_midG (by kernel_rfl) 51 (.tmp 11) rfl b (o + j * 3) rfl (siC x (.slice Au x.send.length cu)) _ hra Try.underlying51 rfl stInfo2 ?_)
        | ((with_reducible show wpList _ _ _ (⟨none, Op.store 51 _ _, _, _, _, _⟩ :: _) _ _); refine wpList_store_row rfl 51 (.tmp 5) (.tmp 12) rfl wr.heap.size (siC x (.slice Au x.send.length cu)).toArray rfl rfl 51 zS (RowC.new _ _ _) stInfo2 rfl (by simp [siC, Value.oneCell']) ?_))
      try simp only [Act.put]
      obtain ⟨g1, hg1⟩ : ∃ g1, g1 = wr.heap.size := ⟨_, rfl⟩
      rw [← hg1] at hP ⊢
      refine wp_gen (fun wx => Ms w wx [(g1, 51, (siC x (.slice Au x.send.length cu)).toArray)]) hP ?_
      clear hP hra hM hg1 hx hold
      rintro w6 hM
      have hold := hM.old
      have p2 := (hM.get 0 rfl).cell (i := 2) (v := .slice Au x.send.length cu) rfl
      have zq : IntKind.i64.wrap ((q : Int) + (x.send.length : Int)) = (q : Int) + (x.send.length : Int) := by rw [IntKind.wrap_i64]; omega
      clear hM
      go_wp2_with fail
      go_roundw
      case rel => exact ⟨j + 1, by omega, by go_num, by rw [Hs.out]; go_num, ⟨hold, fun p hp => by cases hp⟩⟩
      case measure => simp [intOf]; omega
    · obtain rfl : j = ns := by omega
      have He := Lib.hid (show ss.take j = ss by rw [← Hl.out, List.take_length])
      clear hM
      go_wp2_with fail
      go_ret
      exact ⟨by rw [He.out]; rfl, hold⟩

set_option maxRecDepth 100000 in
set_option maxHeartbeats 4000000 in
theorem PSameSt_any (x y : SI) (Au Bu : Option Addr) (cu du : Nat) (w : World) (hcu : x.send.length ≤ cu) (hmu : cu ≤ maxLen) (hku : Rd w w.heap.size Au x.send.length (x.send.map iv)) (hkv : Rd w w.heap.size Bu y.send.length (y.send.map iv)) :
    Calls Try.prog 37 #[.agg (siC x (.slice Au x.send.length cu)).toArray, .agg (siC y (.slice Bu y.send.length du)).toArray] w fun e w' => e = .returned (.bool (decide (x = y))) ∧ Below w.heap.size w w' := by
  have hM := ((Ms.nil w).box 51 (siC x (.slice Au x.send.length cu)).toArray).box 51 (siC y (.slice Bu y.send.length du)).toArray
  simp only [World.size_alloc] at hM
  have hold := hM.old
  have hsm := Equal_any Au Bu x.send.length cu y.send.length du x.send y.send _ (by omega) ((hku.below hold).more hold.size) ((hkv.below hold).more hold.size)
  have p0 := (hM.get 1 rfl).cell (i := 0) (v := .int .i64 x.node) rfl
  have p1 := (hM.get 1 rfl).cell (i := 1) (v := .int .i64 x.from_) rfl
  have p2 := (hM.get 1 rfl).cell (i := 2) (v := (.slice Au x.send.length cu)) rfl
  have q0 := (hM.get 0 rfl).cell (i := 0) (v := .int .i64 y.node) rfl
  have q1 := (hM.get 0 rfl).cell (i := 1) (v := .int .i64 y.from_) rfl
  have q2 := (hM.get 0 rfl).cell (i := 2) (v := (.slice Bu y.send.length du)) rfl
  have Hpost := Lib.hid (show ∀ r w', r = decide (x = y) → Below w.heap.size w w' → (fun e w' => e = Ending.returned (Value.bool (decide (x = y))) ∧ Below w.heap.size w w') (.returned (.bool r)) w' from fun r w' h1 h2 => ⟨by rw [h1], h2⟩)
  generalize (fun e w' => e = Ending.returned (Value.bool (decide (x = y))) ∧ Below w.heap.size w w') = PO at *
  have Hne := Lib.hid (show ¬ x = y → false = decide (x = y) from fun e => (decide_eq_false e).symm)
  clear hM hku hkv
  go_enter Try.func37, Try.ntmps37
  go_upto_region 1 with fail
  try simp only [Act.put]
  generalize ((w.alloc (.cells (siC x (.slice Au x.send.length cu)).toArray 51)).alloc (.cells (siC y (.slice Bu y.send.length du)).toArray 51)) = w1 at *
  by_cases h_n : x.node = y.node
  rotate_left
  · have Hno := Lib.hid (Hne.out (fun e => h_n (by rw [e])))
    have hbn : (x.node == y.node) = false := by simpa using h_n
    clear hsm
    go_wp2_with fail
    (first | exact Hpost.out _ _ Hno.out hold | exact bodyPost_ret (results_tmp rfl _ _ _) rfl (Hpost.out _ _ Hno.out hold))
  by_cases h_f : x.from_ = y.from_
  rotate_left
  · have Hno := Lib.hid (Hne.out (fun e => h_f (by rw [e])))
    have hbn : (x.from_ == y.from_) = false := by simpa using h_f
    clear hsm
    go_wp2_with fail
    (first | exact Hpost.out _ _ Hno.out hold | exact bodyPost_ret (results_tmp rfl _ _ _) rfl (Hpost.out _ _ Hno.out hold))
  have Hsk := Lib.hid (show (x.send == y.send) = decide (x = y) by
    by_cases e : x.send = y.send
    · rw [decide_eq_true (show x = y by cases x; cases y; simp only at h_n h_f e; subst h_n h_f e; rfl), e]
      simp
    · rw [decide_eq_false (fun h => e (by rw [h]))]
      simpa using e)
  obtain ⟨bk, hbk⟩ : ∃ bk, bk = (x.send == y.send) := ⟨_, rfl⟩
  rw [← hbk] at hsm Hsk
  clear hbk
  go_wp2_with fail
  refine hsm.mono ?_
  rintro e w7 ⟨rfl, hb7⟩
  have hold7 := hold.trans (hb7.mono hold.size)
  clear hsm
  go_wp2_with fail
  (first | exact Hpost.out _ _ Hsk.out hold7 | exact bodyPost_ret (results_tmp rfl _ _ _) rfl (Hpost.out _ _ Hsk.out hold7))

set_option maxRecDepth 100000 in
set_option maxHeartbeats 4000000 in
theorem PEqualFS_any (A B : Option Addr) (n c m d : Nat) (a b : List SI) (w : World) (hA : StR w w.heap.size A n c a) (hB : StR w w.heap.size B m d b) :
    Calls Try.prog 36 #[.slice A n c, .slice B m d, .func (.func 37) #[] #[]] w fun e w' => e = .returned (.bool (decide (a = b))) ∧ Below w.heap.size w w' := by
  have Hpost := Lib.hid (show ∀ r w', r = decide (a = b) → Below w.heap.size w w' → (fun e w' => e = Ending.returned (Value.bool (decide (a = b))) ∧ Below w.heap.size w w') (.returned (.bool r)) w' from fun r w' h1 h2 => ⟨by rw [h1], h2⟩)
  generalize (fun e w' => e = Ending.returned (Value.bool (decide (a = b))) ∧ Below w.heap.size w w') = PO at *
  have Hn := Lib.hid hA.len
  have Hm := Lib.hid hB.len
  have hn63 := hA.cap
  have hm63 := hB.cap
  unfold maxLen at hn63 hm63
  have hb0 := Below.refl w.heap.size w
  by_cases hnm : n = m
  · subst hnm
    go_enter Try.func36, Try.ntmps36
    go_wp2_with fail
    go_loopw [17] (fun v17 wr => ∃ j : Nat, j ≤ n ∧ v17 = .int .i64 (j : Int) ∧ a.take j = b.take j ∧ Ms w wr []) (fun v17 _ => n - (intOf v17).toNat)
    case atStart => exact ⟨0, by omega, rfl, rfl, Ms.nil _⟩
    case round =>
      obtain ⟨j, hj, rfl, htk, hM⟩ := hrel
      by_cases hjn : j < n
      · have hja : j < a.length := by rw [Hn.out]; exact hjn
        have hjb : j < b.length := by rw [Hm.out]; exact hjn
        have Htk := Lib.hid (show a[j] = b[j] → a.take (j + 1) = b.take (j + 1) from fun e => by rw [List.take_succ_eq_append_getElem hja, List.take_succ_eq_append_getElem hjb, htk, e])
        have Hne := Lib.hid (show ¬ a[j] = b[j] → false = decide (a = b) from fun e => by
          symm
          rw [decide_eq_false_iff_not]
          intro h
          subst h
          exact e rfl)
        have hx := List.getElem?_eq_getElem hja
        have hy := List.getElem?_eq_getElem hjb
        generalize a[j] = x at *
        generalize b[j] = y at *
        obtain ⟨ba, oa, Au, cu, rfl, hba, hra, hcu, hmu, hku⟩ := (hA.below hM.old).told _ _ hx
        obtain ⟨bb, ob, Bu, du, rfl, hbb, hrb, hdu, hmv, hkv⟩ := (hB.below hM.old).told _ _ hy
        have hP := hM.put 51 zS (siC x (.slice Au x.send.length cu)).toArray
        have hrb1 := rk (w' := ((wr.alloc (.cells zS 51)).setRow wr.heap.size (siC x (.slice Au x.send.length cu)).toArray)) (below_setRow ((Below.refl wr.heap.size wr).alloc (Nat.le_refl _) (.cells zS 51)) (Nat.le_refl _) (siC x (.slice Au x.send.length cu)).toArray) hrb (by have := hM.old.size; omega)
        have hb5 : Below w.heap.size wr ((wr.alloc (.cells zS 51)).setRow wr.heap.size (siC x (.slice Au x.send.length cu)).toArray) := (below_setRow ((Below.refl wr.heap.size wr).alloc (Nat.le_refl _) (.cells zS 51)) (Nat.le_refl _) (siC x (.slice Au x.send.length cu)).toArray).mono hM.old.size
        have hku5 := hku.below hb5
        have hkv5 := hkv.below hb5
        have zj : (j : Int) < (n : Int) := by omega
        go_upto_region 6 with (first
          | ((with_reducible show wpList _ _ _ (⟨some 21, _, _, _, _, _⟩ :: _) _ _); refine wpList_load_midG (by kernel_rfl) 51 (.tmp 20) rfl ba (oa + j * 3) rfl (siC x (.slice Au x.send.length cu)) _ hra Try.underlying51 rfl stInfo2 ?_)
          | ((with_reducible show wpList _ _ _ (⟨none, Op.store 51 _ _, _, _, _, _⟩ :: _) _ _); refine wpList_store_row rfl 51 (.tmp 8) (.tmp 21) rfl wr.heap.size (siC x (.slice Au x.send.length cu)).toArray rfl rfl 51 zS (RowC.new _ _ _) stInfo2 rfl (by simp [siC, Value.oneCell']) ?_))
        try simp only [Act.put]
        obtain ⟨g1, hg1⟩ : ∃ g1, g1 = wr.heap.size := ⟨_, rfl⟩
        rw [← hg1] at hP hrb1 hku5 hkv5 ⊢
        refine wp_gen (fun wx => Ms w wx [(g1, 51, (siC x (.slice Au x.send.length cu)).toArray)] ∧ wx.rangeAt bb (ob + j * 3) (siC y (.slice Bu y.send.length du)) ∧ Rd wx w.heap.size Au x.send.length (x.send.map iv) ∧ Rd wx w.heap.size Bu y.send.length (y.send.map iv)) ⟨hP, hrb1, hku5, hkv5⟩ ?_
        clear hP hrb1 hrb hra hx hy hM hg1 hku hkv hku5 hkv5 hb5
        rintro w5 ⟨hM, hrb, hku, hkv⟩
        have hb5 : Below w.heap.size w5 ((w5.alloc (.cells zS 51)).setRow w5.heap.size (siC y (.slice Bu y.send.length du)).toArray) := (below_setRow ((Below.refl w5.heap.size w5).alloc (Nat.le_refl _) (.cells zS 51)) (Nat.le_refl _) (siC y (.slice Bu y.send.length du)).toArray).mono hM.old.size
        have hku5 := hku.below hb5
        have hkv5 := hkv.below hb5
        have hP := hM.put 51 zS (siC y (.slice Bu y.send.length du)).toArray
        go_upto_region 7 with (first
          | ((with_reducible show wpList _ _ _ (⟨some 25, _, _, _, _, _⟩ :: _) _ _); refine wpList_load_midG (by kernel_rfl) 51 (.tmp 24) rfl bb (ob + j * 3) rfl (siC y (.slice Bu y.send.length du)) _ hrb Try.underlying51 rfl stInfo2 ?_)
          | ((with_reducible show wpList _ _ _ (⟨none, Op.store 51 _ _, _, _, _, _⟩ :: _) _ _); refine wpList_store_row rfl 51 (.tmp 9) (.tmp 25) rfl w5.heap.size (siC y (.slice Bu y.send.length du)).toArray rfl rfl 51 zS (RowC.new _ _ _) stInfo2 rfl (by simp [siC, Value.oneCell']) ?_))
        try simp only [Act.put]
        obtain ⟨g2, hg2⟩ : ∃ g2, g2 = w5.heap.size := ⟨_, rfl⟩
        rw [← hg2] at hP hku5 hkv5 ⊢
        refine wp_gen (fun wx => Ms w wx [(g2, 51, (siC y (.slice Bu y.send.length du)).toArray), (g1, 51, (siC x (.slice Au x.send.length cu)).toArray)] ∧ Rd wx w.heap.size Au x.send.length (x.send.map iv) ∧ Rd wx w.heap.size Bu y.send.length (y.send.map iv)) ⟨hP, hku5, hkv5⟩ ?_
        clear hP hM hrb hg2 hku hkv hku5 hkv5 hb5
        rintro w6 ⟨hM, hku, hkv⟩
        have hold := hM.old
        have hsn := PSameSt_any x y Au Bu cu du w6 hcu hmu (hku.more hold.size) (hkv.more hold.size)
        have hx1 := hM.get 1 rfl
        have hx2 := hM.get 0 rfl
        obtain ⟨sb, hsb⟩ : ∃ sb, sb = decide (x = y) := ⟨_, rfl⟩
        rw [← hsb] at hsn
        have Hsb := Lib.hid hsb
        clear hsb hku hkv hM
        go_wp2_with (first
          | ((with_reducible show wpList _ _ _ (⟨some 27, _, _, _, _, _⟩ :: _) _ _); refine wpList_loadC (by kernel_rfl) 51 (.tmp 8) rfl g1 rfl 51 (siC x (.slice Au x.send.length cu)).toArray _ hx1 Try.underlying51 rfl stInfo2 ?_)
          | ((with_reducible show wpList _ _ _ (⟨some 28, _, _, _, _, _⟩ :: _) _ _); refine wpList_loadC (by kernel_rfl) 51 (.tmp 9) rfl g2 rfl 51 (siC y (.slice Bu y.send.length du)).toArray _ hx2 Try.underlying51 rfl stInfo2 ?_))
        refine hsn.mono ?_
        rintro e w7 ⟨rfl, hb7⟩
        have hold7 := hold.trans (hb7.mono hold.size)
        clear hsn hx1 hx2
        cases sb with
        | false =>
          have Hno := Lib.hid (Hne.out (fun e => by have := Hsb.out; rw [decide_eq_true e] at this; cases this))
          go_wp2_with fail
          (first | exact Hpost.out _ _ Hno.out hold7 | exact bodyPost_ret (results_tmp rfl _ _ _) rfl (Hpost.out _ _ Hno.out hold7))
        | true =>
          have hj1 := Htk.out (of_decide_eq_true Hsb.out.symm)
          go_wp2_with fail
          go_roundw
          case rel => exact ⟨j + 1, by omega, by go_num, hj1, ⟨hold7, fun q hq => by simp at hq⟩⟩
          case measure => simp [intOf]; omega
      · obtain rfl : n = j := by omega
        have hab : a = b := by
          rw [← Hn.out, List.take_length, Hn.out, ← Hm.out, List.take_length] at htk
          exact htk
        have Hy := Lib.hid (show true = decide (a = b) from (decide_eq_true hab).symm)
        have hold := hM.old
        clear hM hA hB htk hab
        go_wp2_with fail
        (first | exact Hpost.out _ _ Hy.out hold | exact bodyPost_ret (results_tmp rfl _ _ _) rfl (Hpost.out _ _ Hy.out hold))
  · have Hno := Lib.hid (show false = decide (a = b) by
      symm
      rw [decide_eq_false_iff_not]
      intro h
      subst h
      exact hnm (by rw [← Hn.out, ← Hm.out]))
    have hnmi : ¬ (n : Int) = (m : Int) := by omega
    clear hA hB
    go_enter Try.func36, Try.ntmps36
    go_wp2_with fail
    (first | exact Hpost.out _ _ Hno.out hb0 | exact bodyPost_ret (results_tmp rfl _ _ _) rfl (Hpost.out _ _ Hno.out hb0))


set_option maxRecDepth 100000 in
set_option maxHeartbeats 4000000 in
theorem PSame_any12 (Ak : Option Addr) (nk ck : Nat) (As : Option Addr) (ns cs : Nat) (ks : List Int) (ss : List SI) (Ak' : Option Addr) (nk' ck' : Nat) (As' : Option Addr) (ns' cs' : Nat) (ks' : List Int) (ss' : List SI) (w : World)
    (h : PlR w w.heap.size Ak nk ck As ns cs ks ss) (h' : PlR w w.heap.size Ak' nk' ck' As' ns' cs' ks' ss') :
    Calls Try.prog 15 #[.agg (plV Ak nk ck As ns cs), .agg (plV Ak' nk' ck' As' ns' cs')] w fun e w' => e = .returned (.bool (samePl ks ks' ss ss')) ∧ Below w.heap.size w w' := by
  have hM := ((Ms.nil w).box 28 (plV Ak nk ck As ns cs)).box 28 (plV Ak' nk' ck' As' ns' cs')
  simp only [World.size_alloc] at hM
  have hold := hM.old
  have hk1 := h.kcap
  have heq := Equal_any Ak Ak' nk ck nk' ck' ks ks' _ (by omega) ((h.keep.below hold).more hold.size) ((h'.keep.below hold).more hold.size)
  have hS := (h.steps.below hold).more hold.size
  have hS' := (h'.steps.below hold).more hold.size
  have p0 := (hM.get 1 rfl).cell (i := 0) (v := .slice Ak nk ck) rfl
  have p1 := (hM.get 1 rfl).cell (i := 1) (v := .slice As ns cs) rfl
  have q0 := (hM.get 0 rfl).cell (i := 0) (v := .slice Ak' nk' ck') rfl
  have q1 := (hM.get 0 rfl).cell (i := 1) (v := .slice As' ns' cs') rfl
  have hrA := hM.get 1 rfl
  have hrB := hM.get 0 rfl
  have Hpost := Lib.hid (show ∀ r w', r = samePl ks ks' ss ss' → Below w.heap.size w w' → (fun e w' => e = Ending.returned (Value.bool (samePl ks ks' ss ss')) ∧ Below w.heap.size w w') (.returned (.bool r)) w' from fun r w' h1 h2 => ⟨by rw [h1], h2⟩)
  have Hsp := Lib.hid (show samePl ks ks' ss ss' = ((ks == ks') && decide (ss = ss')) by
    rw [samePl]
    congr 1
    by_cases e : ss = ss'
    · rw [decide_eq_true e, e]; simp
    · rw [decide_eq_false e]; simpa using e)
  generalize (fun e w' => e = Ending.returned (Value.bool (samePl ks ks' ss ss')) ∧ Below w.heap.size w w') = PO at *
  obtain ⟨bk, hbk⟩ : ∃ bk, bk = (ks == ks') := ⟨_, rfl⟩
  rw [← hbk] at heq Hsp
  clear hbk h h'
  go_enter Try.func15, Try.ntmps15
  go_upto_region 1 with fail
  try simp only [Act.put]
  generalize ((w.alloc (.cells (plV Ak nk ck As ns cs) 28)).alloc (.cells (plV Ak' nk' ck' As' ns' cs') 28)) = w1 at *
  clear hM
  go_wp2_with fail
  refine heq.mono ?_
  rintro e w2 ⟨he, hb2⟩
  subst he
  have hold2 := hold.trans (hb2.mono hold.size)
  have p1 := (hrA.call hb2).cell (i := 1) (v := .slice As ns cs) rfl
  have q1 := (hrB.call hb2).cell (i := 1) (v := .slice As' ns' cs') rfl
  have hfs := PEqualFS_any As As' ns cs ns' cs' ss ss' w2 ((hS.below hb2).more hb2.size) ((hS'.below hb2).more hb2.size)
  obtain ⟨bs, hbs⟩ : ∃ bs, bs = decide (ss = ss') := ⟨_, rfl⟩
  rw [← hbs] at hfs Hsp
  clear heq hS hS' hrA hrB hbs
  cases bk with
  | false =>
    have Hr := Lib.hid (show false = samePl ks ks' ss ss' by rw [Hsp.out]; rfl)
    clear hfs
    go_wp2_with fail
    (first | exact Hpost.out _ _ Hr.out hold2 | exact bodyPost_ret (results_tmp rfl _ _ _) rfl (Hpost.out _ _ Hr.out hold2))
  | true =>
    have Hr := Lib.hid (show bs = samePl ks ks' ss ss' by rw [Hsp.out]; simp)
    go_wp2_with fail
    refine hfs.mono ?_
    rintro e w3 ⟨he, hb3⟩
    subst he
    have hold3 := hold2.trans (hb3.mono hold2.size)
    clear hfs
    go_wp2_with fail
    (first | exact Hpost.out _ _ Hr.out hold3 | exact bodyPost_ret (results_tmp rfl _ _ _) rfl (Hpost.out _ _ Hr.out hold3))

end Go.Proofs.Ytmganbdbihjbmaa

/-
  CONTRACT of the program's Build (tree). Printed by gen_treepj.py.
-/
set_option linter.unusedVariables false
namespace Go.Proofs.Ytmganbdbihjbmaa
open Go.RowKit

theorem bld_cons (id : Int) (r ids : List Int) (lv : List (List Nat)) : bldS (id :: r) ids lv = if insE ids (levI lv) id = 0 then bldS r (insS ids lv id).1 (insS ids lv id).2 else (insE ids (levI lv) id, [], []) := rfl
theorem OwW.nil (base : Nat) (w : World) : OwW base w (.slice none 0 0) (.slice none 0 0) [] [] [] (levI []) := ⟨World.ownsRow_nil _ _ _ _, World.ownsRow_nil _ _ _ _, rfl, fun k u l h => by simp at h, fun k u g h => by simp at h, fun j k u v g h => by simp at h⟩

set_option maxRecDepth 100000 in
set_option maxHeartbeats 4000000 in
theorem PBuild_any (A : Option Addr) (n c : Nat) (xs : List Int) (w : World) (hn : n ≤ 1000000) (hx : Rd w w.heap.size A n (xs.map iv)) :
    Calls Try.prog 24 #[.slice A n c] w (BuildPost w xs) := by
  have Hxl := Lib.hid (show xs.length = n by simpa using hx.len)
  have HE := Lib.hid (show ∀ er w', (bldS xs [] []) = (er, [], []) → Below w.heap.size w w' → BuildPost w xs (.returned (.tuple #[.agg #[.slice none 0 0, .slice none 0 0], .int .i64 er])) w' from fun er w' h1 hb => ⟨hb, none, 0, 0, none, 0, 0, by rw [h1]; rfl, by rw [h1]; exact ShN.nil _ _ _⟩)
  have HO := Lib.hid (show ∀ base w' Ai ni ci Al nl cl vs ids lv, bldS xs [] [] = (0, ids, lv) → w.heap.size ≤ base → Below w.heap.size w w' → OwW base w' (.slice Ai ni ci) (.slice Al nl cl) vs vs ids (levI lv) →
    BuildPost w xs (.returned (.tuple #[.agg (shV Ai ni ci Al nl cl), .int .i64 0])) w' from fun base w' _ _ _ _ _ _ vs ids lv h0 hb h1 h2 => ⟨h1, _, _, _, _, _, _, by rw [h0], by rw [h0]; exact (h2.shN hb).1⟩)
  generalize BuildPost w xs = PO at *
  have hM0 := ((Ms.nil w).box 25 #[.slice none 0 0, .slice none 0 0]).put 25 #[.slice none 0 0, .slice none 0 0] #[.slice none 0 0, .slice none 0 0]
  simp only [World.size_alloc] at hM0
  go_enter Try.func24, Try.ntmps24
  go_upto_region 2 with ((with_reducible show wpList _ _ _ (⟨none, Op.store 25 _ _, _, _, _, _⟩ :: _) _ _); refine wpList_store_row rfl 25 (.tmp 4) (.tmp 8) rfl (w.heap.size + 1) #[.slice none 0 0, .slice none 0 0] rfl rfl 25 _ (RowC.mk_ _ _ _ (by simp)) shapeInfo2 rfl (by simp [Value.oneCell']) ?_)
  try simp only [Act.put]
  refine wp_gen (fun wx => Ms w wx [(w.heap.size + 1, 25, #[.slice none 0 0, .slice none 0 0]), (w.heap.size, 25, #[.slice none 0 0, .slice none 0 0])]) hM0 ?_
  clear hM0
  rintro w1 hM1
  go_wp2_with fail
  go_loopw [11] (fun i wr => ∃ (j : Nat) (Ai : Option Addr) (ni ci : Nat) (Al : Option Addr) (nl cl : Nat) (vs : List Value) (ids : List Int) (lv : List (List Nat)), j ≤ n ∧ i = .int .i64 (j : Int) ∧ chkT ids (levI lv) = true ∧ bldS xs [] [] = bldS (xs.drop j) ids lv ∧
    OwW (w.heap.size + 1 + 1) wr (.slice Ai ni ci) (.slice Al nl cl) vs vs ids (levI lv) ∧ Ms w wr [(w.heap.size + 1, 25, shV Ai ni ci Al nl cl), (w.heap.size, 25, #[.slice none 0 0, .slice none 0 0])]) (fun i _ => n - (intOf i).toNat)
  case atStart => exact ⟨0, none, 0, 0, none, 0, 0, [], [], [], by omega, rfl, by decide, rfl, OwW.nil _ _, hM1⟩
  case round =>
    clear hM1
    obtain ⟨j, Ai, ni, ci, Al, nl, cl, vs, ids, lv, hj, rfl, hc, hbl, h, hM⟩ := hrel
    have Hbl := Lib.hid hbl
    have hb := hM.old
    have hlt1 := (hM.get 0 rfl).lt
    clear hbl
    by_cases hlt : j < n
    · have hjx : j < xs.length := by rw [Hxl.out]; exact hlt
      obtain ⟨x, hxj⟩ : ∃ x, xs[j]? = some x := ⟨_, List.getElem?_eq_getElem hjx⟩
      obtain ⟨g, o, rfl, hgl, hcell⟩ := (hx.below hb).pos (by omega)
      have c1 := hcell j (iv x) (by rw [List.getElem?_map, hxj]; rfl)
      rw [iv_def] at c1
      have Hst := Lib.hid (show bldS xs [] [] = if insE ids (levI lv) x = 0 then bldS (xs.drop (j + 1)) (insS ids lv x).1 (insS ids lv x).2 else (insE ids (levI lv) x, [], []) by
        rw [Hbl.out, List.drop_eq_getElem_cons hjx, (List.getElem?_eq_some_iff.1 hxj).2, bld_cons])
      obtain ⟨q1, q2, q3, q4⟩ := chkT_lv hc
      rw [lvN_levI] at q3
      have hrise := okI_rise ids q2
      have hh := lv_high hc
      rw [lvN_levI] at hh
      obtain ⟨_, _, e1, hci, hmi⟩ := own_formT h.i
      injection e1 with e0 e2 e3
      subst e3 e0
      have Hni := Lib.hid e2
      rw [← e2] at hci
      have hio := h.i
      rw [← e2] at hio
      clear e2
      have hrf := PRefused_any Ai ni ci ids x wr hci hmi (by have := Hni.out; omega) hrise (Rd.of_own hio)
      have Her := Lib.hid (insE_ref (id := x) hc)
      have Hik := Lib.hid (fun h0 => ins_chk (ids := ids) (ll := levI lv) (id := x) h0)
      have k0 := (hM.get 0 rfl).cell (i := 0) (v := .slice Ai ni ci) rfl
      clear hcell hxj hjx hc q2 q4 hio
      go_wp2_with fail
      refine hrf.mono ?_
      rintro e wr ⟨rfl, rfl⟩
      by_cases hr : refT ids x = 0
      rotate_left
      · have hne : (refT ids x != 0) = true := by rw [bne_iff_ne]; exact hr
        have Hfin := Lib.hid (show bldS xs [] [] = (refT ids x, [], []) by rw [Hst.out, if_neg (by rw [Her.out]; exact hr), Her.out])
        obtain ⟨er, her⟩ : ∃ er, er = refT ids x := ⟨_, rfl⟩
        rw [← her] at hne Hfin ⊢
        clear hr her k0
        go_wp2_with ((with_reducible show wpList _ _ _ (⟨none, Op.store 25 _ _, _, _, _, _⟩ :: _) _ _); refine wpList_store_row rfl 25 (.tmp 2) (.tmp 21) rfl (w.heap.size) #[.slice none 0 0, .slice none 0 0] rfl rfl 25 _ (hM.get 1 rfl) shapeInfo2 rfl (by simp [Value.oneCell']) ?_)
        refine bodyPost_ret (results_cell_two rfl _ _ (w.heap.size) 25 #[.slice none 0 0, .slice none 0 0] _ rfl ((hM.get 1 rfl).row _) Try.underlying25 rfl shapeInfo2) rfl ?_
        exact HE.out _ _ Hfin.out (below_setRow hM.old (Nat.le_refl _) _)
      have Hfin := Lib.hid (show bldS xs [] [] = bldS (xs.drop (j + 1)) (insS ids lv x).1 (insS ids lv x).2 by rw [Hst.out, if_pos (by rw [Her.out]; exact hr)])
      have Hck := Lib.hid (show chkT (insS ids lv x).1 (levI (insS ids lv x).2) = true by
        have := (Hik.out (by rw [Her.out]; exact hr)).2.2
        rwa [lvN_levI] at this)
      rw [hr]
      clear hr k0 hrf
      have hput := PPut_any (w.heap.size + 1 + 1) Ai ni ci Al nl cl vs ids lv x wr (by omega) q1 (by omega) hrise q3 h
      obtain ⟨S, hS⟩ : ∃ S, S = insS ids lv x := ⟨_, rfl⟩
      rw [← hS] at hput Hfin Hck
      go_wp2_with ((with_reducible show wpList _ _ _ (⟨some 23, _, _, _, _, _⟩ :: _) _ _); refine wpList_loadC (by kernel_rfl) 25 (.tmp 4) rfl (w.heap.size + 1) rfl 25 (shV Ai ni ci Al nl cl) _ (hM.get 0 rfl) Try.underlying25 rfl shapeInfo2 ?_)
      refine hput.mono ?_
      rintro e w3 ⟨hb3, A3, n3, c3, B3, m3, d3, vs3, rfl, h3⟩
      have hR1 := (hM.get 0 rfl).below hb3 (by omega)
      have hR2 := (hM.get 1 rfl).below hb3 (by omega)
      have hB3 : Below w.heap.size w w3 := hM.old.trans (hb3.mono (by omega))
      have hM3 : Ms w w3 [(w.heap.size + 1, 25, shV Ai ni ci Al nl cl), (w.heap.size, 25, #[.slice none 0 0, .slice none 0 0])] := ⟨hB3, fun p hp => by
        simp only [List.mem_cons, List.not_mem_nil, or_false] at hp
        rcases hp with rfl | rfl
        · exact hR1
        · exact hR2⟩
      have hM4 := hM3.setT (by omega) (fun p hp => by simp at hp; subst hp; simp) (shV A3 n3 c3 B3 m3 d3)
      have h4 := h3.far (grown_setRow w3 (w.heap.size + 1) (shV A3 n3 c3 B3 m3 d3)) hR1 sh_ne.1 sh_ne.2
      clear hput hS hR2 hB3 hM h h3 hb3
      go_wp2_with ((with_reducible show wpList _ _ _ (⟨none, Op.store 25 _ _, _, _, _, _⟩ :: _) _ _); refine wpList_store_row rfl 25 (.tmp 4) (.tmp 25) rfl (w.heap.size + 1) (shV A3 n3 c3 B3 m3 d3) rfl rfl 25 _ (hR1) shapeInfo2 rfl (by simp [shV, Value.oneCell']) ?_)
      try simp only [Act.put]
      go_roundw
      case rel => exact ⟨j + 1, A3, n3, c3, B3, m3, d3, vs3, S.1, S.2, by omega, by go_num, Hck.out, Hfin.out, h4, hM4⟩
      case measure => simp [intOf]; omega
    · obtain rfl : j = n := by omega
      have Hfin := Lib.hid (show bldS xs [] [] = (0, ids, lv) by rw [Hbl.out, List.drop_of_length_le (by rw [Hxl.out]; exact Nat.le_refl _)]; rfl)
      have h4 := h.far (grown_setRow wr w.heap.size (shV Ai ni ci Al nl cl)) (hM.get 1 rfl) sh_ne.1 sh_ne.2
      go_wp2_with (first
        | ((with_reducible show wpList _ _ _ (⟨some 27, _, _, _, _, _⟩ :: _) _ _); refine wpList_loadC (by kernel_rfl) 25 (.tmp 4) rfl (w.heap.size + 1) rfl 25 (shV Ai ni ci Al nl cl) _ (hM.get 0 rfl) Try.underlying25 rfl shapeInfo2 ?_)
        | ((with_reducible show wpList _ _ _ (⟨none, Op.store 25 _ _, _, _, _, _⟩ :: _) _ _); refine wpList_store_row rfl 25 (.tmp 2) (.tmp 27) rfl (w.heap.size) (shV Ai ni ci Al nl cl) rfl rfl 25 _ (hM.get 1 rfl) shapeInfo2 rfl (by simp [shV, Value.oneCell']) ?_))
      refine bodyPost_ret (results_cell_two rfl _ _ (w.heap.size) 25 (shV Ai ni ci Al nl cl) _ rfl ((hM.get 1 rfl).row _) Try.underlying25 rfl shapeInfo2) rfl ?_
      exact HO.out _ _ _ _ _ _ _ _ _ _ _ Hfin.out (by omega) (below_setRow hM.old (Nat.le_refl _) _) h4

end Go.Proofs.Ytmganbdbihjbmaa

