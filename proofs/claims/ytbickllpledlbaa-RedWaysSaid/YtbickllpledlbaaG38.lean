import Derived.Test.YtbickllpledlbaaG36
import Derived.Test.YtbickllpledlbaaG37
/-
  CONTRACTS of the program's red.sameNode, slices.EqualFunc over nodes, and red.Same.
-/
set_option linter.unusedVariables false
namespace Go.Proofs.Ytbickllpledlbaa
open Go.RowKit

set_option maxRecDepth 100000 in
set_option maxHeartbeats 4000000 in
theorem PSameN_any (x y : RI) (Au Bu : Option Addr) (cu du : Nat) (w : World) (hcu : x.kids.length ≤ cu) (hmu : cu ≤ maxLen) (hku : Rd w w.heap.size Au x.kids.length (x.kids.map iv)) (hkv : Rd w w.heap.size Bu y.kids.length (y.kids.map iv)) :
    Calls Try.prog 33 #[.agg (riC x (.slice Au x.kids.length cu)).toArray, .agg (riC y (.slice Bu y.kids.length du)).toArray] w fun e w' => e = .returned (.bool (sameN x y)) ∧ Below w.heap.size w w' := by
  have hM := ((Ms.nil w).box 42 (riC x (.slice Au x.kids.length cu)).toArray).box 42 (riC y (.slice Bu y.kids.length du)).toArray
  simp only [World.size_alloc] at hM
  have hold := hM.old
  have hsm := Equal_any Au Bu x.kids.length cu y.kids.length du x.kids y.kids _ (by omega) ((hku.below hold).more hold.size) ((hkv.below hold).more hold.size)
  have p0 := (hM.get 1 rfl).cell (i := 0) (v := .int .i64 x.lev) rfl
  have p1 := (hM.get 1 rfl).cell (i := 1) (v := .int .i64 x.at_) rfl
  have p2 := (hM.get 1 rfl).cell (i := 2) (v := .bool x.red) rfl
  have p3 := (hM.get 1 rfl).cell (i := 3) (v := .int .i64 x.fr) rfl
  have p4 := (hM.get 1 rfl).cell (i := 4) (v := .int .i64 x.to_) rfl
  have p5 := (hM.get 1 rfl).cell (i := 5) (v := (.slice Au x.kids.length cu)) rfl
  have p6 := (hM.get 1 rfl).cell (i := 6) (v := .int .i64 x.up) rfl
  have q0 := (hM.get 0 rfl).cell (i := 0) (v := .int .i64 y.lev) rfl
  have q1 := (hM.get 0 rfl).cell (i := 1) (v := .int .i64 y.at_) rfl
  have q2 := (hM.get 0 rfl).cell (i := 2) (v := .bool y.red) rfl
  have q3 := (hM.get 0 rfl).cell (i := 3) (v := .int .i64 y.fr) rfl
  have q4 := (hM.get 0 rfl).cell (i := 4) (v := .int .i64 y.to_) rfl
  have q5 := (hM.get 0 rfl).cell (i := 5) (v := (.slice Bu y.kids.length du)) rfl
  have q6 := (hM.get 0 rfl).cell (i := 6) (v := .int .i64 y.up) rfl
  have Hpost := Lib.hid (show ∀ r w', r = sameN x y → Below w.heap.size w w' → (fun e w' => e = Ending.returned (Value.bool (sameN x y)) ∧ Below w.heap.size w w') (.returned (.bool r)) w' from fun r w' h1 h2 => ⟨by rw [h1], h2⟩)
  generalize (fun e w' => e = Ending.returned (Value.bool (sameN x y)) ∧ Below w.heap.size w w') = PO at *
  have Hne := Lib.hid (show ¬ x = y → false = sameN x y from fun e => by
    symm
    rw [Bool.eq_false_iff]
    exact fun h => e (sameN_iff.1 h))
  clear hM hku hkv
  go_enter Try.func33, Try.ntmps33
  go_upto_region 1 with fail
  try simp only [Act.put]
  have hsz : ((w.alloc (.cells (riC x (.slice Au x.kids.length cu)).toArray 42)).alloc (.cells (riC y (.slice Bu y.kids.length du)).toArray 42)).heap.size = w.heap.size + 1 + 1 := by simp
  generalize ((w.alloc (.cells (riC x (.slice Au x.kids.length cu)).toArray 42)).alloc (.cells (riC y (.slice Bu y.kids.length du)).toArray 42)) = w1 at *
  by_cases h_lev : x.lev = y.lev
  rotate_left
  · have Hno := Lib.hid (Hne.out (fun e => h_lev (by rw [e])))
    clear hsm
    go_wp2_with fail
    (first | exact Hpost.out _ _ Hno.out hold | exact bodyPost_ret (results_tmp rfl _ _ _) rfl (Hpost.out _ _ Hno.out hold))
  by_cases h_at_ : x.at_ = y.at_
  rotate_left
  · have Hno := Lib.hid (Hne.out (fun e => h_at_ (by rw [e])))
    have hbn : (x.at_ == y.at_) = false := by simpa using h_at_
    clear hsm
    go_wp2_with fail
    (first | exact Hpost.out _ _ Hno.out hold | exact bodyPost_ret (results_tmp rfl _ _ _) rfl (Hpost.out _ _ Hno.out hold))
  by_cases h_red : x.red = y.red
  rotate_left
  · have Hno := Lib.hid (Hne.out (fun e => h_red (by rw [e])))
    have hbn : (x.red == y.red) = false := by simpa using h_red
    clear hsm
    go_wp2_with fail
    (first | exact Hpost.out _ _ Hno.out hold | exact bodyPost_ret (results_tmp rfl _ _ _) rfl (Hpost.out _ _ Hno.out hold))
  by_cases h_fr : x.fr = y.fr
  rotate_left
  · have Hno := Lib.hid (Hne.out (fun e => h_fr (by rw [e])))
    have hbn : (x.fr == y.fr) = false := by simpa using h_fr
    clear hsm
    go_wp2_with fail
    (first | exact Hpost.out _ _ Hno.out hold | exact bodyPost_ret (results_tmp rfl _ _ _) rfl (Hpost.out _ _ Hno.out hold))
  by_cases h_to_ : x.to_ = y.to_
  rotate_left
  · have Hno := Lib.hid (Hne.out (fun e => h_to_ (by rw [e])))
    have hbn : (x.to_ == y.to_) = false := by simpa using h_to_
    clear hsm
    go_wp2_with fail
    (first | exact Hpost.out _ _ Hno.out hold | exact bodyPost_ret (results_tmp rfl _ _ _) rfl (Hpost.out _ _ Hno.out hold))
  by_cases h_up : x.up = y.up
  rotate_left
  · have Hno := Lib.hid (Hne.out (fun e => h_up (by rw [e])))
    have hbn : (x.up == y.up) = false := by simpa using h_up
    clear hsm
    go_wp2_with fail
    (first | exact Hpost.out _ _ Hno.out hold | exact bodyPost_ret (results_tmp rfl _ _ _) rfl (Hpost.out _ _ Hno.out hold))
  have Hsk := Lib.hid (show (x.kids == y.kids) = sameN x y by rw [sameN, h_lev, h_at_, h_red, h_fr, h_to_, h_up]; simp)
  obtain ⟨bk, hbk⟩ : ∃ bk, bk = (x.kids == y.kids) := ⟨_, rfl⟩
  rw [← hbk] at hsm Hsk
  clear hbk
  go_wp2_with fail
  refine hsm.mono ?_
  rintro e w7 ⟨rfl, hb7⟩
  have hold7 := hold.trans (hb7.mono hold.size)
  clear hsm
  go_wp2_with fail
  (first | exact Hpost.out _ _ Hsk.out hold7 | exact bodyPost_ret (results_tmp rfl _ _ _) rfl (Hpost.out _ _ Hsk.out hold7))

set_option maxRecDepth 100000 in
set_option maxHeartbeats 4000000 in
theorem PEqualFN_any (A B : Option Addr) (n c m d : Nat) (a b : List RI) (w : World) (hA : NdR w w.heap.size A n c a) (hB : NdR w w.heap.size B m d b) :
    Calls Try.prog 32 #[.slice A n c, .slice B m d, .func (.func 33) #[] #[]] w fun e w' => e = .returned (.bool (sameU a b)) ∧ Below w.heap.size w w' := by
  have Hpost := Lib.hid (show ∀ r w', r = sameU a b → Below w.heap.size w w' → (fun e w' => e = Ending.returned (Value.bool (sameU a b)) ∧ Below w.heap.size w w') (.returned (.bool r)) w' from fun r w' h1 h2 => ⟨by rw [h1], h2⟩)
  generalize (fun e w' => e = Ending.returned (Value.bool (sameU a b)) ∧ Below w.heap.size w w') = PO at *
  have Hn := Lib.hid hA.len
  have Hm := Lib.hid hB.len
  have hn63 := hA.cap
  have hm63 := hB.cap
  unfold maxLen at hn63 hm63
  have hb0 := Below.refl w.heap.size w
  by_cases hnm : n = m
  · subst hnm
    go_enter Try.func32, Try.ntmps32
    go_wp2_with fail
    go_loopw [17] (fun v17 wr => ∃ j : Nat, j ≤ n ∧ v17 = .int .i64 (j : Int) ∧ a.take j = b.take j ∧ Ms w wr []) (fun v17 _ => n - (intOf v17).toNat)
    case atStart => exact ⟨0, by omega, rfl, rfl, Ms.nil _⟩
    case round =>
      obtain ⟨j, hj, rfl, htk, hM⟩ := hrel
      by_cases hjn : j < n
      · have hja : j < a.length := by rw [Hn.out]; exact hjn
        have hjb : j < b.length := by rw [Hm.out]; exact hjn
        have Htk := Lib.hid (show a[j] = b[j] → a.take (j + 1) = b.take (j + 1) from fun e => by rw [List.take_succ_eq_append_getElem hja, List.take_succ_eq_append_getElem hjb, htk, e])
        have Hne := Lib.hid (show ¬ a[j] = b[j] → false = sameU a b from fun e => by
          symm
          rw [Bool.eq_false_iff]
          intro h
          have := sameU_iff.1 h
          subst this
          exact e rfl)
        have hx := List.getElem?_eq_getElem hja
        have hy := List.getElem?_eq_getElem hjb
        generalize a[j] = x at *
        generalize b[j] = y at *
        obtain ⟨ba, oa, Au, cu, rfl, hba, hra, hcu, hmu, hku⟩ := (hA.below hM.old).range hx
        obtain ⟨bb, ob, Bu, du, rfl, hbb, hrb, hdu, hmv, hkv⟩ := (hB.below hM.old).range hy
        have hP := hM.put 42 zN (riC x (.slice Au x.kids.length cu)).toArray
        have hrb1 := rk (w' := ((wr.alloc (.cells zN 42)).setRow wr.heap.size (riC x (.slice Au x.kids.length cu)).toArray)) (below_setRow ((Below.refl wr.heap.size wr).alloc (Nat.le_refl _) (.cells zN 42)) (Nat.le_refl _) (riC x (.slice Au x.kids.length cu)).toArray) hrb (by have := hM.old.size; omega)
        have hb5 : Below w.heap.size wr ((wr.alloc (.cells zN 42)).setRow wr.heap.size (riC x (.slice Au x.kids.length cu)).toArray) := (below_setRow ((Below.refl wr.heap.size wr).alloc (Nat.le_refl _) (.cells zN 42)) (Nat.le_refl _) (riC x (.slice Au x.kids.length cu)).toArray).mono hM.old.size
        have hku5 := hku.below hb5
        have hkv5 := hkv.below hb5
        have zj : (j : Int) < (n : Int) := by omega
        go_upto_region 6 with (first
          | ((with_reducible show wpList _ _ _ (⟨some 21, _, _, _, _, _⟩ :: _) _ _); refine wpList_load_midG (by kernel_rfl) 42 (.tmp 20) rfl ba (oa + j * 7) rfl (riC x (.slice Au x.kids.length cu)) _ hra Try.underlying42 rfl rnInfo2 ?_)
          | ((with_reducible show wpList _ _ _ (⟨none, Op.store 42 _ _, _, _, _, _⟩ :: _) _ _); refine wpList_store_row rfl 42 (.tmp 8) (.tmp 21) rfl wr.heap.size (riC x (.slice Au x.kids.length cu)).toArray rfl rfl 42 zN (RowC.new _ _ _) rnInfo2 rfl (by simp [riC, Value.oneCell']) ?_))
        try simp only [Act.put]
        obtain ⟨g1, hg1⟩ : ∃ g1, g1 = wr.heap.size := ⟨_, rfl⟩
        rw [← hg1] at hP hrb1 hku5 hkv5 ⊢
        refine wp_gen (fun wx => Ms w wx [(g1, 42, (riC x (.slice Au x.kids.length cu)).toArray)] ∧ wx.rangeAt bb (ob + j * 7) (riC y (.slice Bu y.kids.length du)) ∧ Rd wx w.heap.size Au x.kids.length (x.kids.map iv) ∧ Rd wx w.heap.size Bu y.kids.length (y.kids.map iv)) ⟨hP, hrb1, hku5, hkv5⟩ ?_
        clear hP hrb1 hrb hra hx hy hM hg1 hku hkv hku5 hkv5 hb5
        rintro w5 ⟨hM, hrb, hku, hkv⟩
        have hb5 : Below w.heap.size w5 ((w5.alloc (.cells zN 42)).setRow w5.heap.size (riC y (.slice Bu y.kids.length du)).toArray) := (below_setRow ((Below.refl w5.heap.size w5).alloc (Nat.le_refl _) (.cells zN 42)) (Nat.le_refl _) (riC y (.slice Bu y.kids.length du)).toArray).mono hM.old.size
        have hku5 := hku.below hb5
        have hkv5 := hkv.below hb5
        have hP := hM.put 42 zN (riC y (.slice Bu y.kids.length du)).toArray
        go_upto_region 7 with (first
          | ((with_reducible show wpList _ _ _ (⟨some 25, _, _, _, _, _⟩ :: _) _ _); refine wpList_load_midG (by kernel_rfl) 42 (.tmp 24) rfl bb (ob + j * 7) rfl (riC y (.slice Bu y.kids.length du)) _ hrb Try.underlying42 rfl rnInfo2 ?_)
          | ((with_reducible show wpList _ _ _ (⟨none, Op.store 42 _ _, _, _, _, _⟩ :: _) _ _); refine wpList_store_row rfl 42 (.tmp 9) (.tmp 25) rfl w5.heap.size (riC y (.slice Bu y.kids.length du)).toArray rfl rfl 42 zN (RowC.new _ _ _) rnInfo2 rfl (by simp [riC, Value.oneCell']) ?_))
        try simp only [Act.put]
        obtain ⟨g2, hg2⟩ : ∃ g2, g2 = w5.heap.size := ⟨_, rfl⟩
        rw [← hg2] at hP hku5 hkv5 ⊢
        refine wp_gen (fun wx => Ms w wx [(g2, 42, (riC y (.slice Bu y.kids.length du)).toArray), (g1, 42, (riC x (.slice Au x.kids.length cu)).toArray)] ∧ Rd wx w.heap.size Au x.kids.length (x.kids.map iv) ∧ Rd wx w.heap.size Bu y.kids.length (y.kids.map iv)) ⟨hP, hku5, hkv5⟩ ?_
        clear hP hM hrb hg2 hku hkv hku5 hkv5 hb5
        rintro w6 ⟨hM, hku, hkv⟩
        have hold := hM.old
        have hsn := PSameN_any x y Au Bu cu du w6 hcu hmu (hku.more hold.size) (hkv.more hold.size)
        have hx1 := hM.get 1 rfl
        have hx2 := hM.get 0 rfl
        obtain ⟨sb, hsb⟩ : ∃ sb, sb = sameN x y := ⟨_, rfl⟩
        rw [← hsb] at hsn
        have Hsb := Lib.hid hsb
        clear hsb hku hkv hM
        go_wp2_with (first
          | ((with_reducible show wpList _ _ _ (⟨some 27, _, _, _, _, _⟩ :: _) _ _); refine wpList_loadC (by kernel_rfl) 42 (.tmp 8) rfl g1 rfl 42 (riC x (.slice Au x.kids.length cu)).toArray _ hx1 Try.underlying42 rfl rnInfo2 ?_)
          | ((with_reducible show wpList _ _ _ (⟨some 28, _, _, _, _, _⟩ :: _) _ _); refine wpList_loadC (by kernel_rfl) 42 (.tmp 9) rfl g2 rfl 42 (riC y (.slice Bu y.kids.length du)).toArray _ hx2 Try.underlying42 rfl rnInfo2 ?_))
        refine hsn.mono ?_
        rintro e w7 ⟨rfl, hb7⟩
        have hold7 := hold.trans (hb7.mono hold.size)
        clear hsn hx1 hx2
        cases sb with
        | false =>
          have Hno := Lib.hid (Hne.out (fun e => by have := Hsb.out; rw [sameN_iff.2 e] at this; cases this))
          go_wp2_with fail
          (first | exact Hpost.out _ _ Hno.out hold7 | exact bodyPost_ret (results_tmp rfl _ _ _) rfl (Hpost.out _ _ Hno.out hold7))
        | true =>
          have hj1 := Htk.out (sameN_iff.1 Hsb.out.symm)
          go_wp2_with fail
          go_roundw
          case rel => exact ⟨j + 1, by omega, by go_num, hj1, ⟨hold7, fun q hq => by simp at hq⟩⟩
          case measure => simp [intOf]; omega
      · obtain rfl : n = j := by omega
        have hab : a = b := by
          rw [← Hn.out, List.take_length, Hn.out, ← Hm.out, List.take_length] at htk
          exact htk
        have Hy := Lib.hid (show true = sameU a b from (sameU_iff.2 hab).symm)
        have hold := hM.old
        clear hM hA hB htk hab
        go_wp2_with fail
        (first | exact Hpost.out _ _ Hy.out hold | exact bodyPost_ret (results_tmp rfl _ _ _) rfl (Hpost.out _ _ Hy.out hold))
  · have Hno := Lib.hid (show false = sameU a b by
      symm
      rw [Bool.eq_false_iff]
      intro h
      have := sameU_iff.1 h
      subst this
      exact hnm (by rw [← Hn.out, ← Hm.out]))
    have hnmi : ¬ (n : Int) = (m : Int) := by omega
    clear hA hB
    go_enter Try.func32, Try.ntmps32
    go_wp2_with fail
    (first | exact Hpost.out _ _ Hno.out hb0 | exact bodyPost_ret (results_tmp rfl _ _ _) rfl (Hpost.out _ _ Hno.out hb0))

theorem PSame_any11 (A B : Option Addr) (n c m d : Nat) (a b : List RI) (w : World) (hA : NdR w w.heap.size A n c a) (hB : NdR w w.heap.size B m d b) :
    Calls Try.prog 21 #[.slice A n c, .slice B m d] w fun e w' => e = .returned (.bool (sameU a b)) ∧ Below w.heap.size w w' := by
  have heq := PEqualFN_any A B n c m d a b w hA hB
  clear hA hB
  go_enter Try.func21, Try.ntmps21
  go_wp2_with fail
  refine heq.mono ?_
  rintro e w1 ⟨rfl, hb1⟩
  clear heq
  go_wp2_with fail
  go_ret
  exact ⟨rfl, hb1⟩

end Go.Proofs.Ytbickllpledlbaa

