import Derived.Test.YtmganbdbihjbmaaK33
import Derived.Test.YtmganbdbihjbmaaK34
import Derived.Test.YtmganbdbihjbmaaK27
import Derived.OrdersHeld
/-
  CONTRACT of the program's plan.places.
-/
set_option linter.unusedVariables false
namespace Go.Proofs.Ytmganbdbihjbmaa
open Go.RowKit

theorem leafO_range (ids : List Int) (id : Int) : ∀ (i : Nat) (l : List RN) (r : Int), leafO ids id i l r = r ∨ ∃ j : Nat, leafO ids id i l r = (j : Int) ∧ i ≤ j ∧ j < i + l.length
  | _, [], r => .inl rfl
  | i, x :: l, r => by
    rw [leafO]
    rcases leafO_range ids id (i + 1) l (if x.lev = 0 ∧ ids.getD x.at_ 0 = id then (i : Int) else r) with h | ⟨j, h1, h2, h3⟩
    · rw [h]
      split
      · exact .inr ⟨i, rfl, Nat.le_refl _, by simp⟩
      · exact .inl rfl
    · exact .inr ⟨j, h1, by omega, by rw [List.length_cons]; omega⟩

set_option maxRecDepth 100000 in
set_option maxHeartbeats 4000000 in
theorem PPlaces_any (A Ai : Option Addr) (n c ni ci : Nat) (L : List RN) (ids : List Int) (w : World) (hN : NdR w w.heap.size A n c (L.map RN.i)) (hI : Rd w w.heap.size Ai ni (ids.map iv)) (hi64 : ∀ x ∈ ids, I64 x) (hci : ni ≤ ci) (hmi : ci ≤ maxLen) (hn : n ≤ 100000)
    (hat : ∀ x ∈ L, x.lev = 0 → x.at_ < ni) :
    Calls Try.prog 39 #[.slice A n c, .slice Ai ni ci] w fun e w' => ∃ b, e = .returned (.map (some b)) ∧ w.heap.size ≤ b ∧ Below w.heap.size w w' ∧ MapI w' b n (fun id => leafO ids id 0 L (-1)) := by
  have Hn := Lib.hid (show L.length = n by have := hN.len; rwa [List.length_map] at this)
  have Hni := Lib.hid (show ids.length = ni by have := hI.len; rwa [List.length_map] at this)
  have hcap := hN.cap
  unfold maxLen at hcap hmi
  have Hpost := Lib.hid (show ∀ b w', w.heap.size ≤ b → Below w.heap.size w w' → MapI w' b n (fun id => leafO ids id 0 L (-1)) → (fun e w' => ∃ b, e = Ending.returned (.map (some b)) ∧ w.heap.size ≤ b ∧ Below w.heap.size w w' ∧ MapI w' b n (fun id => leafO ids id 0 L (-1))) (.returned (.map (some b))) w' from fun b w' h1 h2 h3 => ⟨b, rfl, h1, h2, h3⟩)
  generalize (fun e w' => ∃ b, e = Ending.returned (.map (some b)) ∧ w.heap.size ≤ b ∧ Below w.heap.size w w' ∧ MapI w' b n (fun id => leafO ids id 0 L (-1))) = PO at *
  have hmm := run_makeMapH Try.underlying70 (ni : Int) w
  go_enter Try.func39, Try.ntmps39
  go_upto_region 2 with fail
  try simp only [Act.put]
  obtain ⟨b0, hb0⟩ : ∃ b0, b0 = w.heap.size := ⟨_, rfl⟩
  have hmp0 := (MapI.made w).ext (f' := fun id => leafO ids id 0 (L.take 0) (-1)) (fun x => rfl)
  have hbe0 : Below w.heap.size w (w.alloc (.map #[] 0)) := d_al w _
  rw [← hb0] at hmp0 ⊢
  refine wp_gen (fun wx => MapI wx b0 0 (fun id => leafO ids id 0 (L.take 0) (-1)) ∧ Below w.heap.size w wx) ⟨hmp0, hbe0⟩ ?_
  clear hmp0 hbe0 hmm
  have Hb0 := Lib.hid hb0
  clear hb0
  rintro w1 ⟨hmp1, hbe1⟩
  have Hmp1 := Lib.hid hmp1
  have Hbe1 := Lib.hid hbe1
  clear hmp1 hbe1
  go_wp2_with fail
  go_loopw [13] (fun v13 wr => ∃ j : Nat, j ≤ n ∧ v13 = .int .i64 (j : Int) ∧ MapI wr b0 j (fun id => leafO ids id 0 (L.take j) (-1)) ∧ Below w.heap.size w wr) (fun v13 _ => n - (intOf v13).toNat)
  case atStart => exact ⟨0, by omega, rfl, Hmp1.out, Hbe1.out⟩
  case round =>
    obtain ⟨j, hj, rfl, hmp, hold⟩ := hrel
    by_cases hjn : j < n
    · have hjL : j < L.length := by rw [Hn.out]; exact hjn
      have hx := List.getElem?_eq_getElem hjL
      have Htk := Lib.hid (fun id => leafO_take hx ids id)
      have hatx := hat _ (List.getElem_mem hjL)
      generalize L[j] = x at *
      obtain ⟨bb, o, Au, cu, rfl, hbb, hrg, _, _, _⟩ := (hN.below hold).range (k := j) (x := x.i) (by rw [List.getElem?_map, hx]; rfl)
      have zj : (j : Int) < (n : Int) := by omega
      have hM : Ms w wr [] := ⟨hold, fun p hp => by cases hp⟩
      have hP := hM.put 57 zN (riC x.i (.slice Au x.i.kids.length cu)).toArray
      have hbl := below_setRow ((Below.refl wr.heap.size wr).alloc (Nat.le_refl _) (.cells zN 57)) (Nat.le_refl _) (riC x.i (.slice Au x.i.kids.length cu)).toArray
      have hmp5 := hmp.below hbl hmp.lt
      go_upto_region 5 with (first
        | ((with_reducible show wpList _ _ _ (⟨some 17, _, _, _, _, _⟩ :: _) _ _); refine wpList_load_midG (by kernel_rfl) 57 (.tmp 16) rfl bb (o + j * 7) rfl (riC x.i (.slice Au x.i.kids.length cu)) _ hrg Try.underlying57 rfl rnInfo2 ?_)
        | ((with_reducible show wpList _ _ _ (⟨none, Op.store 57 _ _, _, _, _, _⟩ :: _) _ _); refine wpList_store_row rfl 57 (.tmp 7) (.tmp 17) rfl wr.heap.size (riC x.i (.slice Au x.i.kids.length cu)).toArray rfl rfl 57 zN (RowC.new _ _ _) rnInfo2 rfl (by simp [riC, Value.oneCell']) ?_))
      try simp only [Act.put]
      obtain ⟨g1, hg1⟩ : ∃ g1, g1 = wr.heap.size := ⟨_, rfl⟩
      rw [← hg1] at hP hmp5 ⊢
      refine wp_gen (fun wx => Ms w wx [(g1, 57, (riC x.i (.slice Au x.i.kids.length cu)).toArray)] ∧ MapI wx b0 j (fun id => leafO ids id 0 (L.take j) (-1))) ⟨hP, hmp5⟩ ?_
      clear hP hrg hM hg1 hx hold hbl hmp5 hmp
      rintro w6 ⟨hM, hmp⟩
      have hold := hM.old
      have p0 := (hM.get 0 rfl).cell (i := 0) (v := .int .i64 (x.lev : Nat)) rfl
      have p1 := (hM.get 0 rfl).cell (i := 1) (v := .int .i64 (x.at_ : Nat)) rfl
      by_cases hlev : x.lev = 0
      · have hax := hatx hlev
        have hai : x.at_ < ids.length := by rw [Hni.out]; exact hax
        obtain ⟨bi, oi, rfl, hbi, hci2⟩ := (hI.below hold).at_ hax
        have hcell := hci2 x.at_ (.int .i64 ids[x.at_]) (by rw [List.getElem?_map, List.getElem?_eq_getElem hai]; rfl)
        have hgd : ids.getD x.at_ 0 = ids[x.at_] := getD_at (List.getElem?_eq_getElem hai)
        have h64 := hi64 _ (List.getElem_mem hai)
        generalize ids[x.at_] = id at *
        obtain ⟨w7, hrun, hmp7, hgr7⟩ := hmp.put h64 (by simp only [maxLen]; omega) (p := j) (by omega)
        have hold7 : Below w.heap.size w w7 := hold.grown hgr7 (Nat.le_trans (Nat.le_refl _) hold.size) (fun g hg => by injection hg with hg; subst hg; exact Nat.le_of_eq Hb0.out.symm)
        have Hm7 := Lib.hid (hmp7.ext (f' := fun id => leafO ids id 0 (L.take (j + 1)) (-1)) (fun y => by
          rw [Htk.out y]
          by_cases e : y = id
          · subst e; rw [if_pos rfl, if_pos ⟨hlev, hgd⟩]
          · rw [if_neg e, if_neg (fun h => e (by rw [← h.2, hgd]))]))
        have zlev : (x.lev : Int) = 0 := by omega
        have zax : (x.at_ : Int) < (ni : Int) := by omega
        clear hmp hmp7 hgr7 hci2 hatx
        go_wp2_with fail
        go_roundw
        case rel => exact ⟨j + 1, by omega, by go_num, Hm7.out, hold7⟩
        case measure => simp [intOf]; omega
      · have Hm7 := Lib.hid ((hmp.more (Nat.le_succ j)).ext (f' := fun id => leafO ids id 0 (L.take (j + 1)) (-1)) (fun y => by rw [Htk.out y, if_neg (fun h => hlev h.1)]))
        have zlev : ¬ (x.lev : Int) = 0 := by omega
        clear hmp hatx
        go_wp2_with fail
        go_roundw
        case rel => exact ⟨j + 1, by omega, by go_num, Hm7.out, hold⟩
        case measure => simp [intOf]; omega
    · obtain rfl : j = n := by omega
      have hlen : L.take j = L := by rw [← Hn.out, List.take_length]
      rw [hlen] at hmp
      have hge := Nat.le_of_eq Hb0.out.symm
      have Hmp := Lib.hid hmp
      clear hmp
      go_wp2_with fail
      (first | exact Hpost.out _ _ hge hold Hmp.out | exact bodyPost_ret (results_tmp rfl _ _ _) rfl (Hpost.out _ _ hge hold Hmp.out))

end Go.Proofs.Ytmganbdbihjbmaa

/-
  CONTRACTS of the program's plan.asOld, its closure, and slices.EqualFunc over numbers with it.
-/
set_option linter.unusedVariables false
namespace Go.Proofs.Ytmganbdbihjbmaa
open Go.RowKit

theorem asOld_no {was : List RN} {red : Bool} {k0 : Nat} {ks : List Nat} {kp : List Int} (h : kpA kp k0 = -1) : asOldT was red (k0 :: ks) kp = -1 := by
  simp only [asOldT, h, if_true]
theorem asOld_top {was : List RN} {red : Bool} {k0 : Nat} {ks : List Nat} {kp : List Int} {q : Nat} {z : RN} (h : kpA kp k0 = (q : Int)) (hz : was[q]? = some z) (hu : z.up = -1) : asOldT was red (k0 :: ks) kp = -1 := by
  have h1 : ¬ ((q : Int) = -1) := by omega
  simp only [asOldT, h, if_neg h1, Int.toNat_natCast, hz, hu, if_true]
theorem asOld_up {was : List RN} {red : Bool} {k0 : Nat} {ks : List Nat} {kp : List Int} {q u : Nat} {z v : RN} (h : kpA kp k0 = (q : Int)) (hz : was[q]? = some z) (hu : z.up = (u : Int)) (hv : was[u]? = some v) : asOldT was red (k0 :: ks) kp = if v.red = red ∧ (k0 :: ks).map (kpA kp) = castL v.kids then (u : Int) else -1 := by
  have h1 : ¬ ((q : Int) = -1) := by omega
  have h2 : ¬ ((u : Int) = -1) := by omega
  simp only [asOldT, h, if_neg h1, Int.toNat_natCast, hz, hu, if_neg h2, hv]

theorem rd_num {w : World} {B : Nat} {A : Option Addr} {n : Nat} {xs : List Int} (h : Rd w B A n (xs.map iv)) {k : Nat} (hk : k < n) : ∃ b o, A = some ⟨b, o, none⟩ ∧ b < B ∧ w.cell? ⟨b, o + k, none⟩ = some (.int .i64 (xs.getD k 0)) := by
  obtain ⟨b, o, e, hb, hc⟩ := h.pos (by omega)
  have hl : k < xs.length := by have := h.len; rw [List.length_map] at this; omega
  refine ⟨b, o, e, hb, hc k _ ?_⟩
  rw [List.getElem?_map, List.getElem?_eq_getElem hl, getD_at (List.getElem?_eq_getElem hl)]
  rfl

set_option maxRecDepth 100000 in
theorem PIsKept_any (k : Nat) (old : Int) (b : Nat) (Ak : Option Addr) (m mc : Nat) (kl : List Int) (w : World) (hb : w.cell? ⟨b, 0, none⟩ = some (.slice Ak m mc)) (hk : Rd w w.heap.size Ak m (kl.map iv)) (hlt : k < m) :
    Calls Try.prog 73 #[.int .i64 (k : Nat), .int .i64 old, .pointer (some ⟨b, 0, none⟩)] w fun e w' => e = .returned (.bool (kpA kl k == old)) ∧ Below w.heap.size w w' := by
  obtain ⟨bk, ok, rfl, _, hc⟩ := rd_num hk hlt
  have zk : (k : Int) < (m : Int) := by omega
  have hbe := Below.refl w.heap.size w
  rw [← kpA] at hc
  generalize kpA kl k = v at *
  clear hk
  go_enter Try.func73, Try.ntmps73
  go_wp2_with fail
  exact bodyPost_ret (results_tmp rfl _ _ _) rfl ⟨rfl, hbe⟩

theorem mapPre {f : Nat → Int} {xs : List Nat} {ys : List Int} {j : Nat} (h1 : j < xs.length) (h2 : j < ys.length) (h : (xs.map f).take j = ys.take j) : f xs[j] = ys[j] → (xs.map f).take (j + 1) = ys.take (j + 1) := fun e => by
  rw [List.take_succ_eq_append_getElem (by rw [List.length_map]; exact h1), List.take_succ_eq_append_getElem h2, h, List.getElem_map, e]

set_option maxRecDepth 100000 in
set_option maxHeartbeats 4000000 in
theorem PEqK_any (A A' : Option Addr) (n c n' c' : Nat) (xs : List Nat) (ys : List Int) (b : Nat) (Ak : Option Addr) (m mc : Nat) (kl : List Int) (w : World) (hx : Rd w w.heap.size A n (kidV xs)) (hy : Rd w w.heap.size A' n' (ys.map iv)) (hn : n ≤ maxLen) (hn' : n' ≤ maxLen)
    (hb : w.cell? ⟨b, 0, none⟩ = some (.slice Ak m mc)) (hk : Rd w w.heap.size Ak m (kl.map iv)) (hlt : ∀ k ∈ xs, k < m) :
    Calls Try.prog 74 #[.slice A n c, .slice A' n' c', .func (.func 73) #[] #[.pointer (some ⟨b, 0, none⟩)]] w fun e w' => e = .returned (.bool (decide (xs.map (kpA kl) = ys))) ∧ Below w.heap.size w w' := by
  have Hn := Lib.hid (show xs.length = n by have := hx.len; rwa [kidV, List.length_map] at this)
  have Hn' := Lib.hid (show ys.length = n' by have := hy.len; rwa [List.length_map] at this)
  have hblt := World.block_lt_of_cell? w _ hb
  have Hpost := Lib.hid (show ∀ r w', r = decide (xs.map (kpA kl) = ys) → Below w.heap.size w w' → (fun e w' => e = Ending.returned (Value.bool (decide (xs.map (kpA kl) = ys))) ∧ Below w.heap.size w w') (.returned (.bool r)) w' from fun r w' h1 h2 => ⟨by rw [h1], h2⟩)
  generalize (fun e w' => e = Ending.returned (Value.bool (decide (xs.map (kpA kl) = ys))) ∧ Below w.heap.size w w') = PO at *
  have hb0 := Below.refl w.heap.size w
  rw [maxLen] at hn hn'
  rw [show kidV xs = (castL xs).map iv from (castL_iv xs).symm] at hx
  by_cases hnn : n = n'
  rotate_left
  · have hne : ¬ (n : Int) = (n' : Int) := by omega
    have Hf := Lib.hid (show false = decide (xs.map (kpA kl) = ys) by
      symm
      rw [decide_eq_false_iff_not]
      intro e
      have := congrArg List.length e
      rw [List.length_map, Hn.out, Hn'.out] at this
      exact hnn this)
    clear hx hy hk
    go_enter Try.func74, Try.ntmps74
    go_wp2_with fail
    (first | exact Hpost.out _ _ Hf.out hb0 | exact bodyPost_ret (results_tmp rfl _ _ _) rfl (Hpost.out _ _ Hf.out hb0))
  subst hnn
  go_enter Try.func74, Try.ntmps74
  go_wp2_with fail
  go_loopw [17] (fun v17 wr => ∃ j : Nat, j ≤ n ∧ v17 = .int .i64 (j : Int) ∧ (xs.map (kpA kl)).take j = ys.take j ∧ Below w.heap.size w wr) (fun v17 _ => n - (intOf v17).toNat)
  case atStart => exact ⟨0, by omega, rfl, rfl, hb0⟩
  case round =>
    obtain ⟨j, hj, rfl, htk, hold⟩ := hrel
    by_cases hjn : j < n
    · have hjx : j < xs.length := by rw [Hn.out]; exact hjn
      have hjy : j < ys.length := by rw [Hn'.out]; exact hjn
      have Htk := Lib.hid (mapPre (f := kpA kl) hjx hjy htk)
      have Hne := Lib.hid (show ¬ kpA kl xs[j] = ys[j] → false = decide (xs.map (kpA kl) = ys) from fun e => by
        symm
        rw [decide_eq_false_iff_not]
        intro h
        subst h
        exact e (by rw [List.getElem_map]))
      have hkm := hlt _ (List.getElem_mem hjx)
      have e1 : (castL xs).getD j 0 = ((xs[j] : Nat) : Int) := getD_at (by rw [castL, List.getElem?_map, List.getElem?_eq_getElem hjx]; rfl)
      have e2 : ys.getD j 0 = ys[j] := getD_at (List.getElem?_eq_getElem hjy)
      obtain ⟨bx, ox, rfl, _, hcx⟩ := rd_num (hx.below hold) hjn
      obtain ⟨bY, oY, rfl, _, hcy⟩ := rd_num (hy.below hold) hjn
      rw [e1] at hcx
      rw [e2] at hcy
      generalize xs[j] = k at *
      generalize ys[j] = old at *
      have hik := PIsKept_any k old b Ak m mc kl wr (by rw [World.cell?_of_block (hold.block b hblt)]; exact hb) ((hk.below hold).more hold.size) hkm
      obtain ⟨r, hr⟩ : ∃ r, r = (kpA kl k == old) := ⟨_, rfl⟩
      rw [← hr] at hik
      have Hr := Lib.hid hr
      have zj : (j : Int) < (n : Int) := by omega
      clear hr e1 e2 htk
      go_wp2_with fail
      refine hik.mono ?_
      rintro e w2 ⟨rfl, hb2⟩
      have hold2 := hold.trans (hb2.mono hold.size)
      clear hik hcx hcy
      cases r with
      | true =>
        have Ht := Lib.hid (Htk.out (by have := Hr.out; exact eq_of_beq this.symm))
        go_wp2_with fail
        go_roundw
        case rel => exact ⟨j + 1, by omega, by go_num, Ht.out, hold2⟩
        case measure => simp [intOf]; omega
      | false =>
        have Hf := Lib.hid (Hne.out (fun e => by have := Hr.out; rw [e] at this; simp at this))
        go_wp2_with fail
        (first | exact Hpost.out _ _ Hf.out hold2 | exact bodyPost_ret (results_tmp rfl _ _ _) rfl (Hpost.out _ _ Hf.out hold2))
    · obtain rfl : j = n := by omega
      have Hf := Lib.hid (show true = decide (xs.map (kpA kl) = ys) by
        symm
        rw [decide_eq_true_iff]
        rw [List.take_of_length_le (by rw [List.length_map, Hn.out]; exact Nat.le_refl _), List.take_of_length_le (by rw [Hn'.out]; exact Nat.le_refl _)] at htk
        exact htk)
      clear htk
      go_wp2_with fail
      (first | exact Hpost.out _ _ Hf.out hold | exact bodyPost_ret (results_tmp rfl _ _ _) rfl (Hpost.out _ _ Hf.out hold))

set_option maxRecDepth 100000 in
set_option maxHeartbeats 4000000 in
theorem PAsOld_any (A : Option Addr) (n c : Nat) (was : List RN) (x : RN) (Au : Option Addr) (cu : Nat) (Ak : Option Addr) (m mc : Nat) (kl : List Int) (w : World) (hN : NdR w w.heap.size A n c (was.map RN.i)) (hu : x.kids.length ≤ cu) (hcu : cu ≤ maxLen) (hku : Rd w w.heap.size Au x.kids.length (kidV x.kids))
    (hk : Rd w w.heap.size Ak m (kl.map iv)) (hn : n ≤ 100000) (hne : x.kids ≠ []) (hlt : ∀ k ∈ x.kids, k < m) (hkl : ∀ k ∈ x.kids, kpA kl k = -1 ∨ ∃ q : Nat, kpA kl k = (q : Int) ∧ q < was.length) (hup : ∀ z ∈ was, z.up = -1 ∨ ∃ u : Nat, z.up = (u : Int) ∧ u < was.length) :
    Calls Try.prog 57 #[.slice A n c, .agg (riC x.i (.slice Au x.kids.length cu)).toArray, .slice Ak m mc] w fun e w' => e = .returned (.int .i64 (asOldT was x.red x.kids kl)) ∧ Below w.heap.size w w' := by
  have hM := ((Ms.nil w).box 57 (riC x.i (.slice Au x.kids.length cu)).toArray).box 22 #[.slice Ak m mc]
  simp only [World.size_alloc] at hM
  have Hpost := Lib.hid (show ∀ r w', r = asOldT was x.red x.kids kl → Below w.heap.size w w' → (fun e w' => e = Ending.returned (Value.int .i64 (asOldT was x.red x.kids kl)) ∧ Below w.heap.size w w') (.returned (.int .i64 r)) w' from fun r w' h1 h2 => ⟨by rw [h1], h2⟩)
  generalize (fun e w' => e = Ending.returned (Value.int .i64 (asOldT was x.red x.kids kl)) ∧ Below w.heap.size w w') = PO at *
  have hold := hM.old
  obtain ⟨k0, ks, hks⟩ : ∃ k0 ks, x.kids = k0 :: ks := by
    cases h : x.kids with
    | nil => exact absurd h hne
    | cons a l => exact ⟨a, l, rfl⟩
  have hk0 : k0 ∈ x.kids := by rw [hks]; simp
  have h0m := hlt k0 hk0
  have Hk0 := Lib.hid (hkl k0 hk0)
  have hkN := hku
  rw [show kidV x.kids = (castL x.kids).map iv from (castL_iv x.kids).symm] at hku
  obtain ⟨bu, ou, rfl, _, hcu0⟩ := rd_num (hku.below hold) (k := 0) (by rw [hks]; simp)
  rw [show (castL x.kids).getD 0 0 = ((k0 : Nat) : Int) by rw [hks]; rfl, Nat.add_zero] at hcu0
  obtain ⟨bk, ok, rfl, _, hck⟩ := rd_num (hk.below hold) h0m
  rw [← kpA] at hck
  have p5 := (hM.get 1 rfl).cell (i := 5) (v := (.slice (some ⟨bu, ou, none⟩) x.kids.length cu)) rfl
  have p2 := (hM.get 1 rfl).cell (i := 2) (v := .bool x.red) rfl
  have q0 := (hM.get 0 rfl).cell (i := 0) (v := .slice (some ⟨bk, ok, none⟩) m mc) rfl
  have Hno := Lib.hid (show kpA kl k0 = -1 → (-1 : Int) = asOldT was x.red x.kids kl from fun h => by rw [hks]; exact (asOld_no h).symm)
  have Htop := Lib.hid (show ∀ (q : Nat) (z : RN), kpA kl k0 = (q : Int) → was[q]? = some z → z.up = -1 → (-1 : Int) = asOldT was x.red x.kids kl from fun q z h1 h2 h3 => by rw [hks]; exact (asOld_top h1 h2 h3).symm)
  have Hup := Lib.hid (show ∀ (q u : Nat) (z v : RN), kpA kl k0 = (q : Int) → was[q]? = some z → z.up = (u : Int) → was[u]? = some v → (if v.red = x.red ∧ x.kids.map (kpA kl) = castL v.kids then (u : Int) else -1) = asOldT was x.red x.kids kl from fun q u z v h1 h2 h3 h4 => by rw [hks]; exact (asOld_up h1 h2 h3 h4).symm)
  have zk0 : (k0 : Int) < (m : Int) := by omega
  have zlen : 0 < (x.kids.length : Int) := by rw [hks]; simp only [List.length_cons]; omega
  have hmf : ∀ (fn : Fn) (first cap : Array Value) (w : World), (Instr.makeFunc fn first cap).run Try.prog w = .ok (.func fn first cap) w := fun _ _ _ _ => rfl
  have Hn := Lib.hid (show was.length = n by have := hN.len; rwa [List.length_map] at this)
  have hN2 := (hN.below hold).more hold.size
  have hk2 := (hk.below hold).more hold.size
  have hkN2 := (hkN.below hold).more hold.size
  have hgl : w.heap.size + 1 < (((w.alloc (.cells (riC x.i (.slice (some ⟨bu, ou, none⟩) x.kids.length cu)).toArray 57)).alloc (.cells #[.slice (some ⟨bk, ok, none⟩) m mc] 22))).heap.size := by simp
  have z00 : (0 : Int) < (x.kids.length : Int) := zlen
  clear hkl hku hk hkN hN hks
  generalize hkn : x.kids.length = kn at *
  have hkp : 0 < kn := by omega
  have hkz : ¬ kn = 0 := by omega
  have hkz1 : ¬ (kn : Int) = 0 := by omega
  have hkz2 : ¬ (kn : Int) ≤ 0 := by omega
  go_enter Try.func57, Try.ntmps57
  go_upto_region 1 with fail
  try simp only [Act.put]
  generalize ((w.alloc (.cells (riC x.i (.slice (some ⟨bu, ou, none⟩) kn cu)).toArray 57)).alloc (.cells #[.slice (some ⟨bk, ok, none⟩) m mc] 22)) = w1 at *
  clear hM
  generalize hkv : kpA kl k0 = kv at *
  have hbd : Below w1.heap.size w1 w1.drew := c_drew (c_refl w1)
  have q0d : w1.drew.cell? ⟨w.heap.size + 1, 0, none⟩ = some (.slice (some ⟨bk, ok, none⟩) m mc) := q0
  have p5d : w1.drew.cell? ⟨w.heap.size, 5, none⟩ = some (.slice (some ⟨bu, ou, none⟩) kn cu) := p5
  have p2d : w1.drew.cell? ⟨w.heap.size, 2, none⟩ = some (.bool x.red) := p2
  have hcud : w1.drew.cell? ⟨bu, ou, none⟩ = some (.int .i64 (k0 : Nat)) := hcu0
  have hckd : w1.drew.cell? ⟨bk, ok + k0, none⟩ = some (.int .i64 kv) := hck
  have hN3 := (hN2.below hbd).more hbd.size
  have hk3 := (hk2.below hbd).more hbd.size
  have hkN3 := (hkN2.below hbd).more hbd.size
  have hold3 := hold.trans (hbd.mono hold.size)
  have hgl3 : w.heap.size + 1 < w1.drew.heap.size := Nat.lt_of_lt_of_le hgl hbd.size
  go_still (by kernel_rfl)
  change Exit.then _ _ Exit.normal _ w1.drew
  clear q0 p5 p2 hcu0 hck hN2 hk2 hkN2 hold hgl hcud hckd hbd
  generalize w1.drew = w2 at *
  rcases Hk0.out with rfl | ⟨q, rfl, hq⟩
  · have Hr := Lib.hid (Hno.out rfl)
    go_wp2_with fail
    (first | exact Hpost.out _ _ Hr.out hold3 | exact bodyPost_ret (results_tmp rfl _ _ _) rfl (Hpost.out _ _ Hr.out hold3))
  · have hz := List.getElem?_eq_getElem hq
    have hzu := hup _ (List.getElem_mem hq)
    generalize was[q] = z at *
    obtain ⟨bb, o, Az, cz, rfl, hbb, hrg, _, _, _⟩ := hN3.range (k := q) (x := z.i) (by rw [List.getElem?_map, hz]; rfl)
    have z6 := hrg 6 (.int .i64 z.up) rfl
    have zq : (q : Int) < (n : Int) := by have := Hn.out; omega
    have zq1 : ¬ ((q : Int) = -1) := by omega
    have Hz := Lib.hid hz
    have hqn : q < n := by rw [← Hn.out]; exact hq
    clear hrg hz
    rcases hzu with hzu | ⟨u, hzu, hul⟩
    · have Hr := Lib.hid (Htop.out q z rfl Hz.out hzu)
      rw [hzu] at z6
      go_upto_region 5 with fail
      try simp only [Act.put]
      clear hN3 hk3 hkN3 z6
      refine wp_region_still_lit (by kernel_rfl) (by kernel_rfl) ?_
      repeat (with_reducible refine wpStill_step (fun K hK => ?_); go_simp; with_reducible refine hK _ ?_; clear hK K)
      with_reducible refine wpStill_nil ?_
      change Exit.then _ _ Exit.normal _ w2.drew
      have hold4 : Below w.heap.size w w2.drew := hold3.drew
      generalize w2.drew = w4 at *
      go_wp2_with fail
      (first | exact Hpost.out _ _ Hr.out hold4 | exact bodyPost_ret (results_tmp rfl _ _ _) rfl (Hpost.out _ _ Hr.out hold4))
    · rw [hzu] at z6
      go_upto_region 5 with fail
      try simp only [Act.put]
      have hv := List.getElem?_eq_getElem hul
      have Hval := Lib.hid (Hup.out q u z _ rfl Hz.out hzu hv)
      generalize was[u] = v at *
      have hun : u < n := by rw [← Hn.out]; exact hul
      have hbd : Below w2.heap.size w2 w2.drew := c_drew (c_refl w2)
      have hN4 := (hN3.below hbd).more hbd.size
      have hk4 := (hk3.below hbd).more hbd.size
      have hkN4 := (hkN3.below hbd).more hbd.size
      have hold4 := hold3.trans (hbd.mono hold3.size)
      have hgl4 : w.heap.size + 1 < w2.drew.heap.size := Nat.lt_of_lt_of_le hgl3 hbd.size
      have p2e : w2.drew.cell? ⟨w.heap.size, 2, none⟩ = some (.bool x.red) := p2d
      have p5e : w2.drew.cell? ⟨w.heap.size, 5, none⟩ = some (.slice (some ⟨bu, ou, none⟩) kn cu) := p5d
      have q0e : w2.drew.cell? ⟨w.heap.size + 1, 0, none⟩ = some (.slice (some ⟨bk, ok, none⟩) m mc) := q0d
      obtain ⟨bb', o', Av, cv, e1, hbv, hrg, hcv, hmv, hkv5⟩ := hN4.range (k := u) (x := v.i) (by rw [List.getElem?_map, hv]; rfl)
      injection e1 with e1
      injection e1 with e1 e2
      subst e1 e2
      have v2 := hrg 2 (.bool v.red) rfl
      have v5 := hrg 5 (.slice Av v.i.kids.length cv) rfl
      have v2d : w2.cell? ⟨bb, o + u * 7 + 2, none⟩ = some (.bool v.red) := v2
      have zu : (u : Int) < (n : Int) := by omega
      have zu1 : ¬ ((u : Int) = -1) := by omega
      have zu2 : ((u : Int) == -1) = false := by simp
      clear hrg hv
      obtain ⟨nr, hnr⟩ : ∃ nr, nr = (!v.red == x.red) := ⟨_, rfl⟩
      refine wp_region_still_lit (by kernel_rfl) (by kernel_rfl) ?_
      repeat (with_reducible refine wpStill_step (fun K hK => ?_); go_simp; with_reducible refine hK _ ?_; clear hK K)
      with_reducible refine wpStill_nil ?_
      change Exit.then _ _ Exit.normal _ w2.drew
      rw [← hnr]
      have Hnr := Lib.hid hnr
      clear hN3 hk3 hkN3 p2d p5d q0d hold3 hgl3 v2 v2d hbd hnr
      generalize w2.drew = w4 at *
      cases nr with
      | true =>
        have Hr := Lib.hid (show (-1 : Int) = asOldT was x.red x.kids kl by rw [← Hval.out, if_neg (fun h => by have := Hnr.out; rw [h.1] at this; simp at this)])
        clear hN4 hk4 hkN4 hkv5
        go_wp2_with fail
        (first | exact Hpost.out _ _ Hr.out hold4 | exact bodyPost_ret (results_tmp rfl _ _ _) rfl (Hpost.out _ _ Hr.out hold4))
      | false =>
        have hred : v.red = x.red := by have := Hnr.out; simpa using this.symm
        go_upto_region 8 with fail
        try simp only [Act.put]
        have hbd : Below w4.heap.size w4 w4.drew := c_drew (c_refl w4)
        have p5f : w4.drew.cell? ⟨w.heap.size, 5, none⟩ = some (.slice (some ⟨bu, ou, none⟩) kn cu) := p5e
        have v5f : w4.drew.cell? ⟨bb, o + u * 7 + 5, none⟩ = some (.slice Av v.i.kids.length cv) := v5
        have heq := PEqK_any (some ⟨bu, ou, none⟩) Av kn cu v.i.kids.length cv x.kids v.i.kids (w.heap.size + 1) (some ⟨bk, ok, none⟩) m mc kl w4.drew ((hkN4.below hbd).more hbd.size) ((hkv5.below hbd).more hbd.size) (by omega) (by omega) q0e ((hk4.below hbd).more hbd.size) hlt
        obtain ⟨r, hr⟩ : ∃ r, r = decide (x.kids.map (kpA kl) = v.i.kids) := ⟨_, rfl⟩
        rw [← hr] at heq
        have Hv := Lib.hid (show (if r = true then (u : Int) else -1) = asOldT was x.red x.kids kl by
          rw [← Hval.out, hr]
          by_cases e : x.kids.map (kpA kl) = castL v.kids
          · have e2 : decide (x.kids.map (kpA kl) = v.i.kids) = true := decide_eq_true e
            rw [e2, if_pos rfl, if_pos ⟨hred, e⟩]
          · have e2 : decide (x.kids.map (kpA kl) = v.i.kids) = false := decide_eq_false e
            rw [e2, if_neg (by simp), if_neg (fun h => e h.2)])
        have hold5 := hold4.trans (hbd.mono hold4.size)
        have hbvl : bb < w4.drew.heap.size := Nat.lt_of_lt_of_le hbv hbd.size
        have hgl5 : w.heap.size < w4.drew.heap.size := by have := hbd.size; omega
        clear hr hkv5 hN4 hk4 hkN4
        go_region_held3 (fun wx : World => wx.cell? ⟨w.heap.size, 5, none⟩ = some (.slice (some ⟨bu, ou, none⟩) kn cu) ∧ wx.cell? ⟨bb, o + u * 7 + 5, none⟩ = some (.slice Av v.i.kids.length cv))
          (first | exact ⟨p5g, v5g⟩ | exact ⟨p5f, v5f⟩ | exact ⟨p5e, v5⟩)
          (first | (go_at_call 74; (with_reducible refine heq.mono ?_); rintro e w5 ⟨he, hb5⟩; subst he; have p5g := (World.cell?_of_block (a := ⟨w.heap.size, 5, none⟩) (hb5.block w.heap.size hgl5)).trans p5f; have v5g := (World.cell?_of_block (a := ⟨bb, o + u * 7 + 5, none⟩) (hb5.block bb hbvl)).trans v5f))
        have hold6 := hold5.trans (hb5.mono hold5.size)
        clear heq
        cases r with
        | true =>
          have Hr := Lib.hid (show (u : Int) = asOldT was x.red x.kids kl from Hv.out)
          go_wp2_with fail
          (first | exact Hpost.out _ _ Hr.out hold6 | exact bodyPost_ret (results_tmp rfl _ _ _) rfl (Hpost.out _ _ Hr.out hold6))
        | false =>
          have Hr := Lib.hid (show (-1 : Int) = asOldT was x.red x.kids kl from Hv.out)
          go_wp2_with fail
          (first | exact Hpost.out _ _ Hr.out hold6 | exact bodyPost_ret (results_tmp rfl _ _ _) rfl (Hpost.out _ _ Hr.out hold6))

end Go.Proofs.Ytmganbdbihjbmaa

