import Derived.Test.YtmganbdbihjbmaaI35
import Derived.Test.YtmganbdbihjbmaaI36
import Derived.Test.YtmganbdbihjbmaaI07
/-
  CONTRACT of the program's plan.kept.
-/
set_option linter.unusedVariables false
namespace Go.Proofs.Ytmganbdbihjbmaa
open Go.RowKit

theorem kpA_snoc (kp : List Int) (x : Int) {j : Nat} (hj : kp.length = j) : kpA (kp ++ [x]) = fun k => if k = j then x else kpA kp k := by
  funext k
  subst hj
  rw [kpA, kpA, List.getD_eq_getElem?_getD, List.getD_eq_getElem?_getD]
  split
  · next h => subst h; simp
  · next h =>
    rcases Nat.lt_or_ge k kp.length with h1 | h1
    · rw [List.getElem?_append_left h1]
    · rw [List.getElem?_eq_none (by simp; omega), List.getElem?_eq_none (by omega)]
theorem kpA_range {m : Nat} {v : Nat → Int} {k : Nat} (h : k < m) : kpA ((List.range m).map v) k = v k := by
  rw [kpA, getD_at (by rw [List.getElem?_map, List.getElem?_range h]; rfl)]
theorem asOld_in {was : List RN} (hup : ∀ z ∈ was, z.up = -1 ∨ ∃ u : Nat, z.up = (u : Int) ∧ u < was.length) (red : Bool) (kids : List Nat) (kp : List Int) : asOldT was red kids kp = -1 ∨ ∃ q : Nat, asOldT was red kids kp = (q : Int) ∧ q < was.length := by
  unfold asOldT
  split
  · exact .inl rfl
  · split
    · exact .inl rfl
    · split
      · exact .inl rfl
      · next z hz =>
        split
        · exact .inl rfl
        · split
          · exact .inl rfl
          · split
            · exact hup z (List.mem_of_getElem? hz)
            · exact .inl rfl
/-- what is kept has a place among the old ones -/
theorem keepT_in {was now : List RN} {ids : List Int} {lf : Int → Int} (hup : ∀ z ∈ was, z.up = -1 ∨ ∃ u : Nat, z.up = (u : Int) ∧ u < was.length) (hlf : ∀ id, lf id = -1 ∨ ∃ q : Nat, lf id = (q : Int) ∧ q < was.length) :
    ∀ j, j ≤ now.length → ∀ k, k < j → kpA (keepT was ids lf (now.take j)) k = -1 ∨ ∃ q : Nat, kpA (keepT was ids lf (now.take j)) k = (q : Int) ∧ q < was.length
  | 0, _, k, hk => by omega
  | j + 1, hj, k, hk => by
    rw [keepT_take (List.getElem?_eq_getElem (show j < now.length by omega)), kpA_snoc _ _ (keepT_lenj now j (by omega))]
    dsimp only
    by_cases e : k = j
    · rw [if_pos e]
      unfold keepN
      split
      · exact hlf _
      · exact asOld_in hup _ _ _
    · rw [if_neg e]
      exact keepT_in hup hlf j (by omega) k (by omega)

set_option maxRecDepth 100000 in
set_option maxHeartbeats 4000000 in
theorem PKept_any (A Bn Ai : Option Addr) (n c m d ni ci : Nat) (was now : List RN) (ids : List Int) (lf : Int → Int) (bm km : Nat) (w : World) (hW : NdR w w.heap.size A n c (was.map RN.i)) (hN : NdR w w.heap.size Bn m d (now.map RN.i)) (hI : Rd w w.heap.size Ai ni (ids.map iv)) (hMp : MapI w bm km lf)
    (hi64 : ∀ x ∈ ids, I64 x) (hn : n ≤ 2000) (hm : m ≤ 2000) (hat : ∀ x ∈ now, x.lev = 0 → x.at_ < ni) (hk0 : ∀ x ∈ now, x.kids = [] ↔ x.lev = 0) (hkq : ∀ (q : Nat) (x : RN), now[q]? = some x → ∀ k ∈ x.kids, k < q)
    (hup : ∀ z ∈ was, z.up = -1 ∨ ∃ u : Nat, z.up = (u : Int) ∧ u < was.length) (hlf : ∀ id, lf id = -1 ∨ ∃ q : Nat, lf id = (q : Int) ∧ q < was.length) :
    Calls Try.prog 40 #[.slice A n c, .slice Bn m d, .slice Ai ni ci, .map (some bm)] w fun e w' => ∃ g, e = .returned (.slice (some ⟨g, 0, none⟩) m m) ∧ Below w.heap.size w w' ∧ w'.ownsRow w.heap.size 3 1 (.slice (some ⟨g, 0, none⟩) m m) m ((keepT was ids lf now).map iv) := by
  have Hn := Lib.hid (show was.length = n by have := hW.len; rwa [List.length_map] at this)
  have Hm := Lib.hid (show now.length = m by have := hN.len; rwa [List.length_map] at this)
  have Hni := Lib.hid (show ids.length = ni by have := hI.len; rwa [List.length_map] at this)
  have hcap := hN.cap
  unfold maxLen at hcap
  have Hpost := Lib.hid (show ∀ g w', Below w.heap.size w w' → w'.ownsRow w.heap.size 3 1 (.slice (some ⟨g, 0, none⟩) m m) m ((keepT was ids lf now).map iv) → (fun e w' => ∃ g, e = Ending.returned (.slice (some ⟨g, 0, none⟩) m m) ∧ Below w.heap.size w w' ∧ w'.ownsRow w.heap.size 3 1 (.slice (some ⟨g, 0, none⟩) m m) m ((keepT was ids lf now).map iv)) (.returned (.slice (some ⟨g, 0, none⟩) m m)) w' from fun g w' h1 h2 => ⟨g, rfl, h1, h2⟩)
  generalize (fun e w' => ∃ g, e = Ending.returned (.slice (some ⟨g, 0, none⟩) m m) ∧ Below w.heap.size w w' ∧ w'.ownsRow w.heap.size 3 1 (.slice (some ⟨g, 0, none⟩) m m) m ((keepT was ids lf now).map iv)) = PO at *
  have Hin := Lib.hid (keepT_in (ids := ids) (now := now) hup hlf)
  obtain ⟨i1, hi1, hy0, hy1, hy2⟩ := info_parts intInfo
  have hmk := run_make (P := Try.prog) w 22 3 i1 (.int .i64 0) Try.underlying22 hi1 hy0 .i64 .i64 (m : Int) (m : Int) (by omega) (by omega) (by rw [hy2]; omega) (by omega)
  rw [show ((m : Int)).toNat = m by omega, hy1, Nat.mul_one, show (Value.int .i64 0).cells = #[Value.int .i64 0] from rfl, abv_made] at hmk
  go_enter Try.func40, Try.ntmps40
  go_upto_region 2 with fail
  try simp only [Act.put]
  have hM0 := (Ms.nil w).box 3 (abvC m fun _ => 0)
  rw [show (fun _ : Nat => (0 : Int)) = kpA (keepT was ids lf (now.take 0)) from rfl] at hM0
  obtain ⟨gK, hgK⟩ : ∃ gK, gK = w.heap.size := ⟨_, rfl⟩
  rw [← hgK] at hM0 ⊢
  refine wp_gen (fun wx => Ms w wx [(gK, 3, abvC m (kpA (keepT was ids lf (now.take 0))))]) hM0 ?_
  clear hM0 hmk
  have HgK := Lib.hid hgK
  clear hgK
  rintro w1 hM1
  have HM1 := Lib.hid hM1
  clear hM1
  go_wp2_with fail
  go_loopw [19] (fun v19 wr => ∃ j : Nat, j ≤ m ∧ v19 = .int .i64 (j : Int) ∧ Ms w wr [(gK, 3, abvC m (kpA (keepT was ids lf (now.take j))))]) (fun v19 _ => m - (intOf v19).toNat)
  case atStart => exact ⟨0, by omega, rfl, HM1.out⟩
  case round =>
    clear HM1
    obtain ⟨j, hj, rfl, hM⟩ := hrel
    by_cases hjm : j < m
    · have hjL : j < now.length := by rw [Hm.out]; exact hjm
      have hx := List.getElem?_eq_getElem hjL
      have Htk := Lib.hid (keepT_take (was := was) (ids := ids) (lf := lf) hx)
      have hatx := hat _ (List.getElem_mem hjL)
      have hk0x := hk0 _ (List.getElem_mem hjL)
      have hkqx := hkq _ _ hx
      generalize now[j] = x at *
      have Hset := Lib.hid (show ∀ y : Int, y = keepN was ids lf x (keepT was ids lf (now.take j)) → (abvC m (kpA (keepT was ids lf (now.take j)))).setIfInBounds j (.int .i64 y) = abvC m (kpA (keepT was ids lf (now.take (j + 1)))) from fun y hy => by
        rw [abvC_set, Htk.out, kpA_snoc _ _ (keepT_lenj now j (by omega)), hy])
      have hold := hM.old
      obtain ⟨bb, o, Au, cu, rfl, hbb, hrg, hcu, hmu, hku⟩ := (hN.below hold).range (k := j) (x := x.i) (by rw [List.getElem?_map, hx]; rfl)
      have zj : (j : Int) < (m : Int) := by omega
      have hP := hM.put 57 zN (riC x.i (.slice Au x.i.kids.length cu)).toArray
      go_upto_region 5 with (first
        | ((with_reducible show wpList _ _ _ (⟨some 23, _, _, _, _, _⟩ :: _) _ _); refine wpList_load_midG (by kernel_rfl) 57 (.tmp 22) rfl bb (o + j * 7) rfl (riC x.i (.slice Au x.i.kids.length cu)) _ hrg Try.underlying57 rfl rnInfo2 ?_)
        | ((with_reducible show wpList _ _ _ (⟨none, Op.store 57 _ _, _, _, _, _⟩ :: _) _ _); refine wpList_store_row rfl 57 (.tmp 11) (.tmp 23) rfl wr.heap.size (riC x.i (.slice Au x.i.kids.length cu)).toArray rfl rfl 57 zN (RowC.new _ _ _) rnInfo2 rfl (by simp [riC, Value.oneCell']) ?_))
      try simp only [Act.put]
      obtain ⟨g1, hg1⟩ : ∃ g1, g1 = wr.heap.size := ⟨_, rfl⟩
      have hku6 := hku.below (below_setRow ((Below.refl wr.heap.size wr).alloc (Nat.le_refl _) (.cells zN 57)) (Nat.le_refl _) (riC x.i (.slice Au x.i.kids.length cu)).toArray |>.mono hold.size)
      rw [← hg1] at hP hku6 ⊢
      refine wp_gen (fun wx => Ms w wx [(g1, 57, (riC x.i (.slice Au x.i.kids.length cu)).toArray), (gK, 3, abvC m (kpA (keepT was ids lf (now.take j))))] ∧ Rd wx w.heap.size Au x.i.kids.length (x.i.kids.map iv)) ⟨hP, hku6⟩ ?_
      clear hP hrg hM hg1 hold hku6 hku
      rintro w6 ⟨hM, hku⟩
      have hold := hM.old
      have p0 := (hM.get 0 rfl).cell (i := 0) (v := .int .i64 (x.lev : Nat)) rfl
      have p1 := (hM.get 0 rfl).cell (i := 1) (v := .int .i64 (x.at_ : Nat)) rfl
      have hMk : Ms w w6 [(gK, 3, abvC m (kpA (keepT was ids lf (now.take j))))] := hM.subT (fun p hp => by simp only [List.mem_singleton] at hp; subst hp; simp)
      have hgKl : w.heap.size ≤ gK := Nat.le_of_eq HgK.out.symm
      have zl0 : (0 : Int) ≤ (x.lev : Int) := by omega
      by_cases hlev : x.lev = 0
      · have hax := hatx hlev
        have hai : x.at_ < ids.length := by rw [Hni.out]; exact hax
        obtain ⟨bi, oi, rfl, hbi, hci2⟩ := (hI.below hold).at_ hax
        have hcell := hci2 x.at_ (.int .i64 ids[x.at_]) (by rw [List.getElem?_map, List.getElem?_eq_getElem hai]; rfl)
        have hgd : ids.getD x.at_ 0 = ids[x.at_] := getD_at (List.getElem?_eq_getElem hai)
        have h64 := hi64 _ (List.getElem_mem hai)
        generalize ids[x.at_] = id at *
        have hlook := (hMp.below hold hMp.lt).look h64
        have zlev : (x.lev : Int) = 0 := by omega
        have zax : (x.at_ : Int) < (ni : Int) := by omega
        have zlg : ¬ (0 : Int) < (x.lev : Int) := by omega
        have ck := (hMk.get 0 rfl).cell (i := j) (v := .int .i64 (kpA (keepT was ids lf (now.take j)) j)) (abvC_at _ hjm)
        have fk := (hMk.get 0 rfl).frozen j
        rw [hlev] at p0
        rcases hlf id with hl | ⟨q, hl, hq⟩
        · have hMs := hMk.setCellT hgKl (fun p hp => by simp at hp) j (.int .i64 (-1))
          have hMs := (Hset.out (-1) (by rw [keepN, if_pos hlev, hgd, hl])) ▸ hMs
          rw [hl] at hlook
          simp only [if_true, ne_eq, not_true_eq_false, decide_false] at hlook
          have HMs := Lib.hid hMs
          clear hM hMk hMs hci2 hatx hku
          go_wp2_with fail
          go_roundw
          case rel => exact ⟨j + 1, by omega, by go_num, HMs.out⟩
          case measure => simp [intOf]; omega
        · have hMs := hMk.setCellT hgKl (fun p hp => by simp at hp) j (.int .i64 (q : Nat))
          have hMs := (Hset.out (q : Nat) (by rw [keepN, if_pos hlev, hgd, hl])) ▸ hMs
          have hq1 : ¬ ((q : Int) = -1) := by omega
          rw [hl] at hlook
          simp only [hq1, if_false, ne_eq, not_false_eq_true, decide_true] at hlook
          have HMs := Lib.hid hMs
          clear hM hMk hMs hci2 hatx hku
          go_wp2_with fail
          go_roundw
          case rel => exact ⟨j + 1, by omega, by go_num, HMs.out⟩
          case measure => simp [intOf]; omega
      · have zlev : (0 : Int) < (x.lev : Int) := by omega
        have hxk : x.i.kids.length = x.kids.length := by show (castL x.kids).length = _; rw [castL, List.length_map]
        have hku' : Rd w6 w.heap.size Au x.kids.length (kidV x.kids) := by rw [← castL_iv, ← hxk]; exact hku
        have hrk := rd_abv (hMk.get 0 rfl)
        have hkl : ∀ k ∈ x.kids, kpA ((List.range m).map (kpA (keepT was ids lf (now.take j)))) k = kpA (keepT was ids lf (now.take j)) k := fun k hk => kpA_range (by have := hkqx k hk; omega)
        have has := PAsOld_any A n c was x Au cu (some ⟨gK, 0, none⟩) m m ((List.range m).map (kpA (keepT was ids lf (now.take j)))) w6 ((hW.below hold).more hold.size) (by rw [← hxk]; exact hcu) hmu (hku'.more hold.size) hrk (by omega) (fun e => hlev (hk0x.1 e)) (fun k hk => by have := hkqx k hk; omega)
          (fun k hk => by rw [hkl k hk]; exact Hin.out j (by omega) k (hkqx k hk)) hup
        rw [asOld_congr hkl, ← hxk] at has
        obtain ⟨y, hy⟩ : ∃ y, y = asOldT was x.red x.kids (keepT was ids lf (now.take j)) := ⟨_, rfl⟩
        rw [← hy] at has
        have Hset2 := Lib.hid (Hset.out y (by rw [keepN, if_neg hlev, hy]))
        have hbx := hM.get 0 rfl
        clear hy hkl hrk hku hku' hatx hxk
        go_wp2_with ((with_reducible show wpList _ _ _ (⟨some 30, _, _, _, _, _⟩ :: _) _ _); refine wpList_loadC (by kernel_rfl) 57 (.tmp 11) rfl g1 rfl 57 (riC x.i (.slice Au x.i.kids.length cu)).toArray _ hbx Try.underlying57 rfl rnInfo2 ?_)
        refine has.mono ?_
        rintro e w7 ⟨he, hb7⟩
        subst he
        have hMk7 := hMk.call hb7
        have ck := (hMk7.get 0 rfl).cell (i := j) (v := .int .i64 (kpA (keepT was ids lf (now.take j)) j)) (abvC_at _ hjm)
        have fk := (hMk7.get 0 rfl).frozen j
        have hMs := hMk7.setCellT hgKl (fun p hp => by simp at hp) j (.int .i64 y)
        rw [Hset2.out] at hMs
        have HMs := Lib.hid hMs
        clear hM hMk hMs hMk7 has hbx
        go_wp2_with fail
        go_roundw
        case rel => exact ⟨j + 1, by omega, by go_num, HMs.out⟩
        case measure => simp [intOf]; omega
    · obtain rfl : m = j := by omega
      have hlen : now.take m = now := by rw [← Hm.out, List.take_length]
      rw [hlen] at hM
      have hold := hM.old
      have hkk : (List.range m).map (kpA (keepT was ids lf now)) = keepT was ids lf now := by
        apply List.ext_getElem
        · rw [List.length_map, List.length_range, keepT_len, Hm.out]
        · intro i h1 h2
          rw [List.getElem_map, List.getElem_range, kpA, getD_at (List.getElem?_eq_getElem h2)]
      have hrk : wr.ownsRow w.heap.size 3 1 (.slice (some ⟨gK, 0, none⟩) m m) m ((keepT was ids lf now).map iv) := by
        refine own_ofT (hM.get 0 rfl) (Nat.le_of_eq HgK.out.symm) (Nat.le_refl _) (by unfold maxLen; omega) (abvC_size _ _) ?_
        rw [abvC_list, hkk, List.take_of_length_le (by rw [List.length_map, keepT_len, Hm.out]; exact Nat.le_refl _)]
      clear hM hkk
      go_wp2_with fail
      (first | exact Hpost.out _ _ hold hrk | exact bodyPost_ret (results_tmp rfl _ _ _) rfl (Hpost.out _ _ hold hrk))

end Go.Proofs.Ytmganbdbihjbmaa

