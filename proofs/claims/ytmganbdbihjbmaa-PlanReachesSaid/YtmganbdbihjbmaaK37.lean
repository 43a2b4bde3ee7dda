import Derived.Test.YtmganbdbihjbmaaK35
import Derived.Test.YtmganbdbihjbmaaK36
import Derived.Test.YtmganbdbihjbmaaK07
import Derived.Test.YtmganbdbihjbmaaK32
import Derived.Test.YtmganbdbihjbmaaK25
import Derived.Test.YtmganbdbihjbmaaK29
/-
  CONTRACT of the program's plan.kept.
-/
set_option linter.unusedVariables false
namespace Go.Proofs.Ytmganbdbihjbmaa
open Go.RowKit

theorem kpA_snoc (kp : List Int) (x : Int) {j : Nat} (hj : kp.length = j) : kpA (kp ++ [x]) = fun k => if k = j then x else kpA kp k := by
  funext k
  subst hj
  rw [kpA, kpA, List.getD_eq_getElem?_getD, List.getD_eq_getElem?_getD]
  split
  · next h => subst h; simp
  · next h =>
    rcases Nat.lt_or_ge k kp.length with h1 | h1
    · rw [List.getElem?_append_left h1]
    · rw [List.getElem?_eq_none (by simp; omega), List.getElem?_eq_none (by omega)]
theorem kpA_range {m : Nat} {v : Nat → Int} {k : Nat} (h : k < m) : kpA ((List.range m).map v) k = v k := by
  rw [kpA, getD_at (by rw [List.getElem?_map, List.getElem?_range h]; rfl)]
theorem asOld_in {was : List RN} (hup : ∀ z ∈ was, z.up = -1 ∨ ∃ u : Nat, z.up = (u : Int) ∧ u < was.length) (red : Bool) (kids : List Nat) (kp : List Int) : asOldT was red kids kp = -1 ∨ ∃ q : Nat, asOldT was red kids kp = (q : Int) ∧ q < was.length := by
  unfold asOldT
  split
  · exact .inl rfl
  · split
    · exact .inl rfl
    · split
      · exact .inl rfl
      · next z hz =>
        split
        · exact .inl rfl
        · split
          · exact .inl rfl
          · split
            · exact hup z (List.mem_of_getElem? hz)
            · exact .inl rfl
/-- what is kept has a place among the old ones -/
theorem keepT_in {was now : List RN} {ids : List Int} {lf : Int → Int} (hup : ∀ z ∈ was, z.up = -1 ∨ ∃ u : Nat, z.up = (u : Int) ∧ u < was.length) (hlf : ∀ id, lf id = -1 ∨ ∃ q : Nat, lf id = (q : Int) ∧ q < was.length) :
    ∀ j, j ≤ now.length → ∀ k, k < j → kpA (keepT was ids lf (now.take j)) k = -1 ∨ ∃ q : Nat, kpA (keepT was ids lf (now.take j)) k = (q : Int) ∧ q < was.length
  | 0, _, k, hk => by omega
  | j + 1, hj, k, hk => by
    rw [keepT_take (List.getElem?_eq_getElem (show j < now.length by omega)), kpA_snoc _ _ (keepT_lenj now j (by omega))]
    dsimp only
    by_cases e : k = j
    · rw [if_pos e]
      unfold keepN
      split
      · exact hlf _
      · exact asOld_in hup _ _ _
    · rw [if_neg e]
      exact keepT_in hup hlf j (by omega) k (by omega)

set_option maxRecDepth 100000 in
set_option maxHeartbeats 4000000 in
theorem PKept_any (A Bn Ai : Option Addr) (n c m d ni ci : Nat) (was now : List RN) (ids : List Int) (lf : Int → Int) (bm km : Nat) (w : World) (hW : NdR w w.heap.size A n c (was.map RN.i)) (hN : NdR w w.heap.size Bn m d (now.map RN.i)) (hI : Rd w w.heap.size Ai ni (ids.map iv)) (hMp : MapI w bm km lf)
    (hi64 : ∀ x ∈ ids, I64 x) (hn : n ≤ 2000) (hm : m ≤ 2000) (hat : ∀ x ∈ now, x.lev = 0 → x.at_ < ni) (hk0 : ∀ x ∈ now, x.kids = [] ↔ x.lev = 0) (hkq : ∀ (q : Nat) (x : RN), now[q]? = some x → ∀ k ∈ x.kids, k < q)
    (hup : ∀ z ∈ was, z.up = -1 ∨ ∃ u : Nat, z.up = (u : Int) ∧ u < was.length) (hlf : ∀ id, lf id = -1 ∨ ∃ q : Nat, lf id = (q : Int) ∧ q < was.length) :
    Calls Try.prog 40 #[.slice A n c, .slice Bn m d, .slice Ai ni ci, .map (some bm)] w fun e w' => ∃ g, e = .returned (.slice (some ⟨g, 0, none⟩) m m) ∧ Below w.heap.size w w' ∧ w'.ownsRow w.heap.size 3 1 (.slice (some ⟨g, 0, none⟩) m m) m ((keepT was ids lf now).map iv) := by
  have Hn := Lib.hid (show was.length = n by have := hW.len; rwa [List.length_map] at this)
  have Hm := Lib.hid (show now.length = m by have := hN.len; rwa [List.length_map] at this)
  have Hni := Lib.hid (show ids.length = ni by have := hI.len; rwa [List.length_map] at this)
  have hcap := hN.cap
  unfold maxLen at hcap
  have Hpost := Lib.hid (show ∀ g w', Below w.heap.size w w' → w'.ownsRow w.heap.size 3 1 (.slice (some ⟨g, 0, none⟩) m m) m ((keepT was ids lf now).map iv) → (fun e w' => ∃ g, e = Ending.returned (.slice (some ⟨g, 0, none⟩) m m) ∧ Below w.heap.size w w' ∧ w'.ownsRow w.heap.size 3 1 (.slice (some ⟨g, 0, none⟩) m m) m ((keepT was ids lf now).map iv)) (.returned (.slice (some ⟨g, 0, none⟩) m m)) w' from fun g w' h1 h2 => ⟨g, rfl, h1, h2⟩)
  generalize (fun e w' => ∃ g, e = Ending.returned (.slice (some ⟨g, 0, none⟩) m m) ∧ Below w.heap.size w w' ∧ w'.ownsRow w.heap.size 3 1 (.slice (some ⟨g, 0, none⟩) m m) m ((keepT was ids lf now).map iv)) = PO at *
  have Hin := Lib.hid (keepT_in (ids := ids) (now := now) hup hlf)
  obtain ⟨i1, hi1, hy0, hy1, hy2⟩ := info_parts intInfo
  have hmk := run_make (P := Try.prog) w 22 3 i1 (.int .i64 0) Try.underlying22 hi1 hy0 .i64 .i64 (m : Int) (m : Int) (by omega) (by omega) (by rw [hy2]; omega) (by omega)
  rw [show ((m : Int)).toNat = m by omega, hy1, Nat.mul_one, show (Value.int .i64 0).cells = #[Value.int .i64 0] from rfl, abv_made] at hmk
  go_enter Try.func40, Try.ntmps40
  go_upto_region 2 with fail
  try simp only [Act.put]
  have hM0 := (Ms.nil w).box 3 (abvC m fun _ => 0)
  rw [show (fun _ : Nat => (0 : Int)) = kpA (keepT was ids lf (now.take 0)) from rfl] at hM0
  obtain ⟨gK, hgK⟩ : ∃ gK, gK = w.heap.size := ⟨_, rfl⟩
  rw [← hgK] at hM0 ⊢
  refine wp_gen (fun wx => Ms w wx [(gK, 3, abvC m (kpA (keepT was ids lf (now.take 0))))]) hM0 ?_
  clear hM0 hmk
  have HgK := Lib.hid hgK
  clear hgK
  rintro w1 hM1
  have HM1 := Lib.hid hM1
  clear hM1
  go_wp2_with fail
  go_loopw [19] (fun v19 wr => ∃ j : Nat, j ≤ m ∧ v19 = .int .i64 (j : Int) ∧ Ms w wr [(gK, 3, abvC m (kpA (keepT was ids lf (now.take j))))]) (fun v19 _ => m - (intOf v19).toNat)
  case atStart => exact ⟨0, by omega, rfl, HM1.out⟩
  case round =>
    clear HM1
    obtain ⟨j, hj, rfl, hM⟩ := hrel
    by_cases hjm : j < m
    · have hjL : j < now.length := by rw [Hm.out]; exact hjm
      have hx := List.getElem?_eq_getElem hjL
      have Htk := Lib.hid (keepT_take (was := was) (ids := ids) (lf := lf) hx)
      have hatx := hat _ (List.getElem_mem hjL)
      have hk0x := hk0 _ (List.getElem_mem hjL)
      have hkqx := hkq _ _ hx
      generalize now[j] = x at *
      have Hset := Lib.hid (show ∀ y : Int, y = keepN was ids lf x (keepT was ids lf (now.take j)) → (abvC m (kpA (keepT was ids lf (now.take j)))).setIfInBounds j (.int .i64 y) = abvC m (kpA (keepT was ids lf (now.take (j + 1)))) from fun y hy => by
        rw [abvC_set, Htk.out, kpA_snoc _ _ (keepT_lenj now j (by omega)), hy])
      have hold := hM.old
      obtain ⟨bb, o, Au, cu, rfl, hbb, hrg, hcu, hmu, hku⟩ := (hN.below hold).range (k := j) (x := x.i) (by rw [List.getElem?_map, hx]; rfl)
      have zj : (j : Int) < (m : Int) := by omega
      have hP := hM.put 57 zN (riC x.i (.slice Au x.i.kids.length cu)).toArray
      go_upto_region 5 with (first
        | ((with_reducible show wpList _ _ _ (⟨some 23, _, _, _, _, _⟩ :: _) _ _); refine wpList_load_midG (by kernel_rfl) 57 (.tmp 22) rfl bb (o + j * 7) rfl (riC x.i (.slice Au x.i.kids.length cu)) _ hrg Try.underlying57 rfl rnInfo2 ?_)
        | ((with_reducible show wpList _ _ _ (⟨none, Op.store 57 _ _, _, _, _, _⟩ :: _) _ _); refine wpList_store_row rfl 57 (.tmp 11) (.tmp 23) rfl wr.heap.size (riC x.i (.slice Au x.i.kids.length cu)).toArray rfl rfl 57 zN (RowC.new _ _ _) rnInfo2 rfl (by simp [riC, Value.oneCell']) ?_))
      try simp only [Act.put]
      obtain ⟨g1, hg1⟩ : ∃ g1, g1 = wr.heap.size := ⟨_, rfl⟩
      have hku6 := hku.below (below_setRow ((Below.refl wr.heap.size wr).alloc (Nat.le_refl _) (.cells zN 57)) (Nat.le_refl _) (riC x.i (.slice Au x.i.kids.length cu)).toArray |>.mono hold.size)
      rw [← hg1] at hP hku6 ⊢
      refine wp_gen (fun wx => Ms w wx [(g1, 57, (riC x.i (.slice Au x.i.kids.length cu)).toArray), (gK, 3, abvC m (kpA (keepT was ids lf (now.take j))))] ∧ Rd wx w.heap.size Au x.i.kids.length (x.i.kids.map iv)) ⟨hP, hku6⟩ ?_
      clear hP hrg hM hg1 hold hku6 hku
      rintro w6 ⟨hM, hku⟩
      have hold := hM.old
      have p0 := (hM.get 0 rfl).cell (i := 0) (v := .int .i64 (x.lev : Nat)) rfl
      have p1 := (hM.get 0 rfl).cell (i := 1) (v := .int .i64 (x.at_ : Nat)) rfl
      have hMk : Ms w w6 [(gK, 3, abvC m (kpA (keepT was ids lf (now.take j))))] := hM.subT (fun p hp => by simp only [List.mem_singleton] at hp; subst hp; simp)
      have hgKl : w.heap.size ≤ gK := Nat.le_of_eq HgK.out.symm
      have zl0 : (0 : Int) ≤ (x.lev : Int) := by omega
      by_cases hlev : x.lev = 0
      · have hax := hatx hlev
        have hai : x.at_ < ids.length := by rw [Hni.out]; exact hax
        obtain ⟨bi, oi, rfl, hbi, hci2⟩ := (hI.below hold).at_ hax
        have hcell := hci2 x.at_ (.int .i64 ids[x.at_]) (by rw [List.getElem?_map, List.getElem?_eq_getElem hai]; rfl)
        have hgd : ids.getD x.at_ 0 = ids[x.at_] := getD_at (List.getElem?_eq_getElem hai)
        have h64 := hi64 _ (List.getElem_mem hai)
        generalize ids[x.at_] = id at *
        have hlook := (hMp.below hold hMp.lt).look h64
        have zlev : (x.lev : Int) = 0 := by omega
        have zax : (x.at_ : Int) < (ni : Int) := by omega
        have zlg : ¬ (0 : Int) < (x.lev : Int) := by omega
        have ck := (hMk.get 0 rfl).cell (i := j) (v := .int .i64 (kpA (keepT was ids lf (now.take j)) j)) (abvC_at _ hjm)
        have fk := (hMk.get 0 rfl).frozen j
        rw [hlev] at p0
        rcases hlf id with hl | ⟨q, hl, hq⟩
        · have hMs := hMk.setCellT hgKl (fun p hp => by simp at hp) j (.int .i64 (-1))
          have hMs := (Hset.out (-1) (by rw [keepN, if_pos hlev, hgd, hl])) ▸ hMs
          rw [hl] at hlook
          simp only [if_true, ne_eq, not_true_eq_false, decide_false] at hlook
          have HMs := Lib.hid hMs
          clear hM hMk hMs hci2 hatx hku
          go_wp2_with fail
          go_roundw
          case rel => exact ⟨j + 1, by omega, by go_num, HMs.out⟩
          case measure => simp [intOf]; omega
        · have hMs := hMk.setCellT hgKl (fun p hp => by simp at hp) j (.int .i64 (q : Nat))
          have hMs := (Hset.out (q : Nat) (by rw [keepN, if_pos hlev, hgd, hl])) ▸ hMs
          have hq1 : ¬ ((q : Int) = -1) := by omega
          rw [hl] at hlook
          simp only [hq1, if_false, ne_eq, not_false_eq_true, decide_true] at hlook
          have HMs := Lib.hid hMs
          clear hM hMk hMs hci2 hatx hku
          go_wp2_with fail
          go_roundw
          case rel => exact ⟨j + 1, by omega, by go_num, HMs.out⟩
          case measure => simp [intOf]; omega
      · have zlev : (0 : Int) < (x.lev : Int) := by omega
        have hxk : x.i.kids.length = x.kids.length := by show (castL x.kids).length = _; rw [castL, List.length_map]
        have hku' : Rd w6 w.heap.size Au x.kids.length (kidV x.kids) := by rw [← castL_iv, ← hxk]; exact hku
        have hrk := rd_abv (hMk.get 0 rfl)
        have hkl : ∀ k ∈ x.kids, kpA ((List.range m).map (kpA (keepT was ids lf (now.take j)))) k = kpA (keepT was ids lf (now.take j)) k := fun k hk => kpA_range (by have := hkqx k hk; omega)
        have has := PAsOld_any A n c was x Au cu (some ⟨gK, 0, none⟩) m m ((List.range m).map (kpA (keepT was ids lf (now.take j)))) w6 ((hW.below hold).more hold.size) (by rw [← hxk]; exact hcu) hmu (hku'.more hold.size) hrk (by omega) (fun e => hlev (hk0x.1 e)) (fun k hk => by have := hkqx k hk; omega)
          (fun k hk => by rw [hkl k hk]; exact Hin.out j (by omega) k (hkqx k hk)) hup
        rw [asOld_congr hkl, ← hxk] at has
        obtain ⟨y, hy⟩ : ∃ y, y = asOldT was x.red x.kids (keepT was ids lf (now.take j)) := ⟨_, rfl⟩
        rw [← hy] at has
        have Hset2 := Lib.hid (Hset.out y (by rw [keepN, if_neg hlev, hy]))
        have hbx := hM.get 0 rfl
        clear hy hkl hrk hku hku' hatx hxk
        go_wp2_with ((with_reducible show wpList _ _ _ (⟨some 30, _, _, _, _, _⟩ :: _) _ _); refine wpList_loadC (by kernel_rfl) 57 (.tmp 11) rfl g1 rfl 57 (riC x.i (.slice Au x.i.kids.length cu)).toArray _ hbx Try.underlying57 rfl rnInfo2 ?_)
        refine has.mono ?_
        rintro e w7 ⟨he, hb7⟩
        subst he
        have hMk7 := hMk.call hb7
        have ck := (hMk7.get 0 rfl).cell (i := j) (v := .int .i64 (kpA (keepT was ids lf (now.take j)) j)) (abvC_at _ hjm)
        have fk := (hMk7.get 0 rfl).frozen j
        have hMs := hMk7.setCellT hgKl (fun p hp => by simp at hp) j (.int .i64 y)
        rw [Hset2.out] at hMs
        have HMs := Lib.hid hMs
        clear hM hMk hMs hMk7 has hbx
        go_wp2_with fail
        go_roundw
        case rel => exact ⟨j + 1, by omega, by go_num, HMs.out⟩
        case measure => simp [intOf]; omega
    · obtain rfl : m = j := by omega
      have hlen : now.take m = now := by rw [← Hm.out, List.take_length]
      rw [hlen] at hM
      have hold := hM.old
      have hkk : (List.range m).map (kpA (keepT was ids lf now)) = keepT was ids lf now := by
        apply List.ext_getElem
        · rw [List.length_map, List.length_range, keepT_len, Hm.out]
        · intro i h1 h2
          rw [List.getElem_map, List.getElem_range, kpA, getD_at (List.getElem?_eq_getElem h2)]
      have hrk : wr.ownsRow w.heap.size 3 1 (.slice (some ⟨gK, 0, none⟩) m m) m ((keepT was ids lf now).map iv) := by
        refine own_ofT (hM.get 0 rfl) (Nat.le_of_eq HgK.out.symm) (Nat.le_refl _) (by unfold maxLen; omega) (abvC_size _ _) ?_
        rw [abvC_list, hkk, List.take_of_length_le (by rw [List.length_map, keepT_len, Hm.out]; exact Nat.le_refl _)]
      clear hM hkk
      go_wp2_with fail
      (first | exact Hpost.out _ _ hold hrk | exact bodyPost_ret (results_tmp rfl _ _ _) rfl (Hpost.out _ _ hold hrk))

end Go.Proofs.Ytmganbdbihjbmaa

/-
  STEPS IN A ROW OF THE CALL'S OWN (layer 12), what each sends to beside; the closure of the program's plan.steps.
-/
set_option linter.unusedVariables false
namespace Go.Proofs.Ytmganbdbihjbmaa
open Go.RowKit

theorem stepInfoR : (Try.prog.info? 51).map (fun i => (i.zero, i.size, i.bytes)) = some (some (.agg #[.int .i64 0, .int .i64 0, .slice none 0 0]), 3, 40) := by kernel_rfl
theorem st_ne : (51 : TypeId) ≠ 3 := by decide
theorem st_ne2 : (22 : TypeId) ≠ 51 := by decide
theorem st_ne3 : (22 : TypeId) ≠ 3 := by decide
/-- the cells of some steps, one behind the other -/
def cellsS : List SI → List Value → List Value
  | x :: ss, u :: us => siC x u ++ cellsS ss us
  | _, _ => []
theorem cellsS_append : ∀ (ss : List SI) (us : List Value) (ss' : List SI) (us' : List Value), us.length = ss.length → cellsS (ss ++ ss') (us ++ us') = cellsS ss us ++ cellsS ss' us'
  | [], [], _, _, _ => rfl
  | x :: ss, u :: us, ss', us', h => by
    rw [List.cons_append, List.cons_append, cellsS, cellsS, cellsS_append ss us ss' us' (by simpa using h), List.append_assoc]
  | [], u :: us, _, _, h => by simp at h
  | x :: ss, [], _, _, h => by simp at h
theorem cellsS_at : ∀ (ss : List SI) (us : List Value) (k j : Nat) (x : SI) (u : Value), us.length = ss.length → ss[k]? = some x → us[k]? = some u → j < 3 → (cellsS ss us)[k * 3 + j]? = (siC x u)[j]?
  | [], _, k, j, x, u, _, h, _, _ => by simp at h
  | y :: ss, [], k, j, x, u, h, _, _, _ => by simp at h
  | y :: ss, v :: us, 0, j, x, u, _, hx, hu, hj => by
    simp at hx hu
    subst hx hu
    rw [cellsS, List.getElem?_append_left (by simp [siC]; omega), Nat.zero_mul, Nat.zero_add]
  | y :: ss, v :: us, k + 1, j, x, u, h, hx, hu, hj => by
    rw [cellsS, List.getElem?_append_right (by simp [siC]; omega), show (siC y v).length = 3 from rfl, show (k + 1) * 3 + j - 3 = k * 3 + j by omega]
    exact cellsS_at ss us k j x u (by simpa using h) (by simpa using hx) (by simpa using hu) hj
structure OwS (base : Nat) (w : World) (v : Value) (ss : List SI) (us : List Value) : Prop where
  len : us.length = ss.length
  row : w.ownsRow base 51 3 v ss.length (cellsS ss us)
  sends : ∀ (k : Nat) (x : SI) (u : Value), ss[k]? = some x → us[k]? = some u → w.ownsRow base 3 1 u x.send.length (x.send.map iv)
section
variable {base : Nat} {w w' : World} {v : Value} {ss : List SI} {us : List Value}
theorem OwS.nil (base : Nat) (w : World) : OwS base w (.slice none 0 0) [] [] := ⟨rfl, World.ownsRow_nil _ _ _ _, fun k x u h => by simp at h⟩
theorem OwS.quiet (h : OwS base w v ss us) (hb : Below w.heap.size w w') : OwS base w' v ss us := ⟨h.len, own_below h.row hb, fun k x u hx hu => own_below (h.sends k x u hx hu) hb⟩
theorem OwS.snoc (h : OwS base w v ss us) {x : SI} {u v' : Value} (hu : w.ownsRow base 3 1 u x.send.length (x.send.map iv)) (hg : w.grownBy w' v.ownBlock) (hn : w'.ownsRow base 51 3 v' (ss.length + 1) (cellsS ss us ++ siC x u)) : OwS base w' v' (ss ++ [x]) (us ++ [u]) := by
  have hk : ∀ {q : Value} {n : Nat} {xs : List Value}, w.ownsRow base 3 1 q n xs → w'.ownsRow base 3 1 q n xs := by
    intro q n xs hq
    cases hv : v.ownBlock with
    | none => rw [hv] at hg; exact hq.kept hg (by cases q.ownBlock <;> simp)
    | some g =>
      rw [hv] at hg
      obtain ⟨cs, hr⟩ := own_tyT h.row hv
      exact own_farT hq hg hr st_ne
  refine ⟨by simp [h.len], by rw [List.length_append, cellsS_append _ _ _ _ h.len]; simpa [cellsS] using hn, fun k y q hy hq => ?_⟩
  rcases Nat.lt_or_ge k ss.length with hlt | hge
  · rw [List.getElem?_append_left hlt] at hy
    rw [List.getElem?_append_left (by rw [h.len]; exact hlt)] at hq
    exact hk (h.sends k y q hy hq)
  · have hke : k = ss.length := by
      have := (List.getElem?_eq_some_iff.1 hy).1
      simp at this
      omega
    subst hke
    rw [List.getElem?_append_right (Nat.le_refl _), Nat.sub_self] at hy
    rw [← h.len, List.getElem?_append_right (Nat.le_refl _), Nat.sub_self] at hq
    simp at hy hq
    subst hy hq
    exact hk hu
theorem OwS.told {A : Option Addr} {c : Nat} (h : OwS base w (.slice A ss.length c) ss us) : StR w w.heap.size A ss.length c ss := by
  obtain ⟨_, _, e1, hc, hm⟩ := own_formT h.row
  injection e1 with _ _ e3
  subst e3
  refine ⟨rfl, ⟨hc, hm⟩, fun k x hx => ?_⟩
  have hk := (List.getElem?_eq_some_iff.1 hx).1
  obtain ⟨u, hu⟩ : ∃ u, us[k]? = some u := ⟨_, List.getElem?_eq_getElem (by rw [h.len]; exact hk)⟩
  have hs := h.sends k x u hx hu
  obtain ⟨Au, cu, rfl, hcu, hmu⟩ := own_formT hs
  obtain ⟨b, o, e, hb, hcell⟩ := (Rd.of_ownZ h.row).pos (by omega)
  refine ⟨b, o, Au, cu, e, hb, fun j y hy => ?_, hcu, hmu, Rd.of_own hs⟩
  have hj : j < 3 := (List.getElem?_eq_some_iff.1 hy).1
  rw [show o + k * 3 + j = o + (k * 3 + j) by omega]
  exact hcell (k * 3 + j) y (by rw [cellsS_at _ _ _ _ _ _ h.len hx hu hj]; exact hy)
end

set_option maxRecDepth 100000 in
theorem POther_any (k : Nat) (b : Nat) (Ak : Option Addr) (m mc : Nat) (kl : List Int) (w : World) (hb : w.cell? ⟨b, 0, none⟩ = some (.slice Ak m mc)) (hk : Rd w w.heap.size Ak m (kl.map iv)) (hlt : k < m) :
    Calls Try.prog 58 #[.int .i64 (k : Nat), .pointer (some ⟨b, 0, none⟩)] w fun e w' => e = .returned (.bool (kpA kl k == -1)) ∧ Below w.heap.size w w' := by
  obtain ⟨bk, ok, rfl, _, hc⟩ := rd_num hk hlt
  have zk : (k : Int) < (m : Int) := by omega
  have hbe := Below.refl w.heap.size w
  rw [← kpA] at hc
  generalize kpA kl k = v at *
  clear hk
  go_enter Try.func58, Try.ntmps58
  go_wp2_with fail
  exact bodyPost_ret (results_tmp rfl _ _ _) rfl ⟨rfl, hbe⟩

end Go.Proofs.Ytmganbdbihjbmaa

/-
  CONTRACT of the program's plan.steps.
-/
set_option linter.unusedVariables false
namespace Go.Proofs.Ytmganbdbihjbmaa
open Go.RowKit

theorem kidV_snoc (l : List Nat) (k : Nat) : kidV (l ++ [k]) = kidV l ++ [iv (k : Nat)] := by simp [kidV]
/-- is what is below another one, from which a secret may come? told by cases -/
theorem known_cases {now : List RN} {kp : List Int} {at_ k : Nat} {y : RN} (hy : now[k]? = some y) (r kn : Bool) (hr : r = (kpA kp k == -1)) (hkn : kn = knownB now kp at_ k) :
    (r = false ∧ kn = false) ∨ (r = true ∧ 0 < y.lev ∧ kn = true) ∨ (r = true ∧ y.lev = 0 ∧ y.at_ = at_ ∧ kn = true) ∨ (r = true ∧ y.lev = 0 ∧ ¬ y.at_ = at_ ∧ kn = false) := by
  have e : kn = (r && (decide (0 < y.lev) || y.at_ == at_)) := by
    rw [hkn, knownB, hy, hr]
    rfl
  cases r with
  | false => exact .inl ⟨rfl, by rw [e]; rfl⟩
  | true =>
    rw [Bool.true_and] at e
    rcases Nat.eq_zero_or_pos y.lev with h | h
    · by_cases h2 : y.at_ = at_
      · exact .inr (.inr (.inl ⟨rfl, h, h2, by rw [e, h2]; simp⟩))
      · exact .inr (.inr (.inr ⟨rfl, h, h2, by rw [e, h]; simp [h2]⟩))
    · exact .inr (.inl ⟨rfl, h, by rw [e]; simp [h]⟩)

set_option maxRecDepth 100000 in
set_option maxHeartbeats 4000000 in
theorem PSteps_any (Bn Ak : Option Addr) (m d mk : Nat) (now : List RN) (kp : List Int) (at_ : Nat) (w : World) (hN : NdR w w.heap.size Bn m d (now.map RN.i)) (hK : Rd w w.heap.size Ak m (kp.map iv)) (hm : m ≤ 2000)
    (hkq : ∀ (q : Nat) (x : RN), now[q]? = some x → ∀ k ∈ x.kids, k < q) (hk3 : ∀ x ∈ now, x.kids.length ≤ 3) :
    Calls Try.prog 41 #[.slice Bn m d, .slice Ak m mk, .int .i64 (at_ : Nat)] w fun e w' => ∃ As cs us, e = .returned (.slice As (stepsT now kp at_ 0 now).length cs) ∧ Below w.heap.size w w' ∧ OwS w.heap.size w' (.slice As (stepsT now kp at_ 0 now).length cs) (stepsT now kp at_ 0 now) us := by
  have Hm := Lib.hid (show now.length = m by have := hN.len; rwa [List.length_map] at this)
  have hcap := hN.cap
  unfold maxLen at hcap
  have Hpost := Lib.hid (show ∀ As cs us w', Below w.heap.size w w' → OwS w.heap.size w' (.slice As (stepsT now kp at_ 0 now).length cs) (stepsT now kp at_ 0 now) us → (fun e w' => ∃ As cs us, e = Ending.returned (.slice As (stepsT now kp at_ 0 now).length cs) ∧ Below w.heap.size w w' ∧ OwS w.heap.size w' (.slice As (stepsT now kp at_ 0 now).length cs) (stepsT now kp at_ 0 now) us) (.returned (.slice As (stepsT now kp at_ 0 now).length cs)) w' from fun As cs us w' h1 h2 => ⟨As, cs, us, rfl, h1, h2⟩)
  generalize (fun e w' => ∃ As cs us, e = Ending.returned (.slice As (stepsT now kp at_ 0 now).length cs) ∧ Below w.heap.size w w' ∧ OwS w.heap.size w' (.slice As (stepsT now kp at_ 0 now).length cs) (stepsT now kp at_ 0 now) us) = PO at *
  have hmf : ∀ (fn : Fn) (first cap : Array Value) (w : World), (Instr.makeFunc fn first cap).run Try.prog w = .ok (.func fn first cap) w := fun _ _ _ _ => rfl
  obtain ⟨i0, hi0, hz0, hz1, hz2⟩ := info_parts intInfo
  obtain ⟨i3, hi3, hs0, hs1, hs2⟩ := info_parts stepInfoR
  have hM0 := (Ms.nil w).box 22 #[.slice Ak m mk]
  obtain ⟨bK, hbK⟩ : ∃ bK, bK = w.heap.size := ⟨_, rfl⟩
  go_enter Try.func41, Try.ntmps41
  go_upto_region 3 with fail
  try simp only [Act.put]
  rw [← hbK] at hM0 ⊢
  refine wp_gen (fun wx => Ms w wx [(bK, 22, #[.slice Ak m mk])]) hM0 ?_
  clear hM0
  have HbK := Lib.hid (Nat.le_of_eq hbK.symm)
  clear hbK
  rintro w1 hM1
  have HM1 := Lib.hid hM1
  clear hM1
  go_wp2_with fail
  go_loopw [8, 18] (fun v8 v18 wr => ∃ (j : Nat) (us : List Value), j ≤ m ∧ v18 = .int .i64 (j : Int) ∧ Ms w wr [(bK, 22, #[.slice Ak m mk])] ∧ OwS w.heap.size wr v8 (stepsT now kp at_ 0 (now.take j)) us) (fun _ v18 _ => m - (intOf v18).toNat)
  case atStart => exact ⟨0, [], by omega, rfl, HM1.out, OwS.nil _ _⟩
  case round =>
    clear HM1
    obtain ⟨j, us, hj, rfl, hM, hS⟩ := hrel
    obtain ⟨A8, c8, hv8, hc8, hm8⟩ := own_formT hS.row
    subst hv8
    by_cases hjm : j < m
    · have hjL : j < now.length := by rw [Hm.out]; exact hjm
      have hx := List.getElem?_eq_getElem hjL
      have Htk := Lib.hid (stepsT_take (now := now) (kp := kp) (at_ := at_) hx)
      have hkqx := hkq _ _ hx
      have hk3x := hk3 _ (List.getElem_mem hjL)
      have Hsl := Lib.hid (show (stepsT now kp at_ 0 (now.take j)).length ≤ 2000 by have := stepsT_len now kp at_ 0 (now.take j); rw [List.length_take] at this; omega)
      have hkl : ∀ k ∈ now[j].kids, ∃ y, now[k]? = some y := fun k hk => ⟨_, List.getElem?_eq_getElem (show k < now.length by have := hkqx k hk; omega)⟩
      generalize now[j] = x at *
      have hold := hM.old
      obtain ⟨bb, o, Au, cu, rfl, hbb, hrg, hcu, hmu, hku⟩ := (hN.below hold).range (k := j) (x := x.i) (by rw [List.getElem?_map, hx]; rfl)
      have zj : (j : Int) < (m : Int) := by omega
      have hP := hM.put 57 zN (riC x.i (.slice Au x.i.kids.length cu)).toArray
      have hbl := below_setRow ((Below.refl wr.heap.size wr).alloc (Nat.le_refl _) (.cells zN 57)) (Nat.le_refl _) (riC x.i (.slice Au x.i.kids.length cu)).toArray
      have hS6 := hS.quiet hbl
      have hku6 := hku.below (hbl.mono hold.size)
      go_upto_region 6 with (first
        | ((with_reducible show wpList _ _ _ (⟨some 22, _, _, _, _, _⟩ :: _) _ _); refine wpList_load_midG (by kernel_rfl) 57 (.tmp 21) rfl bb (o + j * 7) rfl (riC x.i (.slice Au x.i.kids.length cu)) _ hrg Try.underlying57 rfl rnInfo2 ?_)
        | ((with_reducible show wpList _ _ _ (⟨none, Op.store 57 _ _, _, _, _, _⟩ :: _) _ _); refine wpList_store_row rfl 57 (.tmp 10) (.tmp 22) rfl wr.heap.size (riC x.i (.slice Au x.i.kids.length cu)).toArray rfl rfl 57 zN (RowC.new _ _ _) rnInfo2 rfl (by simp [riC, Value.oneCell']) ?_))
      try simp only [Act.put]
      obtain ⟨g1, hg1⟩ : ∃ g1, g1 = wr.heap.size := ⟨_, rfl⟩
      rw [← hg1] at hP hS6 hku6 ⊢
      refine wp_gen (fun wx => Ms w wx [(g1, 57, (riC x.i (.slice Au x.i.kids.length cu)).toArray), (bK, 22, #[.slice Ak m mk])] ∧ OwS w.heap.size wx (.slice A8 (stepsT now kp at_ 0 (now.take j)).length c8) (stepsT now kp at_ 0 (now.take j)) us ∧ Rd wx w.heap.size Au x.i.kids.length (x.i.kids.map iv)) ⟨hP, hS6, hku6⟩ ?_
      clear hP hrg hM hg1 hold hku6 hku hS hS6 hbl
      rintro w6 ⟨hM, hS, hku⟩
      have hold := hM.old
      have hMk : Ms w w6 [(bK, 22, #[.slice Ak m mk])] := hM.subT (fun p hp => by simp only [List.mem_singleton] at hp; subst hp; simp)
      have p0 := (hM.get 0 rfl).cell (i := 0) (v := .int .i64 (x.lev : Nat)) rfl
      by_cases hlev : x.lev = 0
      · have Hno := Lib.hid (show stepsT now kp at_ 0 (now.take (j + 1)) = stepsT now kp at_ 0 (now.take j) by rw [Htk.out, if_neg (by simp [isStep, hlev]), List.append_nil])
        have zlev : (x.lev : Int) = 0 := by omega
        rw [hlev] at p0
        have HM := Lib.hid hMk
        have HS := Lib.hid hS
        clear hM hMk hS hku
        go_wp2_with fail
        go_roundw
        case rel => exact ⟨j + 1, us, by omega, by go_num, HM.out, by rw [Hno.out]; exact HS.out⟩
        case measure => simp [intOf]; omega
      · have zlev : ¬ (x.lev : Int) = 0 := by omega
        have zlevb : ((x.lev : Int) == 0) = false := by simpa using zlev
        have hot := POther_any j bK Ak m mk kp w6 ((hM.get 1 rfl).cell (i := 0) rfl) ((hK.below hold).more hold.size) hjm
        obtain ⟨r, hr⟩ : ∃ r, r = (kpA kp j == -1) := ⟨_, rfl⟩
        rw [← hr] at hot
        have Hr := Lib.hid hr
        clear hr
        go_wp2_with fail
        refine hot.mono ?_
        rintro e w7 ⟨he, hb7⟩
        subst he
        have hM7 := hM.call hb7
        have hS7 := hS.quiet hb7
        have hku7 := hku.below (hb7.mono hold.size)
        have hMk7 := hMk.call hb7
        clear hM hS hku hot hMk hb7 hold p0
        have hold := hM7.old
        cases r with
        | false =>
          have Hno := Lib.hid (show stepsT now kp at_ 0 (now.take (j + 1)) = stepsT now kp at_ 0 (now.take j) by rw [Htk.out, if_neg (by rw [isStep, ← Hr.out]; simp), List.append_nil])
          have HM := Lib.hid hMk7
          have HS := Lib.hid hS7
          clear hM7 hS7 hku7 hMk7
          go_wp2_with fail
          go_roundw
          case rel => exact ⟨j + 1, us, by omega, by go_num, HM.out, by rw [Hno.out]; exact HS.out⟩
          case measure => simp [intOf]; omega
        | true =>
          have Hyes := Lib.hid (show stepsT now kp at_ 0 (now.take (j + 1)) = stepsT now kp at_ 0 (now.take j) ++ [stepT now kp at_ j x] by rw [Htk.out, if_pos (by rw [isStep, ← Hr.out]; simp [hlev])])
          have hP := (Ms.nil w7).put 51 zS #[.int .i64 (j : Nat), .int .i64 (-1), .slice none 0 0]
          go_upto_region 8 with ((with_reducible show wpList _ _ _ (⟨none, Op.store 51 _ _, _, _, _, _⟩ :: _) _ _); refine wpList_store_row rfl 51 (.tmp 11) (.tmp 33) rfl w7.heap.size #[.int .i64 (j : Nat), .int .i64 (-1), .slice none 0 0] rfl rfl 51 zS (RowC.new _ _ _) stInfo2 rfl (by simp [Value.oneCell']) ?_)
          try simp only [Act.put]
          obtain ⟨g2, hg2⟩ : ∃ g2, g2 = w7.heap.size := ⟨_, rfl⟩
          rw [← hg2] at hP ⊢
          refine wp_gen (fun wx => Ms w7 wx [(g2, 51, #[.int .i64 (j : Nat), .int .i64 (-1), .slice none 0 0])]) hP ?_
          clear hP
          have Hg2 := Lib.hid (Nat.le_of_eq hg2.symm)
          clear hg2
          rintro w8 hM8
          have hN7 := (hN.below hold).more hold.size
          have hK7 := (hK.below hold).more hold.size
          have hku7 := hku7.more hold.size
          have hrK := hMk7.get 0 rfl
          have p5 := ((hM7.get 0 rfl).call hM8.old).cell (i := 5) (v := .slice Au x.i.kids.length cu) rfl
          have Hkl := Lib.hid (show x.i.kids.length = x.kids.length from castL_len _)
          have Hki := Lib.hid (show x.i.kids = castL x.kids from rfl)
          obtain ⟨nk, hnk⟩ : ∃ nk, nk = x.i.kids.length := ⟨_, rfl⟩
          rw [← hnk] at p5 hku7 hcu
          rw [← hnk] at Hkl
          clear hnk
          have HM8 := Lib.hid hM8
          have HM7 := Lib.hid hMk7
          clear hM8 hM7 hMk7
          go_wp2_with fail
          go_loopw [37] (fun v37 wy => ∃ (i : Nat) (f : Int) (sd : List Nat) (vs : Value), i ≤ nk ∧ v37 = .int .i64 (i : Int) ∧ stK (knownB now kp at_) (x.kids.take i) = (f, sd) ∧ Ms w7 wy [(g2, 51, #[.int .i64 (j : Nat), .int .i64 f, vs])] ∧ wy.ownsRow w7.heap.size 3 1 vs sd.length (kidV sd)) (fun v37 _ => nk - (intOf v37).toNat)
          case atStart => exact ⟨0, -1, [], .slice none 0 0, by omega, rfl, rfl, HM8.out, World.ownsRow_nil _ _ _ _⟩
          case round =>
            clear HM8 p5
            obtain ⟨i, f, sd, vs, hi, rfl, hst, hMy, hown⟩ := hrel
            obtain ⟨A1, c1, hvs, hc1, hm1⟩ := own_formT hown
            subst hvs
            have hby := hMy.old
            by_cases hik : i < nk
            · have hix : i < x.kids.length := by rw [← Hkl.out]; exact hik
              have Hst := Lib.hid (stK_take (known := knownB now kp at_) (List.getElem?_eq_getElem hix))
              rw [hst] at Hst
              have hmem := List.getElem_mem hix
              have hkj := hkqx _ hmem
              obtain ⟨y, hy⟩ := hkl _ hmem
              have hsd : sd.length ≤ 3 := (show sd.length ≤ 3 by
                have h1 := stK_len (knownB now kp at_) (x.kids.take i)
                rw [hst, List.length_take] at h1
                simp only at h1
                omega)
              have e1 : x.i.kids.getD i 0 = ((x.kids[i] : Nat) : Int) := by rw [Hki.out]; exact getD_at (by rw [castL, List.getElem?_map, List.getElem?_eq_getElem hix]; rfl)
              obtain ⟨bu, ou, rfl, _, hcku⟩ := rd_num (hku7.below hby) hik
              rw [e1] at hcku
              generalize x.kids[i] = k at *
              have hot := POther_any k bK Ak m mk kp wr ((hrK.call hby).cell (i := 0) rfl) ((hK7.below hby).more hby.size) (by omega)
              obtain ⟨r, hr⟩ : ∃ r, r = (kpA kp k == -1) := ⟨_, rfl⟩
              rw [← hr] at hot
              obtain ⟨kn, hkn⟩ : ∃ kn, kn = knownB now kp at_ k := ⟨_, rfl⟩
              rw [← hkn] at Hst
              have hcs := known_cases hy r kn hr hkn
              have zi : (i : Int) < (nk : Int) := by omega
              clear hr hkn e1 hst
              go_wp2_with fail
              refine hot.mono ?_
              rintro e w9 ⟨he, hb9⟩
              subst he
              have hM9 := hMy.call hb9
              have hown9 := own_below hown hb9
              have hb79 := hM9.old
              obtain ⟨by_, oy, Ay, cy, ey, hbyy, hrgy, _, _, _⟩ := (hN7.below hb79).range (k := k) (x := y.i) (by rw [List.getElem?_map, hy]; rfl)
              injection ey with ey
              injection ey with ey1 ey2
              subst ey1 ey2
              have y0 : w9.cell? ⟨bb, o + k * 7, none⟩ = some (.int .i64 (y.lev : Nat)) := hrgy 0 (.int .i64 (y.lev : Nat)) rfl
              have y1 := hrgy 1 (.int .i64 (y.at_ : Nat)) rfl
              have zk : (k : Int) < (m : Int) := by omega
              have s1 := (hM9.get 0 rfl).cell (i := 1) (v := .int .i64 f) rfl
              have fz1 := (hM9.get 0 rfl).frozen 1
              have s2 := (hM9.get 0 rfl).cell (i := 2) (v := .slice A1 sd.length c1) rfl
              have hset1 := hM9.setCellT Hg2.out (fun p hp => by simp at hp) 1 (.int .i64 (k : Nat))
              have hown1 := own_farT hown9 (grown_setCell w9 g2 1 (.int .i64 (k : Nat))) (hM9.get 0 rfl) st_ne
              have HM1 := Lib.hid hset1
              have Hown1 := Lib.hid hown1
              have HM9 := Lib.hid hM9
              have Hown9 := Lib.hid hown9
              clear hMy hown hot hrgy hset1 hown1 hM9 hown9 hcku hb9
              rcases hcs with ⟨rfl, rfl⟩ | ⟨rfl, hl, rfl⟩ | ⟨rfl, hl, ha, rfl⟩ | ⟨rfl, hl, ha, rfl⟩
              · clear y0 y1
                have Hn := Lib.hid (show stK (knownB now kp at_) (x.kids.take (i + 1)) = (f, sd ++ [k]) by rw [Hst.out, if_neg (by simp)])
                have hal := d_al w9 (.cells #[iv (k : Nat)] 3)
                go_wp2_with (at_builtin; refine wpList_append_rd _ rfl (.tmp 70) (.tmp 72) _ rfl w7.heap.size 3 i0 _ 8 Try.underlying22 hi0 hz0 hz1 hz2 rfl (.slice A1 sd.length c1) sd.length _ rfl (own_below Hown9.out hal) (w9.heap.size + 1) (some ⟨w9.heap.size, 0, none⟩) 1 1 [iv (k : Nat)] rfl (Rd.mk_ _ _ _ rfl (by omega) rfl rfl) (one_ivn [k]) (by simp only [maxLen]; omega) (by omega) (by have := hb79.size; rw [World.size_alloc]; omega) ?_; intro v6 w6 hown6 hgr6 hat6; obtain ⟨A6, c6, hv6, _, _⟩ := own_formT hown6; subst hv6; have hM6 := (HM9.out.allocT (.cells #[iv (k : Nat)] 3)).grownT hgr6 (own_blockT Hown9.out) (fun p hp q hq e => by simp only [List.mem_singleton] at hp; subst hp; obtain ⟨cs, hcs⟩ := own_tyT Hown9.out hq; rw [← e] at hcs; exact st_ne (ty_neT (HM9.out.get 0 rfl) hcs)); have d2 := (hM6.get 0 rfl).cell (i := 2) (v := .slice A1 sd.length c1) rfl; have fz2 := (hM6.get 0 rfl).frozen 2)
                have hM6s := hM6.setCellT Hg2.out (fun p hp => by simp at hp) 2 (.slice A6 (sd.length + 1) c6)
                have hown6s := own_farT hown6 (grown_setCell w6 g2 2 (.slice A6 (sd.length + 1) c6)) (hM6.get 0 rfl) st_ne
                go_roundw
                case rel => exact ⟨i + 1, f, sd ++ [k], _, by omega, by go_num, Hn.out, hM6s, by rw [List.length_append, kidV_snoc]; exact hown6s⟩
                case measure => simp [intOf]; omega
              · have zl : (0 : Int) < (y.lev : Int) := by omega
                by_cases hf : f = -1
                · subst hf
                  have Hn := Lib.hid (show stK (knownB now kp at_) (x.kids.take (i + 1)) = ((k : Int), sd) by rw [Hst.out, if_pos ⟨rfl, rfl⟩])
                  go_wp2_with fail
                  go_roundw
                  case rel => exact ⟨i + 1, (k : Int), sd, _, by omega, by go_num, Hn.out, HM1.out, Hown1.out⟩
                  case measure => simp [intOf]; omega
                · have zf : (f == -1) = false := by simpa using hf
                  have Hn := Lib.hid (show stK (knownB now kp at_) (x.kids.take (i + 1)) = (f, sd ++ [k]) by rw [Hst.out, if_neg (by exact fun h => hf h.2)])
                  have hal := d_al w9 (.cells #[iv (k : Nat)] 3)
                  go_wp2_with (at_builtin; refine wpList_append_rd _ rfl (.tmp 70) (.tmp 72) _ rfl w7.heap.size 3 i0 _ 8 Try.underlying22 hi0 hz0 hz1 hz2 rfl (.slice A1 sd.length c1) sd.length _ rfl (own_below Hown9.out hal) (w9.heap.size + 1) (some ⟨w9.heap.size, 0, none⟩) 1 1 [iv (k : Nat)] rfl (Rd.mk_ _ _ _ rfl (by omega) rfl rfl) (one_ivn [k]) (by simp only [maxLen]; omega) (by omega) (by have := hb79.size; rw [World.size_alloc]; omega) ?_; intro v6 w6 hown6 hgr6 hat6; obtain ⟨A6, c6, hv6, _, _⟩ := own_formT hown6; subst hv6; have hM6 := (HM9.out.allocT (.cells #[iv (k : Nat)] 3)).grownT hgr6 (own_blockT Hown9.out) (fun p hp q hq e => by simp only [List.mem_singleton] at hp; subst hp; obtain ⟨cs, hcs⟩ := own_tyT Hown9.out hq; rw [← e] at hcs; exact st_ne (ty_neT (HM9.out.get 0 rfl) hcs)); have d2 := (hM6.get 0 rfl).cell (i := 2) (v := .slice A1 sd.length c1) rfl; have fz2 := (hM6.get 0 rfl).frozen 2)
                  have hM6s := hM6.setCellT Hg2.out (fun p hp => by simp at hp) 2 (.slice A6 (sd.length + 1) c6)
                  have hown6s := own_farT hown6 (grown_setCell w6 g2 2 (.slice A6 (sd.length + 1) c6)) (hM6.get 0 rfl) st_ne
                  go_roundw
                  case rel => exact ⟨i + 1, f, sd ++ [k], _, by omega, by go_num, Hn.out, hM6s, by rw [List.length_append, kidV_snoc]; exact hown6s⟩
                  case measure => simp [intOf]; omega
              · rw [hl] at y0
                rw [ha] at y1
                have zl : ¬ (0 : Int) < (0 : Int) := by omega
                by_cases hf : f = -1
                · subst hf
                  have Hn := Lib.hid (show stK (knownB now kp at_) (x.kids.take (i + 1)) = ((k : Int), sd) by rw [Hst.out, if_pos ⟨rfl, rfl⟩])
                  go_wp2_with fail
                  go_roundw
                  case rel => exact ⟨i + 1, (k : Int), sd, _, by omega, by go_num, Hn.out, HM1.out, Hown1.out⟩
                  case measure => simp [intOf]; omega
                · have zf : (f == -1) = false := by simpa using hf
                  have Hn := Lib.hid (show stK (knownB now kp at_) (x.kids.take (i + 1)) = (f, sd ++ [k]) by rw [Hst.out, if_neg (by exact fun h => hf h.2)])
                  have hal := d_al w9 (.cells #[iv (k : Nat)] 3)
                  go_wp2_with (at_builtin; refine wpList_append_rd _ rfl (.tmp 70) (.tmp 72) _ rfl w7.heap.size 3 i0 _ 8 Try.underlying22 hi0 hz0 hz1 hz2 rfl (.slice A1 sd.length c1) sd.length _ rfl (own_below Hown9.out hal) (w9.heap.size + 1) (some ⟨w9.heap.size, 0, none⟩) 1 1 [iv (k : Nat)] rfl (Rd.mk_ _ _ _ rfl (by omega) rfl rfl) (one_ivn [k]) (by simp only [maxLen]; omega) (by omega) (by have := hb79.size; rw [World.size_alloc]; omega) ?_; intro v6 w6 hown6 hgr6 hat6; obtain ⟨A6, c6, hv6, _, _⟩ := own_formT hown6; subst hv6; have hM6 := (HM9.out.allocT (.cells #[iv (k : Nat)] 3)).grownT hgr6 (own_blockT Hown9.out) (fun p hp q hq e => by simp only [List.mem_singleton] at hp; subst hp; obtain ⟨cs, hcs⟩ := own_tyT Hown9.out hq; rw [← e] at hcs; exact st_ne (ty_neT (HM9.out.get 0 rfl) hcs)); have d2 := (hM6.get 0 rfl).cell (i := 2) (v := .slice A1 sd.length c1) rfl; have fz2 := (hM6.get 0 rfl).frozen 2)
                  have hM6s := hM6.setCellT Hg2.out (fun p hp => by simp at hp) 2 (.slice A6 (sd.length + 1) c6)
                  have hown6s := own_farT hown6 (grown_setCell w6 g2 2 (.slice A6 (sd.length + 1) c6)) (hM6.get 0 rfl) st_ne
                  go_roundw
                  case rel => exact ⟨i + 1, f, sd ++ [k], _, by omega, by go_num, Hn.out, hM6s, by rw [List.length_append, kidV_snoc]; exact hown6s⟩
                  case measure => simp [intOf]; omega
              · rw [hl] at y0
                have za : ((y.at_ : Int) == (at_ : Int)) = false := by simp only [beq_eq_false_iff_ne, ne_eq]; omega
                have Hn := Lib.hid (show stK (knownB now kp at_) (x.kids.take (i + 1)) = (f, sd ++ [k]) by rw [Hst.out, if_neg (by simp)])
                have hal := d_al w9 (.cells #[iv (k : Nat)] 3)
                go_wp2_with (at_builtin; refine wpList_append_rd _ rfl (.tmp 70) (.tmp 72) _ rfl w7.heap.size 3 i0 _ 8 Try.underlying22 hi0 hz0 hz1 hz2 rfl (.slice A1 sd.length c1) sd.length _ rfl (own_below Hown9.out hal) (w9.heap.size + 1) (some ⟨w9.heap.size, 0, none⟩) 1 1 [iv (k : Nat)] rfl (Rd.mk_ _ _ _ rfl (by omega) rfl rfl) (one_ivn [k]) (by simp only [maxLen]; omega) (by omega) (by have := hb79.size; rw [World.size_alloc]; omega) ?_; intro v6 w6 hown6 hgr6 hat6; obtain ⟨A6, c6, hv6, _, _⟩ := own_formT hown6; subst hv6; have hM6 := (HM9.out.allocT (.cells #[iv (k : Nat)] 3)).grownT hgr6 (own_blockT Hown9.out) (fun p hp q hq e => by simp only [List.mem_singleton] at hp; subst hp; obtain ⟨cs, hcs⟩ := own_tyT Hown9.out hq; rw [← e] at hcs; exact st_ne (ty_neT (HM9.out.get 0 rfl) hcs)); have d2 := (hM6.get 0 rfl).cell (i := 2) (v := .slice A1 sd.length c1) rfl; have fz2 := (hM6.get 0 rfl).frozen 2)
                have hM6s := hM6.setCellT Hg2.out (fun p hp => by simp at hp) 2 (.slice A6 (sd.length + 1) c6)
                have hown6s := own_farT hown6 (grown_setCell w6 g2 2 (.slice A6 (sd.length + 1) c6)) (hM6.get 0 rfl) st_ne
                go_roundw
                case rel => exact ⟨i + 1, f, sd ++ [k], _, by omega, by go_num, Hn.out, hM6s, by rw [List.length_append, kidV_snoc]; exact hown6s⟩
                case measure => simp [intOf]; omega
            · obtain rfl : i = nk := by omega
              have hfull : x.kids.take i = x.kids := by rw [Hkl.out, List.take_length]
              rw [hfull] at hst
              have Hsx := Lib.hid (show stepT now kp at_ j x = ⟨(j : Int), f, castL sd⟩ by rw [stepT, hst])
              have hS9 := hS7.quiet hby
              have hbx := hMy.get 0 rfl
              have hal := d_al wr (.cells #[.int .i64 (j : Nat), .int .i64 f, .slice A1 sd.length c1] 51)
              have hrow := hS9.row
              have hrowa := own_below hrow hal
              have hrw := RowC.new wr 51 #[.int .i64 (j : Nat), .int .i64 f, .slice A1 sd.length c1]
              have hsl := Hsl.out
              have hwsz := hold.size
              have hbsz := hby.size
              have hMr := (HM7.out.call hby).allocT (.cells #[.int .i64 (j : Nat), .int .i64 f, .slice A1 sd.length c1] 51)
              have hsend : (wr.alloc (.cells #[.int .i64 (j : Nat), .int .i64 f, .slice A1 sd.length c1] 51)).ownsRow w.heap.size 3 1 (.slice A1 sd.length c1) (stepT now kp at_ j x).send.length ((stepT now kp at_ j x).send.map iv) := by
                rw [Hsx.out]
                simp only [castL_len, castL_iv]
                exact own_base (own_below hown hal) hwsz
              have Hsend := Lib.hid hsend
              have HSa := Lib.hid (hS9.quiet hal)
              have HMr := Lib.hid hMr
              clear hst hS9 hMr hsend hrow hMy hown hfull
              go_wp2_with (first
                | ((with_reducible show wpList _ _ _ (⟨some 77, _, _, _, _, _⟩ :: _) _ _); refine wpList_loadC (by kernel_rfl) 51 (.tmp 11) rfl g2 rfl 51 #[.int .i64 (j : Nat), .int .i64 f, .slice A1 sd.length c1] _ hbx Try.underlying51 rfl stInfo2 ?_)
                | (at_builtin; refine wpList_append_node (by kernel_rfl) (.tmp 76) (.tmp 78) 26 rfl w.heap.size 51 i3 _ 3 40 Try.underlying26 hi3 hs0 hs1 hs2 rfl (by omega) (.slice A8 (stepsT now kp at_ 0 (now.take j)).length c8) (stepsT now kp at_ 0 (now.take j)).length (cellsS (stepsT now kp at_ 0 (now.take j)) us) rfl hrowa ⟨wr.heap.size, 0, none⟩ 1 [.int .i64 (j : Nat), .int .i64 f, .slice A1 sd.length c1] rfl rfl (fun j u hu => by rw [add_zeroR]; exact hrw.cell (by simpa using hu)) (by simp [Value.oneCell']) (by unfold maxLen; omega) (by omega) (by rw [World.size_alloc]; omega) ?_; intro v6 w6 hown6 hgr6 hat6))
              have hMz := HMr.out.grownT hgr6 (own_blockT hrowa) (fun p hp q hq e => by simp only [List.mem_singleton] at hp; subst hp; obtain ⟨cs, hcs⟩ := own_tyT hrowa hq; rw [← e] at hcs; exact st_ne2 (ty_neT (HMr.out.get 0 rfl) hcs))
              have hSz := HSa.out.snoc (x := stepT now kp at_ j x) (u := .slice A1 sd.length c1) Hsend.out hgr6 (by rw [Hsx.out]; exact hown6)
              have HMz := Lib.hid hMz
              have HSz := Lib.hid hSz
              clear hMz hSz hown6 hgr6 hrowa hrw hbx
              go_roundw
              case rel => exact ⟨j + 1, _, by omega, by go_num, HMz.out, by rw [Hyes.out]; exact HSz.out⟩
              case measure => simp [intOf]; omega
    · obtain rfl : m = j := by omega
      have hlen : now.take m = now := by rw [← Hm.out, List.take_length]
      rw [hlen] at hS
      have hold := hM.old
      have hst := hS
      rw [hlen]
      clear hM hS
      go_wp2_with fail
      (first | exact Hpost.out _ _ _ _ hold hst | exact bodyPost_ret (results_tmp rfl _ _ _) rfl (Hpost.out _ _ _ _ hold hst))

end Go.Proofs.Ytmganbdbihjbmaa

