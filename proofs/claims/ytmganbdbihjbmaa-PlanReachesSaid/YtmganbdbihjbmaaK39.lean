import Derived.Test.YtmganbdbihjbmaaK37
import Derived.Test.YtmganbdbihjbmaaK38
/-
  CONTRACT of the program's plan.Make.
-/
set_option linter.unusedVariables false
namespace Go.Proofs.Ytmganbdbihjbmaa
open Go.RowKit

def wasU (kind : Int) (ids : List Int) (ll : List (List Int)) : List RN := nodesU kind ids.length (lvN ll)
theorem nf_was {kind : Int} {ids : List Int} {ll : List (List Int)} (hm : mayB kind ids ll = true) : nodesI kind ids ll = (wasU kind ids ll).map RN.i ∧ NF kind ids (wasU kind ids ll) := by
  refine ⟨by rw [nodesI, if_pos hm]; rfl, ?_⟩
  rcases Nat.eq_zero_or_pos ids.length with h0 | h0
  · have hi : ids = [] := List.eq_nil_of_length_eq_zero h0
    subst hi
    exact nf_nil kind
  · have hT := top_facts hm h0
    rw [wasU, nodesU, if_neg (by omega)]
    exact top_nf hT
def makeB (kind : Int) (oids : List Int) (oll : List (List Int)) (ids : List Int) (ll : List (List Int)) (by_ : Int) : Bool := mayB kind oids oll && mayB kind ids ll && isT ids by_
def makeE (kind : Int) (oids : List Int) (oll : List (List Int)) (ids : List Int) (ll : List (List Int)) (by_ : Int) : Int := if makeB kind oids oll ids ll by_ = true then 0 else 1
def keepU (kind : Int) (oids : List Int) (oll : List (List Int)) (ids : List Int) (ll : List (List Int)) (touched : List Int) (by_ : Int) : List Int := keepT (wasU kind oids oll) ids (lfT (wasU kind oids oll) oids touched by_) (wasU kind ids ll)
def keepM (kind : Int) (oids : List Int) (oll : List (List Int)) (ids : List Int) (ll : List (List Int)) (touched : List Int) (by_ : Int) : List Int := if makeB kind oids oll ids ll by_ = true then keepU kind oids oll ids ll touched by_ else []
def stepsM (kind : Int) (oids : List Int) (oll : List (List Int)) (ids : List Int) (ll : List (List Int)) (touched : List Int) (by_ : Int) : List SI := if makeB kind oids oll ids ll by_ = true then stepsT (wasU kind ids ll) (keepU kind oids oll ids ll touched by_) (belT ids by_) 0 (wasU kind ids ll) else []
def MakePost (w : World) (kind : Int) (oids : List Int) (oll : List (List Int)) (ids : List Int) (ll : List (List Int)) (touched : List Int) (by_ : Int) (e : Ending) (w' : World) : Prop :=
  Below w.heap.size w w' ∧ ∃ Ak nk ck As ns cs, e = .returned (.tuple #[.agg (plV Ak nk ck As ns cs), .int .i64 (makeE kind oids oll ids ll by_)]) ∧ PlR w' w'.heap.size Ak nk ck As ns cs (keepM kind oids oll ids ll touched by_) (stepsM kind oids oll ids ll touched by_)
theorem plInfo2 : (Try.prog.info? 28).map (·.size) = some 2 := by kernel_rfl
def zP : Array Value := #[.slice none 0 0, .slice none 0 0]
theorem pl_ne1 : (28 : TypeId) ≠ 3 := by decide
theorem pl_ne2 : (28 : TypeId) ≠ 51 := by decide
theorem OwS.far {base : Nat} {w w' : World} {v : Value} {ss : List SI} {us : List Value} {g : Nat} {t : TypeId} {cs : Array Value} (h : OwS base w v ss us) (hg : w.grownBy w' (some g)) (hr : RowC w g t cs) (h1 : t ≠ 51) (h2 : t ≠ 3) : OwS base w' v ss us :=
  ⟨h.len, own_farT h.row hg hr h1, fun k x u hx hu => own_farT (h.sends k x u hx hu) hg hr h2⟩
theorem plR_zero (w : World) (B : Nat) : PlR w B none 0 0 none 0 0 [] [] := ⟨⟨Nat.le_refl _, by simp [maxLen]⟩, Rd.zero _ _ _, StR.zero _ _⟩
theorem nf_up {kind : Int} {ids : List Int} {L : List RN} (h : NF kind ids L) : ∀ z ∈ L, z.up = -1 ∨ ∃ u : Nat, z.up = (u : Int) ∧ u < L.length := fun z hz => by
  obtain ⟨q, hq⟩ := List.mem_iff_getElem?.1 hz
  rcases h.up q z hq with ⟨e, _⟩ | ⟨u, y, e, hy, _⟩
  · exact .inl e
  · exact .inr ⟨u, e, (List.getElem?_eq_some_iff.1 hy).1⟩
theorem lfT_in (was : List RN) (oids touched : List Int) (by_ : Int) (id : Int) : lfT was oids touched by_ id = -1 ∨ ∃ q : Nat, lfT was oids touched by_ id = (q : Int) ∧ q < was.length := by
  unfold lfT
  split
  · exact .inl rfl
  · rcases leafO_range oids id 0 was (-1) with h | ⟨j, h1, _, h3⟩
    · exact .inl h
    · exact .inr ⟨j, h1, by omega⟩
theorem gone_take {touched : List Int} {j : Nat} {x : Int} (hj : touched[j]? = some x) (id : Int) : (id ∈ touched.take (j + 1)) ↔ id = x ∨ id ∈ touched.take j := by
  obtain ⟨h, e⟩ := List.getElem?_eq_some_iff.1 hj
  rw [List.take_succ_eq_append_getElem h, List.mem_append, List.mem_singleton, e]
  exact or_comm

set_option maxRecDepth 100000 in
set_option maxHeartbeats 4000000 in
theorem PMake_any (kind : Int) (Oi : Option Addr) (oi ocap : Nat) (Ol : Option Addr) (ol olc : Nat) (oids : List Int) (oll : List (List Int)) (Ai : Option Addr) (ni ci : Nat) (Al : Option Addr) (nl cl : Nat) (ids : List Int) (ll : List (List Int)) (At : Option Addr) (nt ct : Nat) (touched : List Int) (by_ : Int) (w : World)
    (ho : ShR w w.heap.size Oi oi ocap Ol ol olc oids oll) (h : ShR w w.heap.size Ai ni ci Al nl cl ids ll) (hof : fewT oids oll = true) (hf : fewT ids ll = true) (ht : Rd w w.heap.size At nt (touched.map iv)) (hnt : nt ≤ maxLen) (h64 : makeB kind oids oll ids ll by_ = true → ∀ x ∈ touched, I64 x) (hb64 : I64 by_) :
    Calls Try.prog 18 #[.int .i64 kind, .agg (shV Oi oi ocap Ol ol olc), .agg (shV Ai ni ci Al nl cl), .slice At nt ct, .int .i64 by_] w (MakePost w kind oids oll ids ll touched by_) := by
  have hM0 := (((Ms.nil w).box 25 (shV Oi oi ocap Ol ol olc)).box 25 (shV Ai ni ci Al nl cl)).box 28 zP
  simp only [World.size_alloc] at hM0
  have hold0 := hM0.old
  have ho0 := (ho.below hold0).more hold0.size
  have h0 := (h.below hold0).more hold0.size
  have ht0 := (ht.below hold0).more hold0.size
  have hn1 := PNodes_any kind Oi oi ocap Ol ol olc oids oll _ ho0 hof
  have Hpost := Lib.hid (show ∀ Ak nk ck As ns cs er w', Below w.heap.size w w' → er = makeE kind oids oll ids ll by_ → PlR w' w'.heap.size Ak nk ck As ns cs (keepM kind oids oll ids ll touched by_) (stepsM kind oids oll ids ll touched by_) → MakePost w kind oids oll ids ll touched by_ (.returned (.tuple #[.agg (plV Ak nk ck As ns cs), .int .i64 er])) w' from fun Ak nk ck As ns cs er w' h1 h2 h3 => ⟨h1, Ak, nk, ck, As, ns, cs, by rw [h2], h3⟩)
  have Hbad := Lib.hid (show makeB kind oids oll ids ll by_ = false → ∀ w', Below w.heap.size w w' → MakePost w kind oids oll ids ll touched by_ (.returned (.tuple #[.agg zP, .int .i64 1])) w' from fun hb w' h1 => ⟨h1, none, 0, 0, none, 0, 0, by rw [makeE, hb]; rfl, by rw [keepM, stepsM, hb]; exact plR_zero _ _⟩)
  generalize MakePost w kind oids oll ids ll touched by_ = PO at *
  have Hhf := Lib.hid hf
  have Hnt := Lib.hid (show touched.length = nt by have := ht.len; rwa [List.length_map] at this)
  unfold maxLen at hnt
  have hzo : ∀ w1 : World, Below w.heap.size w w1 → Below w.heap.size w (w1.setRow (w.heap.size + 1 + 1) zP) := fun w1 hb => below_setRow hb (by omega) _
  clear ho h ht hf hof hold0
  go_enter Try.func18, Try.ntmps18
  go_wp2_with ((with_reducible show wpList _ _ _ (⟨some 23, _, _, _, _, _⟩ :: _) _ _); refine wpList_loadC (by kernel_rfl) 25 (.tmp 6) rfl w.heap.size rfl 25 (shV Oi oi ocap Ol ol olc) _ (hM0.get 2 rfl) Try.underlying25 rfl shapeInfo2 ?_)
  refine hn1.mono ?_
  rintro e w1 ⟨hb1, A, n, c, he, hN⟩
  subst he
  have hM1 := hM0.call hb1
  have ho1 := (ho0.below hb1).more hb1.size
  have h1 := (h0.below hb1).more hb1.size
  have ht1 := (ht0.below hb1).more hb1.size
  clear hM0 hn1 ho0 h0 ht0 hb1
  by_cases hmo : mayB kind oids oll = true
  rotate_left
  · have hmo' : mayB kind oids oll = false := by simpa using hmo
    have Hb := Lib.hid (show makeB kind oids oll ids ll by_ = false by rw [makeB, hmo']; rfl)
    rw [show mayE kind oids oll = 1 by rw [mayE, hmo']; rfl]
    have hr1 := hM1.get 0 rfl
    have hold := hzo _ hM1.old
    clear hM1 hN ho1 h1 ht1 hmo hmo' hzo
    go_wp2_with ((with_reducible show wpList _ _ _ (⟨none, Op.store 28 _ _, _, _, _, _⟩ :: _) _ _); refine wpList_store_row rfl 28 (.tmp 10) (.tmp 29) rfl (w.heap.size + 1 + 1) zP rfl rfl 28 _ hr1 plInfo2 rfl (by simp [zP, Value.oneCell']) ?_)
    refine bodyPost_ret (results_cell_two rfl _ _ (w.heap.size + 1 + 1) 28 zP _ rfl (hr1.row _) Try.underlying28 rfl plInfo2) rfl ?_
    exact Hbad.out Hb.out _ hold
  rw [show mayE kind oids oll = 0 by rw [mayE, hmo]; rfl]
  have hn2 := PNodes_any kind Ai ni ci Al nl cl ids ll w1 h1 Hhf.out
  go_wp2_with ((with_reducible show wpList _ _ _ (⟨some 33, _, _, _, _, _⟩ :: _) _ _); refine wpList_loadC (by kernel_rfl) 25 (.tmp 7) rfl (w.heap.size + 1) rfl 25 (shV Ai ni ci Al nl cl) _ (hM1.get 1 rfl) Try.underlying25 rfl shapeInfo2 ?_)
  refine hn2.mono ?_
  rintro e w2 ⟨hb2, B, m, d, he, hN2⟩
  subst he
  have hM2 := hM1.call hb2
  have ho2 := (ho1.below hb2).more hb2.size
  have h2 := (h1.below hb2).more hb2.size
  have ht2 := (ht1.below hb2).more hb2.size
  have hNw := (hN.below hb2).more hb2.size
  clear hM1 hn2 ho1 h1 ht1 hb2 hN
  by_cases hms : mayB kind ids ll = true
  rotate_left
  · have hms' : mayB kind ids ll = false := by simpa using hms
    have Hb := Lib.hid (show makeB kind oids oll ids ll by_ = false by rw [makeB, hms']; simp)
    rw [show mayE kind ids ll = 1 by rw [mayE, hms']; rfl]
    have hr1 := hM2.get 0 rfl
    have hold := hzo _ hM2.old
    clear hM2 hNw hN2 ho2 h2 ht2 hms hms' hzo
    go_wp2_with ((with_reducible show wpList _ _ _ (⟨none, Op.store 28 _ _, _, _, _, _⟩ :: _) _ _); refine wpList_store_row rfl 28 (.tmp 10) (.tmp 39) rfl (w.heap.size + 1 + 1) zP rfl rfl 28 _ hr1 plInfo2 rfl (by simp [zP, Value.oneCell']) ?_)
    refine bodyPost_ret (results_cell_two rfl _ _ (w.heap.size + 1 + 1) 28 zP _ rfl (hr1.row _) Try.underlying28 rfl plInfo2) rfl ?_
    exact Hbad.out Hb.out _ hold
  rw [show mayE kind ids ll = 0 by rw [mayE, hms]; rfl]
  have hfd := PFind_any Ai ni ci Al nl cl ids by_ w2 h2.hni h2.hci h2.hmi h2.hids
  obtain ⟨at_, hat_⟩ : ∃ at_, at_ = belT ids by_ := ⟨_, rfl⟩
  obtain ⟨ti, hti⟩ : ∃ ti, ti = isT ids by_ := ⟨_, rfl⟩
  rw [← hat_, ← hti] at hfd
  have Hat := Lib.hid hat_
  have Hti := Lib.hid hti
  clear hat_ hti
  go_wp2_with ((with_reducible show wpList _ _ _ (⟨some 42, _, _, _, _, _⟩ :: _) _ _); refine wpList_loadC (by kernel_rfl) 25 (.tmp 7) rfl (w.heap.size + 1) rfl 25 (shV Ai ni ci Al nl cl) _ (hM2.get 1 rfl) Try.underlying25 rfl shapeInfo2 ?_)
  refine hfd.mono ?_
  rintro e w3 ⟨he, hb3⟩
  subst he
  have hM3 := hM2.call hb3
  have ho3 := (ho2.below hb3).more hb3.size
  have h3 := (h2.below hb3).more hb3.size
  have ht3 := (ht2.below hb3).more hb3.size
  have hNw3 := (hNw.below hb3).more hb3.size
  have hNs3 := (hN2.below hb3).more hb3.size
  clear hM2 hfd ho2 h2 ht2 hb3 hNw hN2
  cases ti with
  | false =>
    have Hb := Lib.hid (show makeB kind oids oll ids ll by_ = false by rw [makeB, ← Hti.out]; simp)
    have hr1 := hM3.get 0 rfl
    have hold := hzo _ hM3.old
    clear hM3 hNw3 hNs3 ho3 h3 ht3 hzo
    go_wp2_with ((with_reducible show wpList _ _ _ (⟨none, Op.store 28 _ _, _, _, _, _⟩ :: _) _ _); refine wpList_store_row rfl 28 (.tmp 10) (.tmp 49) rfl (w.heap.size + 1 + 1) zP rfl rfl 28 _ hr1 plInfo2 rfl (by simp [zP, Value.oneCell']) ?_)
    refine bodyPost_ret (results_cell_two rfl _ _ (w.heap.size + 1 + 1) 28 zP _ rfl (hr1.row _) Try.underlying28 rfl plInfo2) rfl ?_
    exact Hbad.out Hb.out _ hold
  | true =>
    have HB := Lib.hid (show makeB kind oids oll ids ll by_ = true by rw [makeB, hmo, hms, ← Hti.out]; rfl)
    have HE := Lib.hid (show (0 : Int) = makeE kind oids oll ids ll by_ by rw [makeE, HB.out]; rfl)
    have HK := Lib.hid (show keepM kind oids oll ids ll touched by_ = keepU kind oids oll ids ll touched by_ by rw [keepM, HB.out]; rfl)
    have HS := Lib.hid (show stepsM kind oids oll ids ll touched by_ = stepsT (wasU kind ids ll) (keepU kind oids oll ids ll touched by_) at_ 0 (wasU kind ids ll) by rw [stepsM, HB.out, Hat.out]; rfl)
    obtain ⟨ew, NFw⟩ := nf_was hmo
    obtain ⟨es, NFs⟩ := nf_was hms
    rw [ew] at hNw3
    rw [es] at hNs3
    have hlw := nodesU_len kind oids oll
    have hls := nodesU_len kind ids ll
    rw [ew, List.length_map] at hlw
    rw [es, List.length_map] at hls
    have hku : keepU kind oids oll ids ll touched by_ = keepT (wasU kind oids oll) ids (lfT (wasU kind oids oll) oids touched by_) (wasU kind ids ll) := rfl
    have hoi64 : ∀ x ∈ oids, I64 x := fun x hx => by
      have hm' := hmo
      rw [mayB, Bool.and_eq_true] at hm'
      have := okI_mem (chkT_lv hm'.2).2.1 x hx
      exact ⟨by omega, by omega⟩
    have hi64 : ∀ x ∈ ids, I64 x := fun x hx => by
      have hm' := hms
      rw [mayB, Bool.and_eq_true] at hm'
      have := okI_mem (chkT_lv hm'.2).2.1 x hx
      exact ⟨by omega, by omega⟩
    generalize wasU kind oids oll = was at *
    generalize wasU kind ids ll = now at *
    generalize keepU kind oids oll ids ll touched by_ = kp at *
    have hwn : was.length = n := by have := hNw3.len; rwa [List.length_map] at this
    have hnm : now.length = m := by have := hNs3.len; rwa [List.length_map] at this
    have hpl := PPlaces_any A Oi n c oi ocap was oids w3 hNw3 ho3.hids hoi64 ho3.hci ho3.hmi (by omega) (fun x hx h0 => by
      obtain ⟨q, hq⟩ := List.mem_iff_getElem?.1 hx
      have := (NFw.leafAt hq h0).2.2
      have := ho3.hni
      omega)
    have c0 := (hM3.get 2 rfl).cell (i := 0) (v := .slice Oi oi ocap) rfl
    have Hk1 := Lib.hid (show 1 ≤ kind by
      have hm' := hms
      rw [mayB, Bool.and_eq_true, Bool.or_eq_true, decide_eq_true_eq, decide_eq_true_eq] at hm'
      omega)
    have HNFw := Lib.hid NFw
    have HNFs := Lib.hid NFs
    have Hku := Lib.hid hku
    clear ew es NFw NFs hzo hmo hms hku
    go_wp2_with fail
    refine hpl.mono ?_
    rintro e w4 ⟨bm, he, hbm, hb4, hmp⟩
    subst he
    have Hmp := Lib.hid (hmp.ext (f' := fun id => if id ∈ touched.take 0 then -1 else leafO oids id 0 was (-1)) (fun x => by simp))
    have Hb4 := Lib.hid hb4
    have HM3 := Lib.hid hM3
    clear hM3 hmp hb4 hpl c0
    go_wp2_with fail
    go_loopw [56] (fun v56 wr => ∃ j : Nat, j ≤ nt ∧ v56 = .int .i64 (j : Int) ∧ Below w3.heap.size w3 wr ∧ MapI wr bm n (fun id => if id ∈ touched.take j then -1 else leafO oids id 0 was (-1))) (fun v56 _ => nt - (intOf v56).toNat)
    case atStart => exact ⟨0, by omega, rfl, Hb4.out, Hmp.out⟩
    case round =>
      clear Hmp Hb4
      obtain ⟨j, hj, rfl, hbr, hmp⟩ := hrel
      by_cases hjn : j < nt
      · have hjt : j < touched.length := by rw [Hnt.out]; exact hjn
        have Hgt := Lib.hid (gone_take (List.getElem?_eq_getElem hjt))
        have h64x := h64 HB.out _ (List.getElem_mem hjt)
        have e1 : touched.getD j 0 = touched[j] := getD_at (List.getElem?_eq_getElem hjt)
        obtain ⟨bt, ot, rfl, _, hct⟩ := rd_num (ht3.below hbr) hjn
        rw [e1] at hct
        generalize touched[j] = x at *
        obtain ⟨w7, hrun, hmp7, hgr7⟩ := hmp.del h64x 0
        have hbr7 : Below w3.heap.size w3 w7 := hbr.grown hgr7 hbr.size (fun g hg => by injection hg with hg; subst hg; exact hbm)
        have Hm7 := Lib.hid (hmp7.ext (f' := fun id => if id ∈ touched.take (j + 1) then -1 else leafO oids id 0 was (-1)) (fun y => by
          by_cases e : y = x
          · rw [if_pos e, if_pos ((Hgt.out y).2 (.inl e))]
          · rw [if_neg e]
            by_cases e2 : y ∈ touched.take j
            · rw [if_pos e2, if_pos ((Hgt.out y).2 (.inr e2))]
            · rw [if_neg e2, if_neg (fun h => ((Hgt.out y).1 h).elim e e2)]))
        have zj : (j : Int) < (nt : Int) := by omega
        clear hmp hmp7 hgr7 e1
        go_wp2_with fail
        go_roundw
        case rel => exact ⟨j + 1, by omega, by go_num, hbr7, Hm7.out⟩
        case measure => simp [intOf]; omega
      · obtain rfl : nt = j := by omega
        have hlen : touched.take nt = touched := by rw [← Hnt.out, List.take_length]
        rw [hlen] at hmp
        obtain ⟨w6, hrun, hmp6, hgr6⟩ := hmp.del hb64 0
        have hb6 : Below w3.heap.size w3 w6 := hbr.grown hgr6 hbr.size (fun g hg => by injection hg with hg; subst hg; exact hbm)
        have hmL := hmp6.ext (f' := lfT was oids touched by_) (fun y => by
          unfold lfT goneT
          by_cases e : y = by_
          · rw [if_pos e, if_pos (by simp [e])]
          · rw [if_neg e]
            by_cases e2 : y ∈ touched
            · rw [if_pos e2, if_pos (by simp [e2])]
            · rw [if_neg e2, if_neg (by simp [e, e2])])
        have hM6 := HM3.out.call hb6
        have hkq : ∀ (q : Nat) (x : RN), now[q]? = some x → ∀ k ∈ x.kids, k < q := fun q x hx k hk => (HNFs.out.kidUp hx hk).choose_spec.2.2
        have hpk := PKept_any A B Ai n c m d ni ci was now ids (lfT was oids touched by_) bm n w6 ((hNw3.below hb6).more hb6.size) ((hNs3.below hb6).more hb6.size) ((h3.hids.below hb6).more hb6.size) hmL hi64 (by omega) (by omega)
          (fun x hx h0 => by
            obtain ⟨q, hq⟩ := List.mem_iff_getElem?.1 hx
            have := (HNFs.out.leafAt hq h0).2.2
            have := h3.hni
            omega)
          (fun x hx => by
            obtain ⟨q, hq⟩ := List.mem_iff_getElem?.1 hx
            exact HNFs.out.kids0 hq) hkq (nf_up HNFw.out) (lfT_in was oids touched by_)
        have c0 := (hM6.get 1 rfl).cell (i := 0) (v := .slice Ai ni ci) rfl
        clear hmp hmL hmp6 hgr6
        go_wp2_with fail
        refine hpk.mono ?_
        rintro e w7 ⟨g, he, hb7, hkown⟩
        subst he
        have hM7 := hM6.call hb7
        have hb37 := hb6.trans (hb7.mono hb6.size)
        have hst := PSteps_any B (some ⟨g, 0, none⟩) m d m now kp at_ w7 ((hNs3.below hb37).more hb37.size) (by rw [Hku.out]; exact Rd.of_own hkown) (by omega) hkq (fun x hx => by
          have h1 := (HNFs.out.ok x hx).2.1
          have h2 := (HNFs.out.ok x hx).1
          have h4 : (x.kids.length : Int) ≤ 4 - kind := h1
          have hk12 : 1 ≤ kind := Hk1.out
          omega)
        clear hpk hM6 c0
        go_wp2_with fail
        refine hst.mono ?_
        rintro e w8 ⟨As, cs, us, he, hb8, hS⟩
        subst he
        have hM8 := hM7.call hb8
        have hk8 := own_below hkown hb8
        have hrP := hM8.get 0 rfl
        obtain ⟨vP, hvP⟩ : ∃ vP, vP = plV (some ⟨g, 0, none⟩) m m As (stepsT now kp at_ 0 now).length cs := ⟨_, rfl⟩
        have hgP := grown_setRow w8 (w.heap.size + 1 + 1) (plV (some ⟨g, 0, none⟩) m m As (stepsT now kp at_ 0 now).length cs)
        have hk9 := own_farT hk8 hgP hrP pl_ne1
        have hS9 := hS.far hgP hrP pl_ne2 pl_ne1
        have hold9 : Below w.heap.size w (w8.setRow (w.heap.size + 1 + 1) (plV (some ⟨g, 0, none⟩) m m As (stepsT now kp at_ 0 now).length cs)) := below_setRow hM8.old (by omega) _
        have hPl : PlR (w8.setRow (w.heap.size + 1 + 1) (plV (some ⟨g, 0, none⟩) m m As (stepsT now kp at_ 0 now).length cs)) (w8.setRow (w.heap.size + 1 + 1) (plV (some ⟨g, 0, none⟩) m m As (stepsT now kp at_ 0 now).length cs)).heap.size (some ⟨g, 0, none⟩) m m As (stepsT now kp at_ 0 now).length cs (keepM kind oids oll ids ll touched by_) (stepsM kind oids oll ids ll touched by_) := by
          rw [HK.out, HS.out]
          exact ⟨⟨Nat.le_refl _, by unfold maxLen; omega⟩, by have hr9 := Rd.of_own hk9; rw [← Hku.out] at hr9; exact hr9, hS9.told⟩
        have HPl := Lib.hid (Hpost.out _ _ _ _ _ _ _ _ hold9 HE.out hPl)
        clear hM7 hst hM8 hk8 hk9 hS9 hgP hPl hkown hS hold9 hvP
        go_wp2_with ((with_reducible show wpList _ _ _ (⟨none, Op.store 28 _ _, _, _, _, _⟩ :: _) _ _); refine wpList_store_row rfl 28 (.tmp 10) (.tmp 76) rfl (w.heap.size + 1 + 1) (plV (some ⟨g, 0, none⟩) m m As (stepsT now kp at_ 0 now).length cs) rfl rfl 28 _ hrP plInfo2 rfl (by simp [plV, Value.oneCell']) ?_)
        refine bodyPost_ret (results_cell_two rfl _ _ (w.heap.size + 1 + 1) 28 (plV (some ⟨g, 0, none⟩) m m As (stepsT now kp at_ 0 now).length cs) _ rfl (hrP.row _) Try.underlying28 rfl plInfo2) rfl ?_
        exact HPl.out

end Go.Proofs.Ytmganbdbihjbmaa

