import Derived.Test.YtmganbdbihjbmaaG39
import Derived.Test.YtmganbdbihjbmaaG45
import Derived.Test.YtmganbdbihjbmaaG46
/-
  THE WALK of PlanWay (coterielaw12).
-/
set_option linter.unusedVariables false
namespace Go.Proofs.Ytmganbdbihjbmaa
open Go.RowKit

/-- all that the walk asks of a way, and of what Make tells -/
structure PWF (kind : Int) (ids : List Int) (ll : List (List Int)) (id : Int) (P : List Nat) (ss : List SI) (kp B : List Int) : Prop where
  pos : 0 < P.length
  len : ss.length + 1 = P.length
  plen : P.length ≤ 3000
  step : ∀ (i : Nat) (h1 : i + 1 < P.length), ∃ x, ss[i]? = some x ∧ x.node = (P[i + 1] : Nat) ∧ x.from_ = (P[i] : Nat)
  flat : B = (ss.map SI.send).flatten
  three : ∀ x ∈ ss, x.send.length ≤ 3
  keep : ∀ (k : Nat), k < kp.length → kpA kp k = if k ∈ P then -1 else (k : Int)
  klen : kp.length ≤ 2000
theorem pwf_facts {kind : Int} {ids : List Int} {ll : List (List Int)} {id : Int} (hB : makeB kind ids ll ids ll id = true) : PWF kind ids ll id (pathI kind ids ll id) (stepsM kind ids ll ids ll [] id) (keepM kind ids ll ids ll [] id) (besI kind ids ll id) := by
  have hB' := hB
  rw [makeB, Bool.and_eq_true, Bool.and_eq_true] at hB'
  obtain ⟨⟨hm, _⟩, hi⟩ := hB'
  have h0 : 0 < ids.length := by
    cases ids with
    | nil => simp [isT] at hi
    | cons x l => simp
  have hT := top_facts hm h0
  obtain ⟨hpa, hpl⟩ := path_top hT hm hi
  have hbs := bes_top hT hm hi
  have hW := way_top hT hpl
  have hn := top_nf hT
  have hls := nodesU_len kind ids ll
  have hwas : wasU kind ids ll = (treeOf kind (lvN ll) (lvN ll).length 0).flat 0 (-1) := by rw [wasU, nodesU, if_neg (by omega)]
  have hid : ids.getD (belT ids id) 0 = id := by
    obtain ⟨hb, e⟩ := rise_bel ids id hT.rise hi
    rw [getD_at (List.getElem?_eq_getElem hb), e]
  have hk1 : 1 ≤ kind := by rcases hT.k12 with h | h <;> omega
  rw [hpa, hbs]
  have hkM : keepM kind ids ll ids ll [] id = keepT ((treeOf kind (lvN ll) (lvN ll).length 0).flat 0 (-1)) ids (lfT ((treeOf kind (lvN ll) (lvN ll).length 0).flat 0 (-1)) ids [] id) ((treeOf kind (lvN ll) (lvN ll).length 0).flat 0 (-1)) := by rw [keepM, if_pos hB, keepU, hwas]
  have hsM : stepsM kind ids ll ids ll [] id = stepsT ((treeOf kind (lvN ll) (lvN ll).length 0).flat 0 (-1)) (keepT ((treeOf kind (lvN ll) (lvN ll).length 0).flat 0 (-1)) ids (lfT ((treeOf kind (lvN ll) (lvN ll).length 0).flat 0 (-1)) ids [] id) ((treeOf kind (lvN ll) (lvN ll).length 0).flat 0 (-1))) (belT ids id) 0 ((treeOf kind (lvN ll) (lvN ll).length 0).flat 0 (-1)) := by rw [stepsM, if_pos hB, keepU, hwas]
  have hwl : ((treeOf kind (lvN ll) (lvN ll).length 0).flat 0 (-1)).length ≤ 2000 := by
    have := hls
    rw [hT.nodes, List.length_map] at this
    exact this
  rw [hkM, hsM]
  generalize (treeOf kind (lvN ll) (lvN ll).length 0) = T at *
  have hws := way_wsteps hn hW hpl
  have hwk := way_keep hn hW hpl
  rw [hid] at hws hwk
  have hPne : T.path 0 (belT ids id) ≠ [] := by
    obtain ⟨a, t, x, e, _⟩ := hW.first
    rw [e]; simp
  have hthree := steps_three (kp := keepT (T.flat 0 (-1)) ids (lfT (T.flat 0 (-1)) ids [] id) (T.flat 0 (-1))) (at_ := belT ids id) (nf_three hn hk1) 0 (T.flat 0 (-1)) (fun x hx => hx)
  rw [hws] at hthree ⊢
  have hlen := wsteps_len (T.flat 0 (-1)) _ hPne
  have hkl := keepT_len (was := T.flat 0 (-1)) (ids := ids) (lf := lfT (T.flat 0 (-1)) ids [] id) (T.flat 0 (-1))
  refine ⟨by have := List.length_pos_iff.2 hPne; exact this, hlen, ?_, fun i h1 => ⟨_, wsteps_at _ _ i h1, rfl, rfl⟩, (wsteps_flat _ _).symm, hthree, fun k hk => ?_, by rw [hkl]; exact hwl⟩
  · have := pathI_len kind ids ll id
    rw [hpa] at this
    omega
  · exact hwk k _ (List.getElem?_eq_getElem (by rw [hkl] at hk; exact hk))

set_option maxRecDepth 100000 in
set_option maxHeartbeats 16000000 in
theorem walk_PlanWay (kind : Int) (Ai : Option Addr) (ni ci : Nat) (Al : Option Addr) (nl cl : Nat) (ids : List Int) (ll : List (List Int)) (id : Int) (w : World)
    (h : ShR w w.heap.size Ai ni ci Al nl cl ids ll) (hb1 : -9223372036854775808 ≤ id) (hb2 : id ≤ 9223372036854775807) :
    Calls Try.prog 7 #[.int .i64 kind, .agg (shV Ai ni ci Al nl cl), .int .i64 id] w fun e w' => e = .returned (.bool true) ∧ Below w.heap.size w w' := by
  have hM0 := (Ms.nil w).box 25 (shV Ai ni ci Al nl cl)
  have Hs := Lib.hid (fun wx (hb : Below w.heap.size w wx) => (h.below hb).more hb.size)
  clear h
  go_enter Try.func7, Try.ntmps7
  go_wp2_with fail
  refine (live12 _).mono ?_
  rintro e w1 ⟨he, hb1'⟩
  subst he
  have hM1 := hM0.call hb1'
  clear hM0 hb1'
  have hf1 := Few12_any Ai ni ci Al nl cl ids ll none 0 0 _ (Hs.out _ hM1.old)
  obtain ⟨f1, hf1e⟩ : ∃ f1, f1 = fewL ids ll 0 := ⟨_, rfl⟩
  rw [← hf1e] at hf1
  have Hf1 := Lib.hid hf1e
  clear hf1e
  go_wp2_with ((with_reducible show wpList _ _ _ (⟨some 25, _, _, _, _, _⟩ :: _) _ _); refine wpList_loadC (by kernel_rfl) 25 (.tmp 4) rfl w.heap.size rfl 25 (shV Ai ni ci Al nl cl) _ (hM1.get 0 rfl) Try.underlying25 rfl shapeInfo2 ?_)
  refine hf1.mono ?_
  rintro e w3 ⟨he, hb2'⟩
  subst he
  have hM3 := hM1.call hb2'
  have hold3 := hM3.old
  clear hM1 hb2' hf1
  cases f1 with
  | false =>
    clear hM3
    go_wp2_with fail
    go_ret
    exact ⟨rfl, hold3⟩
  | true =>
    have hfs : fewT ids ll = true := by have := Hf1.out; rw [fewL, Bool.and_assoc] at this; simp only [Bool.true_eq, Bool.and_eq_true] at this; exact this.1
    have hmk := PMake_any kind Ai ni ci Al nl cl ids ll Ai ni ci Al nl cl ids ll none 0 0 [] id w3 (Hs.out _ hold3) (Hs.out _ hold3) hfs hfs (Rd.zero _ _ _) (by simp) (fun _ x hx => by simp at hx) ⟨hb1, hb2⟩
    go_wp2_with (first
      | ((with_reducible show wpList _ _ _ (⟨some 31, _, _, _, _, _⟩ :: _) _ _); refine wpList_loadC (by kernel_rfl) 25 (.tmp 4) rfl w.heap.size rfl 25 (shV Ai ni ci Al nl cl) _ (hM3.get 0 rfl) Try.underlying25 rfl shapeInfo2 ?_)
      | ((with_reducible show wpList _ _ _ (⟨some 32, _, _, _, _, _⟩ :: _) _ _); refine wpList_loadC (by kernel_rfl) 25 (.tmp 4) rfl w.heap.size rfl 25 (shV Ai ni ci Al nl cl) _ (hM3.get 0 rfl) Try.underlying25 rfl shapeInfo2 ?_))
    refine hmk.mono ?_
    rintro e w4 ⟨hb4, Ak, nk, ck, As, ns, cs, he, hPl⟩
    subst he
    have hM4 := (hM3.call hb4).put 28 zP (plV Ak nk ck As ns cs)
    have hB5 := below_setRow ((Below.refl w4.heap.size w4).alloc (Nat.le_refl _) (.cells zP 28)) (Nat.le_refl _) (plV Ak nk ck As ns cs)
    have hPl5 := hPl.below hB5
    clear hM3 hmk hb4 hold3 hPl
    go_upto_region 5 with ((with_reducible show wpList _ _ _ (⟨none, Op.store 28 _ _, _, _, _, _⟩ :: _) _ _); refine wpList_store_row rfl 28 (.tmp 8) (.tmp 35) rfl w4.heap.size (plV Ak nk ck As ns cs) rfl rfl 28 zP (RowC.new _ _ _) plInfo2 rfl (by simp [plV, Value.oneCell']) ?_)
    try simp only [Act.put]
    obtain ⟨g2, hg2⟩ : ∃ g, g = w4.heap.size := ⟨_, rfl⟩
    rw [← hg2] at hM4 hPl5 ⊢
    refine wp_gen (fun wx => Ms w wx [(g2, 28, plV Ak nk ck As ns cs), (w.heap.size, 25, shV Ai ni ci Al nl cl)] ∧ PlR wx g2 Ak nk ck As ns cs (keepM kind ids ll ids ll [] id) (stepsM kind ids ll ids ll [] id)) ⟨hM4, hPl5⟩ ?_
    clear hM4 hPl5 hB5 hg2
    rintro w5 ⟨hM5, hPl⟩
    have hpa := PPath_any11 kind Ai ni ci Al nl cl ids ll id w5 (Hs.out _ hM5.old) hfs
    go_wp2_with ((with_reducible show wpList _ _ _ (⟨some 39, _, _, _, _, _⟩ :: _) _ _); refine wpList_loadC (by kernel_rfl) 25 (.tmp 4) rfl w.heap.size rfl 25 (shV Ai ni ci Al nl cl) _ (hM5.get 1 rfl) Try.underlying25 rfl shapeInfo2 ?_)
    refine hpa.mono ?_
    rintro e w6 ⟨hb6, Ap, n, cp, he, hcp, hmp, hrp⟩
    subst he
    have hM6 := hM5.call hb6
    have hgl := (hM5.get 0 rfl).lt
    have hPl6 := hPl.below (hb6.mono (Nat.le_of_lt hgl))
    clear hM5 hpa hb6 hPl hgl
    have hbs := PBeside_any kind Ai ni ci Al nl cl ids ll id w6 (Hs.out _ hM6.old) hfs
    go_wp2_with ((with_reducible show wpList _ _ _ (⟨some 46, _, _, _, _, _⟩ :: _) _ _); refine wpList_loadC (by kernel_rfl) 25 (.tmp 4) rfl w.heap.size rfl 25 (shV Ai ni ci Al nl cl) _ (hM6.get 1 rfl) Try.underlying25 rfl shapeInfo2 ?_)
    refine hbs.mono ?_
    rintro e w7 ⟨hb7, Ab, nb, cb, he, hcb, hmb, hrb⟩
    subst he
    have hM7 := hM6.call hb7
    have hgl := (hM6.get 0 rfl).lt
    have hPl7 := hPl6.below (hb7.mono (Nat.le_of_lt hgl))
    have hrp7 := (hrp.below hb7).more hb7.size
    have hold7 := hM7.old
    have hrP := hM7.get 0 rfl
    have hgl7 := hrP.lt
    have c0 := hrP.cell (i := 0) (v := .slice Ak nk ck) rfl
    have c1 := hrP.cell (i := 1) (v := .slice As ns cs) rfl
    clear hM6 hbs hb7 hPl6 hgl hrp hM7
    obtain ⟨bm, hbm⟩ : ∃ bm, bm = makeB kind ids ll ids ll id := ⟨_, rfl⟩
    cases bm with
    | false =>
      rw [show makeE kind ids ll ids ll id = 1 by rw [makeE, ← hbm]; rfl]
      have hpe : pathE kind ids ll id = 1 ∨ pathE kind ids ll id = 6 := by
        rw [makeB] at hbm
        rw [pathE]
        cases hm : mayB kind ids ll with
        | false => exact .inl rfl
        | true =>
          rw [hm] at hbm
          have : isT ids id = false := by simpa using hbm.symm
          rw [this]
          exact .inr rfl
      generalize pathE kind ids ll id = pe at *
      clear hPl7 hrp7 hrb hbm
      rcases hpe with rfl | rfl
      all_goals
        go_wp2_with fail
        go_ret
        exact ⟨rfl, hold7⟩
    | true =>
      rw [show makeE kind ids ll ids ll id = 0 by rw [makeE, ← hbm]; rfl]
      have hpe : pathE kind ids ll id = 0 := by
        have := hbm.symm
        rw [makeB, Bool.and_eq_true, Bool.and_eq_true] at this
        rw [pathE, if_pos this.1.1, if_pos this.2]
      rw [hpe]
      have PW := pwf_facts hbm.symm
      generalize stepsM kind ids ll ids ll [] id = ss at *
      generalize keepM kind ids ll ids ll [] id = kp at *
      generalize pathI kind ids ll id = P at *
      generalize besI kind ids ll id = B at *
      have hns : ss.length = ns := hPl7.steps.len
      have hnk : kp.length = nk := by have := hPl7.keep.len; rwa [List.length_map] at this
      have hnp : P.length = n := by have := hrp7.len; rwa [kidV, List.length_map] at this
      have hnb : B.length = nb := by have := hrb.len; rwa [List.length_map] at this
      have hsum : sendsT ss = nb := by rw [← hnb, PW.flat, flat_len]
      have hPl8 := hPl7.more (Nat.le_of_lt hgl7)
      have hsml := sends_small ss PW.three
      have hplen := PW.plen
      have hlen := PW.len
      have hkl := PW.klen
      rw [hns] at hlen
      rw [hnp] at hlen hplen
      rw [hns] at hsml
      rw [hnk] at hkl
      have hsd := PSends_any Ak nk ck As ns cs kp ss w7 hPl8 (fun j => by
        have h1 := sends_small (ss.take j) (fun x hx => PW.three x (List.mem_of_mem_take hx))
        rw [List.length_take] at h1
        omega)
      rw [hsum] at hsd
      have Hns := Lib.hid hns
      have Hnp := Lib.hid hnp
      have Hnb := Lib.hid hnb
      have Hnk := Lib.hid hnk
      have HPW := Lib.hid PW
      have hcP := hPl8.kcap
      have hcS := hPl8.steps.cap
      unfold maxLen at hcP hcS hmp hmb
      subst hlen
      have zs1 : IntKind.i64.wrap ((ns : Int) + 1 - 1) = (ns : Int) := by rw [IntKind.wrap_i64]; omega
      have zs2 : IntKind.i64.wrap (((ns + 1 : Nat) : Int) - 1) = (ns : Int) := by rw [IntKind.wrap_i64]; omega
      have hnb2 : nb ≤ 9000 := by omega
      clear hbm hpe PW hns hnp hnb hnk hPl7 hsum
      go_wp2_with fail
      refine hsd.mono ?_
      rintro e w8 ⟨he, hb8⟩
      subst he
      have hold8 := hold7.trans (hb8.mono hold7.size)
      have hPl9 := (hPl8.below hb8).more hb8.size
      have hrp9 := (hrp7.below hb8).more hb8.size
      have hrb9 := (hrb.below hb8).more hb8.size
      have hrP9 := hrP.call hb8
      have c0 := hrP9.cell (i := 0) (v := .slice Ak nk ck) rfl
      have c1 := hrP9.cell (i := 1) (v := .slice As ns cs) rfl
      clear hsd hold7 hPl8 hrp7 hrb hrP hgl7 hb8
      go_wp2_with fail
      go_loopw [14, 91] (fun v14 v91 wr => ∃ i : Nat, i ≤ ns ∧ v91 = .int .i64 (i : Int) ∧ v14 = .int .i64 ((sendsT (ss.take i) : Nat) : Int) ∧ Ms w8 wr []) (fun _ v91 _ => ns - (intOf v91).toNat)
      case atStart => exact ⟨0, by omega, rfl, rfl, Ms.nil _⟩
      case round =>
        obtain ⟨i, hi, rfl, rfl, hM⟩ := hrel
        have hold := hM.old
        by_cases hin : i < ns
        · have hip : i + 1 < P.length := by rw [Hnp.out]; omega
          obtain ⟨x, hx, hxn, hxf⟩ := HPW.out.step i hip
          have e1 : (castL P).getD (i + 1) 0 = ((P[i + 1] : Nat) : Int) := getD_at (by rw [castL, List.getElem?_map, List.getElem?_eq_getElem hip]; rfl)
          have e0 : (castL P).getD i 0 = ((P[i]'(by omega) : Nat) : Int) := getD_at (by rw [castL, List.getElem?_map, List.getElem?_eq_getElem (show i < P.length by omega)]; rfl)
          have Hsum := Lib.hid (sends_take hx)
          have Hfl := Lib.hid (fun (t : Nat) (k : Int) (hk : x.send[t]? = some k) => flat_at ss i x t k hx hk)
          have hx3 := HPW.out.three x (List.mem_of_getElem? hx)
          have hsl : sendsT (ss.take i) + x.send.length ≤ nb := by
            rw [← sends_take hx, ← Hnb.out, HPW.out.flat, flat_len]
            have := flat_len ss
            have h2 : sendsT ss = sendsT (ss.take (i + 1)) + sendsT (ss.drop (i + 1)) := by
              rw [sendsT, sendsT, sendsT, ← List.sum_append, ← List.map_append, List.take_append_drop]
            omega
          obtain ⟨bb, o, Au, cu, rfl, hbb, hrg, hcu, hmu, hku⟩ := (hPl9.steps.below hold).told _ _ hx
          have hP := hM.put 51 zS (siC x (.slice Au x.send.length cu)).toArray
          have hbl := below_setRow ((Below.refl wr.heap.size wr).alloc (Nat.le_refl _) (.cells zS 51)) (Nat.le_refl _) (siC x (.slice Au x.send.length cu)).toArray
          have hku6 := hku.below (hbl.mono hold.size)
          have zi : (i : Int) < (ns : Int) := by omega
          go_upto_region 15 with (first
            | ((with_reducible show wpList _ _ _ (⟨some 95, _, _, _, _, _⟩ :: _) _ _); refine wpList_load_midG (by kernel_rfl) 51 (.tmp 94) rfl bb (o + i * 3) rfl (siC x (.slice Au x.send.length cu)) _ hrg Try.underlying51 rfl stInfo2 ?_)
            | ((with_reducible show wpList _ _ _ (⟨none, Op.store 51 _ _, _, _, _, _⟩ :: _) _ _); refine wpList_store_row rfl 51 (.tmp 16) (.tmp 95) rfl wr.heap.size (siC x (.slice Au x.send.length cu)).toArray rfl rfl 51 zS (RowC.new _ _ _) stInfo2 rfl (by simp [siC, Value.oneCell']) ?_))
          try simp only [Act.put]
          obtain ⟨g1, hg1⟩ : ∃ g1, g1 = wr.heap.size := ⟨_, rfl⟩
          rw [← hg1] at hP hku6 ⊢
          refine wp_gen (fun wx => Ms w8 wx [(g1, 51, (siC x (.slice Au x.send.length cu)).toArray)] ∧ Rd wx w8.heap.size Au x.send.length (x.send.map iv)) ⟨hP, hku6⟩ ?_
          clear hP hrg hM hg1 hold hbl hku6 hku
          rintro w9 ⟨hM, hku⟩
          have hMd := hM.drew
          have hold := hMd.old
          have p0 : w9.drew.cell? ⟨g1, 0, none⟩ = some (.int .i64 ((P[i + 1] : Nat) : Int)) := by rw [← hxn]; exact (hMd.get 0 rfl).cell (i := 0) rfl
          have p1 : w9.drew.cell? ⟨g1, 1, none⟩ = some (.int .i64 ((P[i]'(by omega) : Nat) : Int)) := by rw [← hxf]; exact (hMd.get 0 rfl).cell (i := 1) rfl
          have p2 := (hMd.get 0 rfl).cell (i := 2) (v := .slice Au x.send.length cu) rfl
          have hrq := hrp9.below hold
          rw [show kidV P = (castL P).map iv from (castL_iv P).symm] at hrq
          obtain ⟨bp, op, rfl, _, q1⟩ := rd_num hrq (k := i + 1) (by omega)
          obtain ⟨bp', op', e3, _, q0⟩ := rd_num hrq (k := i) (by omega)
          injection e3 with e3
          injection e3 with e3 e4
          subst e3 e4
          rw [e1] at q1
          rw [e0] at q0
          have hku9 : Rd w9.drew w8.heap.size Au x.send.length (x.send.map iv) := hku.drew
          have HM := Lib.hid (show Ms w8 w9.drew [] from ⟨hold, fun p hp => by cases hp⟩)
          have q1' : w9.drew.cell? ⟨bp, op + (i + 1), none⟩ = some (.int .i64 ((P[i + 1] : Nat) : Int)) := q1
          generalize P[i + 1] = pa at *
          generalize P[i]'_ = pb at *
          have zw : IntKind.i64.wrap ((i : Int) + 1) = (i : Int) + 1 := by rw [IntKind.wrap_i64]; omega
          have z1 : (0 : Int) ≤ (i : Int) + 1 := by omega
          have z2 : (i : Int) + 1 < (ns : Int) + 1 := by omega
          have z2' : (i : Int) + 1 < ((ns + 1 : Nat) : Int) := by omega
          have z3 : (i : Int) < ((ns + 1 : Nat) : Int) := by omega
          have z3' : (i : Int) < (ns : Int) + 1 := by omega
          have z4 : ((i : Int) + 1).toNat = i + 1 := by omega
          clear hM hMd hrq e1 e0 hxn hxf hku
          refine wp_region_still_lit (by kernel_rfl) (by kernel_rfl) ?_
          repeat (with_reducible refine wpStill_step (fun K hK => ?_); go_simp; with_reducible refine hK _ ?_; clear hK K)
          with_reducible refine wpStill_nil ?_
          change Exit.then _ _ Exit.normal _ w9.drew
          generalize w9.drew = wA at *
          generalize hq : sendsT (ss.take i) = q at *
          clear p0 p1 q0 q1 q1'
          go_wp2_with fail
          go_loopw [14, 116] (fun v14 v116 wx => ∃ (t r : Nat), t ≤ x.send.length ∧ v116 = .int .i64 (t : Int) ∧ r = q + t ∧ v14 = .int .i64 (r : Int) ∧ wx = wA) (fun _ v116 _ => x.send.length - (intOf v116).toNat)
          case atStart => exact ⟨0, q, by omega, rfl, rfl, rfl, rfl⟩
          case round =>
            obtain ⟨t, r, ht, rfl, hr, rfl, rfl⟩ := hrel
            by_cases htl : t < x.send.length
            · have e5 : x.send.getD t 0 = x.send[t] := getD_at (List.getElem?_eq_getElem htl)
              have hBk := Hfl.out t _ (List.getElem?_eq_getElem htl)
              rw [← HPW.out.flat, ← hr] at hBk
              have e6 : B.getD r 0 = x.send[t] := getD_at hBk
              obtain ⟨bu, ou, rfl, _, k1⟩ := rd_num hku9 htl
              have hrn : r < nb := by omega
              obtain ⟨bB, oB, rfl, _, k2⟩ := rd_num (hrb9.below hold) hrn
              rw [e5] at k1
              rw [e6] at k2
              generalize x.send[t] = k at *
              have Hr := Lib.hid hr
              have zt : (t : Int) < (x.send.length : Int) := by omega
              have zr1 : decide ((nb : Int) ≤ (r : Int)) = false := decide_eq_false (by omega)
              have zr2 : ¬ (nb : Int) ≤ (r : Int) := by omega
              have zr3 : (r : Int) < (nb : Int) := by omega
              have zr4 : IntKind.i64.wrap ((r : Int) + 1) = (r : Int) + 1 := by rw [IntKind.wrap_i64]; omega
              clear e5 e6 hBk p2 hr
              go_wp2_with fail
              go_roundw
              case rel => exact ⟨t + 1, r + 1, by omega, by go_num, by have := Hr.out; omega, by go_num, trivial⟩
              case measure => simp [intOf]; omega
            · obtain rfl : t = x.send.length := by omega
              have Hr2 := Lib.hid (Hsum.out.trans hr.symm)
              clear p2 hku9 hr
              go_wp2_with fail
              go_roundw
              case rel => exact ⟨i + 1, by omega, by go_num, by rw [Hr2.out], HM.out⟩
              case measure => simp [intOf]; omega
        · obtain rfl : ns = i := by omega
          have c0 := (hrP9.call hold).cell (i := 0) (v := .slice Ak nk ck) rfl
          have hk10 := hPl9.keep.below hold
          have hrp10 := hrp9.below hold
          have hold10 := hold8.trans (hold.mono hold8.size)
          have HP0 := Lib.hid (List.length_pos_iff.1 HPW.out.pos)
          clear hM
          go_wp2_with fail
          go_loopw [139] (fun v139 wx => ∃ k : Nat, k ≤ nk ∧ v139 = .int .i64 (k : Int) ∧ wx = wr) (fun v139 _ => nk - (intOf v139).toNat)
          case atStart => exact ⟨0, by omega, rfl, rfl⟩
          case round =>
            obtain ⟨k, hk, rfl, rfl⟩ := hrel
            by_cases hkn : k < nk
            · have hkv := HPW.out.keep k (by rw [Hnk.out]; exact hkn)
              obtain ⟨bk, ok, rfl, _, ck1⟩ := rd_num hk10 hkn
              rw [← kpA, hkv] at ck1
              have zk : (k : Int) < (nk : Int) := by omega
              obtain ⟨onv, honv⟩ : ∃ onv, onv = inT P (k : Int) := ⟨_, rfl⟩
              obtain ⟨old, hold_⟩ : ∃ old, old = (if k ∈ P then (-1 : Int) else (k : Int)) := ⟨_, rfl⟩
              rw [← hold_] at ck1
              have hcs : (onv = true ∧ old = -1) ∨ (onv = false ∧ old = (k : Int)) := by
                by_cases hkP : k ∈ P
                · exact .inl ⟨by rw [honv]; exact inT_mem.2 hkP, by rw [hold_, if_pos hkP]⟩
                · refine .inr ⟨?_, by rw [hold_, if_neg hkP]⟩
                  rw [honv, Bool.eq_false_iff]
                  exact fun h => hkP (inT_mem.1 h)
              clear hkv hold_
              go_wp2_with fail
              go_loopw [21, 146] (fun v21 v146 wy => ∃ t : Nat, t ≤ ns + 1 ∧ v146 = .int .i64 (t : Int) ∧ v21 = .bool (inT (P.take t) (k : Int)) ∧ wy = wr) (fun _ v146 _ => ns + 1 - (intOf v146).toNat)
              case atStart => exact ⟨0, by omega, rfl, rfl, rfl⟩
              case round =>
                obtain ⟨t, ht, rfl, rfl, rfl⟩ := hrel
                by_cases htm : t < ns + 1
                · have htp : t < P.length := by rw [Hnp.out]; exact htm
                  have hrq := hrp10
                  rw [show kidV P = (castL P).map iv from (castL_iv P).symm] at hrq
                  obtain ⟨b2, o2, rfl, _, c4⟩ := rd_num hrq htm
                  have e7 : (castL P).getD t 0 = ((P[t] : Nat) : Int) := getD_at (by rw [castL, List.getElem?_map, List.getElem?_eq_getElem htp]; rfl)
                  rw [e7] at c4
                  have Hin := Lib.hid (show inT (P.take (t + 1)) (k : Int) = (inT (P.take t) (k : Int) || ((P[t] : Int) == (k : Int))) by rw [List.take_succ_eq_append_getElem htp, inT_snoc])
                  generalize P[t] = y at *
                  have zt : (t : Int) < ((ns + 1 : Nat) : Int) := by omega
                  have zt' : (t : Int) < (ns : Int) + 1 := by omega
                  obtain ⟨bb, hbb2⟩ : ∃ bb, bb = inT (P.take t) (k : Int) := ⟨_, rfl⟩
                  rw [← hbb2] at Hin ⊢
                  clear hbb2 e7 hrq
                  cases bb with
                  | true =>
                    go_wp2_with fail
                    go_roundw
                    case rel => exact ⟨t + 1, by omega, by go_num, by rw [Hin.out]; rfl, trivial⟩
                    case measure => simp [intOf]; omega
                  | false =>
                    go_wp2_with fail
                    go_roundw
                    case rel => exact ⟨t + 1, by omega, by go_num, by rw [Hin.out]; rfl, trivial⟩
                    case measure => simp [intOf]; omega
                · obtain rfl : t = ns + 1 := by omega
                  have hfull : P.take (ns + 1) = P := by rw [← Hnp.out, List.take_length]
                  rw [hfull, ← honv]
                  clear hfull honv
                  rcases hcs with ⟨rfl, rfl⟩ | ⟨rfl, rfl⟩
                  · go_wp2_with fail
                    go_roundw
                    case rel => exact ⟨k + 1, by omega, by go_num, trivial⟩
                    case measure => simp [intOf]; omega
                  · have zk0 : decide ((k : Int) < 0) = false := decide_eq_false (by omega)
                    have zk1 : ¬ (k : Int) < 0 := by omega
                    have zk2 : decide ((0 : Int) ≤ (k : Int)) = true := decide_eq_true (by omega)
                    have zk3 : (0 : Int) ≤ (k : Int) := by omega
                    go_wp2_with fail
                    go_roundw
                    case rel => exact ⟨k + 1, by omega, by go_num, trivial⟩
                    case measure => simp [intOf]; omega
            · obtain rfl : k = nk := by omega
              go_wp2_with fail
              go_ret
              exact ⟨rfl, hold10⟩

end Go.Proofs.Ytmganbdbihjbmaa

