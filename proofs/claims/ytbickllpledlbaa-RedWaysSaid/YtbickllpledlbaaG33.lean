import Derived.Test.YtbickllpledlbaaG32
import Derived.Test.YtbickllpledlbaaG30
import Derived.Test.YtbickllpledlbaaG27
/-
  CONTRACT of the program's taken (tree): one member fewer, in rows of the call's own. Printed by gen_treetaken.py.
-/
set_option linter.unusedVariables false
namespace Go.Proofs.Ytbickllpledlbaa
open Go.RowKit

theorem delL_nbr (l l2 : List Nat) (ls : List (List Nat)) (a : Nat) : delL (l :: l2 :: ls) a =
    if l[grpT l a]? = some 3 then l.set (grpT l a) 2 :: l2 :: ls
    else if l[nbrT l2 (grpT l a)]? = some 3 then ((l.set (nbrT l2 (grpT l a)) 2).set (grpT l a) 2) :: l2 :: ls
    else ((l.set (nbrT l2 (grpT l a)) 3).eraseIdx (grpT l a)) :: delL (l2 :: ls) (grpT l a) := by
  rw [delL_two]
  unfold nbrT
  split
  · rfl
  · split <;> rfl
theorem nbr_ok {l2 : List Nat} {k : Nat} (h2 : two3 l2) (hk : k < l2.sum) : nbrT l2 k < l2.sum ∧ nbrT l2 k ≠ k := by
  obtain ⟨j1, j2, j3⟩ := grpT_spec l2 k hk
  have hj := startT_succ l2 j1
  have hj2 := two3_get h2 j1
  have hjl := startT_le l2 (grpT l2 k + 1)
  unfold nbrT
  split <;> omega

theorem delL_three {l : List Nat} {ls : List (List Nat)} {a : Nat} (h : l[grpT l a]? = some 3) : delL (l :: ls) a = l.set (grpT l a) 2 :: ls := by
  match ls with
  | [] => rw [delL_one, if_pos h]
  | l2 :: ls => rw [delL_two, if_pos h]
theorem erase_set_two {l : List Nat} {j q x y : Nat} (hne : q ≠ j) : ((l.set j x).set q y).eraseIdx j = (l.set q y).eraseIdx j := by
  rw [List.set_comm _ _ (Ne.symm hne), List.eraseIdx_set_eq]

end Go.Proofs.Ytbickllpledlbaa

/-
  CONTRACT of the program's copied (tree): a handed tree in rows of the call's own. Printed by gen_treecopied.py.
-/
set_option linter.unusedVariables false
namespace Go.Proofs.Ytbickllpledlbaa
open Go.RowKit

theorem own_monoT {w : World} {base base' : Nat} {e : TypeId} {size : Nat} {v : Value} {n : Nat} {xs : List Value} (h : w.ownsRow base e size v n xs) (hb : base' ≤ base) : w.ownsRow base' e size v n xs := by
  refine ⟨h.1, ?_⟩
  rcases h.2 with h2 | ⟨g, cap, cur, h1, h2, h3⟩
  · exact .inl h2
  · exact .inr ⟨g, cap, cur, h1, by omega, h3⟩
/-- make of no elements and some room: one step of a region that draws its order -/
theorem step_makeT {P : Program} {w : World} {ops : Array Oper} {o : Oper} {a : Act} {K : Act → World → Prop} {Q : Exit → Act → World → Prop} {E : Prop} (hgd : Region.wanted o (yielded ops a.tmps) = true) (dst : Option Tmp) (hd : o.dst = dst) (l c : Operand) (t : TypeId) (hop : o.op = Op.makeSlice t l c)
    (base : Nat) (e : TypeId) (i : TypeInfo) (z : Value) (size : Nat) (h1 : P.underlying t = some (.slice e)) (h2 : P.info? e = some i) (h3 : i.zero = some z) (h4 : i.size = size)
    (kl kc : IntKind) (C : Int) (n : Nat) (hl : a.eval l = .int kl 0) (hc : a.eval c = .int kc C) (hC : C = (n : Int)) (b2 : i.bytes * n ≤ 281474976710656) (b3 : n ≤ maxLen) (b4 : base ≤ w.heap.size)
    (hK : ∀ w', w'.ownsRow base e size (.slice (some ⟨w.heap.size, 0, none⟩) 0 n) 0 [] → w.grownBy w' none → K (a.put dst (.slice (some ⟨w.heap.size, 0, none⟩) 0 n)) w') : if Region.wanted o (yielded ops a.tmps) = true then Oper.wp P o a w K Q else E := by
  obtain ⟨w', hrun, r1, r2⟩ := run_make_own (P := P) w base t e i z size h1 h2 h3 h4 kl kc n b2 b3 b4
  subst hC
  refine step_val hgd dst hd (.slice (some ⟨w.heap.size, 0, none⟩) 0 n) (w' := w') ?_ (hK w' r1 r2)
  simp [execOp, hop, hl, hc, hrun, Result.andThen]

end Go.Proofs.Ytbickllpledlbaa

/-
  CONTRACTS of the program's Insert and Delete (tree). Printed by gen_treepid.py.
-/
set_option linter.unusedVariables false
namespace Go.Proofs.Ytbickllpledlbaa
open Go.RowKit

theorem tells_nil (w : World) (er : Value) : TellsThawed (.returned (.tuple #[.agg #[.slice none 0 0, .slice none 0 0], er])) w := by
  intro Ai ni ci Al nl cl er' e
  simp only [shV, Ending.returned.injEq, Value.tuple.injEq, Array.mk.injEq, List.cons.injEq, Value.agg.injEq, Value.slice.injEq, and_true] at e
  obtain ⟨⟨⟨rfl, _, _⟩, rfl, _, _⟩, _⟩ := e
  exact ⟨fun ad h => (by cases h), fun b o j h => (by cases h)⟩
theorem tells_own {w : World} {Ai Al : Option Addr} {ni ci nl cl : Nat} {er : Value} (h : ThawS w Ai Al nl) : TellsThawed (.returned (.tuple #[.agg (shV Ai ni ci Al nl cl), er])) w := by
  intro Ai' ni' ci' Al' nl' cl' er' e
  simp only [shV, Ending.returned.injEq, Value.tuple.injEq, Array.mk.injEq, List.cons.injEq, Value.agg.injEq, Value.slice.injEq, and_true] at e
  obtain ⟨⟨⟨rfl, _, _⟩, rfl, rfl, _⟩, _⟩ := e
  exact h
theorem insE_ref {ids : List Int} {ll : List (List Int)} {id : Int} (h : chkT ids ll = true) : insE ids ll id = refT ids id := by
  have h1 := (chkT_lv h).1
  unfold insE refT
  by_cases hm : mayT id = false
  · rw [if_pos hm, if_pos]
    rw [mayT, Bool.and_eq_false_iff, decide_eq_false_iff_not, decide_eq_false_iff_not] at hm
    omega
  · rw [if_neg hm, if_neg]
    · split
      · rfl
      · by_cases h2 : ids.length = 1000
        · rw [if_pos h2, if_pos (by omega)]
        · rw [if_neg h2, if_neg (by omega)]
    · simp only [mayT, Bool.and_eq_false_iff, decide_eq_false_iff_not] at hm
      rw [h]
      simp only [Bool.true_eq_false, false_or]
      omega

end Go.Proofs.Ytbickllpledlbaa

/-
  CONTRACT of the program's Build (tree). Printed by gen_treepj.py.
-/
set_option linter.unusedVariables false
namespace Go.Proofs.Ytbickllpledlbaa
open Go.RowKit

theorem bld_cons (id : Int) (r ids : List Int) (lv : List (List Nat)) : bldS (id :: r) ids lv = if insE ids (levI lv) id = 0 then bldS r (insS ids lv id).1 (insS ids lv id).2 else (insE ids (levI lv) id, [], []) := rfl
theorem OwW.nil (base : Nat) (w : World) : OwW base w (.slice none 0 0) (.slice none 0 0) [] [] [] (levI []) := ⟨World.ownsRow_nil _ _ _ _, World.ownsRow_nil _ _ _ _, rfl, fun k u l h => by simp at h, fun k u g h => by simp at h, fun j k u v g h => by simp at h⟩

set_option maxRecDepth 100000 in
set_option maxHeartbeats 4000000 in
theorem PBuild_any (A : Option Addr) (n c : Nat) (xs : List Int) (w : World) (hn : n ≤ 1000000) (hx : Rd w w.heap.size A n (xs.map iv)) :
    Calls Try.prog 22 #[.slice A n c] w (BuildPost w xs) := by
  have Hxl := Lib.hid (show xs.length = n by simpa using hx.len)
  have HE := Lib.hid (show ∀ er w', (bldS xs [] []) = (er, [], []) → Below w.heap.size w w' → BuildPost w xs (.returned (.tuple #[.agg #[.slice none 0 0, .slice none 0 0], .int .i64 er])) w' from fun er w' h1 hb => ⟨hb, none, 0, 0, none, 0, 0, by rw [h1]; rfl, by rw [h1]; exact ShN.nil _ _ _⟩)
  have HO := Lib.hid (show ∀ base w' Ai ni ci Al nl cl vs ids lv, bldS xs [] [] = (0, ids, lv) → w.heap.size ≤ base → Below w.heap.size w w' → OwW base w' (.slice Ai ni ci) (.slice Al nl cl) vs vs ids (levI lv) →
    BuildPost w xs (.returned (.tuple #[.agg (shV Ai ni ci Al nl cl), .int .i64 0])) w' from fun base w' _ _ _ _ _ _ vs ids lv h0 hb h1 h2 => ⟨h1, _, _, _, _, _, _, by rw [h0], by rw [h0]; exact (h2.shN hb).1⟩)
  generalize BuildPost w xs = PO at *
  have hM0 := ((Ms.nil w).box 25 #[.slice none 0 0, .slice none 0 0]).put 25 #[.slice none 0 0, .slice none 0 0] #[.slice none 0 0, .slice none 0 0]
  simp only [World.size_alloc] at hM0
  go_enter Try.func22, Try.ntmps22
  go_upto_region 2 with ((with_reducible show wpList _ _ _ (⟨none, Op.store 25 _ _, _, _, _, _⟩ :: _) _ _); refine wpList_store_row rfl 25 (.tmp 4) (.tmp 8) rfl (w.heap.size + 1) #[.slice none 0 0, .slice none 0 0] rfl rfl 25 _ (RowC.mk_ _ _ _ (by simp)) shapeInfo2 rfl (by simp [Value.oneCell']) ?_)
  try simp only [Act.put]
  refine wp_gen (fun wx => Ms w wx [(w.heap.size + 1, 25, #[.slice none 0 0, .slice none 0 0]), (w.heap.size, 25, #[.slice none 0 0, .slice none 0 0])]) hM0 ?_
  clear hM0
  rintro w1 hM1
  go_wp2_with fail
  go_loopw [11] (fun i wr => ∃ (j : Nat) (Ai : Option Addr) (ni ci : Nat) (Al : Option Addr) (nl cl : Nat) (vs : List Value) (ids : List Int) (lv : List (List Nat)), j ≤ n ∧ i = .int .i64 (j : Int) ∧ chkT ids (levI lv) = true ∧ bldS xs [] [] = bldS (xs.drop j) ids lv ∧
    OwW (w.heap.size + 1 + 1) wr (.slice Ai ni ci) (.slice Al nl cl) vs vs ids (levI lv) ∧ Ms w wr [(w.heap.size + 1, 25, shV Ai ni ci Al nl cl), (w.heap.size, 25, #[.slice none 0 0, .slice none 0 0])]) (fun i _ => n - (intOf i).toNat)
  case atStart => exact ⟨0, none, 0, 0, none, 0, 0, [], [], [], by omega, rfl, by decide, rfl, OwW.nil _ _, hM1⟩
  case round =>
    clear hM1
    obtain ⟨j, Ai, ni, ci, Al, nl, cl, vs, ids, lv, hj, rfl, hc, hbl, h, hM⟩ := hrel
    have Hbl := Lib.hid hbl
    have hb := hM.old
    have hlt1 := (hM.get 0 rfl).lt
    clear hbl
    by_cases hlt : j < n
    · have hjx : j < xs.length := by rw [Hxl.out]; exact hlt
      obtain ⟨x, hxj⟩ : ∃ x, xs[j]? = some x := ⟨_, List.getElem?_eq_getElem hjx⟩
      obtain ⟨g, o, rfl, hgl, hcell⟩ := (hx.below hb).pos (by omega)
      have c1 := hcell j (iv x) (by rw [List.getElem?_map, hxj]; rfl)
      rw [iv_def] at c1
      have Hst := Lib.hid (show bldS xs [] [] = if insE ids (levI lv) x = 0 then bldS (xs.drop (j + 1)) (insS ids lv x).1 (insS ids lv x).2 else (insE ids (levI lv) x, [], []) by
        rw [Hbl.out, List.drop_eq_getElem_cons hjx, (List.getElem?_eq_some_iff.1 hxj).2, bld_cons])
      obtain ⟨q1, q2, q3, q4⟩ := chkT_lv hc
      rw [lvN_levI] at q3
      have hrise := okI_rise ids q2
      have hh := lv_high hc
      rw [lvN_levI] at hh
      obtain ⟨_, _, e1, hci, hmi⟩ := own_formT h.i
      injection e1 with e0 e2 e3
      subst e3 e0
      have Hni := Lib.hid e2
      rw [← e2] at hci
      have hio := h.i
      rw [← e2] at hio
      clear e2
      have hrf := PRefused_any Ai ni ci ids x wr hci hmi (by have := Hni.out; omega) hrise (Rd.of_own hio)
      have Her := Lib.hid (insE_ref (id := x) hc)
      have Hik := Lib.hid (fun h0 => ins_chk (ids := ids) (ll := levI lv) (id := x) h0)
      have k0 := (hM.get 0 rfl).cell (i := 0) (v := .slice Ai ni ci) rfl
      clear hcell hxj hjx hc q2 q4 hio
      go_wp2_with fail
      refine hrf.mono ?_
      rintro e wr ⟨rfl, rfl⟩
      by_cases hr : refT ids x = 0
      rotate_left
      · have hne : (refT ids x != 0) = true := by rw [bne_iff_ne]; exact hr
        have Hfin := Lib.hid (show bldS xs [] [] = (refT ids x, [], []) by rw [Hst.out, if_neg (by rw [Her.out]; exact hr), Her.out])
        obtain ⟨er, her⟩ : ∃ er, er = refT ids x := ⟨_, rfl⟩
        rw [← her] at hne Hfin ⊢
        clear hr her k0
        go_wp2_with ((with_reducible show wpList _ _ _ (⟨none, Op.store 25 _ _, _, _, _, _⟩ :: _) _ _); refine wpList_store_row rfl 25 (.tmp 2) (.tmp 21) rfl (w.heap.size) #[.slice none 0 0, .slice none 0 0] rfl rfl 25 _ (hM.get 1 rfl) shapeInfo2 rfl (by simp [Value.oneCell']) ?_)
        refine bodyPost_ret (results_cell_two rfl _ _ (w.heap.size) 25 #[.slice none 0 0, .slice none 0 0] _ rfl ((hM.get 1 rfl).row _) Try.underlying25 rfl shapeInfo2) rfl ?_
        exact HE.out _ _ Hfin.out (below_setRow hM.old (Nat.le_refl _) _)
      have Hfin := Lib.hid (show bldS xs [] [] = bldS (xs.drop (j + 1)) (insS ids lv x).1 (insS ids lv x).2 by rw [Hst.out, if_pos (by rw [Her.out]; exact hr)])
      have Hck := Lib.hid (show chkT (insS ids lv x).1 (levI (insS ids lv x).2) = true by
        have := (Hik.out (by rw [Her.out]; exact hr)).2.2
        rwa [lvN_levI] at this)
      rw [hr]
      clear hr k0 hrf
      have hput := PPut_any (w.heap.size + 1 + 1) Ai ni ci Al nl cl vs ids lv x wr (by omega) q1 (by omega) hrise q3 h
      obtain ⟨S, hS⟩ : ∃ S, S = insS ids lv x := ⟨_, rfl⟩
      rw [← hS] at hput Hfin Hck
      go_wp2_with ((with_reducible show wpList _ _ _ (⟨some 23, _, _, _, _, _⟩ :: _) _ _); refine wpList_loadC (by kernel_rfl) 25 (.tmp 4) rfl (w.heap.size + 1) rfl 25 (shV Ai ni ci Al nl cl) _ (hM.get 0 rfl) Try.underlying25 rfl shapeInfo2 ?_)
      refine hput.mono ?_
      rintro e w3 ⟨hb3, A3, n3, c3, B3, m3, d3, vs3, rfl, h3⟩
      have hR1 := (hM.get 0 rfl).below hb3 (by omega)
      have hR2 := (hM.get 1 rfl).below hb3 (by omega)
      have hB3 : Below w.heap.size w w3 := hM.old.trans (hb3.mono (by omega))
      have hM3 : Ms w w3 [(w.heap.size + 1, 25, shV Ai ni ci Al nl cl), (w.heap.size, 25, #[.slice none 0 0, .slice none 0 0])] := ⟨hB3, fun p hp => by
        simp only [List.mem_cons, List.not_mem_nil, or_false] at hp
        rcases hp with rfl | rfl
        · exact hR1
        · exact hR2⟩
      have hM4 := hM3.setT (by omega) (fun p hp => by simp at hp; subst hp; simp) (shV A3 n3 c3 B3 m3 d3)
      have h4 := h3.far (grown_setRow w3 (w.heap.size + 1) (shV A3 n3 c3 B3 m3 d3)) hR1 sh_ne.1 sh_ne.2
      clear hput hS hR2 hB3 hM h h3 hb3
      go_wp2_with ((with_reducible show wpList _ _ _ (⟨none, Op.store 25 _ _, _, _, _, _⟩ :: _) _ _); refine wpList_store_row rfl 25 (.tmp 4) (.tmp 25) rfl (w.heap.size + 1) (shV A3 n3 c3 B3 m3 d3) rfl rfl 25 _ (hR1) shapeInfo2 rfl (by simp [shV, Value.oneCell']) ?_)
      try simp only [Act.put]
      go_roundw
      case rel => exact ⟨j + 1, A3, n3, c3, B3, m3, d3, vs3, S.1, S.2, by omega, by go_num, Hck.out, Hfin.out, h4, hM4⟩
      case measure => simp [intOf]; omega
    · obtain rfl : j = n := by omega
      have Hfin := Lib.hid (show bldS xs [] [] = (0, ids, lv) by rw [Hbl.out, List.drop_of_length_le (by rw [Hxl.out]; exact Nat.le_refl _)]; rfl)
      have h4 := h.far (grown_setRow wr w.heap.size (shV Ai ni ci Al nl cl)) (hM.get 1 rfl) sh_ne.1 sh_ne.2
      go_wp2_with (first
        | ((with_reducible show wpList _ _ _ (⟨some 27, _, _, _, _, _⟩ :: _) _ _); refine wpList_loadC (by kernel_rfl) 25 (.tmp 4) rfl (w.heap.size + 1) rfl 25 (shV Ai ni ci Al nl cl) _ (hM.get 0 rfl) Try.underlying25 rfl shapeInfo2 ?_)
        | ((with_reducible show wpList _ _ _ (⟨none, Op.store 25 _ _, _, _, _, _⟩ :: _) _ _); refine wpList_store_row rfl 25 (.tmp 2) (.tmp 27) rfl (w.heap.size) (shV Ai ni ci Al nl cl) rfl rfl 25 _ (hM.get 1 rfl) shapeInfo2 rfl (by simp [shV, Value.oneCell']) ?_))
      refine bodyPost_ret (results_cell_two rfl _ _ (w.heap.size) 25 (shV Ai ni ci Al nl cl) _ rfl ((hM.get 1 rfl).row _) Try.underlying25 rfl shapeInfo2) rfl ?_
      exact HO.out _ _ _ _ _ _ _ _ _ _ _ Hfin.out (by omega) (below_setRow hM.old (Nat.le_refl _) _) h4

end Go.Proofs.Ytbickllpledlbaa

/-
  THE LAWS OF LAYER 11: their live answers true.
-/
set_option linter.unusedVariables false
namespace Go.Proofs.Ytbickllpledlbaa
open Go.RowKit

theorem bld_three : bldS [1, 2, 3] [] [] = (0, [1, 2, 3], [[3]]) := by decide +kernel
theorem live_two : (nodesI 1 [1, 2, 3] [[3]]).length = 4 ∧ mayE 1 [1, 2, 3] [[3]] = 0 := by decide +kernel
theorem live_red : (nodesI 2 [1, 2, 3] [[3]]).length = 5 ∧ mayE 2 [1, 2, 3] [[3]] = 0 ∧ (nodesI 2 [1, 2, 3] [[3]])[2]?.map RI.red = some true := by decide +kernel

set_option maxRecDepth 100000 in
set_option maxHeartbeats 4000000 in
theorem live11 (w : World) : Calls Try.prog 9 #[] w fun e w' => e = .returned (.bool true) ∧ Below w.heap.size w w' := by
  have hbl := PBuild_any (some ⟨w.heap.size, 0, none⟩) 3 3 [1, 2, 3] (w.alloc (.cells #[.int .i64 1, .int .i64 2, .int .i64 3] 3)) (by omega) (Rd.mk_ _ _ _ rfl (by simp) rfl rfl)
  have hM0 := (Ms.nil w).call (d_al w (.cells #[.int .i64 1, .int .i64 2, .int .i64 3] 3))
  obtain ⟨lt1, lt2⟩ := live_two
  obtain ⟨lr1, lr2, lr3⟩ := live_red
  go_enter Try.func9, Try.ntmps9
  go_wp2_with fail
  refine hbl.mono ?_
  rintro e w1 ⟨hb1, Ai, ni, ci, Al, nl, cl, rfl, hsh⟩
  rw [bld_three] at hsh ⊢
  have hM1 := (hM0.call hb1).put 25 #[.slice none 0 0, .slice none 0 0] (shV Ai ni ci Al nl cl)
  have hB3 : Below w1.heap.size w1 ((w1.alloc (.cells #[.slice none 0 0, .slice none 0 0] 25)).setRow w1.heap.size (shV Ai ni ci Al nl cl)) := below_setRow ((Below.refl _ _).alloc (Nat.le_refl _) _) (Nat.le_refl _) _
  have hsh1 := hsh.sh.below hB3
  clear hbl hM0
  go_upto_region 2 with ((with_reducible show wpList _ _ _ (⟨none, Op.store 25 _ _, _, _, _, _⟩ :: _) _ _); refine wpList_store_row rfl 25 (.tmp 1) (.tmp 10) rfl (w1.heap.size) (shV Ai ni ci Al nl cl) rfl rfl 25 _ (RowC.new _ _ _) (sizeSh _ _ _ _ _ _) rfl (one_sh _ _ _ _ _ _) ?_)
  try simp only [Act.put]
  obtain ⟨g1, hg1⟩ : ∃ g, g = w1.heap.size := ⟨_, rfl⟩
  rw [← hg1] at hM1 hsh1 ⊢
  have Hg1 := Lib.hid hg1
  clear hg1
  refine wp_gen (fun wx => Ms w wx [(g1, 25, shV Ai ni ci Al nl cl)] ∧ ShR wx g1 Ai ni ci Al nl cl [1, 2, 3] [[3]]) ⟨hM1, hsh1⟩ ?_
  clear hM1 hsh1 hB3 hsh hb1
  rintro w2 ⟨hM2, hsh2⟩
  have hl2 := (hM2.get 0 rfl).lt
  have hn1 := PNodes_any 1 Ai ni ci Al nl cl _ _ w2 (hsh2.more (Nat.le_of_lt hl2)) (by decide)
  go_wp2_with ((with_reducible show wpList _ _ _ (⟨some 13, _, _, _, _, _⟩ :: _) _ _); refine wpList_loadC (by kernel_rfl) 25 (.tmp 1) rfl g1 rfl 25 (shV Ai ni ci Al nl cl) _ (hM2.get 0 rfl) Try.underlying25 rfl shapeInfo2 ?_)
  refine hn1.mono ?_
  rintro e w3 ⟨hb3, A1, n1, c1, rfl, hN1⟩
  rw [lt2]
  have h4 : n1 = 4 := hN1.len.symm.trans lt1
  subst h4
  have hM3 := hM2.call hb3
  have hl3 := (hM3.get 0 rfl).lt
  have hn2 := PNodes_any 2 Ai ni ci Al nl cl _ _ w3 ((hsh2.below (hb3.mono (Nat.le_of_lt hl2))).more (Nat.le_of_lt hl3)) (by decide)
  clear hM2 hsh2 hn1 hb3 hN1
  go_wp2_with ((with_reducible show wpList _ _ _ (⟨some 18, _, _, _, _, _⟩ :: _) _ _); refine wpList_loadC (by kernel_rfl) 25 (.tmp 1) rfl g1 rfl 25 (shV Ai ni ci Al nl cl) _ (hM3.get 0 rfl) Try.underlying25 rfl shapeInfo2 ?_)
  refine hn2.mono ?_
  rintro e w4 ⟨hb4, A2, n2, c2, rfl, hN2⟩
  rw [lr2]
  have h5 : n2 = 5 := hN2.len.symm.trans lr1
  subst h5
  have hold := (hM3.call hb4).old
  have h2 : 2 < (nodesI 2 [1, 2, 3] [[3]]).length := by rw [lr1]; decide
  have hx := List.getElem?_eq_getElem h2
  rw [hx] at lr3
  obtain ⟨b, o, Au, cu, rfl, -, hrg, -, -, -⟩ := hN2.range hx
  have c2' := hrg 2 (.bool (nodesI 2 [1, 2, 3] [[3]])[2].red) rfl
  rw [show (nodesI 2 [1, 2, 3] [[3]])[2].red = true from Option.some.inj lr3] at c2'
  simp only [Nat.reduceMul, Nat.add_assoc, Nat.reduceAdd] at c2'
  have c2'' : w4.cell? ⟨b, o + 14 + 2, none⟩ = some (.bool true) := by rw [Nat.add_assoc]; exact c2'
  clear hM3 hn2 hb4 hN2 hrg hx lr3 lt1 lt2 lr1 lr2 h2
  go_wp2_with fail
  go_ret
  exact ⟨rfl, hold⟩

end Go.Proofs.Ytbickllpledlbaa

/-
  CONTRACTS of the program's red.leaf: its closure, and slices.IndexFunc over nodes with it.
-/
set_option linter.unusedVariables false
namespace Go.Proofs.Ytbickllpledlbaa
open Go.RowKit

set_option maxRecDepth 100000 in
theorem PLeafB_any (x : RI) (u : Value) (b : Nat) (p : Int) (w : World) (hb : w.cell? ⟨b, 0, none⟩ = some (.int .i64 p)) (hu : u.oneCell' = true) :
    Calls Try.prog 52 #[.agg (riC x u).toArray, .pointer (some ⟨b, 0, none⟩)] w fun e w' => e = .returned (.bool (x.lev == 0 && x.at_ == p)) ∧ Below w.heap.size w w' := by
  have hM := (Ms.nil w).box 42 (riC x u).toArray
  have hold := hM.old
  have c0 := (hM.get 0 rfl).cell (i := 0) (v := .int .i64 x.lev) rfl
  have c1 := (hM.get 0 rfl).cell (i := 1) (v := .int .i64 x.at_) rfl
  have hb1 : (w.alloc (.cells (riC x u).toArray 42)).cell? ⟨b, 0, none⟩ = some (.int .i64 p) := by
    rw [World.cell?_of_block (hold.block b (World.block_lt_of_cell? w _ hb))]
    exact hb
  have Hpost := Lib.hid (show ∀ r w', r = (x.lev == 0 && x.at_ == p) → Below w.heap.size w w' → (fun e w' => e = Ending.returned (Value.bool (x.lev == 0 && x.at_ == p)) ∧ Below w.heap.size w w') (.returned (.bool r)) w' from fun r w' h1 h2 => ⟨by rw [h1], h2⟩)
  generalize (fun e w' => e = Ending.returned (Value.bool (x.lev == 0 && x.at_ == p)) ∧ Below w.heap.size w w') = PO at *
  by_cases h1 : x.lev = 0
  · by_cases h2 : x.at_ = p
    · have hc := Lib.hid (show true = (x.lev == 0 && x.at_ == p) by simp [h1, h2])
      have hbn : (x.at_ == p) = true := by simpa using h2
      clear hM
      go_enter Try.func52, Try.ntmps52
      go_wp2_with fail
      (first | exact Hpost.out _ _ hc.out hold | exact bodyPost_ret (results_tmp rfl _ _ _) rfl (Hpost.out _ _ hc.out hold))
    · have hc := Lib.hid (show false = (x.lev == 0 && x.at_ == p) by simp [h2])
      have hbn : (x.at_ == p) = false := by simpa using h2
      clear hM
      go_enter Try.func52, Try.ntmps52
      go_wp2_with fail
      (first | exact Hpost.out _ _ hc.out hold | exact bodyPost_ret (results_tmp rfl _ _ _) rfl (Hpost.out _ _ hc.out hold))
  · have hc := Lib.hid (show false = (x.lev == 0 && x.at_ == p) by simp [h1])
    clear hM
    go_enter Try.func52, Try.ntmps52
    go_wp2_with fail
    (first | exact Hpost.out _ _ hc.out hold | exact bodyPost_ret (results_tmp rfl _ _ _) rfl (Hpost.out _ _ hc.out hold))

def leafB (p : Int) (x : RI) : Bool := x.lev == 0 && x.at_ == p
set_option maxRecDepth 100000 in
set_option maxHeartbeats 4000000 in
theorem PIndexF_any (A : Option Addr) (n c : Nat) (ns : List RI) (p : Int) (b B k : Nat) (x : RI) (w : World) (hN : NdR w B A n c ns) (hB : B ≤ w.heap.size) (hb : w.cell? ⟨b, 0, none⟩ = some (.int .i64 p)) (hk : ns[k]? = some x) (hx : leafB p x = true) (hmin : ∀ (i : Nat) (y : RI), i < k → ns[i]? = some y → leafB p y = false) (hn : n ≤ 100000) :
    Calls Try.prog 51 #[.slice A n c, .func (.func 52) #[] #[.pointer (some ⟨b, 0, none⟩)]] w fun e w' => e = .returned (.int .i64 (k : Nat)) ∧ Below w.heap.size w w' := by
  have Hmin := Lib.hid hmin
  have Hn := Lib.hid hN.len
  have hkn : k < n := by rw [← hN.len]; exact (List.getElem?_eq_some_iff.1 hk).1
  have hblt := World.block_lt_of_cell? w _ hb
  have Hpost := Lib.hid (show ∀ w', Below w.heap.size w w' → (fun e w' => e = Ending.returned (Value.int .i64 (k : Nat)) ∧ Below w.heap.size w w') (.returned (.int .i64 (k : Nat))) w' from fun w' h => ⟨rfl, h⟩)
  generalize (fun e w' => e = Ending.returned (Value.int .i64 (k : Nat)) ∧ Below w.heap.size w w') = PO at *
  clear hmin
  go_enter Try.func51, Try.ntmps51
  go_wp2_with fail
  go_loopw [8] (fun v8 wr => ∃ j : Nat, j ≤ k ∧ v8 = .int .i64 (j : Int) ∧ Below w.heap.size w wr) (fun v8 _ => n - (intOf v8).toNat)
  case atStart => exact ⟨0, by omega, rfl, Below.refl _ _⟩
  case round =>
    obtain ⟨j, hj, rfl, hold⟩ := hrel
    have hjn : j < n := by omega
    have hjx : j < ns.length := by rw [Hn.out]; exact hjn
    have hy : ns[j]? = some ns[j] := List.getElem?_eq_getElem hjx
    obtain ⟨g, o, Au, cu, rfl, hg, hrg, _, _, _⟩ := (hN.below (hold.mono hB)).range hy
    have hlf := PLeafB_any ns[j] (.slice Au ns[j].kids.length cu) b p wr (by rw [World.cell?_of_block (hold.block b hblt)]; exact hb) rfl
    have Hj := Lib.hid (show j < k → leafB p ns[j] = false from fun h => Hmin.out j _ h hy)
    have Hk := Lib.hid (show j = k → leafB p ns[j] = true from fun h => by
      subst h
      rw [hy] at hk
      rw [Option.some.inj hk]
      exact hx)
    generalize ns[j] = y at *
    rw [← leafB] at hlf
    have zj : (j : Int) < (n : Int) := by omega
    go_wp2_with ((with_reducible show wpList _ _ _ (⟨some 15, _, _, _, _, _⟩ :: _) _ _); refine wpList_load_midG (by kernel_rfl) 42 (.tmp 14) rfl g (o + j * 7) rfl (riC y (.slice Au y.kids.length cu)) _ hrg Try.underlying42 rfl rnInfo2 ?_)
    refine hlf.mono ?_
    rintro e w2 ⟨rfl, hb2⟩
    have hold2 := hold.trans (hb2.mono hold.size)
    by_cases hjk : j = k
    · rw [Hk.out hjk]
      subst hjk
      clear hlf hrg
      go_wp2_with fail
      (first | exact Hpost.out _ hold2 | exact bodyPost_ret (results_tmp rfl _ _ _) rfl (Hpost.out _ hold2))
    · rw [Hj.out (by omega)]
      clear hlf hrg
      go_wp2_with fail
      go_roundw
      case rel => exact ⟨j + 1, by omega, by go_num, hold2⟩
      case measure => simp [intOf]; omega

set_option maxRecDepth 100000 in
theorem PLeaf_any (A : Option Addr) (n c : Nat) (ns : List RI) (p : Int) (k : Nat) (x : RI) (w : World) (hN : NdR w w.heap.size A n c ns) (hk : ns[k]? = some x) (hx : leafB p x = true) (hmin : ∀ (i : Nat) (y : RI), i < k → ns[i]? = some y → leafB p y = false) (hn : n ≤ 100000) :
    Calls Try.prog 43 #[.slice A n c, .int .i64 p] w fun e w' => e = .returned (.int .i64 (k : Nat)) ∧ Below w.heap.size w w' := by
  have hM := (Ms.nil w).box 3 #[.int .i64 p]
  have hix := PIndexF_any A n c ns p w.heap.size w.heap.size k x _ (hN.below hM.old) hM.old.size ((hM.get 0 rfl).cell (i := 0) rfl) hk hx hmin hn
  have hold := hM.old
  have hmf : ∀ (fn : Fn) (first cap : Array Value) (w : World), (Instr.makeFunc fn first cap).run Try.prog w = .ok (.func fn first cap) w := fun _ _ _ _ => rfl
  clear hk hx hmin hM
  go_enter Try.func43, Try.ntmps43
  go_wp2_with fail
  refine hix.mono ?_
  rintro e w2 ⟨rfl, hb2⟩
  have hold2 := hold.trans (hb2.mono (by simp))
  clear hix hmf
  go_wp2_with fail
  go_ret
  exact ⟨rfl, hold2⟩

end Go.Proofs.Ytbickllpledlbaa

/-
  NODES OF A TREE (layer 11): what RedHeight asks of each node, as pure facts.
-/
set_option linter.unusedVariables false
namespace Go.Proofs.Ytbickllpledlbaa

/-- as many leaves are told as there are -/
theorem RT.leaves {kind : Int} : ∀ (T : RT) (off : Nat) (up : Int), T.good kind → (T.flat off up).countP (fun x => x.lev == 0) = T.lvs
  | .leaf a, off, up, _ => by simp [RT.flat, RT.lvs]
  | .two lev a red l r, off, up, ⟨h1, h2, h3, _⟩ => by
    have h0 : (lev == 0) = false := by simp; omega
    simp only [RT.flat, List.countP_append, RT.leaves l _ _ h1, RT.leaves r _ _ h2, RT.lvs, List.countP_cons, List.countP_nil, h0]
    simp
  | .three lev a l m r, off, up, ⟨h1, h2, h3, h4, _⟩ => by
    have h0 : (lev == 0) = false := by simp; omega
    simp only [RT.flat, List.countP_append, RT.leaves l _ _ h1, RT.leaves m _ _ h2, RT.leaves r _ _ h3, RT.lvs, List.countP_cons, List.countP_nil, h0]
    simp
theorem RT.node_red (T : RT) (off : Nat) (up : Int) : (T.node off up).red = T.isRed := by cases T <;> rfl
/-- a node's form, and its kids' -/
def nodeOK (kind : Int) (L : List RN) (x : RN) : Prop :=
  x.kids.length ≠ 1 ∧ (x.kids.length : Int) ≤ 4 - kind ∧ (x.kids.length = 0 ↔ x.lev = 0) ∧ (x.red = true → kind = 2 ∧ x.lev ≠ 0) ∧
  ∀ (i k : Nat), x.kids[i]? = some k → ∃ y, L[k]? = some y ∧ (y.red = true → x.red = false ∧ i = 0)
theorem RT.nodes_ok {kind : Int} (hk : kind = 1 ∨ kind = 2) : ∀ (T : RT) (pre post : List RN) (up : Int), T.good kind → ∀ x ∈ T.flat pre.length up, nodeOK kind (pre ++ T.flat pre.length up ++ post) x
  | .leaf a, pre, post, up, _ => fun x hx => by
    simp only [RT.flat, List.mem_singleton] at hx
    subst hx
    refine ⟨by simp, ?_, by simp, fun h => by simp at h, fun i k h => by simp at h⟩
    simp only [List.length_nil]
    omega
  | .two lev a red l r, pre, post, up, ⟨h1, h2, h3, h4, h5, h6⟩ => fun x hx => by
    have hA : (pre ++ l.flat pre.length ((pre.length + l.size + r.size : Nat) : Int)).length = pre.length + l.size := by rw [List.length_append, RT.flat_len]
    have p1 := l.size_pos
    have p2 := r.size_pos
    simp only [RT.flat, List.mem_append, List.mem_singleton] at hx
    rcases hx with (hx | hx) | hx
    · have := RT.nodes_ok hk l pre (r.flat (pre.length + l.size) ((pre.length + l.size + r.size : Nat) : Int) ++ [⟨lev, a, red, l.fr, r.to, [pre.length + l.size - 1, pre.length + l.size + r.size - 1], up⟩] ++ post) _ h1 x hx
      simpa only [RT.flat, List.append_assoc] using this
    · have := RT.nodes_ok hk r (pre ++ l.flat pre.length ((pre.length + l.size + r.size : Nat) : Int)) ([⟨lev, a, red, l.fr, r.to, [pre.length + l.size - 1, pre.length + l.size + r.size - 1], up⟩] ++ post) ((pre.length + l.size + r.size : Nat) : Int) h2 x (by rw [hA]; exact hx)
      rw [hA] at this
      simpa only [RT.flat, List.append_assoc] using this
    · subst hx
      refine ⟨by simp, by simp only [List.length_cons, List.length_nil]; omega, by simp; omega, fun h => ⟨h6 h, Nat.ne_of_gt h3⟩, fun i k h => ?_⟩
      have e1 := flat_end pre (r.flat (pre.length + l.size) ((pre.length + l.size + r.size : Nat) : Int) ++ [⟨lev, a, red, l.fr, r.to, [pre.length + l.size - 1, pre.length + l.size + r.size - 1], up⟩] ++ post) l (pre.length + l.size - 1) ((pre.length + l.size + r.size : Nat) : Int) rfl
      have e2 := flat_end (pre ++ l.flat pre.length ((pre.length + l.size + r.size : Nat) : Int)) ([⟨lev, a, red, l.fr, r.to, [pre.length + l.size - 1, pre.length + l.size + r.size - 1], up⟩] ++ post) r (pre.length + l.size + r.size - 1) ((pre.length + l.size + r.size : Nat) : Int) (by rw [hA])
      rw [hA] at e2
      simp only [RT.flat, List.append_assoc] at e1 e2 ⊢
      match i, h with
      | 0, h =>
        simp at h
        subst h
        exact ⟨_, e1, fun h => ⟨h5 (by rw [← RT.node_red]; exact h), rfl⟩⟩
      | 1, h =>
        simp at h
        subst h
        exact ⟨_, e2, fun h => (by rw [RT.node_red, h4] at h; cases h)⟩
      | i + 2, h => simp at h
  | .three lev a l m r, pre, post, up, ⟨h1, h2, h3, h4, h5, h6, h7, h8⟩ => fun x hx => by
    generalize hU : ((pre.length + l.size + m.size + r.size : Nat) : Int) = U at *
    have hA : (pre ++ l.flat pre.length U).length = pre.length + l.size := by rw [List.length_append, RT.flat_len]
    have hB : (pre ++ l.flat pre.length U ++ m.flat (pre.length + l.size) U).length = pre.length + l.size + m.size := by rw [List.length_append, RT.flat_len, hA]
    have p1 := l.size_pos
    have p2 := m.size_pos
    have p3 := r.size_pos
    simp only [RT.flat, List.mem_append, List.mem_singleton, hU] at hx
    generalize hX : (⟨lev, a, false, l.fr, r.to, [pre.length + l.size - 1, pre.length + l.size + m.size - 1, pre.length + l.size + m.size + r.size - 1], up⟩ : RN) = X at *
    have hfl : (RT.three lev a l m r).flat pre.length up = l.flat pre.length U ++ m.flat (pre.length + l.size) U ++ r.flat (pre.length + l.size + m.size) U ++ [X] := by rw [RT.flat, hU, hX]
    rw [hfl]
    rcases hx with ((hx | hx) | hx) | hx
    · have := RT.nodes_ok hk l pre (m.flat (pre.length + l.size) U ++ r.flat (pre.length + l.size + m.size) U ++ [X] ++ post) _ h1 x hx
      simpa only [List.append_assoc] using this
    · have := RT.nodes_ok hk m (pre ++ l.flat pre.length U) (r.flat (pre.length + l.size + m.size) U ++ [X] ++ post) U h2 x (by rw [hA]; exact hx)
      rw [hA] at this
      simpa only [List.append_assoc] using this
    · have := RT.nodes_ok hk r (pre ++ l.flat pre.length U ++ m.flat (pre.length + l.size) U) ([X] ++ post) U h3 x (by rw [hB]; exact hx)
      rw [hB] at this
      simpa only [List.append_assoc] using this
    · subst hx
      have e1 := flat_end pre (m.flat (pre.length + l.size) U ++ r.flat (pre.length + l.size + m.size) U ++ [x] ++ post) l (pre.length + l.size - 1) U rfl
      have e2 := flat_end (pre ++ l.flat pre.length U) (r.flat (pre.length + l.size + m.size) U ++ [x] ++ post) m (pre.length + l.size + m.size - 1) U (by rw [hA])
      have e3 := flat_end (pre ++ l.flat pre.length U ++ m.flat (pre.length + l.size) U) ([x] ++ post) r (pre.length + l.size + m.size + r.size - 1) U (by rw [hB])
      rw [hA] at e2
      rw [hB] at e3
      simp only [List.append_assoc] at e1 e2 e3 ⊢
      have hk1 : kind = 1 := hk.resolve_right h8
      have f1 : x.kids.length = 3 := by rw [← hX]; rfl
      have f2 : x.lev = lev := by rw [← hX]
      have f3 : x.red = false := by rw [← hX]
      refine ⟨by omega, by rw [f1, hk1]; decide, ⟨fun h => by omega, fun h => by omega⟩, fun h => (by rw [f3] at h; cases h), fun i k h => ?_⟩
      rw [← hX] at h
      match i, h with
      | 0, h =>
        simp at h
        subst h
        exact ⟨_, e1, fun h => (by rw [RT.node_red, h5] at h; cases h)⟩
      | 1, h =>
        simp at h
        subst h
        exact ⟨_, e2, fun h => (by rw [RT.node_red, h6] at h; cases h)⟩
      | 2, h =>
        simp at h
        subst h
        exact ⟨_, e3, fun h => (by rw [RT.node_red, h7] at h; cases h)⟩
      | i + 3, h => simp at h

end Go.Proofs.Ytbickllpledlbaa

