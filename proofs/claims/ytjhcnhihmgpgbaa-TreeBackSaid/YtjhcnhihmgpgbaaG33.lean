import Derived.Test.YtjhcnhihmgpgbaaG32
/-
  CONTRACTS of the program's Insert and Delete (tree). Printed by gen_treepid.py.
-/
set_option linter.unusedVariables false
namespace Go.Proofs.Ytjhcnhihmgpgbaa
open Go.RowKit

theorem tells_nil (w : World) (er : Value) : TellsThawed (.returned (.tuple #[.agg #[.slice none 0 0, .slice none 0 0], er])) w := by
  intro Ai ni ci Al nl cl er' e
  simp only [shV, Ending.returned.injEq, Value.tuple.injEq, Array.mk.injEq, List.cons.injEq, Value.agg.injEq, Value.slice.injEq, and_true] at e
  obtain ⟨⟨⟨rfl, _, _⟩, rfl, _, _⟩, _⟩ := e
  exact ⟨fun ad h => (by cases h), fun b o j h => (by cases h)⟩
theorem tells_own {w : World} {Ai Al : Option Addr} {ni ci nl cl : Nat} {er : Value} (h : ThawS w Ai Al nl) : TellsThawed (.returned (.tuple #[.agg (shV Ai ni ci Al nl cl), er])) w := by
  intro Ai' ni' ci' Al' nl' cl' er' e
  simp only [shV, Ending.returned.injEq, Value.tuple.injEq, Array.mk.injEq, List.cons.injEq, Value.agg.injEq, Value.slice.injEq, and_true] at e
  obtain ⟨⟨⟨rfl, _, _⟩, rfl, rfl, _⟩, _⟩ := e
  exact h
theorem insE_ref {ids : List Int} {ll : List (List Int)} {id : Int} (h : chkT ids ll = true) : insE ids ll id = refT ids id := by
  have h1 := (chkT_lv h).1
  unfold insE refT
  by_cases hm : mayT id = false
  · rw [if_pos hm, if_pos]
    rw [mayT, Bool.and_eq_false_iff, decide_eq_false_iff_not, decide_eq_false_iff_not] at hm
    omega
  · rw [if_neg hm, if_neg]
    · split
      · rfl
      · by_cases h2 : ids.length = 1000
        · rw [if_pos h2, if_pos (by omega)]
        · rw [if_neg h2, if_neg (by omega)]
    · simp only [mayT, Bool.and_eq_false_iff, decide_eq_false_iff_not] at hm
      rw [h]
      simp only [Bool.true_eq_false, false_or]
      omega

set_option maxRecDepth 100000 in
set_option maxHeartbeats 4000000 in
theorem PInsert_any (Ai : Option Addr) (ni ci : Nat) (Al : Option Addr) (nl cl : Nat) (ids : List Int) (ll : List (List Int)) (id : Int) (w : World) (h : ShR w w.heap.size Ai ni ci Al nl cl ids ll) (hf : fewT ids ll = true) :
    Calls Try.prog 14 #[.agg (shV Ai ni ci Al nl cl), .int .i64 id] w fun e w' => InsPost w ids ll id e w' ∧ TellsThawed e w' := by
  have HE := Lib.hid (show ∀ er : Int, insE ids ll id = er → er ≠ 0 → ∀ w', Below w.heap.size w w' → (fun e w' => InsPost w ids ll id e w' ∧ TellsThawed e w') (.returned (.tuple #[.agg #[.slice none 0 0, .slice none 0 0], .int .i64 er])) w' from fun er h1 h2 w' hb => ⟨⟨hb, .inl ⟨by rw [h1]; exact h2, by rw [h1]; rfl⟩⟩, tells_nil _ _⟩)
  have HO := Lib.hid (show insE ids ll id = 0 → ∀ base w' Ai ni ci Al nl cl vs, w.heap.size ≤ base → Below w.heap.size w w' → OwW base w' (.slice Ai ni ci) (.slice Al nl cl) vs vs (insS ids (lvN ll) id).1 (levI (insS ids (lvN ll) id).2) →
    (fun e w' => InsPost w ids ll id e w' ∧ TellsThawed e w') (.returned (.tuple #[.agg (shV Ai ni ci Al nl cl), .int .i64 0])) w' from fun h0 base w' _ _ _ _ _ _ vs hb h1 h2 => ⟨⟨h1, .inr ⟨h0, _, _, _, _, _, _, rfl, (h2.shN hb).1⟩⟩, tells_own (h2.shN hb).2⟩)
  generalize (fun e w' => InsPost w ids ll id e w' ∧ TellsThawed e w') = PO at *
  have hM0 := ((Ms.nil w).box 25 (shV Ai ni ci Al nl cl)).box 25 #[.slice none 0 0, .slice none 0 0]
  simp only [World.size_alloc] at hM0
  have hsh0 := (h.below hM0.old).more hM0.old.size
  have hck := PCheck_any Ai ni ci Al nl cl ids ll _ hsh0 (few_million hf) (by have := (few_len hf).2.1; have := h.hni; omega)
  clear hsh0
  have hci := h.hci
  have hmi := h.hmi
  go_enter Try.func14, Try.ntmps14
  go_wp2_with ((with_reducible show wpList _ _ _ (⟨some 8, _, _, _, _, _⟩ :: _) _ _); refine wpList_loadC (by kernel_rfl) 25 (.tmp 2) rfl (w.heap.size) rfl 25 (shV Ai ni ci Al nl cl) _ (hM0.get 1 rfl) Try.underlying25 rfl shapeInfo2 ?_)
  refine hck.mono ?_
  rintro e w1 ⟨rfl, hb1⟩
  have hM1 := hM0.call hb1
  clear hM0 hb1 hck
  by_cases hc : chkT ids ll = true
  rotate_left
  · have hcf : chkT ids ll = false := by simpa using hc
    rw [show chkE ids ll = 1 by rw [chkE, hcf]; rfl]
    clear hc
    go_wp2_with ((with_reducible show wpList _ _ _ (⟨none, Op.store 25 _ _, _, _, _, _⟩ :: _) _ _); refine wpList_store_row rfl 25 (.tmp 4) (.tmp 12) rfl (w.heap.size + 1) #[.slice none 0 0, .slice none 0 0] rfl rfl 25 _ (hM1.get 0 rfl) shapeInfo2 rfl (by simp [Value.oneCell']) ?_)
    refine bodyPost_ret (results_cell_two rfl _ _ (w.heap.size + 1) 25 #[.slice none 0 0, .slice none 0 0] _ rfl ((hM1.get 0 rfl).row _) Try.underlying25 rfl shapeInfo2) rfl ?_
    exact (HE.out 1 (by rw [insE, if_pos (.inl hcf)]) (by decide) _ (below_setRow hM1.old (by omega) _))
  rw [show chkE ids ll = 0 by rw [chkE, hc]; rfl]
  obtain ⟨c1, c2, c3, c4⟩ := chkT_lv hc
  have hl2 := levI_lvN c4
  have hlm : ∀ l ∈ lvN ll, l.length ≤ 1000 := fun l hl => Nat.le_trans (lvOK_len _ _ c3 l hl) c1
  have hh := lv_high hc
  have hrise := okI_rise ids c2
  have hrf := PRefused_any Ai ni ci ids id w1 hci hmi (by have := h.hni; omega) hrise ((h.hids.below hM1.old).more hM1.old.size)
  have hsh1 : ShR w1 w1.heap.size Ai ni ci Al nl cl ids (levI (lvN ll)) := by rw [hl2]; exact (h.below hM1.old).more hM1.old.size
  have hcp := PCopied_any Ai ni ci Al nl cl ids (lvN ll) w1 (by omega) c1 hlm hsh1
  have Her := Lib.hid (insE_ref (id := id) hc)
  have k0 := (hM1.get 1 rfl).cell (i := 0) (v := .slice Ai ni ci) rfl
  clear hc hsh1 h hlm c2 c4
  go_wp2_with fail
  refine hrf.mono ?_
  rintro e w1 ⟨rfl, rfl⟩
  by_cases hr : refT ids id = 0
  rotate_left
  · have Hr := Lib.hid hr
    have hne : (refT ids id != 0) = true := by rw [bne_iff_ne]; exact hr
    obtain ⟨er, her⟩ : ∃ er, er = refT ids id := ⟨_, rfl⟩
    rw [← her] at hne Her Hr ⊢
    clear hr her k0
    go_wp2_with ((with_reducible show wpList _ _ _ (⟨none, Op.store 25 _ _, _, _, _, _⟩ :: _) _ _); refine wpList_store_row rfl 25 (.tmp 4) (.tmp 20) rfl (w.heap.size + 1) #[.slice none 0 0, .slice none 0 0] rfl rfl 25 _ (hM1.get 0 rfl) shapeInfo2 rfl (by simp [Value.oneCell']) ?_)
    refine bodyPost_ret (results_cell_two rfl _ _ (w.heap.size + 1) 25 #[.slice none 0 0, .slice none 0 0] _ rfl ((hM1.get 0 rfl).row _) Try.underlying25 rfl shapeInfo2) rfl ?_
    exact (HE.out er (Her.out) Hr.out _ (below_setRow hM1.old (by omega) _))
  have Hr := Lib.hid (Her.out.trans hr)
  rw [hr]
  clear hr k0
  go_wp2_with ((with_reducible show wpList _ _ _ (⟨some 22, _, _, _, _, _⟩ :: _) _ _); refine wpList_loadC (by kernel_rfl) 25 (.tmp 2) rfl (w.heap.size) rfl 25 (shV Ai ni ci Al nl cl) _ (hM1.get 1 rfl) Try.underlying25 rfl shapeInfo2 ?_)
  refine hcp.mono ?_
  rintro e w2 ⟨hb2, A2, n2, c2', B2, m2, d2, vs2, rfl, h2⟩
  have hM2 := hM1.call hb2
  have hput := PPut_any w1.heap.size A2 n2 c2' B2 m2 d2 vs2 ids (lvN ll) id w2 hb2.size c1 (by omega) hrise c3 h2
  have hlt1 := (hM1.get 0 rfl).lt
  clear hcp hM1 h2
  go_wp2_with fail
  refine hput.mono ?_
  rintro e w3 ⟨hb3, A3, n3, c3', B3, m3, d3, vs3, rfl, h3⟩
  have hR3 := (hM2.get 0 rfl).below hb3 hlt1
  have hB3 : Below w.heap.size w w3 := hM2.old.trans (hb3.mono (by omega))
  clear hM2 hput hb3 hb2
  have h4 := h3.far (grown_setRow w3 (w.heap.size + 1) (shV A3 n3 c3' B3 m3 d3)) hR3 sh_ne.1 sh_ne.2
  have hB4 := below_setRow hB3 (show w.heap.size ≤ w.heap.size + 1 by omega) (shV A3 n3 c3' B3 m3 d3)
  have hlw : w.heap.size ≤ w1.heap.size := by omega
  go_wp2_with ((with_reducible show wpList _ _ _ (⟨none, Op.store 25 _ _, _, _, _, _⟩ :: _) _ _); refine wpList_store_row rfl 25 (.tmp 4) (.tmp 25) rfl (w.heap.size + 1) (shV A3 n3 c3' B3 m3 d3) rfl rfl 25 _ (hR3) shapeInfo2 rfl (by simp [shV, Value.oneCell']) ?_)
  refine bodyPost_ret (results_cell_two rfl _ _ (w.heap.size + 1) 25 (shV A3 n3 c3' B3 m3 d3) _ rfl (hR3.row _) Try.underlying25 rfl shapeInfo2) rfl ?_
  exact HO.out Hr.out _ _ _ _ _ _ _ _ _ hlw hB4 h4

set_option maxRecDepth 100000 in
set_option maxHeartbeats 4000000 in
theorem PDelete_any (Ai : Option Addr) (ni ci : Nat) (Al : Option Addr) (nl cl : Nat) (ids : List Int) (ll : List (List Int)) (id : Int) (w : World) (h : ShR w w.heap.size Ai ni ci Al nl cl ids ll) (hf : fewT ids ll = true) :
    Calls Try.prog 16 #[.agg (shV Ai ni ci Al nl cl), .int .i64 id] w fun e w' => DelPost w ids ll id e w' ∧ TellsThawed e w' := by
  have HE := Lib.hid (show ∀ er : Int, delE ids ll id = er → er ≠ 0 → ∀ w', Below w.heap.size w w' → (fun e w' => DelPost w ids ll id e w' ∧ TellsThawed e w') (.returned (.tuple #[.agg #[.slice none 0 0, .slice none 0 0], .int .i64 er])) w' from fun er h1 h2 w' hb => ⟨⟨hb, .inl ⟨by rw [h1]; exact h2, by rw [h1]; rfl⟩⟩, tells_nil _ _⟩)
  have HO := Lib.hid (show delE ids ll id = 0 → ∀ base w' Ai ni ci Al nl cl vs, w.heap.size ≤ base → Below w.heap.size w w' → OwW base w' (.slice Ai ni ci) (.slice Al nl cl) vs vs (delS ids (lvN ll) id).1 (levI (delS ids (lvN ll) id).2) →
    (fun e w' => DelPost w ids ll id e w' ∧ TellsThawed e w') (.returned (.tuple #[.agg (shV Ai ni ci Al nl cl), .int .i64 0])) w' from fun h0 base w' _ _ _ _ _ _ vs hb h1 h2 => ⟨⟨h1, .inr ⟨h0, _, _, _, _, _, _, rfl, (h2.shN hb).1⟩⟩, tells_own (h2.shN hb).2⟩)
  generalize (fun e w' => DelPost w ids ll id e w' ∧ TellsThawed e w') = PO at *
  have hM0 := ((Ms.nil w).box 25 (shV Ai ni ci Al nl cl)).box 25 #[.slice none 0 0, .slice none 0 0]
  simp only [World.size_alloc] at hM0
  have hsh0 := (h.below hM0.old).more hM0.old.size
  have hck := PCheck_any Ai ni ci Al nl cl ids ll _ hsh0 (few_million hf) (by have := (few_len hf).2.1; have := h.hni; omega)
  clear hsh0
  have hci := h.hci
  have hmi := h.hmi
  go_enter Try.func16, Try.ntmps16
  go_wp2_with ((with_reducible show wpList _ _ _ (⟨some 9, _, _, _, _, _⟩ :: _) _ _); refine wpList_loadC (by kernel_rfl) 25 (.tmp 2) rfl (w.heap.size) rfl 25 (shV Ai ni ci Al nl cl) _ (hM0.get 1 rfl) Try.underlying25 rfl shapeInfo2 ?_)
  refine hck.mono ?_
  rintro e w1 ⟨rfl, hb1⟩
  have hM1 := hM0.call hb1
  clear hM0 hb1 hck
  by_cases hc : chkT ids ll = true
  rotate_left
  · have hcf : chkT ids ll = false := by simpa using hc
    rw [show chkE ids ll = 1 by rw [chkE, hcf]; rfl]
    clear hc
    go_wp2_with ((with_reducible show wpList _ _ _ (⟨none, Op.store 25 _ _, _, _, _, _⟩ :: _) _ _); refine wpList_store_row rfl 25 (.tmp 4) (.tmp 13) rfl (w.heap.size + 1) #[.slice none 0 0, .slice none 0 0] rfl rfl 25 _ (hM1.get 0 rfl) shapeInfo2 rfl (by simp [Value.oneCell']) ?_)
    refine bodyPost_ret (results_cell_two rfl _ _ (w.heap.size + 1) 25 #[.slice none 0 0, .slice none 0 0] _ rfl ((hM1.get 0 rfl).row _) Try.underlying25 rfl shapeInfo2) rfl ?_
    exact (HE.out 1 (by rw [delE, if_pos hcf]) (by decide) _ (below_setRow hM1.old (by omega) _))
  rw [show chkE ids ll = 0 by rw [chkE, hc]; rfl]
  obtain ⟨c1, c2, c3, c4⟩ := chkT_lv hc
  have hl2 := levI_lvN c4
  have hlm : ∀ l ∈ lvN ll, l.length ≤ 1000 := fun l hl => Nat.le_trans (lvOK_len _ _ c3 l hl) c1
  have hh := lv_high hc
  have hrise := okI_rise ids c2
  have hsr := Search_any Ai ni ci ids id w1 hci hmi (by have := h.hni; omega) hrise ((h.hids.below hM1.old).more hM1.old.size)
  have hsh1 : ShR w1 w1.heap.size Ai ni ci Al nl cl ids (levI (lvN ll)) := by rw [hl2]; exact (h.below hM1.old).more hM1.old.size
  have hcp := PCopied_any Ai ni ci Al nl cl ids (lvN ll) w1 (by omega) c1 hlm hsh1
  have Hc := Lib.hid hc
  have k0 := (hM1.get 1 rfl).cell (i := 0) (v := .slice Ai ni ci) rfl
  have Hrb := Lib.hid (fun h => rise_bel ids id hrise h)
  have Hdl := Lib.hid (show isT ids id = true → (delS ids (lvN ll) id).1 = ids.eraseIdx (belT ids id) ∧ (delS ids (lvN ll) id).2 = delL (lvN ll) (belT ids id) from fun hi => by
    have hb := (rise_bel ids id hrise hi).1
    rw [delS]
    split
    · rename_i h1
      have h0 : belT ids id = 0 := by omega
      have hlv : lvN ll = [] := lv_nilT c3 (by omega)
      rw [h0, hlv]
      match ids, h1 with
      | [x], _ => exact ⟨rfl, rfl⟩
    · exact ⟨rfl, rfl⟩)
  have Hbb := Lib.hid (show isT ids id = true → belT ids id < ids.length from fun hi => (rise_bel ids id hrise hi).1)
  clear hc hsh1 h hlm c2 c4 Hrb
  generalize belT ids id = p at *
  go_wp2_with fail
  refine hsr.mono ?_
  rintro e w1 ⟨rfl, rfl⟩
  by_cases hi : isT ids id = true
  rotate_left
  · have hif : isT ids id = false := by simpa using hi
    have He := Lib.hid (show delE ids ll id = 6 by rw [delE, if_neg (by rw [Hc.out]; simp), if_pos hif])
    rw [hif]
    clear hi hif k0
    go_wp2_with ((with_reducible show wpList _ _ _ (⟨none, Op.store 25 _ _, _, _, _, _⟩ :: _) _ _); refine wpList_store_row rfl 25 (.tmp 4) (.tmp 24) rfl (w.heap.size + 1) #[.slice none 0 0, .slice none 0 0] rfl rfl 25 _ (hM1.get 0 rfl) shapeInfo2 rfl (by simp [Value.oneCell']) ?_)
    refine bodyPost_ret (results_cell_two rfl _ _ (w.heap.size + 1) 25 #[.slice none 0 0, .slice none 0 0] _ rfl ((hM1.get 0 rfl).row _) Try.underlying25 rfl shapeInfo2) rfl ?_
    exact (HE.out 6 (He.out) (by decide) _ (below_setRow hM1.old (by omega) _))
  have Hr := Lib.hid (show delE ids ll id = 0 by rw [delE, if_neg (by rw [Hc.out]; simp), if_neg (by rw [hi]; simp)])
  have Hdl2 := Lib.hid (Hdl.out hi)
  have hpl := Hbb.out hi
  rw [hi]
  clear hi k0 hsr
  go_wp2_with ((with_reducible show wpList _ _ _ (⟨some 25, _, _, _, _, _⟩ :: _) _ _); refine wpList_loadC (by kernel_rfl) 25 (.tmp 2) rfl (w.heap.size) rfl 25 (shV Ai ni ci Al nl cl) _ (hM1.get 1 rfl) Try.underlying25 rfl shapeInfo2 ?_)
  refine hcp.mono ?_
  rintro e w2 ⟨hb2, A2, n2, c2', B2, m2, d2, vs2, rfl, h2⟩
  have hM2 := hM1.call hb2
  have hput := PTaken_any w1.heap.size A2 n2 c2' B2 m2 d2 vs2 ids (lvN ll) p w2 hb2.size c1 (by omega) hpl c3 h2
  have hlt1 := (hM1.get 0 rfl).lt
  clear hcp hM1 h2
  go_wp2_with fail
  refine hput.mono ?_
  rintro e w3 ⟨hb3, A3, n3, c3', B3, m3, d3, vs3, rfl, h3⟩
  have hR3 := (hM2.get 0 rfl).below hb3 hlt1
  have hB3 : Below w.heap.size w w3 := hM2.old.trans (hb3.mono (by omega))
  clear hM2 hput hb3 hb2
  have h4 := h3.far (grown_setRow w3 (w.heap.size + 1) (shV A3 n3 c3' B3 m3 d3)) hR3 sh_ne.1 sh_ne.2
  have hB4 := below_setRow hB3 (show w.heap.size ≤ w.heap.size + 1 by omega) (shV A3 n3 c3' B3 m3 d3)
  have hlw : w.heap.size ≤ w1.heap.size := by omega
  go_wp2_with ((with_reducible show wpList _ _ _ (⟨none, Op.store 25 _ _, _, _, _, _⟩ :: _) _ _); refine wpList_store_row rfl 25 (.tmp 4) (.tmp 28) rfl (w.heap.size + 1) (shV A3 n3 c3' B3 m3 d3) rfl rfl 25 _ (hR3) shapeInfo2 rfl (by simp [shV, Value.oneCell']) ?_)
  refine bodyPost_ret (results_cell_two rfl _ _ (w.heap.size + 1) 25 (shV A3 n3 c3' B3 m3 d3) _ rfl (hR3.row _) Try.underlying25 rfl shapeInfo2) rfl ?_
  exact HO.out Hr.out _ _ _ _ _ _ _ _ _ hlw hB4 (by rw [Hdl2.out.1, Hdl2.out.2]; exact h4)

end Go.Proofs.Ytjhcnhihmgpgbaa

/-
  CONTRACT of the program's Build (tree). Printed by gen_treepj.py.
-/
set_option linter.unusedVariables false
namespace Go.Proofs.Ytjhcnhihmgpgbaa
open Go.RowKit

theorem bld_cons (id : Int) (r ids : List Int) (lv : List (List Nat)) : bldS (id :: r) ids lv = if insE ids (levI lv) id = 0 then bldS r (insS ids lv id).1 (insS ids lv id).2 else (insE ids (levI lv) id, [], []) := rfl
theorem OwW.nil (base : Nat) (w : World) : OwW base w (.slice none 0 0) (.slice none 0 0) [] [] [] (levI []) := ⟨World.ownsRow_nil _ _ _ _, World.ownsRow_nil _ _ _ _, rfl, fun k u l h => by simp at h, fun k u g h => by simp at h, fun j k u v g h => by simp at h⟩

set_option maxRecDepth 100000 in
set_option maxHeartbeats 4000000 in
theorem PBuild_any (A : Option Addr) (n c : Nat) (xs : List Int) (w : World) (hn : n ≤ 1000000) (hx : Rd w w.heap.size A n (xs.map iv)) :
    Calls Try.prog 29 #[.slice A n c] w (BuildPost w xs) := by
  have Hxl := Lib.hid (show xs.length = n by simpa using hx.len)
  have HE := Lib.hid (show ∀ er w', (bldS xs [] []) = (er, [], []) → Below w.heap.size w w' → BuildPost w xs (.returned (.tuple #[.agg #[.slice none 0 0, .slice none 0 0], .int .i64 er])) w' from fun er w' h1 hb => ⟨hb, none, 0, 0, none, 0, 0, by rw [h1]; rfl, by rw [h1]; exact ShN.nil _ _ _⟩)
  have HO := Lib.hid (show ∀ base w' Ai ni ci Al nl cl vs ids lv, bldS xs [] [] = (0, ids, lv) → w.heap.size ≤ base → Below w.heap.size w w' → OwW base w' (.slice Ai ni ci) (.slice Al nl cl) vs vs ids (levI lv) →
    BuildPost w xs (.returned (.tuple #[.agg (shV Ai ni ci Al nl cl), .int .i64 0])) w' from fun base w' _ _ _ _ _ _ vs ids lv h0 hb h1 h2 => ⟨h1, _, _, _, _, _, _, by rw [h0], by rw [h0]; exact (h2.shN hb).1⟩)
  generalize BuildPost w xs = PO at *
  have hM0 := ((Ms.nil w).box 25 #[.slice none 0 0, .slice none 0 0]).put 25 #[.slice none 0 0, .slice none 0 0] #[.slice none 0 0, .slice none 0 0]
  simp only [World.size_alloc] at hM0
  go_enter Try.func29, Try.ntmps29
  go_upto_region 2 with ((with_reducible show wpList _ _ _ (⟨none, Op.store 25 _ _, _, _, _, _⟩ :: _) _ _); refine wpList_store_row rfl 25 (.tmp 4) (.tmp 8) rfl (w.heap.size + 1) #[.slice none 0 0, .slice none 0 0] rfl rfl 25 _ (RowC.mk_ _ _ _ (by simp)) shapeInfo2 rfl (by simp [Value.oneCell']) ?_)
  try simp only [Act.put]
  refine wp_gen (fun wx => Ms w wx [(w.heap.size + 1, 25, #[.slice none 0 0, .slice none 0 0]), (w.heap.size, 25, #[.slice none 0 0, .slice none 0 0])]) hM0 ?_
  clear hM0
  rintro w1 hM1
  go_wp2_with fail
  go_loopw [11] (fun i wr => ∃ (j : Nat) (Ai : Option Addr) (ni ci : Nat) (Al : Option Addr) (nl cl : Nat) (vs : List Value) (ids : List Int) (lv : List (List Nat)), j ≤ n ∧ i = .int .i64 (j : Int) ∧ chkT ids (levI lv) = true ∧ bldS xs [] [] = bldS (xs.drop j) ids lv ∧
    OwW (w.heap.size + 1 + 1) wr (.slice Ai ni ci) (.slice Al nl cl) vs vs ids (levI lv) ∧ Ms w wr [(w.heap.size + 1, 25, shV Ai ni ci Al nl cl), (w.heap.size, 25, #[.slice none 0 0, .slice none 0 0])]) (fun i _ => n - (intOf i).toNat)
  case atStart => exact ⟨0, none, 0, 0, none, 0, 0, [], [], [], by omega, rfl, by decide, rfl, OwW.nil _ _, hM1⟩
  case round =>
    clear hM1
    obtain ⟨j, Ai, ni, ci, Al, nl, cl, vs, ids, lv, hj, rfl, hc, hbl, h, hM⟩ := hrel
    have Hbl := Lib.hid hbl
    have hb := hM.old
    have hlt1 := (hM.get 0 rfl).lt
    clear hbl
    by_cases hlt : j < n
    · have hjx : j < xs.length := by rw [Hxl.out]; exact hlt
      obtain ⟨x, hxj⟩ : ∃ x, xs[j]? = some x := ⟨_, List.getElem?_eq_getElem hjx⟩
      obtain ⟨g, o, rfl, hgl, hcell⟩ := (hx.below hb).pos (by omega)
      have c1 := hcell j (iv x) (by rw [List.getElem?_map, hxj]; rfl)
      rw [iv_def] at c1
      have Hst := Lib.hid (show bldS xs [] [] = if insE ids (levI lv) x = 0 then bldS (xs.drop (j + 1)) (insS ids lv x).1 (insS ids lv x).2 else (insE ids (levI lv) x, [], []) by
        rw [Hbl.out, List.drop_eq_getElem_cons hjx, (List.getElem?_eq_some_iff.1 hxj).2, bld_cons])
      obtain ⟨q1, q2, q3, q4⟩ := chkT_lv hc
      rw [lvN_levI] at q3
      have hrise := okI_rise ids q2
      have hh := lv_high hc
      rw [lvN_levI] at hh
      obtain ⟨_, _, e1, hci, hmi⟩ := own_formT h.i
      injection e1 with e0 e2 e3
      subst e3 e0
      have Hni := Lib.hid e2
      rw [← e2] at hci
      have hio := h.i
      rw [← e2] at hio
      clear e2
      have hrf := PRefused_any Ai ni ci ids x wr hci hmi (by have := Hni.out; omega) hrise (Rd.of_own hio)
      have Her := Lib.hid (insE_ref (id := x) hc)
      have Hik := Lib.hid (fun h0 => ins_chk (ids := ids) (ll := levI lv) (id := x) h0)
      have k0 := (hM.get 0 rfl).cell (i := 0) (v := .slice Ai ni ci) rfl
      clear hcell hxj hjx hc q2 q4 hio
      go_wp2_with fail
      refine hrf.mono ?_
      rintro e wr ⟨rfl, rfl⟩
      by_cases hr : refT ids x = 0
      rotate_left
      · have hne : (refT ids x != 0) = true := by rw [bne_iff_ne]; exact hr
        have Hfin := Lib.hid (show bldS xs [] [] = (refT ids x, [], []) by rw [Hst.out, if_neg (by rw [Her.out]; exact hr), Her.out])
        obtain ⟨er, her⟩ : ∃ er, er = refT ids x := ⟨_, rfl⟩
        rw [← her] at hne Hfin ⊢
        clear hr her k0
        go_wp2_with ((with_reducible show wpList _ _ _ (⟨none, Op.store 25 _ _, _, _, _, _⟩ :: _) _ _); refine wpList_store_row rfl 25 (.tmp 2) (.tmp 21) rfl (w.heap.size) #[.slice none 0 0, .slice none 0 0] rfl rfl 25 _ (hM.get 1 rfl) shapeInfo2 rfl (by simp [Value.oneCell']) ?_)
        refine bodyPost_ret (results_cell_two rfl _ _ (w.heap.size) 25 #[.slice none 0 0, .slice none 0 0] _ rfl ((hM.get 1 rfl).row _) Try.underlying25 rfl shapeInfo2) rfl ?_
        exact HE.out _ _ Hfin.out (below_setRow hM.old (Nat.le_refl _) _)
      have Hfin := Lib.hid (show bldS xs [] [] = bldS (xs.drop (j + 1)) (insS ids lv x).1 (insS ids lv x).2 by rw [Hst.out, if_pos (by rw [Her.out]; exact hr)])
      have Hck := Lib.hid (show chkT (insS ids lv x).1 (levI (insS ids lv x).2) = true by
        have := (Hik.out (by rw [Her.out]; exact hr)).2.2
        rwa [lvN_levI] at this)
      rw [hr]
      clear hr k0 hrf
      have hput := PPut_any (w.heap.size + 1 + 1) Ai ni ci Al nl cl vs ids lv x wr (by omega) q1 (by omega) hrise q3 h
      obtain ⟨S, hS⟩ : ∃ S, S = insS ids lv x := ⟨_, rfl⟩
      rw [← hS] at hput Hfin Hck
      go_wp2_with ((with_reducible show wpList _ _ _ (⟨some 23, _, _, _, _, _⟩ :: _) _ _); refine wpList_loadC (by kernel_rfl) 25 (.tmp 4) rfl (w.heap.size + 1) rfl 25 (shV Ai ni ci Al nl cl) _ (hM.get 0 rfl) Try.underlying25 rfl shapeInfo2 ?_)
      refine hput.mono ?_
      rintro e w3 ⟨hb3, A3, n3, c3, B3, m3, d3, vs3, rfl, h3⟩
      have hR1 := (hM.get 0 rfl).below hb3 (by omega)
      have hR2 := (hM.get 1 rfl).below hb3 (by omega)
      have hB3 : Below w.heap.size w w3 := hM.old.trans (hb3.mono (by omega))
      have hM3 : Ms w w3 [(w.heap.size + 1, 25, shV Ai ni ci Al nl cl), (w.heap.size, 25, #[.slice none 0 0, .slice none 0 0])] := ⟨hB3, fun p hp => by
        simp only [List.mem_cons, List.not_mem_nil, or_false] at hp
        rcases hp with rfl | rfl
        · exact hR1
        · exact hR2⟩
      have hM4 := hM3.setT (by omega) (fun p hp => by simp at hp; subst hp; simp) (shV A3 n3 c3 B3 m3 d3)
      have h4 := h3.far (grown_setRow w3 (w.heap.size + 1) (shV A3 n3 c3 B3 m3 d3)) hR1 sh_ne.1 sh_ne.2
      clear hput hS hR2 hB3 hM h h3 hb3
      go_wp2_with ((with_reducible show wpList _ _ _ (⟨none, Op.store 25 _ _, _, _, _, _⟩ :: _) _ _); refine wpList_store_row rfl 25 (.tmp 4) (.tmp 25) rfl (w.heap.size + 1) (shV A3 n3 c3 B3 m3 d3) rfl rfl 25 _ (hR1) shapeInfo2 rfl (by simp [shV, Value.oneCell']) ?_)
      try simp only [Act.put]
      go_roundw
      case rel => exact ⟨j + 1, A3, n3, c3, B3, m3, d3, vs3, S.1, S.2, by omega, by go_num, Hck.out, Hfin.out, h4, hM4⟩
      case measure => simp [intOf]; omega
    · obtain rfl : j = n := by omega
      have Hfin := Lib.hid (show bldS xs [] [] = (0, ids, lv) by rw [Hbl.out, List.drop_of_length_le (by rw [Hxl.out]; exact Nat.le_refl _)]; rfl)
      have h4 := h.far (grown_setRow wr w.heap.size (shV Ai ni ci Al nl cl)) (hM.get 1 rfl) sh_ne.1 sh_ne.2
      go_wp2_with (first
        | ((with_reducible show wpList _ _ _ (⟨some 27, _, _, _, _, _⟩ :: _) _ _); refine wpList_loadC (by kernel_rfl) 25 (.tmp 4) rfl (w.heap.size + 1) rfl 25 (shV Ai ni ci Al nl cl) _ (hM.get 0 rfl) Try.underlying25 rfl shapeInfo2 ?_)
        | ((with_reducible show wpList _ _ _ (⟨none, Op.store 25 _ _, _, _, _, _⟩ :: _) _ _); refine wpList_store_row rfl 25 (.tmp 2) (.tmp 27) rfl (w.heap.size) (shV Ai ni ci Al nl cl) rfl rfl 25 _ (hM.get 1 rfl) shapeInfo2 rfl (by simp [shV, Value.oneCell']) ?_))
      refine bodyPost_ret (results_cell_two rfl _ _ (w.heap.size) 25 (shV Ai ni ci Al nl cl) _ rfl ((hM.get 1 rfl).row _) Try.underlying25 rfl shapeInfo2) rfl ?_
      exact HO.out _ _ _ _ _ _ _ _ _ _ _ Hfin.out (by omega) (below_setRow hM.old (Nat.le_refl _) _) h4

end Go.Proofs.Ytjhcnhihmgpgbaa

