import Derived.Test.YtmganbdbihjbmaaK20
/-
  CONTRACTS of the document's Insert and Delete (coterieref10).
-/
set_option linter.unusedVariables false
namespace Go.Proofs.Ytmganbdbihjbmaa
open Go.RowKit

theorem cells_nil (w : World) : Cells [] w := fun g hg => by cases hg
/-- why no member is put in; the members and levels with it -/
def insE (ids : List Int) (ll : List (List Int)) (id : Int) : Int := if chkT ids ll = false ∨ id < 0 ∨ 1048576 < id then 1 else if isT ids id = true then 7 else if ids.length = 1000 then 8 else 0
def insS (ids : List Int) (lv : List (List Nat)) (id : Int) : List Int × List (List Nat) := if ids = [] then ([id], []) else (insI ids id, insL lv (belT ids id - 1))
def InsPost (w : World) (ids : List Int) (ll : List (List Int)) (id : Int) (e : Ending) (w' : World) : Prop :=
  Below w.heap.size w w' ∧ ((insE ids ll id ≠ 0 ∧ e = .returned (.tuple #[.agg sh0, .int .i64 (insE ids ll id)])) ∨
    (insE ids ll id = 0 ∧ ∃ Ai ni ci Al nl cl, e = .returned (.tuple #[.agg (shV Ai ni ci Al nl cl), .int .i64 0]) ∧ ShN w.heap.size w' w'.heap.size Ai ni ci Al nl cl (insS ids (lvN ll) id).1 (levI (insS ids (lvN ll) id).2)))
/-- why no member is taken out; the members and levels without it -/
def delE (ids : List Int) (ll : List (List Int)) (id : Int) : Int := if chkT ids ll = false then 1 else if isT ids id = false then 6 else 0
def delS (ids : List Int) (lv : List (List Nat)) (id : Int) : List Int × List (List Nat) := if ids.length = 1 then ([], []) else (ids.eraseIdx (belT ids id), delL lv (belT ids id))
def DelPost (w : World) (ids : List Int) (ll : List (List Int)) (id : Int) (e : Ending) (w' : World) : Prop :=
  Below w.heap.size w w' ∧ ((delE ids ll id ≠ 0 ∧ e = .returned (.tuple #[.agg sh0, .int .i64 (delE ids ll id)])) ∨
    (delE ids ll id = 0 ∧ ∃ Ai ni ci Al nl cl, e = .returned (.tuple #[.agg (shV Ai ni ci Al nl cl), .int .i64 0]) ∧ ShN w.heap.size w' w'.heap.size Ai ni ci Al nl cl (delS ids (lvN ll) id).1 (levI (delS ids (lvN ll) id).2)))

theorem sizeSh (Ai : Option Addr) (ni ci : Nat) (Al : Option Addr) (nl cl : Nat) : (Try.prog.info? 25).map (·.size) = some (shV Ai ni ci Al nl cl).size := shapeInfo2
theorem one_sh (Ai : Option Addr) (ni ci : Nat) (Al : Option Addr) (nl cl : Nat) : (shV Ai ni ci Al nl cl).all (·.oneCell') = true := by simp [shV, Value.oneCell']
theorem ShR.nil (w : World) (B : Nat) : ShR w B none 0 0 none 0 0 [] [] := ⟨rfl, rfl, Nat.le_refl _, Nat.le_refl _, by simp [maxLen], by simp [maxLen], Rd.zero _ _ _, [], Rd.zero _ _ _, Lvs.nil _ _⟩
theorem lv_high {ids : List Int} {ll : List (List Int)} (hc : chkT ids ll = true) : (lvN ll).length ≤ 10 := by
  obtain ⟨h1, _, h3, _⟩ := chkT_lv hc
  rcases Nat.eq_zero_or_pos ids.length with h0 | h0
  · rw [h0] at h3
    match hl : lvN ll, h3 with
    | [], _ => simp
    | l :: ls, h3 =>
      have := h3.1
      omega
  · have h := lvOK_high _ _ h3 h0
    rcases Nat.lt_or_ge 10 (lvN ll).length with h2 | h2
    · have := Nat.pow_le_pow_right (show 0 < 2 by omega) h2
      omega
    · exact h2
theorem levF_len : ∀ (h : Nat) (F : List Nd), (levF h F).length = h
  | 0, _ => rfl
  | h + 1, F => by rw [levF, List.length_append, levF_len h]; rfl

theorem size_setRowT (w : World) (g : Nat) (cs : Array Value) : (w.setRow g cs).heap.size = w.heap.size := by simp [World.setRow]
theorem insI_len (l : List Int) (id : Int) : (insI l id).length = l.length + 1 := by
  have := List.countP_le_length (p := fun x => decide (x < id)) (l := l)
  rw [insI, List.length_append, List.length_cons, List.length_take, List.length_drop, belT]
  omega
theorem belT_le (ids : List Int) (id : Int) : belT ids id ≤ ids.length := List.countP_le_length
theorem lvOK_pos : ∀ (lv : List (List Nat)) (many : Nat), lvOK many lv → ∀ l ∈ lv, 0 < l.length
  | [], _, _, l, hl => by simp at hl
  | x :: ls, many, ⟨h1, h2, h3, h4⟩, l, hl => by
    rcases List.mem_cons.1 hl with rfl | hl
    · rcases Nat.eq_zero_or_pos l.length with h0 | h0
      · rw [List.length_eq_zero_iff.1 h0] at h3
        simp at h3
        omega
      · exact h0
    · exact lvOK_pos ls _ h4 l hl
theorem levI_pos {lv : List (List Nat)} (h : ∀ l ∈ lv, 0 < l.length) : ∀ l ∈ levI lv, 0 < l.length := by
  intro l hl
  obtain ⟨x, hx, rfl⟩ := List.mem_map.1 hl
  rw [List.length_map]
  exact h x hx
set_option maxRecDepth 100000 in
set_option maxHeartbeats 8000000 in
theorem InsertT_any (Ai : Option Addr) (ni ci : Nat) (Al : Option Addr) (nl cl : Nat) (ids : List Int) (ll : List (List Int)) (id : Int) (w : World) (h : ShR w w.heap.size Ai ni ci Al nl cl ids ll) (hf : ∀ l ∈ ll, l.length ≤ 1000000) :
    Calls Try.prog 33 #[.agg (shV Ai ni ci Al nl cl), .int .i64 id] w (InsPost w ids ll id) := by
  have hM0 := ((Ms.nil w).box 25 (shV Ai ni ci Al nl cl)).box 25 #[.slice none 0 0, .slice none 0 0]
  simp only [World.size_alloc] at hM0
  have hck := CheckT_any Ai ni ci Al nl cl ids ll _ ((h.below hM0.old).more hM0.old.size) hf
  have hfd := fun wx (hb : Below w.heap.size w wx) => Find_any Ai ni ci Al nl cl ids id wx h.hni h.hci h.hmi ((h.hids.below hb).more hb.size)
  have hnd := fun wx (hb : Below w.heap.size w wx) (hc : chkT ids ll = true) => Nodes_any Ai ni ci Al nl cl ids ll wx ((h.below hb).more hb.size) hf hc
  have Hsv := Lib.hid (sizeSh Ai ni ci Al nl cl)
  have Hni := Lib.hid h.hni
  have hmi := Nat.le_trans h.hci h.hmi
  rw [maxLen] at hmi
  have HE := Lib.hid (show ∀ er : Int, insE ids ll id = er → er ≠ 0 → ∀ w', Below w.heap.size w w' → InsPost w ids ll id (.returned (.tuple #[.agg #[.slice none 0 0, .slice none 0 0], .int .i64 er])) w' from fun er h1 h2 w' hb => ⟨hb, .inl ⟨by rw [h1]; exact h2, by rw [h1]; rfl⟩⟩)
  have HO := Lib.hid (show insE ids ll id = 0 → ∀ e w' Ai ni ci Al nl cl, Below w.heap.size w w' → e = .returned (.tuple #[.agg (shV Ai ni ci Al nl cl), .int .i64 0]) → ShN w.heap.size w' w'.heap.size Ai ni ci Al nl cl (insS ids (lvN ll) id).1 (levI (insS ids (lvN ll) id).2) → InsPost w ids ll id e w' from fun h0 e w' _ _ _ _ _ _ hb he hs => ⟨hb, .inr ⟨h0, _, _, _, _, _, _, he, hs⟩⟩)
  generalize InsPost w ids ll id = PO at *
  clear h
  generalize hsv : (shV Ai ni ci Al nl cl) = sv at *
  go_enter Try.func33, Try.ntmps33
  go_wp2_with ((with_reducible show wpList _ _ _ (⟨some 9, _, _, _, _, _⟩ :: _) _ _); refine wpList_loadC (by kernel_rfl) 25 (.tmp 2) rfl (w.heap.size) rfl 25 sv _ (hM0.get 1 rfl) Try.underlying25 rfl Hsv.out ?_)
  refine hck.mono ?_
  rintro e w1 ⟨rfl, hb1⟩
  have hM1 := hM0.call hb1
  clear hM0 hb1 hck
  by_cases hc : chkT ids ll = true
  rotate_left
  · have hcf : chkT ids ll = false := by simpa using hc
    rw [show chkE ids ll = 1 by rw [chkE, hcf]; rfl]
    clear hc
    go_wp2_with ((with_reducible show wpList _ _ _ (⟨none, Op.store 25 _ _, _, _, _, _⟩ :: _) _ _); refine wpList_store_row rfl 25 (.tmp 4) (.tmp 20) rfl (w.heap.size + 1) #[.slice none 0 0, .slice none 0 0] rfl rfl 25 _ (hM1.get 0 rfl) shapeInfo2 rfl (by simp [Value.oneCell']) ?_)
    refine bodyPost_ret (results_cell_two rfl _ _ (w.heap.size + 1) 25 #[.slice none 0 0, .slice none 0 0] _ rfl ((hM1.get 0 rfl).row _) Try.underlying25 rfl shapeInfo2) rfl ?_
    exact (HE.out 1 (by rw [insE, if_pos (.inl hcf)]) (by decide) _ (below_setRow hM1.old (by omega) _))
  rw [show chkE ids ll = 0 by rw [chkE, hc]; rfl]
  by_cases hid : id < 0
  · go_wp2_with ((with_reducible show wpList _ _ _ (⟨none, Op.store 25 _ _, _, _, _, _⟩ :: _) _ _); refine wpList_store_row rfl 25 (.tmp 4) (.tmp 20) rfl (w.heap.size + 1) #[.slice none 0 0, .slice none 0 0] rfl rfl 25 _ (hM1.get 0 rfl) shapeInfo2 rfl (by simp [Value.oneCell']) ?_)
    refine bodyPost_ret (results_cell_two rfl _ _ (w.heap.size + 1) 25 #[.slice none 0 0, .slice none 0 0] _ rfl ((hM1.get 0 rfl).row _) Try.underlying25 rfl shapeInfo2) rfl ?_
    exact (HE.out 1 (by rw [insE, if_pos (.inr (.inl hid))]) (by decide) _ (below_setRow hM1.old (by omega) _))
  by_cases hid2 : 1048576 < id
  · go_wp2_with ((with_reducible show wpList _ _ _ (⟨none, Op.store 25 _ _, _, _, _, _⟩ :: _) _ _); refine wpList_store_row rfl 25 (.tmp 4) (.tmp 20) rfl (w.heap.size + 1) #[.slice none 0 0, .slice none 0 0] rfl rfl 25 _ (hM1.get 0 rfl) shapeInfo2 rfl (by simp [Value.oneCell']) ?_)
    refine bodyPost_ret (results_cell_two rfl _ _ (w.heap.size + 1) 25 #[.slice none 0 0, .slice none 0 0] _ rfl ((hM1.get 0 rfl).row _) Try.underlying25 rfl shapeInfo2) rfl ?_
    exact (HE.out 1 (by rw [insE, if_pos (.inr (.inr hid2))]) (by decide) _ (below_setRow hM1.old (by omega) _))
  have Hno := Lib.hid (show ¬ (chkT ids ll = false ∨ id < 0 ∨ 1048576 < id) from fun h => by
    rcases h with h | h | h
    · rw [hc] at h; cases h
    · exact hid h
    · exact hid2 h)
  have Hc := Lib.hid hc
  clear hc
  go_wp2_with ((with_reducible show wpList _ _ _ (⟨some 22, _, _, _, _, _⟩ :: _) _ _); refine wpList_loadC (by kernel_rfl) 25 (.tmp 2) rfl (w.heap.size) rfl 25 sv _ (hM1.get 1 rfl) Try.underlying25 rfl Hsv.out ?_)
  refine (hfd _ hM1.old).mono ?_
  rintro e w2 ⟨rfl, hb2⟩
  have hM2 := hM1.call hb2
  clear hM1 hb2 hfd
  by_cases his : isT ids id = true
  · rw [his]
    have Hi := Lib.hid his
    clear his
    go_wp2_with ((with_reducible show wpList _ _ _ (⟨none, Op.store 25 _ _, _, _, _, _⟩ :: _) _ _); refine wpList_store_row rfl 25 (.tmp 4) (.tmp 28) rfl (w.heap.size + 1) #[.slice none 0 0, .slice none 0 0] rfl rfl 25 _ (hM2.get 0 rfl) shapeInfo2 rfl (by simp [Value.oneCell']) ?_)
    refine bodyPost_ret (results_cell_two rfl _ _ (w.heap.size + 1) 25 #[.slice none 0 0, .slice none 0 0] _ rfl ((hM2.get 0 rfl).row _) Try.underlying25 rfl shapeInfo2) rfl ?_
    exact (HE.out 7 (by rw [insE, if_neg Hno.out, if_pos Hi.out]) (by decide) _ (below_setRow hM2.old (by omega) _))
  have hif : isT ids id = false := by simpa using his
  rw [hif]
  have Hi := Lib.hid his
  clear his hif
  have k0 := (hM2.get 1 rfl).cell (i := 0) (v := .slice Ai ni ci) (by rw [← hsv]; rfl)
  have hn1000 : ni ≤ 1000 := by rw [← Hni.out]; exact (chkT_lv Hc.out).1
  by_cases h8 : ni = 1000
  · have h8i : (ni : Int) = 1000 := by omega
    have Hn8 := Lib.hid h8
    clear h8
    go_wp2_with ((with_reducible show wpList _ _ _ (⟨none, Op.store 25 _ _, _, _, _, _⟩ :: _) _ _); refine wpList_store_row rfl 25 (.tmp 4) (.tmp 33) rfl (w.heap.size + 1) #[.slice none 0 0, .slice none 0 0] rfl rfl 25 _ (hM2.get 0 rfl) shapeInfo2 rfl (by simp [Value.oneCell']) ?_)
    refine bodyPost_ret (results_cell_two rfl _ _ (w.heap.size + 1) 25 #[.slice none 0 0, .slice none 0 0] _ rfl ((hM2.get 0 rfl).row _) Try.underlying25 rfl shapeInfo2) rfl ?_
    exact (HE.out 8 (by rw [insE, if_neg Hno.out, if_neg Hi.out, if_pos (by rw [Hni.out]; exact Hn8.out)]) (by decide) _ (below_setRow hM2.old (by omega) _))
  have h8i : ¬ (ni : Int) = 1000 := by omega
  have HO2 := HO.out (by rw [insE, if_neg Hno.out, if_neg Hi.out, if_neg (by rw [Hni.out]; exact h8)])
  by_cases h0 : ni = 0
  · have h0i : (ni : Int) = 0 := by omega
    have Hie := Lib.hid (show ids = [] from List.length_eq_zero_iff.1 (by rw [Hni.out]; exact h0))
    go_wp2_with ((with_reducible show wpList _ _ _ (⟨none, Op.store 25 _ _, _, _, _, _⟩ :: _) _ _); refine wpList_store_row rfl 25 (.tmp 4) (.tmp 40) rfl (w.heap.size + 1) #[.slice (some ⟨w2.heap.size, 0, none⟩) 1 1, .slice none 0 0] rfl rfl 25 _ ((hM2.get 0 rfl).alloc _) shapeInfo2 rfl (by simp [Value.oneCell']) ?_)
    have hlt2 := (hM2.get 0 rfl).lt
    have hb9 := hM2.old.alloc hM2.old.size (.cells #[.int .i64 id] 3)
    refine bodyPost_ret (results_cell_two rfl _ _ (w.heap.size + 1) 25 #[.slice (some ⟨w2.heap.size, 0, none⟩) 1 1, .slice none 0 0] _ rfl (((hM2.get 0 rfl).alloc _).row _) Try.underlying25 rfl shapeInfo2) rfl ?_
    exact (HO2 _ _ (some ⟨w2.heap.size, 0, none⟩) 1 1 none 0 0 (below_setRow hb9 (by omega) _) rfl (by
      rw [insS, if_pos Hie.out, size_setRowT]
      have hs9 : ShN (w.heap.size + 2) (w2.alloc (.cells #[.int .i64 id] 3)) (w2.alloc (.cells #[.int .i64 id] 3)).heap.size (some ⟨w2.heap.size, 0, none⟩) 1 1 none 0 0 [id] [] := ⟨⟨rfl, rfl, Nat.le_refl _, Nat.le_refl _, by simp [maxLen], by simp [maxLen], Rd.mk_ _ _ _ rfl (by simp) rfl rfl, [], Rd.zero _ _ _, Lvs.nil _ _⟩, (fun ad had => by injection had with had; subst had; show _ ≤ w2.heap.size; omega), NewA.none _, [], Rd.zero _ _ _, Lvs.nil _ _, NewVs.nil _⟩
      exact (hs9.box (by omega) _).mono (by omega)))
  have h0i : ¬ (ni : Int) = 0 := by omega
  have hne : ids ≠ [] := fun e => h0 (by rw [← Hni.out, e]; rfl)
  obtain ⟨x, hxn, hxh, hxl, hxi⟩ := root_of (chkT_lv Hc.out).2.2.1 (by rw [Hni.out]; omega)
  obtain ⟨h', a1, a2, a3, a4, a5⟩ := ins_shape (id := id) hxh hxl hxi (okI_rise _ (chkT_lv Hc.out).2.1)
  have hhl := lv_high Hc.out
  have HS : insS ids (lvN ll) id = (insI ids id, insL (lvN ll) (belT ids id - 1)) := by rw [insS, if_neg hne]
  rw [HS, ← a2, ← a3] at HO2
  have hh' : h' ≤ 100 := by
    have h1 := levF_len h' (if (withN x id).length = 2 then [ofKids (withN x id)] else withN x id)
    rw [a2] at h1
    have h2 := (insL_near (lvN ll) ids.length (belT ids id - 1) (chkT_lv Hc.out).2.2.1 (by have := belT_le ids id; have := Hni.out; omega)).2.1
    omega
  have hsz : (idsF (if (withN x id).length = 2 then [ofKids (withN x id)] else withN x id)).length ≤ 2000 := by
    rw [a3, insI_len, Hni.out]
    omega
  have Hpos := Lib.hid (show ∀ l ∈ levI (levF h' (if (withN x id).length = 2 then [ofKids (withN x id)] else withN x id)), 0 < l.length from levI_pos (by rw [a2]; exact lvOK_pos _ _ (insL_ok _ _ _ (chkT_lv Hc.out).2.2.1 (by have := belT_le ids id; have := Hni.out; omega))))
  have Hx := Lib.hid hxh
  have Hn := Lib.hid hxn
  have Ha := Lib.hid a1
  have H4 := Lib.hid a4
  clear a1 a2 a3 a4 a5 hxn hxl hxi hxh HS hne HO HE
  go_wp2_with ((with_reducible show wpList _ _ _ (⟨some 41, _, _, _, _, _⟩ :: _) _ _); refine wpList_loadC (by kernel_rfl) 25 (.tmp 2) rfl (w.heap.size) rfl 25 sv _ (hM2.get 1 rfl) Try.underlying25 rfl Hsv.out ?_)
  refine (hnd _ hM2.old Hc.out).mono ?_
  rintro e w3 ⟨hb3, A3, n3, c3, rfl, hS3⟩
  rw [Hn.out] at hS3
  have hM3 := hM2.call hb3
  clear hM2 hb3 hnd k0
  obtain ⟨b, o, u, rfl, hbl, hu, c1, _⟩ := hS3.range (i := 0) (by simp)
  have hn3 : n3 = 1 := hS3.1.symm
  subst hn3
  have hwi := with_any (lvN ll).length (by omega) x u id [] w3 Hx.out (cells_nil _) hu
  have c1' : w3.rangeAt b o [iv x.id, u] := c1
  go_wp2_with ((with_reducible show wpList _ _ _ (⟨some 44, _, _, _, _, _⟩ :: _) _ _); refine wpList_load_midG (by kernel_rfl) 85 (.tmp 43) rfl b o rfl [iv x.id, u] _ c1' Try.underlying85 rfl sizeNd ?_)
  refine hwi.mono ?_
  rintro e w4 ⟨hb4, A4, n4, c4, rfl, hS4⟩
  have hM4 := hM3.call hb4
  have hS4' : SlN w4 w4.heap.size A4 n4 c4 (withN x id) := hS4
  have hn4 := hS4'.1
  clear hM3 hb4 hwi hS3 hu c1 c1' hS4
  by_cases h2 : n4 = 2
  · have h2i : (n4 : Int) = 2 := by omega
    have hl2 : (withN x id).length = 2 := by omega
    rw [if_pos hl2] at Ha HO2 hsz Hpos
    have hso := SlN.sole (gs := []) (cells_nil _) hS4' (by omega) rfl
    have hM5 := hM4.allocT (.cells #[.int .i64 0, .slice A4 n4 c4] 85)
    have hof := Of_any h' _ _ _ _ _ hh' Ha.out (by simp) hsz hso
    have hlt9 := (hM5.get 0 rfl).lt
    have hle9 := hM5.old.size
    subst h2
    go_wp2_with fail
    refine hof.mono ?_
    rintro e w6 ⟨hb6, Ai6, ni6, ci6, Al6, nl6, cl6, rfl, hsh⟩
    have hM6 := hM5.call hb6
    go_wp2_with ((with_reducible show wpList _ _ _ (⟨none, Op.store 25 _ _, _, _, _, _⟩ :: _) _ _); refine wpList_store_row rfl 25 (.tmp 4) (.tmp 54) rfl (w.heap.size + 1) (shV Ai6 ni6 ci6 Al6 nl6 cl6) rfl rfl 25 _ (hM6.get 0 rfl) (sizeSh _ _ _ _ _ _) rfl (one_sh _ _ _ _ _ _) ?_)
    refine bodyPost_ret (results_cell_two rfl _ _ (w.heap.size + 1) 25 (shV Ai6 ni6 ci6 Al6 nl6 cl6) _ rfl ((hM6.get 0 rfl).row _) Try.underlying25 rfl (sizeSh _ _ _ _ _ _)) rfl ?_
    exact (HO2 _ _ _ _ _ _ _ _ (below_setRow hM6.old (by omega) _) rfl (by rw [size_setRowT]; exact (hsh.box (g := w.heap.size + 1) hlt9 _).mono hle9))
  · have h2i : ¬ (n4 : Int) = 2 := by omega
    have hl2 : ¬ (withN x id).length = 2 := by omega
    rw [if_neg hl2] at Ha HO2 hsz Hpos
    have hof := Of_any h' _ _ _ _ _ hh' Ha.out (fun e => by have := H4.out; rw [e] at this; simp at this) hsz hS4'
    have hlt9 := (hM4.get 0 rfl).lt
    have hle9 := hM4.old.size
    go_wp2_with fail
    refine hof.mono ?_
    rintro e w6 ⟨hb6, Ai6, ni6, ci6, Al6, nl6, cl6, rfl, hsh⟩
    have hM6 := hM4.call hb6
    go_wp2_with ((with_reducible show wpList _ _ _ (⟨none, Op.store 25 _ _, _, _, _, _⟩ :: _) _ _); refine wpList_store_row rfl 25 (.tmp 4) (.tmp 54) rfl (w.heap.size + 1) (shV Ai6 ni6 ci6 Al6 nl6 cl6) rfl rfl 25 _ (hM6.get 0 rfl) (sizeSh _ _ _ _ _ _) rfl (one_sh _ _ _ _ _ _) ?_)
    refine bodyPost_ret (results_cell_two rfl _ _ (w.heap.size + 1) 25 (shV Ai6 ni6 ci6 Al6 nl6 cl6) _ rfl ((hM6.get 0 rfl).row _) Try.underlying25 rfl (sizeSh _ _ _ _ _ _)) rfl ?_
    exact (HO2 _ _ _ _ _ _ _ _ (below_setRow hM6.old (by omega) _) rfl (by rw [size_setRowT]; exact (hsh.box (g := w.heap.size + 1) hlt9 _).mono hle9))

end Go.Proofs.Ytmganbdbihjbmaa

/-
  CONTRACT of the document's Delete (coterieref10).
-/
set_option linter.unusedVariables false
namespace Go.Proofs.Ytmganbdbihjbmaa
open Go.RowKit

set_option maxRecDepth 100000 in
set_option maxHeartbeats 800000 in
theorem DeleteT_any (Ai : Option Addr) (ni ci : Nat) (Al : Option Addr) (nl cl : Nat) (ids : List Int) (ll : List (List Int)) (id : Int) (w : World) (h : ShR w w.heap.size Ai ni ci Al nl cl ids ll) (hf : ∀ l ∈ ll, l.length ≤ 1000000) :
    Calls Try.prog 32 #[.agg (shV Ai ni ci Al nl cl), .int .i64 id] w (DelPost w ids ll id) := by
  have hM0 := ((Ms.nil w).box 25 (shV Ai ni ci Al nl cl)).box 25 #[.slice none 0 0, .slice none 0 0]
  simp only [World.size_alloc] at hM0
  have hck := CheckT_any Ai ni ci Al nl cl ids ll _ ((h.below hM0.old).more hM0.old.size) hf
  have hfd := fun wx (hb : Below w.heap.size w wx) => Find_any Ai ni ci Al nl cl ids id wx h.hni h.hci h.hmi ((h.hids.below hb).more hb.size)
  have hnd := fun wx (hb : Below w.heap.size w wx) (hc : chkT ids ll = true) => Nodes_any Ai ni ci Al nl cl ids ll wx ((h.below hb).more hb.size) hf hc
  have Hsv := Lib.hid (sizeSh Ai ni ci Al nl cl)
  have Hni := Lib.hid h.hni
  have hmi := Nat.le_trans h.hci h.hmi
  rw [maxLen] at hmi
  have HE := Lib.hid (show ∀ er : Int, delE ids ll id = er → er ≠ 0 → ∀ w', Below w.heap.size w w' → DelPost w ids ll id (.returned (.tuple #[.agg #[.slice none 0 0, .slice none 0 0], .int .i64 er])) w' from fun er h1 h2 w' hb => ⟨hb, .inl ⟨by rw [h1]; exact h2, by rw [h1]; rfl⟩⟩)
  have HO := Lib.hid (show delE ids ll id = 0 → ∀ e w' Ai ni ci Al nl cl, Below w.heap.size w w' → e = .returned (.tuple #[.agg (shV Ai ni ci Al nl cl), .int .i64 0]) → ShN w.heap.size w' w'.heap.size Ai ni ci Al nl cl (delS ids (lvN ll) id).1 (levI (delS ids (lvN ll) id).2) → DelPost w ids ll id e w' from fun h0 e w' _ _ _ _ _ _ hb he hs => ⟨hb, .inr ⟨h0, _, _, _, _, _, _, he, hs⟩⟩)
  generalize DelPost w ids ll id = PO at *
  clear h
  generalize hsv : (shV Ai ni ci Al nl cl) = sv at *
  go_enter Try.func32, Try.ntmps32
  go_wp2_with ((with_reducible show wpList _ _ _ (⟨some 9, _, _, _, _, _⟩ :: _) _ _); refine wpList_loadC (by kernel_rfl) 25 (.tmp 2) rfl (w.heap.size) rfl 25 sv _ (hM0.get 1 rfl) Try.underlying25 rfl Hsv.out ?_)
  refine hck.mono ?_
  rintro e w1 ⟨rfl, hb1⟩
  have hM1 := hM0.call hb1
  clear hM0 hb1 hck
  by_cases hc : chkT ids ll = true
  rotate_left
  · have hcf : chkT ids ll = false := by simpa using hc
    rw [show chkE ids ll = 1 by rw [chkE, hcf]; rfl]
    clear hc
    go_wp2_with ((with_reducible show wpList _ _ _ (⟨none, Op.store 25 _ _, _, _, _, _⟩ :: _) _ _); refine wpList_store_row rfl 25 (.tmp 4) (.tmp 12) rfl (w.heap.size + 1) #[.slice none 0 0, .slice none 0 0] rfl rfl 25 _ (hM1.get 0 rfl) shapeInfo2 rfl (by simp [Value.oneCell']) ?_)
    refine bodyPost_ret (results_cell_two rfl _ _ (w.heap.size + 1) 25 #[.slice none 0 0, .slice none 0 0] _ rfl ((hM1.get 0 rfl).row _) Try.underlying25 rfl shapeInfo2) rfl ?_
    exact HE.out 1 (by rw [delE, if_pos hcf]) (by decide) _ (below_setRow hM1.old (by omega) _)
  rw [show chkE ids ll = 0 by rw [chkE, hc]; rfl]
  have Hc := Lib.hid hc
  have Hno := Lib.hid (show ¬ (chkT ids ll = false) from fun h => by rw [hc] at h; cases h)
  clear hc
  go_wp2_with ((with_reducible show wpList _ _ _ (⟨some 14, _, _, _, _, _⟩ :: _) _ _); refine wpList_loadC (by kernel_rfl) 25 (.tmp 2) rfl (w.heap.size) rfl 25 sv _ (hM1.get 1 rfl) Try.underlying25 rfl Hsv.out ?_)
  refine (hfd _ hM1.old).mono ?_
  rintro e w2 ⟨rfl, hb2⟩
  have hM2 := hM1.call hb2
  clear hM1 hb2 hfd
  by_cases his : isT ids id = true
  rotate_left
  · have hif : isT ids id = false := by simpa using his
    rw [hif]
    have Hi := Lib.hid hif
    clear his hif
    go_wp2_with ((with_reducible show wpList _ _ _ (⟨none, Op.store 25 _ _, _, _, _, _⟩ :: _) _ _); refine wpList_store_row rfl 25 (.tmp 4) (.tmp 21) rfl (w.heap.size + 1) #[.slice none 0 0, .slice none 0 0] rfl rfl 25 _ (hM2.get 0 rfl) shapeInfo2 rfl (by simp [Value.oneCell']) ?_)
    refine bodyPost_ret (results_cell_two rfl _ _ (w.heap.size + 1) 25 #[.slice none 0 0, .slice none 0 0] _ rfl ((hM2.get 0 rfl).row _) Try.underlying25 rfl shapeInfo2) rfl ?_
    exact HE.out 6 (by rw [delE, if_neg Hno.out, if_pos Hi.out]) (by decide) _ (below_setRow hM2.old (by omega) _)
  rw [his]
  have HO2 := HO.out (by rw [delE, if_neg Hno.out, if_neg (by rw [his]; decide)])
  have hin : id ∈ ids := by
    obtain ⟨z, hz1, hz2⟩ := List.any_eq_true.1 his
    have : z = id := by simpa using hz2
    rw [← this]; exact hz1
  have Hin := Lib.hid hin
  clear his hin
  have k0 := (hM2.get 1 rfl).cell (i := 0) (v := .slice Ai ni ci) (by rw [← hsv]; rfl)
  have hn1000 : ni ≤ 1000 := by rw [← Hni.out]; exact (chkT_lv Hc.out).1
  have hn1 : 1 ≤ ni := by rw [← Hni.out]; exact List.length_pos_of_mem Hin.out
  by_cases h1 : ni = 1
  · have h1i : (ni : Int) = 1 := by omega
    have H1 := Lib.hid h1
    clear h1
    go_wp2_with ((with_reducible show wpList _ _ _ (⟨none, Op.store 25 _ _, _, _, _, _⟩ :: _) _ _); refine wpList_store_row rfl 25 (.tmp 4) (.tmp 26) rfl (w.heap.size + 1) #[.slice none 0 0, .slice none 0 0] rfl rfl 25 _ (hM2.get 0 rfl) shapeInfo2 rfl (by simp [Value.oneCell']) ?_)
    refine bodyPost_ret (results_cell_two rfl _ _ (w.heap.size + 1) 25 #[.slice none 0 0, .slice none 0 0] _ rfl ((hM2.get 0 rfl).row _) Try.underlying25 rfl shapeInfo2) rfl ?_
    exact HO2 _ _ none 0 0 none 0 0 (below_setRow hM2.old (by omega) _) rfl (by rw [delS, if_pos (by rw [Hni.out]; exact H1.out)]; exact ShN.nil _ _ _)
  have h1i : ¬ (ni : Int) = 1 := by omega
  have h2n : 2 ≤ ids.length := by rw [Hni.out]; omega
  obtain ⟨x, hxn, hxh, hxl, hxi⟩ := root_of (chkT_lv Hc.out).2.2.1 (by omega)
  obtain ⟨h', ys, a1, a2, a3, a4⟩ := del_shape (id := id) (chkT_lv Hc.out).2.2.1 h2n hxh hxl hxi (okI_rise _ (chkT_lv Hc.out).2.1) Hin.out
  have hhl := lv_high Hc.out
  have hbl : belT ids id < ids.length := by
    obtain ⟨hlt, _⟩ := rise_bel ids id (okI_rise _ (chkT_lv Hc.out).2.1) (List.any_eq_true.2 ⟨id, Hin.out, by simp⟩)
    exact hlt
  have HS : delS ids (lvN ll) id = (ids.eraseIdx (belT ids id), delL (lvN ll) (belT ids id)) := by rw [delS, if_neg (by omega)]
  have hdl := delL_ok _ _ _ (chkT_lv Hc.out).2.2.1 hbl
  have hdn := (delL_near (lvN ll) ids.length (belT ids id) (chkT_lv Hc.out).2.2.1 hbl).1
  obtain ⟨k, hk⟩ : ∃ k, (lvN ll).length = k + 1 := by
    have h := (chkT_lv Hc.out).2.2.1
    match hl : lvN ll, h with
    | [], h => have : ids.length ≤ 1 := h; omega
    | l :: ls, _ => exact ⟨ls.length, rfl⟩
  rw [hk] at hxh
  have hpos := levI_pos (lvOK_pos _ _ hdl)
  have hel : (ids.eraseIdx (belT ids id)).length ≤ 1000 := by have := Hni.out; rw [List.length_eraseIdx]; split <;> omega
  rw [HS] at HO2
  obtain ⟨F, hF1, hF2, hF3, hF4, hF5⟩ : ∃ F : List Nd, F = (if ys.length = 1 then ys else [ofKids ys]) ∧ allH h' F ∧ levF h' F = delL (lvN ll) (belT ids id) ∧ idsF F = ids.eraseIdx (belT ids id) ∧ F.length = 1 := by
    refine ⟨_, rfl, ?_⟩
    by_cases hy : ys.length = 1
    · rw [if_pos hy]
      exact ⟨(a3 hy).1, (a3 hy).2.1, (a3 hy).2.2, hy⟩
    · rw [if_neg hy]
      exact ⟨(a4 hy).1, (a4 hy).2.1, (a4 hy).2.2, rfl⟩
  have hh' : h' ≤ 100 := by
    have h1 := levF_len h' F
    rw [hF3] at h1
    omega
  rw [← hF3, ← hF4] at HO2
  rw [← hF3] at hpos
  rw [← hF4] at hel
  have Hpos := Lib.hid hpos
  have Hx := Lib.hid hxh
  have Hn := Lib.hid hxn
  have HF := Lib.hid hF1
  have HFa := Lib.hid hF2
  have Hw := Lib.hid a1
  have Hy := Lib.hid a2
  have Hhl := Lib.hid (show k + 1 ≤ 100 by omega)
  have Hel := Lib.hid (show (idsF F).length ≤ 2000 by omega)
  have Hh' := Lib.hid hh'
  have Hkl := Lib.hid hk
  clear a1 a2 a3 a4 hxn hxl hxi hxh HS HO HE hF1 hF2 hF3 hF4 hdl hdn hk hpos hel hh' hbl hhl h2n
  go_wp2_with ((with_reducible show wpList _ _ _ (⟨some 27, _, _, _, _, _⟩ :: _) _ _); refine wpList_loadC (by kernel_rfl) 25 (.tmp 2) rfl (w.heap.size) rfl 25 sv _ (hM2.get 1 rfl) Try.underlying25 rfl Hsv.out ?_)
  refine (hnd _ hM2.old Hc.out).mono ?_
  rintro e w3 ⟨hb3, A3, n3, c3, rfl, hS3⟩
  rw [Hn.out] at hS3
  have hM3 := hM2.call hb3
  clear hM2 hb3 hnd k0
  obtain ⟨b, o, u, rfl, hbl, hu, c1, _⟩ := hS3.range (i := 0) (by simp)
  have hn3 : n3 = 1 := hS3.1.symm
  subst hn3
  have hwi := without_any k Hhl.out x u id [] w3 Hx.out (cells_nil _) hu
  have c1' : w3.rangeAt b o [iv x.id, u] := c1
  go_wp2_with ((with_reducible show wpList _ _ _ (⟨some 30, _, _, _, _, _⟩ :: _) _ _); refine wpList_load_midG (by kernel_rfl) 85 (.tmp 29) rfl b o rfl [iv x.id, u] _ c1' Try.underlying85 rfl sizeNd ?_)
  refine hwi.mono ?_
  rintro e w4 ⟨hb4, u4, rfl, hu4, hid4, hlen4⟩
  have hM4 := hM3.call hb4
  have hu4' : NdV w4 w4.heap.size (withoutN x id) u4 := hu4
  obtain ⟨A4, c4, rfl, hS4⟩ := hu4'.kids
  rw [Hw.out, ofKids_kids Hy.out] at hS4
  have hky : (withoutN x id).kids.length = ys.length := by rw [Hw.out, ofKids_kids Hy.out]
  rw [hky]
  obtain ⟨ny, hny⟩ : ∃ ny, ny = ys.length := ⟨_, rfl⟩
  rw [← hny] at hS4 ⊢
  have Hny := Lib.hid hny
  have hP4 := hM4.put 85 #[.int .i64 0, .slice none 0 0] #[.int .i64 0, .slice A4 ny c4]
  have hg4 := hM4.old.size
  have hB5 : Below w4.heap.size w4 ((w4.alloc (.cells #[.int .i64 0, .slice none 0 0] 85)).setRow w4.heap.size #[.int .i64 0, .slice A4 ny c4]) := below_setRow ((Below.refl _ _).alloc (Nat.le_refl _) _) (Nat.le_refl _) _
  have hS5 := hS4.below hB5
  have hlt4 := (hM4.get 0 rfl).lt
  clear hM3 hb4 hwi hS3 hu c1 c1' hu4 hu4' hS4 hB5 hky hny hM4
  go_upto_region 9 with ((with_reducible show wpList _ _ _ (⟨none, Op.store 85 _ _, _, _, _, _⟩ :: _) _ _); refine wpList_store_row rfl 85 (.tmp 8) (.tmp 32) rfl (w4.heap.size) #[.int .i64 0, .slice A4 ny c4] rfl rfl 85 _ (RowC.new _ _ _) sizeNd rfl (by simp [Value.oneCell']) ?_)
  try simp only [Act.put]
  refine wp_gen (fun wx => Ms w wx [(w4.heap.size, 85, #[.int .i64 0, .slice A4 ny c4]), (w.heap.size + 1, 25, #[.slice none 0 0, .slice none 0 0]), (w.heap.size, 25, sv)] ∧ SlN wx w4.heap.size A4 ny c4 ys) ⟨hP4, hS5⟩ ?_
  clear hP4 hS5
  rintro w5 ⟨hM5, hS5⟩
  obtain ⟨g8, hg8⟩ : ∃ g, g = w4.heap.size := ⟨_, rfl⟩
  rw [← hg8] at hM5 hS5 hg4 hlt4 ⊢
  clear hg8
  have k1 := (hM5.get 0 rfl).cell (i := 1) (v := .slice A4 ny c4) rfl
  by_cases hy1 : ny = 1
  · have hy1i : (ny : Int) = 1 := by omega
    subst hy1
    obtain ⟨y1, hys⟩ : ∃ y1, ys = [y1] := by
      match ys, Hny.out with
      | [y1], _ => exact ⟨y1, rfl⟩
    have Hys := Lib.hid hys
    rw [hys] at hS5
    clear hys
    obtain ⟨b6, o6, u6, rfl, hb6l, hu6, c6, _⟩ := hS5.range (i := 0) (by simp)
    have c6' : w5.rangeAt b6 o6 [iv y1.id, u6] := c6
    have hu6' : NdV w5 g8 y1 u6 := hu6
    have hone : (#[iv y1.id, u6] : Array Value).all (·.oneCell') = true := hu6'.one2
    have hB6 : Below g8 w5 (w5.setRow g8 #[iv y1.id, u6]) := below_setRow (Below.refl _ _) (Nat.le_refl _) _
    have hu7 := hu6'.below hB6
    have hM6 := Ms.setT hM5 hg4 (fun p hp => by simp at hp; rcases hp with rfl | rfl <;> simp <;> omega) #[iv y1.id, u6]
    have hlt5 := (hM5.get 0 rfl).lt
    have hzz : (w5.setRow g8 #[iv y1.id, u6]).heap.size = w5.heap.size := size_setRowT _ _ _
    clear hu6 c6 hS5
    go_upto_region 11 with (first
      | ((with_reducible show wpList _ _ _ (⟨some 40, _, _, _, _, _⟩ :: _) _ _); refine wpList_load_midG (by kernel_rfl) 85 (.tmp 39) rfl b6 o6 rfl [iv y1.id, u6] _ c6' Try.underlying85 rfl sizeNd ?_)
      | ((with_reducible show wpList _ _ _ (⟨none, Op.store 85 _ _, _, _, _, _⟩ :: _) _ _); refine wpList_store_row rfl 85 (.tmp 8) (.tmp 40) rfl (g8) #[iv y1.id, u6] rfl rfl 85 _ (hM5.get 0 rfl) sizeNd rfl hone ?_))
    try simp only [Act.put]
    refine wp_gen (fun wx => Ms w wx [(g8, 85, #[iv y1.id, u6]), (w.heap.size + 1, 25, #[.slice none 0 0, .slice none 0 0]), (w.heap.size, 25, sv)] ∧ NdV wx g8 y1 u6 ∧ g8 ≤ wx.heap.size) ⟨hM6, hu7, by rw [hzz]; omega⟩ ?_
    clear hM6 hu7 hM5 hB6 hu6' c6' k1 hzz
    rintro w7 ⟨hM7, hu7, hg7⟩
    have hnw := SlN.newN (gs := []) (w := w7) (cells_nil _) [y1] [u6] #[iv y1.id, u6] ⟨hu7.more hg7, trivial⟩ rfl (by simp)
    have hM8 := hM7.allocT (.cells #[iv y1.id, u6] 85)
    have hof := Of_any h' _ _ _ _ _ Hh'.out HFa.out (fun e => by have := hF5; rw [e] at this; simp at this) Hel.out (by rw [HF.out, if_pos Hny.out.symm, Hys.out]; exact hnw)
    have hlt9 := (hM8.get 1 rfl).lt
    have hle9 := hM8.old.size
    go_wp2_with ((with_reducible show wpList _ _ _ (⟨some 41, _, _, _, _, _⟩ :: _) _ _); refine wpList_loadC (by kernel_rfl) 85 (.tmp 8) rfl (g8) rfl 85 #[iv y1.id, u6] _ (hM7.get 0 rfl) Try.underlying85 rfl sizeNd ?_)
    refine hof.mono ?_
    rintro e w9 ⟨hb9, Ai6, ni6, ci6, Al6, nl6, cl6, rfl, hsh⟩
    have hM9 := hM8.call hb9
    go_wp2_with ((with_reducible show wpList _ _ _ (⟨none, Op.store 25 _ _, _, _, _, _⟩ :: _) _ _); refine wpList_store_row rfl 25 (.tmp 4) (.tmp 43) rfl (w.heap.size + 1) (shV Ai6 ni6 ci6 Al6 nl6 cl6) rfl rfl 25 _ (hM9.get 1 rfl) (sizeSh _ _ _ _ _ _) rfl (one_sh _ _ _ _ _ _) ?_)
    refine bodyPost_ret (results_cell_two rfl _ _ (w.heap.size + 1) 25 (shV Ai6 ni6 ci6 Al6 nl6 cl6) _ rfl ((hM9.get 1 rfl).row _) Try.underlying25 rfl (sizeSh _ _ _ _ _ _)) rfl ?_
    exact HO2 _ _ _ _ _ _ _ _ (below_setRow hM9.old (by omega) _) rfl (by rw [size_setRowT]; exact (hsh.box (g := w.heap.size + 1) hlt9 _).mono hle9)
  · have hy1i : ¬ (ny : Int) = 1 := by omega
    have hS6 : SlN (vw [] w5) w5.heap.size A4 ny c4 ys := hS5.more (Nat.le_of_lt (hM5.get 0 rfl).lt)
    have hso := SlN.sole (gs := []) (cells_nil _) hS6 (by have := Hy.out; have := Hny.out; omega) rfl
    have hM8 := hM5.allocT (.cells #[.int .i64 0, .slice A4 ny c4] 85)
    have hof := Of_any h' _ _ _ _ _ Hh'.out HFa.out (fun e => by have := hF5; rw [e] at this; simp at this) Hel.out (by rw [HF.out, if_neg (by rw [← Hny.out]; exact hy1)]; exact hso)
    have hlt9 := (hM8.get 1 rfl).lt
    have hle9 := hM8.old.size
    go_wp2_with ((with_reducible show wpList _ _ _ (⟨some 41, _, _, _, _, _⟩ :: _) _ _); refine wpList_loadC (by kernel_rfl) 85 (.tmp 8) rfl (g8) rfl 85 #[.int .i64 0, .slice A4 ny c4] _ (hM5.get 0 rfl) Try.underlying85 rfl sizeNd ?_)
    refine hof.mono ?_
    rintro e w9 ⟨hb9, Ai6, ni6, ci6, Al6, nl6, cl6, rfl, hsh⟩
    have hM9 := hM8.call hb9
    go_wp2_with ((with_reducible show wpList _ _ _ (⟨none, Op.store 25 _ _, _, _, _, _⟩ :: _) _ _); refine wpList_store_row rfl 25 (.tmp 4) (.tmp 43) rfl (w.heap.size + 1) (shV Ai6 ni6 ci6 Al6 nl6 cl6) rfl rfl 25 _ (hM9.get 1 rfl) (sizeSh _ _ _ _ _ _) rfl (one_sh _ _ _ _ _ _) ?_)
    refine bodyPost_ret (results_cell_two rfl _ _ (w.heap.size + 1) 25 (shV Ai6 ni6 ci6 Al6 nl6 cl6) _ rfl ((hM9.get 1 rfl).row _) Try.underlying25 rfl (sizeSh _ _ _ _ _ _)) rfl ?_
    exact HO2 _ _ _ _ _ _ _ _ (below_setRow hM9.old (by omega) _) rfl (by rw [size_setRowT]; exact (hsh.box (g := w.heap.size + 1) hlt9 _).mono hle9)

end Go.Proofs.Ytmganbdbihjbmaa

/-
  TREES THAT MAY BE: what is inserted into one, and deleted from one, makes one; members that rise.
-/
set_option linter.unusedVariables false
namespace Go.Proofs.Ytmganbdbihjbmaa

theorem lvN_levI (lv : List (List Nat)) : lvN (levI lv) = lv := by
  rw [lvN, levI, List.map_map]
  conv => rhs; rw [← List.map_id lv]
  apply List.map_congr_left
  intro l _
  simp only [Function.comp, natL, List.map_map]
  conv => rhs; rw [id, ← List.map_id l]
  apply List.map_congr_left
  intro n _
  simp
theorem levI_lvN {ll : List (List Int)} (h : ∀ l ∈ ll, in23 l = true) : levI (lvN ll) = ll := by
  rw [lvN, levI, List.map_map]
  conv => rhs; rw [← List.map_id ll]
  apply List.map_congr_left
  intro l hl
  have h1 := h l hl
  simp only [Function.comp, natL, List.map_map]
  conv => rhs; rw [id, ← List.map_id l]
  apply List.map_congr_left
  intro n hn
  rw [in23, List.all_eq_true] at h1
  have := h1 n hn
  simp only [Bool.or_eq_true, decide_eq_true_eq] at this
  simp only [Function.comp, id]
  omega
theorem in23_mk {l : List Nat} (h : two3 l) : in23 (l.map (fun n : Nat => (n : Int))) = true := by
  rw [in23, List.all_eq_true]
  intro x hx
  obtain ⟨n, hn, rfl⟩ := List.mem_map.1 hx
  have := h n hn
  simp only [Bool.or_eq_true, decide_eq_true_eq]
  omega
theorem sum_cast : ∀ (l : List Nat), (l.map (fun n : Nat => (n : Int))).sum = ((l.sum : Nat) : Int)
  | [] => rfl
  | x :: l => by
    rw [List.map_cons, List.sum_cons, sum_cast l, List.sum_cons]
    omega
theorem chkL_mk : ∀ (lv : List (List Nat)) (many : Nat), lvOK many lv → chkL (many : Int) (levI lv) = true
  | [], many, h => by
    have h' : many ≤ 1 := h
    show decide ((many : Int) ≤ 1) = true
    rw [decide_eq_true_eq]
    omega
  | l :: ls, many, ⟨h1, h2, h3, h4⟩ => by
    show (in23 (l.map (fun n : Nat => (n : Int))) && (decide ((l.map (fun n : Nat => (n : Int))).sum = (many : Int)) && decide (2 ≤ (many : Int))) && chkL ((l.map (fun n : Nat => (n : Int))).length : Nat) (levI ls)) = true
    rw [List.length_map, chkL_mk ls l.length h4, in23_mk h2, sum_cast, h3]
    simp
    omega
theorem okI_mk {ids : List Int} (h : ∀ x ∈ ids, 0 ≤ x ∧ x ≤ 1048576) (hr : ids.Pairwise (· < ·)) : okI ids = true := by
  rw [okI, List.all_eq_true]
  intro i hi
  have hi' : i < ids.length := List.mem_range.1 hi
  have e : ids.getD i 0 = ids[i] := by rw [List.getD_eq_getElem?_getD, List.getElem?_eq_getElem hi']; rfl
  have hb := h ids[i] (List.getElem_mem hi')
  rw [badAt, e]
  simp only [Bool.not_eq_true', Bool.or_eq_false_iff, Bool.and_eq_false_iff, decide_eq_false_iff_not]
  refine ⟨⟨by omega, by omega⟩, ?_⟩
  rcases Nat.eq_zero_or_pos i with h0 | h0
  · left; omega
  · right
    have e2 : ids.getD (i - 1) 0 = ids[i - 1] := by rw [List.getD_eq_getElem?_getD, List.getElem?_eq_getElem (by omega)]; rfl
    rw [List.pairwise_iff_getElem] at hr
    have := hr (i - 1) i (by omega) hi' (by omega)
    rw [e2]
    omega
theorem chkT_mk {ids : List Int} {lv : List (List Nat)} (h1 : ids.length ≤ 1000) (h2 : ∀ x ∈ ids, 0 ≤ x ∧ x ≤ 1048576) (hr : ids.Pairwise (· < ·)) (hl : lvOK ids.length lv) : chkT ids (levI lv) = true := by
  rw [chkT, okI_mk h2 hr, chkL_mk lv _ hl]
  simpa using h1
theorem okI_mem {ids : List Int} (h : okI ids = true) : ∀ x ∈ ids, 0 ≤ x ∧ x ≤ 1048576 := by
  intro x hx
  obtain ⟨i, hi, rfl⟩ := List.mem_iff_getElem.1 hx
  exact ⟨(okI_at h hi).1, (okI_at h hi).2.1⟩
/-- members that rise, about a number -/
theorem split_rise : ∀ (l : List Int) (id : Int), l.Pairwise (· < ·) → ∃ E L, l = E ++ L ∧ (∀ v ∈ E, v < id) ∧ (∀ v ∈ L, ¬ v < id) ∧ belT l id = E.length
  | [], id, _ => ⟨[], [], rfl, by simp, by simp, rfl⟩
  | x :: l, id, h => by
    rw [List.pairwise_cons] at h
    by_cases hx : x < id
    · obtain ⟨E, L, h1, h2, h3, h4⟩ := split_rise l id h.2
      refine ⟨x :: E, L, by rw [h1]; rfl, fun v hv => ?_, h3, ?_⟩
      · rcases List.mem_cons.1 hv with rfl | hv
        · exact hx
        · exact h2 v hv
      · rw [belT, List.countP_cons, List.length_cons, if_pos (by simpa using hx)]
        rw [belT] at h4
        omega
    · refine ⟨[], x :: l, rfl, by simp, fun v hv => ?_, ?_⟩
      · rcases List.mem_cons.1 hv with rfl | hv
        · exact hx
        · have := h.1 v hv; omega
      · exact bel_none fun v hv => by
          rcases List.mem_cons.1 hv with rfl | hv
          · exact hx
          · have := h.1 v hv; omega
theorem mem_insI {l : List Int} {id v : Int} : v ∈ insI l id ↔ v = id ∨ v ∈ l := by
  rw [insI]
  conv => rhs; rw [← List.take_append_drop (belT l id) l]
  simp only [List.mem_append, List.mem_cons]
  constructor
  · rintro (h | h | h)
    · exact .inr (.inl h)
    · exact .inl h
    · exact .inr (.inr h)
  · rintro (h | h | h)
    · exact .inr (.inl h)
    · exact .inl h
    · exact .inr (.inr h)
theorem isT_mem {ids : List Int} {id : Int} : isT ids id = true ↔ id ∈ ids := by
  rw [isT, List.any_eq_true]
  constructor
  · rintro ⟨z, h1, h2⟩
    have : z = id := by simpa using h2
    exact this ▸ h1
  · exact fun h => ⟨id, h, by simp⟩
theorem insI_rise {l : List Int} {id : Int} (h : l.Pairwise (· < ·)) (hn : id ∉ l) : (insI l id).Pairwise (· < ·) := by
  obtain ⟨E, L, rfl, h2, h3, _⟩ := split_rise l id h
  rw [insI_mid h2 h3]
  rw [List.pairwise_append] at h ⊢
  refine ⟨h.1, List.pairwise_cons.2 ⟨fun v hv => ?_, h.2.1⟩, fun a ha b hb => ?_⟩
  · have h4 := h3 v hv
    have h5 : v ≠ id := fun e => hn (by rw [← e]; simp [hv])
    omega
  · rcases List.mem_cons.1 hb with rfl | hb
    · exact h2 a ha
    · exact h.2.2 a ha b hb
/-- a member taken out -/
theorem erase_form {l : List Int} {id : Int} (h : l.Pairwise (· < ·)) (hi : id ∈ l) : ∃ E L, l = E ++ id :: L ∧ (∀ v ∈ E, v < id) ∧ (∀ v ∈ L, ¬ v < id) ∧ belT l id = E.length ∧ l.eraseIdx (belT l id) = E ++ L := by
  obtain ⟨E, L, h1, h2, h3, h4⟩ := split_rise l id h
  match L, h1, h3 with
  | [], h1, h3 =>
    rw [h1, List.append_nil] at hi
    have := h2 id hi
    omega
  | x :: L, h1, h3 =>
    have hx : x = id := by
      rw [h1] at hi h
      rcases List.mem_append.1 hi with hi | hi
      · have := h2 id hi; omega
      · rcases List.mem_cons.1 hi with e | hi
        · exact e.symm
        · rw [List.pairwise_append, List.pairwise_cons] at h
          have := h.2.1.1 id hi
          have := h3 x (by simp)
          omega
    subst hx
    refine ⟨E, L, h1, h2, fun v hv => h3 v (by simp [hv]), h4, ?_⟩
    rw [h4, h1]
    exact erase_mid _ _ _
theorem mem_erase {l : List Int} {id v : Int} (h : l.Pairwise (· < ·)) (hi : id ∈ l) : v ∈ l.eraseIdx (belT l id) ↔ v ∈ l ∧ v ≠ id := by
  obtain ⟨E, L, rfl, h2, h3, _, h5⟩ := erase_form h hi
  rw [h5]
  rw [List.pairwise_append, List.pairwise_cons] at h
  simp only [List.mem_append, List.mem_cons]
  constructor
  · rintro (hv | hv)
    · exact ⟨.inl hv, by have := h2 v hv; omega⟩
    · exact ⟨.inr (.inr hv), by have := h.2.1.1 v hv; omega⟩
  · rintro ⟨hv | rfl | hv, hne⟩
    · exact .inl hv
    · exact absurd rfl hne
    · exact .inr hv
theorem erase_rise {l : List Int} {id : Int} (h : l.Pairwise (· < ·)) (hi : id ∈ l) : (l.eraseIdx (belT l id)).Pairwise (· < ·) := h.sublist (List.eraseIdx_sublist _ _)
theorem erase_ins {l : List Int} {id : Int} (h : l.Pairwise (· < ·)) (hn : id ∉ l) : (insI l id).eraseIdx (belT (insI l id) id) = l := by
  obtain ⟨E, L, rfl, h2, h3, _⟩ := split_rise l id h
  rw [insI_mid h2 h3]
  exact (erase_ids h2 h3).2
theorem ins_erase {l : List Int} {id : Int} (h : l.Pairwise (· < ·)) (hi : id ∈ l) : insI (l.eraseIdx (belT l id)) id = l := by
  obtain ⟨E, L, rfl, h2, h3, _, h5⟩ := erase_form h hi
  rw [h5]
  exact insI_mid h2 h3
theorem insE_zero {ids : List Int} {ll : List (List Int)} {id : Int} (h : insE ids ll id = 0) : chkT ids ll = true ∧ 0 ≤ id ∧ id ≤ 1048576 ∧ id ∉ ids ∧ ids.length < 1000 := by
  rw [insE] at h
  split at h
  · cases h
  rename_i h1
  split at h
  · cases h
  rename_i h2
  split at h
  · cases h
  rename_i h3
  have hc : chkT ids ll = true := by
    cases hc : chkT ids ll with
    | true => rfl
    | false => exact absurd (.inl hc) h1
  refine ⟨hc, ?_, ?_, fun hm => h2 (isT_mem.2 hm), by have := (chkT_lv hc).1; omega⟩
  · rcases Int.lt_or_le id 0 with h4 | h4
    · exact absurd (.inr (.inl h4)) h1
    · exact h4
  · rcases Int.lt_or_le 1048576 id with h4 | h4
    · exact absurd (.inr (.inr h4)) h1
    · exact h4
theorem delE_zero {ids : List Int} {ll : List (List Int)} {id : Int} (h : delE ids ll id = 0) : chkT ids ll = true ∧ id ∈ ids := by
  rw [delE] at h
  split at h
  · cases h
  rename_i h1
  split at h
  · cases h
  rename_i h2
  exact ⟨by simpa using h1, isT_mem.1 (by simpa using h2)⟩
theorem ins_chk {ids : List Int} {ll : List (List Int)} {id : Int} (h : insE ids ll id = 0) : (insS ids (lvN ll) id).1 = insI ids id ∧ lvOK (ids.length + 1) (insS ids (lvN ll) id).2 ∧ chkT (insS ids (lvN ll) id).1 (levI (insS ids (lvN ll) id).2) = true := by
  obtain ⟨hc, h1, h2, h3, h4⟩ := insE_zero h
  obtain ⟨c1, c2, c3, c4⟩ := chkT_lv hc
  have hr := okI_rise _ c2
  have key : (insS ids (lvN ll) id).1 = insI ids id ∧ lvOK (ids.length + 1) (insS ids (lvN ll) id).2 := by
    by_cases he : ids = []
    · subst he
      rw [insS, if_pos rfl]
      exact ⟨rfl, show 0 + 1 ≤ 1 by omega⟩
    · rw [insS, if_neg he]
      have := List.length_pos_iff.2 he
      exact ⟨rfl, insL_ok _ _ _ c3 (by have := belT_le ids id; omega)⟩
  refine ⟨key.1, key.2, ?_⟩
  rw [key.1]
  refine chkT_mk (by rw [insI_len]; omega) (fun x hx => ?_) (insI_rise hr h3) (by rw [insI_len]; exact key.2)
  rcases mem_insI.1 hx with rfl | hx
  · exact ⟨h1, h2⟩
  · exact okI_mem c2 x hx
theorem del_chk {ids : List Int} {ll : List (List Int)} {id : Int} (h : delE ids ll id = 0) : (delS ids (lvN ll) id).1 = ids.eraseIdx (belT ids id) ∧ lvOK (ids.length - 1) (delS ids (lvN ll) id).2 ∧ chkT (delS ids (lvN ll) id).1 (levI (delS ids (lvN ll) id).2) = true := by
  obtain ⟨hc, h3⟩ := delE_zero h
  obtain ⟨c1, c2, c3, c4⟩ := chkT_lv hc
  have hr := okI_rise _ c2
  have hbl : belT ids id < ids.length := (rise_bel ids id hr (isT_mem.2 h3)).1
  have key : (delS ids (lvN ll) id).1 = ids.eraseIdx (belT ids id) ∧ lvOK (ids.length - 1) (delS ids (lvN ll) id).2 := by
    by_cases he : ids.length = 1
    · rw [delS, if_pos he]
      refine ⟨?_, show ids.length - 1 ≤ 1 by omega⟩
      match ids, he with
      | [x], _ =>
        have : belT [x] id = 0 := by simp at hbl; exact hbl
        rw [this]; rfl
    · rw [delS, if_neg he]
      exact ⟨rfl, delL_ok _ _ _ c3 hbl⟩
  have hl : (ids.eraseIdx (belT ids id)).length = ids.length - 1 := by rw [List.length_eraseIdx, if_pos hbl]
  refine ⟨key.1, key.2, ?_⟩
  rw [key.1]
  refine chkT_mk (by omega) (fun x hx => okI_mem c2 x ((mem_erase hr h3).1 hx).1) (erase_rise hr h3) (by rw [hl]; exact key.2)
theorem lvOK_len : ∀ (lv : List (List Nat)) (many : Nat), lvOK many lv → ∀ l ∈ lv, l.length ≤ many
  | [], _, _, l, hl => by simp at hl
  | x :: ls, many, ⟨h1, h2, h3, h4⟩, l, hl => by
    have h5 := two3_len h2
    rcases List.mem_cons.1 hl with rfl | hl
    · omega
    · have := lvOK_len ls _ h4 l hl
      omega
theorem few_of_chk {ids : List Int} {ll : List (List Int)} (h : chkT ids ll = true) : fewT ids ll = true := by
  obtain ⟨c1, c2, c3, c4⟩ := chkT_lv h
  have h10 := lv_high h
  rw [lvN, List.length_map] at h10
  rw [fewT, Bool.and_eq_true, Bool.and_eq_true, List.all_eq_true, decide_eq_true_eq, decide_eq_true_eq]
  refine ⟨fun l hl => ?_, by omega, by omega⟩
  rw [decide_eq_true_eq]
  have := lvOK_len _ _ c3 (natL l) (List.mem_map.2 ⟨l, hl, rfl⟩)
  rw [natL, List.length_map] at this
  omega
theorem few_len {ids : List Int} {ll : List (List Int)} (h : fewT ids ll = true) : (∀ l ∈ ll, l.length ≤ 1100) ∧ ids.length ≤ 1100 ∧ ll.length ≤ 20 := by
  rw [fewT, Bool.and_eq_true, Bool.and_eq_true, List.all_eq_true, decide_eq_true_eq, decide_eq_true_eq] at h
  exact ⟨fun l hl => by have := h.1 l hl; rwa [decide_eq_true_eq] at this, h.2.1, h.2.2⟩

end Go.Proofs.Ytmganbdbihjbmaa

/-
  CONTRACT of the document's Build (coterieref10).
-/
set_option linter.unusedVariables false
namespace Go.Proofs.Ytmganbdbihjbmaa
open Go.RowKit

/-- members put in one by one: the first error, members, levels -/
def bldS : List Int → List Int → List (List Nat) → Int × List Int × List (List Nat)
  | [], ids, lv => (0, ids, lv)
  | id :: r, ids, lv => if insE ids (levI lv) id = 0 then bldS r (insS ids lv id).1 (insS ids lv id).2 else (insE ids (levI lv) id, [], [])
def BuildPost (w : World) (xs : List Int) (e : Ending) (w' : World) : Prop :=
  Below w.heap.size w w' ∧ ∃ Ai ni ci Al nl cl, e = .returned (.tuple #[.agg (shV Ai ni ci Al nl cl), .int .i64 (bldS xs [] []).1]) ∧ ShN w.heap.size w' w'.heap.size Ai ni ci Al nl cl (bldS xs [] []).2.1 (levI (bldS xs [] []).2.2)
theorem Ms.subT {w0 w : World} {L L' : List (Nat × TypeId × Array Value)} (h : Ms w0 w L) (hs : ∀ p ∈ L', p ∈ L) : Ms w0 w L' := ⟨h.old, fun p hp => h.rows p (hs p hp)⟩
theorem few_million {ids : List Int} {ll : List (List Int)} (h : fewT ids ll = true) : ∀ l ∈ ll, l.length ≤ 1000000 := fun l hl => by
  have := (few_len h).1 l hl
  omega

end Go.Proofs.Ytmganbdbihjbmaa

/-
  CONTRACT of the document's Copy (coterieref10).
-/
set_option linter.unusedVariables false
namespace Go.Proofs.Ytmganbdbihjbmaa
open Go.RowKit

/-- append onto a row of the call's own, a step of a region that draws its order: which block the row is in then -/
theorem step_append_rdT {P : Program} {w : World} {ops : Array Oper} {o : Oper} {a : Act} {K : Act → World → Prop} {Q : Exit → Act → World → Prop} {E : Prop} (hgd : Region.wanted o (yielded ops a.tmps) = true) (dst : Option Tmp) (hd : o.dst = dst) (s x : Operand) (t : TypeId)
    (ho : o.op = .call { callee := .builtin .append, args := #[s, x], argTypes := #[t, t] })
    (base : Nat) (e : TypeId) (i : TypeInfo) (z : Value) (bytes : Nat) (ht : P.underlying t = some (.slice e)) (hi : P.info? e = some i) (hz : i.zero = some z)
    (hsize : i.size = 1) (hby : i.bytes = bytes) (hzs : z.cells.size = 1)
    (v : Value) (n : Nat) (xs : List Value) (hs : a.eval s = v) (hown : w.ownsRow base e 1 v n xs)
    (B : Nat) (A : Option Addr) (m c : Nat) (news : List Value) (hx : a.eval x = .slice A m c) (hr : Rd w B A m news) (h1 : ∀ u ∈ news, u.oneCell' = true)
    (h63 : n + m ≤ maxLen) (hbytes : (n + m) * bytes ≤ 140737488355328) (hbase : base ≤ w.heap.size)
    (h : ∀ v' w', w'.ownsRow base e 1 v' (n + m) (xs ++ news) → w.grownBy w' v.ownBlock → (v'.ownBlock = v.ownBlock ∨ v'.ownBlock = some w.heap.size) → K (a.put dst v') w') : if Region.wanted o (yielded ops a.tmps) = true then Oper.wp P o a w K Q else E := by
  subst hd
  rw [if_pos hgd]
  obtain ⟨v', w', hrun, h2, h3, h4⟩ := run_append_rd (P := P) w base t o.type e i z bytes ht hi hz hsize hby hzs v n xs hown B A m c news hr h1 h63 hbytes hbase
  unfold Oper.wp execOp
  simp only [ho, resolve, invoke, builtin, Sem.run_bind, Sem.run_pure, Result.andThen_ok, List.map_toArray, List.map_cons, List.map_nil, hs, hx, hrun]
  exact h v' w' h2 h3 h4
/-- where lists lie: from lo on, below hi, in no row's block -/
def LvD (lo hi : Nat) (row : Option Nat) (vs : List Value) : Prop := ∀ v ∈ vs, ∀ A n c, v = .slice A n c → ∀ ad, A = some ad → lo ≤ ad.block ∧ ad.block < hi ∧ row ≠ some ad.block
theorem LvD.new {lo hi : Nat} {row : Option Nat} {vs : List Value} (h : LvD lo hi row vs) : NewVs lo vs := fun v hv A n c e ad had => (h v hv A n c e ad had).1
theorem Rd.grownD {w w' : World} {row : Option Nat} {B n : Nat} {A : Option Addr} {xs : List Value} (h : Rd w B A n xs) (hg : w.grownBy w' row) (hB : B ≤ w.heap.size) (hne : ∀ ad, A = some ad → row ≠ some ad.block) : Rd w' B A n xs := by
  refine ⟨h.len, fun h0 => ?_⟩
  obtain ⟨b, o, h1, h2, h3⟩ := h.pos h0
  refine ⟨b, o, h1, h2, fun j u hu => ?_⟩
  rw [← h3 j u hu]
  exact World.cell?_of_block (hg.block b (by omega) (fun e => hne _ h1 e.symm))
theorem Lvs.keepD {w w' : World} {B B' : Nat} {vs : List Value} {ll : List (List Int)} (h : Lvs w B vs ll) (hk : ∀ v ∈ vs, ∀ A n c xs, v = .slice A n c → Rd w B A n xs → Rd w' B' A n xs) : Lvs w' B' vs ll :=
  ⟨h.1, fun i v l hv hl => by
    obtain ⟨A, c, e, hc, hm, hr⟩ := h.2 i v l hv hl
    exact ⟨A, c, e, hc, hm, hk v (List.mem_of_getElem? hv) A _ _ _ e hr⟩⟩
theorem Lvs.snoc {w : World} {B : Nat} {vs : List Value} {ll : List (List Int)} {A : Option Addr} {c : Nat} {l : List Int} (h : Lvs w B vs ll) (hc : l.length ≤ c) (hm : c ≤ maxLen) (hr : Rd w B A l.length (l.map iv)) : Lvs w B (vs ++ [.slice A l.length c]) (ll ++ [l]) := by
  refine ⟨by simp [h.1], fun i v k hv hk => ?_⟩
  rcases Nat.lt_or_ge i vs.length with hi | hi
  · rw [List.getElem?_append_left hi] at hv
    rw [List.getElem?_append_left (by rw [← h.1]; exact hi)] at hk
    exact h.2 i v k hv hk
  · have hi' : i = vs.length := by
      have := (List.getElem?_eq_some_iff.1 hv).1
      simp at this
      omega
    subst hi'
    rw [List.getElem?_append_right (Nat.le_refl _), Nat.sub_self] at hv
    rw [h.1, List.getElem?_append_right (Nat.le_refl _), Nat.sub_self] at hk
    simp at hv hk
    subst hv hk
    exact ⟨A, c, rfl, hc, hm, hr⟩
theorem Rd.setCellN {w : World} {g i lo : Nat} (hg : g < lo) (u : Value) {B n : Nat} {A : Option Addr} {xs : List Value} (h : Rd w B A n xs) (hn : NewA lo A) : Rd (w.setCell ⟨g, i, none⟩ u) B A n xs := by
  refine ⟨h.len, fun h0 => ?_⟩
  obtain ⟨b, o, h1, h2, h3⟩ := h.pos h0
  refine ⟨b, o, h1, h2, fun j v hv => ?_⟩
  rw [← h3 j v hv]
  have hlb : lo ≤ b := hn _ h1
  exact World.cell?_of_block (Below.heap_setCell w ⟨g, i, none⟩ u b (show b ≠ g by omega))

def CopyPost (w : World) (ids : List Int) (ll : List (List Int)) (e : Ending) (w' : World) : Prop :=
  Below w.heap.size w w' ∧ ∃ Ai ni ci Al nl cl, e = .returned (.agg (shV Ai ni ci Al nl cl)) ∧ ShN w.heap.size w' w'.heap.size Ai ni ci Al nl cl ids ll

set_option maxRecDepth 100000 in
set_option maxHeartbeats 1000000 in
theorem CopyT_any (Ai : Option Addr) (ni ci : Nat) (Al : Option Addr) (nl cl : Nat) (ids : List Int) (ll : List (List Int)) (w : World) (h : ShR w w.heap.size Ai ni ci Al nl cl ids ll) (hf : fewT ids ll = true) :
    Calls Try.prog 11 #[.agg (shV Ai ni ci Al nl cl)] w (CopyPost w ids ll) := by
  obtain ⟨i0, hi0, hz0, hz1, hz2⟩ := info_parts intInfo
  obtain ⟨i1, hi1, hy0, hy1, hy2⟩ := info_parts listInfo
  have hM0 := ((Ms.nil w).box 25 (shV Ai ni ci Al nl cl)).box 25 #[.slice none 0 0, .slice none 0 0]
  simp only [World.size_alloc] at hM0
  obtain ⟨hf1, hf2, hf3⟩ := few_len hf
  have Hni := Lib.hid h.hni
  have Hnl := Lib.hid h.hnl
  have hn1 : ni ≤ 1100 := by rw [← h.hni]; exact hf2
  have hn2 : nl ≤ 20 := by rw [← h.hnl]; exact hf3
  obtain ⟨vs, hv, hlv⟩ := h.lvs
  have hids := h.hids
  have HP := Lib.hid (show ∀ e w' Ai ni ci Al nl cl, Below w.heap.size w w' → e = .returned (.agg (shV Ai ni ci Al nl cl)) → ShN w.heap.size w' w'.heap.size Ai ni ci Al nl cl ids ll → CopyPost w ids ll e w' from fun e w' _ _ _ _ _ _ h1 h2 h3 => ⟨h1, _, _, _, _, _, _, h2, h3⟩)
  generalize CopyPost w ids ll = PO at *
  clear h hf
  go_enter Try.func11, Try.ntmps11
  go_upto_region 1 with fail
  try simp only [Act.put]
  refine wp_gen (fun wx => Ms w wx [(w.heap.size + 1, 25, #[.slice none 0 0, .slice none 0 0]), (w.heap.size, 25, shV Ai ni ci Al nl cl)]) hM0 ?_
  clear hM0
  rintro w0 hM0
  have k0 := (hM0.get 1 rfl).cell (i := 0) (v := .slice Ai ni ci) rfl
  have hidw := (hids.below hM0.old)
  have hlt0 := (hM0.get 0 rfl).lt
  go_upto_region 2 with (first
    | (at_builtin; refine wpList_append_rd _ rfl (.const (.slice none 0 0)) (.tmp 7) _ rfl (w.heap.size + 2) 3 i0 _ 8 Try.underlying22 hi0 hz0 hz1 hz2 rfl (.slice none 0 0) 0 [] rfl (World.ownsRow_nil _ _ _ _) w.heap.size Ai ni ci (ids.map iv) rfl hidw (one_iv _) (by simp only [maxLen]; omega) (by omega) (by omega) ?_; intro v2 w2 hown2 hgr2 _; obtain ⟨A2, c2, rfl, _, _⟩ := own_formT hown2; rw [Nat.zero_add, List.nil_append] at hown2; have hB2 : Below w0.heap.size w0 w2 := (Below.refl _ _).grown hgr2 (Nat.le_refl _) (fun k hk => by simp [Value.ownBlock] at hk); have hM2 := hM0.call hB2)
    | ((with_reducible show wpList _ _ _ (⟨none, Op.store 25 _ _, _, _, _, _⟩ :: _) _ _); refine wpList_store_row rfl 25 (.tmp 3) (.tmp 9) rfl (w2.heap.size) #[.slice A2 ni c2, .slice none 0 0] rfl rfl 25 _ (RowC.new _ _ _) shapeInfo2 rfl (by simp [Value.oneCell']) ?_))
  try simp only [Act.put]
  have hN2 := NewA.of_own hown2 (Nat.le_refl _)
  have hci2 : ni ≤ c2 ∧ c2 ≤ maxLen := by
    obtain ⟨_, _, e0, h1, h2⟩ := own_formT hown2
    injection e0 with _ _ e3
    subst e3
    exact ⟨h1, h2⟩
  have hr2 : Rd w2 w2.heap.size A2 ni (ids.map iv) := Rd.of_own hown2
  have hM3 := hM2.put 25 #[.slice none 0 0, .slice none 0 0] #[.slice A2 ni c2, .slice none 0 0]
  have hB3 : Below w2.heap.size w2 ((w2.alloc (.cells #[.slice none 0 0, .slice none 0 0] 25)).setRow w2.heap.size #[.slice A2 ni c2, .slice none 0 0]) := below_setRow ((Below.refl _ _).alloc (Nat.le_refl _) _) (Nat.le_refl _) _
  have hr3 := hr2.below hB3
  have hg3 := (hM2.get 0 rfl).lt
  refine wp_gen (fun wx => Ms w wx [(w2.heap.size, 25, #[.slice A2 ni c2, .slice none 0 0]), (w.heap.size + 1, 25, #[.slice none 0 0, .slice none 0 0]), (w.heap.size, 25, shV Ai ni ci Al nl cl)] ∧ Rd wx w2.heap.size A2 ni (ids.map iv)) ⟨hM3, hr3⟩ ?_
  clear hr3 hB3 hM3 hr2
  rintro w4 ⟨hM4, hr4⟩
  obtain ⟨g, hg⟩ : ∃ g, g = w2.heap.size := ⟨_, rfl⟩
  rw [← hg] at hM4 hr4 hg3 ⊢
  clear hg hown2 hgr2 hM2 k0 hM0 hidw hlt0
  have k1 := (hM4.get 2 rfl).cell (i := 1) (v := .slice Al nl cl) rfl
  go_wp2_with fail
  go_loopw [13] (fun v13 wr => ∃ (j : Nat) (A3 : Option Addr) (c3 : Nat) (us : List Value), j ≤ nl ∧ v13 = .int .i64 (j : Int) ∧ wr.ownsRow (g + 1) 22 1 (.slice A3 j c3) j us ∧ Lvs wr wr.heap.size us (ll.take j) ∧ LvD (g + 1) wr.heap.size (Value.slice A3 j c3).ownBlock us ∧ Rd wr g A2 ni (ids.map iv) ∧
    Ms w wr [(g, 25, #[.slice A2 ni c2, .slice A3 j c3]), (w.heap.size + 1, 25, #[.slice none 0 0, .slice none 0 0]), (w.heap.size, 25, shV Ai ni ci Al nl cl)]) (fun v13 _ => nl - (intOf v13).toNat)
  case atStart => exact ⟨0, none, 0, [], by omega, rfl, World.ownsRow_nil _ _ _ _, Lvs.nil _ _, (fun v hv => by cases hv), hr4, hM4⟩
  case round =>
    clear hM4 hr4 k1
    obtain ⟨j, A3, c3, us, hj, rfl, hown, hls, hld, hrI, hM⟩ := hrel
    have hb := hM.old
    have hltg := (hM.get 0 rfl).lt
    obtain ⟨_, _, e0, hjc, hcm3⟩ := own_formT hown
    injection e0 with e1 e2 e3
    subst e1 e3
    clear e2
    by_cases hjn : j < nl
    · have hjl : j < ll.length := by rw [Hnl.out]; exact hjn
      obtain ⟨b, o, rfl, hbb, hcell⟩ := (hv.below hb).pos (by omega)
      obtain ⟨Aj, cj, hvj, hcj, hmj, hrj⟩ := hlv.get hjl
      have c1 := hcell j _ hvj
      have hrjw := hrj.below hb
      have hlj := hf1 _ (List.getElem_mem hjl)
      have Ht := Lib.hid (show ll.take (j + 1) = ll.take j ++ [ll[j]] from List.take_succ_eq_append_getElem hjl)
      generalize ll[j] = l at *
      have kg := (hM.get 0 rfl).cell (i := 1) (v := .slice A3 j c3) rfl
      clear hcell hvj hrj hjl
      go_upto_region 5 with fail
      try simp only [Act.put]
      have hkeep : ∀ wx : World, Below wr.heap.size wr wx → wx.cell? ⟨g, 1, none⟩ = some (.slice A3 j c3) := fun wx hb => ((hM.get 0 rfl).call hb).cell rfl
      refine beginT (fun wx => wx.cell? ⟨g, 1, none⟩ = some (.slice A3 j c3)) 7 (by kernel_rfl) ?_
      have hS := hkeep _ (c_drew (c_refl _))
      refine takeD 0 (some 17) (.pointer (some ⟨g, 1, none⟩)) rfl rfl (by kernel_rfl) (by kernel_rfl) (by kernel_rfl) (by kernel_rfl) (fun _ _ _ h => h) (Or.inl ⟨by kernel_rfl, fun wx hSw => by go_simp⟩) hS ?_
      simp only [Act.put, List.setIfInBounds_toArray, List.set_cons_zero, List.set_cons_succ]
      refine takeD 1 (some 18) (.slice A3 j c3) rfl rfl (by kernel_rfl) (by kernel_rfl) (by kernel_rfl) (by kernel_rfl) (fun _ _ _ h => h) (Or.inl ⟨by kernel_rfl, fun wx hSw => by have h := hSw; go_simp⟩) hS ?_
      simp only [Act.put, List.setIfInBounds_toArray, List.set_cons_zero, List.set_cons_succ]
      refine takeD 2 (some 19) (.slice Aj l.length cj) rfl rfl (by kernel_rfl) (by kernel_rfl) (by kernel_rfl) (by kernel_rfl) (fun _ _ _ h => h) (Or.inl ⟨by kernel_rfl, fun wx hSw => by go_simp⟩) hS ?_
      simp only [Act.put, List.setIfInBounds_toArray, List.set_cons_zero, List.set_cons_succ]
      have hx0 : Below wr.heap.size wr wr.drew := c_drew (c_refl _)
      have hM4 := hM.call hx0
      have hown4 := own_below hown hx0
      have hrj4 := hrjw.below (hx0.mono hb.size)
      have hrI4 := hrI.below (hx0.mono (by omega))
      have hls4 := hls.below hx0
      have hsx : wr.drew.heap.size = wr.heap.size := rfl
      have hbx := hM4.old.size
      generalize wr.drew = x0 at *
      refine oneT 3 (by kernel_rfl) rfl (fun K hK => ?_)
      refine step_append_rdT (by kernel_rfl) (some 20) rfl (.const (.slice none 0 0)) (.tmp 19) _ rfl (g + 1) 3 i0 _ 8 Try.underlying22 hi0 hz0 hz1 hz2 rfl (.slice none 0 0) 0 [] rfl (World.ownsRow_nil _ _ _ _) w.heap.size Aj l.length cj (l.map iv) rfl hrj4 (one_iv _) (by simp only [maxLen]; omega) (by omega) (by omega) ?_
      intro v5 w5 hown5 hgr5 hat5
      obtain ⟨A5, c5, rfl, hc5, hm5⟩ := own_formT hown5
      rw [Nat.zero_add, List.nil_append] at hown5
      rw [Nat.zero_add] at hc5
      have hB5 : Below x0.heap.size x0 w5 := (Below.refl _ _).grown hgr5 (Nat.le_refl _) (fun k hk => by simp [Value.ownBlock] at hk)
      have hs5 := hB5.size
      have hM5 := hM4.call hB5
      have hown45 := own_below hown4 hB5
      have hr5 : Rd w5 w5.heap.size A5 l.length (l.map iv) := Rd.of_own hown5
      have hA5 : ∀ ad, A5 = some ad → ad.block = x0.heap.size ∧ ad.block < w5.heap.size := fun ad had => by
        subst had
        have h1 := own_ltT hown5 ad.block rfl
        rcases hat5 with e | e
        · simp [Value.ownBlock] at e
        · simp only [Value.ownBlock] at e; injection e with e; exact ⟨e, h1⟩
      have hwx : Below wr.heap.size wr w5 := c_call hx0 hB5
      refine hK.out _ _ (fun _ => hkeep _ hwx) ?_
      clear hK K
      rw [Nat.zero_add]
      simp only [Act.put, List.setIfInBounds_toArray, List.set_cons_zero, List.set_cons_succ]
      have hal := d_al w5 (.cells #[.slice A5 l.length c5] 22)
      have hM6 := hM5.call hal
      have hown46 := own_below hown45 hal
      have hr6 := hr5.below hal
      have hxx := c_call hwx hal
      refine oneT 4 (by kernel_rfl) rfl (fun K hK => ?_)
      go_simp
      refine hK.out _ _ (fun _ => hkeep _ hxx) ?_
      clear hK K
      have hone6 : ∀ u ∈ [Value.slice A5 l.length c5], u.oneCell' = true := by intro u hu; simp at hu; subst hu; rfl
      refine oneT 5 (by kernel_rfl) rfl (fun K hK => ?_)
      refine step_append_rdT (by kernel_rfl) (some 22) rfl (.tmp 18) (.tmp 21) _ rfl (g + 1) 22 i1 _ 24 Try.underlying23 hi1 hy0 hy1 hy2 rfl (.slice A3 j c3) j us rfl hown46 (w5.heap.size + 1) (some ⟨w5.heap.size, 0, none⟩) 1 1 [.slice A5 l.length c5] rfl (Rd.mk_ _ _ _ rfl (by omega) rfl rfl) hone6 (by simp only [maxLen]; omega) (by omega) (by simp; omega) ?_
      intro v6 w6 hown6 hgr6 hat6
      obtain ⟨A6, c6, rfl, _, _⟩ := own_formT hown6
      have hge6 : ∀ k, (Value.slice A3 j c3).ownBlock = some k → g + 1 ≤ k ∧ k < wr.heap.size := fun k hk => ⟨own_blockT hown k hk, own_ltT hown k hk⟩
      have hM6b := hM6.grownT hgr6 (fun k hk => by have := (hge6 k hk).1; omega) (fun p hp k hk => by have := (hge6 k hk).1; simp at hp; rcases hp with rfl | rfl | rfl <;> simp <;> omega)
      have hs6 : w5.heap.size + 1 ≤ w6.heap.size := by have := hgr6.size; simpa using this
      have hkp : ∀ v ∈ us, ∀ A n c xs, v = .slice A n c → Rd wr wr.heap.size A n xs → Rd w6 w6.heap.size A n xs := fun v hv A n c xs e hr => by
        have h1 := hr.below hxx
        exact (h1.grownD hgr6 (by simp; omega) (fun ad had => (hld v hv A n c e ad had).2.2)).more (by omega)
      have hls6 := hls.keepD hkp
      have hr6b := (hr6.grownD hgr6 (by simp) (fun ad had e => by have h1 := (hA5 ad had).1; have h2 := (hge6 _ e).2; omega)).more (show w5.heap.size ≤ w6.heap.size by omega)
      have hls6b := hls6.snoc hc5 hm5 hr6b
      rw [← Ht.out] at hls6b
      have hrI6 : Rd w6 g A2 ni (ids.map iv) := ((hrI.below (hxx.mono (by omega))).grown hgr6 (by simp; omega) (fun k hk => by have := (hge6 k hk).1; omega))
      have hld6 : LvD (g + 1) w6.heap.size (Value.slice A6 (j + 1) c6).ownBlock (us ++ [.slice A5 l.length c5]) := fun v hv A n c e ad had => by
        have key : g + 1 ≤ ad.block ∧ ad.block < w5.heap.size ∧ (Value.slice A3 j c3).ownBlock ≠ some ad.block := by
          rcases List.mem_append.1 hv with hv | hv
          · have h1 := hld v hv A n c e ad had
            exact ⟨h1.1, by omega, h1.2.2⟩
          · have h1 : v = .slice A5 l.length c5 := by simpa using hv
            rw [h1] at e
            injection e with e1
            have h2 := hA5 ad (e1.trans had)
            exact ⟨by omega, h2.2, fun e9 => by have := (hge6 _ e9).2; omega⟩
        refine ⟨key.1, by omega, fun e9 => ?_⟩
        rcases hat6 with h1 | h1
        · exact key.2.2 (h1.symm.trans e9)
        · rw [e9] at h1; injection h1 with h1; simp at h1; omega
      have kx : w6.cell? ⟨g, 1, none⟩ = some (.slice A3 j c3) := (hM6b.get 0 rfl).cell rfl
      have fx := (hM6b.get 0 rfl).frozen 1
      refine hK.out _ _ (fun _ => kx) ?_
      clear hK K
      simp only [Act.put, List.setIfInBounds_toArray, List.set_cons_zero, List.set_cons_succ]
      have hM7 := hM6b.setCellT (by omega) (fun p hp => by simp at hp; rcases hp with rfl | rfl <;> simp <;> omega) 1 (.slice A6 (j + 1) c6)
      rw [show (#[.slice A2 ni c2, .slice A3 j c3] : Array Value).setIfInBounds 1 (.slice A6 (j + 1) c6) = #[.slice A2 ni c2, .slice A6 (j + 1) c6] from rfl] at hM7
      have hown7 := own_cellT (p := ⟨g, 1, none⟩) hown6 (fun k hk => by have := own_blockT hown6 k hk; show k ≠ g; omega) (.slice A6 (j + 1) c6)
      have hz7 : (w6.setCell ⟨g, 1, none⟩ (.slice A6 (j + 1) c6)).heap.size = w6.heap.size := by simp
      have hls7 := hls6b.keepD (w' := w6.setCell ⟨g, 1, none⟩ (.slice A6 (j + 1) c6)) (B' := w6.heap.size) (fun v hv A n c xs e hr => hr.setCellN (lo := g + 1) (by omega) _ (hld6.new v hv A n c e))
      have hrI7 : Rd (w6.setCell ⟨g, 1, none⟩ (.slice A6 (j + 1) c6)) g A2 ni (ids.map iv) := hrI6.setCell (Nat.le_refl _) _
      have hld7 := hld6
      rw [← hz7] at hls7 hld7
      clear hM6b hM6 hM5 hM4 hown46 hown45 hown4 hr6b hr6 hr5 hls6b hls6 hls4 hrI6 hrI4 hkp hown5 hgr5 hat5 hM hown hls hld hrI
      refine takeD 6 (some 23) (.pointer (some ⟨g, 1, none⟩)) rfl rfl (by kernel_rfl) (by kernel_rfl) (by kernel_rfl) (by kernel_rfl) (fun _ _ _ h => h) (Or.inl ⟨by kernel_rfl, fun wx hSw => by go_simp⟩) kx ?_
      simp only [Act.put, List.setIfInBounds_toArray, List.set_cons_zero, List.set_cons_succ]
      refine oneT 7 (by kernel_rfl) rfl (fun K hK => ?_)
      go_simp
      refine hK.out _ _ (fun h => absurd rfl h) ?_
      clear hK K
      refine doneT (by kernel_rfl) ?_ _
      go_wp2_with fail
      go_roundw
      case rel => exact ⟨j + 1, A6, c6, us ++ [.slice A5 l.length c5], by omega, by go_num, hown7, hls7, hld7, hrI7, hM7⟩
      case measure => simp [intOf]; omega
    · obtain rfl : j = nl := by omega
      rw [List.take_of_length_le (by rw [Hnl.out]; exact Nat.le_refl _)] at hls
      have hrl : Rd wr wr.heap.size A3 j us := Rd.of_own hown
      have hN3 := NewA.of_own hown (lo := w.heap.size + 2) (by omega)
      have hsh : ShN (w.heap.size + 2) wr wr.heap.size A2 ni c2 A3 j c3 ids ll := ⟨⟨Hni.out, Hnl.out, hci2.1, hjc, hci2.2, hcm3, hrI.more (by omega), us, hrl, hls⟩, hN2, hN3, us, hrl, hls, fun v hv A n c e => (hld.new v hv A n c e).mono (by omega)⟩
      clear hrl hown hls hld hrI
      go_wp2_with (first
        | ((with_reducible show wpList _ _ _ (⟨some 25, _, _, _, _, _⟩ :: _) _ _); refine wpList_loadC (by kernel_rfl) 25 (.tmp 3) rfl (g) rfl 25 #[.slice A2 ni c2, .slice A3 j c3] _ (hM.get 0 rfl) Try.underlying25 rfl shapeInfo2 ?_)
        | ((with_reducible show wpList _ _ _ (⟨none, Op.store 25 _ _, _, _, _, _⟩ :: _) _ _); refine wpList_store_row rfl 25 (.tmp 2) (.tmp 25) rfl (w.heap.size + 1) #[.slice A2 ni c2, .slice A3 j c3] rfl rfl 25 _ (hM.get 1 rfl) shapeInfo2 rfl (by simp [Value.oneCell']) ?_))
      refine bodyPost_ret (results_cell_one rfl _ _ (w.heap.size + 1) 25 #[.slice A2 ni c2, .slice A3 j c3] _ rfl ((hM.get 1 rfl).row _) Try.underlying25 rfl shapeInfo2) rfl ?_
      exact HP.out _ _ A2 ni c2 A3 j c3 (below_setRow hM.old (by omega) _) rfl (by rw [size_setRowT]; exact (hsh.box (g := w.heap.size + 1) (by omega) _).mono (by omega))

end Go.Proofs.Ytmganbdbihjbmaa

/-
  WHAT LAYER 10's CALLS OF THE PROGRAM ANSWER, as hypotheses of the walks, and the walk of the laws' live (coterielaw10).
-/
set_option linter.unusedVariables false
namespace Go.Proofs.Ytmganbdbihjbmaa
open Go.RowKit

def HTB : Prop := ∀ (A : Option Addr) (n c : Nat) (xs : List Int) (w : World), n ≤ 1000000 → Rd w w.heap.size A n (xs.map iv) → Calls Try.prog 24 #[.slice A n c] w (BuildPost w xs)
def HTC : Prop := ∀ (Ai : Option Addr) (ni ci : Nat) (Al : Option Addr) (nl cl : Nat) (ids : List Int) (ll : List (List Int)) (w : World), ShR w w.heap.size Ai ni ci Al nl cl ids ll → fewT ids ll = true → Calls Try.prog 26 #[.agg (shV Ai ni ci Al nl cl)] w fun e w' => e = .returned (.int .i64 (chkE ids ll)) ∧ Below w.heap.size w w'
def HTI : Prop := ∀ (Ai : Option Addr) (ni ci : Nat) (Al : Option Addr) (nl cl : Nat) (ids : List Int) (ll : List (List Int)) (id : Int) (w : World), ShR w w.heap.size Ai ni ci Al nl cl ids ll → fewT ids ll = true → Calls Try.prog 30 #[.agg (shV Ai ni ci Al nl cl), .int .i64 id] w (InsPost w ids ll id)
def HTD : Prop := ∀ (Ai : Option Addr) (ni ci : Nat) (Al : Option Addr) (nl cl : Nat) (ids : List Int) (ll : List (List Int)) (id : Int) (w : World), ShR w w.heap.size Ai ni ci Al nl cl ids ll → fewT ids ll = true → Calls Try.prog 29 #[.agg (shV Ai ni ci Al nl cl), .int .i64 id] w (DelPost w ids ll id)
def HTF : Prop := ∀ (Ai : Option Addr) (ni ci : Nat) (Al : Option Addr) (nl cl : Nat) (ids : List Int) (ll : List (List Int)) (id : Int) (w : World), ShR w w.heap.size Ai ni ci Al nl cl ids ll → fewT ids ll = true → Calls Try.prog 38 #[.agg (shV Ai ni ci Al nl cl), .int .i64 id] w fun e w' => e = .returned (.tuple #[.int .i64 (belT ids id : Int), .bool (isT ids id)]) ∧ Below w.heap.size w w'
theorem bld_live : bldS [1, 2, 3, 4] [] [] = (0, [1, 2, 3, 4], [[2, 2], [2]]) := by decide +kernel

end Go.Proofs.Ytmganbdbihjbmaa

/-
  THE WALK of TreeNear (coterielaw10), over what the program's calls answer; what Insert and Delete answer, as one shape.
-/
set_option linter.unusedVariables false
namespace Go.Proofs.Ytmganbdbihjbmaa
open Go.RowKit

theorem sh0_shV : (sh0 : Array Value) = shV none 0 0 none 0 0 := rfl
theorem InsPost.shape {w : World} {ids : List Int} {ll : List (List Int)} {id : Int} {e : Ending} {w' : World} (h : InsPost w ids ll id e w') : Below w.heap.size w w' ∧ ∃ Ai ni ci Al nl cl ids1 ll1,
    e = .returned (.tuple #[.agg (shV Ai ni ci Al nl cl), .int .i64 (insE ids ll id)]) ∧ ShN w.heap.size w' w'.heap.size Ai ni ci Al nl cl ids1 ll1 ∧ (insE ids ll id = 0 → ids1 = (insS ids (lvN ll) id).1 ∧ ll1 = levI (insS ids (lvN ll) id).2) := by
  obtain ⟨hb, ⟨h1, h2⟩ | ⟨h1, Ai, ni, ci, Al, nl, cl, h2, h3⟩⟩ := h
  · exact ⟨hb, none, 0, 0, none, 0, 0, [], [], by rw [h2, sh0_shV], ShN.nil _ _ _, fun h => absurd h h1⟩
  · exact ⟨hb, Ai, ni, ci, Al, nl, cl, _, _, by rw [h1]; exact h2, h3, fun _ => ⟨rfl, rfl⟩⟩
theorem DelPost.shape {w : World} {ids : List Int} {ll : List (List Int)} {id : Int} {e : Ending} {w' : World} (h : DelPost w ids ll id e w') : Below w.heap.size w w' ∧ ∃ Ai ni ci Al nl cl ids1 ll1,
    e = .returned (.tuple #[.agg (shV Ai ni ci Al nl cl), .int .i64 (delE ids ll id)]) ∧ ShN w.heap.size w' w'.heap.size Ai ni ci Al nl cl ids1 ll1 ∧ (delE ids ll id = 0 → ids1 = (delS ids (lvN ll) id).1 ∧ ll1 = levI (delS ids (lvN ll) id).2) := by
  obtain ⟨hb, ⟨h1, h2⟩ | ⟨h1, Ai, ni, ci, Al, nl, cl, h2, h3⟩⟩ := h
  · exact ⟨hb, none, 0, 0, none, 0, 0, [], [], by rw [h2, sh0_shV], ShN.nil _ _ _, fun h => absurd h h1⟩
  · exact ⟨hb, Ai, ni, ci, Al, nl, cl, _, _, by rw [h1]; exact h2, h3, fun _ => ⟨rfl, rfl⟩⟩

/-- levels as the law compares them -/
def nearI (few more : List (List Int)) : Prop := few.length ≤ more.length ∧ more.length ≤ few.length + 1 ∧ ∀ i (h : i < few.length) (h' : i < more.length), few[i].length ≤ more[i].length ∧ more[i].length ≤ few[i].length + 1
theorem lvN_len (ll : List (List Int)) : (lvN ll).length = ll.length := by simp [lvN]
theorem nearI_ins {ll : List (List Int)} {lv : List (List Nat)} (h : nearL (lvN ll) lv) : nearI ll (levI lv) := by
  obtain ⟨h1, h2, h3⟩ := h
  rw [lvN_len] at h1 h2
  refine ⟨by simpa [levI] using h1, by simpa [levI] using h2, fun i hi hi' => ?_⟩
  have := h3 i (by rw [lvN_len]; exact hi) (by simpa [levI] using hi')
  simpa [levI, lvN, natL] using this
theorem nearI_del {ll : List (List Int)} {lv : List (List Nat)} (h : nearL lv (lvN ll)) : nearI (levI lv) ll := by
  obtain ⟨h1, h2, h3⟩ := h
  rw [lvN_len] at h1 h2
  refine ⟨by simpa [levI] using h1, by simpa [levI] using h2, fun i hi hi' => ?_⟩
  have := h3 i (by simpa [levI] using hi) (by rw [lvN_len]; exact hi')
  simpa [levI, lvN, natL] using this
theorem lvOK_nil {lv : List (List Nat)} {many : Nat} (h : lvOK many lv) (hm : many ≤ 1) : lv = [] := by
  cases lv with
  | nil => rfl
  | cons l ls => exact absurd h.1 (by omega)
theorem insS_near {ids : List Int} {ll : List (List Int)} {id : Int} (h : insE ids ll id = 0) : nearI ll (levI (insS ids (lvN ll) id).2) := by
  have hc := (chkT_lv (insE_zero h).1).2.2.1
  refine nearI_ins ?_
  unfold insS
  by_cases h0 : ids = []
  · rw [if_pos h0, lvOK_nil hc (by rw [h0]; simp)]
    exact nearL_refl _
  · rw [if_neg h0]
    have hp := List.length_pos_iff.2 h0
    have := belT_le ids id
    exact insL_near _ ids.length _ hc (by omega)
theorem bel_lt {ids : List Int} {id : Int} (h : ids.Pairwise (· < ·)) (hi : id ∈ ids) : belT ids id < ids.length := by
  obtain ⟨E, L, h1, _, _, h2, _⟩ := erase_form h hi
  rw [h2, h1]
  simp
theorem delS_near {ids : List Int} {ll : List (List Int)} {id : Int} (h : delE ids ll id = 0) : nearI (levI (delS ids (lvN ll) id).2) ll := by
  obtain ⟨hc, hi⟩ := delE_zero h
  have hl := (chkT_lv hc).2.2.1
  refine nearI_del ?_
  unfold delS
  by_cases h0 : ids.length = 1
  · rw [if_pos h0, lvOK_nil hl (by omega)]
    exact nearL_refl _
  · rw [if_neg h0]
    exact delL_near _ ids.length _ hl (bel_lt (okI_rise _ (chkT_lv hc).2.1) hi)

theorem few_ll {ids : List Int} {ll : List (List Int)} (h : fewT ids ll = true) : ll.length ≤ 1000000 ∧ ∀ l ∈ ll, l.length ≤ 1000000 := by
  have := (few_len h).2.2
  exact ⟨by omega, few_million h⟩

end Go.Proofs.Ytmganbdbihjbmaa

/-
  THE WALK of TreeBack (coterielaw10), over what the program's calls answer.
-/
set_option linter.unusedVariables false
namespace Go.Proofs.Ytmganbdbihjbmaa
open Go.RowKit

theorem delE_mk {ids : List Int} {ll : List (List Int)} {id : Int} (h : chkT ids ll = true) (hi : id ∈ ids) : delE ids ll id = 0 := by
  rw [delE, if_neg (by simp [h]), if_neg (by simp [isT_mem.2 hi])]
theorem insE_mk {ids : List Int} {ll : List (List Int)} {id : Int} (h : chkT ids ll = true) (h1 : 0 ≤ id) (h2 : id ≤ 1048576) (hi : id ∉ ids) (hl : ids.length < 1000) : insE ids ll id = 0 := by
  have hn : ¬ isT ids id = true := fun h => hi (isT_mem.1 h)
  rw [insE, if_neg (by simp [h]; omega), if_neg hn, if_neg (by omega)]
/-- put in, and taken out again -/
theorem back_ins {ids : List Int} {ll : List (List Int)} {id : Int} (h : insE ids ll id = 0) {ids1 : List Int} {ll1 : List (List Int)} (h1 : ids1 = (insS ids (lvN ll) id).1) (h2 : ll1 = levI (insS ids (lvN ll) id).2) :
    fewT ids1 ll1 = true ∧ delE ids1 ll1 id = 0 ∧ isT ids1 id = true ∧ (∃ h : belT ids1 id < ids1.length, ids1[belT ids1 id] = id) ∧
      ∀ ids2 ll2, ids2 = (delS ids1 (lvN ll1) id).1 → ll2 = levI (delS ids1 (lvN ll1) id).2 → ids2 = ids ∧ fewT ids2 ll2 = true ∧ chkT ids2 ll2 = true := by
  obtain ⟨c1, c2, c3⟩ := ins_chk h
  rw [← h1] at c1 c3
  rw [← h2] at c3
  obtain ⟨z1, z2, z3, z4, z5⟩ := insE_zero h
  have hr := okI_rise _ (chkT_lv z1).2.1
  have hr1 := okI_rise _ (chkT_lv c3).2.1
  have hm : id ∈ ids1 := by rw [c1, mem_insI]; exact Or.inl rfl
  have hd := delE_mk c3 hm
  refine ⟨few_of_chk c3, hd, isT_mem.2 hm, rise_bel ids1 id hr1 (isT_mem.2 hm), fun ids2 ll2 e1 e2 => ?_⟩
  obtain ⟨d1, d2, d3⟩ := del_chk hd
  rw [← e1] at d1 d3
  rw [← e2] at d3
  exact ⟨by rw [d1, c1, erase_ins hr z4], few_of_chk d3, d3⟩
/-- taken out, and put in again -/
theorem back_del {ids : List Int} {ll : List (List Int)} {id : Int} (h : delE ids ll id = 0) {ids1 : List Int} {ll1 : List (List Int)} (h1 : ids1 = (delS ids (lvN ll) id).1) (h2 : ll1 = levI (delS ids (lvN ll) id).2) :
    fewT ids1 ll1 = true ∧ insE ids1 ll1 id = 0 ∧
      ∀ ids2 ll2, ids2 = (insS ids1 (lvN ll1) id).1 → ll2 = levI (insS ids1 (lvN ll1) id).2 → ids2 = ids ∧ fewT ids2 ll2 = true ∧ chkT ids2 ll2 = true := by
  obtain ⟨c1, c2, c3⟩ := del_chk h
  rw [← h1] at c1 c3
  rw [← h2] at c3
  obtain ⟨z1, z2⟩ := delE_zero h
  have hk := chkT_lv z1
  have hr := okI_rise _ hk.2.1
  obtain ⟨m1, m2⟩ := okI_mem hk.2.1 id z2
  have hp : 0 < ids.length := List.length_pos_of_mem z2
  have hl : ids1.length < 1000 := by
    have := hk.1
    have := bel_lt hr z2
    rw [c1, List.length_eraseIdx, if_pos this]
    omega
  have hi := insE_mk c3 m1 m2 (by rw [c1, mem_erase hr z2]; exact fun h => h.2 rfl) hl
  refine ⟨few_of_chk c3, hi, fun ids2 ll2 e1 e2 => ?_⟩
  obtain ⟨d1, d2, d3⟩ := ins_chk hi
  rw [← e1] at d1 d3
  rw [← e2] at d3
  exact ⟨by rw [d1, c1, ins_erase hr z2], few_of_chk d3, d3⟩
theorem delE_six {ids : List Int} {ll : List (List Int)} {id : Int} (h : chkT ids ll = true) (hz : ¬ delE ids ll id = 0) : delE ids ll id = 6 ∧ isT ids id = false := by
  have hi : isT ids id = false := by
    by_cases hi : isT ids id = true
    · exact absurd (delE_mk h (isT_mem.1 hi)) hz
    · simpa using hi
  exact ⟨by rw [delE, if_neg (by simp [h]), if_pos hi], hi⟩
theorem len_le_max {ids : List Int} {ll : List (List Int)} (h : fewT ids ll = true) : ids.length ≤ maxLen := by
  have := (few_len h).2.1
  unfold maxLen
  omega

end Go.Proofs.Ytmganbdbihjbmaa

/-
  Build in whatever order (pure).
-/
set_option linter.unusedVariables false
namespace Go.Proofs.Ytmganbdbihjbmaa
open Go.RowKit

/-- rising lists with the same members are the same -/
theorem rise_ext : ∀ (a b : List Int), a.Pairwise (· < ·) → b.Pairwise (· < ·) → (∀ x, x ∈ a ↔ x ∈ b) → a = b
  | [], [], _, _, _ => rfl
  | [], y :: b, _, _, h => absurd ((h y).2 (by simp)) (by simp)
  | x :: a, [], _, _, h => absurd ((h x).1 (by simp)) (by simp)
  | x :: a, y :: b, ha, hb, h => by
    rw [List.pairwise_cons] at ha hb
    have hxy : x = y := by
      rcases List.mem_cons.1 ((h x).1 (by simp)) with e | e
      · exact e
      · rcases List.mem_cons.1 ((h y).2 (by simp)) with e' | e'
        · exact e'.symm
        · have := ha.1 y e'
          have := hb.1 x e
          omega
    subst hxy
    rw [rise_ext a b ha.2 hb.2 fun z => ⟨fun hz => ?_, fun hz => ?_⟩]
    · rcases List.mem_cons.1 ((h z).1 (by simp [hz])) with e | e
      · have := ha.1 z hz; omega
      · exact e
    · rcases List.mem_cons.1 ((h z).2 (by simp [hz])) with e | e
      · have := hb.1 z hz; omega
      · exact e
/-- what may be put in, one by one -/
def goodT (r ids : List Int) : Prop := r.Nodup ∧ ∀ x ∈ r, 0 ≤ x ∧ x ≤ 1048576 ∧ x ∉ ids
theorem bld_good : ∀ (r ids : List Int) (lv : List (List Nat)), chkT ids (levI lv) = true → ids.length + r.length < 1000 →
    ((bldS r ids lv).1 = 0 ↔ goodT r ids) ∧ ((bldS r ids lv).1 = 0 → chkT (bldS r ids lv).2.1 (levI (bldS r ids lv).2.2) = true ∧ (bldS r ids lv).2.1.length = ids.length + r.length ∧ ∀ x, x ∈ (bldS r ids lv).2.1 ↔ x ∈ ids ∨ x ∈ r)
  | [], ids, lv, hc, _ => ⟨⟨fun _ => ⟨List.nodup_nil, fun x hx => by simp at hx⟩, fun _ => rfl⟩, fun _ => ⟨hc, by simp [bldS], fun x => by simp [bldS]⟩⟩
  | id :: r, ids, lv, hc, hn => by
    rw [List.length_cons] at hn
    by_cases he : insE ids (levI lv) id = 0
    · obtain ⟨c1, _, c3⟩ := ins_chk he
      obtain ⟨_, z2, z3, z4, _⟩ := insE_zero he
      rw [lvN_levI] at c1 c3
      have hl : (insS ids lv id).1.length = ids.length + 1 := by rw [c1, insI_len]
      obtain ⟨i1, i2⟩ := bld_good r (insS ids lv id).1 (insS ids lv id).2 c3 (by omega)
      have e : bldS (id :: r) ids lv = bldS r (insS ids lv id).1 (insS ids lv id).2 := by rw [bldS, if_pos he]
      rw [e]
      have hg : goodT r (insS ids lv id).1 ↔ goodT (id :: r) ids := by
        unfold goodT
        rw [c1, List.nodup_cons]
        constructor
        · rintro ⟨h1, h2⟩
          refine ⟨⟨fun h => (h2 id h).2.2 (mem_insI.2 (Or.inl rfl)), h1⟩, fun x hx => ?_⟩
          rcases List.mem_cons.1 hx with rfl | hx
          · exact ⟨z2, z3, z4⟩
          · exact ⟨(h2 x hx).1, (h2 x hx).2.1, fun h => (h2 x hx).2.2 (mem_insI.2 (Or.inr h))⟩
        · rintro ⟨⟨h0, h1⟩, h2⟩
          refine ⟨h1, fun x hx => ⟨(h2 x (by simp [hx])).1, (h2 x (by simp [hx])).2.1, fun h => ?_⟩⟩
          rcases mem_insI.1 h with rfl | h
          · exact h0 hx
          · exact (h2 x (by simp [hx])).2.2 h
      refine ⟨i1.trans hg, fun h => ?_⟩
      obtain ⟨j1, j2, j3⟩ := i2 h
      refine ⟨j1, by rw [j2, hl, List.length_cons]; omega, fun x => ?_⟩
      rw [j3, c1, mem_insI, List.mem_cons]
      constructor
      · rintro ((h | h) | h)
        · exact Or.inr (Or.inl h)
        · exact Or.inl h
        · exact Or.inr (Or.inr h)
      · rintro (h | h | h)
        · exact Or.inl (Or.inr h)
        · exact Or.inl (Or.inl h)
        · exact Or.inr h
    · have e : (bldS (id :: r) ids lv).1 = insE ids (levI lv) id := by rw [bldS, if_neg he]
      refine ⟨⟨fun h => absurd (e.symm.trans h) he, fun h => absurd (insE_mk hc (h.2 id (by simp)).1 (h.2 id (by simp)).2.1 (h.2 id (by simp)).2.2 (by omega)) he⟩, fun h => absurd (e.symm.trans h) he⟩
theorem good_perm {r s : List Int} (h : r.Perm s) (hg : goodT r []) : goodT s [] := ⟨(h.nodup_iff).1 hg.1, fun x hx => hg.2 x (h.mem_iff.2 hx)⟩
/-- in whatever order -/
theorem bld_perm {r s : List Int} (h : r.Perm s) (hn : r.length ≤ 100) : ((bldS r [] []).1 = 0 ↔ (bldS s [] []).1 = 0) ∧
    ((bldS r [] []).1 = 0 → (bldS s [] []).2.1 = (bldS r [] []).2.1 ∧ chkT (bldS r [] []).2.1 (levI (bldS r [] []).2.2) = true ∧ chkT (bldS s [] []).2.1 (levI (bldS s [] []).2.2) = true ∧ (bldS r [] []).2.1.length = r.length) := by
  have hl := h.length_eq
  have h0 : chkT [] (levI []) = true := by decide
  obtain ⟨a1, a2⟩ := bld_good r [] [] h0 (by simp; omega)
  obtain ⟨b1, b2⟩ := bld_good s [] [] h0 (by simp; omega)
  have hgg : goodT r [] ↔ goodT s [] := ⟨good_perm h, good_perm h.symm⟩
  have hz := a1.trans (hgg.trans b1.symm)
  refine ⟨hz, fun hr => ?_⟩
  obtain ⟨c1, c2, c3⟩ := a2 hr
  obtain ⟨d1, d2, d3⟩ := b2 (hz.1 hr)
  refine ⟨rise_ext _ _ (okI_rise _ (chkT_lv d1).2.1) (okI_rise _ (chkT_lv c1).2.1) fun x => ?_, c1, d1, by simpa using c2⟩
  rw [c3, d3, h.mem_iff]

end Go.Proofs.Ytmganbdbihjbmaa

/-
  THE WALK of TreeOrder (coterielaw10), over what the program's calls answer.
-/
set_option linter.unusedVariables false
namespace Go.Proofs.Ytmganbdbihjbmaa
open Go.RowKit

theorem tmod_nat (a n : Nat) : Int.tmod (a : Int) (n : Int) = ((a % n : Nat) : Int) := by
  rw [Int.tmod_eq_emod_of_nonneg (by omega)]
  exact (Int.natCast_emod a n).symm

end Go.Proofs.Ytmganbdbihjbmaa

/-
  THE WALK of TreeSpans (coterielaw10), over what the program's calls answer.
-/
set_option linter.unusedVariables false
namespace Go.Proofs.Ytmganbdbihjbmaa
open Go.RowKit

theorem startT_ones (n a : Nat) (h : a ≤ n) : startT (List.replicate n 1) a = a := by
  simp [startT, List.take_replicate, List.sum_replicate_nat]
  omega
theorem scanTo_get (W : List Nat) (x i : Nat) (h : i ≤ x) : (scanTo W x)[i]? = some (startT W i) := by
  rw [scanTo, List.getElem?_map, List.getElem?_range (by omega)]
  rfl
/-- what a member's path and a level's spans have to do with each other -/
theorem span_facts {ids : List Int} {ll : List (List Int)} {id : Int} {k : Nat} (hc : chkT ids ll = true) (hi : isT ids id = true) (hk : k < ll.length) :
    ∃ g x y : Nat, (pathL (lvN ll) (belT ids id))[k]? = some g ∧ (spansL ids.length (lvN ll) k).length = ll[k].length + 1 ∧ g < ll[k].length ∧ (spansL ids.length (lvN ll) k)[0]? = some 0 ∧
      (spansL ids.length (lvN ll) k)[ll[k].length]? = some ids.length ∧ (spansL ids.length (lvN ll) k)[g]? = some x ∧ (spansL ids.length (lvN ll) k)[g + 1]? = some y ∧ x ≤ belT ids id ∧ belT ids id < y ∧ (k + 1 = ll.length → g = 0) := by
  have hlv := (chkT_lv hc).2.2.1
  have hb := bel_lt (okI_rise _ (chkT_lv hc).2.1) (isT_mem.1 hi)
  have hk1 : k < (lvN ll).length := by rw [lvN_len]; exact hk
  have hp : k < (pathL (lvN ll) (belT ids id)).length := by rw [pathL_len]; exact hk1
  obtain ⟨f1, f2, f3, f4⟩ := spanT_path (lvN ll) (List.replicate ids.length 1) ids.length (belT ids id) (belT ids id) hlv (by simp) hb (by rw [startT_ones _ _ (by omega)]; exact Nat.le_refl _) (by rw [startT_ones _ _ (by omega)]; omega) k hk1 hp
  have hs := wideT_sum (lvN ll) (List.replicate ids.length 1) ids.length k hlv (by simp) hk1
  rw [List.sum_replicate_nat, Nat.mul_one] at hs
  have hl : (lvN ll)[k].length = ll[k].length := by simp [lvN, natL]
  rw [hl] at f1 f2
  have e : spansL ids.length (lvN ll) k = scanTo (wideL (List.replicate ids.length 1) ((lvN ll).take (k + 1))) ll[k].length := by rw [spansL, scanT, f2]
  rw [e]
  generalize wideL (List.replicate ids.length 1) ((lvN ll).take (k + 1)) = W at *
  refine ⟨(pathL (lvN ll) (belT ids id))[k], _, _, List.getElem?_eq_getElem hp, by simp [scanTo], f1, ?_, ?_, scanTo_get _ _ _ (by omega), scanTo_get _ _ _ (by omega), f3, f4, fun h => ?_⟩
  · rw [scanTo_get _ _ _ (by omega), startT_zero]
  · rw [scanTo_get _ _ _ (by omega), ← f2, startT_all, hs]
  · have hx := pathL_last (lvN ll) ids.length (belT ids id) hlv hb (by rw [lvN_len, ← h]; exact hp)
    rw [← hx]
    congr 1
    rw [lvN_len, ← h]
    omega
theorem ivn_def (n : Nat) : ivn n = .int .i64 (n : Int) := rfl

end Go.Proofs.Ytmganbdbihjbmaa

/-
  A WORLD IN WHICH ONLY NUMBERS OF NEW BLOCKS CHANGED (for TreeDoes, which counts up in what Insert and Delete told).
-/
set_option linter.unusedVariables false
namespace Go.Proofs.Ytmganbdbihjbmaa
open Go.RowKit

def isI (v : Value) : Prop := ∃ x, v = .int .i64 x
/-- a block of cells of which no string shares a byte -/
def thawed (w : World) (b : Nat) : Prop := ∃ cs t, w.heap[b]? = some (.cells cs t (0, 0))
theorem thawed.free {w : World} {b : Nat} (h : thawed w b) (j : Nat) : w.frozen? ⟨b, j, none⟩ = false := by
  obtain ⟨cs, t, h⟩ := h
  exact frozen_of_row w b j _ t h
structure Mut (lo : Nat) (w0 w : World) : Prop where
  low : Below lo w0 w
  non : ∀ ad v, w0.cell? ad = some v → ¬ isI v → w.cell? ad = some v
  int : ∀ ad v, w0.cell? ad = some v → isI v → ∃ x, w.cell? ad = some (.int .i64 x)
  froz : ∀ b, thawed w0 b → thawed w b
theorem Mut.refl (lo : Nat) (w : World) : Mut lo w w := ⟨Below.refl _ _, fun _ _ h _ => h, fun _ _ h ⟨x, e⟩ => ⟨x, e ▸ h⟩, fun _ h => h⟩
theorem Mut.trans {lo : Nat} {a b c : World} (h : Mut lo a b) (h' : Mut lo b c) : Mut lo a c :=
  ⟨h.low.trans h'.low, fun ad v hv hn => h'.non ad v (h.non ad v hv hn) hn, fun ad v hv hi => by
    obtain ⟨x, hx⟩ := h.int ad v hv hi
    exact h'.int ad _ hx ⟨x, rfl⟩, fun b hb => h'.froz b (h.froz b hb)⟩
theorem Mut.of_below {lo : Nat} {w w' : World} (h : Below w.heap.size w w') (hl : lo ≤ w.heap.size) : Mut lo w w' := by
  have key : ∀ ad v, w.cell? ad = some v → w'.cell? ad = some v := fun ad v hv => by
    have hlt : ad.block < w.heap.size := by
      unfold World.cell? at hv
      rcases Nat.lt_or_ge ad.block w.heap.size with h | h
      · exact h
      · rw [Array.getElem?_eq_none h] at hv
        cases hv
    rw [World.cell?_of_block (h.block _ hlt), hv]
  refine ⟨h.mono hl, fun ad v hv _ => key ad v hv, fun ad v hv ⟨x, e⟩ => ⟨x, e ▸ key ad v hv⟩, fun b ⟨cs, t, hb⟩ => ⟨cs, t, ?_⟩⟩
  have hlt : b < w.heap.size := by
    rcases Nat.lt_or_ge b w.heap.size with h | h
    · exact h
    · rw [Array.getElem?_eq_none h] at hb
      cases hb
  rw [h.block _ hlt, hb]
theorem Mut.set {lo : Nat} {a w : World} (h : Mut lo a w) {p : Addr} {x : Int} (hc : w.cell? p = some (.int .i64 x)) (hl : lo ≤ p.block) (y : Int) : Mut lo a (w.setCell p (.int .i64 y)) := by
  refine h.trans ⟨(Below.refl _ _).setCell hl _, fun ad v hv hn => ?_, fun ad v hv hi => ?_, fun b ⟨cs, t, hb⟩ => ?_⟩
  · rw [World.cell?_setCell_other _ _ _ _ (fun e => hn ⟨x, by rw [← e, hc] at hv; injection hv with hv; exact hv.symm⟩), hv]
  · by_cases e : p = ad
    · subst e
      exact ⟨y, World.cell?_setCell_same _ _ _ hc⟩
    · obtain ⟨z, rfl⟩ := hi
      exact ⟨z, by rw [World.cell?_setCell_other _ _ _ _ e, hv]⟩
  · by_cases e : b = p.block
    · subst e
      unfold thawed World.setCell
      simp only [Array.getElem?_modify, hb]
      by_cases hs : p.spot.isSome = true
      · exact ⟨cs, t, by simp [hs]⟩
      · exact ⟨cs.setIfInBounds p.off (.int .i64 y), t, by simp [hs]⟩
    · exact ⟨cs, t, by rw [Below.heap_setCell w p _ b e, hb]⟩
/-- numbers that may be counted up -/
def IntsM (lo : Nat) (w : World) (A : Option Addr) (n : Nat) : Prop := ∀ j, j < n → ∃ b o, A = some ⟨b, o, none⟩ ∧ lo ≤ b ∧ thawed w b ∧ ∃ x, w.cell? ⟨b, o + j, none⟩ = some (.int .i64 x)
def LvsM (lo : Nat) (w : World) (A : Option Addr) (n : Nat) : Prop := ∀ j, j < n → ∃ b o A' m c, A = some ⟨b, o, none⟩ ∧ w.cell? ⟨b, o + j, none⟩ = some (.slice A' m c) ∧ m ≤ maxLen ∧ IntsM lo w A' m
theorem IntsM.mut {lo : Nat} {w w' : World} {A : Option Addr} {n : Nat} (h : IntsM lo w A n) (hm : Mut lo w w') : IntsM lo w' A n := fun j hj => by
  obtain ⟨b, o, e, hb, ht, x, hx⟩ := h j hj
  exact ⟨b, o, e, hb, hm.froz b ht, hm.int _ _ hx ⟨x, rfl⟩⟩
theorem LvsM.mut {lo : Nat} {w w' : World} {A : Option Addr} {n : Nat} (h : LvsM lo w A n) (hm : Mut lo w w') : LvsM lo w' A n := fun j hj => by
  obtain ⟨b, o, A', m, c, e, hc, hle, hi⟩ := h j hj
  exact ⟨b, o, A', m, c, e, hm.non _ _ hc (fun ⟨x, h⟩ => by cases h), hle, hi.mut hm⟩
/-- a tree's rows are such that no string shares a byte of them -/
def ThawS (w : World) (Ai Al : Option Addr) (nl : Nat) : Prop := (∀ ad, Ai = some ad → thawed w ad.block) ∧ ∀ b o j, Al = some ⟨b, o, none⟩ → j < nl → ∀ A m c, w.cell? ⟨b, o + j, none⟩ = some (.slice A m c) → ∀ ad, A = some ad → thawed w ad.block
theorem IntsM.of {lo : Nat} {w : World} {B : Nat} {A : Option Addr} {n : Nat} {l : List Int} (hr : Rd w B A n (l.map iv)) (hn : NewA lo A) (ht : ∀ ad, A = some ad → thawed w ad.block) : IntsM lo w A n := fun j hj => by
  obtain ⟨b, o, rfl, h2, h3⟩ := hr.pos (by omega)
  have hl : l.length = n := by simpa using hr.len
  exact ⟨b, o, rfl, hn _ rfl, ht _ rfl, l[j]'(by omega), h3 j _ (by rw [List.getElem?_map, List.getElem?_eq_getElem (by omega)]; rfl)⟩
theorem ShN.muts {lo : Nat} {w : World} {B : Nat} {Ai : Option Addr} {ni ci : Nat} {Al : Option Addr} {nl cl : Nat} {ids : List Int} {ll : List (List Int)} (h : ShN lo w B Ai ni ci Al nl cl ids ll) (ht : ThawS w Ai Al nl) : IntsM lo w Ai ni ∧ LvsM lo w Al nl := by
  refine ⟨IntsM.of h.sh.hids h.hi ht.1, fun j hj => ?_⟩
  obtain ⟨vs, h1, h2, h3⟩ := h.hv
  obtain ⟨b, o, rfl, hb, hc⟩ := h1.pos (by omega)
  have hjl : j < ll.length := by rw [h.sh.hnl]; exact hj
  obtain ⟨A, c, e, q1, q2, q3⟩ := h2.get hjl
  have hcell := hc j _ e
  exact ⟨b, o, A, _, c, rfl, hcell, by omega, IntsM.of q3 (h3 _ (List.mem_of_getElem? e) A _ c rfl) (ht.2 b o j rfl hj A _ c hcell)⟩

/-- a told tree's rows: no string shares a byte of them -/
def TellsThawed (e : Ending) (w' : World) : Prop := ∀ Ai ni ci Al nl cl er, e = .returned (.tuple #[.agg (shV Ai ni ci Al nl cl), er]) → ThawS w' Ai Al nl

end Go.Proofs.Ytmganbdbihjbmaa

