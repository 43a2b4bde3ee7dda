import Derived.Test.YtjhcnhihmgpgbaaG24
/-
  CONTRACTS of the document's Insert and Delete (coterieref10).
-/
set_option linter.unusedVariables false
namespace Go.Proofs.Ytjhcnhihmgpgbaa
open Go.RowKit

theorem cells_nil (w : World) : Cells [] w := fun g hg => by cases hg
/-- why no member is put in; the members and levels with it -/
def insE (ids : List Int) (ll : List (List Int)) (id : Int) : Int := if chkT ids ll = false ∨ id < 0 ∨ 1048576 < id then 1 else if isT ids id = true then 7 else if ids.length = 1000 then 8 else 0
def insS (ids : List Int) (lv : List (List Nat)) (id : Int) : List Int × List (List Nat) := if ids = [] then ([id], []) else (insI ids id, insL lv (belT ids id - 1))
def InsPost (w : World) (ids : List Int) (ll : List (List Int)) (id : Int) (e : Ending) (w' : World) : Prop :=
  Below w.heap.size w w' ∧ ((insE ids ll id ≠ 0 ∧ e = .returned (.tuple #[.agg sh0, .int .i64 (insE ids ll id)])) ∨
    (insE ids ll id = 0 ∧ ∃ Ai ni ci Al nl cl, e = .returned (.tuple #[.agg (shV Ai ni ci Al nl cl), .int .i64 0]) ∧ ShN w.heap.size w' w'.heap.size Ai ni ci Al nl cl (insS ids (lvN ll) id).1 (levI (insS ids (lvN ll) id).2)))
/-- why no member is taken out; the members and levels without it -/
def delE (ids : List Int) (ll : List (List Int)) (id : Int) : Int := if chkT ids ll = false then 1 else if isT ids id = false then 6 else 0
def delS (ids : List Int) (lv : List (List Nat)) (id : Int) : List Int × List (List Nat) := if ids.length = 1 then ([], []) else (ids.eraseIdx (belT ids id), delL lv (belT ids id))
def DelPost (w : World) (ids : List Int) (ll : List (List Int)) (id : Int) (e : Ending) (w' : World) : Prop :=
  Below w.heap.size w w' ∧ ((delE ids ll id ≠ 0 ∧ e = .returned (.tuple #[.agg sh0, .int .i64 (delE ids ll id)])) ∨
    (delE ids ll id = 0 ∧ ∃ Ai ni ci Al nl cl, e = .returned (.tuple #[.agg (shV Ai ni ci Al nl cl), .int .i64 0]) ∧ ShN w.heap.size w' w'.heap.size Ai ni ci Al nl cl (delS ids (lvN ll) id).1 (levI (delS ids (lvN ll) id).2)))

theorem sizeSh (Ai : Option Addr) (ni ci : Nat) (Al : Option Addr) (nl cl : Nat) : (Try.prog.info? 25).map (·.size) = some (shV Ai ni ci Al nl cl).size := shapeInfo2
theorem one_sh (Ai : Option Addr) (ni ci : Nat) (Al : Option Addr) (nl cl : Nat) : (shV Ai ni ci Al nl cl).all (·.oneCell') = true := by simp [shV, Value.oneCell']
theorem ShR.nil (w : World) (B : Nat) : ShR w B none 0 0 none 0 0 [] [] := ⟨rfl, rfl, Nat.le_refl _, Nat.le_refl _, by simp [maxLen], by simp [maxLen], Rd.zero _ _ _, [], Rd.zero _ _ _, Lvs.nil _ _⟩
theorem lv_high {ids : List Int} {ll : List (List Int)} (hc : chkT ids ll = true) : (lvN ll).length ≤ 10 := by
  obtain ⟨h1, _, h3, _⟩ := chkT_lv hc
  rcases Nat.eq_zero_or_pos ids.length with h0 | h0
  · rw [h0] at h3
    match hl : lvN ll, h3 with
    | [], _ => simp
    | l :: ls, h3 =>
      have := h3.1
      omega
  · have h := lvOK_high _ _ h3 h0
    rcases Nat.lt_or_ge 10 (lvN ll).length with h2 | h2
    · have := Nat.pow_le_pow_right (show 0 < 2 by omega) h2
      omega
    · exact h2
theorem levF_len : ∀ (h : Nat) (F : List Nd), (levF h F).length = h
  | 0, _ => rfl
  | h + 1, F => by rw [levF, List.length_append, levF_len h]; rfl

theorem size_setRowT (w : World) (g : Nat) (cs : Array Value) : (w.setRow g cs).heap.size = w.heap.size := by simp [World.setRow]
theorem insI_len (l : List Int) (id : Int) : (insI l id).length = l.length + 1 := by
  have := List.countP_le_length (p := fun x => decide (x < id)) (l := l)
  rw [insI, List.length_append, List.length_cons, List.length_take, List.length_drop, belT]
  omega
theorem belT_le (ids : List Int) (id : Int) : belT ids id ≤ ids.length := List.countP_le_length
theorem lvOK_pos : ∀ (lv : List (List Nat)) (many : Nat), lvOK many lv → ∀ l ∈ lv, 0 < l.length
  | [], _, _, l, hl => by simp at hl
  | x :: ls, many, ⟨h1, h2, h3, h4⟩, l, hl => by
    rcases List.mem_cons.1 hl with rfl | hl
    · rcases Nat.eq_zero_or_pos l.length with h0 | h0
      · rw [List.length_eq_zero_iff.1 h0] at h3
        simp at h3
        omega
      · exact h0
    · exact lvOK_pos ls _ h4 l hl
theorem levI_pos {lv : List (List Nat)} (h : ∀ l ∈ lv, 0 < l.length) : ∀ l ∈ levI lv, 0 < l.length := by
  intro l hl
  obtain ⟨x, hx, rfl⟩ := List.mem_map.1 hl
  rw [List.length_map]
  exact h x hx
set_option maxRecDepth 100000 in
set_option maxHeartbeats 8000000 in
theorem InsertT_any (Ai : Option Addr) (ni ci : Nat) (Al : Option Addr) (nl cl : Nat) (ids : List Int) (ll : List (List Int)) (id : Int) (w : World) (h : ShR w w.heap.size Ai ni ci Al nl cl ids ll) (hf : ∀ l ∈ ll, l.length ≤ 1000000) :
    Calls Try.prog 15 #[.agg (shV Ai ni ci Al nl cl), .int .i64 id] w (InsPost w ids ll id) := by
  have hM0 := ((Ms.nil w).box 25 (shV Ai ni ci Al nl cl)).box 25 #[.slice none 0 0, .slice none 0 0]
  simp only [World.size_alloc] at hM0
  have hck := CheckT_any Ai ni ci Al nl cl ids ll _ ((h.below hM0.old).more hM0.old.size) hf
  have hfd := fun wx (hb : Below w.heap.size w wx) => Find_any Ai ni ci Al nl cl ids id wx h.hni h.hci h.hmi ((h.hids.below hb).more hb.size)
  have hnd := fun wx (hb : Below w.heap.size w wx) (hc : chkT ids ll = true) => Nodes_any Ai ni ci Al nl cl ids ll wx ((h.below hb).more hb.size) hf hc
  have Hsv := Lib.hid (sizeSh Ai ni ci Al nl cl)
  have Hni := Lib.hid h.hni
  have hmi := Nat.le_trans h.hci h.hmi
  rw [maxLen] at hmi
  have HE := Lib.hid (show ∀ er : Int, insE ids ll id = er → er ≠ 0 → ∀ w', Below w.heap.size w w' → InsPost w ids ll id (.returned (.tuple #[.agg #[.slice none 0 0, .slice none 0 0], .int .i64 er])) w' from fun er h1 h2 w' hb => ⟨hb, .inl ⟨by rw [h1]; exact h2, by rw [h1]; rfl⟩⟩)
  have HO := Lib.hid (show insE ids ll id = 0 → ∀ e w' Ai ni ci Al nl cl, Below w.heap.size w w' → e = .returned (.tuple #[.agg (shV Ai ni ci Al nl cl), .int .i64 0]) → ShN w.heap.size w' w'.heap.size Ai ni ci Al nl cl (insS ids (lvN ll) id).1 (levI (insS ids (lvN ll) id).2) → InsPost w ids ll id e w' from fun h0 e w' _ _ _ _ _ _ hb he hs => ⟨hb, .inr ⟨h0, _, _, _, _, _, _, he, hs⟩⟩)
  generalize InsPost w ids ll id = PO at *
  clear h
  generalize hsv : (shV Ai ni ci Al nl cl) = sv at *
  go_enter Try.func15, Try.ntmps15
  go_wp2_with ((with_reducible show wpList _ _ _ (⟨some 9, _, _, _, _, _⟩ :: _) _ _); refine wpList_loadC (by kernel_rfl) 25 (.tmp 2) rfl (w.heap.size) rfl 25 sv _ (hM0.get 1 rfl) Try.underlying25 rfl Hsv.out ?_)
  refine hck.mono ?_
  rintro e w1 ⟨rfl, hb1⟩
  have hM1 := hM0.call hb1
  clear hM0 hb1 hck
  by_cases hc : chkT ids ll = true
  rotate_left
  · have hcf : chkT ids ll = false := by simpa using hc
    rw [show chkE ids ll = 1 by rw [chkE, hcf]; rfl]
    clear hc
    go_wp2_with ((with_reducible show wpList _ _ _ (⟨none, Op.store 25 _ _, _, _, _, _⟩ :: _) _ _); refine wpList_store_row rfl 25 (.tmp 4) (.tmp 20) rfl (w.heap.size + 1) #[.slice none 0 0, .slice none 0 0] rfl rfl 25 _ (hM1.get 0 rfl) shapeInfo2 rfl (by simp [Value.oneCell']) ?_)
    refine bodyPost_ret (results_cell_two rfl _ _ (w.heap.size + 1) 25 #[.slice none 0 0, .slice none 0 0] _ rfl ((hM1.get 0 rfl).row _) Try.underlying25 rfl shapeInfo2) rfl ?_
    exact (HE.out 1 (by rw [insE, if_pos (.inl hcf)]) (by decide) _ (below_setRow hM1.old (by omega) _))
  rw [show chkE ids ll = 0 by rw [chkE, hc]; rfl]
  by_cases hid : id < 0
  · go_wp2_with ((with_reducible show wpList _ _ _ (⟨none, Op.store 25 _ _, _, _, _, _⟩ :: _) _ _); refine wpList_store_row rfl 25 (.tmp 4) (.tmp 20) rfl (w.heap.size + 1) #[.slice none 0 0, .slice none 0 0] rfl rfl 25 _ (hM1.get 0 rfl) shapeInfo2 rfl (by simp [Value.oneCell']) ?_)
    refine bodyPost_ret (results_cell_two rfl _ _ (w.heap.size + 1) 25 #[.slice none 0 0, .slice none 0 0] _ rfl ((hM1.get 0 rfl).row _) Try.underlying25 rfl shapeInfo2) rfl ?_
    exact (HE.out 1 (by rw [insE, if_pos (.inr (.inl hid))]) (by decide) _ (below_setRow hM1.old (by omega) _))
  by_cases hid2 : 1048576 < id
  · go_wp2_with ((with_reducible show wpList _ _ _ (⟨none, Op.store 25 _ _, _, _, _, _⟩ :: _) _ _); refine wpList_store_row rfl 25 (.tmp 4) (.tmp 20) rfl (w.heap.size + 1) #[.slice none 0 0, .slice none 0 0] rfl rfl 25 _ (hM1.get 0 rfl) shapeInfo2 rfl (by simp [Value.oneCell']) ?_)
    refine bodyPost_ret (results_cell_two rfl _ _ (w.heap.size + 1) 25 #[.slice none 0 0, .slice none 0 0] _ rfl ((hM1.get 0 rfl).row _) Try.underlying25 rfl shapeInfo2) rfl ?_
    exact (HE.out 1 (by rw [insE, if_pos (.inr (.inr hid2))]) (by decide) _ (below_setRow hM1.old (by omega) _))
  have Hno := Lib.hid (show ¬ (chkT ids ll = false ∨ id < 0 ∨ 1048576 < id) from fun h => by
    rcases h with h | h | h
    · rw [hc] at h; cases h
    · exact hid h
    · exact hid2 h)
  have Hc := Lib.hid hc
  clear hc
  go_wp2_with ((with_reducible show wpList _ _ _ (⟨some 22, _, _, _, _, _⟩ :: _) _ _); refine wpList_loadC (by kernel_rfl) 25 (.tmp 2) rfl (w.heap.size) rfl 25 sv _ (hM1.get 1 rfl) Try.underlying25 rfl Hsv.out ?_)
  refine (hfd _ hM1.old).mono ?_
  rintro e w2 ⟨rfl, hb2⟩
  have hM2 := hM1.call hb2
  clear hM1 hb2 hfd
  by_cases his : isT ids id = true
  · rw [his]
    have Hi := Lib.hid his
    clear his
    go_wp2_with ((with_reducible show wpList _ _ _ (⟨none, Op.store 25 _ _, _, _, _, _⟩ :: _) _ _); refine wpList_store_row rfl 25 (.tmp 4) (.tmp 28) rfl (w.heap.size + 1) #[.slice none 0 0, .slice none 0 0] rfl rfl 25 _ (hM2.get 0 rfl) shapeInfo2 rfl (by simp [Value.oneCell']) ?_)
    refine bodyPost_ret (results_cell_two rfl _ _ (w.heap.size + 1) 25 #[.slice none 0 0, .slice none 0 0] _ rfl ((hM2.get 0 rfl).row _) Try.underlying25 rfl shapeInfo2) rfl ?_
    exact (HE.out 7 (by rw [insE, if_neg Hno.out, if_pos Hi.out]) (by decide) _ (below_setRow hM2.old (by omega) _))
  have hif : isT ids id = false := by simpa using his
  rw [hif]
  have Hi := Lib.hid his
  clear his hif
  have k0 := (hM2.get 1 rfl).cell (i := 0) (v := .slice Ai ni ci) (by rw [← hsv]; rfl)
  have hn1000 : ni ≤ 1000 := by rw [← Hni.out]; exact (chkT_lv Hc.out).1
  by_cases h8 : ni = 1000
  · have h8i : (ni : Int) = 1000 := by omega
    have Hn8 := Lib.hid h8
    clear h8
    go_wp2_with ((with_reducible show wpList _ _ _ (⟨none, Op.store 25 _ _, _, _, _, _⟩ :: _) _ _); refine wpList_store_row rfl 25 (.tmp 4) (.tmp 33) rfl (w.heap.size + 1) #[.slice none 0 0, .slice none 0 0] rfl rfl 25 _ (hM2.get 0 rfl) shapeInfo2 rfl (by simp [Value.oneCell']) ?_)
    refine bodyPost_ret (results_cell_two rfl _ _ (w.heap.size + 1) 25 #[.slice none 0 0, .slice none 0 0] _ rfl ((hM2.get 0 rfl).row _) Try.underlying25 rfl shapeInfo2) rfl ?_
    exact (HE.out 8 (by rw [insE, if_neg Hno.out, if_neg Hi.out, if_pos (by rw [Hni.out]; exact Hn8.out)]) (by decide) _ (below_setRow hM2.old (by omega) _))
  have h8i : ¬ (ni : Int) = 1000 := by omega
  have HO2 := HO.out (by rw [insE, if_neg Hno.out, if_neg Hi.out, if_neg (by rw [Hni.out]; exact h8)])
  by_cases h0 : ni = 0
  · have h0i : (ni : Int) = 0 := by omega
    have Hie := Lib.hid (show ids = [] from List.length_eq_zero_iff.1 (by rw [Hni.out]; exact h0))
    go_wp2_with ((with_reducible show wpList _ _ _ (⟨none, Op.store 25 _ _, _, _, _, _⟩ :: _) _ _); refine wpList_store_row rfl 25 (.tmp 4) (.tmp 40) rfl (w.heap.size + 1) #[.slice (some ⟨w2.heap.size, 0, none⟩) 1 1, .slice none 0 0] rfl rfl 25 _ ((hM2.get 0 rfl).alloc _) shapeInfo2 rfl (by simp [Value.oneCell']) ?_)
    have hlt2 := (hM2.get 0 rfl).lt
    have hb9 := hM2.old.alloc hM2.old.size (.cells #[.int .i64 id] 3)
    refine bodyPost_ret (results_cell_two rfl _ _ (w.heap.size + 1) 25 #[.slice (some ⟨w2.heap.size, 0, none⟩) 1 1, .slice none 0 0] _ rfl (((hM2.get 0 rfl).alloc _).row _) Try.underlying25 rfl shapeInfo2) rfl ?_
    exact (HO2 _ _ (some ⟨w2.heap.size, 0, none⟩) 1 1 none 0 0 (below_setRow hb9 (by omega) _) rfl (by
      rw [insS, if_pos Hie.out, size_setRowT]
      have hs9 : ShN (w.heap.size + 2) (w2.alloc (.cells #[.int .i64 id] 3)) (w2.alloc (.cells #[.int .i64 id] 3)).heap.size (some ⟨w2.heap.size, 0, none⟩) 1 1 none 0 0 [id] [] := ⟨⟨rfl, rfl, Nat.le_refl _, Nat.le_refl _, by simp [maxLen], by simp [maxLen], Rd.mk_ _ _ _ rfl (by simp) rfl rfl, [], Rd.zero _ _ _, Lvs.nil _ _⟩, (fun ad had => by injection had with had; subst had; show _ ≤ w2.heap.size; omega), NewA.none _, [], Rd.zero _ _ _, Lvs.nil _ _, NewVs.nil _⟩
      exact (hs9.box (by omega) _).mono (by omega)))
  have h0i : ¬ (ni : Int) = 0 := by omega
  have hne : ids ≠ [] := fun e => h0 (by rw [← Hni.out, e]; rfl)
  obtain ⟨x, hxn, hxh, hxl, hxi⟩ := root_of (chkT_lv Hc.out).2.2.1 (by rw [Hni.out]; omega)
  obtain ⟨h', a1, a2, a3, a4, a5⟩ := ins_shape (id := id) hxh hxl hxi (okI_rise _ (chkT_lv Hc.out).2.1)
  have hhl := lv_high Hc.out
  have HS : insS ids (lvN ll) id = (insI ids id, insL (lvN ll) (belT ids id - 1)) := by rw [insS, if_neg hne]
  rw [HS, ← a2, ← a3] at HO2
  have hh' : h' ≤ 100 := by
    have h1 := levF_len h' (if (withN x id).length = 2 then [ofKids (withN x id)] else withN x id)
    rw [a2] at h1
    have h2 := (insL_near (lvN ll) ids.length (belT ids id - 1) (chkT_lv Hc.out).2.2.1 (by have := belT_le ids id; have := Hni.out; omega)).2.1
    omega
  have hsz : (idsF (if (withN x id).length = 2 then [ofKids (withN x id)] else withN x id)).length ≤ 2000 := by
    rw [a3, insI_len, Hni.out]
    omega
  have Hpos := Lib.hid (show ∀ l ∈ levI (levF h' (if (withN x id).length = 2 then [ofKids (withN x id)] else withN x id)), 0 < l.length from levI_pos (by rw [a2]; exact lvOK_pos _ _ (insL_ok _ _ _ (chkT_lv Hc.out).2.2.1 (by have := belT_le ids id; have := Hni.out; omega))))
  have Hx := Lib.hid hxh
  have Hn := Lib.hid hxn
  have Ha := Lib.hid a1
  have H4 := Lib.hid a4
  clear a1 a2 a3 a4 a5 hxn hxl hxi hxh HS hne HO HE
  go_wp2_with ((with_reducible show wpList _ _ _ (⟨some 41, _, _, _, _, _⟩ :: _) _ _); refine wpList_loadC (by kernel_rfl) 25 (.tmp 2) rfl (w.heap.size) rfl 25 sv _ (hM2.get 1 rfl) Try.underlying25 rfl Hsv.out ?_)
  refine (hnd _ hM2.old Hc.out).mono ?_
  rintro e w3 ⟨hb3, A3, n3, c3, rfl, hS3⟩
  rw [Hn.out] at hS3
  have hM3 := hM2.call hb3
  clear hM2 hb3 hnd k0
  obtain ⟨b, o, u, rfl, hbl, hu, c1, _⟩ := hS3.range (i := 0) (by simp)
  have hn3 : n3 = 1 := hS3.1.symm
  subst hn3
  have hwi := with_any (lvN ll).length (by omega) x u id [] w3 Hx.out (cells_nil _) hu
  have c1' : w3.rangeAt b o [iv x.id, u] := c1
  go_wp2_with ((with_reducible show wpList _ _ _ (⟨some 44, _, _, _, _, _⟩ :: _) _ _); refine wpList_load_midG (by kernel_rfl) 56 (.tmp 43) rfl b o rfl [iv x.id, u] _ c1' Try.underlying56 rfl sizeNd ?_)
  refine hwi.mono ?_
  rintro e w4 ⟨hb4, A4, n4, c4, rfl, hS4⟩
  have hM4 := hM3.call hb4
  have hS4' : SlN w4 w4.heap.size A4 n4 c4 (withN x id) := hS4
  have hn4 := hS4'.1
  clear hM3 hb4 hwi hS3 hu c1 c1' hS4
  by_cases h2 : n4 = 2
  · have h2i : (n4 : Int) = 2 := by omega
    have hl2 : (withN x id).length = 2 := by omega
    rw [if_pos hl2] at Ha HO2 hsz Hpos
    have hso := SlN.sole (gs := []) (cells_nil _) hS4' (by omega) rfl
    have hM5 := hM4.allocT (.cells #[.int .i64 0, .slice A4 n4 c4] 56)
    have hof := Of_any h' _ _ _ _ _ hh' Ha.out (by simp) hsz hso
    have hlt9 := (hM5.get 0 rfl).lt
    have hle9 := hM5.old.size
    subst h2
    go_wp2_with fail
    refine hof.mono ?_
    rintro e w6 ⟨hb6, Ai6, ni6, ci6, Al6, nl6, cl6, rfl, hsh⟩
    have hM6 := hM5.call hb6
    go_wp2_with ((with_reducible show wpList _ _ _ (⟨none, Op.store 25 _ _, _, _, _, _⟩ :: _) _ _); refine wpList_store_row rfl 25 (.tmp 4) (.tmp 54) rfl (w.heap.size + 1) (shV Ai6 ni6 ci6 Al6 nl6 cl6) rfl rfl 25 _ (hM6.get 0 rfl) (sizeSh _ _ _ _ _ _) rfl (one_sh _ _ _ _ _ _) ?_)
    refine bodyPost_ret (results_cell_two rfl _ _ (w.heap.size + 1) 25 (shV Ai6 ni6 ci6 Al6 nl6 cl6) _ rfl ((hM6.get 0 rfl).row _) Try.underlying25 rfl (sizeSh _ _ _ _ _ _)) rfl ?_
    exact (HO2 _ _ _ _ _ _ _ _ (below_setRow hM6.old (by omega) _) rfl (by rw [size_setRowT]; exact (hsh.box (g := w.heap.size + 1) hlt9 _).mono hle9))
  · have h2i : ¬ (n4 : Int) = 2 := by omega
    have hl2 : ¬ (withN x id).length = 2 := by omega
    rw [if_neg hl2] at Ha HO2 hsz Hpos
    have hof := Of_any h' _ _ _ _ _ hh' Ha.out (fun e => by have := H4.out; rw [e] at this; simp at this) hsz hS4'
    have hlt9 := (hM4.get 0 rfl).lt
    have hle9 := hM4.old.size
    go_wp2_with fail
    refine hof.mono ?_
    rintro e w6 ⟨hb6, Ai6, ni6, ci6, Al6, nl6, cl6, rfl, hsh⟩
    have hM6 := hM4.call hb6
    go_wp2_with ((with_reducible show wpList _ _ _ (⟨none, Op.store 25 _ _, _, _, _, _⟩ :: _) _ _); refine wpList_store_row rfl 25 (.tmp 4) (.tmp 54) rfl (w.heap.size + 1) (shV Ai6 ni6 ci6 Al6 nl6 cl6) rfl rfl 25 _ (hM6.get 0 rfl) (sizeSh _ _ _ _ _ _) rfl (one_sh _ _ _ _ _ _) ?_)
    refine bodyPost_ret (results_cell_two rfl _ _ (w.heap.size + 1) 25 (shV Ai6 ni6 ci6 Al6 nl6 cl6) _ rfl ((hM6.get 0 rfl).row _) Try.underlying25 rfl (sizeSh _ _ _ _ _ _)) rfl ?_
    exact (HO2 _ _ _ _ _ _ _ _ (below_setRow hM6.old (by omega) _) rfl (by rw [size_setRowT]; exact (hsh.box (g := w.heap.size + 1) hlt9 _).mono hle9))

end Go.Proofs.Ytjhcnhihmgpgbaa

/-
  CONTRACT of the document's Delete (coterieref10).
-/
set_option linter.unusedVariables false
namespace Go.Proofs.Ytjhcnhihmgpgbaa
open Go.RowKit

set_option maxRecDepth 100000 in
set_option maxHeartbeats 800000 in
theorem DeleteT_any (Ai : Option Addr) (ni ci : Nat) (Al : Option Addr) (nl cl : Nat) (ids : List Int) (ll : List (List Int)) (id : Int) (w : World) (h : ShR w w.heap.size Ai ni ci Al nl cl ids ll) (hf : ∀ l ∈ ll, l.length ≤ 1000000) :
    Calls Try.prog 17 #[.agg (shV Ai ni ci Al nl cl), .int .i64 id] w (DelPost w ids ll id) := by
  have hM0 := ((Ms.nil w).box 25 (shV Ai ni ci Al nl cl)).box 25 #[.slice none 0 0, .slice none 0 0]
  simp only [World.size_alloc] at hM0
  have hck := CheckT_any Ai ni ci Al nl cl ids ll _ ((h.below hM0.old).more hM0.old.size) hf
  have hfd := fun wx (hb : Below w.heap.size w wx) => Find_any Ai ni ci Al nl cl ids id wx h.hni h.hci h.hmi ((h.hids.below hb).more hb.size)
  have hnd := fun wx (hb : Below w.heap.size w wx) (hc : chkT ids ll = true) => Nodes_any Ai ni ci Al nl cl ids ll wx ((h.below hb).more hb.size) hf hc
  have Hsv := Lib.hid (sizeSh Ai ni ci Al nl cl)
  have Hni := Lib.hid h.hni
  have hmi := Nat.le_trans h.hci h.hmi
  rw [maxLen] at hmi
  have HE := Lib.hid (show ∀ er : Int, delE ids ll id = er → er ≠ 0 → ∀ w', Below w.heap.size w w' → DelPost w ids ll id (.returned (.tuple #[.agg #[.slice none 0 0, .slice none 0 0], .int .i64 er])) w' from fun er h1 h2 w' hb => ⟨hb, .inl ⟨by rw [h1]; exact h2, by rw [h1]; rfl⟩⟩)
  have HO := Lib.hid (show delE ids ll id = 0 → ∀ e w' Ai ni ci Al nl cl, Below w.heap.size w w' → e = .returned (.tuple #[.agg (shV Ai ni ci Al nl cl), .int .i64 0]) → ShN w.heap.size w' w'.heap.size Ai ni ci Al nl cl (delS ids (lvN ll) id).1 (levI (delS ids (lvN ll) id).2) → DelPost w ids ll id e w' from fun h0 e w' _ _ _ _ _ _ hb he hs => ⟨hb, .inr ⟨h0, _, _, _, _, _, _, he, hs⟩⟩)
  generalize DelPost w ids ll id = PO at *
  clear h
  generalize hsv : (shV Ai ni ci Al nl cl) = sv at *
  go_enter Try.func17, Try.ntmps17
  go_wp2_with ((with_reducible show wpList _ _ _ (⟨some 9, _, _, _, _, _⟩ :: _) _ _); refine wpList_loadC (by kernel_rfl) 25 (.tmp 2) rfl (w.heap.size) rfl 25 sv _ (hM0.get 1 rfl) Try.underlying25 rfl Hsv.out ?_)
  refine hck.mono ?_
  rintro e w1 ⟨rfl, hb1⟩
  have hM1 := hM0.call hb1
  clear hM0 hb1 hck
  by_cases hc : chkT ids ll = true
  rotate_left
  · have hcf : chkT ids ll = false := by simpa using hc
    rw [show chkE ids ll = 1 by rw [chkE, hcf]; rfl]
    clear hc
    go_wp2_with ((with_reducible show wpList _ _ _ (⟨none, Op.store 25 _ _, _, _, _, _⟩ :: _) _ _); refine wpList_store_row rfl 25 (.tmp 4) (.tmp 12) rfl (w.heap.size + 1) #[.slice none 0 0, .slice none 0 0] rfl rfl 25 _ (hM1.get 0 rfl) shapeInfo2 rfl (by simp [Value.oneCell']) ?_)
    refine bodyPost_ret (results_cell_two rfl _ _ (w.heap.size + 1) 25 #[.slice none 0 0, .slice none 0 0] _ rfl ((hM1.get 0 rfl).row _) Try.underlying25 rfl shapeInfo2) rfl ?_
    exact HE.out 1 (by rw [delE, if_pos hcf]) (by decide) _ (below_setRow hM1.old (by omega) _)
  rw [show chkE ids ll = 0 by rw [chkE, hc]; rfl]
  have Hc := Lib.hid hc
  have Hno := Lib.hid (show ¬ (chkT ids ll = false) from fun h => by rw [hc] at h; cases h)
  clear hc
  go_wp2_with ((with_reducible show wpList _ _ _ (⟨some 14, _, _, _, _, _⟩ :: _) _ _); refine wpList_loadC (by kernel_rfl) 25 (.tmp 2) rfl (w.heap.size) rfl 25 sv _ (hM1.get 1 rfl) Try.underlying25 rfl Hsv.out ?_)
  refine (hfd _ hM1.old).mono ?_
  rintro e w2 ⟨rfl, hb2⟩
  have hM2 := hM1.call hb2
  clear hM1 hb2 hfd
  by_cases his : isT ids id = true
  rotate_left
  · have hif : isT ids id = false := by simpa using his
    rw [hif]
    have Hi := Lib.hid hif
    clear his hif
    go_wp2_with ((with_reducible show wpList _ _ _ (⟨none, Op.store 25 _ _, _, _, _, _⟩ :: _) _ _); refine wpList_store_row rfl 25 (.tmp 4) (.tmp 21) rfl (w.heap.size + 1) #[.slice none 0 0, .slice none 0 0] rfl rfl 25 _ (hM2.get 0 rfl) shapeInfo2 rfl (by simp [Value.oneCell']) ?_)
    refine bodyPost_ret (results_cell_two rfl _ _ (w.heap.size + 1) 25 #[.slice none 0 0, .slice none 0 0] _ rfl ((hM2.get 0 rfl).row _) Try.underlying25 rfl shapeInfo2) rfl ?_
    exact HE.out 6 (by rw [delE, if_neg Hno.out, if_pos Hi.out]) (by decide) _ (below_setRow hM2.old (by omega) _)
  rw [his]
  have HO2 := HO.out (by rw [delE, if_neg Hno.out, if_neg (by rw [his]; decide)])
  have hin : id ∈ ids := by
    obtain ⟨z, hz1, hz2⟩ := List.any_eq_true.1 his
    have : z = id := by simpa using hz2
    rw [← this]; exact hz1
  have Hin := Lib.hid hin
  clear his hin
  have k0 := (hM2.get 1 rfl).cell (i := 0) (v := .slice Ai ni ci) (by rw [← hsv]; rfl)
  have hn1000 : ni ≤ 1000 := by rw [← Hni.out]; exact (chkT_lv Hc.out).1
  have hn1 : 1 ≤ ni := by rw [← Hni.out]; exact List.length_pos_of_mem Hin.out
  by_cases h1 : ni = 1
  · have h1i : (ni : Int) = 1 := by omega
    have H1 := Lib.hid h1
    clear h1
    go_wp2_with ((with_reducible show wpList _ _ _ (⟨none, Op.store 25 _ _, _, _, _, _⟩ :: _) _ _); refine wpList_store_row rfl 25 (.tmp 4) (.tmp 26) rfl (w.heap.size + 1) #[.slice none 0 0, .slice none 0 0] rfl rfl 25 _ (hM2.get 0 rfl) shapeInfo2 rfl (by simp [Value.oneCell']) ?_)
    refine bodyPost_ret (results_cell_two rfl _ _ (w.heap.size + 1) 25 #[.slice none 0 0, .slice none 0 0] _ rfl ((hM2.get 0 rfl).row _) Try.underlying25 rfl shapeInfo2) rfl ?_
    exact HO2 _ _ none 0 0 none 0 0 (below_setRow hM2.old (by omega) _) rfl (by rw [delS, if_pos (by rw [Hni.out]; exact H1.out)]; exact ShN.nil _ _ _)
  have h1i : ¬ (ni : Int) = 1 := by omega
  have h2n : 2 ≤ ids.length := by rw [Hni.out]; omega
  obtain ⟨x, hxn, hxh, hxl, hxi⟩ := root_of (chkT_lv Hc.out).2.2.1 (by omega)
  obtain ⟨h', ys, a1, a2, a3, a4⟩ := del_shape (id := id) (chkT_lv Hc.out).2.2.1 h2n hxh hxl hxi (okI_rise _ (chkT_lv Hc.out).2.1) Hin.out
  have hhl := lv_high Hc.out
  have hbl : belT ids id < ids.length := by
    obtain ⟨hlt, _⟩ := rise_bel ids id (okI_rise _ (chkT_lv Hc.out).2.1) (List.any_eq_true.2 ⟨id, Hin.out, by simp⟩)
    exact hlt
  have HS : delS ids (lvN ll) id = (ids.eraseIdx (belT ids id), delL (lvN ll) (belT ids id)) := by rw [delS, if_neg (by omega)]
  have hdl := delL_ok _ _ _ (chkT_lv Hc.out).2.2.1 hbl
  have hdn := (delL_near (lvN ll) ids.length (belT ids id) (chkT_lv Hc.out).2.2.1 hbl).1
  obtain ⟨k, hk⟩ : ∃ k, (lvN ll).length = k + 1 := by
    have h := (chkT_lv Hc.out).2.2.1
    match hl : lvN ll, h with
    | [], h => have : ids.length ≤ 1 := h; omega
    | l :: ls, _ => exact ⟨ls.length, rfl⟩
  rw [hk] at hxh
  have hpos := levI_pos (lvOK_pos _ _ hdl)
  have hel : (ids.eraseIdx (belT ids id)).length ≤ 1000 := by have := Hni.out; rw [List.length_eraseIdx]; split <;> omega
  rw [HS] at HO2
  obtain ⟨F, hF1, hF2, hF3, hF4, hF5⟩ : ∃ F : List Nd, F = (if ys.length = 1 then ys else [ofKids ys]) ∧ allH h' F ∧ levF h' F = delL (lvN ll) (belT ids id) ∧ idsF F = ids.eraseIdx (belT ids id) ∧ F.length = 1 := by
    refine ⟨_, rfl, ?_⟩
    by_cases hy : ys.length = 1
    · rw [if_pos hy]
      exact ⟨(a3 hy).1, (a3 hy).2.1, (a3 hy).2.2, hy⟩
    · rw [if_neg hy]
      exact ⟨(a4 hy).1, (a4 hy).2.1, (a4 hy).2.2, rfl⟩
  have hh' : h' ≤ 100 := by
    have h1 := levF_len h' F
    rw [hF3] at h1
    omega
  rw [← hF3, ← hF4] at HO2
  rw [← hF3] at hpos
  rw [← hF4] at hel
  have Hpos := Lib.hid hpos
  have Hx := Lib.hid hxh
  have Hn := Lib.hid hxn
  have HF := Lib.hid hF1
  have HFa := Lib.hid hF2
  have Hw := Lib.hid a1
  have Hy := Lib.hid a2
  have Hhl := Lib.hid (show k + 1 ≤ 100 by omega)
  have Hel := Lib.hid (show (idsF F).length ≤ 2000 by omega)
  have Hh' := Lib.hid hh'
  have Hkl := Lib.hid hk
  clear a1 a2 a3 a4 hxn hxl hxi hxh HS HO HE hF1 hF2 hF3 hF4 hdl hdn hk hpos hel hh' hbl hhl h2n
  go_wp2_with ((with_reducible show wpList _ _ _ (⟨some 27, _, _, _, _, _⟩ :: _) _ _); refine wpList_loadC (by kernel_rfl) 25 (.tmp 2) rfl (w.heap.size) rfl 25 sv _ (hM2.get 1 rfl) Try.underlying25 rfl Hsv.out ?_)
  refine (hnd _ hM2.old Hc.out).mono ?_
  rintro e w3 ⟨hb3, A3, n3, c3, rfl, hS3⟩
  rw [Hn.out] at hS3
  have hM3 := hM2.call hb3
  clear hM2 hb3 hnd k0
  obtain ⟨b, o, u, rfl, hbl, hu, c1, _⟩ := hS3.range (i := 0) (by simp)
  have hn3 : n3 = 1 := hS3.1.symm
  subst hn3
  have hwi := without_any k Hhl.out x u id [] w3 Hx.out (cells_nil _) hu
  have c1' : w3.rangeAt b o [iv x.id, u] := c1
  go_wp2_with ((with_reducible show wpList _ _ _ (⟨some 30, _, _, _, _, _⟩ :: _) _ _); refine wpList_load_midG (by kernel_rfl) 56 (.tmp 29) rfl b o rfl [iv x.id, u] _ c1' Try.underlying56 rfl sizeNd ?_)
  refine hwi.mono ?_
  rintro e w4 ⟨hb4, u4, rfl, hu4, hid4, hlen4⟩
  have hM4 := hM3.call hb4
  have hu4' : NdV w4 w4.heap.size (withoutN x id) u4 := hu4
  obtain ⟨A4, c4, rfl, hS4⟩ := hu4'.kids
  rw [Hw.out, ofKids_kids Hy.out] at hS4
  have hky : (withoutN x id).kids.length = ys.length := by rw [Hw.out, ofKids_kids Hy.out]
  rw [hky]
  obtain ⟨ny, hny⟩ : ∃ ny, ny = ys.length := ⟨_, rfl⟩
  rw [← hny] at hS4 ⊢
  have Hny := Lib.hid hny
  have hP4 := hM4.put 56 #[.int .i64 0, .slice none 0 0] #[.int .i64 0, .slice A4 ny c4]
  have hg4 := hM4.old.size
  have hB5 : Below w4.heap.size w4 ((w4.alloc (.cells #[.int .i64 0, .slice none 0 0] 56)).setRow w4.heap.size #[.int .i64 0, .slice A4 ny c4]) := below_setRow ((Below.refl _ _).alloc (Nat.le_refl _) _) (Nat.le_refl _) _
  have hS5 := hS4.below hB5
  have hlt4 := (hM4.get 0 rfl).lt
  clear hM3 hb4 hwi hS3 hu c1 c1' hu4 hu4' hS4 hB5 hky hny hM4
  go_upto_region 9 with ((with_reducible show wpList _ _ _ (⟨none, Op.store 56 _ _, _, _, _, _⟩ :: _) _ _); refine wpList_store_row rfl 56 (.tmp 8) (.tmp 32) rfl (w4.heap.size) #[.int .i64 0, .slice A4 ny c4] rfl rfl 56 _ (RowC.new _ _ _) sizeNd rfl (by simp [Value.oneCell']) ?_)
  try simp only [Act.put]
  refine wp_gen (fun wx => Ms w wx [(w4.heap.size, 56, #[.int .i64 0, .slice A4 ny c4]), (w.heap.size + 1, 25, #[.slice none 0 0, .slice none 0 0]), (w.heap.size, 25, sv)] ∧ SlN wx w4.heap.size A4 ny c4 ys) ⟨hP4, hS5⟩ ?_
  clear hP4 hS5
  rintro w5 ⟨hM5, hS5⟩
  obtain ⟨g8, hg8⟩ : ∃ g, g = w4.heap.size := ⟨_, rfl⟩
  rw [← hg8] at hM5 hS5 hg4 hlt4 ⊢
  clear hg8
  have k1 := (hM5.get 0 rfl).cell (i := 1) (v := .slice A4 ny c4) rfl
  by_cases hy1 : ny = 1
  · have hy1i : (ny : Int) = 1 := by omega
    subst hy1
    obtain ⟨y1, hys⟩ : ∃ y1, ys = [y1] := by
      match ys, Hny.out with
      | [y1], _ => exact ⟨y1, rfl⟩
    have Hys := Lib.hid hys
    rw [hys] at hS5
    clear hys
    obtain ⟨b6, o6, u6, rfl, hb6l, hu6, c6, _⟩ := hS5.range (i := 0) (by simp)
    have c6' : w5.rangeAt b6 o6 [iv y1.id, u6] := c6
    have hu6' : NdV w5 g8 y1 u6 := hu6
    have hone : (#[iv y1.id, u6] : Array Value).all (·.oneCell') = true := hu6'.one2
    have hB6 : Below g8 w5 (w5.setRow g8 #[iv y1.id, u6]) := below_setRow (Below.refl _ _) (Nat.le_refl _) _
    have hu7 := hu6'.below hB6
    have hM6 := Ms.setT hM5 hg4 (fun p hp => by simp at hp; rcases hp with rfl | rfl <;> simp <;> omega) #[iv y1.id, u6]
    have hlt5 := (hM5.get 0 rfl).lt
    have hzz : (w5.setRow g8 #[iv y1.id, u6]).heap.size = w5.heap.size := size_setRowT _ _ _
    clear hu6 c6 hS5
    go_upto_region 11 with (first
      | ((with_reducible show wpList _ _ _ (⟨some 40, _, _, _, _, _⟩ :: _) _ _); refine wpList_load_midG (by kernel_rfl) 56 (.tmp 39) rfl b6 o6 rfl [iv y1.id, u6] _ c6' Try.underlying56 rfl sizeNd ?_)
      | ((with_reducible show wpList _ _ _ (⟨none, Op.store 56 _ _, _, _, _, _⟩ :: _) _ _); refine wpList_store_row rfl 56 (.tmp 8) (.tmp 40) rfl (g8) #[iv y1.id, u6] rfl rfl 56 _ (hM5.get 0 rfl) sizeNd rfl hone ?_))
    try simp only [Act.put]
    refine wp_gen (fun wx => Ms w wx [(g8, 56, #[iv y1.id, u6]), (w.heap.size + 1, 25, #[.slice none 0 0, .slice none 0 0]), (w.heap.size, 25, sv)] ∧ NdV wx g8 y1 u6 ∧ g8 ≤ wx.heap.size) ⟨hM6, hu7, by rw [hzz]; omega⟩ ?_
    clear hM6 hu7 hM5 hB6 hu6' c6' k1 hzz
    rintro w7 ⟨hM7, hu7, hg7⟩
    have hnw := SlN.newN (gs := []) (w := w7) (cells_nil _) [y1] [u6] #[iv y1.id, u6] ⟨hu7.more hg7, trivial⟩ rfl (by simp)
    have hM8 := hM7.allocT (.cells #[iv y1.id, u6] 56)
    have hof := Of_any h' _ _ _ _ _ Hh'.out HFa.out (fun e => by have := hF5; rw [e] at this; simp at this) Hel.out (by rw [HF.out, if_pos Hny.out.symm, Hys.out]; exact hnw)
    have hlt9 := (hM8.get 1 rfl).lt
    have hle9 := hM8.old.size
    go_wp2_with ((with_reducible show wpList _ _ _ (⟨some 41, _, _, _, _, _⟩ :: _) _ _); refine wpList_loadC (by kernel_rfl) 56 (.tmp 8) rfl (g8) rfl 56 #[iv y1.id, u6] _ (hM7.get 0 rfl) Try.underlying56 rfl sizeNd ?_)
    refine hof.mono ?_
    rintro e w9 ⟨hb9, Ai6, ni6, ci6, Al6, nl6, cl6, rfl, hsh⟩
    have hM9 := hM8.call hb9
    go_wp2_with ((with_reducible show wpList _ _ _ (⟨none, Op.store 25 _ _, _, _, _, _⟩ :: _) _ _); refine wpList_store_row rfl 25 (.tmp 4) (.tmp 43) rfl (w.heap.size + 1) (shV Ai6 ni6 ci6 Al6 nl6 cl6) rfl rfl 25 _ (hM9.get 1 rfl) (sizeSh _ _ _ _ _ _) rfl (one_sh _ _ _ _ _ _) ?_)
    refine bodyPost_ret (results_cell_two rfl _ _ (w.heap.size + 1) 25 (shV Ai6 ni6 ci6 Al6 nl6 cl6) _ rfl ((hM9.get 1 rfl).row _) Try.underlying25 rfl (sizeSh _ _ _ _ _ _)) rfl ?_
    exact HO2 _ _ _ _ _ _ _ _ (below_setRow hM9.old (by omega) _) rfl (by rw [size_setRowT]; exact (hsh.box (g := w.heap.size + 1) hlt9 _).mono hle9)
  · have hy1i : ¬ (ny : Int) = 1 := by omega
    have hS6 : SlN (vw [] w5) w5.heap.size A4 ny c4 ys := hS5.more (Nat.le_of_lt (hM5.get 0 rfl).lt)
    have hso := SlN.sole (gs := []) (cells_nil _) hS6 (by have := Hy.out; have := Hny.out; omega) rfl
    have hM8 := hM5.allocT (.cells #[.int .i64 0, .slice A4 ny c4] 56)
    have hof := Of_any h' _ _ _ _ _ Hh'.out HFa.out (fun e => by have := hF5; rw [e] at this; simp at this) Hel.out (by rw [HF.out, if_neg (by rw [← Hny.out]; exact hy1)]; exact hso)
    have hlt9 := (hM8.get 1 rfl).lt
    have hle9 := hM8.old.size
    go_wp2_with ((with_reducible show wpList _ _ _ (⟨some 41, _, _, _, _, _⟩ :: _) _ _); refine wpList_loadC (by kernel_rfl) 56 (.tmp 8) rfl (g8) rfl 56 #[.int .i64 0, .slice A4 ny c4] _ (hM5.get 0 rfl) Try.underlying56 rfl sizeNd ?_)
    refine hof.mono ?_
    rintro e w9 ⟨hb9, Ai6, ni6, ci6, Al6, nl6, cl6, rfl, hsh⟩
    have hM9 := hM8.call hb9
    go_wp2_with ((with_reducible show wpList _ _ _ (⟨none, Op.store 25 _ _, _, _, _, _⟩ :: _) _ _); refine wpList_store_row rfl 25 (.tmp 4) (.tmp 43) rfl (w.heap.size + 1) (shV Ai6 ni6 ci6 Al6 nl6 cl6) rfl rfl 25 _ (hM9.get 1 rfl) (sizeSh _ _ _ _ _ _) rfl (one_sh _ _ _ _ _ _) ?_)
    refine bodyPost_ret (results_cell_two rfl _ _ (w.heap.size + 1) 25 (shV Ai6 ni6 ci6 Al6 nl6 cl6) _ rfl ((hM9.get 1 rfl).row _) Try.underlying25 rfl (sizeSh _ _ _ _ _ _)) rfl ?_
    exact HO2 _ _ _ _ _ _ _ _ (below_setRow hM9.old (by omega) _) rfl (by rw [size_setRowT]; exact (hsh.box (g := w.heap.size + 1) hlt9 _).mono hle9)

end Go.Proofs.Ytjhcnhihmgpgbaa

/-
  TREES THAT MAY BE: what is inserted into one, and deleted from one, makes one; members that rise.
-/
set_option linter.unusedVariables false
namespace Go.Proofs.Ytjhcnhihmgpgbaa

theorem lvN_levI (lv : List (List Nat)) : lvN (levI lv) = lv := by
  rw [lvN, levI, List.map_map]
  conv => rhs; rw [← List.map_id lv]
  apply List.map_congr_left
  intro l _
  simp only [Function.comp, natL, List.map_map]
  conv => rhs; rw [id, ← List.map_id l]
  apply List.map_congr_left
  intro n _
  simp
theorem levI_lvN {ll : List (List Int)} (h : ∀ l ∈ ll, in23 l = true) : levI (lvN ll) = ll := by
  rw [lvN, levI, List.map_map]
  conv => rhs; rw [← List.map_id ll]
  apply List.map_congr_left
  intro l hl
  have h1 := h l hl
  simp only [Function.comp, natL, List.map_map]
  conv => rhs; rw [id, ← List.map_id l]
  apply List.map_congr_left
  intro n hn
  rw [in23, List.all_eq_true] at h1
  have := h1 n hn
  simp only [Bool.or_eq_true, decide_eq_true_eq] at this
  simp only [Function.comp, id]
  omega
theorem in23_mk {l : List Nat} (h : two3 l) : in23 (l.map (fun n : Nat => (n : Int))) = true := by
  rw [in23, List.all_eq_true]
  intro x hx
  obtain ⟨n, hn, rfl⟩ := List.mem_map.1 hx
  have := h n hn
  simp only [Bool.or_eq_true, decide_eq_true_eq]
  omega
theorem sum_cast : ∀ (l : List Nat), (l.map (fun n : Nat => (n : Int))).sum = ((l.sum : Nat) : Int)
  | [] => rfl
  | x :: l => by
    rw [List.map_cons, List.sum_cons, sum_cast l, List.sum_cons]
    omega
theorem chkL_mk : ∀ (lv : List (List Nat)) (many : Nat), lvOK many lv → chkL (many : Int) (levI lv) = true
  | [], many, h => by
    have h' : many ≤ 1 := h
    show decide ((many : Int) ≤ 1) = true
    rw [decide_eq_true_eq]
    omega
  | l :: ls, many, ⟨h1, h2, h3, h4⟩ => by
    show (in23 (l.map (fun n : Nat => (n : Int))) && (decide ((l.map (fun n : Nat => (n : Int))).sum = (many : Int)) && decide (2 ≤ (many : Int))) && chkL ((l.map (fun n : Nat => (n : Int))).length : Nat) (levI ls)) = true
    rw [List.length_map, chkL_mk ls l.length h4, in23_mk h2, sum_cast, h3]
    simp
    omega
theorem okI_mk {ids : List Int} (h : ∀ x ∈ ids, 0 ≤ x ∧ x ≤ 1048576) (hr : ids.Pairwise (· < ·)) : okI ids = true := by
  rw [okI, List.all_eq_true]
  intro i hi
  have hi' : i < ids.length := List.mem_range.1 hi
  have e : ids.getD i 0 = ids[i] := by rw [List.getD_eq_getElem?_getD, List.getElem?_eq_getElem hi']; rfl
  have hb := h ids[i] (List.getElem_mem hi')
  rw [badAt, e]
  simp only [Bool.not_eq_true', Bool.or_eq_false_iff, Bool.and_eq_false_iff, decide_eq_false_iff_not]
  refine ⟨⟨by omega, by omega⟩, ?_⟩
  rcases Nat.eq_zero_or_pos i with h0 | h0
  · left; omega
  · right
    have e2 : ids.getD (i - 1) 0 = ids[i - 1] := by rw [List.getD_eq_getElem?_getD, List.getElem?_eq_getElem (by omega)]; rfl
    rw [List.pairwise_iff_getElem] at hr
    have := hr (i - 1) i (by omega) hi' (by omega)
    rw [e2]
    omega
theorem chkT_mk {ids : List Int} {lv : List (List Nat)} (h1 : ids.length ≤ 1000) (h2 : ∀ x ∈ ids, 0 ≤ x ∧ x ≤ 1048576) (hr : ids.Pairwise (· < ·)) (hl : lvOK ids.length lv) : chkT ids (levI lv) = true := by
  rw [chkT, okI_mk h2 hr, chkL_mk lv _ hl]
  simpa using h1
theorem okI_mem {ids : List Int} (h : okI ids = true) : ∀ x ∈ ids, 0 ≤ x ∧ x ≤ 1048576 := by
  intro x hx
  obtain ⟨i, hi, rfl⟩ := List.mem_iff_getElem.1 hx
  exact ⟨(okI_at h hi).1, (okI_at h hi).2.1⟩
/-- members that rise, about a number -/
theorem split_rise : ∀ (l : List Int) (id : Int), l.Pairwise (· < ·) → ∃ E L, l = E ++ L ∧ (∀ v ∈ E, v < id) ∧ (∀ v ∈ L, ¬ v < id) ∧ belT l id = E.length
  | [], id, _ => ⟨[], [], rfl, by simp, by simp, rfl⟩
  | x :: l, id, h => by
    rw [List.pairwise_cons] at h
    by_cases hx : x < id
    · obtain ⟨E, L, h1, h2, h3, h4⟩ := split_rise l id h.2
      refine ⟨x :: E, L, by rw [h1]; rfl, fun v hv => ?_, h3, ?_⟩
      · rcases List.mem_cons.1 hv with rfl | hv
        · exact hx
        · exact h2 v hv
      · rw [belT, List.countP_cons, List.length_cons, if_pos (by simpa using hx)]
        rw [belT] at h4
        omega
    · refine ⟨[], x :: l, rfl, by simp, fun v hv => ?_, ?_⟩
      · rcases List.mem_cons.1 hv with rfl | hv
        · exact hx
        · have := h.1 v hv; omega
      · exact bel_none fun v hv => by
          rcases List.mem_cons.1 hv with rfl | hv
          · exact hx
          · have := h.1 v hv; omega
theorem mem_insI {l : List Int} {id v : Int} : v ∈ insI l id ↔ v = id ∨ v ∈ l := by
  rw [insI]
  conv => rhs; rw [← List.take_append_drop (belT l id) l]
  simp only [List.mem_append, List.mem_cons]
  constructor
  · rintro (h | h | h)
    · exact .inr (.inl h)
    · exact .inl h
    · exact .inr (.inr h)
  · rintro (h | h | h)
    · exact .inr (.inl h)
    · exact .inl h
    · exact .inr (.inr h)
theorem isT_mem {ids : List Int} {id : Int} : isT ids id = true ↔ id ∈ ids := by
  rw [isT, List.any_eq_true]
  constructor
  · rintro ⟨z, h1, h2⟩
    have : z = id := by simpa using h2
    exact this ▸ h1
  · exact fun h => ⟨id, h, by simp⟩
theorem insI_rise {l : List Int} {id : Int} (h : l.Pairwise (· < ·)) (hn : id ∉ l) : (insI l id).Pairwise (· < ·) := by
  obtain ⟨E, L, rfl, h2, h3, _⟩ := split_rise l id h
  rw [insI_mid h2 h3]
  rw [List.pairwise_append] at h ⊢
  refine ⟨h.1, List.pairwise_cons.2 ⟨fun v hv => ?_, h.2.1⟩, fun a ha b hb => ?_⟩
  · have h4 := h3 v hv
    have h5 : v ≠ id := fun e => hn (by rw [← e]; simp [hv])
    omega
  · rcases List.mem_cons.1 hb with rfl | hb
    · exact h2 a ha
    · exact h.2.2 a ha b hb
/-- a member taken out -/
theorem erase_form {l : List Int} {id : Int} (h : l.Pairwise (· < ·)) (hi : id ∈ l) : ∃ E L, l = E ++ id :: L ∧ (∀ v ∈ E, v < id) ∧ (∀ v ∈ L, ¬ v < id) ∧ belT l id = E.length ∧ l.eraseIdx (belT l id) = E ++ L := by
  obtain ⟨E, L, h1, h2, h3, h4⟩ := split_rise l id h
  match L, h1, h3 with
  | [], h1, h3 =>
    rw [h1, List.append_nil] at hi
    have := h2 id hi
    omega
  | x :: L, h1, h3 =>
    have hx : x = id := by
      rw [h1] at hi h
      rcases List.mem_append.1 hi with hi | hi
      · have := h2 id hi; omega
      · rcases List.mem_cons.1 hi with e | hi
        · exact e.symm
        · rw [List.pairwise_append, List.pairwise_cons] at h
          have := h.2.1.1 id hi
          have := h3 x (by simp)
          omega
    subst hx
    refine ⟨E, L, h1, h2, fun v hv => h3 v (by simp [hv]), h4, ?_⟩
    rw [h4, h1]
    exact erase_mid _ _ _
theorem mem_erase {l : List Int} {id v : Int} (h : l.Pairwise (· < ·)) (hi : id ∈ l) : v ∈ l.eraseIdx (belT l id) ↔ v ∈ l ∧ v ≠ id := by
  obtain ⟨E, L, rfl, h2, h3, _, h5⟩ := erase_form h hi
  rw [h5]
  rw [List.pairwise_append, List.pairwise_cons] at h
  simp only [List.mem_append, List.mem_cons]
  constructor
  · rintro (hv | hv)
    · exact ⟨.inl hv, by have := h2 v hv; omega⟩
    · exact ⟨.inr (.inr hv), by have := h.2.1.1 v hv; omega⟩
  · rintro ⟨hv | rfl | hv, hne⟩
    · exact .inl hv
    · exact absurd rfl hne
    · exact .inr hv
theorem erase_rise {l : List Int} {id : Int} (h : l.Pairwise (· < ·)) (hi : id ∈ l) : (l.eraseIdx (belT l id)).Pairwise (· < ·) := h.sublist (List.eraseIdx_sublist _ _)
theorem erase_ins {l : List Int} {id : Int} (h : l.Pairwise (· < ·)) (hn : id ∉ l) : (insI l id).eraseIdx (belT (insI l id) id) = l := by
  obtain ⟨E, L, rfl, h2, h3, _⟩ := split_rise l id h
  rw [insI_mid h2 h3]
  exact (erase_ids h2 h3).2
theorem ins_erase {l : List Int} {id : Int} (h : l.Pairwise (· < ·)) (hi : id ∈ l) : insI (l.eraseIdx (belT l id)) id = l := by
  obtain ⟨E, L, rfl, h2, h3, _, h5⟩ := erase_form h hi
  rw [h5]
  exact insI_mid h2 h3
theorem insE_zero {ids : List Int} {ll : List (List Int)} {id : Int} (h : insE ids ll id = 0) : chkT ids ll = true ∧ 0 ≤ id ∧ id ≤ 1048576 ∧ id ∉ ids ∧ ids.length < 1000 := by
  rw [insE] at h
  split at h
  · cases h
  rename_i h1
  split at h
  · cases h
  rename_i h2
  split at h
  · cases h
  rename_i h3
  have hc : chkT ids ll = true := by
    cases hc : chkT ids ll with
    | true => rfl
    | false => exact absurd (.inl hc) h1
  refine ⟨hc, ?_, ?_, fun hm => h2 (isT_mem.2 hm), by have := (chkT_lv hc).1; omega⟩
  · rcases Int.lt_or_le id 0 with h4 | h4
    · exact absurd (.inr (.inl h4)) h1
    · exact h4
  · rcases Int.lt_or_le 1048576 id with h4 | h4
    · exact absurd (.inr (.inr h4)) h1
    · exact h4
theorem delE_zero {ids : List Int} {ll : List (List Int)} {id : Int} (h : delE ids ll id = 0) : chkT ids ll = true ∧ id ∈ ids := by
  rw [delE] at h
  split at h
  · cases h
  rename_i h1
  split at h
  · cases h
  rename_i h2
  exact ⟨by simpa using h1, isT_mem.1 (by simpa using h2)⟩
theorem ins_chk {ids : List Int} {ll : List (List Int)} {id : Int} (h : insE ids ll id = 0) : (insS ids (lvN ll) id).1 = insI ids id ∧ lvOK (ids.length + 1) (insS ids (lvN ll) id).2 ∧ chkT (insS ids (lvN ll) id).1 (levI (insS ids (lvN ll) id).2) = true := by
  obtain ⟨hc, h1, h2, h3, h4⟩ := insE_zero h
  obtain ⟨c1, c2, c3, c4⟩ := chkT_lv hc
  have hr := okI_rise _ c2
  have key : (insS ids (lvN ll) id).1 = insI ids id ∧ lvOK (ids.length + 1) (insS ids (lvN ll) id).2 := by
    by_cases he : ids = []
    · subst he
      rw [insS, if_pos rfl]
      exact ⟨rfl, show 0 + 1 ≤ 1 by omega⟩
    · rw [insS, if_neg he]
      have := List.length_pos_iff.2 he
      exact ⟨rfl, insL_ok _ _ _ c3 (by have := belT_le ids id; omega)⟩
  refine ⟨key.1, key.2, ?_⟩
  rw [key.1]
  refine chkT_mk (by rw [insI_len]; omega) (fun x hx => ?_) (insI_rise hr h3) (by rw [insI_len]; exact key.2)
  rcases mem_insI.1 hx with rfl | hx
  · exact ⟨h1, h2⟩
  · exact okI_mem c2 x hx
theorem del_chk {ids : List Int} {ll : List (List Int)} {id : Int} (h : delE ids ll id = 0) : (delS ids (lvN ll) id).1 = ids.eraseIdx (belT ids id) ∧ lvOK (ids.length - 1) (delS ids (lvN ll) id).2 ∧ chkT (delS ids (lvN ll) id).1 (levI (delS ids (lvN ll) id).2) = true := by
  obtain ⟨hc, h3⟩ := delE_zero h
  obtain ⟨c1, c2, c3, c4⟩ := chkT_lv hc
  have hr := okI_rise _ c2
  have hbl : belT ids id < ids.length := (rise_bel ids id hr (isT_mem.2 h3)).1
  have key : (delS ids (lvN ll) id).1 = ids.eraseIdx (belT ids id) ∧ lvOK (ids.length - 1) (delS ids (lvN ll) id).2 := by
    by_cases he : ids.length = 1
    · rw [delS, if_pos he]
      refine ⟨?_, show ids.length - 1 ≤ 1 by omega⟩
      match ids, he with
      | [x], _ =>
        have : belT [x] id = 0 := by simp at hbl; exact hbl
        rw [this]; rfl
    · rw [delS, if_neg he]
      exact ⟨rfl, delL_ok _ _ _ c3 hbl⟩
  have hl : (ids.eraseIdx (belT ids id)).length = ids.length - 1 := by rw [List.length_eraseIdx, if_pos hbl]
  refine ⟨key.1, key.2, ?_⟩
  rw [key.1]
  refine chkT_mk (by omega) (fun x hx => okI_mem c2 x ((mem_erase hr h3).1 hx).1) (erase_rise hr h3) (by rw [hl]; exact key.2)
theorem lvOK_len : ∀ (lv : List (List Nat)) (many : Nat), lvOK many lv → ∀ l ∈ lv, l.length ≤ many
  | [], _, _, l, hl => by simp at hl
  | x :: ls, many, ⟨h1, h2, h3, h4⟩, l, hl => by
    have h5 := two3_len h2
    rcases List.mem_cons.1 hl with rfl | hl
    · omega
    · have := lvOK_len ls _ h4 l hl
      omega
theorem few_of_chk {ids : List Int} {ll : List (List Int)} (h : chkT ids ll = true) : fewT ids ll = true := by
  obtain ⟨c1, c2, c3, c4⟩ := chkT_lv h
  have h10 := lv_high h
  rw [lvN, List.length_map] at h10
  rw [fewT, Bool.and_eq_true, Bool.and_eq_true, List.all_eq_true, decide_eq_true_eq, decide_eq_true_eq]
  refine ⟨fun l hl => ?_, by omega, by omega⟩
  rw [decide_eq_true_eq]
  have := lvOK_len _ _ c3 (natL l) (List.mem_map.2 ⟨l, hl, rfl⟩)
  rw [natL, List.length_map] at this
  omega
theorem few_len {ids : List Int} {ll : List (List Int)} (h : fewT ids ll = true) : (∀ l ∈ ll, l.length ≤ 1100) ∧ ids.length ≤ 1100 ∧ ll.length ≤ 20 := by
  rw [fewT, Bool.and_eq_true, Bool.and_eq_true, List.all_eq_true, decide_eq_true_eq, decide_eq_true_eq] at h
  exact ⟨fun l hl => by have := h.1 l hl; rwa [decide_eq_true_eq] at this, h.2.1, h.2.2⟩

end Go.Proofs.Ytjhcnhihmgpgbaa

