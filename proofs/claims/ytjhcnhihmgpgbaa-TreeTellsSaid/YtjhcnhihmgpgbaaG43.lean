import Derived.Test.YtjhcnhihmgpgbaaG26
/-
  THE WALK of TreeTells (coterielaw10), over what the program's calls answer.
-/
set_option linter.unusedVariables false
namespace Go.Proofs.Ytjhcnhihmgpgbaa
open Go.RowKit

theorem PathPost.all (ids : List Int) (ll : List (List Int)) (id : Int) : ∃ (l : List Int) (er : Int), ∀ w e w', PathPost w ids ll id e w' → ∃ A n c, e = .returned (.tuple #[.slice A n c, .int .i64 er]) ∧ Below w.heap.size w w' ∧ n ≤ maxLen ∧ Rd w' w'.heap.size A n (l.map iv) := by
  by_cases hc : chkT ids ll = true
  · by_cases hi : isT ids id = true
    · refine ⟨(pathL (lvN ll) (belT ids id)).map (fun n : Nat => (n : Int)), 0, fun w e w' ⟨hb, h⟩ => ?_⟩
      rcases h with ⟨h, _⟩ | ⟨_, h, _⟩ | ⟨_, _, A, c, h, h1, h2, h3⟩
      · rw [hc] at h; cases h
      · rw [hi] at h; cases h
      · exact ⟨A, ll.length, c, h, hb, by omega, by rw [List.map_map]; exact h3⟩
    · refine ⟨[], 6, fun w e w' ⟨hb, h⟩ => ?_⟩
      rcases h with ⟨h, _⟩ | ⟨_, _, h⟩ | ⟨_, h, _⟩
      · rw [hc] at h; cases h
      · exact ⟨none, 0, 0, h, hb, by simp [maxLen], Rd.zero _ _ _⟩
      · exact absurd h hi
  · refine ⟨[], 1, fun w e w' ⟨hb, h⟩ => ?_⟩
    rcases h with ⟨_, h⟩ | ⟨h, _⟩ | ⟨h, _⟩
    · exact ⟨none, 0, 0, h, hb, by simp [maxLen], Rd.zero _ _ _⟩
    · exact absurd h hc
    · exact absurd h hc
theorem SpansPost.all (ids : List Int) (ll : List (List Int)) (level : Int) : ∃ (l : List Int) (er : Int), ∀ w e w', SpansPost w ids ll level e w' → ∃ A n c, e = .returned (.tuple #[.slice A n c, .int .i64 er]) ∧ Below w.heap.size w w' ∧ n ≤ maxLen ∧ Rd w' w'.heap.size A n (l.map iv) := by
  by_cases hc : spansOk ids ll level
  · refine ⟨(spansL ids.length (lvN ll) level.toNat).map (fun n : Nat => (n : Int)), 0, fun w e w' ⟨hb, h⟩ => ?_⟩
    rcases h with ⟨h, _⟩ | ⟨_, A, n, c, h, h1, h2, h3⟩
    · exact absurd hc h
    · exact ⟨A, n, c, h, hb, by omega, by rw [List.map_map]; exact h3⟩
  · refine ⟨[], 1, fun w e w' ⟨hb, h⟩ => ?_⟩
    rcases h with ⟨_, h⟩ | ⟨h, _⟩
    · exact ⟨none, 0, 0, h, hb, by simp [maxLen], Rd.zero _ _ _⟩
    · exact absurd h hc

set_option maxRecDepth 100000 in
set_option maxHeartbeats 16000000 in
theorem walkH_TreeTells (hB : HTB) (hC : HTC) (hS : HTM) (hF : HTF) (hP : HTP) (hSp : HTS) (Ai : Option Addr) (ni ci : Nat) (Al : Option Addr) (nl cl : Nat) (ids : List Int) (ll : List (List Int)) (Ai' : Option Addr) (ni' ci' : Nat) (Al' : Option Addr) (nl' cl' : Nat) (ids' : List Int) (ll' : List (List Int)) (id level : Int) (w : World)
    (h : ShR w w.heap.size Ai ni ci Al nl cl ids ll) (h' : ShR w w.heap.size Ai' ni' ci' Al' nl' cl' ids' ll') (hl1 : -9223372036854775808 ≤ level) (hl2 : level ≤ 9223372036854775807) :
    Calls Try.prog 4 #[.agg (shV Ai ni ci Al nl cl), .agg (shV Ai' ni' ci' Al' nl' cl'), .int .i64 id, .int .i64 level] w fun e w' => e = .returned (.bool true) ∧ Below w.heap.size w w' := by
  have hM0 := ((Ms.nil w).box 25 (shV Ai ni ci Al nl cl)).box 25 (shV Ai' ni' ci' Al' nl' cl')
  simp only [World.size_alloc] at hM0
  have sh := fun wx (hb : Below w.heap.size w wx) => (h.below hb).more hb.size
  have sh' := fun wx (hb : Below w.heap.size w wx) => (h'.below hb).more hb.size
  have hf1 := fun wx hb => FewT_any Ai ni ci Al nl cl ids ll wx (sh wx hb)
  have hf2 := fun wx hb => FewT_any Ai' ni' ci' Al' nl' cl' ids' ll' wx (sh' wx hb)
  have hfa := fun (hf : fewT ids ll = true) wx hb => hF Ai ni ci Al nl cl ids ll id wx (sh wx hb) hf
  have hfb := fun wx (hb : Below w.heap.size w wx) => Find_any Ai ni ci Al nl cl ids id wx h.hni h.hci h.hmi (sh wx hb).hids
  have hpa := fun (hf : fewT ids ll = true) wx hb => hP Ai ni ci Al nl cl ids ll id wx (sh wx hb) hf
  have hpb := fun (hf : fewT ids ll = true) wx hb => PathT_any Ai ni ci Al nl cl ids ll id wx (sh wx hb) (few_million hf)
  have hsa := fun (hf : fewT ids ll = true) wx hb => hSp Ai ni ci Al nl cl ids ll level wx hl1 hl2 (sh wx hb) hf
  have hsb := fun (hf : fewT ids ll = true) wx hb => SpansT_any Ai ni ci Al nl cl ids ll level wx hl1 hl2 (sh wx hb) (few_million hf)
  have hca := fun (hf : fewT ids ll = true) wx hb => hC Ai ni ci Al nl cl ids ll wx (sh wx hb) hf
  have hcb := fun (hf : fewT ids ll = true) wx hb => CheckT_any Ai ni ci Al nl cl ids ll wx (sh wx hb) (few_million hf)
  have hma := fun (hf : fewT ids ll = true) (hf' : fewT ids' ll' = true) wx hb => hS Ai ni ci Al nl cl ids ll Ai' ni' ci' Al' nl' cl' ids' ll' wx (sh wx hb) (sh' wx hb) hf hf'
  have hmb := fun wx hb => Same_anyT Ai ni ci Al nl cl ids ll Ai' ni' ci' Al' nl' cl' ids' ll' wx (sh wx hb) (sh' wx hb)
  have Hsz := Lib.hid (sizeSh Ai ni ci Al nl cl)
  have Hsz' := Lib.hid (sizeSh Ai' ni' ci' Al' nl' cl')
  obtain ⟨pl, pe, hpall⟩ := PathPost.all ids ll id
  obtain ⟨sl, se, hsall⟩ := SpansPost.all ids ll level
  clear sh sh' h h'
  generalize PathPost = PP at *
  generalize SpansPost = SP at *
  generalize shV Ai ni ci Al nl cl = sv at *
  generalize shV Ai' ni' ci' Al' nl' cl' = sv' at *
  generalize (ids == ids' && ll == ll') = sm at *
  generalize chkE ids ll = ce at *
  generalize isT ids id = it at *
  generalize ((belT ids id : Nat) : Int) = bt at *
  go_enter Try.func4, Try.ntmps4
  go_wp2_with fail
  refine (live10 hB hC hS _).mono ?_
  rintro e w1 ⟨rfl, hb1⟩
  have hM1 := hM0.call hb1
  clear hM0 hb1
  go_wp2_with ((with_reducible show wpList _ _ _ (⟨some 23, _, _, _, _, _⟩ :: _) _ _); refine wpList_loadC (by kernel_rfl) 25 (.tmp 4) rfl (w.heap.size) rfl 25 sv _ (hM1.get 1 rfl) Try.underlying25 rfl Hsz.out ?_)
  refine (hf1 _ hM1.old).mono ?_
  rintro e w2 ⟨rfl, hb2⟩
  have hM2 := hM1.call hb2
  clear hM1 hb2
  by_cases hfw : fewT ids ll = true
  rotate_left
  · have hff : fewT ids ll = false := by simpa using hfw
    rw [hff]
    go_wp2_with fail
    go_ret
    exact ⟨rfl, hM2.old⟩
  rw [hfw]
  go_wp2_with ((with_reducible show wpList _ _ _ (⟨some 27, _, _, _, _, _⟩ :: _) _ _); refine wpList_loadC (by kernel_rfl) 25 (.tmp 5) rfl (w.heap.size + 1) rfl 25 sv' _ (hM2.get 0 rfl) Try.underlying25 rfl Hsz'.out ?_)
  refine (hf2 _ hM2.old).mono ?_
  rintro e w3 ⟨rfl, hb3⟩
  have hM3 := hM2.call hb3
  clear hM2 hb3
  by_cases hfw' : fewT ids' ll' = true
  rotate_left
  · have hff : fewT ids' ll' = false := by simpa using hfw'
    rw [hff]
    go_wp2_with fail
    go_ret
    exact ⟨rfl, hM3.old⟩
  rw [hfw']
  have ha := hfa hfw
  have hb := hpa hfw
  have hc := hpb hfw
  have hd := hsa hfw
  have he := hsb hfw
  have hf := hca hfw
  have hg := hcb hfw
  have hh := hma hfw hfw'
  clear hfa hpa hpb hsa hsb hca hcb hma hfw hfw' hf1 hf2
  go_wp2_with ((with_reducible show wpList _ _ _ (⟨some 33, _, _, _, _, _⟩ :: _) _ _); refine wpList_loadC (by kernel_rfl) 25 (.tmp 4) rfl (w.heap.size) rfl 25 sv _ (hM3.get 1 rfl) Try.underlying25 rfl Hsz.out ?_)
  refine (ha _ hM3.old).mono ?_
  rintro e w4 ⟨rfl, hb4⟩
  have hM4 := hM3.call hb4
  clear hM3 hb4 ha
  go_wp2_with ((with_reducible show wpList _ _ _ (⟨some 39, _, _, _, _, _⟩ :: _) _ _); refine wpList_loadC (by kernel_rfl) 25 (.tmp 4) rfl (w.heap.size) rfl 25 sv _ (hM4.get 1 rfl) Try.underlying25 rfl Hsz.out ?_)
  refine (hfb _ hM4.old).mono ?_
  rintro e w5 ⟨rfl, hb5⟩
  have hM5 := hM4.call hb5
  clear hM4 hb5 hfb
  go_wp2_with ((with_reducible show wpList _ _ _ (⟨some 45, _, _, _, _, _⟩ :: _) _ _); refine wpList_loadC (by kernel_rfl) 25 (.tmp 4) rfl (w.heap.size) rfl 25 sv _ (hM5.get 1 rfl) Try.underlying25 rfl Hsz.out ?_)
  refine (hb _ hM5.old).mono ?_
  intro e w6 hP6
  obtain ⟨A1, n1, c1, rfl, hb6, hn1, hr1⟩ := hpall _ _ _ hP6
  have hM6 := hM5.call hb6
  clear hM5 hb6 hb hP6
  go_wp2_with ((with_reducible show wpList _ _ _ (⟨some 51, _, _, _, _, _⟩ :: _) _ _); refine wpList_loadC (by kernel_rfl) 25 (.tmp 4) rfl (w.heap.size) rfl 25 sv _ (hM6.get 1 rfl) Try.underlying25 rfl Hsz.out ?_)
  refine (hc _ hM6.old).mono ?_
  intro e w7 hP7
  obtain ⟨A2, n2, c2, rfl, hb7, hn2, hr2⟩ := hpall _ _ _ hP7
  have hM7 := hM6.call hb7
  have hr17 := d_rd hr1 hb7
  clear hM6 hb7 hc hP7 hpall hr1
  go_wp2_with ((with_reducible show wpList _ _ _ (⟨some 57, _, _, _, _, _⟩ :: _) _ _); refine wpList_loadC (by kernel_rfl) 25 (.tmp 4) rfl (w.heap.size) rfl 25 sv _ (hM7.get 1 rfl) Try.underlying25 rfl Hsz.out ?_)
  refine (hd _ hM7.old).mono ?_
  intro e w8 hP8
  obtain ⟨A3, n3, c3, rfl, hb8, hn3, hr3⟩ := hsall _ _ _ hP8
  have hM8 := hM7.call hb8
  have hr18 := d_rd hr17 hb8
  have hr28 := d_rd hr2 hb8
  clear hM7 hb8 hd hP8 hr17 hr2
  go_wp2_with ((with_reducible show wpList _ _ _ (⟨some 63, _, _, _, _, _⟩ :: _) _ _); refine wpList_loadC (by kernel_rfl) 25 (.tmp 4) rfl (w.heap.size) rfl 25 sv _ (hM8.get 1 rfl) Try.underlying25 rfl Hsz.out ?_)
  refine (he _ hM8.old).mono ?_
  intro e w9 hP9
  obtain ⟨A4, n4, c4, rfl, hb9, hn4, hr4⟩ := hsall _ _ _ hP9
  have hM9 := hM8.call hb9
  have hr19 := d_rd hr18 hb9
  have hr29 := d_rd hr28 hb9
  have hr39 := d_rd hr3 hb9
  clear hM8 hb9 he hP9 hr18 hr28 hr3 hsall
  have hs1 := fun wx (hb : Below w9.heap.size w9 wx) => SameInts_any A1 A2 n1 c1 n2 c2 pl pl wx hn1 (d_rd hr19 hb) (d_rd hr29 hb)
  have hs2 := fun wx (hb : Below w9.heap.size w9 wx) => SameInts_any A3 A4 n3 c3 n4 c4 sl sl wx hn3 (d_rd hr39 hb) (d_rd hr4 hb)
  simp only [beq_self_eq_true] at hs1 hs2
  clear hr19 hr29 hr39 hr4
  go_upto_region 10 with fail
  try simp only [Act.put]
  have hun := Try.underlying25
  have hz1 : (Try.prog.info? 25).map (·.size) = some sv.toList.length := by simpa using Hsz.out
  have hz2 : (Try.prog.info? 25).map (·.size) = some sv'.toList.length := by simpa using Hsz'.out
  have hkeep : ∀ wx : World, Below w9.heap.size w9 wx → wx.rangeAt w.heap.size 0 sv.toList ∧ wx.rangeAt (w.heap.size + 1) 0 sv'.toList := fun wx hb => ⟨((hM9.get 1 rfl).call hb).range, ((hM9.get 0 rfl).call hb).range⟩
  have hw9 := hM9.old
  refine beginT (fun wx => wx.rangeAt w.heap.size 0 sv.toList ∧ wx.rangeAt (w.heap.size + 1) 0 sv'.toList) 47 (by kernel_rfl) ?_
  have hS := hkeep _ (c_drew (c_refl _))
  have hxx : Below w9.heap.size w9 w9.drew := c_drew (c_refl _)
  generalize w9.drew = x0 at *
  refine takeD 0 (some 68) (.bool true) rfl rfl (by kernel_rfl) (by kernel_rfl) (by kernel_rfl) (by kernel_rfl) (fun _ _ _ h => h) (Or.inl ⟨by kernel_rfl, fun wx hSw => by go_simp⟩) hS ?_
  simp only [Act.put, List.setIfInBounds_toArray, List.set_cons_zero, List.set_cons_succ]
  refine takeD 1 (some 69) (.bool true) rfl rfl (by kernel_rfl) (by kernel_rfl) (by kernel_rfl) (by kernel_rfl) (fun _ _ _ h => h) (Or.inl ⟨by kernel_rfl, fun wx hSw => by go_simp⟩) hS ?_
  simp only [Act.put, List.setIfInBounds_toArray, List.set_cons_zero, List.set_cons_succ]
  refine loadT 2 (some 70) 25 (.tmp 4) w.heap.size 0 sv.toList rfl rfl (by kernel_rfl) (by kernel_rfl) (by kernel_rfl) (by kernel_rfl) rfl (by kernel_rfl) rfl (fun wx hSw => hSw.1) hun rfl hz1 (fun _ _ _ h => h) hS ?_
  simp only [Act.put, List.setIfInBounds_toArray, List.set_cons_zero, List.set_cons_succ, Array.toArray_toList]
  refine loadT 4 (some 72) 25 (.tmp 4) w.heap.size 0 sv.toList rfl rfl (by kernel_rfl) (by kernel_rfl) (by kernel_rfl) (by kernel_rfl) rfl (by kernel_rfl) rfl (fun wx hSw => hSw.1) hun rfl hz1 (fun _ _ _ h => h) hS ?_
  simp only [Act.put, List.setIfInBounds_toArray, List.set_cons_zero, List.set_cons_succ, Array.toArray_toList]
  refine oneT 3 (by kernel_rfl) rfl (fun K hK => ?_)
  go_simp
  refine (hf x0 (c_call hw9 hxx)).mono ?_
  rintro e x1 ⟨rfl, hq1⟩
  have hxx := c_call hxx hq1
  refine hK.out _ _ (fun _ => hkeep _ hxx) ?_
  clear hK K hq1
  have hS := hkeep _ hxx
  refine oneT 5 (by kernel_rfl) rfl (fun K hK => ?_)
  go_simp
  refine (hg x1 (c_call hw9 hxx)).mono ?_
  rintro e x2 ⟨rfl, hq2⟩
  have hxx := c_call hxx hq2
  refine hK.out _ _ (fun _ => hkeep _ hxx) ?_
  clear hK K hq2
  have hS := hkeep _ hxx
  refine takeD 6 (some 74) (.bool true) rfl rfl (by kernel_rfl) (by kernel_rfl) (by kernel_rfl) (by kernel_rfl) (fun _ _ _ h => h) (Or.inl ⟨by kernel_rfl, fun wx hSw => by go_simp⟩) hS ?_
  simp only [Act.put, List.setIfInBounds_toArray, List.set_cons_zero, List.set_cons_succ]
  refine takeD 7 (some 75) (.bool true) rfl rfl (by kernel_rfl) (by kernel_rfl) (by kernel_rfl) (by kernel_rfl) (fun _ _ _ h => h) (Or.inl ⟨by kernel_rfl, fun wx hSw => by go_simp⟩) hS ?_
  simp only [Act.put, List.setIfInBounds_toArray, List.set_cons_zero, List.set_cons_succ]
  refine takeD 8 (some 76) (.bool true) rfl rfl (by kernel_rfl) (by kernel_rfl) (by kernel_rfl) (by kernel_rfl) (fun _ _ _ h => h) (Or.inl ⟨by kernel_rfl, fun wx hSw => by go_simp⟩) hS ?_
  simp only [Act.put, List.setIfInBounds_toArray, List.set_cons_zero, List.set_cons_succ]
  refine takeD 9 (some 77) (.int .i64 bt) rfl rfl (by kernel_rfl) (by kernel_rfl) (by kernel_rfl) (by kernel_rfl) (fun _ _ _ h => h) (Or.inl ⟨by kernel_rfl, fun wx hSw => by go_simp⟩) hS ?_
  simp only [Act.put, List.setIfInBounds_toArray, List.set_cons_zero, List.set_cons_succ]
  refine takeD 10 (some 78) (.int .i64 bt) rfl rfl (by kernel_rfl) (by kernel_rfl) (by kernel_rfl) (by kernel_rfl) (fun _ _ _ h => h) (Or.inl ⟨by kernel_rfl, fun wx hSw => by go_simp⟩) hS ?_
  simp only [Act.put, List.setIfInBounds_toArray, List.set_cons_zero, List.set_cons_succ]
  refine takeD 11 (some 79) (.bool true) rfl rfl (by kernel_rfl) (by kernel_rfl) (by kernel_rfl) (by kernel_rfl) (fun _ _ _ h => h) (Or.inl ⟨by kernel_rfl, fun wx hSw => by go_simp⟩) hS ?_
  simp only [Act.put, List.setIfInBounds_toArray, List.set_cons_zero, List.set_cons_succ]
  refine takeD 12 (some 80) (.bool true) rfl rfl (by kernel_rfl) (by kernel_rfl) (by kernel_rfl) (by kernel_rfl) (fun _ _ _ h => h) (Or.inl ⟨by kernel_rfl, fun wx hSw => by go_simp⟩) hS ?_
  simp only [Act.put, List.setIfInBounds_toArray, List.set_cons_zero, List.set_cons_succ]
  refine takeD 13 (some 81) (.bool true) rfl rfl (by kernel_rfl) (by kernel_rfl) (by kernel_rfl) (by kernel_rfl) (fun _ _ _ h => h) (Or.inl ⟨by kernel_rfl, fun wx hSw => by go_simp⟩) hS ?_
  simp only [Act.put, List.setIfInBounds_toArray, List.set_cons_zero, List.set_cons_succ]
  refine takeD 14 (some 82) (.bool it) rfl rfl (by kernel_rfl) (by kernel_rfl) (by kernel_rfl) (by kernel_rfl) (fun _ _ _ h => h) (Or.inl ⟨by kernel_rfl, fun wx hSw => by go_simp⟩) hS ?_
  simp only [Act.put, List.setIfInBounds_toArray, List.set_cons_zero, List.set_cons_succ]
  refine takeD 15 (some 83) (.bool it) rfl rfl (by kernel_rfl) (by kernel_rfl) (by kernel_rfl) (by kernel_rfl) (fun _ _ _ h => h) (Or.inl ⟨by kernel_rfl, fun wx hSw => by go_simp⟩) hS ?_
  simp only [Act.put, List.setIfInBounds_toArray, List.set_cons_zero, List.set_cons_succ]
  refine takeD 16 (some 84) (.bool true) rfl rfl (by kernel_rfl) (by kernel_rfl) (by kernel_rfl) (by kernel_rfl) (fun _ _ _ h => h) (Or.inl ⟨by kernel_rfl, fun wx hSw => by go_simp⟩) hS ?_
  simp only [Act.put, List.setIfInBounds_toArray, List.set_cons_zero, List.set_cons_succ]
  refine takeD 17 (some 85) (.bool true) rfl rfl (by kernel_rfl) (by kernel_rfl) (by kernel_rfl) (by kernel_rfl) (fun _ _ _ h => h) (Or.inl ⟨by kernel_rfl, fun wx hSw => by go_simp⟩) hS ?_
  simp only [Act.put, List.setIfInBounds_toArray, List.set_cons_zero, List.set_cons_succ]
  refine takeD 18 (some 86) (.bool true) rfl rfl (by kernel_rfl) (by kernel_rfl) (by kernel_rfl) (by kernel_rfl) (fun _ _ _ h => h) (Or.inl ⟨by kernel_rfl, fun wx hSw => by go_simp⟩) hS ?_
  simp only [Act.put, List.setIfInBounds_toArray, List.set_cons_zero, List.set_cons_succ]
  refine takeD 19 (some 87) (.slice A1 n1 c1) rfl rfl (by kernel_rfl) (by kernel_rfl) (by kernel_rfl) (by kernel_rfl) (fun _ _ _ h => h) (Or.inl ⟨by kernel_rfl, fun wx hSw => by go_simp⟩) hS ?_
  simp only [Act.put, List.setIfInBounds_toArray, List.set_cons_zero, List.set_cons_succ]
  refine takeD 20 (some 88) (.slice A2 n2 c2) rfl rfl (by kernel_rfl) (by kernel_rfl) (by kernel_rfl) (by kernel_rfl) (fun _ _ _ h => h) (Or.inl ⟨by kernel_rfl, fun wx hSw => by go_simp⟩) hS ?_
  simp only [Act.put, List.setIfInBounds_toArray, List.set_cons_zero, List.set_cons_succ]
  refine oneT 21 (by kernel_rfl) rfl (fun K hK => ?_)
  go_simp
  refine (hs1 x2 hxx).mono ?_
  rintro e x3 ⟨rfl, hq3⟩
  have hxx := c_call hxx hq3
  refine hK.out _ _ (fun _ => hkeep _ hxx) ?_
  clear hK K hq3
  have hS := hkeep _ hxx
  refine takeD 22 (some 90) (.bool true) rfl rfl (by kernel_rfl) (by kernel_rfl) (by kernel_rfl) (by kernel_rfl) (fun _ _ _ h => h) (Or.inl ⟨by kernel_rfl, fun wx hSw => by go_simp⟩) hS ?_
  simp only [Act.put, List.setIfInBounds_toArray, List.set_cons_zero, List.set_cons_succ]
  refine takeD 23 (some 91) (.bool true) rfl rfl (by kernel_rfl) (by kernel_rfl) (by kernel_rfl) (by kernel_rfl) (fun _ _ _ h => h) (Or.inl ⟨by kernel_rfl, fun wx hSw => by go_simp⟩) hS ?_
  simp only [Act.put, List.setIfInBounds_toArray, List.set_cons_zero, List.set_cons_succ]
  refine takeD 24 (some 92) (.int .i64 pe) rfl rfl (by kernel_rfl) (by kernel_rfl) (by kernel_rfl) (by kernel_rfl) (fun _ _ _ h => h) (Or.inl ⟨by kernel_rfl, fun wx hSw => by go_simp⟩) hS ?_
  simp only [Act.put, List.setIfInBounds_toArray, List.set_cons_zero, List.set_cons_succ]
  refine takeD 25 (some 93) (.int .i64 pe) rfl rfl (by kernel_rfl) (by kernel_rfl) (by kernel_rfl) (by kernel_rfl) (fun _ _ _ h => h) (Or.inl ⟨by kernel_rfl, fun wx hSw => by go_simp⟩) hS ?_
  simp only [Act.put, List.setIfInBounds_toArray, List.set_cons_zero, List.set_cons_succ]
  refine takeD 26 (some 94) (.bool true) rfl rfl (by kernel_rfl) (by kernel_rfl) (by kernel_rfl) (by kernel_rfl) (fun _ _ _ h => h) (Or.inl ⟨by kernel_rfl, fun wx hSw => by go_simp⟩) hS ?_
  simp only [Act.put, List.setIfInBounds_toArray, List.set_cons_zero, List.set_cons_succ]
  refine takeD 27 (some 95) (.bool true) rfl rfl (by kernel_rfl) (by kernel_rfl) (by kernel_rfl) (by kernel_rfl) (fun _ _ _ h => h) (Or.inl ⟨by kernel_rfl, fun wx hSw => by go_simp⟩) hS ?_
  simp only [Act.put, List.setIfInBounds_toArray, List.set_cons_zero, List.set_cons_succ]
  refine takeD 28 (some 96) (.bool true) rfl rfl (by kernel_rfl) (by kernel_rfl) (by kernel_rfl) (by kernel_rfl) (fun _ _ _ h => h) (Or.inl ⟨by kernel_rfl, fun wx hSw => by go_simp⟩) hS ?_
  simp only [Act.put, List.setIfInBounds_toArray, List.set_cons_zero, List.set_cons_succ]
  refine takeD 29 (some 97) (.slice A3 n3 c3) rfl rfl (by kernel_rfl) (by kernel_rfl) (by kernel_rfl) (by kernel_rfl) (fun _ _ _ h => h) (Or.inl ⟨by kernel_rfl, fun wx hSw => by go_simp⟩) hS ?_
  simp only [Act.put, List.setIfInBounds_toArray, List.set_cons_zero, List.set_cons_succ]
  refine takeD 30 (some 98) (.slice A4 n4 c4) rfl rfl (by kernel_rfl) (by kernel_rfl) (by kernel_rfl) (by kernel_rfl) (fun _ _ _ h => h) (Or.inl ⟨by kernel_rfl, fun wx hSw => by go_simp⟩) hS ?_
  simp only [Act.put, List.setIfInBounds_toArray, List.set_cons_zero, List.set_cons_succ]
  refine oneT 31 (by kernel_rfl) rfl (fun K hK => ?_)
  go_simp
  refine (hs2 x3 hxx).mono ?_
  rintro e x4 ⟨rfl, hq4⟩
  have hxx := c_call hxx hq4
  refine hK.out _ _ (fun _ => hkeep _ hxx) ?_
  clear hK K hq4
  have hS := hkeep _ hxx
  refine takeD 32 (some 100) (.bool true) rfl rfl (by kernel_rfl) (by kernel_rfl) (by kernel_rfl) (by kernel_rfl) (fun _ _ _ h => h) (Or.inl ⟨by kernel_rfl, fun wx hSw => by go_simp⟩) hS ?_
  simp only [Act.put, List.setIfInBounds_toArray, List.set_cons_zero, List.set_cons_succ]
  refine takeD 33 (some 101) (.bool true) rfl rfl (by kernel_rfl) (by kernel_rfl) (by kernel_rfl) (by kernel_rfl) (fun _ _ _ h => h) (Or.inl ⟨by kernel_rfl, fun wx hSw => by go_simp⟩) hS ?_
  simp only [Act.put, List.setIfInBounds_toArray, List.set_cons_zero, List.set_cons_succ]
  refine takeD 34 (some 102) (.int .i64 se) rfl rfl (by kernel_rfl) (by kernel_rfl) (by kernel_rfl) (by kernel_rfl) (fun _ _ _ h => h) (Or.inl ⟨by kernel_rfl, fun wx hSw => by go_simp⟩) hS ?_
  simp only [Act.put, List.setIfInBounds_toArray, List.set_cons_zero, List.set_cons_succ]
  refine takeD 35 (some 103) (.int .i64 se) rfl rfl (by kernel_rfl) (by kernel_rfl) (by kernel_rfl) (by kernel_rfl) (fun _ _ _ h => h) (Or.inl ⟨by kernel_rfl, fun wx hSw => by go_simp⟩) hS ?_
  simp only [Act.put, List.setIfInBounds_toArray, List.set_cons_zero, List.set_cons_succ]
  refine takeD 36 (some 104) (.bool true) rfl rfl (by kernel_rfl) (by kernel_rfl) (by kernel_rfl) (by kernel_rfl) (fun _ _ _ h => h) (Or.inl ⟨by kernel_rfl, fun wx hSw => by go_simp⟩) hS ?_
  simp only [Act.put, List.setIfInBounds_toArray, List.set_cons_zero, List.set_cons_succ]
  refine takeD 37 (some 105) (.bool true) rfl rfl (by kernel_rfl) (by kernel_rfl) (by kernel_rfl) (by kernel_rfl) (fun _ _ _ h => h) (Or.inl ⟨by kernel_rfl, fun wx hSw => by go_simp⟩) hS ?_
  simp only [Act.put, List.setIfInBounds_toArray, List.set_cons_zero, List.set_cons_succ]
  refine takeD 38 (some 106) (.bool true) rfl rfl (by kernel_rfl) (by kernel_rfl) (by kernel_rfl) (by kernel_rfl) (fun _ _ _ h => h) (Or.inl ⟨by kernel_rfl, fun wx hSw => by go_simp⟩) hS ?_
  simp only [Act.put, List.setIfInBounds_toArray, List.set_cons_zero, List.set_cons_succ]
  refine loadT 39 (some 107) 25 (.tmp 4) w.heap.size 0 sv.toList rfl rfl (by kernel_rfl) (by kernel_rfl) (by kernel_rfl) (by kernel_rfl) rfl (by kernel_rfl) rfl (fun wx hSw => hSw.1) hun rfl hz1 (fun _ _ _ h => h) hS ?_
  simp only [Act.put, List.setIfInBounds_toArray, List.set_cons_zero, List.set_cons_succ, Array.toArray_toList]
  refine loadT 40 (some 108) 25 (.tmp 5) (w.heap.size + 1) 0 sv'.toList rfl rfl (by kernel_rfl) (by kernel_rfl) (by kernel_rfl) (by kernel_rfl) rfl (by kernel_rfl) rfl (fun wx hSw => hSw.2) hun rfl hz2 (fun _ _ _ h => h) hS ?_
  simp only [Act.put, List.setIfInBounds_toArray, List.set_cons_zero, List.set_cons_succ, Array.toArray_toList]
  refine loadT 42 (some 110) 25 (.tmp 4) w.heap.size 0 sv.toList rfl rfl (by kernel_rfl) (by kernel_rfl) (by kernel_rfl) (by kernel_rfl) rfl (by kernel_rfl) rfl (fun wx hSw => hSw.1) hun rfl hz1 (fun _ _ _ h => h) hS ?_
  simp only [Act.put, List.setIfInBounds_toArray, List.set_cons_zero, List.set_cons_succ, Array.toArray_toList]
  refine loadT 43 (some 111) 25 (.tmp 5) (w.heap.size + 1) 0 sv'.toList rfl rfl (by kernel_rfl) (by kernel_rfl) (by kernel_rfl) (by kernel_rfl) rfl (by kernel_rfl) rfl (fun wx hSw => hSw.2) hun rfl hz2 (fun _ _ _ h => h) hS ?_
  simp only [Act.put, List.setIfInBounds_toArray, List.set_cons_zero, List.set_cons_succ, Array.toArray_toList]
  refine oneT 41 (by kernel_rfl) rfl (fun K hK => ?_)
  go_simp
  refine (hh x4 (c_call hw9 hxx)).mono ?_
  rintro e x5 ⟨rfl, hq5⟩
  have hxx := c_call hxx hq5
  refine hK.out _ _ (fun _ => hkeep _ hxx) ?_
  clear hK K hq5
  have hS := hkeep _ hxx
  refine oneT 44 (by kernel_rfl) rfl (fun K hK => ?_)
  go_simp
  refine (hmb x5 (c_call hw9 hxx)).mono ?_
  rintro e x6 ⟨rfl, hq6⟩
  have hxx := c_call hxx hq6
  refine hK.out _ _ (fun _ => hkeep _ hxx) ?_
  clear hK K hq6
  have hS := hkeep _ hxx
  refine takeD 45 (some 113) (.bool true) rfl rfl (by kernel_rfl) (by kernel_rfl) (by kernel_rfl) (by kernel_rfl) (fun _ _ _ h => h) (Or.inl ⟨by kernel_rfl, fun wx hSw => by go_simp⟩) hS ?_
  simp only [Act.put, List.setIfInBounds_toArray, List.set_cons_zero, List.set_cons_succ]
  refine takeD 46 (some 114) (.bool true) rfl rfl (by kernel_rfl) (by kernel_rfl) (by kernel_rfl) (by kernel_rfl) (fun _ _ _ h => h) (Or.inl ⟨by kernel_rfl, fun wx hSw => by go_simp⟩) hS ?_
  simp only [Act.put, List.setIfInBounds_toArray, List.set_cons_zero, List.set_cons_succ]
  refine oneT 47 (by kernel_rfl) rfl (fun K hK => ?_)
  go_simp
  refine hK.out _ _ (fun _ => hS) ?_
  clear hK K
  refine doneT (by kernel_rfl) ?_ _
  go_wp2_with fail
  go_ret
  exact ⟨rfl, c_call hw9 hxx⟩

end Go.Proofs.Ytjhcnhihmgpgbaa

