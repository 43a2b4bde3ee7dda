import Derived.Test.YtgjeamapgdakcaaDoorG37
/-
  CONTRACT of the program's Next (draw).
-/
set_option linter.unusedVariables false
namespace Go.Proofs.YtgjeamapgdakcaaDoor
open Go.RowKit

theorem drC_set {s : List UInt8} {N M : Nat} (h : s.length = 32) : (drC s N).setIfInBounds 32 (.int .u64 (M : Int)) = drC s M := by
  apply Array.ext'
  rw [Array.toList_setIfInBounds, drC_list, drC_list, List.set_append_right _ _ (by simp [h])]
  simp [h]
theorem PDNextS (s : List UInt8) (N : Nat) (w : World) (hs : s.length = 32) (hN : N < 18446744073709551616) (hT : CTab w) :
    Calls Tryd.prog 24 #[.agg (drC s N), .string ⟨#[100, 114, 97, 119]⟩, .slice none 0 0] w fun e w' => e = .returned (.tuple #[.agg (keyC (drawU s N)), .int .i64 0]) ∧ Below w.heap.size w w' := by
  refine (PDDerived s N ⟨#[100, 114, 97, 119]⟩ none 0 0 [] [] w hs hN (by decide) (by omega) (Nat.le_refl _) (Rd.zero _ _ _) (Txs.nil _ _) hT).mono ?_
  rintro e w' ⟨kk, er, rfl, hkl, ⟨_, rfl, rfl⟩ | ⟨h, _⟩, hb⟩
  · exact ⟨rfl, hb⟩
  · exact absurd (fit_draw N) h

set_option maxRecDepth 100000 in
set_option maxHeartbeats 4000000 in
theorem PDNext : HPX := by
  intro s N w hs hN hT
  have hM0 := (((Ms.nil w).box 27 (drC s N)).box 24 #[.int .u8 0, .int .u8 0, .int .u8 0, .int .u8 0, .int .u8 0, .int .u8 0, .int .u8 0, .int .u8 0, .int .u8 0, .int .u8 0, .int .u8 0, .int .u8 0, .int .u8 0, .int .u8 0, .int .u8 0, .int .u8 0, .int .u8 0, .int .u8 0, .int .u8 0, .int .u8 0, .int .u8 0, .int .u8 0, .int .u8 0, .int .u8 0, .int .u8 0, .int .u8 0, .int .u8 0, .int .u8 0, .int .u8 0, .int .u8 0, .int .u8 0, .int .u8 0]).box 27 #[.int .u8 0, .int .u8 0, .int .u8 0, .int .u8 0, .int .u8 0, .int .u8 0, .int .u8 0, .int .u8 0, .int .u8 0, .int .u8 0, .int .u8 0, .int .u8 0, .int .u8 0, .int .u8 0, .int .u8 0, .int .u8 0, .int .u8 0, .int .u8 0, .int .u8 0, .int .u8 0, .int .u8 0, .int .u8 0, .int .u8 0, .int .u8 0, .int .u8 0, .int .u8 0, .int .u8 0, .int .u8 0, .int .u8 0, .int .u8 0, .int .u8 0, .int .u8 0, .int .u64 0]
  simp only [World.size_alloc] at hM0
  have Hs := Lib.hid hs
  have HN := Lib.hid hN
  have Hsd := Lib.hid (sizeDr N hs)
  have Hsk0 := Lib.hid (sizeKey zeroD_len)
  have Hok0 := Lib.hid (one_keyF zeroD)
  have Hsd0 := Lib.hid (sizeDr (s := zeroD) 0 rfl)
  have Hod0 := Lib.hid (one_dr zeroD 0)
  rw [keyZD] at Hsk0 Hok0
  rw [drZ] at Hsd0 Hod0
  have hck := fun wx => PDCheck s N wx hs hN
  have Hv1 := Lib.hid (show ∀ er : Int, errN N = er → er ≠ 0 → nextV s N = .tuple #[.agg #[.int .u8 0, .int .u8 0, .int .u8 0, .int .u8 0, .int .u8 0, .int .u8 0, .int .u8 0, .int .u8 0, .int .u8 0, .int .u8 0, .int .u8 0, .int .u8 0, .int .u8 0, .int .u8 0, .int .u8 0, .int .u8 0, .int .u8 0, .int .u8 0, .int .u8 0, .int .u8 0, .int .u8 0, .int .u8 0, .int .u8 0, .int .u8 0, .int .u8 0, .int .u8 0, .int .u8 0, .int .u8 0, .int .u8 0, .int .u8 0, .int .u8 0, .int .u8 0], .agg #[.int .u8 0, .int .u8 0, .int .u8 0, .int .u8 0, .int .u8 0, .int .u8 0, .int .u8 0, .int .u8 0, .int .u8 0, .int .u8 0, .int .u8 0, .int .u8 0, .int .u8 0, .int .u8 0, .int .u8 0, .int .u8 0, .int .u8 0, .int .u8 0, .int .u8 0, .int .u8 0, .int .u8 0, .int .u8 0, .int .u8 0, .int .u8 0, .int .u8 0, .int .u8 0, .int .u8 0, .int .u8 0, .int .u8 0, .int .u8 0, .int .u8 0, .int .u8 0, .int .u64 0], .int .i64 er] from fun er h h0 => by
    rw [nextV, if_neg (by rw [h]; exact h0), h, drZ]
    rfl)
  clear hs hN
  go_enter Tryd.func11, Tryd.ntmps11
  by_cases h1 : 4294967296 < N
  · have hc1 : chkV N = 1 := by rw [chkV, if_pos h1]
    rw [hc1] at hck
    go_wp2_with ((with_reducible show wpList _ _ _ (⟨some 8, _, _, _, _, _⟩ :: _) _ _); refine wpList_loadC (by kernel_rfl) 27 (.tmp 1) rfl (w.heap.size) rfl 27 (drC s N) _ (hM0.get 2 rfl) Tryd.underlying27 rfl Hsd.out ?_)
    refine (hck _).mono ?_
    rintro e w1 ⟨rfl, hb1⟩
    have hM1 := hM0.call hb1
    clear hM0 hb1
    have He := Hv1.out 1 (by rw [errN, if_pos h1]) (by decide)
    go_wp2_with (first
      | ((with_reducible show wpList _ _ _ (⟨none, Op.store 24 _ _, _, _, _, _⟩ :: _) _ _); refine wpList_store_row rfl 24 (.tmp 2) (.tmp 12) rfl (w.heap.size + 1) #[.int .u8 0, .int .u8 0, .int .u8 0, .int .u8 0, .int .u8 0, .int .u8 0, .int .u8 0, .int .u8 0, .int .u8 0, .int .u8 0, .int .u8 0, .int .u8 0, .int .u8 0, .int .u8 0, .int .u8 0, .int .u8 0, .int .u8 0, .int .u8 0, .int .u8 0, .int .u8 0, .int .u8 0, .int .u8 0, .int .u8 0, .int .u8 0, .int .u8 0, .int .u8 0, .int .u8 0, .int .u8 0, .int .u8 0, .int .u8 0, .int .u8 0, .int .u8 0] rfl rfl 24 _ (hM1.get 1 rfl) Hsk0.out rfl Hok0.out ?_)
      | ((with_reducible show wpList _ _ _ (⟨none, Op.store 27 _ _, _, _, _, _⟩ :: _) _ _); refine wpList_store_row rfl 27 (.tmp 3) (.tmp 13) rfl (w.heap.size + 1 + 1) #[.int .u8 0, .int .u8 0, .int .u8 0, .int .u8 0, .int .u8 0, .int .u8 0, .int .u8 0, .int .u8 0, .int .u8 0, .int .u8 0, .int .u8 0, .int .u8 0, .int .u8 0, .int .u8 0, .int .u8 0, .int .u8 0, .int .u8 0, .int .u8 0, .int .u8 0, .int .u8 0, .int .u8 0, .int .u8 0, .int .u8 0, .int .u8 0, .int .u8 0, .int .u8 0, .int .u8 0, .int .u8 0, .int .u8 0, .int .u8 0, .int .u8 0, .int .u8 0, .int .u64 0] rfl rfl 27 _ ((hM1.get 0 rfl).rowFar (by omega) _) Hsd0.out rfl Hod0.out ?_))
    exact bodyPost_ret (results_ccT rfl _ _ (w.heap.size + 1) (w.heap.size + 1 + 1) 24 27 #[.int .u8 0, .int .u8 0, .int .u8 0, .int .u8 0, .int .u8 0, .int .u8 0, .int .u8 0, .int .u8 0, .int .u8 0, .int .u8 0, .int .u8 0, .int .u8 0, .int .u8 0, .int .u8 0, .int .u8 0, .int .u8 0, .int .u8 0, .int .u8 0, .int .u8 0, .int .u8 0, .int .u8 0, .int .u8 0, .int .u8 0, .int .u8 0, .int .u8 0, .int .u8 0, .int .u8 0, .int .u8 0, .int .u8 0, .int .u8 0, .int .u8 0, .int .u8 0] #[.int .u8 0, .int .u8 0, .int .u8 0, .int .u8 0, .int .u8 0, .int .u8 0, .int .u8 0, .int .u8 0, .int .u8 0, .int .u8 0, .int .u8 0, .int .u8 0, .int .u8 0, .int .u8 0, .int .u8 0, .int .u8 0, .int .u8 0, .int .u8 0, .int .u8 0, .int .u8 0, .int .u8 0, .int .u8 0, .int .u8 0, .int .u8 0, .int .u8 0, .int .u8 0, .int .u8 0, .int .u8 0, .int .u8 0, .int .u8 0, .int .u8 0, .int .u8 0, .int .u64 0] _ _ rfl (((hM1.get 1 rfl).row _).rowFar (by omega) _) rfl (((hM1.get 0 rfl).rowFar (by omega) _).row _) Tryd.underlying24 rfl Tryd.underlying27 rfl Hsk0.out Hsd0.out) rfl ⟨by rw [He]; rfl, below_setRow (below_setRow hM1.old (by omega) _) (by omega) _⟩
  have hc1 : chkV N = 0 := by rw [chkV, if_neg h1]
  rw [hc1] at hck
  go_wp2_with ((with_reducible show wpList _ _ _ (⟨some 8, _, _, _, _, _⟩ :: _) _ _); refine wpList_loadC (by kernel_rfl) 27 (.tmp 1) rfl (w.heap.size) rfl 27 (drC s N) _ (hM0.get 2 rfl) Tryd.underlying27 rfl Hsd.out ?_)
  refine (hck _).mono ?_
  rintro e w1 ⟨rfl, hb1⟩
  have hM1 := hM0.call hb1
  clear hM0 hb1
  have hn1 := (hM1.get 2 rfl).nth Hs.out
  by_cases h2 : N = 4294967296
  · have He := Hv1.out 8 (by rw [errN, if_neg h1, if_pos h2]) (by decide)
    have h2' : (N : Int) = 4294967296 := by omega
    go_wp2_with (first
      | ((with_reducible show wpList _ _ _ (⟨none, Op.store 24 _ _, _, _, _, _⟩ :: _) _ _); refine wpList_store_row rfl 24 (.tmp 2) (.tmp 18) rfl (w.heap.size + 1) #[.int .u8 0, .int .u8 0, .int .u8 0, .int .u8 0, .int .u8 0, .int .u8 0, .int .u8 0, .int .u8 0, .int .u8 0, .int .u8 0, .int .u8 0, .int .u8 0, .int .u8 0, .int .u8 0, .int .u8 0, .int .u8 0, .int .u8 0, .int .u8 0, .int .u8 0, .int .u8 0, .int .u8 0, .int .u8 0, .int .u8 0, .int .u8 0, .int .u8 0, .int .u8 0, .int .u8 0, .int .u8 0, .int .u8 0, .int .u8 0, .int .u8 0, .int .u8 0] rfl rfl 24 _ (hM1.get 1 rfl) Hsk0.out rfl Hok0.out ?_)
      | ((with_reducible show wpList _ _ _ (⟨none, Op.store 27 _ _, _, _, _, _⟩ :: _) _ _); refine wpList_store_row rfl 27 (.tmp 3) (.tmp 19) rfl (w.heap.size + 1 + 1) #[.int .u8 0, .int .u8 0, .int .u8 0, .int .u8 0, .int .u8 0, .int .u8 0, .int .u8 0, .int .u8 0, .int .u8 0, .int .u8 0, .int .u8 0, .int .u8 0, .int .u8 0, .int .u8 0, .int .u8 0, .int .u8 0, .int .u8 0, .int .u8 0, .int .u8 0, .int .u8 0, .int .u8 0, .int .u8 0, .int .u8 0, .int .u8 0, .int .u8 0, .int .u8 0, .int .u8 0, .int .u8 0, .int .u8 0, .int .u8 0, .int .u8 0, .int .u8 0, .int .u64 0] rfl rfl 27 _ ((hM1.get 0 rfl).rowFar (by omega) _) Hsd0.out rfl Hod0.out ?_))
    exact bodyPost_ret (results_ccT rfl _ _ (w.heap.size + 1) (w.heap.size + 1 + 1) 24 27 #[.int .u8 0, .int .u8 0, .int .u8 0, .int .u8 0, .int .u8 0, .int .u8 0, .int .u8 0, .int .u8 0, .int .u8 0, .int .u8 0, .int .u8 0, .int .u8 0, .int .u8 0, .int .u8 0, .int .u8 0, .int .u8 0, .int .u8 0, .int .u8 0, .int .u8 0, .int .u8 0, .int .u8 0, .int .u8 0, .int .u8 0, .int .u8 0, .int .u8 0, .int .u8 0, .int .u8 0, .int .u8 0, .int .u8 0, .int .u8 0, .int .u8 0, .int .u8 0] #[.int .u8 0, .int .u8 0, .int .u8 0, .int .u8 0, .int .u8 0, .int .u8 0, .int .u8 0, .int .u8 0, .int .u8 0, .int .u8 0, .int .u8 0, .int .u8 0, .int .u8 0, .int .u8 0, .int .u8 0, .int .u8 0, .int .u8 0, .int .u8 0, .int .u8 0, .int .u8 0, .int .u8 0, .int .u8 0, .int .u8 0, .int .u8 0, .int .u8 0, .int .u8 0, .int .u8 0, .int .u8 0, .int .u8 0, .int .u8 0, .int .u8 0, .int .u8 0, .int .u64 0] _ _ rfl (((hM1.get 1 rfl).row _).rowFar (by omega) _) rfl (((hM1.get 0 rfl).rowFar (by omega) _).row _) Tryd.underlying24 rfl Tryd.underlying27 rfl Hsk0.out Hsd0.out) rfl ⟨by rw [He]; rfl, below_setRow (below_setRow hM1.old (by omega) _) (by omega) _⟩
  have h2' : ¬ (N : Int) = 4294967296 := by omega
  have Hfin := Lib.hid (show nextV s N = .tuple #[.agg (keyC (drawU s N)), .agg (drC s (N + 1)), .int .i64 0] by rw [nextV, if_pos (by rw [errN, if_neg h1, if_neg h2])]; rfl)
  have hdr := fun wx (h : CTab wx) => PDNextS s N wx Hs.out HN.out h
  have Hsk := Lib.hid (sizeKey (drawU_len s N))
  have Hok := Lib.hid (one_keyF (drawU s N))
  have Hzk := Lib.hid (show (#[.int .u8 0, .int .u8 0, .int .u8 0, .int .u8 0, .int .u8 0, .int .u8 0, .int .u8 0, .int .u8 0, .int .u8 0, .int .u8 0, .int .u8 0, .int .u8 0, .int .u8 0, .int .u8 0, .int .u8 0, .int .u8 0, .int .u8 0, .int .u8 0, .int .u8 0, .int .u8 0, .int .u8 0, .int .u8 0, .int .u8 0, .int .u8 0, .int .u8 0, .int .u8 0, .int .u8 0, .int .u8 0, .int .u8 0, .int .u8 0, .int .u8 0, .int .u8 0] : Array Value).size = (keyC (drawU s N)).size by rw [keyC_size, drawU_len]; rfl)
  obtain ⟨N', hN'⟩ : ∃ N', N' = N + 1 := ⟨_, rfl⟩
  have e1 : (N : Int) + 1 = (N' : Int) := by omega
  have e2 : IntKind.u64.wrap (N' : Int) = (N' : Int) := by rw [IntKind.wrap_u64]; omega
  have Hsn := Lib.hid (sizeDr N' Hs.out)
  have Hon := Lib.hid (one_dr s N')
  have Hzn := Lib.hid (show (#[.int .u8 0, .int .u8 0, .int .u8 0, .int .u8 0, .int .u8 0, .int .u8 0, .int .u8 0, .int .u8 0, .int .u8 0, .int .u8 0, .int .u8 0, .int .u8 0, .int .u8 0, .int .u8 0, .int .u8 0, .int .u8 0, .int .u8 0, .int .u8 0, .int .u8 0, .int .u8 0, .int .u8 0, .int .u8 0, .int .u8 0, .int .u8 0, .int .u8 0, .int .u8 0, .int .u8 0, .int .u8 0, .int .u8 0, .int .u8 0, .int .u8 0, .int .u8 0, .int .u64 0] : Array Value).size = (drC s N').size by rw [drC_size N' Hs.out]; rfl)
  have Hst := Lib.hid (drC_set (N := N) (M := N') Hs.out)
  rw [← hN'] at Hfin
  clear h1 h2 hN' hc1 hck HN
  generalize drawU s N = kk at *
  go_wp2_with ((with_reducible show wpList _ _ _ (⟨some 21, _, _, _, _, _⟩ :: _) _ _); refine wpList_loadC (by kernel_rfl) 27 (.tmp 1) rfl (w.heap.size) rfl 27 (drC s N) _ (hM1.get 2 rfl) Tryd.underlying27 rfl Hsd.out ?_)
  refine (hdr _ (hT.below hM1.old)).mono ?_
  rintro e w2 ⟨rfl, hb2⟩
  have hM2 := hM1.call hb2
  have hg2 := hM2.old.size
  have hlt2 := (hM2.get 0 rfl).lt
  have hP2 := hM2.put 24 #[.int .u8 0, .int .u8 0, .int .u8 0, .int .u8 0, .int .u8 0, .int .u8 0, .int .u8 0, .int .u8 0, .int .u8 0, .int .u8 0, .int .u8 0, .int .u8 0, .int .u8 0, .int .u8 0, .int .u8 0, .int .u8 0, .int .u8 0, .int .u8 0, .int .u8 0, .int .u8 0, .int .u8 0, .int .u8 0, .int .u8 0, .int .u8 0, .int .u8 0, .int .u8 0, .int .u8 0, .int .u8 0, .int .u8 0, .int .u8 0, .int .u8 0, .int .u8 0] (keyC kk)
  clear hM1 hb2 hn1 hdr hM2
  go_upto_region 9 with ((with_reducible show wpList _ _ _ (⟨none, Op.store 24 _ _, _, _, _, _⟩ :: _) _ _); refine wpList_store_row rfl 24 (.tmp 6) (.tmp 23) rfl (w2.heap.size) (keyC kk) rfl rfl 24 _ (RowC.new _ _ _) Hsk.out Hzk.out Hok.out ?_)
  try simp only [Act.put]
  refine wp_gen (fun wx => Ms w wx [(w2.heap.size, 24, keyC kk), (w.heap.size + 1 + 1, 27, #[.int .u8 0, .int .u8 0, .int .u8 0, .int .u8 0, .int .u8 0, .int .u8 0, .int .u8 0, .int .u8 0, .int .u8 0, .int .u8 0, .int .u8 0, .int .u8 0, .int .u8 0, .int .u8 0, .int .u8 0, .int .u8 0, .int .u8 0, .int .u8 0, .int .u8 0, .int .u8 0, .int .u8 0, .int .u8 0, .int .u8 0, .int .u8 0, .int .u8 0, .int .u8 0, .int .u8 0, .int .u8 0, .int .u8 0, .int .u8 0, .int .u8 0, .int .u8 0, .int .u64 0]), (w.heap.size + 1, 24, #[.int .u8 0, .int .u8 0, .int .u8 0, .int .u8 0, .int .u8 0, .int .u8 0, .int .u8 0, .int .u8 0, .int .u8 0, .int .u8 0, .int .u8 0, .int .u8 0, .int .u8 0, .int .u8 0, .int .u8 0, .int .u8 0, .int .u8 0, .int .u8 0, .int .u8 0, .int .u8 0, .int .u8 0, .int .u8 0, .int .u8 0, .int .u8 0, .int .u8 0, .int .u8 0, .int .u8 0, .int .u8 0, .int .u8 0, .int .u8 0, .int .u8 0, .int .u8 0]), (w.heap.size, 27, (drC s N))]) hP2 ?_
  clear hP2
  rintro v1 hM
  obtain ⟨g6, hg6⟩ : ∃ g, g = w2.heap.size := ⟨_, rfl⟩
  rw [← hg6] at hM hlt2 ⊢
  clear hg6
  have hcn := (hM.get 3 rfl).nth Hs.out
  have hfn := (hM.get 3 rfl).frozen 32
  have hM3 := Ms.setCell (Ms.sub (L' := [(w.heap.size, 27, drC s N), (g6, 24, keyC kk), (w.heap.size + 1 + 1, 27, #[.int .u8 0, .int .u8 0, .int .u8 0, .int .u8 0, .int .u8 0, .int .u8 0, .int .u8 0, .int .u8 0, .int .u8 0, .int .u8 0, .int .u8 0, .int .u8 0, .int .u8 0, .int .u8 0, .int .u8 0, .int .u8 0, .int .u8 0, .int .u8 0, .int .u8 0, .int .u8 0, .int .u8 0, .int .u8 0, .int .u8 0, .int .u8 0, .int .u8 0, .int .u8 0, .int .u8 0, .int .u8 0, .int .u8 0, .int .u8 0, .int .u8 0, .int .u8 0, .int .u64 0]), (w.heap.size + 1, 24, #[.int .u8 0, .int .u8 0, .int .u8 0, .int .u8 0, .int .u8 0, .int .u8 0, .int .u8 0, .int .u8 0, .int .u8 0, .int .u8 0, .int .u8 0, .int .u8 0, .int .u8 0, .int .u8 0, .int .u8 0, .int .u8 0, .int .u8 0, .int .u8 0, .int .u8 0, .int .u8 0, .int .u8 0, .int .u8 0, .int .u8 0, .int .u8 0, .int .u8 0, .int .u8 0, .int .u8 0, .int .u8 0, .int .u8 0, .int .u8 0, .int .u8 0, .int .u8 0])]) hM (fun p hp => by simp at hp; rcases hp with rfl | rfl | rfl | rfl <;> simp)) (Nat.le_refl _) (fun p hp => by simp at hp; rcases hp with rfl | rfl | rfl <;> simp <;> omega) 32 (.int .u64 (N' : Int))
  rw [Hst.out] at hM3
  clear hM
  go_upto_region 10 with fail
  try simp only [Act.put]
  refine wp_gen (fun wx => Ms w wx [(w.heap.size, 27, drC s N'), (g6, 24, keyC kk), (w.heap.size + 1 + 1, 27, #[.int .u8 0, .int .u8 0, .int .u8 0, .int .u8 0, .int .u8 0, .int .u8 0, .int .u8 0, .int .u8 0, .int .u8 0, .int .u8 0, .int .u8 0, .int .u8 0, .int .u8 0, .int .u8 0, .int .u8 0, .int .u8 0, .int .u8 0, .int .u8 0, .int .u8 0, .int .u8 0, .int .u8 0, .int .u8 0, .int .u8 0, .int .u8 0, .int .u8 0, .int .u8 0, .int .u8 0, .int .u8 0, .int .u8 0, .int .u8 0, .int .u8 0, .int .u8 0, .int .u64 0]), (w.heap.size + 1, 24, #[.int .u8 0, .int .u8 0, .int .u8 0, .int .u8 0, .int .u8 0, .int .u8 0, .int .u8 0, .int .u8 0, .int .u8 0, .int .u8 0, .int .u8 0, .int .u8 0, .int .u8 0, .int .u8 0, .int .u8 0, .int .u8 0, .int .u8 0, .int .u8 0, .int .u8 0, .int .u8 0, .int .u8 0, .int .u8 0, .int .u8 0, .int .u8 0, .int .u8 0, .int .u8 0, .int .u8 0, .int .u8 0, .int .u8 0, .int .u8 0, .int .u8 0, .int .u8 0])]) hM3 ?_
  clear hM3 hcn hfn
  rintro v2 hM
  have hun := Tryd.underlying24
  have hud := Tryd.underlying27
  have hsk : (Tryd.prog.info? 24).map (·.size) = some (keyC kk).toList.length := by simpa using Hsk.out
  have hsd : (Tryd.prog.info? 27).map (·.size) = some (drC s N').toList.length := by simpa using Hsn.out
  have hkeep : ∀ wx : World, Below v2.heap.size v2 wx → wx.rangeAt g6 0 (keyC kk).toList ∧ wx.rangeAt w.heap.size 0 (drC s N').toList := fun wx hb => ⟨((hM.get 1 rfl).call hb).range, ((hM.get 0 rfl).call hb).range⟩
  have hM9 := hM.drew
  refine beginT (fun wx => wx.rangeAt g6 0 (keyC kk).toList ∧ wx.rangeAt w.heap.size 0 (drC s N').toList) 4 (by kernel_rfl) ?_
  have hS := hkeep _ (c_drew (c_refl _))
  refine loadT 0 (some 34) 24 (.tmp 6) g6 0 (keyC kk).toList rfl rfl (by kernel_rfl) (by kernel_rfl) (by kernel_rfl) (by kernel_rfl) rfl (by kernel_rfl) rfl (fun wx hSw => hSw.1) hun rfl hsk (fun _ _ _ h => h) hS ?_
  simp only [Act.put, List.setIfInBounds_toArray, List.set_cons_zero, List.set_cons_succ, Array.toArray_toList]
  refine loadT 1 (some 35) 27 (.tmp 1) w.heap.size 0 (drC s N').toList rfl rfl (by kernel_rfl) (by kernel_rfl) (by kernel_rfl) (by kernel_rfl) rfl (by kernel_rfl) rfl (fun wx hSw => hSw.2) hud rfl hsd (fun _ _ _ h => h) hS ?_
  simp only [Act.put, List.setIfInBounds_toArray, List.set_cons_zero, List.set_cons_succ, Array.toArray_toList]
  have q1 : g6 ≠ w.heap.size + 1 := by omega
  have q2 : w.heap.size ≠ w.heap.size + 1 := by omega
  have q3 : g6 ≠ w.heap.size + 1 + 1 := by omega
  have q4 : w.heap.size ≠ w.heap.size + 1 + 1 := by omega
  refine oneT 2 (by kernel_rfl) rfl (fun K hK => ?_)
  refine step_store_row rfl 24 (.tmp 2) (.tmp 34) rfl (w.heap.size + 1) (keyC kk) rfl rfl 24 _ (hM9.get 3 rfl) Hsk.out Hzk.out Hok.out ?_
  refine hK.out _ _ (fun _ => ⟨((hM9.get 1 rfl).rowFar q1 _).range, ((hM9.get 0 rfl).rowFar q2 _).range⟩) ?_
  clear hK K
  refine oneT 3 (by kernel_rfl) rfl (fun K hK => ?_)
  refine step_store_row rfl 27 (.tmp 3) (.tmp 35) rfl (w.heap.size + 1 + 1) (drC s N') rfl rfl 27 _ ((hM9.get 2 rfl).rowFar (by omega) _) Hsn.out Hzn.out Hon.out ?_
  refine hK.out _ _ (fun _ => ⟨(((hM9.get 1 rfl).rowFar q1 _).rowFar q3 _).range, (((hM9.get 0 rfl).rowFar q2 _).rowFar q4 _).range⟩) ?_
  clear hK K
  refine oneT 4 (by kernel_rfl) rfl (fun K hK => ?_)
  go_simp
  refine hK.out _ _ (fun _ => ⟨(((hM9.get 1 rfl).rowFar q1 _).rowFar q3 _).range, (((hM9.get 0 rfl).rowFar q2 _).rowFar q4 _).range⟩) ?_
  clear hK K
  refine doneT (by kernel_rfl) ?_ _
  go_wp2_with fail
  exact bodyPost_ret (results_ccT rfl _ _ (w.heap.size + 1) (w.heap.size + 1 + 1) 24 27 (keyC kk) (drC s N') _ _ rfl (((hM9.get 3 rfl).row _).rowFar (by omega) _) rfl (((hM9.get 2 rfl).rowFar (by omega) _).row _) Tryd.underlying24 rfl Tryd.underlying27 rfl Hsk.out Hsn.out) rfl ⟨by rw [Hfin.out]; rfl, below_setRow (below_setRow hM9.old (by omega) _) (by omega) _⟩

end Go.Proofs.YtgjeamapgdakcaaDoor

