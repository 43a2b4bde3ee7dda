import Derived.Test.YtgjeamapgdakcaaDoorG34
/-
  THE WALK of DrawEnds (coterielaw09), over what the program's calls answer.
-/
set_option linter.unusedVariables false
namespace Go.Proofs.YtgjeamapgdakcaaDoor
open Go.RowKit

set_option maxRecDepth 100000 in
set_option maxHeartbeats 4000000 in
theorem walkH_DrawEnds (hN : HPN) (hC : HPC) (hX : HPX) (s : List UInt8) (N : Nat) (w : World) (hs : s.length = 32) (hb : N < 18446744073709551616) (hT : CTab w) :
    Calls Tryd.prog 5 #[.agg (keyC s), .int .u64 (N : Int)] w fun e w' => e = .returned (.bool true) ∧ Below w.heap.size w w' := by
  have hM0 := (Ms.nil w).box 24 (keyC s)
  have Hs := Lib.hid hs
  have Hsk := Lib.hid (sizeKey hs)
  have Hsd := Lib.hid (sizeDr N hs)
  have Hod := Lib.hid (one_dr s N)
  have Hzd := Lib.hid (show (#[.int .u8 0, .int .u8 0, .int .u8 0, .int .u8 0, .int .u8 0, .int .u8 0, .int .u8 0, .int .u8 0, .int .u8 0, .int .u8 0, .int .u8 0, .int .u8 0, .int .u8 0, .int .u8 0, .int .u8 0, .int .u8 0, .int .u8 0, .int .u8 0, .int .u8 0, .int .u8 0, .int .u8 0, .int .u8 0, .int .u8 0, .int .u8 0, .int .u8 0, .int .u8 0, .int .u8 0, .int .u8 0, .int .u8 0, .int .u8 0, .int .u8 0, .int .u8 0, .int .u64 0] : Array Value).size = (drC s N).size by rw [drC_size N hs]; rfl)
  have Hbd := Lib.hid (fun wx => build_dr s N wx hs)
  have Hsk0 := Lib.hid (sizeKey zeroD_len)
  have Hok0 := Lib.hid (one_keyF zeroD)
  have Hsd0 := Lib.hid (sizeDr (s := zeroD) 0 rfl)
  have Hod0 := Lib.hid (one_dr zeroD 0)
  have hqk := fun wx => eql_keyF wx zeroD zeroD zeroD_len zeroD_len
  have hqd := fun wx => eql_dr wx zeroD zeroD 0 0 zeroD_len zeroD_len
  simp only [beq_self_eq_true, Bool.and_self] at hqk hqd
  rw [keyZD] at Hsk0 Hok0 hqk
  rw [drZ] at Hsd0 Hod0 hqd
  have hck := fun wx => hC s N wx hs hb
  have hnx := fun wx h => hX s N wx hs hb h
  have hZ : ∀ er : Int, errN N = er → er ≠ 0 → nextV s N = .tuple #[.agg #[.int .u8 0, .int .u8 0, .int .u8 0, .int .u8 0, .int .u8 0, .int .u8 0, .int .u8 0, .int .u8 0, .int .u8 0, .int .u8 0, .int .u8 0, .int .u8 0, .int .u8 0, .int .u8 0, .int .u8 0, .int .u8 0, .int .u8 0, .int .u8 0, .int .u8 0, .int .u8 0, .int .u8 0, .int .u8 0, .int .u8 0, .int .u8 0, .int .u8 0, .int .u8 0, .int .u8 0, .int .u8 0, .int .u8 0, .int .u8 0, .int .u8 0, .int .u8 0], .agg #[.int .u8 0, .int .u8 0, .int .u8 0, .int .u8 0, .int .u8 0, .int .u8 0, .int .u8 0, .int .u8 0, .int .u8 0, .int .u8 0, .int .u8 0, .int .u8 0, .int .u8 0, .int .u8 0, .int .u8 0, .int .u8 0, .int .u8 0, .int .u8 0, .int .u8 0, .int .u8 0, .int .u8 0, .int .u8 0, .int .u8 0, .int .u8 0, .int .u8 0, .int .u8 0, .int .u8 0, .int .u8 0, .int .u8 0, .int .u8 0, .int .u8 0, .int .u8 0, .int .u64 0], .int .i64 er] := fun er h h0 => by
    rw [nextV, if_neg (by rw [h]; exact h0), h, drZ]
    rfl
  clear hs
  go_enter Tryd.func5, Tryd.ntmps5
  by_cases h1 : 4294967296 < N
  · have h1' : (4294967296 : Int) < (N : Int) := by omega
    rw [hZ 1 (by rw [errN, if_pos h1]) (by decide)] at hnx
    rw [show chkV N = 1 by rw [chkV, if_pos h1]] at hck
    clear hZ h1
    go_wp2_with fail
    refine (live09 hN hX _ (hT.below hM0.old)).mono ?_
    rintro e w1 ⟨rfl, hb1⟩
    have hM1 := hM0.call hb1
    have hM2 := hM1.put 27 #[.int .u8 0, .int .u8 0, .int .u8 0, .int .u8 0, .int .u8 0, .int .u8 0, .int .u8 0, .int .u8 0, .int .u8 0, .int .u8 0, .int .u8 0, .int .u8 0, .int .u8 0, .int .u8 0, .int .u8 0, .int .u8 0, .int .u8 0, .int .u8 0, .int .u8 0, .int .u8 0, .int .u8 0, .int .u8 0, .int .u8 0, .int .u8 0, .int .u8 0, .int .u8 0, .int .u8 0, .int .u8 0, .int .u8 0, .int .u8 0, .int .u8 0, .int .u8 0, .int .u64 0] (drC s N)
    go_wp2_with (first
      | ((with_reducible show wpList _ _ _ (⟨some 13, _, _, _, _, _⟩ :: _) _ _); refine wpList_loadC (by kernel_rfl) 24 (.tmp 2) rfl (w.heap.size) rfl 24 (keyC s) _ (hM1.get 0 rfl) Tryd.underlying24 rfl Hsk.out ?_)
      | ((with_reducible show wpList _ _ _ (⟨some 15, _, _, _, _, _⟩ :: _) _ _); refine wpList_buildP rfl 27 #[(0, .tmp 13), (1, .tmp 14)] rfl #[(0, .agg (keyC s)), (1, .int .u64 (N : Int))] (by kernel_rfl) (drC s N) (Hbd.out _) ?_)
      | ((with_reducible show wpList _ _ _ (⟨none, Op.store 27 _ _, _, _, _, _⟩ :: _) _ _); refine wpList_store_row rfl 27 (.tmp 6) (.tmp 15) rfl (w1.heap.size) (drC s N) rfl rfl 27 _ (RowC.new _ _ _) Hsd.out Hzd.out Hod.out ?_)
      | ((with_reducible show wpList _ _ _ (⟨some 17, _, _, _, _, _⟩ :: _) _ _); refine wpList_loadC (by kernel_rfl) 27 (.tmp 6) rfl (w1.heap.size) rfl 27 (drC s N) _ (hM2.get 0 rfl) Tryd.underlying27 rfl Hsd.out ?_))
    refine (hnx _ (hT.below hM2.old)).mono ?_
    rintro e w3 ⟨rfl, hb3⟩
    have hM3 := hM2.call hb3
    clear hM0 hb1 hM1 hM2 hb3 hnx
    have hB4 := (hM3.box 24 #[.int .u8 0, .int .u8 0, .int .u8 0, .int .u8 0, .int .u8 0, .int .u8 0, .int .u8 0, .int .u8 0, .int .u8 0, .int .u8 0, .int .u8 0, .int .u8 0, .int .u8 0, .int .u8 0, .int .u8 0, .int .u8 0, .int .u8 0, .int .u8 0, .int .u8 0, .int .u8 0, .int .u8 0, .int .u8 0, .int .u8 0, .int .u8 0, .int .u8 0, .int .u8 0, .int .u8 0, .int .u8 0, .int .u8 0, .int .u8 0, .int .u8 0, .int .u8 0]).box 27 #[.int .u8 0, .int .u8 0, .int .u8 0, .int .u8 0, .int .u8 0, .int .u8 0, .int .u8 0, .int .u8 0, .int .u8 0, .int .u8 0, .int .u8 0, .int .u8 0, .int .u8 0, .int .u8 0, .int .u8 0, .int .u8 0, .int .u8 0, .int .u8 0, .int .u8 0, .int .u8 0, .int .u8 0, .int .u8 0, .int .u8 0, .int .u8 0, .int .u8 0, .int .u8 0, .int .u8 0, .int .u8 0, .int .u8 0, .int .u8 0, .int .u8 0, .int .u8 0, .int .u64 0]
    have hg4 := hM3.old.size
    have hn4 := fun p hp => Nat.ne_of_lt ((hM3.rows p hp).lt)
    have hm4 := fun p hp => Nat.ne_of_lt (((hM3.box 24 #[.int .u8 0, .int .u8 0, .int .u8 0, .int .u8 0, .int .u8 0, .int .u8 0, .int .u8 0, .int .u8 0, .int .u8 0, .int .u8 0, .int .u8 0, .int .u8 0, .int .u8 0, .int .u8 0, .int .u8 0, .int .u8 0, .int .u8 0, .int .u8 0, .int .u8 0, .int .u8 0, .int .u8 0, .int .u8 0, .int .u8 0, .int .u8 0, .int .u8 0, .int .u8 0, .int .u8 0, .int .u8 0, .int .u8 0, .int .u8 0, .int .u8 0, .int .u8 0]).rows p hp).lt)
    simp only [World.size_alloc] at hB4 hm4
    have hM4 := Ms.set2 (ds := #[.int .u8 0, .int .u8 0, .int .u8 0, .int .u8 0, .int .u8 0, .int .u8 0, .int .u8 0, .int .u8 0, .int .u8 0, .int .u8 0, .int .u8 0, .int .u8 0, .int .u8 0, .int .u8 0, .int .u8 0, .int .u8 0, .int .u8 0, .int .u8 0, .int .u8 0, .int .u8 0, .int .u8 0, .int .u8 0, .int .u8 0, .int .u8 0, .int .u8 0, .int .u8 0, .int .u8 0, .int .u8 0, .int .u8 0, .int .u8 0, .int .u8 0, .int .u8 0]) (ds' := #[.int .u8 0, .int .u8 0, .int .u8 0, .int .u8 0, .int .u8 0, .int .u8 0, .int .u8 0, .int .u8 0, .int .u8 0, .int .u8 0, .int .u8 0, .int .u8 0, .int .u8 0, .int .u8 0, .int .u8 0, .int .u8 0, .int .u8 0, .int .u8 0, .int .u8 0, .int .u8 0, .int .u8 0, .int .u8 0, .int .u8 0, .int .u8 0, .int .u8 0, .int .u8 0, .int .u8 0, .int .u8 0, .int .u8 0, .int .u8 0, .int .u8 0, .int .u8 0, .int .u64 0]) hB4.swap hg4 (by omega) (by omega) hn4 (fun p hp => hm4 p (List.mem_cons_of_mem _ hp))
    go_wp2_with (first
      | ((with_reducible show wpList _ _ _ (⟨none, Op.store 24 _ _, _, _, _, _⟩ :: _) _ _); refine wpList_store_row rfl 24 (.tmp 7) (.tmp 19) rfl (w3.heap.size) #[.int .u8 0, .int .u8 0, .int .u8 0, .int .u8 0, .int .u8 0, .int .u8 0, .int .u8 0, .int .u8 0, .int .u8 0, .int .u8 0, .int .u8 0, .int .u8 0, .int .u8 0, .int .u8 0, .int .u8 0, .int .u8 0, .int .u8 0, .int .u8 0, .int .u8 0, .int .u8 0, .int .u8 0, .int .u8 0, .int .u8 0, .int .u8 0, .int .u8 0, .int .u8 0, .int .u8 0, .int .u8 0, .int .u8 0, .int .u8 0, .int .u8 0, .int .u8 0] rfl rfl 24 _ (hB4.get 1 rfl) Hsk0.out rfl Hok0.out ?_)
      | ((with_reducible show wpList _ _ _ (⟨none, Op.store 27 _ _, _, _, _, _⟩ :: _) _ _); refine wpList_store_row rfl 27 (.tmp 8) (.tmp 20) rfl (w3.heap.size + 1) #[.int .u8 0, .int .u8 0, .int .u8 0, .int .u8 0, .int .u8 0, .int .u8 0, .int .u8 0, .int .u8 0, .int .u8 0, .int .u8 0, .int .u8 0, .int .u8 0, .int .u8 0, .int .u8 0, .int .u8 0, .int .u8 0, .int .u8 0, .int .u8 0, .int .u8 0, .int .u8 0, .int .u8 0, .int .u8 0, .int .u8 0, .int .u8 0, .int .u8 0, .int .u8 0, .int .u8 0, .int .u8 0, .int .u8 0, .int .u8 0, .int .u8 0, .int .u8 0, .int .u64 0] rfl rfl 27 _ ((hB4.get 0 rfl).rowFar (by omega) _) Hsd0.out rfl Hod0.out ?_)
      | ((with_reducible show wpList _ _ _ (⟨some 31, _, _, _, _, _⟩ :: _) _ _); refine wpList_loadC (by kernel_rfl) 27 (.tmp 6) rfl (w1.heap.size) rfl 27 (drC s N) _ (hM4.get 2 rfl) Tryd.underlying27 rfl Hsd.out ?_))
    refine (hck _).mono ?_
    rintro e w5 ⟨rfl, hb5⟩
    have hM5 := hM4.call hb5
    go_wp2_with (first
      | ((with_reducible show wpList _ _ _ (⟨some 36, _, _, _, _, _⟩ :: _) _ _); refine wpList_loadC (by kernel_rfl) 24 (.tmp 7) rfl (w3.heap.size) rfl 24 #[.int .u8 0, .int .u8 0, .int .u8 0, .int .u8 0, .int .u8 0, .int .u8 0, .int .u8 0, .int .u8 0, .int .u8 0, .int .u8 0, .int .u8 0, .int .u8 0, .int .u8 0, .int .u8 0, .int .u8 0, .int .u8 0, .int .u8 0, .int .u8 0, .int .u8 0, .int .u8 0, .int .u8 0, .int .u8 0, .int .u8 0, .int .u8 0, .int .u8 0, .int .u8 0, .int .u8 0, .int .u8 0, .int .u8 0, .int .u8 0, .int .u8 0, .int .u8 0] _ (hM5.get 0 rfl) Tryd.underlying24 rfl Hsk0.out ?_)
      | ((with_reducible show wpList _ _ _ (⟨some 41, _, _, _, _, _⟩ :: _) _ _); refine wpList_loadC (by kernel_rfl) 27 (.tmp 8) rfl (w3.heap.size + 1) rfl 27 #[.int .u8 0, .int .u8 0, .int .u8 0, .int .u8 0, .int .u8 0, .int .u8 0, .int .u8 0, .int .u8 0, .int .u8 0, .int .u8 0, .int .u8 0, .int .u8 0, .int .u8 0, .int .u8 0, .int .u8 0, .int .u8 0, .int .u8 0, .int .u8 0, .int .u8 0, .int .u8 0, .int .u8 0, .int .u8 0, .int .u8 0, .int .u8 0, .int .u8 0, .int .u8 0, .int .u8 0, .int .u8 0, .int .u8 0, .int .u8 0, .int .u8 0, .int .u8 0, .int .u64 0] _ (hM5.get 1 rfl) Tryd.underlying27 rfl Hsd0.out ?_))
    go_ret
    exact ⟨rfl, hM5.old⟩
  have h1' : ¬ (4294967296 : Int) < (N : Int) := by omega
  rw [show chkV N = 0 by rw [chkV, if_neg h1]] at hck
  by_cases h2 : N = 4294967296
  · have H2 := Lib.hid h2
    rw [hZ 8 (by rw [errN, if_neg h1, if_pos h2]) (by decide)] at hnx
    clear hZ h1 h2
    go_wp2_with fail
    refine (live09 hN hX _ (hT.below hM0.old)).mono ?_
    rintro e w1 ⟨rfl, hb1⟩
    have hM1 := hM0.call hb1
    have hM2 := hM1.put 27 #[.int .u8 0, .int .u8 0, .int .u8 0, .int .u8 0, .int .u8 0, .int .u8 0, .int .u8 0, .int .u8 0, .int .u8 0, .int .u8 0, .int .u8 0, .int .u8 0, .int .u8 0, .int .u8 0, .int .u8 0, .int .u8 0, .int .u8 0, .int .u8 0, .int .u8 0, .int .u8 0, .int .u8 0, .int .u8 0, .int .u8 0, .int .u8 0, .int .u8 0, .int .u8 0, .int .u8 0, .int .u8 0, .int .u8 0, .int .u8 0, .int .u8 0, .int .u8 0, .int .u64 0] (drC s N)
    go_wp2_with (first
      | ((with_reducible show wpList _ _ _ (⟨some 13, _, _, _, _, _⟩ :: _) _ _); refine wpList_loadC (by kernel_rfl) 24 (.tmp 2) rfl (w.heap.size) rfl 24 (keyC s) _ (hM1.get 0 rfl) Tryd.underlying24 rfl Hsk.out ?_)
      | ((with_reducible show wpList _ _ _ (⟨some 15, _, _, _, _, _⟩ :: _) _ _); refine wpList_buildP rfl 27 #[(0, .tmp 13), (1, .tmp 14)] rfl #[(0, .agg (keyC s)), (1, .int .u64 (N : Int))] (by kernel_rfl) (drC s N) (Hbd.out _) ?_)
      | ((with_reducible show wpList _ _ _ (⟨none, Op.store 27 _ _, _, _, _, _⟩ :: _) _ _); refine wpList_store_row rfl 27 (.tmp 6) (.tmp 15) rfl (w1.heap.size) (drC s N) rfl rfl 27 _ (RowC.new _ _ _) Hsd.out Hzd.out Hod.out ?_)
      | ((with_reducible show wpList _ _ _ (⟨some 17, _, _, _, _, _⟩ :: _) _ _); refine wpList_loadC (by kernel_rfl) 27 (.tmp 6) rfl (w1.heap.size) rfl 27 (drC s N) _ (hM2.get 0 rfl) Tryd.underlying27 rfl Hsd.out ?_))
    refine (hnx _ (hT.below hM2.old)).mono ?_
    rintro e w3 ⟨rfl, hb3⟩
    have hM3 := hM2.call hb3
    clear hM0 hb1 hM1 hM2 hb3 hnx
    have hB4 := (hM3.box 24 #[.int .u8 0, .int .u8 0, .int .u8 0, .int .u8 0, .int .u8 0, .int .u8 0, .int .u8 0, .int .u8 0, .int .u8 0, .int .u8 0, .int .u8 0, .int .u8 0, .int .u8 0, .int .u8 0, .int .u8 0, .int .u8 0, .int .u8 0, .int .u8 0, .int .u8 0, .int .u8 0, .int .u8 0, .int .u8 0, .int .u8 0, .int .u8 0, .int .u8 0, .int .u8 0, .int .u8 0, .int .u8 0, .int .u8 0, .int .u8 0, .int .u8 0, .int .u8 0]).box 27 #[.int .u8 0, .int .u8 0, .int .u8 0, .int .u8 0, .int .u8 0, .int .u8 0, .int .u8 0, .int .u8 0, .int .u8 0, .int .u8 0, .int .u8 0, .int .u8 0, .int .u8 0, .int .u8 0, .int .u8 0, .int .u8 0, .int .u8 0, .int .u8 0, .int .u8 0, .int .u8 0, .int .u8 0, .int .u8 0, .int .u8 0, .int .u8 0, .int .u8 0, .int .u8 0, .int .u8 0, .int .u8 0, .int .u8 0, .int .u8 0, .int .u8 0, .int .u8 0, .int .u64 0]
    have hg4 := hM3.old.size
    have hn4 := fun p hp => Nat.ne_of_lt ((hM3.rows p hp).lt)
    have hm4 := fun p hp => Nat.ne_of_lt (((hM3.box 24 #[.int .u8 0, .int .u8 0, .int .u8 0, .int .u8 0, .int .u8 0, .int .u8 0, .int .u8 0, .int .u8 0, .int .u8 0, .int .u8 0, .int .u8 0, .int .u8 0, .int .u8 0, .int .u8 0, .int .u8 0, .int .u8 0, .int .u8 0, .int .u8 0, .int .u8 0, .int .u8 0, .int .u8 0, .int .u8 0, .int .u8 0, .int .u8 0, .int .u8 0, .int .u8 0, .int .u8 0, .int .u8 0, .int .u8 0, .int .u8 0, .int .u8 0, .int .u8 0]).rows p hp).lt)
    simp only [World.size_alloc] at hB4 hm4
    have hM4 := Ms.set2 (ds := #[.int .u8 0, .int .u8 0, .int .u8 0, .int .u8 0, .int .u8 0, .int .u8 0, .int .u8 0, .int .u8 0, .int .u8 0, .int .u8 0, .int .u8 0, .int .u8 0, .int .u8 0, .int .u8 0, .int .u8 0, .int .u8 0, .int .u8 0, .int .u8 0, .int .u8 0, .int .u8 0, .int .u8 0, .int .u8 0, .int .u8 0, .int .u8 0, .int .u8 0, .int .u8 0, .int .u8 0, .int .u8 0, .int .u8 0, .int .u8 0, .int .u8 0, .int .u8 0]) (ds' := #[.int .u8 0, .int .u8 0, .int .u8 0, .int .u8 0, .int .u8 0, .int .u8 0, .int .u8 0, .int .u8 0, .int .u8 0, .int .u8 0, .int .u8 0, .int .u8 0, .int .u8 0, .int .u8 0, .int .u8 0, .int .u8 0, .int .u8 0, .int .u8 0, .int .u8 0, .int .u8 0, .int .u8 0, .int .u8 0, .int .u8 0, .int .u8 0, .int .u8 0, .int .u8 0, .int .u8 0, .int .u8 0, .int .u8 0, .int .u8 0, .int .u8 0, .int .u8 0, .int .u64 0]) hB4.swap hg4 (by omega) (by omega) hn4 (fun p hp => hm4 p (List.mem_cons_of_mem _ hp))
    have h2' : (N : Int) = 4294967296 := by have := H2.out; omega
    go_wp2_with (first
      | ((with_reducible show wpList _ _ _ (⟨none, Op.store 24 _ _, _, _, _, _⟩ :: _) _ _); refine wpList_store_row rfl 24 (.tmp 7) (.tmp 19) rfl (w3.heap.size) #[.int .u8 0, .int .u8 0, .int .u8 0, .int .u8 0, .int .u8 0, .int .u8 0, .int .u8 0, .int .u8 0, .int .u8 0, .int .u8 0, .int .u8 0, .int .u8 0, .int .u8 0, .int .u8 0, .int .u8 0, .int .u8 0, .int .u8 0, .int .u8 0, .int .u8 0, .int .u8 0, .int .u8 0, .int .u8 0, .int .u8 0, .int .u8 0, .int .u8 0, .int .u8 0, .int .u8 0, .int .u8 0, .int .u8 0, .int .u8 0, .int .u8 0, .int .u8 0] rfl rfl 24 _ (hB4.get 1 rfl) Hsk0.out rfl Hok0.out ?_)
      | ((with_reducible show wpList _ _ _ (⟨none, Op.store 27 _ _, _, _, _, _⟩ :: _) _ _); refine wpList_store_row rfl 27 (.tmp 8) (.tmp 20) rfl (w3.heap.size + 1) #[.int .u8 0, .int .u8 0, .int .u8 0, .int .u8 0, .int .u8 0, .int .u8 0, .int .u8 0, .int .u8 0, .int .u8 0, .int .u8 0, .int .u8 0, .int .u8 0, .int .u8 0, .int .u8 0, .int .u8 0, .int .u8 0, .int .u8 0, .int .u8 0, .int .u8 0, .int .u8 0, .int .u8 0, .int .u8 0, .int .u8 0, .int .u8 0, .int .u8 0, .int .u8 0, .int .u8 0, .int .u8 0, .int .u8 0, .int .u8 0, .int .u8 0, .int .u8 0, .int .u64 0] rfl rfl 27 _ ((hB4.get 0 rfl).rowFar (by omega) _) Hsd0.out rfl Hod0.out ?_)
      | ((with_reducible show wpList _ _ _ (⟨some 54, _, _, _, _, _⟩ :: _) _ _); refine wpList_loadC (by kernel_rfl) 27 (.tmp 6) rfl (w1.heap.size) rfl 27 (drC s N) _ (hM4.get 2 rfl) Tryd.underlying27 rfl Hsd.out ?_))
    refine (hck _).mono ?_
    rintro e w5 ⟨rfl, hb5⟩
    have hM5 := hM4.call hb5
    go_wp2_with (first
      | ((with_reducible show wpList _ _ _ (⟨some 59, _, _, _, _, _⟩ :: _) _ _); refine wpList_loadC (by kernel_rfl) 27 (.tmp 8) rfl (w3.heap.size + 1) rfl 27 #[.int .u8 0, .int .u8 0, .int .u8 0, .int .u8 0, .int .u8 0, .int .u8 0, .int .u8 0, .int .u8 0, .int .u8 0, .int .u8 0, .int .u8 0, .int .u8 0, .int .u8 0, .int .u8 0, .int .u8 0, .int .u8 0, .int .u8 0, .int .u8 0, .int .u8 0, .int .u8 0, .int .u8 0, .int .u8 0, .int .u8 0, .int .u8 0, .int .u8 0, .int .u8 0, .int .u8 0, .int .u8 0, .int .u8 0, .int .u8 0, .int .u8 0, .int .u8 0, .int .u64 0] _ (hM5.get 1 rfl) Tryd.underlying27 rfl Hsd0.out ?_))
    go_ret
    exact ⟨rfl, hM5.old⟩
  have h2' : ¬ (N : Int) = 4294967296 := by omega
  rw [nextV_ok (by omega)] at hnx
  have hkl := drawU_len s N
  have Hsx := Lib.hid (sizeKey hkl)
  have Hox := Lib.hid (one_keyF (drawU s N))
  have Hzx := Lib.hid (show (#[.int .u8 0, .int .u8 0, .int .u8 0, .int .u8 0, .int .u8 0, .int .u8 0, .int .u8 0, .int .u8 0, .int .u8 0, .int .u8 0, .int .u8 0, .int .u8 0, .int .u8 0, .int .u8 0, .int .u8 0, .int .u8 0, .int .u8 0, .int .u8 0, .int .u8 0, .int .u8 0, .int .u8 0, .int .u8 0, .int .u8 0, .int .u8 0, .int .u8 0, .int .u8 0, .int .u8 0, .int .u8 0, .int .u8 0, .int .u8 0, .int .u8 0, .int .u8 0] : Array Value).size = (keyC (drawU s N)).size by rw [keyC_size, hkl]; rfl)
  have hc2 := fun wx => hC s (N + 1) wx Hs.out (by omega)
  rw [show chkV (N + 1) = 0 by rw [chkV, if_neg (by omega)]] at hc2
  obtain ⟨N', hN'⟩ : ∃ N', N' = N + 1 := ⟨_, rfl⟩
  have e1 : (N : Int) + 1 = (N' : Int) := by omega
  have e2 : IntKind.u64.wrap (N' : Int) = (N' : Int) := by rw [IntKind.wrap_u64]; omega
  rw [← hN'] at hnx hc2
  have Hsn := Lib.hid (sizeDr N' Hs.out)
  have Hon := Lib.hid (one_dr s N')
  have Hzn := Lib.hid (show (#[.int .u8 0, .int .u8 0, .int .u8 0, .int .u8 0, .int .u8 0, .int .u8 0, .int .u8 0, .int .u8 0, .int .u8 0, .int .u8 0, .int .u8 0, .int .u8 0, .int .u8 0, .int .u8 0, .int .u8 0, .int .u8 0, .int .u8 0, .int .u8 0, .int .u8 0, .int .u8 0, .int .u8 0, .int .u8 0, .int .u8 0, .int .u8 0, .int .u8 0, .int .u8 0, .int .u8 0, .int .u8 0, .int .u8 0, .int .u8 0, .int .u8 0, .int .u8 0, .int .u64 0] : Array Value).size = (drC s N').size by rw [drC_size N' Hs.out]; rfl)
  clear hZ h1 h2 hN' hkl
  generalize drawU s N = kk at *
  go_wp2_with fail
  refine (live09 hN hX _ (hT.below hM0.old)).mono ?_
  rintro e w1 ⟨rfl, hb1⟩
  have hM1 := hM0.call hb1
  have hM2 := hM1.put 27 #[.int .u8 0, .int .u8 0, .int .u8 0, .int .u8 0, .int .u8 0, .int .u8 0, .int .u8 0, .int .u8 0, .int .u8 0, .int .u8 0, .int .u8 0, .int .u8 0, .int .u8 0, .int .u8 0, .int .u8 0, .int .u8 0, .int .u8 0, .int .u8 0, .int .u8 0, .int .u8 0, .int .u8 0, .int .u8 0, .int .u8 0, .int .u8 0, .int .u8 0, .int .u8 0, .int .u8 0, .int .u8 0, .int .u8 0, .int .u8 0, .int .u8 0, .int .u8 0, .int .u64 0] (drC s N)
  go_wp2_with (first
    | ((with_reducible show wpList _ _ _ (⟨some 13, _, _, _, _, _⟩ :: _) _ _); refine wpList_loadC (by kernel_rfl) 24 (.tmp 2) rfl (w.heap.size) rfl 24 (keyC s) _ (hM1.get 0 rfl) Tryd.underlying24 rfl Hsk.out ?_)
    | ((with_reducible show wpList _ _ _ (⟨some 15, _, _, _, _, _⟩ :: _) _ _); refine wpList_buildP rfl 27 #[(0, .tmp 13), (1, .tmp 14)] rfl #[(0, .agg (keyC s)), (1, .int .u64 (N : Int))] (by kernel_rfl) (drC s N) (Hbd.out _) ?_)
    | ((with_reducible show wpList _ _ _ (⟨none, Op.store 27 _ _, _, _, _, _⟩ :: _) _ _); refine wpList_store_row rfl 27 (.tmp 6) (.tmp 15) rfl (w1.heap.size) (drC s N) rfl rfl 27 _ (RowC.new _ _ _) Hsd.out Hzd.out Hod.out ?_)
    | ((with_reducible show wpList _ _ _ (⟨some 17, _, _, _, _, _⟩ :: _) _ _); refine wpList_loadC (by kernel_rfl) 27 (.tmp 6) rfl (w1.heap.size) rfl 27 (drC s N) _ (hM2.get 0 rfl) Tryd.underlying27 rfl Hsd.out ?_))
  refine (hnx _ (hT.below hM2.old)).mono ?_
  rintro e w3 ⟨rfl, hb3⟩
  have hM3 := hM2.call hb3
  clear hM0 hb1 hM1 hM2 hb3 hnx
  have hB4 := (hM3.box 24 #[.int .u8 0, .int .u8 0, .int .u8 0, .int .u8 0, .int .u8 0, .int .u8 0, .int .u8 0, .int .u8 0, .int .u8 0, .int .u8 0, .int .u8 0, .int .u8 0, .int .u8 0, .int .u8 0, .int .u8 0, .int .u8 0, .int .u8 0, .int .u8 0, .int .u8 0, .int .u8 0, .int .u8 0, .int .u8 0, .int .u8 0, .int .u8 0, .int .u8 0, .int .u8 0, .int .u8 0, .int .u8 0, .int .u8 0, .int .u8 0, .int .u8 0, .int .u8 0]).box 27 #[.int .u8 0, .int .u8 0, .int .u8 0, .int .u8 0, .int .u8 0, .int .u8 0, .int .u8 0, .int .u8 0, .int .u8 0, .int .u8 0, .int .u8 0, .int .u8 0, .int .u8 0, .int .u8 0, .int .u8 0, .int .u8 0, .int .u8 0, .int .u8 0, .int .u8 0, .int .u8 0, .int .u8 0, .int .u8 0, .int .u8 0, .int .u8 0, .int .u8 0, .int .u8 0, .int .u8 0, .int .u8 0, .int .u8 0, .int .u8 0, .int .u8 0, .int .u8 0, .int .u64 0]
  have hg4 := hM3.old.size
  have hn4 := fun p hp => Nat.ne_of_lt ((hM3.rows p hp).lt)
  have hm4 := fun p hp => Nat.ne_of_lt (((hM3.box 24 #[.int .u8 0, .int .u8 0, .int .u8 0, .int .u8 0, .int .u8 0, .int .u8 0, .int .u8 0, .int .u8 0, .int .u8 0, .int .u8 0, .int .u8 0, .int .u8 0, .int .u8 0, .int .u8 0, .int .u8 0, .int .u8 0, .int .u8 0, .int .u8 0, .int .u8 0, .int .u8 0, .int .u8 0, .int .u8 0, .int .u8 0, .int .u8 0, .int .u8 0, .int .u8 0, .int .u8 0, .int .u8 0, .int .u8 0, .int .u8 0, .int .u8 0, .int .u8 0]).rows p hp).lt)
  simp only [World.size_alloc] at hB4 hm4
  have hM4 := Ms.set2 (ds := (keyC kk)) (ds' := (drC s N')) hB4.swap hg4 (by omega) (by omega) hn4 (fun p hp => hm4 p (List.mem_cons_of_mem _ hp))
  have hn := (hM4.get 1 rfl).nth Hs.out
  go_wp2_with (first
    | ((with_reducible show wpList _ _ _ (⟨none, Op.store 24 _ _, _, _, _, _⟩ :: _) _ _); refine wpList_store_row rfl 24 (.tmp 7) (.tmp 19) rfl (w3.heap.size) (keyC kk) rfl rfl 24 _ (hB4.get 1 rfl) Hsx.out Hzx.out Hox.out ?_)
    | ((with_reducible show wpList _ _ _ (⟨none, Op.store 27 _ _, _, _, _, _⟩ :: _) _ _); refine wpList_store_row rfl 27 (.tmp 8) (.tmp 20) rfl (w3.heap.size + 1) (drC s N') rfl rfl 27 _ ((hB4.get 0 rfl).rowFar (by omega) _) Hsn.out Hzn.out Hon.out ?_)
    | ((with_reducible show wpList _ _ _ (⟨some 76, _, _, _, _, _⟩ :: _) _ _); refine wpList_loadC (by kernel_rfl) 27 (.tmp 8) rfl (w3.heap.size + 1) rfl 27 (drC s N') _ (hM4.get 1 rfl) Tryd.underlying27 rfl Hsn.out ?_))
  refine (hc2 _).mono ?_
  rintro e w5 ⟨rfl, hb5⟩
  have hM5 := hM4.call hb5
  go_wp2_with fail
  go_ret
  exact ⟨rfl, hM5.old⟩

end Go.Proofs.YtgjeamapgdakcaaDoor

