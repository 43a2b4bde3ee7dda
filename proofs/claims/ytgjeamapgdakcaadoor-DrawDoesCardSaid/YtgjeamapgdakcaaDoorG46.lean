import Derived.Test.YtgjeamapgdakcaaDoorG34
import Derived.Test.YtgjeamapgdakcaaDoorG37
import Derived.Test.YtgjeamapgdakcaaDoorG39
/-
  THE WALK of DrawForks (coterielaw09), over what the program's calls answer.
-/
set_option linter.unusedVariables false
namespace Go.Proofs.YtgjeamapgdakcaaDoor
open Go.RowKit

/-- another source's seed, or zeroes -/
def forkX (s l : List UInt8) (N : Nat) : List UInt8 := if chkV N = 0 then forkU s l N else zeroD
theorem forkX_len (s l : List UInt8) (N : Nat) : (forkX s l N).length = 32 := by
  unfold forkX
  split
  · exact forkU_len _ _ _
  · rfl
theorem forkV_small (s l : List UInt8) (N : Nat) (hl : l.length ≤ 65535) : forkV s N l = .tuple #[.agg (drC (forkX s l N) 0), .int .i64 (chkV N)] := by
  have he : errF N l = chkV N := by
    unfold errF chkV
    split
    · rfl
    · rw [if_neg (by omega)]
  rw [forkV, he, forkX]
  split
  · next h => rw [h]
  · rfl
theorem nextV_form (s : List UInt8) (N : Nat) (hs : s.length = 32) : ∃ (k y : List UInt8) (M : Nat) (er : Int), k.length = 32 ∧ y.length = 32 ∧ nextV s N = .tuple #[.agg (keyC k), .agg (drC y M), .int .i64 er] := by
  by_cases h : errN N = 0
  · exact ⟨drawU s N, s, N + 1, 0, drawU_len _ _, hs, by rw [nextV, if_pos h]; rfl⟩
  · exact ⟨zeroD, zeroD, 0, errN N, rfl, rfl, by rw [nextV, if_neg h]; rfl⟩

set_option maxRecDepth 100000 in
set_option maxHeartbeats 8000000 in
theorem walkH_DrawForks (hN : HPN) (hC : HPC) (hX : HPX) (hF : HPF) (s : List UInt8) (N : Nat) (a b : ByteArray) (w : World) (hs : s.length = 32) (hb : N < 18446744073709551616) (hT : CTab w) :
    Calls Tryd.prog 6 #[.agg (drC s N), .string a, .string b] w fun e w' => e = .returned (.bool true) ∧ Below w.heap.size w w' := by
  have hM0 := (Ms.nil w).box 27 (drC s N)
  have Hsd := Lib.hid (sizeDr N hs)
  have hck := fun wx => hC s N wx hs hb
  obtain ⟨k, y, M, er, hk, hy, hnv⟩ := nextV_form s N hs
  have hnx := fun wx h => hX s N wx hs hb h
  rw [hnv] at hnx
  clear hnv
  have hfa : a.size ≤ 1000 → ∀ wx, CTab wx → Calls Tryd.prog 15 #[.agg (drC s N), .string a] wx fun e w' => e = .returned (.tuple #[.agg (drC (forkX s (strB a) N) 0), .int .i64 (chkV N)]) ∧ Below wx.heap.size wx w' := fun hl wx h => by
    have := hF s N a wx hs hb (by omega) h
    rwa [forkV_small s (strB a) N (by rw [strB_len]; omega)] at this
  have hfb : b.size ≤ 1000 → ∀ wx, CTab wx → Calls Tryd.prog 15 #[.agg (drC s N), .string b] wx fun e w' => e = .returned (.tuple #[.agg (drC (forkX s (strB b) N) 0), .int .i64 (chkV N)]) ∧ Below wx.heap.size wx w' := fun hl wx h => by
    have := hF s N b wx hs hb (by omega) h
    rwa [forkV_small s (strB b) N (by rw [strB_len]; omega)] at this
  have hxl := forkX_len s (strB a) N
  have hzl := forkX_len s (strB b) N
  have hxz : a = b → forkX s (strB a) N = forkX s (strB b) N := fun h => by rw [h]
  have Hxz := Lib.hid hxz
  clear hxz
  generalize forkX s (strB a) N = x at *
  generalize forkX s (strB b) N = z at *
  generalize chkV N = ec at *
  have Hsx := Lib.hid (sizeDr 0 hxl)
  have Hox := Lib.hid (one_dr x 0)
  have Hzx := Lib.hid (show (#[.int .u8 0, .int .u8 0, .int .u8 0, .int .u8 0, .int .u8 0, .int .u8 0, .int .u8 0, .int .u8 0, .int .u8 0, .int .u8 0, .int .u8 0, .int .u8 0, .int .u8 0, .int .u8 0, .int .u8 0, .int .u8 0, .int .u8 0, .int .u8 0, .int .u8 0, .int .u8 0, .int .u8 0, .int .u8 0, .int .u8 0, .int .u8 0, .int .u8 0, .int .u8 0, .int .u8 0, .int .u8 0, .int .u8 0, .int .u8 0, .int .u8 0, .int .u8 0, .int .u64 0] : Array Value).size = (drC x 0).size by rw [drC_size 0 hxl]; rfl)
  have Hsz := Lib.hid (sizeDr 0 hzl)
  have Hoz := Lib.hid (one_dr z 0)
  have Hzz := Lib.hid (show (#[.int .u8 0, .int .u8 0, .int .u8 0, .int .u8 0, .int .u8 0, .int .u8 0, .int .u8 0, .int .u8 0, .int .u8 0, .int .u8 0, .int .u8 0, .int .u8 0, .int .u8 0, .int .u8 0, .int .u8 0, .int .u8 0, .int .u8 0, .int .u8 0, .int .u8 0, .int .u8 0, .int .u8 0, .int .u8 0, .int .u8 0, .int .u8 0, .int .u8 0, .int .u8 0, .int .u8 0, .int .u8 0, .int .u8 0, .int .u8 0, .int .u8 0, .int .u8 0, .int .u64 0] : Array Value).size = (drC z 0).size by rw [drC_size 0 hzl]; rfl)
  have Hsk := Lib.hid (sizeKey hk)
  have Hok := Lib.hid (one_keyF k)
  have Hzk := Lib.hid (show (#[.int .u8 0, .int .u8 0, .int .u8 0, .int .u8 0, .int .u8 0, .int .u8 0, .int .u8 0, .int .u8 0, .int .u8 0, .int .u8 0, .int .u8 0, .int .u8 0, .int .u8 0, .int .u8 0, .int .u8 0, .int .u8 0, .int .u8 0, .int .u8 0, .int .u8 0, .int .u8 0, .int .u8 0, .int .u8 0, .int .u8 0, .int .u8 0, .int .u8 0, .int .u8 0, .int .u8 0, .int .u8 0, .int .u8 0, .int .u8 0, .int .u8 0, .int .u8 0] : Array Value).size = (keyC k).size by rw [keyC_size, hk]; rfl)
  have Hsy := Lib.hid (sizeDr M hy)
  have Hoy := Lib.hid (one_dr y M)
  have Hzy := Lib.hid (show (#[.int .u8 0, .int .u8 0, .int .u8 0, .int .u8 0, .int .u8 0, .int .u8 0, .int .u8 0, .int .u8 0, .int .u8 0, .int .u8 0, .int .u8 0, .int .u8 0, .int .u8 0, .int .u8 0, .int .u8 0, .int .u8 0, .int .u8 0, .int .u8 0, .int .u8 0, .int .u8 0, .int .u8 0, .int .u8 0, .int .u8 0, .int .u8 0, .int .u8 0, .int .u8 0, .int .u8 0, .int .u8 0, .int .u8 0, .int .u8 0, .int .u8 0, .int .u8 0, .int .u64 0] : Array Value).size = (drC y M).size by rw [drC_size M hy]; rfl)
  have hqx := fun wx => eql_dr wx x x 0 0 hxl hxl
  have hqk := fun wx => eql_keyF wx k k hk hk
  simp only [beq_self_eq_true, Bool.and_self] at hqx hqk
  have Hxl := Lib.hid hxl
  have Hzl := Lib.hid hzl
  clear hk hy hs hxl hzl hF
  go_enter Tryd.func6, Tryd.ntmps6
  go_wp2_with fail
  refine (live09 hN hX _ (hT.below hM0.old)).mono ?_
  rintro e w1 ⟨rfl, hb1⟩
  have hM1 := hM0.call hb1
  clear hM0 hb1
  by_cases ha : 1000 < a.size
  · have ha' : (1000 : Int) < (a.size : Int) := by omega
    go_wp2_with fail
    go_ret
    exact ⟨rfl, hM1.old⟩
  have ha' : ¬ (1000 : Int) < (a.size : Int) := by omega
  by_cases hbb : 1000 < b.size
  · have hb' : (1000 : Int) < (b.size : Int) := by omega
    go_wp2_with fail
    go_ret
    exact ⟨rfl, hM1.old⟩
  have hb' : ¬ (1000 : Int) < (b.size : Int) := by omega
  have hfa := hfa (by omega)
  have hfb := hfb (by omega)
  clear ha hbb
  go_wp2_with ((with_reducible show wpList _ _ _ (⟨some 33, _, _, _, _, _⟩ :: _) _ _); refine wpList_loadC (by kernel_rfl) 27 (.tmp 3) rfl (w.heap.size) rfl 27 (drC s N) _ (hM1.get 0 rfl) Tryd.underlying27 rfl Hsd.out ?_)
  refine (hfa _ (hT.below hM1.old)).mono ?_
  rintro e w2 ⟨rfl, hb2⟩
  have hM2 := (hM1.call hb2).put 27 #[.int .u8 0, .int .u8 0, .int .u8 0, .int .u8 0, .int .u8 0, .int .u8 0, .int .u8 0, .int .u8 0, .int .u8 0, .int .u8 0, .int .u8 0, .int .u8 0, .int .u8 0, .int .u8 0, .int .u8 0, .int .u8 0, .int .u8 0, .int .u8 0, .int .u8 0, .int .u8 0, .int .u8 0, .int .u8 0, .int .u8 0, .int .u8 0, .int .u8 0, .int .u8 0, .int .u8 0, .int .u8 0, .int .u8 0, .int .u8 0, .int .u8 0, .int .u8 0, .int .u64 0] (drC x 0)
  clear hM1 hb2
  go_wp2_with (first
    | ((with_reducible show wpList _ _ _ (⟨none, Op.store 27 _ _, _, _, _, _⟩ :: _) _ _); refine wpList_store_row rfl 27 (.tmp 8) (.tmp 36) rfl (w2.heap.size) (drC x 0) rfl rfl 27 _ (RowC.new _ _ _) Hsx.out Hzx.out Hox.out ?_)
    | ((with_reducible show wpList _ _ _ (⟨some 39, _, _, _, _, _⟩ :: _) _ _); refine wpList_loadC (by kernel_rfl) 27 (.tmp 3) rfl (w.heap.size) rfl 27 (drC s N) _ (hM2.get 1 rfl) Tryd.underlying27 rfl Hsd.out ?_))
  refine (hfa _ (hT.below hM2.old)).mono ?_
  rintro e w3 ⟨rfl, hb3⟩
  have hM3 := (hM2.call hb3).put 27 #[.int .u8 0, .int .u8 0, .int .u8 0, .int .u8 0, .int .u8 0, .int .u8 0, .int .u8 0, .int .u8 0, .int .u8 0, .int .u8 0, .int .u8 0, .int .u8 0, .int .u8 0, .int .u8 0, .int .u8 0, .int .u8 0, .int .u8 0, .int .u8 0, .int .u8 0, .int .u8 0, .int .u8 0, .int .u8 0, .int .u8 0, .int .u8 0, .int .u8 0, .int .u8 0, .int .u8 0, .int .u8 0, .int .u8 0, .int .u8 0, .int .u8 0, .int .u8 0, .int .u64 0] (drC x 0)
  clear hM2 hb3
  go_wp2_with (first
    | ((with_reducible show wpList _ _ _ (⟨none, Op.store 27 _ _, _, _, _, _⟩ :: _) _ _); refine wpList_store_row rfl 27 (.tmp 10) (.tmp 42) rfl (w3.heap.size) (drC x 0) rfl rfl 27 _ (RowC.new _ _ _) Hsx.out Hzx.out Hox.out ?_)
    | ((with_reducible show wpList _ _ _ (⟨some 45, _, _, _, _, _⟩ :: _) _ _); refine wpList_loadC (by kernel_rfl) 27 (.tmp 3) rfl (w.heap.size) rfl 27 (drC s N) _ (hM3.get 2 rfl) Tryd.underlying27 rfl Hsd.out ?_))
  refine (hfb _ (hT.below hM3.old)).mono ?_
  rintro e w4 ⟨rfl, hb4⟩
  have hM4 := (hM3.call hb4).put 27 #[.int .u8 0, .int .u8 0, .int .u8 0, .int .u8 0, .int .u8 0, .int .u8 0, .int .u8 0, .int .u8 0, .int .u8 0, .int .u8 0, .int .u8 0, .int .u8 0, .int .u8 0, .int .u8 0, .int .u8 0, .int .u8 0, .int .u8 0, .int .u8 0, .int .u8 0, .int .u8 0, .int .u8 0, .int .u8 0, .int .u8 0, .int .u8 0, .int .u8 0, .int .u8 0, .int .u8 0, .int .u8 0, .int .u8 0, .int .u8 0, .int .u8 0, .int .u8 0, .int .u64 0] (drC z 0)
  clear hM3 hb4
  go_wp2_with (first
    | ((with_reducible show wpList _ _ _ (⟨none, Op.store 27 _ _, _, _, _, _⟩ :: _) _ _); refine wpList_store_row rfl 27 (.tmp 12) (.tmp 48) rfl (w4.heap.size) (drC z 0) rfl rfl 27 _ (RowC.new _ _ _) Hsz.out Hzz.out Hoz.out ?_)
    | ((with_reducible show wpList _ _ _ (⟨some 51, _, _, _, _, _⟩ :: _) _ _); refine wpList_loadC (by kernel_rfl) 27 (.tmp 3) rfl (w.heap.size) rfl 27 (drC s N) _ (hM4.get 3 rfl) Tryd.underlying27 rfl Hsd.out ?_))
  refine (hnx _ (hT.below hM4.old)).mono ?_
  rintro e w5 ⟨rfl, hb5⟩
  have hM5 := hM4.call hb5
  clear hM4 hb5
  have hB6 := (hM5.box 24 #[.int .u8 0, .int .u8 0, .int .u8 0, .int .u8 0, .int .u8 0, .int .u8 0, .int .u8 0, .int .u8 0, .int .u8 0, .int .u8 0, .int .u8 0, .int .u8 0, .int .u8 0, .int .u8 0, .int .u8 0, .int .u8 0, .int .u8 0, .int .u8 0, .int .u8 0, .int .u8 0, .int .u8 0, .int .u8 0, .int .u8 0, .int .u8 0, .int .u8 0, .int .u8 0, .int .u8 0, .int .u8 0, .int .u8 0, .int .u8 0, .int .u8 0, .int .u8 0]).box 27 #[.int .u8 0, .int .u8 0, .int .u8 0, .int .u8 0, .int .u8 0, .int .u8 0, .int .u8 0, .int .u8 0, .int .u8 0, .int .u8 0, .int .u8 0, .int .u8 0, .int .u8 0, .int .u8 0, .int .u8 0, .int .u8 0, .int .u8 0, .int .u8 0, .int .u8 0, .int .u8 0, .int .u8 0, .int .u8 0, .int .u8 0, .int .u8 0, .int .u8 0, .int .u8 0, .int .u8 0, .int .u8 0, .int .u8 0, .int .u8 0, .int .u8 0, .int .u8 0, .int .u64 0]
  have hg6 := hM5.old.size
  have hn6 := fun p hp => Nat.ne_of_lt ((hM5.rows p hp).lt)
  have hm6 := fun p hp => Nat.ne_of_lt (((hM5.box 24 #[.int .u8 0, .int .u8 0, .int .u8 0, .int .u8 0, .int .u8 0, .int .u8 0, .int .u8 0, .int .u8 0, .int .u8 0, .int .u8 0, .int .u8 0, .int .u8 0, .int .u8 0, .int .u8 0, .int .u8 0, .int .u8 0, .int .u8 0, .int .u8 0, .int .u8 0, .int .u8 0, .int .u8 0, .int .u8 0, .int .u8 0, .int .u8 0, .int .u8 0, .int .u8 0, .int .u8 0, .int .u8 0, .int .u8 0, .int .u8 0, .int .u8 0, .int .u8 0]).rows p hp).lt)
  simp only [World.size_alloc] at hB6 hm6
  have hM6 := Ms.set2 (ds := (keyC k)) (ds' := (drC y M)) hB6.swap hg6 (by omega) (by omega) hn6 (fun p hp => hm6 p (List.mem_cons_of_mem _ hp))
  go_wp2_with (first
    | ((with_reducible show wpList _ _ _ (⟨none, Op.store 24 _ _, _, _, _, _⟩ :: _) _ _); refine wpList_store_row rfl 24 (.tmp 14) (.tmp 53) rfl (w5.heap.size) (keyC k) rfl rfl 24 _ (hB6.get 1 rfl) Hsk.out Hzk.out Hok.out ?_)
    | ((with_reducible show wpList _ _ _ (⟨none, Op.store 27 _ _, _, _, _, _⟩ :: _) _ _); refine wpList_store_row rfl 27 (.tmp 15) (.tmp 54) rfl (w5.heap.size + 1) (drC y M) rfl rfl 27 _ ((hB6.get 0 rfl).rowFar (by omega) _) Hsy.out Hzy.out Hoy.out ?_)
    | ((with_reducible show wpList _ _ _ (⟨some 57, _, _, _, _, _⟩ :: _) _ _); refine wpList_loadC (by kernel_rfl) 27 (.tmp 3) rfl (w.heap.size) rfl 27 (drC s N) _ (hM6.get 5 rfl) Tryd.underlying27 rfl Hsd.out ?_))
  refine (hnx _ (hT.below hM6.old)).mono ?_
  rintro e w7 ⟨rfl, hb7⟩
  have hM7 := hM6.call hb7
  clear hM5 hM6 hb7 hB6 hg6 hn6 hm6
  have hB8 := (hM7.box 24 #[.int .u8 0, .int .u8 0, .int .u8 0, .int .u8 0, .int .u8 0, .int .u8 0, .int .u8 0, .int .u8 0, .int .u8 0, .int .u8 0, .int .u8 0, .int .u8 0, .int .u8 0, .int .u8 0, .int .u8 0, .int .u8 0, .int .u8 0, .int .u8 0, .int .u8 0, .int .u8 0, .int .u8 0, .int .u8 0, .int .u8 0, .int .u8 0, .int .u8 0, .int .u8 0, .int .u8 0, .int .u8 0, .int .u8 0, .int .u8 0, .int .u8 0, .int .u8 0]).box 27 #[.int .u8 0, .int .u8 0, .int .u8 0, .int .u8 0, .int .u8 0, .int .u8 0, .int .u8 0, .int .u8 0, .int .u8 0, .int .u8 0, .int .u8 0, .int .u8 0, .int .u8 0, .int .u8 0, .int .u8 0, .int .u8 0, .int .u8 0, .int .u8 0, .int .u8 0, .int .u8 0, .int .u8 0, .int .u8 0, .int .u8 0, .int .u8 0, .int .u8 0, .int .u8 0, .int .u8 0, .int .u8 0, .int .u8 0, .int .u8 0, .int .u8 0, .int .u8 0, .int .u64 0]
  have hg8 := hM7.old.size
  have hn8 := fun p hp => Nat.ne_of_lt ((hM7.rows p hp).lt)
  have hm8 := fun p hp => Nat.ne_of_lt (((hM7.box 24 #[.int .u8 0, .int .u8 0, .int .u8 0, .int .u8 0, .int .u8 0, .int .u8 0, .int .u8 0, .int .u8 0, .int .u8 0, .int .u8 0, .int .u8 0, .int .u8 0, .int .u8 0, .int .u8 0, .int .u8 0, .int .u8 0, .int .u8 0, .int .u8 0, .int .u8 0, .int .u8 0, .int .u8 0, .int .u8 0, .int .u8 0, .int .u8 0, .int .u8 0, .int .u8 0, .int .u8 0, .int .u8 0, .int .u8 0, .int .u8 0, .int .u8 0, .int .u8 0]).rows p hp).lt)
  simp only [World.size_alloc] at hB8 hm8
  have hM8 := Ms.set2 (ds := (keyC k)) (ds' := (drC y M)) hB8.swap hg8 (by omega) (by omega) hn8 (fun p hp => hm8 p (List.mem_cons_of_mem _ hp))
  have hn1 := (hM8.get 6 rfl).nth Hxl.out
  have hn2 := (hM8.get 4 rfl).nth Hzl.out
  by_cases hab : a = b
  · have hzx := Hxz.out hab
    subst hab
    subst hzx
    go_wp2_with (first
      | ((with_reducible show wpList _ _ _ (⟨none, Op.store 24 _ _, _, _, _, _⟩ :: _) _ _); refine wpList_store_row rfl 24 (.tmp 17) (.tmp 59) rfl (w7.heap.size) (keyC k) rfl rfl 24 _ (hB8.get 1 rfl) Hsk.out Hzk.out Hok.out ?_)
      | ((with_reducible show wpList _ _ _ (⟨none, Op.store 27 _ _, _, _, _, _⟩ :: _) _ _); refine wpList_store_row rfl 27 (.tmp 18) (.tmp 60) rfl (w7.heap.size + 1) (drC y M) rfl rfl 27 _ ((hB8.get 0 rfl).rowFar (by omega) _) Hsy.out Hzy.out Hoy.out ?_)
      | ((with_reducible show wpList _ _ _ (⟨some 64, _, _, _, _, _⟩ :: _) _ _); refine wpList_loadC (by kernel_rfl) 27 (.tmp 8) rfl (w2.heap.size) rfl 27 (drC x 0) _ (hM8.get 6 rfl) Tryd.underlying27 rfl Hsx.out ?_)
      | ((with_reducible show wpList _ _ _ (⟨some 65, _, _, _, _, _⟩ :: _) _ _); refine wpList_loadC (by kernel_rfl) 27 (.tmp 10) rfl (w3.heap.size) rfl 27 (drC x 0) _ (hM8.get 5 rfl) Tryd.underlying27 rfl Hsx.out ?_)
      | ((with_reducible show wpList _ _ _ (⟨some 79, _, _, _, _, _⟩ :: _) _ _); refine wpList_loadC (by kernel_rfl) 24 (.tmp 14) rfl (w5.heap.size) rfl 24 (keyC k) _ (hM8.get 2 rfl) Tryd.underlying24 rfl Hsk.out ?_)
      | ((with_reducible show wpList _ _ _ (⟨some 80, _, _, _, _, _⟩ :: _) _ _); refine wpList_loadC (by kernel_rfl) 24 (.tmp 17) rfl (w7.heap.size) rfl 24 (keyC k) _ (hM8.get 0 rfl) Tryd.underlying24 rfl Hsk.out ?_)
      | ((with_reducible show wpList _ _ _ (⟨some 93, _, _, _, _, _⟩ :: _) _ _); refine wpList_loadC (by kernel_rfl) 27 (.tmp 8) rfl (w2.heap.size) rfl 27 (drC x 0) _ (hM8.get 6 rfl) Tryd.underlying27 rfl Hsx.out ?_)
      | ((with_reducible show wpList _ _ _ (⟨some 94, _, _, _, _, _⟩ :: _) _ _); refine wpList_loadC (by kernel_rfl) 27 (.tmp 12) rfl (w4.heap.size) rfl 27 (drC x 0) _ (hM8.get 4 rfl) Tryd.underlying27 rfl Hsx.out ?_)
      | ((with_reducible show wpList _ _ _ (⟨some 111, _, _, _, _, _⟩ :: _) _ _); refine wpList_loadC (by kernel_rfl) 27 (.tmp 3) rfl (w.heap.size) rfl 27 (drC s N) _ (hM8.get 7 rfl) Tryd.underlying27 rfl Hsd.out ?_))
    refine (hck _).mono ?_
    rintro e w9 ⟨rfl, hb9⟩
    have hM9 := hM8.call hb9
    go_wp2_with fail
    go_ret
    exact ⟨rfl, hM9.old⟩
  · have hab' : (a.toList == b.toList) = false := by
      rw [beq_eq_false_iff_ne]
      intro h
      rw [ByteArray.toList_eq, ByteArray.toList_eq] at h
      exact hab (ByteArray.ext (Array.ext' h))
    go_wp2_with (first
      | ((with_reducible show wpList _ _ _ (⟨none, Op.store 24 _ _, _, _, _, _⟩ :: _) _ _); refine wpList_store_row rfl 24 (.tmp 17) (.tmp 59) rfl (w7.heap.size) (keyC k) rfl rfl 24 _ (hB8.get 1 rfl) Hsk.out Hzk.out Hok.out ?_)
      | ((with_reducible show wpList _ _ _ (⟨none, Op.store 27 _ _, _, _, _, _⟩ :: _) _ _); refine wpList_store_row rfl 27 (.tmp 18) (.tmp 60) rfl (w7.heap.size + 1) (drC y M) rfl rfl 27 _ ((hB8.get 0 rfl).rowFar (by omega) _) Hsy.out Hzy.out Hoy.out ?_)
      | ((with_reducible show wpList _ _ _ (⟨some 64, _, _, _, _, _⟩ :: _) _ _); refine wpList_loadC (by kernel_rfl) 27 (.tmp 8) rfl (w2.heap.size) rfl 27 (drC x 0) _ (hM8.get 6 rfl) Tryd.underlying27 rfl Hsx.out ?_)
      | ((with_reducible show wpList _ _ _ (⟨some 65, _, _, _, _, _⟩ :: _) _ _); refine wpList_loadC (by kernel_rfl) 27 (.tmp 10) rfl (w3.heap.size) rfl 27 (drC x 0) _ (hM8.get 5 rfl) Tryd.underlying27 rfl Hsx.out ?_)
      | ((with_reducible show wpList _ _ _ (⟨some 79, _, _, _, _, _⟩ :: _) _ _); refine wpList_loadC (by kernel_rfl) 24 (.tmp 14) rfl (w5.heap.size) rfl 24 (keyC k) _ (hM8.get 2 rfl) Tryd.underlying24 rfl Hsk.out ?_)
      | ((with_reducible show wpList _ _ _ (⟨some 80, _, _, _, _, _⟩ :: _) _ _); refine wpList_loadC (by kernel_rfl) 24 (.tmp 17) rfl (w7.heap.size) rfl 24 (keyC k) _ (hM8.get 0 rfl) Tryd.underlying24 rfl Hsk.out ?_)
      | ((with_reducible show wpList _ _ _ (⟨some 111, _, _, _, _, _⟩ :: _) _ _); refine wpList_loadC (by kernel_rfl) 27 (.tmp 3) rfl (w.heap.size) rfl 27 (drC s N) _ (hM8.get 7 rfl) Tryd.underlying27 rfl Hsd.out ?_))
    refine (hck _).mono ?_
    rintro e w9 ⟨rfl, hb9⟩
    have hM9 := hM8.call hb9
    go_wp2_with fail
    go_ret
    exact ⟨rfl, hM9.old⟩

end Go.Proofs.YtgjeamapgdakcaaDoor

/-
  THE WALK of DrawForks (coterielaw09) at the program's own New, Check, Next, Many and Fork.
-/
set_option linter.unusedVariables false
namespace Go.Proofs.YtgjeamapgdakcaaDoor
open Go.RowKit

theorem walk_DrawForks (s : List UInt8) (N : Nat) (a b : ByteArray) (w : World) (hs : s.length = 32) (hb : N < 18446744073709551616) (hT : CTab w) :
    Calls Tryd.prog 6 #[.agg (drC s N), .string a, .string b] w fun e w' => e = .returned (.bool true) ∧ Below w.heap.size w w' :=
  walkH_DrawForks PDNew PDCheck PDNext PDFork s N a b w hs hb hT

end Go.Proofs.YtgjeamapgdakcaaDoor

