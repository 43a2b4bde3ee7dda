import Derived.Test.YtgjeamapgdakcaaDoorG47
import Derived.Test.YtgjeamapgdakcaaDoorG48
import Derived.Test.YtgjeamapgdakcaaDoorG49
import Derived.Test.YtgjeamapgdakcaaDoorG37
import Derived.Test.YtgjeamapgdakcaaDoorG39
/-
  THE WALK of DrawDoes (coterielaw09), over what the program's calls answer.
-/
set_option linter.unusedVariables false
namespace Go.Proofs.YtgjeamapgdakcaaDoor
open Go.RowKit

theorem txs_lenD (ts : List (List UInt8)) : (txs ts).length = ts.flatten.length + 2 * ts.length := by
  induction ts with
  | nil => rfl
  | cons t r ih => rw [txs_cons]; simp only [List.length_append, List.flatten_cons, List.length_cons, be_length, ih]; omega
theorem few_txsD {ts : List (List UInt8)} {mt : Nat} (hl : ts.length = mt) (hm : mt ≤ 200) (hf : fewSum ts ≤ 140000) : GoodT ts → (txs ts).length ≤ 536870912 := by
  intro hg
  have h := fewSum_good ts (fun t ht => by
    obtain ⟨i, hi⟩ := List.getElem?_of_mem ht
    have := hg i t hi
    omega)
  rw [txs_lenD]
  omega
theorem NewPostD.form (ts : List (List UInt8)) : ∃ (x : List UInt8) (er : Int), x.length = 32 ∧ ∀ w e w', NewPostD w ts e w' → e = .returned (.tuple #[.agg (drC x 0), .int .i64 er]) ∧ Below w.heap.size w w' := by
  by_cases hg : GoodT ts
  · exact ⟨newK ts, 0, newK_len _, fun w e w' ⟨hb, h⟩ => ⟨by rcases h with ⟨_, h⟩ | ⟨h, _⟩; exact h; exact absurd hg h, hb⟩⟩
  · exact ⟨zeroD, 4, rfl, fun w e w' ⟨hb, h⟩ => ⟨by rcases h with ⟨h, _⟩ | ⟨_, h⟩; exact absurd h hg; exact h, hb⟩⟩
theorem errM_le {N : Nat} {n : Int} (h : errM N n = 0) : 0 ≤ n ∧ n ≤ 1000 := by
  unfold errM at h
  split at h
  · exact absurd h (by decide)
  · omega
theorem ManyPostD.all (s : List UInt8) (N : Nat) (n : Int) (hs : s.length = 32) : ∃ (m : Nat) (y : List UInt8) (M : Nat) (er : Int) (xs : List UInt8), y.length = 32 ∧ m ≤ 1000 ∧ ∀ w e w', ManyPostD w s N n e w' → ∃ A c, e = .returned (.tuple #[.slice A m c, .agg (drC y M), .int .i64 er]) ∧ Below w.heap.size w w' ∧ KeysAt w' A m xs := by
  by_cases he : errM N n = 0
  · have hl := errM_le he
    refine ⟨n.toNat, s, N + n.toNat, 0, keysU s N n.toNat, hs, by omega, fun w e w' ⟨hb, h⟩ => ?_⟩
    rcases h with ⟨h, _⟩ | ⟨_, v, h, ho⟩
    · exact absurd he h
    · obtain ⟨A, c, rfl⟩ := own_sl ho
      exact ⟨A, c, h, hb, KeysAt.of_own ho⟩
  · refine ⟨0, zeroD, 0, errM N n, [], rfl, by omega, fun w e w' ⟨hb, h⟩ => ?_⟩
    rcases h with ⟨_, h⟩ | ⟨h, _⟩
    · exact ⟨none, 0, h, hb, rfl, fun h => absurd h (by omega)⟩
    · exact absurd h he
theorem forkV_form (s l : List UInt8) (N : Nat) : ∃ (z : List UInt8) (er : Int), z.length = 32 ∧ forkV s N l = .tuple #[.agg (drC z 0), .int .i64 er] := by
  by_cases h : errF N l = 0
  · exact ⟨forkU s l N, 0, forkU_len _ _ _, by rw [forkV, if_pos h]⟩
  · exact ⟨zeroD, errF N l, rfl, by rw [forkV, if_neg h]⟩

set_option maxRecDepth 100000 in
set_option maxHeartbeats 16000000 in
theorem walkH_DrawDoes (hN : HPN) (hC : HPC) (hX : HPX) (hMn : HPM) (hF : HPF) (At : Option Addr) (mt ct : Nat) (vs : List Value) (ts : List (List UInt8)) (s : List UInt8) (N : Nat) (n : Int) (l : ByteArray) (w : World)
    (hmt : mt ≤ ct) (hct : ct ≤ maxLen) (hm24 : mt * 24 ≤ 140737488355328) (hv : Rd w w.heap.size At mt vs) (ht : Txs w w.heap.size vs ts) (hs : s.length = 32) (hb : N < 18446744073709551616) (hn1 : -9223372036854775808 ≤ n) (hn2 : n ≤ 9223372036854775807) (hK : KTab w) (hT : CTab w) :
    Calls Tryd.prog 3 #[.slice At mt ct, .agg (drC s N), .int .i64 n, .string l] w fun e w' => e = .returned (.bool true) ∧ Below w.heap.size w w' := by
  have hM0 := (Ms.nil w).box 27 (drC s N)
  have Hsd := Lib.hid (sizeDr N hs)
  have Hs := Lib.hid hs
  have hcC := fun wx => hC s N wx hs hb
  have hcR := fun wx => RDCheck s N wx hs
  generalize chkV N = cv at *
  obtain ⟨k, y, M, er, hk, hy, hnv⟩ := nextV_form s N hs
  have hxP := fun wx h => hX s N wx hs hb h
  have hxR := fun wx h => RDNext s N wx hs h
  rw [hnv] at hxP hxR
  obtain ⟨z, ez, hz, hfv⟩ := forkV_form s (strB l) N
  have hfP := fun hl wx h => hF s N l wx hs hb hl h
  have hfR := fun hl wx h => RDFork s N l wx hs hb hl h
  rw [hfv] at hfP hfR
  obtain ⟨m, y', M', em, xs, hy', hm, hmany⟩ := ManyPostD.all s N n hs
  obtain ⟨x, ex, hx, hnew⟩ := NewPostD.form ts
  have Hmany := Lib.hid hmany
  have Hnew := Lib.hid hnew
  have Hsx := Lib.hid (sizeDr 0 hx)
  have Hox := Lib.hid (one_dr x 0)
  have Hzx := Lib.hid (show (#[.int .u8 0, .int .u8 0, .int .u8 0, .int .u8 0, .int .u8 0, .int .u8 0, .int .u8 0, .int .u8 0, .int .u8 0, .int .u8 0, .int .u8 0, .int .u8 0, .int .u8 0, .int .u8 0, .int .u8 0, .int .u8 0, .int .u8 0, .int .u8 0, .int .u8 0, .int .u8 0, .int .u8 0, .int .u8 0, .int .u8 0, .int .u8 0, .int .u8 0, .int .u8 0, .int .u8 0, .int .u8 0, .int .u8 0, .int .u8 0, .int .u8 0, .int .u8 0, .int .u64 0] : Array Value).size = (drC x 0).size by rw [drC_size 0 hx]; rfl)
  have Hsz := Lib.hid (sizeDr 0 hz)
  have Hoz := Lib.hid (one_dr z 0)
  have Hzz := Lib.hid (show (#[.int .u8 0, .int .u8 0, .int .u8 0, .int .u8 0, .int .u8 0, .int .u8 0, .int .u8 0, .int .u8 0, .int .u8 0, .int .u8 0, .int .u8 0, .int .u8 0, .int .u8 0, .int .u8 0, .int .u8 0, .int .u8 0, .int .u8 0, .int .u8 0, .int .u8 0, .int .u8 0, .int .u8 0, .int .u8 0, .int .u8 0, .int .u8 0, .int .u8 0, .int .u8 0, .int .u8 0, .int .u8 0, .int .u8 0, .int .u8 0, .int .u8 0, .int .u8 0, .int .u64 0] : Array Value).size = (drC z 0).size by rw [drC_size 0 hz]; rfl)
  have Hsk := Lib.hid (sizeKey hk)
  have Hok := Lib.hid (one_keyF k)
  have Hzk := Lib.hid (show (#[.int .u8 0, .int .u8 0, .int .u8 0, .int .u8 0, .int .u8 0, .int .u8 0, .int .u8 0, .int .u8 0, .int .u8 0, .int .u8 0, .int .u8 0, .int .u8 0, .int .u8 0, .int .u8 0, .int .u8 0, .int .u8 0, .int .u8 0, .int .u8 0, .int .u8 0, .int .u8 0, .int .u8 0, .int .u8 0, .int .u8 0, .int .u8 0, .int .u8 0, .int .u8 0, .int .u8 0, .int .u8 0, .int .u8 0, .int .u8 0, .int .u8 0, .int .u8 0] : Array Value).size = (keyC k).size by rw [keyC_size, hk]; rfl)
  have Hsy := Lib.hid (sizeDr M hy)
  have Hoy := Lib.hid (one_dr y M)
  have Hzy := Lib.hid (show (#[.int .u8 0, .int .u8 0, .int .u8 0, .int .u8 0, .int .u8 0, .int .u8 0, .int .u8 0, .int .u8 0, .int .u8 0, .int .u8 0, .int .u8 0, .int .u8 0, .int .u8 0, .int .u8 0, .int .u8 0, .int .u8 0, .int .u8 0, .int .u8 0, .int .u8 0, .int .u8 0, .int .u8 0, .int .u8 0, .int .u8 0, .int .u8 0, .int .u8 0, .int .u8 0, .int .u8 0, .int .u8 0, .int .u8 0, .int .u8 0, .int .u8 0, .int .u8 0, .int .u64 0] : Array Value).size = (drC y M).size by rw [drC_size M hy]; rfl)
  have Hsm := Lib.hid (sizeDr M' hy')
  have Hom := Lib.hid (one_dr y' M')
  have Hzm := Lib.hid (show (#[.int .u8 0, .int .u8 0, .int .u8 0, .int .u8 0, .int .u8 0, .int .u8 0, .int .u8 0, .int .u8 0, .int .u8 0, .int .u8 0, .int .u8 0, .int .u8 0, .int .u8 0, .int .u8 0, .int .u8 0, .int .u8 0, .int .u8 0, .int .u8 0, .int .u8 0, .int .u8 0, .int .u8 0, .int .u8 0, .int .u8 0, .int .u8 0, .int .u8 0, .int .u8 0, .int .u8 0, .int .u8 0, .int .u8 0, .int .u8 0, .int .u8 0, .int .u8 0, .int .u64 0] : Array Value).size = (drC y' M').size by rw [drC_size M' hy']; rfl)
  have hqx := fun wx => eql_dr wx x x 0 0 hx hx
  have hqz := fun wx => eql_dr wx z z 0 0 hz hz
  have hqy := fun wx => eql_dr wx y y M M hy hy
  have hqm := fun wx => eql_dr wx y' y' M' M' hy' hy'
  have hqk := fun wx => eql_keyF wx k k hk hk
  simp only [beq_self_eq_true, Bool.and_self] at hqx hqz hqy hqm hqk
  clear hnv hfv hmany hnew hx hy hz hk hy'
  go_enter Tryd.func3, Tryd.ntmps3
  go_wp2_with fail
  refine (live09 hN hX _ (hT.below hM0.old)).mono ?_
  rintro e w1 ⟨rfl, hb1⟩
  have hM1 := hM0.call hb1
  have hB1 := hM1.old
  clear hM0 hb1
  have hcn : ct ≤ 9223372036854775807 := by simp [maxLen] at hct; omega
  by_cases hl : 70000 < l.size
  · have hl' : (70000 : Int) < (l.size : Int) := by omega
    go_wp2_with (go_at_call 8; refine (FewAll_any At mt ct vs ts _ _ (by omega) (d_rd hv hB1) (d_txs ht hB1)).mono ?_; rintro e wf ⟨bf, rfl, hbf0, rfl⟩; have hbf := Lib.hid hbf0; clear hbf0; cases bf)
    all_goals
      go_ret
      exact ⟨rfl, hB1⟩
  have hl' : ¬ (70000 : Int) < (l.size : Int) := by omega
  by_cases h5 : 50 < n
  · by_cases h6 : n ≤ 1000
    · skip
      go_wp2_with (go_at_call 8; refine (FewAll_any At mt ct vs ts _ _ (by omega) (d_rd hv hB1) (d_txs ht hB1)).mono ?_; rintro e wf ⟨bf, rfl, hbf0, rfl⟩; have hbf := Lib.hid hbf0; clear hbf0; cases bf)
      all_goals
        go_ret
        exact ⟨rfl, hB1⟩
    · have h6' : ¬ n ≤ 1000 := h6
      go_wp2_with (go_at_call 8; refine (FewAll_any At mt ct vs ts _ _ (by omega) (d_rd hv hB1) (d_txs ht hB1)).mono ?_; rintro e wf ⟨bf, rfl, hbf0, rfl⟩; have hbf := Lib.hid hbf0; clear hbf0; cases bf)
      · go_ret
        exact ⟨rfl, hB1⟩
      obtain ⟨hm2, hfs⟩ := hbf.out (by first | rfl | trivial)
      have Htx := Lib.hid (few_txsD (show ts.length = mt by rw [← ht.1]; exact hv.len) hm2 hfs)
      clear hbf hfs
      refine (hN At mt ct vs ts _ hmt hct hm2 Htx.out (d_rd hv hB1) (d_txs ht hB1) (hT.below hB1)).mono ?_
      intro e w2 hP
      obtain ⟨rfl, hb2⟩ := Hnew.out _ _ _ hP
      have hM2 := (hM1.call hb2).put 27 #[.int .u8 0, .int .u8 0, .int .u8 0, .int .u8 0, .int .u8 0, .int .u8 0, .int .u8 0, .int .u8 0, .int .u8 0, .int .u8 0, .int .u8 0, .int .u8 0, .int .u8 0, .int .u8 0, .int .u8 0, .int .u8 0, .int .u8 0, .int .u8 0, .int .u8 0, .int .u8 0, .int .u8 0, .int .u8 0, .int .u8 0, .int .u8 0, .int .u8 0, .int .u8 0, .int .u8 0, .int .u8 0, .int .u8 0, .int .u8 0, .int .u8 0, .int .u8 0, .int .u64 0] (drC x 0)
      clear hP hb2
      go_wp2_with (first
        | ((with_reducible show wpList _ _ _ (⟨none, Op.store 27 _ _, _, _, _, _⟩ :: _) _ _); refine wpList_store_row rfl 27 (.tmp 10) (.tmp 51) rfl (w2.heap.size) (drC x 0) rfl rfl 27 _ (RowC.new _ _ _) Hsx.out Hzx.out Hox.out ?_))
      refine (RDNew At mt ct vs ts _ (by omega) Htx.out (d_rd hv hM2.old) (d_txs ht hM2.old) (hK.below hM2.old)).mono ?_
      intro e w3 hP
      obtain ⟨rfl, hb3⟩ := Hnew.out _ _ _ hP
      have hM3 := (hM2.call hb3).put 27 #[.int .u8 0, .int .u8 0, .int .u8 0, .int .u8 0, .int .u8 0, .int .u8 0, .int .u8 0, .int .u8 0, .int .u8 0, .int .u8 0, .int .u8 0, .int .u8 0, .int .u8 0, .int .u8 0, .int .u8 0, .int .u8 0, .int .u8 0, .int .u8 0, .int .u8 0, .int .u8 0, .int .u8 0, .int .u8 0, .int .u8 0, .int .u8 0, .int .u8 0, .int .u8 0, .int .u8 0, .int .u8 0, .int .u8 0, .int .u8 0, .int .u8 0, .int .u8 0, .int .u64 0] (drC x 0)
      clear hP hb3 hM2
      go_wp2_with (first
        | ((with_reducible show wpList _ _ _ (⟨none, Op.store 27 _ _, _, _, _, _⟩ :: _) _ _); refine wpList_store_row rfl 27 (.tmp 12) (.tmp 56) rfl (w3.heap.size) (drC x 0) rfl rfl 27 _ (RowC.new _ _ _) Hsx.out Hzx.out Hox.out ?_)
        | ((with_reducible show wpList _ _ _ (⟨some 59, _, _, _, _, _⟩ :: _) _ _); refine wpList_loadC (by kernel_rfl) 27 (.tmp 5) rfl (w.heap.size) rfl 27 (drC s N) _ (hM3.get 2 rfl) Tryd.underlying27 rfl Hsd.out ?_))
      refine (hxP _ (hT.below hM3.old)).mono ?_
      rintro e w4 ⟨rfl, hb4⟩
      have hM4 := hM3.call hb4
      have hB4b := (hM4.box 24 #[.int .u8 0, .int .u8 0, .int .u8 0, .int .u8 0, .int .u8 0, .int .u8 0, .int .u8 0, .int .u8 0, .int .u8 0, .int .u8 0, .int .u8 0, .int .u8 0, .int .u8 0, .int .u8 0, .int .u8 0, .int .u8 0, .int .u8 0, .int .u8 0, .int .u8 0, .int .u8 0, .int .u8 0, .int .u8 0, .int .u8 0, .int .u8 0, .int .u8 0, .int .u8 0, .int .u8 0, .int .u8 0, .int .u8 0, .int .u8 0, .int .u8 0, .int .u8 0]).box 27 #[.int .u8 0, .int .u8 0, .int .u8 0, .int .u8 0, .int .u8 0, .int .u8 0, .int .u8 0, .int .u8 0, .int .u8 0, .int .u8 0, .int .u8 0, .int .u8 0, .int .u8 0, .int .u8 0, .int .u8 0, .int .u8 0, .int .u8 0, .int .u8 0, .int .u8 0, .int .u8 0, .int .u8 0, .int .u8 0, .int .u8 0, .int .u8 0, .int .u8 0, .int .u8 0, .int .u8 0, .int .u8 0, .int .u8 0, .int .u8 0, .int .u8 0, .int .u8 0, .int .u64 0]
      have hg4b := hM4.old.size
      have hn4b := fun p hp => Nat.ne_of_lt ((hM4.rows p hp).lt)
      have hm4b := fun p hp => Nat.ne_of_lt (((hM4.box 24 #[.int .u8 0, .int .u8 0, .int .u8 0, .int .u8 0, .int .u8 0, .int .u8 0, .int .u8 0, .int .u8 0, .int .u8 0, .int .u8 0, .int .u8 0, .int .u8 0, .int .u8 0, .int .u8 0, .int .u8 0, .int .u8 0, .int .u8 0, .int .u8 0, .int .u8 0, .int .u8 0, .int .u8 0, .int .u8 0, .int .u8 0, .int .u8 0, .int .u8 0, .int .u8 0, .int .u8 0, .int .u8 0, .int .u8 0, .int .u8 0, .int .u8 0, .int .u8 0]).rows p hp).lt)
      simp only [World.size_alloc] at hB4b hm4b
      have hM4b := Ms.set2 (ds := (keyC k)) (ds' := (drC y M)) hB4b.swap hg4b (by omega) (by omega) hn4b (fun p hp => hm4b p (List.mem_cons_of_mem _ hp))
      go_wp2_with (first
        | ((with_reducible show wpList _ _ _ (⟨none, Op.store 24 _ _, _, _, _, _⟩ :: _) _ _); refine wpList_store_row rfl 24 (.tmp 14) (.tmp 61) rfl (w4.heap.size) (keyC k) rfl rfl 24 _ (hB4b.get 1 rfl) Hsk.out Hzk.out Hok.out ?_)
        | ((with_reducible show wpList _ _ _ (⟨none, Op.store 27 _ _, _, _, _, _⟩ :: _) _ _); refine wpList_store_row rfl 27 (.tmp 15) (.tmp 62) rfl (w4.heap.size + 1) (drC y M) rfl rfl 27 _ ((hB4b.get 0 rfl).rowFar (by omega) _) Hsy.out Hzy.out Hoy.out ?_)
        | ((with_reducible show wpList _ _ _ (⟨some 65, _, _, _, _, _⟩ :: _) _ _); refine wpList_loadC (by kernel_rfl) 27 (.tmp 5) rfl (w.heap.size) rfl 27 (drC s N) _ (hM4b.get 4 rfl) Tryd.underlying27 rfl Hsd.out ?_))
      refine (hxR _ (hK.below hM4b.old)).mono ?_
      rintro e w5 ⟨rfl, hb5⟩
      have hM5 := hM4b.call hb5
      clear hB4b hg4b hn4b hm4b hM4 hM3 hM4b hb4 hb5
      have hB5b := (hM5.box 24 #[.int .u8 0, .int .u8 0, .int .u8 0, .int .u8 0, .int .u8 0, .int .u8 0, .int .u8 0, .int .u8 0, .int .u8 0, .int .u8 0, .int .u8 0, .int .u8 0, .int .u8 0, .int .u8 0, .int .u8 0, .int .u8 0, .int .u8 0, .int .u8 0, .int .u8 0, .int .u8 0, .int .u8 0, .int .u8 0, .int .u8 0, .int .u8 0, .int .u8 0, .int .u8 0, .int .u8 0, .int .u8 0, .int .u8 0, .int .u8 0, .int .u8 0, .int .u8 0]).box 27 #[.int .u8 0, .int .u8 0, .int .u8 0, .int .u8 0, .int .u8 0, .int .u8 0, .int .u8 0, .int .u8 0, .int .u8 0, .int .u8 0, .int .u8 0, .int .u8 0, .int .u8 0, .int .u8 0, .int .u8 0, .int .u8 0, .int .u8 0, .int .u8 0, .int .u8 0, .int .u8 0, .int .u8 0, .int .u8 0, .int .u8 0, .int .u8 0, .int .u8 0, .int .u8 0, .int .u8 0, .int .u8 0, .int .u8 0, .int .u8 0, .int .u8 0, .int .u8 0, .int .u64 0]
      have hg5b := hM5.old.size
      have hn5b := fun p hp => Nat.ne_of_lt ((hM5.rows p hp).lt)
      have hm5b := fun p hp => Nat.ne_of_lt (((hM5.box 24 #[.int .u8 0, .int .u8 0, .int .u8 0, .int .u8 0, .int .u8 0, .int .u8 0, .int .u8 0, .int .u8 0, .int .u8 0, .int .u8 0, .int .u8 0, .int .u8 0, .int .u8 0, .int .u8 0, .int .u8 0, .int .u8 0, .int .u8 0, .int .u8 0, .int .u8 0, .int .u8 0, .int .u8 0, .int .u8 0, .int .u8 0, .int .u8 0, .int .u8 0, .int .u8 0, .int .u8 0, .int .u8 0, .int .u8 0, .int .u8 0, .int .u8 0, .int .u8 0]).rows p hp).lt)
      simp only [World.size_alloc] at hB5b hm5b
      have hM5b := Ms.set2 (ds := (keyC k)) (ds' := (drC y M)) hB5b.swap hg5b (by omega) (by omega) hn5b (fun p hp => hm5b p (List.mem_cons_of_mem _ hp))
      go_wp2_with (first
        | ((with_reducible show wpList _ _ _ (⟨none, Op.store 24 _ _, _, _, _, _⟩ :: _) _ _); refine wpList_store_row rfl 24 (.tmp 17) (.tmp 67) rfl (w5.heap.size) (keyC k) rfl rfl 24 _ (hB5b.get 1 rfl) Hsk.out Hzk.out Hok.out ?_)
        | ((with_reducible show wpList _ _ _ (⟨none, Op.store 27 _ _, _, _, _, _⟩ :: _) _ _); refine wpList_store_row rfl 27 (.tmp 18) (.tmp 68) rfl (w5.heap.size + 1) (drC y M) rfl rfl 27 _ ((hB5b.get 0 rfl).rowFar (by omega) _) Hsy.out Hzy.out Hoy.out ?_)
        | ((with_reducible show wpList _ _ _ (⟨some 71, _, _, _, _, _⟩ :: _) _ _); refine wpList_loadC (by kernel_rfl) 27 (.tmp 5) rfl (w.heap.size) rfl 27 (drC s N) _ (hM5b.get 6 rfl) Tryd.underlying27 rfl Hsd.out ?_))
      refine (hMn s N n _ Hs.out hb hn1 hn2 (hT.below hM5b.old)).mono ?_
      intro e w6 hP
      obtain ⟨A6, c6, rfl, hb6, hk6⟩ := Hmany.out _ _ _ hP
      have hM6 := (hM5b.call hb6).put 27 #[.int .u8 0, .int .u8 0, .int .u8 0, .int .u8 0, .int .u8 0, .int .u8 0, .int .u8 0, .int .u8 0, .int .u8 0, .int .u8 0, .int .u8 0, .int .u8 0, .int .u8 0, .int .u8 0, .int .u8 0, .int .u8 0, .int .u8 0, .int .u8 0, .int .u8 0, .int .u8 0, .int .u8 0, .int .u8 0, .int .u8 0, .int .u8 0, .int .u8 0, .int .u8 0, .int .u8 0, .int .u8 0, .int .u8 0, .int .u8 0, .int .u8 0, .int .u8 0, .int .u64 0] (drC y' M')
      have bW6 : Below w6.heap.size w6 ((w6.alloc (.cells #[.int .u8 0, .int .u8 0, .int .u8 0, .int .u8 0, .int .u8 0, .int .u8 0, .int .u8 0, .int .u8 0, .int .u8 0, .int .u8 0, .int .u8 0, .int .u8 0, .int .u8 0, .int .u8 0, .int .u8 0, .int .u8 0, .int .u8 0, .int .u8 0, .int .u8 0, .int .u8 0, .int .u8 0, .int .u8 0, .int .u8 0, .int .u8 0, .int .u8 0, .int .u8 0, .int .u8 0, .int .u8 0, .int .u8 0, .int .u8 0, .int .u8 0, .int .u8 0, .int .u64 0] 27)).setRow w6.heap.size (drC y' M')) := below_setRow (d_al _ _) (Nat.le_refl _) _
      clear hP hb6 hM5b hM5 hB5b hg5b hn5b hm5b
      go_wp2_with (first
        | ((with_reducible show wpList _ _ _ (⟨none, Op.store 27 _ _, _, _, _, _⟩ :: _) _ _); refine wpList_store_row rfl 27 (.tmp 21) (.tmp 75) rfl (w6.heap.size) (drC y' M') rfl rfl 27 _ (RowC.new _ _ _) Hsm.out Hzm.out Hom.out ?_)
        | ((with_reducible show wpList _ _ _ (⟨some 78, _, _, _, _, _⟩ :: _) _ _); refine wpList_loadC (by kernel_rfl) 27 (.tmp 5) rfl (w.heap.size) rfl 27 (drC s N) _ (hM6.get 7 rfl) Tryd.underlying27 rfl Hsd.out ?_))
      refine (RDMany s N n _ Hs.out hn1 hn2 (hK.below hM6.old)).mono ?_
      intro e w7 hP
      obtain ⟨A7, c7, rfl, hb7, hk7⟩ := Hmany.out _ _ _ hP
      have hM7 := (hM6.call hb7).put 27 #[.int .u8 0, .int .u8 0, .int .u8 0, .int .u8 0, .int .u8 0, .int .u8 0, .int .u8 0, .int .u8 0, .int .u8 0, .int .u8 0, .int .u8 0, .int .u8 0, .int .u8 0, .int .u8 0, .int .u8 0, .int .u8 0, .int .u8 0, .int .u8 0, .int .u8 0, .int .u8 0, .int .u8 0, .int .u8 0, .int .u8 0, .int .u8 0, .int .u8 0, .int .u8 0, .int .u8 0, .int .u8 0, .int .u8 0, .int .u8 0, .int .u8 0, .int .u8 0, .int .u64 0] (drC y' M')
      have bW7 : Below w7.heap.size w7 ((w7.alloc (.cells #[.int .u8 0, .int .u8 0, .int .u8 0, .int .u8 0, .int .u8 0, .int .u8 0, .int .u8 0, .int .u8 0, .int .u8 0, .int .u8 0, .int .u8 0, .int .u8 0, .int .u8 0, .int .u8 0, .int .u8 0, .int .u8 0, .int .u8 0, .int .u8 0, .int .u8 0, .int .u8 0, .int .u8 0, .int .u8 0, .int .u8 0, .int .u8 0, .int .u8 0, .int .u8 0, .int .u8 0, .int .u8 0, .int .u8 0, .int .u8 0, .int .u8 0, .int .u8 0, .int .u64 0] 27)).setRow w7.heap.size (drC y' M')) := below_setRow (d_al _ _) (Nat.le_refl _) _
      have hk6 := ((hk6.below bW6).below hb7).below bW7
      have hk7 := hk7.below bW7
      clear hP hb7 bW6 bW7 hM6
      go_wp2_with (first
        | ((with_reducible show wpList _ _ _ (⟨none, Op.store 27 _ _, _, _, _, _⟩ :: _) _ _); refine wpList_store_row rfl 27 (.tmp 24) (.tmp 82) rfl (w7.heap.size) (drC y' M') rfl rfl 27 _ (RowC.new _ _ _) Hsm.out Hzm.out Hom.out ?_)
        | ((with_reducible show wpList _ _ _ (⟨some 85, _, _, _, _, _⟩ :: _) _ _); refine wpList_loadC (by kernel_rfl) 27 (.tmp 5) rfl (w.heap.size) rfl 27 (drC s N) _ (hM7.get 8 rfl) Tryd.underlying27 rfl Hsd.out ?_))
      refine (hfP (by omega) _ (hT.below hM7.old)).mono ?_
      rintro e w8 ⟨rfl, hb8⟩
      have hM8 := (hM7.call hb8).put 27 #[.int .u8 0, .int .u8 0, .int .u8 0, .int .u8 0, .int .u8 0, .int .u8 0, .int .u8 0, .int .u8 0, .int .u8 0, .int .u8 0, .int .u8 0, .int .u8 0, .int .u8 0, .int .u8 0, .int .u8 0, .int .u8 0, .int .u8 0, .int .u8 0, .int .u8 0, .int .u8 0, .int .u8 0, .int .u8 0, .int .u8 0, .int .u8 0, .int .u8 0, .int .u8 0, .int .u8 0, .int .u8 0, .int .u8 0, .int .u8 0, .int .u8 0, .int .u8 0, .int .u64 0] (drC z 0)
      have bW8 : Below w8.heap.size w8 ((w8.alloc (.cells #[.int .u8 0, .int .u8 0, .int .u8 0, .int .u8 0, .int .u8 0, .int .u8 0, .int .u8 0, .int .u8 0, .int .u8 0, .int .u8 0, .int .u8 0, .int .u8 0, .int .u8 0, .int .u8 0, .int .u8 0, .int .u8 0, .int .u8 0, .int .u8 0, .int .u8 0, .int .u8 0, .int .u8 0, .int .u8 0, .int .u8 0, .int .u8 0, .int .u8 0, .int .u8 0, .int .u8 0, .int .u8 0, .int .u8 0, .int .u8 0, .int .u8 0, .int .u8 0, .int .u64 0] 27)).setRow w8.heap.size (drC z 0)) := below_setRow (d_al _ _) (Nat.le_refl _) _
      have hk6 := (hk6.below hb8).below bW8
      have hk7 := (hk7.below hb8).below bW8
      clear hb8 bW8 hM7
      go_wp2_with (first
        | ((with_reducible show wpList _ _ _ (⟨none, Op.store 27 _ _, _, _, _, _⟩ :: _) _ _); refine wpList_store_row rfl 27 (.tmp 26) (.tmp 88) rfl (w8.heap.size) (drC z 0) rfl rfl 27 _ (RowC.new _ _ _) Hsz.out Hzz.out Hoz.out ?_)
        | ((with_reducible show wpList _ _ _ (⟨some 91, _, _, _, _, _⟩ :: _) _ _); refine wpList_loadC (by kernel_rfl) 27 (.tmp 5) rfl (w.heap.size) rfl 27 (drC s N) _ (hM8.get 9 rfl) Tryd.underlying27 rfl Hsd.out ?_))
      refine (hfR (by omega) _ (hK.below hM8.old)).mono ?_
      rintro e w9 ⟨rfl, hb9⟩
      have hM9 := (hM8.call hb9).put 27 #[.int .u8 0, .int .u8 0, .int .u8 0, .int .u8 0, .int .u8 0, .int .u8 0, .int .u8 0, .int .u8 0, .int .u8 0, .int .u8 0, .int .u8 0, .int .u8 0, .int .u8 0, .int .u8 0, .int .u8 0, .int .u8 0, .int .u8 0, .int .u8 0, .int .u8 0, .int .u8 0, .int .u8 0, .int .u8 0, .int .u8 0, .int .u8 0, .int .u8 0, .int .u8 0, .int .u8 0, .int .u8 0, .int .u8 0, .int .u8 0, .int .u8 0, .int .u8 0, .int .u64 0] (drC z 0)
      have bW9 : Below w9.heap.size w9 ((w9.alloc (.cells #[.int .u8 0, .int .u8 0, .int .u8 0, .int .u8 0, .int .u8 0, .int .u8 0, .int .u8 0, .int .u8 0, .int .u8 0, .int .u8 0, .int .u8 0, .int .u8 0, .int .u8 0, .int .u8 0, .int .u8 0, .int .u8 0, .int .u8 0, .int .u8 0, .int .u8 0, .int .u8 0, .int .u8 0, .int .u8 0, .int .u8 0, .int .u8 0, .int .u8 0, .int .u8 0, .int .u8 0, .int .u8 0, .int .u8 0, .int .u8 0, .int .u8 0, .int .u8 0, .int .u64 0] 27)).setRow w9.heap.size (drC z 0)) := below_setRow (d_al _ _) (Nat.le_refl _) _
      have hk6 := (hk6.below hb9).below bW9
      have hk7 := (hk7.below hb9).below bW9
      clear hb9 bW9 hM8
      go_upto_region 12 with ((with_reducible show wpList _ _ _ (⟨none, Op.store 27 _ _, _, _, _, _⟩ :: _) _ _); refine wpList_store_row rfl 27 (.tmp 28) (.tmp 94) rfl (w9.heap.size) (drC z 0) rfl rfl 27 _ (RowC.new _ _ _) Hsz.out Hzz.out Hoz.out ?_)
      try simp only [Act.put]
      refine wp_gen (fun wx => Ms w wx [(w9.heap.size, 27, (drC z 0)), (w8.heap.size, 27, (drC z 0)), (w7.heap.size, 27, (drC y' M')), (w6.heap.size, 27, (drC y' M')), (w5.heap.size, 24, (keyC k)), (w5.heap.size + 1, 27, (drC y M)), (w4.heap.size, 24, (keyC k)), (w4.heap.size + 1, 27, (drC y M)), (w3.heap.size, 27, (drC x 0)), (w2.heap.size, 27, (drC x 0)), (w.heap.size, 27, (drC s N))] ∧ KeysAt wx A6 m xs ∧ KeysAt wx A7 m xs) ⟨hM9, hk6, hk7⟩ ?_
      clear hM9 hk6 hk7
      rintro v1 ⟨hM, hk6, hk7⟩
      have hkeep : ∀ wx : World, Below v1.heap.size v1 wx → Ms w wx [(w9.heap.size, 27, (drC z 0)), (w8.heap.size, 27, (drC z 0)), (w7.heap.size, 27, (drC y' M')), (w6.heap.size, 27, (drC y' M')), (w5.heap.size, 24, (keyC k)), (w5.heap.size + 1, 27, (drC y M)), (w4.heap.size, 24, (keyC k)), (w4.heap.size + 1, 27, (drC y M)), (w3.heap.size, 27, (drC x 0)), (w2.heap.size, 27, (drC x 0)), (w.heap.size, 27, (drC s N))] := fun wx hb => hM.call hb
      have hud := Tryd.underlying27
      have huk := Tryd.underlying24
      have sx : (Tryd.prog.info? 27).map (·.size) = some (drC x 0).toList.length := by simpa using Hsx.out
      have sy : (Tryd.prog.info? 27).map (·.size) = some (drC y M).toList.length := by simpa using Hsy.out
      have sm : (Tryd.prog.info? 27).map (·.size) = some (drC y' M').toList.length := by simpa using Hsm.out
      have sz : (Tryd.prog.info? 27).map (·.size) = some (drC z 0).toList.length := by simpa using Hsz.out
      have sd : (Tryd.prog.info? 27).map (·.size) = some (drC s N).toList.length := by simpa using Hsd.out
      have sk : (Tryd.prog.info? 24).map (·.size) = some (keyC k).toList.length := by simpa using Hsk.out
      refine beginT (fun wx => Ms w wx [(w9.heap.size, 27, (drC z 0)), (w8.heap.size, 27, (drC z 0)), (w7.heap.size, 27, (drC y' M')), (w6.heap.size, 27, (drC y' M')), (w5.heap.size, 24, (keyC k)), (w5.heap.size + 1, 27, (drC y M)), (w4.heap.size, 24, (keyC k)), (w4.heap.size + 1, 27, (drC y M)), (w3.heap.size, 27, (drC x 0)), (w2.heap.size, 27, (drC x 0)), (w.heap.size, 27, (drC s N))]) 59 (by kernel_rfl) ?_
      have hS := hkeep _ (c_drew (c_refl _))
      refine takeD 0 (some 96) (.bool true) rfl rfl (by kernel_rfl) (by kernel_rfl) (by kernel_rfl) (by kernel_rfl) (fun _ _ _ h => h) (Or.inl ⟨by kernel_rfl, fun wx hSw => by go_simp⟩) hS ?_
      simp only [Act.put, List.setIfInBounds_toArray, List.set_cons_zero, List.set_cons_succ]
      refine takeD 1 (some 97) (.bool true) rfl rfl (by kernel_rfl) (by kernel_rfl) (by kernel_rfl) (by kernel_rfl) (fun _ _ _ h => h) (Or.inl ⟨by kernel_rfl, fun wx hSw => by go_simp⟩) hS ?_
      simp only [Act.put, List.setIfInBounds_toArray, List.set_cons_zero, List.set_cons_succ]
      refine loadT 2 (some 98) 27 (.tmp 10) (w2.heap.size) 0 (drC x 0).toList rfl rfl (by kernel_rfl) (by kernel_rfl) (by kernel_rfl) (by kernel_rfl) rfl (by kernel_rfl) rfl (fun wx hSw => (hSw.get 9 rfl).range) hud rfl sx (fun _ _ _ h => h) hS ?_
      simp only [Act.put, List.setIfInBounds_toArray, List.set_cons_zero, List.set_cons_succ, Array.toArray_toList]
      refine loadT 3 (some 99) 27 (.tmp 12) (w3.heap.size) 0 (drC x 0).toList rfl rfl (by kernel_rfl) (by kernel_rfl) (by kernel_rfl) (by kernel_rfl) rfl (by kernel_rfl) rfl (fun wx hSw => (hSw.get 8 rfl).range) hud rfl sx (fun _ _ _ h => h) hS ?_
      simp only [Act.put, List.setIfInBounds_toArray, List.set_cons_zero, List.set_cons_succ, Array.toArray_toList]
      refine takeD 4 (some 100) (.bool true) rfl rfl (by kernel_rfl) (by kernel_rfl) (by kernel_rfl) (by kernel_rfl) (fun _ _ _ h => h) (Or.inl ⟨by kernel_rfl, fun wx hSw => by go_simp⟩) hS ?_
      simp only [Act.put, List.setIfInBounds_toArray, List.set_cons_zero, List.set_cons_succ]
      refine takeD 5 (some 101) (.bool true) rfl rfl (by kernel_rfl) (by kernel_rfl) (by kernel_rfl) (by kernel_rfl) (fun _ _ _ h => h) (Or.inl ⟨by kernel_rfl, fun wx hSw => by go_simp⟩) hS ?_
      simp only [Act.put, List.setIfInBounds_toArray, List.set_cons_zero, List.set_cons_succ]
      refine takeD 6 (some 102) (.bool true) rfl rfl (by kernel_rfl) (by kernel_rfl) (by kernel_rfl) (by kernel_rfl) (fun _ _ _ h => h) (Or.inl ⟨by kernel_rfl, fun wx hSw => by go_simp⟩) hS ?_
      simp only [Act.put, List.setIfInBounds_toArray, List.set_cons_zero, List.set_cons_succ]
      refine takeD 7 (some 103) (.int .i64 ex) rfl rfl (by kernel_rfl) (by kernel_rfl) (by kernel_rfl) (by kernel_rfl) (fun _ _ _ h => h) (Or.inl ⟨by kernel_rfl, fun wx hSw => by go_simp⟩) hS ?_
      simp only [Act.put, List.setIfInBounds_toArray, List.set_cons_zero, List.set_cons_succ]
      refine takeD 8 (some 104) (.int .i64 ex) rfl rfl (by kernel_rfl) (by kernel_rfl) (by kernel_rfl) (by kernel_rfl) (fun _ _ _ h => h) (Or.inl ⟨by kernel_rfl, fun wx hSw => by go_simp⟩) hS ?_
      simp only [Act.put, List.setIfInBounds_toArray, List.set_cons_zero, List.set_cons_succ]
      refine takeD 9 (some 105) (.bool true) rfl rfl (by kernel_rfl) (by kernel_rfl) (by kernel_rfl) (by kernel_rfl) (fun _ _ _ h => h) (Or.inl ⟨by kernel_rfl, fun wx hSw => by go_simp⟩) hS ?_
      simp only [Act.put, List.setIfInBounds_toArray, List.set_cons_zero, List.set_cons_succ]
      refine takeD 10 (some 106) (.bool true) rfl rfl (by kernel_rfl) (by kernel_rfl) (by kernel_rfl) (by kernel_rfl) (fun _ _ _ h => h) (Or.inl ⟨by kernel_rfl, fun wx hSw => by go_simp⟩) hS ?_
      simp only [Act.put, List.setIfInBounds_toArray, List.set_cons_zero, List.set_cons_succ]
      refine takeD 11 (some 107) (.bool true) rfl rfl (by kernel_rfl) (by kernel_rfl) (by kernel_rfl) (by kernel_rfl) (fun _ _ _ h => h) (Or.inl ⟨by kernel_rfl, fun wx hSw => by go_simp⟩) hS ?_
      simp only [Act.put, List.setIfInBounds_toArray, List.set_cons_zero, List.set_cons_succ]
      refine loadT 12 (some 108) 24 (.tmp 14) (w4.heap.size) 0 (keyC k).toList rfl rfl (by kernel_rfl) (by kernel_rfl) (by kernel_rfl) (by kernel_rfl) rfl (by kernel_rfl) rfl (fun wx hSw => (hSw.get 6 rfl).range) huk rfl sk (fun _ _ _ h => h) hS ?_
      simp only [Act.put, List.setIfInBounds_toArray, List.set_cons_zero, List.set_cons_succ, Array.toArray_toList]
      refine loadT 13 (some 109) 24 (.tmp 17) (w5.heap.size) 0 (keyC k).toList rfl rfl (by kernel_rfl) (by kernel_rfl) (by kernel_rfl) (by kernel_rfl) rfl (by kernel_rfl) rfl (fun wx hSw => (hSw.get 4 rfl).range) huk rfl sk (fun _ _ _ h => h) hS ?_
      simp only [Act.put, List.setIfInBounds_toArray, List.set_cons_zero, List.set_cons_succ, Array.toArray_toList]
      refine takeD 14 (some 110) (.bool true) rfl rfl (by kernel_rfl) (by kernel_rfl) (by kernel_rfl) (by kernel_rfl) (fun _ _ _ h => h) (Or.inl ⟨by kernel_rfl, fun wx hSw => by go_simp⟩) hS ?_
      simp only [Act.put, List.setIfInBounds_toArray, List.set_cons_zero, List.set_cons_succ]
      refine takeD 15 (some 111) (.bool true) rfl rfl (by kernel_rfl) (by kernel_rfl) (by kernel_rfl) (by kernel_rfl) (fun _ _ _ h => h) (Or.inl ⟨by kernel_rfl, fun wx hSw => by go_simp⟩) hS ?_
      simp only [Act.put, List.setIfInBounds_toArray, List.set_cons_zero, List.set_cons_succ]
      refine takeD 16 (some 112) (.bool true) rfl rfl (by kernel_rfl) (by kernel_rfl) (by kernel_rfl) (by kernel_rfl) (fun _ _ _ h => h) (Or.inl ⟨by kernel_rfl, fun wx hSw => by go_simp⟩) hS ?_
      simp only [Act.put, List.setIfInBounds_toArray, List.set_cons_zero, List.set_cons_succ]
      refine loadT 17 (some 113) 27 (.tmp 15) (w4.heap.size + 1) 0 (drC y M).toList rfl rfl (by kernel_rfl) (by kernel_rfl) (by kernel_rfl) (by kernel_rfl) rfl (by kernel_rfl) rfl (fun wx hSw => (hSw.get 7 rfl).range) hud rfl sy (fun _ _ _ h => h) hS ?_
      simp only [Act.put, List.setIfInBounds_toArray, List.set_cons_zero, List.set_cons_succ, Array.toArray_toList]
      refine loadT 18 (some 114) 27 (.tmp 18) (w5.heap.size + 1) 0 (drC y M).toList rfl rfl (by kernel_rfl) (by kernel_rfl) (by kernel_rfl) (by kernel_rfl) rfl (by kernel_rfl) rfl (fun wx hSw => (hSw.get 5 rfl).range) hud rfl sy (fun _ _ _ h => h) hS ?_
      simp only [Act.put, List.setIfInBounds_toArray, List.set_cons_zero, List.set_cons_succ, Array.toArray_toList]
      refine takeD 19 (some 115) (.bool true) rfl rfl (by kernel_rfl) (by kernel_rfl) (by kernel_rfl) (by kernel_rfl) (fun _ _ _ h => h) (Or.inl ⟨by kernel_rfl, fun wx hSw => by go_simp⟩) hS ?_
      simp only [Act.put, List.setIfInBounds_toArray, List.set_cons_zero, List.set_cons_succ]
      refine takeD 20 (some 116) (.bool true) rfl rfl (by kernel_rfl) (by kernel_rfl) (by kernel_rfl) (by kernel_rfl) (fun _ _ _ h => h) (Or.inl ⟨by kernel_rfl, fun wx hSw => by go_simp⟩) hS ?_
      simp only [Act.put, List.setIfInBounds_toArray, List.set_cons_zero, List.set_cons_succ]
      refine takeD 21 (some 117) (.bool true) rfl rfl (by kernel_rfl) (by kernel_rfl) (by kernel_rfl) (by kernel_rfl) (fun _ _ _ h => h) (Or.inl ⟨by kernel_rfl, fun wx hSw => by go_simp⟩) hS ?_
      simp only [Act.put, List.setIfInBounds_toArray, List.set_cons_zero, List.set_cons_succ]
      refine takeD 22 (some 118) (.int .i64 er) rfl rfl (by kernel_rfl) (by kernel_rfl) (by kernel_rfl) (by kernel_rfl) (fun _ _ _ h => h) (Or.inl ⟨by kernel_rfl, fun wx hSw => by go_simp⟩) hS ?_
      simp only [Act.put, List.setIfInBounds_toArray, List.set_cons_zero, List.set_cons_succ]
      refine takeD 23 (some 119) (.int .i64 er) rfl rfl (by kernel_rfl) (by kernel_rfl) (by kernel_rfl) (by kernel_rfl) (fun _ _ _ h => h) (Or.inl ⟨by kernel_rfl, fun wx hSw => by go_simp⟩) hS ?_
      simp only [Act.put, List.setIfInBounds_toArray, List.set_cons_zero, List.set_cons_succ]
      refine takeD 24 (some 120) (.bool true) rfl rfl (by kernel_rfl) (by kernel_rfl) (by kernel_rfl) (by kernel_rfl) (fun _ _ _ h => h) (Or.inl ⟨by kernel_rfl, fun wx hSw => by go_simp⟩) hS ?_
      simp only [Act.put, List.setIfInBounds_toArray, List.set_cons_zero, List.set_cons_succ]
      refine takeD 25 (some 121) (.bool true) rfl rfl (by kernel_rfl) (by kernel_rfl) (by kernel_rfl) (by kernel_rfl) (fun _ _ _ h => h) (Or.inl ⟨by kernel_rfl, fun wx hSw => by go_simp⟩) hS ?_
      simp only [Act.put, List.setIfInBounds_toArray, List.set_cons_zero, List.set_cons_succ]
      refine takeD 26 (some 122) (.bool true) rfl rfl (by kernel_rfl) (by kernel_rfl) (by kernel_rfl) (by kernel_rfl) (fun _ _ _ h => h) (Or.inl ⟨by kernel_rfl, fun wx hSw => by go_simp⟩) hS ?_
      simp only [Act.put, List.setIfInBounds_toArray, List.set_cons_zero, List.set_cons_succ]
      refine takeD 27 (some 123) (.slice A6 m c6) rfl rfl (by kernel_rfl) (by kernel_rfl) (by kernel_rfl) (by kernel_rfl) (fun _ _ _ h => h) (Or.inl ⟨by kernel_rfl, fun wx hSw => by go_simp⟩) hS ?_
      simp only [Act.put, List.setIfInBounds_toArray, List.set_cons_zero, List.set_cons_succ]
      refine takeD 28 (some 124) (.slice A7 m c7) rfl rfl (by kernel_rfl) (by kernel_rfl) (by kernel_rfl) (by kernel_rfl) (fun _ _ _ h => h) (Or.inl ⟨by kernel_rfl, fun wx hSw => by go_simp⟩) hS ?_
      simp only [Act.put, List.setIfInBounds_toArray, List.set_cons_zero, List.set_cons_succ]
      refine oneT 29 (by kernel_rfl) rfl (fun K hK => ?_)
      go_simp
      refine (RDSame A6 A7 m c6 m c7 xs xs _ (by omega) (by omega) (hk6.below (by (repeat (first | exact c_refl _ | refine c_drew ?_ | refine c_alloc ?_ _ | refine c_row ?_ (by first | omega | exact Nat.le_refl _) _ | refine c_call ?_ (by assumption))); first | done | fail "open")) (hk7.below (by (repeat (first | exact c_refl _ | refine c_drew ?_ | refine c_alloc ?_ _ | refine c_row ?_ (by first | omega | exact Nat.le_refl _) _ | refine c_call ?_ (by assumption))); first | done | fail "open"))).mono ?_
      rintro e x1 ⟨rfl, hx1⟩
      rw [beq_self_eq_true]
      refine hK.out _ _ (fun _ => hkeep _ (by (repeat (first | exact c_refl _ | refine c_drew ?_ | refine c_alloc ?_ _ | refine c_row ?_ (by first | omega | exact Nat.le_refl _) _ | refine c_call ?_ (by assumption))); first | done | fail "open")) ?_
      clear hK K
      have hS1 := hkeep x1 (by (repeat (first | exact c_refl _ | refine c_drew ?_ | refine c_alloc ?_ _ | refine c_row ?_ (by first | omega | exact Nat.le_refl _) _ | refine c_call ?_ (by assumption))); first | done | fail "open")
      refine takeD 30 (some 126) (.bool true) rfl rfl (by kernel_rfl) (by kernel_rfl) (by kernel_rfl) (by kernel_rfl) (fun _ _ _ h => h) (Or.inl ⟨by kernel_rfl, fun wx hSw => by go_simp⟩) hS1 ?_
      simp only [Act.put, List.setIfInBounds_toArray, List.set_cons_zero, List.set_cons_succ]
      refine takeD 31 (some 127) (.bool true) rfl rfl (by kernel_rfl) (by kernel_rfl) (by kernel_rfl) (by kernel_rfl) (fun _ _ _ h => h) (Or.inl ⟨by kernel_rfl, fun wx hSw => by go_simp⟩) hS1 ?_
      simp only [Act.put, List.setIfInBounds_toArray, List.set_cons_zero, List.set_cons_succ]
      refine loadT 32 (some 128) 27 (.tmp 21) (w6.heap.size) 0 (drC y' M').toList rfl rfl (by kernel_rfl) (by kernel_rfl) (by kernel_rfl) (by kernel_rfl) rfl (by kernel_rfl) rfl (fun wx hSw => (hSw.get 3 rfl).range) hud rfl sm (fun _ _ _ h => h) hS1 ?_
      simp only [Act.put, List.setIfInBounds_toArray, List.set_cons_zero, List.set_cons_succ, Array.toArray_toList]
      refine loadT 33 (some 129) 27 (.tmp 24) (w7.heap.size) 0 (drC y' M').toList rfl rfl (by kernel_rfl) (by kernel_rfl) (by kernel_rfl) (by kernel_rfl) rfl (by kernel_rfl) rfl (fun wx hSw => (hSw.get 2 rfl).range) hud rfl sm (fun _ _ _ h => h) hS1 ?_
      simp only [Act.put, List.setIfInBounds_toArray, List.set_cons_zero, List.set_cons_succ, Array.toArray_toList]
      refine takeD 34 (some 130) (.bool true) rfl rfl (by kernel_rfl) (by kernel_rfl) (by kernel_rfl) (by kernel_rfl) (fun _ _ _ h => h) (Or.inl ⟨by kernel_rfl, fun wx hSw => by go_simp⟩) hS1 ?_
      simp only [Act.put, List.setIfInBounds_toArray, List.set_cons_zero, List.set_cons_succ]
      refine takeD 35 (some 131) (.bool true) rfl rfl (by kernel_rfl) (by kernel_rfl) (by kernel_rfl) (by kernel_rfl) (fun _ _ _ h => h) (Or.inl ⟨by kernel_rfl, fun wx hSw => by go_simp⟩) hS1 ?_
      simp only [Act.put, List.setIfInBounds_toArray, List.set_cons_zero, List.set_cons_succ]
      refine takeD 36 (some 132) (.bool true) rfl rfl (by kernel_rfl) (by kernel_rfl) (by kernel_rfl) (by kernel_rfl) (fun _ _ _ h => h) (Or.inl ⟨by kernel_rfl, fun wx hSw => by go_simp⟩) hS1 ?_
      simp only [Act.put, List.setIfInBounds_toArray, List.set_cons_zero, List.set_cons_succ]
      refine takeD 37 (some 133) (.int .i64 em) rfl rfl (by kernel_rfl) (by kernel_rfl) (by kernel_rfl) (by kernel_rfl) (fun _ _ _ h => h) (Or.inl ⟨by kernel_rfl, fun wx hSw => by go_simp⟩) hS1 ?_
      simp only [Act.put, List.setIfInBounds_toArray, List.set_cons_zero, List.set_cons_succ]
      refine takeD 38 (some 134) (.int .i64 em) rfl rfl (by kernel_rfl) (by kernel_rfl) (by kernel_rfl) (by kernel_rfl) (fun _ _ _ h => h) (Or.inl ⟨by kernel_rfl, fun wx hSw => by go_simp⟩) hS1 ?_
      simp only [Act.put, List.setIfInBounds_toArray, List.set_cons_zero, List.set_cons_succ]
      refine takeD 39 (some 135) (.bool true) rfl rfl (by kernel_rfl) (by kernel_rfl) (by kernel_rfl) (by kernel_rfl) (fun _ _ _ h => h) (Or.inl ⟨by kernel_rfl, fun wx hSw => by go_simp⟩) hS1 ?_
      simp only [Act.put, List.setIfInBounds_toArray, List.set_cons_zero, List.set_cons_succ]
      refine takeD 40 (some 136) (.bool true) rfl rfl (by kernel_rfl) (by kernel_rfl) (by kernel_rfl) (by kernel_rfl) (fun _ _ _ h => h) (Or.inl ⟨by kernel_rfl, fun wx hSw => by go_simp⟩) hS1 ?_
      simp only [Act.put, List.setIfInBounds_toArray, List.set_cons_zero, List.set_cons_succ]
      refine takeD 41 (some 137) (.bool true) rfl rfl (by kernel_rfl) (by kernel_rfl) (by kernel_rfl) (by kernel_rfl) (fun _ _ _ h => h) (Or.inl ⟨by kernel_rfl, fun wx hSw => by go_simp⟩) hS1 ?_
      simp only [Act.put, List.setIfInBounds_toArray, List.set_cons_zero, List.set_cons_succ]
      refine loadT 42 (some 138) 27 (.tmp 26) (w8.heap.size) 0 (drC z 0).toList rfl rfl (by kernel_rfl) (by kernel_rfl) (by kernel_rfl) (by kernel_rfl) rfl (by kernel_rfl) rfl (fun wx hSw => (hSw.get 1 rfl).range) hud rfl sz (fun _ _ _ h => h) hS1 ?_
      simp only [Act.put, List.setIfInBounds_toArray, List.set_cons_zero, List.set_cons_succ, Array.toArray_toList]
      refine loadT 43 (some 139) 27 (.tmp 28) (w9.heap.size) 0 (drC z 0).toList rfl rfl (by kernel_rfl) (by kernel_rfl) (by kernel_rfl) (by kernel_rfl) rfl (by kernel_rfl) rfl (fun wx hSw => (hSw.get 0 rfl).range) hud rfl sz (fun _ _ _ h => h) hS1 ?_
      simp only [Act.put, List.setIfInBounds_toArray, List.set_cons_zero, List.set_cons_succ, Array.toArray_toList]
      refine takeD 44 (some 140) (.bool true) rfl rfl (by kernel_rfl) (by kernel_rfl) (by kernel_rfl) (by kernel_rfl) (fun _ _ _ h => h) (Or.inl ⟨by kernel_rfl, fun wx hSw => by go_simp⟩) hS1 ?_
      simp only [Act.put, List.setIfInBounds_toArray, List.set_cons_zero, List.set_cons_succ]
      refine takeD 45 (some 141) (.bool true) rfl rfl (by kernel_rfl) (by kernel_rfl) (by kernel_rfl) (by kernel_rfl) (fun _ _ _ h => h) (Or.inl ⟨by kernel_rfl, fun wx hSw => by go_simp⟩) hS1 ?_
      simp only [Act.put, List.setIfInBounds_toArray, List.set_cons_zero, List.set_cons_succ]
      refine takeD 46 (some 142) (.bool true) rfl rfl (by kernel_rfl) (by kernel_rfl) (by kernel_rfl) (by kernel_rfl) (fun _ _ _ h => h) (Or.inl ⟨by kernel_rfl, fun wx hSw => by go_simp⟩) hS1 ?_
      simp only [Act.put, List.setIfInBounds_toArray, List.set_cons_zero, List.set_cons_succ]
      refine takeD 47 (some 143) (.int .i64 ez) rfl rfl (by kernel_rfl) (by kernel_rfl) (by kernel_rfl) (by kernel_rfl) (fun _ _ _ h => h) (Or.inl ⟨by kernel_rfl, fun wx hSw => by go_simp⟩) hS1 ?_
      simp only [Act.put, List.setIfInBounds_toArray, List.set_cons_zero, List.set_cons_succ]
      refine takeD 48 (some 144) (.int .i64 ez) rfl rfl (by kernel_rfl) (by kernel_rfl) (by kernel_rfl) (by kernel_rfl) (fun _ _ _ h => h) (Or.inl ⟨by kernel_rfl, fun wx hSw => by go_simp⟩) hS1 ?_
      simp only [Act.put, List.setIfInBounds_toArray, List.set_cons_zero, List.set_cons_succ]
      refine takeD 49 (some 145) (.bool true) rfl rfl (by kernel_rfl) (by kernel_rfl) (by kernel_rfl) (by kernel_rfl) (fun _ _ _ h => h) (Or.inl ⟨by kernel_rfl, fun wx hSw => by go_simp⟩) hS1 ?_
      simp only [Act.put, List.setIfInBounds_toArray, List.set_cons_zero, List.set_cons_succ]
      refine takeD 50 (some 146) (.bool true) rfl rfl (by kernel_rfl) (by kernel_rfl) (by kernel_rfl) (by kernel_rfl) (fun _ _ _ h => h) (Or.inl ⟨by kernel_rfl, fun wx hSw => by go_simp⟩) hS1 ?_
      simp only [Act.put, List.setIfInBounds_toArray, List.set_cons_zero, List.set_cons_succ]
      refine takeD 51 (some 147) (.bool true) rfl rfl (by kernel_rfl) (by kernel_rfl) (by kernel_rfl) (by kernel_rfl) (fun _ _ _ h => h) (Or.inl ⟨by kernel_rfl, fun wx hSw => by go_simp⟩) hS1 ?_
      simp only [Act.put, List.setIfInBounds_toArray, List.set_cons_zero, List.set_cons_succ]
      refine loadT 52 (some 148) 27 (.tmp 5) (w.heap.size) 0 (drC s N).toList rfl rfl (by kernel_rfl) (by kernel_rfl) (by kernel_rfl) (by kernel_rfl) rfl (by kernel_rfl) rfl (fun wx hSw => (hSw.get 10 rfl).range) hud rfl sd (fun _ _ _ h => h) hS1 ?_
      simp only [Act.put, List.setIfInBounds_toArray, List.set_cons_zero, List.set_cons_succ, Array.toArray_toList]
      refine loadT 54 (some 150) 27 (.tmp 5) (w.heap.size) 0 (drC s N).toList rfl rfl (by kernel_rfl) (by kernel_rfl) (by kernel_rfl) (by kernel_rfl) rfl (by kernel_rfl) rfl (fun wx hSw => (hSw.get 10 rfl).range) hud rfl sd (fun _ _ _ h => h) hS1 ?_
      simp only [Act.put, List.setIfInBounds_toArray, List.set_cons_zero, List.set_cons_succ, Array.toArray_toList]
      refine oneT 53 (by kernel_rfl) rfl (fun K hK => ?_)
      go_simp
      refine (hcC _).mono ?_
      rintro e x2 ⟨rfl, hx2⟩
      refine hK.out _ _ (fun _ => hkeep _ (by (repeat (first | exact c_refl _ | refine c_drew ?_ | refine c_alloc ?_ _ | refine c_row ?_ (by first | omega | exact Nat.le_refl _) _ | refine c_call ?_ (by assumption))); first | done | fail "open")) ?_
      clear hK K
      refine oneT 55 (by kernel_rfl) rfl (fun K hK => ?_)
      go_simp
      refine (hcR _).mono ?_
      rintro e x3 ⟨rfl, hx3⟩
      refine hK.out _ _ (fun _ => hkeep _ (by (repeat (first | exact c_refl _ | refine c_drew ?_ | refine c_alloc ?_ _ | refine c_row ?_ (by first | omega | exact Nat.le_refl _) _ | refine c_call ?_ (by assumption))); first | done | fail "open")) ?_
      clear hK K
      have hS2 := hkeep x3 (by (repeat (first | exact c_refl _ | refine c_drew ?_ | refine c_alloc ?_ _ | refine c_row ?_ (by first | omega | exact Nat.le_refl _) _ | refine c_call ?_ (by assumption))); first | done | fail "open")
      refine takeD 56 (some 152) (.bool true) rfl rfl (by kernel_rfl) (by kernel_rfl) (by kernel_rfl) (by kernel_rfl) (fun _ _ _ h => h) (Or.inl ⟨by kernel_rfl, fun wx hSw => by go_simp⟩) hS2 ?_
      simp only [Act.put, List.setIfInBounds_toArray, List.set_cons_zero, List.set_cons_succ]
      refine takeD 57 (some 153) (.bool true) rfl rfl (by kernel_rfl) (by kernel_rfl) (by kernel_rfl) (by kernel_rfl) (fun _ _ _ h => h) (Or.inl ⟨by kernel_rfl, fun wx hSw => by go_simp⟩) hS2 ?_
      simp only [Act.put, List.setIfInBounds_toArray, List.set_cons_zero, List.set_cons_succ]
      refine oneT 58 (by kernel_rfl) rfl (fun K hK => ?_)
      go_simp
      refine hK.out _ _ (fun _ => hkeep _ (by (repeat (first | exact c_refl _ | refine c_drew ?_ | refine c_alloc ?_ _ | refine c_row ?_ (by first | omega | exact Nat.le_refl _) _ | refine c_call ?_ (by assumption))); first | done | fail "open")) ?_
      clear hK K
      refine doneT (by kernel_rfl) ?_ _
      go_wp2_with fail
      go_ret
      exact ⟨rfl, hS2.old⟩
  · have h5' : ¬ 50 < n := h5
    go_wp2_with (go_at_call 8; refine (FewAll_any At mt ct vs ts _ _ (by omega) (d_rd hv hB1) (d_txs ht hB1)).mono ?_; rintro e wf ⟨bf, rfl, hbf0, rfl⟩; have hbf := Lib.hid hbf0; clear hbf0; cases bf)
    · go_ret
      exact ⟨rfl, hB1⟩
    obtain ⟨hm2, hfs⟩ := hbf.out (by first | rfl | trivial)
    have Htx := Lib.hid (few_txsD (show ts.length = mt by rw [← ht.1]; exact hv.len) hm2 hfs)
    clear hbf hfs
    refine (hN At mt ct vs ts _ hmt hct hm2 Htx.out (d_rd hv hB1) (d_txs ht hB1) (hT.below hB1)).mono ?_
    intro e w2 hP
    obtain ⟨rfl, hb2⟩ := Hnew.out _ _ _ hP
    have hM2 := (hM1.call hb2).put 27 #[.int .u8 0, .int .u8 0, .int .u8 0, .int .u8 0, .int .u8 0, .int .u8 0, .int .u8 0, .int .u8 0, .int .u8 0, .int .u8 0, .int .u8 0, .int .u8 0, .int .u8 0, .int .u8 0, .int .u8 0, .int .u8 0, .int .u8 0, .int .u8 0, .int .u8 0, .int .u8 0, .int .u8 0, .int .u8 0, .int .u8 0, .int .u8 0, .int .u8 0, .int .u8 0, .int .u8 0, .int .u8 0, .int .u8 0, .int .u8 0, .int .u8 0, .int .u8 0, .int .u64 0] (drC x 0)
    clear hP hb2
    go_wp2_with (first
      | ((with_reducible show wpList _ _ _ (⟨none, Op.store 27 _ _, _, _, _, _⟩ :: _) _ _); refine wpList_store_row rfl 27 (.tmp 10) (.tmp 51) rfl (w2.heap.size) (drC x 0) rfl rfl 27 _ (RowC.new _ _ _) Hsx.out Hzx.out Hox.out ?_))
    refine (RDNew At mt ct vs ts _ (by omega) Htx.out (d_rd hv hM2.old) (d_txs ht hM2.old) (hK.below hM2.old)).mono ?_
    intro e w3 hP
    obtain ⟨rfl, hb3⟩ := Hnew.out _ _ _ hP
    have hM3 := (hM2.call hb3).put 27 #[.int .u8 0, .int .u8 0, .int .u8 0, .int .u8 0, .int .u8 0, .int .u8 0, .int .u8 0, .int .u8 0, .int .u8 0, .int .u8 0, .int .u8 0, .int .u8 0, .int .u8 0, .int .u8 0, .int .u8 0, .int .u8 0, .int .u8 0, .int .u8 0, .int .u8 0, .int .u8 0, .int .u8 0, .int .u8 0, .int .u8 0, .int .u8 0, .int .u8 0, .int .u8 0, .int .u8 0, .int .u8 0, .int .u8 0, .int .u8 0, .int .u8 0, .int .u8 0, .int .u64 0] (drC x 0)
    clear hP hb3 hM2
    go_wp2_with (first
      | ((with_reducible show wpList _ _ _ (⟨none, Op.store 27 _ _, _, _, _, _⟩ :: _) _ _); refine wpList_store_row rfl 27 (.tmp 12) (.tmp 56) rfl (w3.heap.size) (drC x 0) rfl rfl 27 _ (RowC.new _ _ _) Hsx.out Hzx.out Hox.out ?_)
      | ((with_reducible show wpList _ _ _ (⟨some 59, _, _, _, _, _⟩ :: _) _ _); refine wpList_loadC (by kernel_rfl) 27 (.tmp 5) rfl (w.heap.size) rfl 27 (drC s N) _ (hM3.get 2 rfl) Tryd.underlying27 rfl Hsd.out ?_))
    refine (hxP _ (hT.below hM3.old)).mono ?_
    rintro e w4 ⟨rfl, hb4⟩
    have hM4 := hM3.call hb4
    have hB4b := (hM4.box 24 #[.int .u8 0, .int .u8 0, .int .u8 0, .int .u8 0, .int .u8 0, .int .u8 0, .int .u8 0, .int .u8 0, .int .u8 0, .int .u8 0, .int .u8 0, .int .u8 0, .int .u8 0, .int .u8 0, .int .u8 0, .int .u8 0, .int .u8 0, .int .u8 0, .int .u8 0, .int .u8 0, .int .u8 0, .int .u8 0, .int .u8 0, .int .u8 0, .int .u8 0, .int .u8 0, .int .u8 0, .int .u8 0, .int .u8 0, .int .u8 0, .int .u8 0, .int .u8 0]).box 27 #[.int .u8 0, .int .u8 0, .int .u8 0, .int .u8 0, .int .u8 0, .int .u8 0, .int .u8 0, .int .u8 0, .int .u8 0, .int .u8 0, .int .u8 0, .int .u8 0, .int .u8 0, .int .u8 0, .int .u8 0, .int .u8 0, .int .u8 0, .int .u8 0, .int .u8 0, .int .u8 0, .int .u8 0, .int .u8 0, .int .u8 0, .int .u8 0, .int .u8 0, .int .u8 0, .int .u8 0, .int .u8 0, .int .u8 0, .int .u8 0, .int .u8 0, .int .u8 0, .int .u64 0]
    have hg4b := hM4.old.size
    have hn4b := fun p hp => Nat.ne_of_lt ((hM4.rows p hp).lt)
    have hm4b := fun p hp => Nat.ne_of_lt (((hM4.box 24 #[.int .u8 0, .int .u8 0, .int .u8 0, .int .u8 0, .int .u8 0, .int .u8 0, .int .u8 0, .int .u8 0, .int .u8 0, .int .u8 0, .int .u8 0, .int .u8 0, .int .u8 0, .int .u8 0, .int .u8 0, .int .u8 0, .int .u8 0, .int .u8 0, .int .u8 0, .int .u8 0, .int .u8 0, .int .u8 0, .int .u8 0, .int .u8 0, .int .u8 0, .int .u8 0, .int .u8 0, .int .u8 0, .int .u8 0, .int .u8 0, .int .u8 0, .int .u8 0]).rows p hp).lt)
    simp only [World.size_alloc] at hB4b hm4b
    have hM4b := Ms.set2 (ds := (keyC k)) (ds' := (drC y M)) hB4b.swap hg4b (by omega) (by omega) hn4b (fun p hp => hm4b p (List.mem_cons_of_mem _ hp))
    go_wp2_with (first
      | ((with_reducible show wpList _ _ _ (⟨none, Op.store 24 _ _, _, _, _, _⟩ :: _) _ _); refine wpList_store_row rfl 24 (.tmp 14) (.tmp 61) rfl (w4.heap.size) (keyC k) rfl rfl 24 _ (hB4b.get 1 rfl) Hsk.out Hzk.out Hok.out ?_)
      | ((with_reducible show wpList _ _ _ (⟨none, Op.store 27 _ _, _, _, _, _⟩ :: _) _ _); refine wpList_store_row rfl 27 (.tmp 15) (.tmp 62) rfl (w4.heap.size + 1) (drC y M) rfl rfl 27 _ ((hB4b.get 0 rfl).rowFar (by omega) _) Hsy.out Hzy.out Hoy.out ?_)
      | ((with_reducible show wpList _ _ _ (⟨some 65, _, _, _, _, _⟩ :: _) _ _); refine wpList_loadC (by kernel_rfl) 27 (.tmp 5) rfl (w.heap.size) rfl 27 (drC s N) _ (hM4b.get 4 rfl) Tryd.underlying27 rfl Hsd.out ?_))
    refine (hxR _ (hK.below hM4b.old)).mono ?_
    rintro e w5 ⟨rfl, hb5⟩
    have hM5 := hM4b.call hb5
    clear hB4b hg4b hn4b hm4b hM4 hM3 hM4b hb4 hb5
    have hB5b := (hM5.box 24 #[.int .u8 0, .int .u8 0, .int .u8 0, .int .u8 0, .int .u8 0, .int .u8 0, .int .u8 0, .int .u8 0, .int .u8 0, .int .u8 0, .int .u8 0, .int .u8 0, .int .u8 0, .int .u8 0, .int .u8 0, .int .u8 0, .int .u8 0, .int .u8 0, .int .u8 0, .int .u8 0, .int .u8 0, .int .u8 0, .int .u8 0, .int .u8 0, .int .u8 0, .int .u8 0, .int .u8 0, .int .u8 0, .int .u8 0, .int .u8 0, .int .u8 0, .int .u8 0]).box 27 #[.int .u8 0, .int .u8 0, .int .u8 0, .int .u8 0, .int .u8 0, .int .u8 0, .int .u8 0, .int .u8 0, .int .u8 0, .int .u8 0, .int .u8 0, .int .u8 0, .int .u8 0, .int .u8 0, .int .u8 0, .int .u8 0, .int .u8 0, .int .u8 0, .int .u8 0, .int .u8 0, .int .u8 0, .int .u8 0, .int .u8 0, .int .u8 0, .int .u8 0, .int .u8 0, .int .u8 0, .int .u8 0, .int .u8 0, .int .u8 0, .int .u8 0, .int .u8 0, .int .u64 0]
    have hg5b := hM5.old.size
    have hn5b := fun p hp => Nat.ne_of_lt ((hM5.rows p hp).lt)
    have hm5b := fun p hp => Nat.ne_of_lt (((hM5.box 24 #[.int .u8 0, .int .u8 0, .int .u8 0, .int .u8 0, .int .u8 0, .int .u8 0, .int .u8 0, .int .u8 0, .int .u8 0, .int .u8 0, .int .u8 0, .int .u8 0, .int .u8 0, .int .u8 0, .int .u8 0, .int .u8 0, .int .u8 0, .int .u8 0, .int .u8 0, .int .u8 0, .int .u8 0, .int .u8 0, .int .u8 0, .int .u8 0, .int .u8 0, .int .u8 0, .int .u8 0, .int .u8 0, .int .u8 0, .int .u8 0, .int .u8 0, .int .u8 0]).rows p hp).lt)
    simp only [World.size_alloc] at hB5b hm5b
    have hM5b := Ms.set2 (ds := (keyC k)) (ds' := (drC y M)) hB5b.swap hg5b (by omega) (by omega) hn5b (fun p hp => hm5b p (List.mem_cons_of_mem _ hp))
    go_wp2_with (first
      | ((with_reducible show wpList _ _ _ (⟨none, Op.store 24 _ _, _, _, _, _⟩ :: _) _ _); refine wpList_store_row rfl 24 (.tmp 17) (.tmp 67) rfl (w5.heap.size) (keyC k) rfl rfl 24 _ (hB5b.get 1 rfl) Hsk.out Hzk.out Hok.out ?_)
      | ((with_reducible show wpList _ _ _ (⟨none, Op.store 27 _ _, _, _, _, _⟩ :: _) _ _); refine wpList_store_row rfl 27 (.tmp 18) (.tmp 68) rfl (w5.heap.size + 1) (drC y M) rfl rfl 27 _ ((hB5b.get 0 rfl).rowFar (by omega) _) Hsy.out Hzy.out Hoy.out ?_)
      | ((with_reducible show wpList _ _ _ (⟨some 71, _, _, _, _, _⟩ :: _) _ _); refine wpList_loadC (by kernel_rfl) 27 (.tmp 5) rfl (w.heap.size) rfl 27 (drC s N) _ (hM5b.get 6 rfl) Tryd.underlying27 rfl Hsd.out ?_))
    refine (hMn s N n _ Hs.out hb hn1 hn2 (hT.below hM5b.old)).mono ?_
    intro e w6 hP
    obtain ⟨A6, c6, rfl, hb6, hk6⟩ := Hmany.out _ _ _ hP
    have hM6 := (hM5b.call hb6).put 27 #[.int .u8 0, .int .u8 0, .int .u8 0, .int .u8 0, .int .u8 0, .int .u8 0, .int .u8 0, .int .u8 0, .int .u8 0, .int .u8 0, .int .u8 0, .int .u8 0, .int .u8 0, .int .u8 0, .int .u8 0, .int .u8 0, .int .u8 0, .int .u8 0, .int .u8 0, .int .u8 0, .int .u8 0, .int .u8 0, .int .u8 0, .int .u8 0, .int .u8 0, .int .u8 0, .int .u8 0, .int .u8 0, .int .u8 0, .int .u8 0, .int .u8 0, .int .u8 0, .int .u64 0] (drC y' M')
    have bW6 : Below w6.heap.size w6 ((w6.alloc (.cells #[.int .u8 0, .int .u8 0, .int .u8 0, .int .u8 0, .int .u8 0, .int .u8 0, .int .u8 0, .int .u8 0, .int .u8 0, .int .u8 0, .int .u8 0, .int .u8 0, .int .u8 0, .int .u8 0, .int .u8 0, .int .u8 0, .int .u8 0, .int .u8 0, .int .u8 0, .int .u8 0, .int .u8 0, .int .u8 0, .int .u8 0, .int .u8 0, .int .u8 0, .int .u8 0, .int .u8 0, .int .u8 0, .int .u8 0, .int .u8 0, .int .u8 0, .int .u8 0, .int .u64 0] 27)).setRow w6.heap.size (drC y' M')) := below_setRow (d_al _ _) (Nat.le_refl _) _
    clear hP hb6 hM5b hM5 hB5b hg5b hn5b hm5b
    go_wp2_with (first
      | ((with_reducible show wpList _ _ _ (⟨none, Op.store 27 _ _, _, _, _, _⟩ :: _) _ _); refine wpList_store_row rfl 27 (.tmp 21) (.tmp 75) rfl (w6.heap.size) (drC y' M') rfl rfl 27 _ (RowC.new _ _ _) Hsm.out Hzm.out Hom.out ?_)
      | ((with_reducible show wpList _ _ _ (⟨some 78, _, _, _, _, _⟩ :: _) _ _); refine wpList_loadC (by kernel_rfl) 27 (.tmp 5) rfl (w.heap.size) rfl 27 (drC s N) _ (hM6.get 7 rfl) Tryd.underlying27 rfl Hsd.out ?_))
    refine (RDMany s N n _ Hs.out hn1 hn2 (hK.below hM6.old)).mono ?_
    intro e w7 hP
    obtain ⟨A7, c7, rfl, hb7, hk7⟩ := Hmany.out _ _ _ hP
    have hM7 := (hM6.call hb7).put 27 #[.int .u8 0, .int .u8 0, .int .u8 0, .int .u8 0, .int .u8 0, .int .u8 0, .int .u8 0, .int .u8 0, .int .u8 0, .int .u8 0, .int .u8 0, .int .u8 0, .int .u8 0, .int .u8 0, .int .u8 0, .int .u8 0, .int .u8 0, .int .u8 0, .int .u8 0, .int .u8 0, .int .u8 0, .int .u8 0, .int .u8 0, .int .u8 0, .int .u8 0, .int .u8 0, .int .u8 0, .int .u8 0, .int .u8 0, .int .u8 0, .int .u8 0, .int .u8 0, .int .u64 0] (drC y' M')
    have bW7 : Below w7.heap.size w7 ((w7.alloc (.cells #[.int .u8 0, .int .u8 0, .int .u8 0, .int .u8 0, .int .u8 0, .int .u8 0, .int .u8 0, .int .u8 0, .int .u8 0, .int .u8 0, .int .u8 0, .int .u8 0, .int .u8 0, .int .u8 0, .int .u8 0, .int .u8 0, .int .u8 0, .int .u8 0, .int .u8 0, .int .u8 0, .int .u8 0, .int .u8 0, .int .u8 0, .int .u8 0, .int .u8 0, .int .u8 0, .int .u8 0, .int .u8 0, .int .u8 0, .int .u8 0, .int .u8 0, .int .u8 0, .int .u64 0] 27)).setRow w7.heap.size (drC y' M')) := below_setRow (d_al _ _) (Nat.le_refl _) _
    have hk6 := ((hk6.below bW6).below hb7).below bW7
    have hk7 := hk7.below bW7
    clear hP hb7 bW6 bW7 hM6
    go_wp2_with (first
      | ((with_reducible show wpList _ _ _ (⟨none, Op.store 27 _ _, _, _, _, _⟩ :: _) _ _); refine wpList_store_row rfl 27 (.tmp 24) (.tmp 82) rfl (w7.heap.size) (drC y' M') rfl rfl 27 _ (RowC.new _ _ _) Hsm.out Hzm.out Hom.out ?_)
      | ((with_reducible show wpList _ _ _ (⟨some 85, _, _, _, _, _⟩ :: _) _ _); refine wpList_loadC (by kernel_rfl) 27 (.tmp 5) rfl (w.heap.size) rfl 27 (drC s N) _ (hM7.get 8 rfl) Tryd.underlying27 rfl Hsd.out ?_))
    refine (hfP (by omega) _ (hT.below hM7.old)).mono ?_
    rintro e w8 ⟨rfl, hb8⟩
    have hM8 := (hM7.call hb8).put 27 #[.int .u8 0, .int .u8 0, .int .u8 0, .int .u8 0, .int .u8 0, .int .u8 0, .int .u8 0, .int .u8 0, .int .u8 0, .int .u8 0, .int .u8 0, .int .u8 0, .int .u8 0, .int .u8 0, .int .u8 0, .int .u8 0, .int .u8 0, .int .u8 0, .int .u8 0, .int .u8 0, .int .u8 0, .int .u8 0, .int .u8 0, .int .u8 0, .int .u8 0, .int .u8 0, .int .u8 0, .int .u8 0, .int .u8 0, .int .u8 0, .int .u8 0, .int .u8 0, .int .u64 0] (drC z 0)
    have bW8 : Below w8.heap.size w8 ((w8.alloc (.cells #[.int .u8 0, .int .u8 0, .int .u8 0, .int .u8 0, .int .u8 0, .int .u8 0, .int .u8 0, .int .u8 0, .int .u8 0, .int .u8 0, .int .u8 0, .int .u8 0, .int .u8 0, .int .u8 0, .int .u8 0, .int .u8 0, .int .u8 0, .int .u8 0, .int .u8 0, .int .u8 0, .int .u8 0, .int .u8 0, .int .u8 0, .int .u8 0, .int .u8 0, .int .u8 0, .int .u8 0, .int .u8 0, .int .u8 0, .int .u8 0, .int .u8 0, .int .u8 0, .int .u64 0] 27)).setRow w8.heap.size (drC z 0)) := below_setRow (d_al _ _) (Nat.le_refl _) _
    have hk6 := (hk6.below hb8).below bW8
    have hk7 := (hk7.below hb8).below bW8
    clear hb8 bW8 hM7
    go_wp2_with (first
      | ((with_reducible show wpList _ _ _ (⟨none, Op.store 27 _ _, _, _, _, _⟩ :: _) _ _); refine wpList_store_row rfl 27 (.tmp 26) (.tmp 88) rfl (w8.heap.size) (drC z 0) rfl rfl 27 _ (RowC.new _ _ _) Hsz.out Hzz.out Hoz.out ?_)
      | ((with_reducible show wpList _ _ _ (⟨some 91, _, _, _, _, _⟩ :: _) _ _); refine wpList_loadC (by kernel_rfl) 27 (.tmp 5) rfl (w.heap.size) rfl 27 (drC s N) _ (hM8.get 9 rfl) Tryd.underlying27 rfl Hsd.out ?_))
    refine (hfR (by omega) _ (hK.below hM8.old)).mono ?_
    rintro e w9 ⟨rfl, hb9⟩
    have hM9 := (hM8.call hb9).put 27 #[.int .u8 0, .int .u8 0, .int .u8 0, .int .u8 0, .int .u8 0, .int .u8 0, .int .u8 0, .int .u8 0, .int .u8 0, .int .u8 0, .int .u8 0, .int .u8 0, .int .u8 0, .int .u8 0, .int .u8 0, .int .u8 0, .int .u8 0, .int .u8 0, .int .u8 0, .int .u8 0, .int .u8 0, .int .u8 0, .int .u8 0, .int .u8 0, .int .u8 0, .int .u8 0, .int .u8 0, .int .u8 0, .int .u8 0, .int .u8 0, .int .u8 0, .int .u8 0, .int .u64 0] (drC z 0)
    have bW9 : Below w9.heap.size w9 ((w9.alloc (.cells #[.int .u8 0, .int .u8 0, .int .u8 0, .int .u8 0, .int .u8 0, .int .u8 0, .int .u8 0, .int .u8 0, .int .u8 0, .int .u8 0, .int .u8 0, .int .u8 0, .int .u8 0, .int .u8 0, .int .u8 0, .int .u8 0, .int .u8 0, .int .u8 0, .int .u8 0, .int .u8 0, .int .u8 0, .int .u8 0, .int .u8 0, .int .u8 0, .int .u8 0, .int .u8 0, .int .u8 0, .int .u8 0, .int .u8 0, .int .u8 0, .int .u8 0, .int .u8 0, .int .u64 0] 27)).setRow w9.heap.size (drC z 0)) := below_setRow (d_al _ _) (Nat.le_refl _) _
    have hk6 := (hk6.below hb9).below bW9
    have hk7 := (hk7.below hb9).below bW9
    clear hb9 bW9 hM8
    go_upto_region 12 with ((with_reducible show wpList _ _ _ (⟨none, Op.store 27 _ _, _, _, _, _⟩ :: _) _ _); refine wpList_store_row rfl 27 (.tmp 28) (.tmp 94) rfl (w9.heap.size) (drC z 0) rfl rfl 27 _ (RowC.new _ _ _) Hsz.out Hzz.out Hoz.out ?_)
    try simp only [Act.put]
    refine wp_gen (fun wx => Ms w wx [(w9.heap.size, 27, (drC z 0)), (w8.heap.size, 27, (drC z 0)), (w7.heap.size, 27, (drC y' M')), (w6.heap.size, 27, (drC y' M')), (w5.heap.size, 24, (keyC k)), (w5.heap.size + 1, 27, (drC y M)), (w4.heap.size, 24, (keyC k)), (w4.heap.size + 1, 27, (drC y M)), (w3.heap.size, 27, (drC x 0)), (w2.heap.size, 27, (drC x 0)), (w.heap.size, 27, (drC s N))] ∧ KeysAt wx A6 m xs ∧ KeysAt wx A7 m xs) ⟨hM9, hk6, hk7⟩ ?_
    clear hM9 hk6 hk7
    rintro v1 ⟨hM, hk6, hk7⟩
    have hkeep : ∀ wx : World, Below v1.heap.size v1 wx → Ms w wx [(w9.heap.size, 27, (drC z 0)), (w8.heap.size, 27, (drC z 0)), (w7.heap.size, 27, (drC y' M')), (w6.heap.size, 27, (drC y' M')), (w5.heap.size, 24, (keyC k)), (w5.heap.size + 1, 27, (drC y M)), (w4.heap.size, 24, (keyC k)), (w4.heap.size + 1, 27, (drC y M)), (w3.heap.size, 27, (drC x 0)), (w2.heap.size, 27, (drC x 0)), (w.heap.size, 27, (drC s N))] := fun wx hb => hM.call hb
    have hud := Tryd.underlying27
    have huk := Tryd.underlying24
    have sx : (Tryd.prog.info? 27).map (·.size) = some (drC x 0).toList.length := by simpa using Hsx.out
    have sy : (Tryd.prog.info? 27).map (·.size) = some (drC y M).toList.length := by simpa using Hsy.out
    have sm : (Tryd.prog.info? 27).map (·.size) = some (drC y' M').toList.length := by simpa using Hsm.out
    have sz : (Tryd.prog.info? 27).map (·.size) = some (drC z 0).toList.length := by simpa using Hsz.out
    have sd : (Tryd.prog.info? 27).map (·.size) = some (drC s N).toList.length := by simpa using Hsd.out
    have sk : (Tryd.prog.info? 24).map (·.size) = some (keyC k).toList.length := by simpa using Hsk.out
    refine beginT (fun wx => Ms w wx [(w9.heap.size, 27, (drC z 0)), (w8.heap.size, 27, (drC z 0)), (w7.heap.size, 27, (drC y' M')), (w6.heap.size, 27, (drC y' M')), (w5.heap.size, 24, (keyC k)), (w5.heap.size + 1, 27, (drC y M)), (w4.heap.size, 24, (keyC k)), (w4.heap.size + 1, 27, (drC y M)), (w3.heap.size, 27, (drC x 0)), (w2.heap.size, 27, (drC x 0)), (w.heap.size, 27, (drC s N))]) 59 (by kernel_rfl) ?_
    have hS := hkeep _ (c_drew (c_refl _))
    refine takeD 0 (some 96) (.bool true) rfl rfl (by kernel_rfl) (by kernel_rfl) (by kernel_rfl) (by kernel_rfl) (fun _ _ _ h => h) (Or.inl ⟨by kernel_rfl, fun wx hSw => by go_simp⟩) hS ?_
    simp only [Act.put, List.setIfInBounds_toArray, List.set_cons_zero, List.set_cons_succ]
    refine takeD 1 (some 97) (.bool true) rfl rfl (by kernel_rfl) (by kernel_rfl) (by kernel_rfl) (by kernel_rfl) (fun _ _ _ h => h) (Or.inl ⟨by kernel_rfl, fun wx hSw => by go_simp⟩) hS ?_
    simp only [Act.put, List.setIfInBounds_toArray, List.set_cons_zero, List.set_cons_succ]
    refine loadT 2 (some 98) 27 (.tmp 10) (w2.heap.size) 0 (drC x 0).toList rfl rfl (by kernel_rfl) (by kernel_rfl) (by kernel_rfl) (by kernel_rfl) rfl (by kernel_rfl) rfl (fun wx hSw => (hSw.get 9 rfl).range) hud rfl sx (fun _ _ _ h => h) hS ?_
    simp only [Act.put, List.setIfInBounds_toArray, List.set_cons_zero, List.set_cons_succ, Array.toArray_toList]
    refine loadT 3 (some 99) 27 (.tmp 12) (w3.heap.size) 0 (drC x 0).toList rfl rfl (by kernel_rfl) (by kernel_rfl) (by kernel_rfl) (by kernel_rfl) rfl (by kernel_rfl) rfl (fun wx hSw => (hSw.get 8 rfl).range) hud rfl sx (fun _ _ _ h => h) hS ?_
    simp only [Act.put, List.setIfInBounds_toArray, List.set_cons_zero, List.set_cons_succ, Array.toArray_toList]
    refine takeD 4 (some 100) (.bool true) rfl rfl (by kernel_rfl) (by kernel_rfl) (by kernel_rfl) (by kernel_rfl) (fun _ _ _ h => h) (Or.inl ⟨by kernel_rfl, fun wx hSw => by go_simp⟩) hS ?_
    simp only [Act.put, List.setIfInBounds_toArray, List.set_cons_zero, List.set_cons_succ]
    refine takeD 5 (some 101) (.bool true) rfl rfl (by kernel_rfl) (by kernel_rfl) (by kernel_rfl) (by kernel_rfl) (fun _ _ _ h => h) (Or.inl ⟨by kernel_rfl, fun wx hSw => by go_simp⟩) hS ?_
    simp only [Act.put, List.setIfInBounds_toArray, List.set_cons_zero, List.set_cons_succ]
    refine takeD 6 (some 102) (.bool true) rfl rfl (by kernel_rfl) (by kernel_rfl) (by kernel_rfl) (by kernel_rfl) (fun _ _ _ h => h) (Or.inl ⟨by kernel_rfl, fun wx hSw => by go_simp⟩) hS ?_
    simp only [Act.put, List.setIfInBounds_toArray, List.set_cons_zero, List.set_cons_succ]
    refine takeD 7 (some 103) (.int .i64 ex) rfl rfl (by kernel_rfl) (by kernel_rfl) (by kernel_rfl) (by kernel_rfl) (fun _ _ _ h => h) (Or.inl ⟨by kernel_rfl, fun wx hSw => by go_simp⟩) hS ?_
    simp only [Act.put, List.setIfInBounds_toArray, List.set_cons_zero, List.set_cons_succ]
    refine takeD 8 (some 104) (.int .i64 ex) rfl rfl (by kernel_rfl) (by kernel_rfl) (by kernel_rfl) (by kernel_rfl) (fun _ _ _ h => h) (Or.inl ⟨by kernel_rfl, fun wx hSw => by go_simp⟩) hS ?_
    simp only [Act.put, List.setIfInBounds_toArray, List.set_cons_zero, List.set_cons_succ]
    refine takeD 9 (some 105) (.bool true) rfl rfl (by kernel_rfl) (by kernel_rfl) (by kernel_rfl) (by kernel_rfl) (fun _ _ _ h => h) (Or.inl ⟨by kernel_rfl, fun wx hSw => by go_simp⟩) hS ?_
    simp only [Act.put, List.setIfInBounds_toArray, List.set_cons_zero, List.set_cons_succ]
    refine takeD 10 (some 106) (.bool true) rfl rfl (by kernel_rfl) (by kernel_rfl) (by kernel_rfl) (by kernel_rfl) (fun _ _ _ h => h) (Or.inl ⟨by kernel_rfl, fun wx hSw => by go_simp⟩) hS ?_
    simp only [Act.put, List.setIfInBounds_toArray, List.set_cons_zero, List.set_cons_succ]
    refine takeD 11 (some 107) (.bool true) rfl rfl (by kernel_rfl) (by kernel_rfl) (by kernel_rfl) (by kernel_rfl) (fun _ _ _ h => h) (Or.inl ⟨by kernel_rfl, fun wx hSw => by go_simp⟩) hS ?_
    simp only [Act.put, List.setIfInBounds_toArray, List.set_cons_zero, List.set_cons_succ]
    refine loadT 12 (some 108) 24 (.tmp 14) (w4.heap.size) 0 (keyC k).toList rfl rfl (by kernel_rfl) (by kernel_rfl) (by kernel_rfl) (by kernel_rfl) rfl (by kernel_rfl) rfl (fun wx hSw => (hSw.get 6 rfl).range) huk rfl sk (fun _ _ _ h => h) hS ?_
    simp only [Act.put, List.setIfInBounds_toArray, List.set_cons_zero, List.set_cons_succ, Array.toArray_toList]
    refine loadT 13 (some 109) 24 (.tmp 17) (w5.heap.size) 0 (keyC k).toList rfl rfl (by kernel_rfl) (by kernel_rfl) (by kernel_rfl) (by kernel_rfl) rfl (by kernel_rfl) rfl (fun wx hSw => (hSw.get 4 rfl).range) huk rfl sk (fun _ _ _ h => h) hS ?_
    simp only [Act.put, List.setIfInBounds_toArray, List.set_cons_zero, List.set_cons_succ, Array.toArray_toList]
    refine takeD 14 (some 110) (.bool true) rfl rfl (by kernel_rfl) (by kernel_rfl) (by kernel_rfl) (by kernel_rfl) (fun _ _ _ h => h) (Or.inl ⟨by kernel_rfl, fun wx hSw => by go_simp⟩) hS ?_
    simp only [Act.put, List.setIfInBounds_toArray, List.set_cons_zero, List.set_cons_succ]
    refine takeD 15 (some 111) (.bool true) rfl rfl (by kernel_rfl) (by kernel_rfl) (by kernel_rfl) (by kernel_rfl) (fun _ _ _ h => h) (Or.inl ⟨by kernel_rfl, fun wx hSw => by go_simp⟩) hS ?_
    simp only [Act.put, List.setIfInBounds_toArray, List.set_cons_zero, List.set_cons_succ]
    refine takeD 16 (some 112) (.bool true) rfl rfl (by kernel_rfl) (by kernel_rfl) (by kernel_rfl) (by kernel_rfl) (fun _ _ _ h => h) (Or.inl ⟨by kernel_rfl, fun wx hSw => by go_simp⟩) hS ?_
    simp only [Act.put, List.setIfInBounds_toArray, List.set_cons_zero, List.set_cons_succ]
    refine loadT 17 (some 113) 27 (.tmp 15) (w4.heap.size + 1) 0 (drC y M).toList rfl rfl (by kernel_rfl) (by kernel_rfl) (by kernel_rfl) (by kernel_rfl) rfl (by kernel_rfl) rfl (fun wx hSw => (hSw.get 7 rfl).range) hud rfl sy (fun _ _ _ h => h) hS ?_
    simp only [Act.put, List.setIfInBounds_toArray, List.set_cons_zero, List.set_cons_succ, Array.toArray_toList]
    refine loadT 18 (some 114) 27 (.tmp 18) (w5.heap.size + 1) 0 (drC y M).toList rfl rfl (by kernel_rfl) (by kernel_rfl) (by kernel_rfl) (by kernel_rfl) rfl (by kernel_rfl) rfl (fun wx hSw => (hSw.get 5 rfl).range) hud rfl sy (fun _ _ _ h => h) hS ?_
    simp only [Act.put, List.setIfInBounds_toArray, List.set_cons_zero, List.set_cons_succ, Array.toArray_toList]
    refine takeD 19 (some 115) (.bool true) rfl rfl (by kernel_rfl) (by kernel_rfl) (by kernel_rfl) (by kernel_rfl) (fun _ _ _ h => h) (Or.inl ⟨by kernel_rfl, fun wx hSw => by go_simp⟩) hS ?_
    simp only [Act.put, List.setIfInBounds_toArray, List.set_cons_zero, List.set_cons_succ]
    refine takeD 20 (some 116) (.bool true) rfl rfl (by kernel_rfl) (by kernel_rfl) (by kernel_rfl) (by kernel_rfl) (fun _ _ _ h => h) (Or.inl ⟨by kernel_rfl, fun wx hSw => by go_simp⟩) hS ?_
    simp only [Act.put, List.setIfInBounds_toArray, List.set_cons_zero, List.set_cons_succ]
    refine takeD 21 (some 117) (.bool true) rfl rfl (by kernel_rfl) (by kernel_rfl) (by kernel_rfl) (by kernel_rfl) (fun _ _ _ h => h) (Or.inl ⟨by kernel_rfl, fun wx hSw => by go_simp⟩) hS ?_
    simp only [Act.put, List.setIfInBounds_toArray, List.set_cons_zero, List.set_cons_succ]
    refine takeD 22 (some 118) (.int .i64 er) rfl rfl (by kernel_rfl) (by kernel_rfl) (by kernel_rfl) (by kernel_rfl) (fun _ _ _ h => h) (Or.inl ⟨by kernel_rfl, fun wx hSw => by go_simp⟩) hS ?_
    simp only [Act.put, List.setIfInBounds_toArray, List.set_cons_zero, List.set_cons_succ]
    refine takeD 23 (some 119) (.int .i64 er) rfl rfl (by kernel_rfl) (by kernel_rfl) (by kernel_rfl) (by kernel_rfl) (fun _ _ _ h => h) (Or.inl ⟨by kernel_rfl, fun wx hSw => by go_simp⟩) hS ?_
    simp only [Act.put, List.setIfInBounds_toArray, List.set_cons_zero, List.set_cons_succ]
    refine takeD 24 (some 120) (.bool true) rfl rfl (by kernel_rfl) (by kernel_rfl) (by kernel_rfl) (by kernel_rfl) (fun _ _ _ h => h) (Or.inl ⟨by kernel_rfl, fun wx hSw => by go_simp⟩) hS ?_
    simp only [Act.put, List.setIfInBounds_toArray, List.set_cons_zero, List.set_cons_succ]
    refine takeD 25 (some 121) (.bool true) rfl rfl (by kernel_rfl) (by kernel_rfl) (by kernel_rfl) (by kernel_rfl) (fun _ _ _ h => h) (Or.inl ⟨by kernel_rfl, fun wx hSw => by go_simp⟩) hS ?_
    simp only [Act.put, List.setIfInBounds_toArray, List.set_cons_zero, List.set_cons_succ]
    refine takeD 26 (some 122) (.bool true) rfl rfl (by kernel_rfl) (by kernel_rfl) (by kernel_rfl) (by kernel_rfl) (fun _ _ _ h => h) (Or.inl ⟨by kernel_rfl, fun wx hSw => by go_simp⟩) hS ?_
    simp only [Act.put, List.setIfInBounds_toArray, List.set_cons_zero, List.set_cons_succ]
    refine takeD 27 (some 123) (.slice A6 m c6) rfl rfl (by kernel_rfl) (by kernel_rfl) (by kernel_rfl) (by kernel_rfl) (fun _ _ _ h => h) (Or.inl ⟨by kernel_rfl, fun wx hSw => by go_simp⟩) hS ?_
    simp only [Act.put, List.setIfInBounds_toArray, List.set_cons_zero, List.set_cons_succ]
    refine takeD 28 (some 124) (.slice A7 m c7) rfl rfl (by kernel_rfl) (by kernel_rfl) (by kernel_rfl) (by kernel_rfl) (fun _ _ _ h => h) (Or.inl ⟨by kernel_rfl, fun wx hSw => by go_simp⟩) hS ?_
    simp only [Act.put, List.setIfInBounds_toArray, List.set_cons_zero, List.set_cons_succ]
    refine oneT 29 (by kernel_rfl) rfl (fun K hK => ?_)
    go_simp
    refine (RDSame A6 A7 m c6 m c7 xs xs _ (by omega) (by omega) (hk6.below (by (repeat (first | exact c_refl _ | refine c_drew ?_ | refine c_alloc ?_ _ | refine c_row ?_ (by first | omega | exact Nat.le_refl _) _ | refine c_call ?_ (by assumption))); first | done | fail "open")) (hk7.below (by (repeat (first | exact c_refl _ | refine c_drew ?_ | refine c_alloc ?_ _ | refine c_row ?_ (by first | omega | exact Nat.le_refl _) _ | refine c_call ?_ (by assumption))); first | done | fail "open"))).mono ?_
    rintro e x1 ⟨rfl, hx1⟩
    rw [beq_self_eq_true]
    refine hK.out _ _ (fun _ => hkeep _ (by (repeat (first | exact c_refl _ | refine c_drew ?_ | refine c_alloc ?_ _ | refine c_row ?_ (by first | omega | exact Nat.le_refl _) _ | refine c_call ?_ (by assumption))); first | done | fail "open")) ?_
    clear hK K
    have hS1 := hkeep x1 (by (repeat (first | exact c_refl _ | refine c_drew ?_ | refine c_alloc ?_ _ | refine c_row ?_ (by first | omega | exact Nat.le_refl _) _ | refine c_call ?_ (by assumption))); first | done | fail "open")
    refine takeD 30 (some 126) (.bool true) rfl rfl (by kernel_rfl) (by kernel_rfl) (by kernel_rfl) (by kernel_rfl) (fun _ _ _ h => h) (Or.inl ⟨by kernel_rfl, fun wx hSw => by go_simp⟩) hS1 ?_
    simp only [Act.put, List.setIfInBounds_toArray, List.set_cons_zero, List.set_cons_succ]
    refine takeD 31 (some 127) (.bool true) rfl rfl (by kernel_rfl) (by kernel_rfl) (by kernel_rfl) (by kernel_rfl) (fun _ _ _ h => h) (Or.inl ⟨by kernel_rfl, fun wx hSw => by go_simp⟩) hS1 ?_
    simp only [Act.put, List.setIfInBounds_toArray, List.set_cons_zero, List.set_cons_succ]
    refine loadT 32 (some 128) 27 (.tmp 21) (w6.heap.size) 0 (drC y' M').toList rfl rfl (by kernel_rfl) (by kernel_rfl) (by kernel_rfl) (by kernel_rfl) rfl (by kernel_rfl) rfl (fun wx hSw => (hSw.get 3 rfl).range) hud rfl sm (fun _ _ _ h => h) hS1 ?_
    simp only [Act.put, List.setIfInBounds_toArray, List.set_cons_zero, List.set_cons_succ, Array.toArray_toList]
    refine loadT 33 (some 129) 27 (.tmp 24) (w7.heap.size) 0 (drC y' M').toList rfl rfl (by kernel_rfl) (by kernel_rfl) (by kernel_rfl) (by kernel_rfl) rfl (by kernel_rfl) rfl (fun wx hSw => (hSw.get 2 rfl).range) hud rfl sm (fun _ _ _ h => h) hS1 ?_
    simp only [Act.put, List.setIfInBounds_toArray, List.set_cons_zero, List.set_cons_succ, Array.toArray_toList]
    refine takeD 34 (some 130) (.bool true) rfl rfl (by kernel_rfl) (by kernel_rfl) (by kernel_rfl) (by kernel_rfl) (fun _ _ _ h => h) (Or.inl ⟨by kernel_rfl, fun wx hSw => by go_simp⟩) hS1 ?_
    simp only [Act.put, List.setIfInBounds_toArray, List.set_cons_zero, List.set_cons_succ]
    refine takeD 35 (some 131) (.bool true) rfl rfl (by kernel_rfl) (by kernel_rfl) (by kernel_rfl) (by kernel_rfl) (fun _ _ _ h => h) (Or.inl ⟨by kernel_rfl, fun wx hSw => by go_simp⟩) hS1 ?_
    simp only [Act.put, List.setIfInBounds_toArray, List.set_cons_zero, List.set_cons_succ]
    refine takeD 36 (some 132) (.bool true) rfl rfl (by kernel_rfl) (by kernel_rfl) (by kernel_rfl) (by kernel_rfl) (fun _ _ _ h => h) (Or.inl ⟨by kernel_rfl, fun wx hSw => by go_simp⟩) hS1 ?_
    simp only [Act.put, List.setIfInBounds_toArray, List.set_cons_zero, List.set_cons_succ]
    refine takeD 37 (some 133) (.int .i64 em) rfl rfl (by kernel_rfl) (by kernel_rfl) (by kernel_rfl) (by kernel_rfl) (fun _ _ _ h => h) (Or.inl ⟨by kernel_rfl, fun wx hSw => by go_simp⟩) hS1 ?_
    simp only [Act.put, List.setIfInBounds_toArray, List.set_cons_zero, List.set_cons_succ]
    refine takeD 38 (some 134) (.int .i64 em) rfl rfl (by kernel_rfl) (by kernel_rfl) (by kernel_rfl) (by kernel_rfl) (fun _ _ _ h => h) (Or.inl ⟨by kernel_rfl, fun wx hSw => by go_simp⟩) hS1 ?_
    simp only [Act.put, List.setIfInBounds_toArray, List.set_cons_zero, List.set_cons_succ]
    refine takeD 39 (some 135) (.bool true) rfl rfl (by kernel_rfl) (by kernel_rfl) (by kernel_rfl) (by kernel_rfl) (fun _ _ _ h => h) (Or.inl ⟨by kernel_rfl, fun wx hSw => by go_simp⟩) hS1 ?_
    simp only [Act.put, List.setIfInBounds_toArray, List.set_cons_zero, List.set_cons_succ]
    refine takeD 40 (some 136) (.bool true) rfl rfl (by kernel_rfl) (by kernel_rfl) (by kernel_rfl) (by kernel_rfl) (fun _ _ _ h => h) (Or.inl ⟨by kernel_rfl, fun wx hSw => by go_simp⟩) hS1 ?_
    simp only [Act.put, List.setIfInBounds_toArray, List.set_cons_zero, List.set_cons_succ]
    refine takeD 41 (some 137) (.bool true) rfl rfl (by kernel_rfl) (by kernel_rfl) (by kernel_rfl) (by kernel_rfl) (fun _ _ _ h => h) (Or.inl ⟨by kernel_rfl, fun wx hSw => by go_simp⟩) hS1 ?_
    simp only [Act.put, List.setIfInBounds_toArray, List.set_cons_zero, List.set_cons_succ]
    refine loadT 42 (some 138) 27 (.tmp 26) (w8.heap.size) 0 (drC z 0).toList rfl rfl (by kernel_rfl) (by kernel_rfl) (by kernel_rfl) (by kernel_rfl) rfl (by kernel_rfl) rfl (fun wx hSw => (hSw.get 1 rfl).range) hud rfl sz (fun _ _ _ h => h) hS1 ?_
    simp only [Act.put, List.setIfInBounds_toArray, List.set_cons_zero, List.set_cons_succ, Array.toArray_toList]
    refine loadT 43 (some 139) 27 (.tmp 28) (w9.heap.size) 0 (drC z 0).toList rfl rfl (by kernel_rfl) (by kernel_rfl) (by kernel_rfl) (by kernel_rfl) rfl (by kernel_rfl) rfl (fun wx hSw => (hSw.get 0 rfl).range) hud rfl sz (fun _ _ _ h => h) hS1 ?_
    simp only [Act.put, List.setIfInBounds_toArray, List.set_cons_zero, List.set_cons_succ, Array.toArray_toList]
    refine takeD 44 (some 140) (.bool true) rfl rfl (by kernel_rfl) (by kernel_rfl) (by kernel_rfl) (by kernel_rfl) (fun _ _ _ h => h) (Or.inl ⟨by kernel_rfl, fun wx hSw => by go_simp⟩) hS1 ?_
    simp only [Act.put, List.setIfInBounds_toArray, List.set_cons_zero, List.set_cons_succ]
    refine takeD 45 (some 141) (.bool true) rfl rfl (by kernel_rfl) (by kernel_rfl) (by kernel_rfl) (by kernel_rfl) (fun _ _ _ h => h) (Or.inl ⟨by kernel_rfl, fun wx hSw => by go_simp⟩) hS1 ?_
    simp only [Act.put, List.setIfInBounds_toArray, List.set_cons_zero, List.set_cons_succ]
    refine takeD 46 (some 142) (.bool true) rfl rfl (by kernel_rfl) (by kernel_rfl) (by kernel_rfl) (by kernel_rfl) (fun _ _ _ h => h) (Or.inl ⟨by kernel_rfl, fun wx hSw => by go_simp⟩) hS1 ?_
    simp only [Act.put, List.setIfInBounds_toArray, List.set_cons_zero, List.set_cons_succ]
    refine takeD 47 (some 143) (.int .i64 ez) rfl rfl (by kernel_rfl) (by kernel_rfl) (by kernel_rfl) (by kernel_rfl) (fun _ _ _ h => h) (Or.inl ⟨by kernel_rfl, fun wx hSw => by go_simp⟩) hS1 ?_
    simp only [Act.put, List.setIfInBounds_toArray, List.set_cons_zero, List.set_cons_succ]
    refine takeD 48 (some 144) (.int .i64 ez) rfl rfl (by kernel_rfl) (by kernel_rfl) (by kernel_rfl) (by kernel_rfl) (fun _ _ _ h => h) (Or.inl ⟨by kernel_rfl, fun wx hSw => by go_simp⟩) hS1 ?_
    simp only [Act.put, List.setIfInBounds_toArray, List.set_cons_zero, List.set_cons_succ]
    refine takeD 49 (some 145) (.bool true) rfl rfl (by kernel_rfl) (by kernel_rfl) (by kernel_rfl) (by kernel_rfl) (fun _ _ _ h => h) (Or.inl ⟨by kernel_rfl, fun wx hSw => by go_simp⟩) hS1 ?_
    simp only [Act.put, List.setIfInBounds_toArray, List.set_cons_zero, List.set_cons_succ]
    refine takeD 50 (some 146) (.bool true) rfl rfl (by kernel_rfl) (by kernel_rfl) (by kernel_rfl) (by kernel_rfl) (fun _ _ _ h => h) (Or.inl ⟨by kernel_rfl, fun wx hSw => by go_simp⟩) hS1 ?_
    simp only [Act.put, List.setIfInBounds_toArray, List.set_cons_zero, List.set_cons_succ]
    refine takeD 51 (some 147) (.bool true) rfl rfl (by kernel_rfl) (by kernel_rfl) (by kernel_rfl) (by kernel_rfl) (fun _ _ _ h => h) (Or.inl ⟨by kernel_rfl, fun wx hSw => by go_simp⟩) hS1 ?_
    simp only [Act.put, List.setIfInBounds_toArray, List.set_cons_zero, List.set_cons_succ]
    refine loadT 52 (some 148) 27 (.tmp 5) (w.heap.size) 0 (drC s N).toList rfl rfl (by kernel_rfl) (by kernel_rfl) (by kernel_rfl) (by kernel_rfl) rfl (by kernel_rfl) rfl (fun wx hSw => (hSw.get 10 rfl).range) hud rfl sd (fun _ _ _ h => h) hS1 ?_
    simp only [Act.put, List.setIfInBounds_toArray, List.set_cons_zero, List.set_cons_succ, Array.toArray_toList]
    refine loadT 54 (some 150) 27 (.tmp 5) (w.heap.size) 0 (drC s N).toList rfl rfl (by kernel_rfl) (by kernel_rfl) (by kernel_rfl) (by kernel_rfl) rfl (by kernel_rfl) rfl (fun wx hSw => (hSw.get 10 rfl).range) hud rfl sd (fun _ _ _ h => h) hS1 ?_
    simp only [Act.put, List.setIfInBounds_toArray, List.set_cons_zero, List.set_cons_succ, Array.toArray_toList]
    refine oneT 53 (by kernel_rfl) rfl (fun K hK => ?_)
    go_simp
    refine (hcC _).mono ?_
    rintro e x2 ⟨rfl, hx2⟩
    refine hK.out _ _ (fun _ => hkeep _ (by (repeat (first | exact c_refl _ | refine c_drew ?_ | refine c_alloc ?_ _ | refine c_row ?_ (by first | omega | exact Nat.le_refl _) _ | refine c_call ?_ (by assumption))); first | done | fail "open")) ?_
    clear hK K
    refine oneT 55 (by kernel_rfl) rfl (fun K hK => ?_)
    go_simp
    refine (hcR _).mono ?_
    rintro e x3 ⟨rfl, hx3⟩
    refine hK.out _ _ (fun _ => hkeep _ (by (repeat (first | exact c_refl _ | refine c_drew ?_ | refine c_alloc ?_ _ | refine c_row ?_ (by first | omega | exact Nat.le_refl _) _ | refine c_call ?_ (by assumption))); first | done | fail "open")) ?_
    clear hK K
    have hS2 := hkeep x3 (by (repeat (first | exact c_refl _ | refine c_drew ?_ | refine c_alloc ?_ _ | refine c_row ?_ (by first | omega | exact Nat.le_refl _) _ | refine c_call ?_ (by assumption))); first | done | fail "open")
    refine takeD 56 (some 152) (.bool true) rfl rfl (by kernel_rfl) (by kernel_rfl) (by kernel_rfl) (by kernel_rfl) (fun _ _ _ h => h) (Or.inl ⟨by kernel_rfl, fun wx hSw => by go_simp⟩) hS2 ?_
    simp only [Act.put, List.setIfInBounds_toArray, List.set_cons_zero, List.set_cons_succ]
    refine takeD 57 (some 153) (.bool true) rfl rfl (by kernel_rfl) (by kernel_rfl) (by kernel_rfl) (by kernel_rfl) (fun _ _ _ h => h) (Or.inl ⟨by kernel_rfl, fun wx hSw => by go_simp⟩) hS2 ?_
    simp only [Act.put, List.setIfInBounds_toArray, List.set_cons_zero, List.set_cons_succ]
    refine oneT 58 (by kernel_rfl) rfl (fun K hK => ?_)
    go_simp
    refine hK.out _ _ (fun _ => hkeep _ (by (repeat (first | exact c_refl _ | refine c_drew ?_ | refine c_alloc ?_ _ | refine c_row ?_ (by first | omega | exact Nat.le_refl _) _ | refine c_call ?_ (by assumption))); first | done | fail "open")) ?_
    clear hK K
    refine doneT (by kernel_rfl) ?_ _
    go_wp2_with fail
    go_ret
    exact ⟨rfl, hS2.old⟩

end Go.Proofs.YtgjeamapgdakcaaDoor

/-
  THE WALK of DrawDoes (coterielaw09) at the program's own New, Check, Next, Many and Fork.
-/
set_option linter.unusedVariables false
namespace Go.Proofs.YtgjeamapgdakcaaDoor
open Go.RowKit

theorem walk_DrawDoes (At : Option Addr) (mt ct : Nat) (vs : List Value) (ts : List (List UInt8)) (s : List UInt8) (N : Nat) (n : Int) (l : ByteArray) (w : World) (hmt : mt ≤ ct) (hct : ct ≤ maxLen) (hm24 : mt * 24 ≤ 140737488355328) (hv : Rd w w.heap.size At mt vs) (ht : Txs w w.heap.size vs ts) (hs : s.length = 32) (hb : N < 18446744073709551616) (hn1 : -9223372036854775808 ≤ n) (hn2 : n ≤ 9223372036854775807) (hK : KTab w) (hT : CTab w) :
    Calls Tryd.prog 3 #[.slice At mt ct, .agg (drC s N), .int .i64 n, .string l] w fun e w' => e = .returned (.bool true) ∧ Below w.heap.size w w' :=
  walkH_DrawDoes PDNew PDCheck PDNext PDMany PDFork At mt ct vs ts s N n l w hmt hct hm24 hv ht hs hb hn1 hn2 hK hT

end Go.Proofs.YtgjeamapgdakcaaDoor

