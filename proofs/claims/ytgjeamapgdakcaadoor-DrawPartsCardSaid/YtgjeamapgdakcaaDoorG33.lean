import Derived.Test.YtgjeamapgdakcaaDoorG32
import Derived.Maps.AppendAt
/-
  CONTRACTS of the document's own Many and Same (coterieref09).
-/
set_option linter.unusedVariables false
namespace Go.Proofs.YtgjeamapgdakcaaDoor
open Go.RowKit

theorem results_tcT {P : Program} {fn : Func} {p q r : Tmp} {ty : TypeId} (h : fn.results = #[.tmp p, .cell q ty, .tmp r]) (tmps : Array Value) (w : World) (g : Nat) (t : TypeId) (cs : Array Value) (d : TypeDesc)
    (hq : tmps.getD q undef = .pointer (some ⟨g, 0, none⟩)) (hg : RowC w g t cs) (hu : P.underlying ty = some d) (hd : (match d with | .struct _ | .array _ _ => true | _ => false) = true) (hi : (P.info? ty).map (·.size) = some cs.size) :
    (results fn tmps).run P w = .ok (.tuple #[tmps.getD p undef, .agg cs, tmps.getD r undef]) w := by
  have hq' : tmps[q]?.getD undef = .pointer (some ⟨g, 0, none⟩) := by simpa using hq
  simp [results, h, hq', asAddr, run_loadVar_row w g t ty cs (0, 0) d hg hu hd hi]
theorem infoKeyZ : (Tryd.prog.info? 24).map (fun i => (i.zero, i.size, i.bytes)) = some (some (.agg #[.int .u8 0, .int .u8 0, .int .u8 0, .int .u8 0, .int .u8 0, .int .u8 0, .int .u8 0, .int .u8 0, .int .u8 0, .int .u8 0, .int .u8 0, .int .u8 0, .int .u8 0, .int .u8 0, .int .u8 0, .int .u8 0, .int .u8 0, .int .u8 0, .int .u8 0, .int .u8 0, .int .u8 0, .int .u8 0, .int .u8 0, .int .u8 0, .int .u8 0, .int .u8 0, .int .u8 0, .int .u8 0, .int .u8 0, .int .u8 0, .int .u8 0, .int .u8 0]), 32, 32) := by kernel_rfl
theorem RowC.grown {w w' : World} {g : Nat} {t : TypeId} {cs : Array Value} {row : Option Nat} (h : RowC w g t cs) (hg : w.grownBy w' row) (hne : ∀ k, row = some k → g ≠ k) : RowC w' g t cs :=
  h.of (hg.block g h.lt (fun e => hne g e.symm rfl))
theorem own_row {w : World} {base : Nat} {e : TypeId} {size : Nat} {v : Value} {n : Nat} {xs : List Value} (h : w.ownsRow base e size v n xs) {g' : Nat} (hne : ∀ g, v.ownBlock = some g → g ≠ g') (cs : Array Value) : (w.setRow g' cs).ownsRow base e size v n xs := by
  refine ⟨h.1, ?_⟩
  rcases h.2 with hn | ⟨g, cap, cur, hv, hb, hg, rest⟩
  · exact .inl hn
  · exact .inr ⟨g, cap, cur, hv, hb, by rw [setRow_other w g' g cs (hne g (by rw [hv]; rfl))]; exact hg, rest⟩

theorem Ms.grownD {w0 w w' : World} {L : List (Nat × TypeId × Array Value)} {row : Option Nat} (h : Ms w0 w L) (hg : w.grownBy w' row) (hr : ∀ k, row = some k → w0.heap.size ≤ k) (hne : ∀ p ∈ L, ∀ k, row = some k → p.1 ≠ k) : Ms w0 w' L :=
  ⟨h.old.grown hg h.old.size hr, fun p hp => (h.rows p hp).grown hg (hne p hp)⟩
theorem own_sl {w : World} {base : Nat} {e : TypeId} {size : Nat} {v : Value} {n : Nat} {xs : List Value} (h : w.ownsRow base e size v n xs) : ∃ A c, v = .slice A n c := by
  rcases h.2 with ⟨h1, h2⟩ | ⟨g, cap, cur, h1, _⟩
  · subst h2
    exact ⟨none, 0, h1⟩
  · exact ⟨_, _, h1⟩
theorem fold_key {l : List UInt8} (h : l.length = 32) : Array.foldl (fun cs x => cs.setIfInBounds x.snd x.fst) (#[.int .u8 0, .int .u8 0, .int .u8 0, .int .u8 0, .int .u8 0, .int .u8 0, .int .u8 0, .int .u8 0, .int .u8 0, .int .u8 0, .int .u8 0, .int .u8 0, .int .u8 0, .int .u8 0, .int .u8 0, .int .u8 0, .int .u8 0, .int .u8 0, .int .u8 0, .int .u8 0, .int .u8 0, .int .u8 0, .int .u8 0, .int .u8 0, .int .u8 0, .int .u8 0, .int .u8 0, .int .u8 0, .int .u8 0, .int .u8 0, .int .u8 0, .int .u8 0] : Array Value) (keyC l).zipIdx 0 32 = keyC l := by
  apply Array.ext'
  have e : 32 = (keyC l).zipIdx.size := by simp [keyC, h]
  rw [e, ← Array.foldl_toList, Array.toList_zipIdx]
  have := fold_set (keyC l).toList 0 (#[.int .u8 0, .int .u8 0, .int .u8 0, .int .u8 0, .int .u8 0, .int .u8 0, .int .u8 0, .int .u8 0, .int .u8 0, .int .u8 0, .int .u8 0, .int .u8 0, .int .u8 0, .int .u8 0, .int .u8 0, .int .u8 0, .int .u8 0, .int .u8 0, .int .u8 0, .int .u8 0, .int .u8 0, .int .u8 0, .int .u8 0, .int .u8 0, .int .u8 0, .int .u8 0, .int .u8 0, .int .u8 0, .int .u8 0, .int .u8 0, .int .u8 0, .int .u8 0] : Array Value) (by simp [keyC, h])
  simp only [Nat.zero_add] at this
  rw [this]
  simp [splice, keyC, h]

/-- what drawing several answers -/
def ManyPostD (w : World) (s : List UInt8) (N : Nat) (n : Int) (e : Ending) (w' : World) : Prop :=
  Below w.heap.size w w' ∧ ((errM N n ≠ 0 ∧ e = .returned (.tuple #[.slice none 0 0, .agg (drC zeroD 0), .int .i64 (errM N n)])) ∨
    (errM N n = 0 ∧ ∃ v, e = .returned (.tuple #[v, .agg (drC s (N + n.toNat)), .int .i64 0]) ∧ w'.ownsRow w.heap.size 24 32 v n.toNat ((keysU s N n.toNat).map bv)))

set_option maxRecDepth 100000 in
set_option maxHeartbeats 8000000 in
theorem RDMany (s : List UInt8) (N : Nat) (n : Int) (w : World) (hs : s.length = 32) (hn1 : -9223372036854775808 ≤ n) (hn2 : n ≤ 9223372036854775807) (hK : KTab w) :
    Calls Tryd.prog 14 #[.agg (drC s N), .int .i64 n] w (ManyPostD w s N n) := by
  have hM0 := ((Ms.nil w).box 27 (drC s N)).box 27 #[.int .u8 0, .int .u8 0, .int .u8 0, .int .u8 0, .int .u8 0, .int .u8 0, .int .u8 0, .int .u8 0, .int .u8 0, .int .u8 0, .int .u8 0, .int .u8 0, .int .u8 0, .int .u8 0, .int .u8 0, .int .u8 0, .int .u8 0, .int .u8 0, .int .u8 0, .int .u8 0, .int .u8 0, .int .u8 0, .int .u8 0, .int .u8 0, .int .u8 0, .int .u8 0, .int .u8 0, .int .u8 0, .int .u8 0, .int .u8 0, .int .u8 0, .int .u8 0, .int .u64 0]
  simp only [World.size_alloc] at hM0
  have Hs := Lib.hid hs
  have Hsd := Lib.hid (sizeDr N hs)
  have Hsd0 := Lib.hid (sizeDr (s := zeroD) 0 rfl)
  have Hod0 := Lib.hid (one_dr zeroD 0)
  have Hsk0 := Lib.hid (sizeKey zeroD_len)
  have Hok0 := Lib.hid (one_keyF zeroD)
  rw [drZ] at Hsd0 Hod0
  rw [keyZD] at Hsk0 Hok0
  have hck := fun wx => RDCheck s N wx hs
  have Hpost := Lib.hid (show ∀ e w', Below w.heap.size w w' → ((errM N n ≠ 0 ∧ e = .returned (.tuple #[.slice none 0 0, .agg #[.int .u8 0, .int .u8 0, .int .u8 0, .int .u8 0, .int .u8 0, .int .u8 0, .int .u8 0, .int .u8 0, .int .u8 0, .int .u8 0, .int .u8 0, .int .u8 0, .int .u8 0, .int .u8 0, .int .u8 0, .int .u8 0, .int .u8 0, .int .u8 0, .int .u8 0, .int .u8 0, .int .u8 0, .int .u8 0, .int .u8 0, .int .u8 0, .int .u8 0, .int .u8 0, .int .u8 0, .int .u8 0, .int .u8 0, .int .u8 0, .int .u8 0, .int .u8 0, .int .u64 0], .int .i64 (errM N n)])) ∨
    (errM N n = 0 ∧ ∃ v, e = .returned (.tuple #[v, .agg (drC s (N + n.toNat)), .int .i64 0]) ∧ w'.ownsRow w.heap.size 24 32 v n.toNat ((keysU s N n.toNat).map bv))) → ManyPostD w s N n e w' from fun _ _ h1 h2 => by
      rw [← drZ] at h2
      exact ⟨h1, h2⟩)
  generalize ManyPostD w s N n = PO at *
  clear hs
  go_enter Tryd.func14, Tryd.ntmps14
  by_cases h1 : 4294967296 < N
  · have hc1 : chkV N = 1 := by rw [chkV, if_pos h1]
    rw [hc1] at hck
    have He := Lib.hid (show errM N n = 1 by rw [errM, if_pos (.inl h1)])
    go_wp2_with ((with_reducible show wpList _ _ _ (⟨some 11, _, _, _, _, _⟩ :: _) _ _); refine wpList_loadC (by kernel_rfl) 27 (.tmp 2) rfl (w.heap.size) rfl 27 (drC s N) _ (hM0.get 1 rfl) Tryd.underlying27 rfl Hsd.out ?_)
    refine (hck _).mono ?_
    rintro e w1 ⟨rfl, hb1⟩
    have hM1 := hM0.call hb1
    clear hM0 hb1
    go_wp2_with ((with_reducible show wpList _ _ _ (⟨none, Op.store 27 _ _, _, _, _, _⟩ :: _) _ _); refine wpList_store_row rfl 27 (.tmp 5) (.tmp 22) rfl (w.heap.size + 1) #[.int .u8 0, .int .u8 0, .int .u8 0, .int .u8 0, .int .u8 0, .int .u8 0, .int .u8 0, .int .u8 0, .int .u8 0, .int .u8 0, .int .u8 0, .int .u8 0, .int .u8 0, .int .u8 0, .int .u8 0, .int .u8 0, .int .u8 0, .int .u8 0, .int .u8 0, .int .u8 0, .int .u8 0, .int .u8 0, .int .u8 0, .int .u8 0, .int .u8 0, .int .u8 0, .int .u8 0, .int .u8 0, .int .u8 0, .int .u8 0, .int .u8 0, .int .u8 0, .int .u64 0] rfl rfl 27 _ (hM1.get 0 rfl) Hsd0.out rfl Hod0.out ?_)
    exact bodyPost_ret (results_tcT rfl _ _ (w.heap.size + 1) 27 #[.int .u8 0, .int .u8 0, .int .u8 0, .int .u8 0, .int .u8 0, .int .u8 0, .int .u8 0, .int .u8 0, .int .u8 0, .int .u8 0, .int .u8 0, .int .u8 0, .int .u8 0, .int .u8 0, .int .u8 0, .int .u8 0, .int .u8 0, .int .u8 0, .int .u8 0, .int .u8 0, .int .u8 0, .int .u8 0, .int .u8 0, .int .u8 0, .int .u8 0, .int .u8 0, .int .u8 0, .int .u8 0, .int .u8 0, .int .u8 0, .int .u8 0, .int .u8 0, .int .u64 0] _ rfl ((hM1.get 0 rfl).row _) Tryd.underlying27 rfl Hsd0.out) rfl (Hpost.out _ _ (below_setRow hM1.old (by omega) _) (.inl ⟨by rw [He.out]; decide, by rw [He.out]; rfl⟩))
  have hc1 : chkV N = 0 := by rw [chkV, if_neg h1]
  rw [hc1] at hck
  by_cases h2 : n < 0 ∨ 1000 < n
  · have He := Lib.hid (show errM N n = 1 by rw [errM, if_pos (.inr h2)])
    go_wp2_with ((with_reducible show wpList _ _ _ (⟨some 11, _, _, _, _, _⟩ :: _) _ _); refine wpList_loadC (by kernel_rfl) 27 (.tmp 2) rfl (w.heap.size) rfl 27 (drC s N) _ (hM0.get 1 rfl) Tryd.underlying27 rfl Hsd.out ?_)
    refine (hck _).mono ?_
    rintro e w1 ⟨rfl, hb1⟩
    have hM1 := hM0.call hb1
    clear hM0 hb1
    rcases h2 with h2 | h2
    · go_wp2_with ((with_reducible show wpList _ _ _ (⟨none, Op.store 27 _ _, _, _, _, _⟩ :: _) _ _); refine wpList_store_row rfl 27 (.tmp 5) (.tmp 22) rfl (w.heap.size + 1) #[.int .u8 0, .int .u8 0, .int .u8 0, .int .u8 0, .int .u8 0, .int .u8 0, .int .u8 0, .int .u8 0, .int .u8 0, .int .u8 0, .int .u8 0, .int .u8 0, .int .u8 0, .int .u8 0, .int .u8 0, .int .u8 0, .int .u8 0, .int .u8 0, .int .u8 0, .int .u8 0, .int .u8 0, .int .u8 0, .int .u8 0, .int .u8 0, .int .u8 0, .int .u8 0, .int .u8 0, .int .u8 0, .int .u8 0, .int .u8 0, .int .u8 0, .int .u8 0, .int .u64 0] rfl rfl 27 _ (hM1.get 0 rfl) Hsd0.out rfl Hod0.out ?_)
      exact bodyPost_ret (results_tcT rfl _ _ (w.heap.size + 1) 27 #[.int .u8 0, .int .u8 0, .int .u8 0, .int .u8 0, .int .u8 0, .int .u8 0, .int .u8 0, .int .u8 0, .int .u8 0, .int .u8 0, .int .u8 0, .int .u8 0, .int .u8 0, .int .u8 0, .int .u8 0, .int .u8 0, .int .u8 0, .int .u8 0, .int .u8 0, .int .u8 0, .int .u8 0, .int .u8 0, .int .u8 0, .int .u8 0, .int .u8 0, .int .u8 0, .int .u8 0, .int .u8 0, .int .u8 0, .int .u8 0, .int .u8 0, .int .u8 0, .int .u64 0] _ rfl ((hM1.get 0 rfl).row _) Tryd.underlying27 rfl Hsd0.out) rfl (Hpost.out _ _ (below_setRow hM1.old (by omega) _) (.inl ⟨by rw [He.out]; decide, by rw [He.out]; rfl⟩))
    · have h3 : ¬ n < 0 := by omega
      go_wp2_with ((with_reducible show wpList _ _ _ (⟨none, Op.store 27 _ _, _, _, _, _⟩ :: _) _ _); refine wpList_store_row rfl 27 (.tmp 5) (.tmp 22) rfl (w.heap.size + 1) #[.int .u8 0, .int .u8 0, .int .u8 0, .int .u8 0, .int .u8 0, .int .u8 0, .int .u8 0, .int .u8 0, .int .u8 0, .int .u8 0, .int .u8 0, .int .u8 0, .int .u8 0, .int .u8 0, .int .u8 0, .int .u8 0, .int .u8 0, .int .u8 0, .int .u8 0, .int .u8 0, .int .u8 0, .int .u8 0, .int .u8 0, .int .u8 0, .int .u8 0, .int .u8 0, .int .u8 0, .int .u8 0, .int .u8 0, .int .u8 0, .int .u8 0, .int .u8 0, .int .u64 0] rfl rfl 27 _ (hM1.get 0 rfl) Hsd0.out rfl Hod0.out ?_)
      exact bodyPost_ret (results_tcT rfl _ _ (w.heap.size + 1) 27 #[.int .u8 0, .int .u8 0, .int .u8 0, .int .u8 0, .int .u8 0, .int .u8 0, .int .u8 0, .int .u8 0, .int .u8 0, .int .u8 0, .int .u8 0, .int .u8 0, .int .u8 0, .int .u8 0, .int .u8 0, .int .u8 0, .int .u8 0, .int .u8 0, .int .u8 0, .int .u8 0, .int .u8 0, .int .u8 0, .int .u8 0, .int .u8 0, .int .u8 0, .int .u8 0, .int .u8 0, .int .u8 0, .int .u8 0, .int .u8 0, .int .u8 0, .int .u8 0, .int .u64 0] _ rfl ((hM1.get 0 rfl).row _) Tryd.underlying27 rfl Hsd0.out) rfl (Hpost.out _ _ (below_setRow hM1.old (by omega) _) (.inl ⟨by rw [He.out]; decide, by rw [He.out]; rfl⟩))
  obtain ⟨m, rfl⟩ := Int.eq_ofNat_of_zero_le (show 0 ≤ n by omega)
  have hm : m ≤ 1000 := by omega
  have h3 : ¬ ((m : Int) < 0) := by omega
  have h4 : ¬ (1000 < (m : Int)) := by omega
  have Hem := Lib.hid (show errM N (m : Int) = if (4294967296 : Int) < (N : Int) + (m : Int) then 8 else 0 by rw [errM, if_neg (by omega)])
  have hN0 : N ≤ 4294967296 := by omega
  rw [show ((m : Int)).toNat = m from rfl] at Hpost
  go_wp2_with ((with_reducible show wpList _ _ _ (⟨some 11, _, _, _, _, _⟩ :: _) _ _); refine wpList_loadC (by kernel_rfl) 27 (.tmp 2) rfl (w.heap.size) rfl 27 (drC s N) _ (hM0.get 1 rfl) Tryd.underlying27 rfl Hsd.out ?_)
  refine (hck _).mono ?_
  rintro e w1 ⟨rfl, hb1⟩
  have hM1 := hM0.call hb1
  clear hM0 hb1
  go_wp2_with fail
  have hK1 := hK.below hM1.old
  go_loopw [7, 24] (fun v i wr => ∃ (j : Nat) (A : Option Addr) (c : Nat), j ≤ m ∧ N + j ≤ 4294967296 ∧ i = .int .i64 (j : Int) ∧ v = .slice A j c ∧ wr.ownsRow (w.heap.size + 1 + 1) 24 32 (.slice A j c) j ((keysU s N j).map bv) ∧ w.heap.size + 1 < wr.heap.size ∧ Ms w wr [(w.heap.size + 1, 27, #[.int .u8 0, .int .u8 0, .int .u8 0, .int .u8 0, .int .u8 0, .int .u8 0, .int .u8 0, .int .u8 0, .int .u8 0, .int .u8 0, .int .u8 0, .int .u8 0, .int .u8 0, .int .u8 0, .int .u8 0, .int .u8 0, .int .u8 0, .int .u8 0, .int .u8 0, .int .u8 0, .int .u8 0, .int .u8 0, .int .u8 0, .int .u8 0, .int .u8 0, .int .u8 0, .int .u8 0, .int .u8 0, .int .u8 0, .int .u8 0, .int .u8 0, .int .u8 0, .int .u64 0]), (w.heap.size, 27, drC s (N + j))]) (fun _ i _ => m - (intOf i).toNat)
  case atStart => exact ⟨0, none, 0, by omega, by omega, rfl, rfl, World.ownsRow_nil _ _ _ _, (hM1.get 0 rfl).lt, hM1⟩
  case round =>
    obtain ⟨j, A, c, hj, hjN, rfl, rfl, hown, hgs, hM⟩ := hrel
    clear hM1 hck hK1
    have hTr := hK.below hM.old
    have Hsj := Lib.hid (sizeDr (N + j) Hs.out)
    by_cases hlt : j < m
    · have hl' : (j : Int) < (m : Int) := by omega
      by_cases h8 : N + j = 4294967296
      · have He := Lib.hid (show errM N (m : Int) = 8 by rw [Hem.out, if_pos (by omega)])
        have hnx := RDNext s (N + j) wr Hs.out hTr
        rw [show nextV s (N + j) = .tuple #[.agg #[.int .u8 0, .int .u8 0, .int .u8 0, .int .u8 0, .int .u8 0, .int .u8 0, .int .u8 0, .int .u8 0, .int .u8 0, .int .u8 0, .int .u8 0, .int .u8 0, .int .u8 0, .int .u8 0, .int .u8 0, .int .u8 0, .int .u8 0, .int .u8 0, .int .u8 0, .int .u8 0, .int .u8 0, .int .u8 0, .int .u8 0, .int .u8 0, .int .u8 0, .int .u8 0, .int .u8 0, .int .u8 0, .int .u8 0, .int .u8 0, .int .u8 0, .int .u8 0], .agg #[.int .u8 0, .int .u8 0, .int .u8 0, .int .u8 0, .int .u8 0, .int .u8 0, .int .u8 0, .int .u8 0, .int .u8 0, .int .u8 0, .int .u8 0, .int .u8 0, .int .u8 0, .int .u8 0, .int .u8 0, .int .u8 0, .int .u8 0, .int .u8 0, .int .u8 0, .int .u8 0, .int .u8 0, .int .u8 0, .int .u8 0, .int .u8 0, .int .u8 0, .int .u8 0, .int .u8 0, .int .u8 0, .int .u8 0, .int .u8 0, .int .u8 0, .int .u8 0, .int .u64 0], .int .i64 8] by
          have e : errN (N + j) = 8 := by rw [errN, if_neg (by omega), if_pos h8]
          rw [nextV, if_neg (by rw [e]; decide), e, drZ]
          rfl] at hnx
        clear h8
        go_wp2_with ((with_reducible show wpList _ _ _ (⟨some 27, _, _, _, _, _⟩ :: _) _ _); refine wpList_loadC (by kernel_rfl) 27 (.tmp 2) rfl (w.heap.size) rfl 27 (drC s (N + j)) _ (hM.get 1 rfl) Tryd.underlying27 rfl Hsj.out ?_)
        refine hnx.mono ?_
        rintro e w2 ⟨rfl, hb2⟩
        have hM2 := hM.call hb2
        clear hM hnx hown
        have hB2 := (hM2.box 24 #[.int .u8 0, .int .u8 0, .int .u8 0, .int .u8 0, .int .u8 0, .int .u8 0, .int .u8 0, .int .u8 0, .int .u8 0, .int .u8 0, .int .u8 0, .int .u8 0, .int .u8 0, .int .u8 0, .int .u8 0, .int .u8 0, .int .u8 0, .int .u8 0, .int .u8 0, .int .u8 0, .int .u8 0, .int .u8 0, .int .u8 0, .int .u8 0, .int .u8 0, .int .u8 0, .int .u8 0, .int .u8 0, .int .u8 0, .int .u8 0, .int .u8 0, .int .u8 0]).box 27 #[.int .u8 0, .int .u8 0, .int .u8 0, .int .u8 0, .int .u8 0, .int .u8 0, .int .u8 0, .int .u8 0, .int .u8 0, .int .u8 0, .int .u8 0, .int .u8 0, .int .u8 0, .int .u8 0, .int .u8 0, .int .u8 0, .int .u8 0, .int .u8 0, .int .u8 0, .int .u8 0, .int .u8 0, .int .u8 0, .int .u8 0, .int .u8 0, .int .u8 0, .int .u8 0, .int .u8 0, .int .u8 0, .int .u8 0, .int .u8 0, .int .u8 0, .int .u8 0, .int .u64 0]
        have hg1 := hM2.old.size
        have hn1 := fun p hp => Nat.ne_of_lt ((hM2.rows p hp).lt)
        have hn2 := fun p hp => Nat.ne_of_lt (((hM2.box 24 #[.int .u8 0, .int .u8 0, .int .u8 0, .int .u8 0, .int .u8 0, .int .u8 0, .int .u8 0, .int .u8 0, .int .u8 0, .int .u8 0, .int .u8 0, .int .u8 0, .int .u8 0, .int .u8 0, .int .u8 0, .int .u8 0, .int .u8 0, .int .u8 0, .int .u8 0, .int .u8 0, .int .u8 0, .int .u8 0, .int .u8 0, .int .u8 0, .int .u8 0, .int .u8 0, .int .u8 0, .int .u8 0, .int .u8 0, .int .u8 0, .int .u8 0, .int .u8 0]).rows p hp).lt)
        simp only [World.size_alloc] at hB2 hn2
        have hM3 := Ms.set2 (ds := #[.int .u8 0, .int .u8 0, .int .u8 0, .int .u8 0, .int .u8 0, .int .u8 0, .int .u8 0, .int .u8 0, .int .u8 0, .int .u8 0, .int .u8 0, .int .u8 0, .int .u8 0, .int .u8 0, .int .u8 0, .int .u8 0, .int .u8 0, .int .u8 0, .int .u8 0, .int .u8 0, .int .u8 0, .int .u8 0, .int .u8 0, .int .u8 0, .int .u8 0, .int .u8 0, .int .u8 0, .int .u8 0, .int .u8 0, .int .u8 0, .int .u8 0, .int .u8 0]) (ds' := #[.int .u8 0, .int .u8 0, .int .u8 0, .int .u8 0, .int .u8 0, .int .u8 0, .int .u8 0, .int .u8 0, .int .u8 0, .int .u8 0, .int .u8 0, .int .u8 0, .int .u8 0, .int .u8 0, .int .u8 0, .int .u8 0, .int .u8 0, .int .u8 0, .int .u8 0, .int .u8 0, .int .u8 0, .int .u8 0, .int .u8 0, .int .u8 0, .int .u8 0, .int .u8 0, .int .u8 0, .int .u8 0, .int .u8 0, .int .u8 0, .int .u8 0, .int .u8 0, .int .u64 0]) hB2.swap hg1 (by omega) (by omega) hn1 (fun p hp => hn2 p (List.mem_cons_of_mem _ hp))
        go_wp2_with (first
          | ((with_reducible show wpList _ _ _ (⟨none, Op.store 24 _ _, _, _, _, _⟩ :: _) _ _); refine wpList_store_row rfl 24 (.tmp 8) (.tmp 29) rfl (w2.heap.size) #[.int .u8 0, .int .u8 0, .int .u8 0, .int .u8 0, .int .u8 0, .int .u8 0, .int .u8 0, .int .u8 0, .int .u8 0, .int .u8 0, .int .u8 0, .int .u8 0, .int .u8 0, .int .u8 0, .int .u8 0, .int .u8 0, .int .u8 0, .int .u8 0, .int .u8 0, .int .u8 0, .int .u8 0, .int .u8 0, .int .u8 0, .int .u8 0, .int .u8 0, .int .u8 0, .int .u8 0, .int .u8 0, .int .u8 0, .int .u8 0, .int .u8 0, .int .u8 0] rfl rfl 24 _ (hB2.get 1 rfl) Hsk0.out rfl Hok0.out ?_)
          | ((with_reducible show wpList _ _ _ (⟨none, Op.store 27 _ _, _, _, _, _⟩ :: _) _ _); refine wpList_store_row rfl 27 (.tmp 9) (.tmp 30) rfl (w2.heap.size + 1) #[.int .u8 0, .int .u8 0, .int .u8 0, .int .u8 0, .int .u8 0, .int .u8 0, .int .u8 0, .int .u8 0, .int .u8 0, .int .u8 0, .int .u8 0, .int .u8 0, .int .u8 0, .int .u8 0, .int .u8 0, .int .u8 0, .int .u8 0, .int .u8 0, .int .u8 0, .int .u8 0, .int .u8 0, .int .u8 0, .int .u8 0, .int .u8 0, .int .u8 0, .int .u8 0, .int .u8 0, .int .u8 0, .int .u8 0, .int .u8 0, .int .u8 0, .int .u8 0, .int .u64 0] rfl rfl 27 _ ((hB2.get 0 rfl).rowFar (by omega) _) Hsd0.out rfl Hod0.out ?_)
          | ((with_reducible show wpList _ _ _ (⟨none, Op.store 27 _ _, _, _, _, _⟩ :: _) _ _); refine wpList_store_row rfl 27 (.tmp 5) (.tmp 34) rfl (w.heap.size + 1) #[.int .u8 0, .int .u8 0, .int .u8 0, .int .u8 0, .int .u8 0, .int .u8 0, .int .u8 0, .int .u8 0, .int .u8 0, .int .u8 0, .int .u8 0, .int .u8 0, .int .u8 0, .int .u8 0, .int .u8 0, .int .u8 0, .int .u8 0, .int .u8 0, .int .u8 0, .int .u8 0, .int .u8 0, .int .u8 0, .int .u8 0, .int .u8 0, .int .u8 0, .int .u8 0, .int .u8 0, .int .u8 0, .int .u8 0, .int .u8 0, .int .u8 0, .int .u8 0, .int .u64 0] rfl rfl 27 _ (hM3.get 2 rfl) Hsd0.out rfl Hod0.out ?_))
        exact bodyPost_ret (results_tcT rfl _ _ (w.heap.size + 1) 27 #[.int .u8 0, .int .u8 0, .int .u8 0, .int .u8 0, .int .u8 0, .int .u8 0, .int .u8 0, .int .u8 0, .int .u8 0, .int .u8 0, .int .u8 0, .int .u8 0, .int .u8 0, .int .u8 0, .int .u8 0, .int .u8 0, .int .u8 0, .int .u8 0, .int .u8 0, .int .u8 0, .int .u8 0, .int .u8 0, .int .u8 0, .int .u8 0, .int .u8 0, .int .u8 0, .int .u8 0, .int .u8 0, .int .u8 0, .int .u8 0, .int .u8 0, .int .u8 0, .int .u64 0] _ rfl ((hM3.get 2 rfl).row _) Tryd.underlying27 rfl Hsd0.out) rfl (Hpost.out _ _ (below_setRow hM3.old (by omega) _) (.inl ⟨by rw [He.out]; decide, by rw [He.out]; rfl⟩))
      have hnx := RDNext s (N + j) wr Hs.out hTr
      rw [show nextV s (N + j) = .tuple #[.agg (keyC (drawU s (N + j))), .agg (drC s (N + j + 1)), .int .i64 0] by
        rw [nextV, if_pos (by rw [errN, if_neg (by omega), if_neg h8])]
        rfl] at hnx
      have Hks := Lib.hid (keysU_succ s N j)
      have Hkl := Lib.hid (drawU_len s (N + j))
      have Hsk := Lib.hid (sizeKey (drawU_len s (N + j)))
      have Hok := Lib.hid (one_keyF (drawU s (N + j)))
      have Hzk := Lib.hid (show (#[.int .u8 0, .int .u8 0, .int .u8 0, .int .u8 0, .int .u8 0, .int .u8 0, .int .u8 0, .int .u8 0, .int .u8 0, .int .u8 0, .int .u8 0, .int .u8 0, .int .u8 0, .int .u8 0, .int .u8 0, .int .u8 0, .int .u8 0, .int .u8 0, .int .u8 0, .int .u8 0, .int .u8 0, .int .u8 0, .int .u8 0, .int .u8 0, .int .u8 0, .int .u8 0, .int .u8 0, .int .u8 0, .int .u8 0, .int .u8 0, .int .u8 0, .int .u8 0] : Array Value).size = (keyC (drawU s (N + j))).size by rw [keyC_size, drawU_len]; rfl)
      have Hsn := Lib.hid (sizeDr (N + j + 1) Hs.out)
      have Hon := Lib.hid (one_dr s (N + j + 1))
      have Hzn := Lib.hid (show (#[.int .u8 0, .int .u8 0, .int .u8 0, .int .u8 0, .int .u8 0, .int .u8 0, .int .u8 0, .int .u8 0, .int .u8 0, .int .u8 0, .int .u8 0, .int .u8 0, .int .u8 0, .int .u8 0, .int .u8 0, .int .u8 0, .int .u8 0, .int .u8 0, .int .u8 0, .int .u8 0, .int .u8 0, .int .u8 0, .int .u8 0, .int .u8 0, .int .u8 0, .int .u8 0, .int .u8 0, .int .u8 0, .int .u8 0, .int .u8 0, .int .u8 0, .int .u8 0, .int .u64 0] : Array Value).size = (drC s (N + j + 1)).size by rw [drC_size _ Hs.out]; rfl)
      have Hzs := Lib.hid (show (drC s (N + j)).size = (drC s (N + j + 1)).size by rw [drC_size _ Hs.out, drC_size _ Hs.out])
      generalize drawU s (N + j) = kk at *
      go_wp2_with ((with_reducible show wpList _ _ _ (⟨some 27, _, _, _, _, _⟩ :: _) _ _); refine wpList_loadC (by kernel_rfl) 27 (.tmp 2) rfl (w.heap.size) rfl 27 (drC s (N + j)) _ (hM.get 1 rfl) Tryd.underlying27 rfl Hsj.out ?_)
      refine hnx.mono ?_
      rintro e w2 ⟨rfl, hb2⟩
      have hM2 := hM.call hb2
      have hown2 := own_below hown hb2
      have hs2 := hb2.size
      clear hM hnx hown
      have hB2 := (hM2.box 24 #[.int .u8 0, .int .u8 0, .int .u8 0, .int .u8 0, .int .u8 0, .int .u8 0, .int .u8 0, .int .u8 0, .int .u8 0, .int .u8 0, .int .u8 0, .int .u8 0, .int .u8 0, .int .u8 0, .int .u8 0, .int .u8 0, .int .u8 0, .int .u8 0, .int .u8 0, .int .u8 0, .int .u8 0, .int .u8 0, .int .u8 0, .int .u8 0, .int .u8 0, .int .u8 0, .int .u8 0, .int .u8 0, .int .u8 0, .int .u8 0, .int .u8 0, .int .u8 0]).box 27 #[.int .u8 0, .int .u8 0, .int .u8 0, .int .u8 0, .int .u8 0, .int .u8 0, .int .u8 0, .int .u8 0, .int .u8 0, .int .u8 0, .int .u8 0, .int .u8 0, .int .u8 0, .int .u8 0, .int .u8 0, .int .u8 0, .int .u8 0, .int .u8 0, .int .u8 0, .int .u8 0, .int .u8 0, .int .u8 0, .int .u8 0, .int .u8 0, .int .u8 0, .int .u8 0, .int .u8 0, .int .u8 0, .int .u8 0, .int .u8 0, .int .u8 0, .int .u8 0, .int .u64 0]
      have hg1 := hM2.old.size
      have hn1 := fun p hp => Nat.ne_of_lt ((hM2.rows p hp).lt)
      have hn2 := fun p hp => Nat.ne_of_lt (((hM2.box 24 #[.int .u8 0, .int .u8 0, .int .u8 0, .int .u8 0, .int .u8 0, .int .u8 0, .int .u8 0, .int .u8 0, .int .u8 0, .int .u8 0, .int .u8 0, .int .u8 0, .int .u8 0, .int .u8 0, .int .u8 0, .int .u8 0, .int .u8 0, .int .u8 0, .int .u8 0, .int .u8 0, .int .u8 0, .int .u8 0, .int .u8 0, .int .u8 0, .int .u8 0, .int .u8 0, .int .u8 0, .int .u8 0, .int .u8 0, .int .u8 0, .int .u8 0, .int .u8 0]).rows p hp).lt)
      simp only [World.size_alloc] at hB2 hn2
      have hM3 := Ms.set2 (ds := (keyC kk)) (ds' := (drC s (N + j + 1))) hB2.swap hg1 (by omega) (by omega) hn1 (fun p hp => hn2 p (List.mem_cons_of_mem _ hp))
      have hownA := own_below hown2 ((d_al w2 (.cells #[.int .u8 0, .int .u8 0, .int .u8 0, .int .u8 0, .int .u8 0, .int .u8 0, .int .u8 0, .int .u8 0, .int .u8 0, .int .u8 0, .int .u8 0, .int .u8 0, .int .u8 0, .int .u8 0, .int .u8 0, .int .u8 0, .int .u8 0, .int .u8 0, .int .u8 0, .int .u8 0, .int .u8 0, .int .u8 0, .int .u8 0, .int .u8 0, .int .u8 0, .int .u8 0, .int .u8 0, .int .u8 0, .int .u8 0, .int .u8 0, .int .u8 0, .int .u8 0] 24)).trans ((d_al _ (.cells #[.int .u8 0, .int .u8 0, .int .u8 0, .int .u8 0, .int .u8 0, .int .u8 0, .int .u8 0, .int .u8 0, .int .u8 0, .int .u8 0, .int .u8 0, .int .u8 0, .int .u8 0, .int .u8 0, .int .u8 0, .int .u8 0, .int .u8 0, .int .u8 0, .int .u8 0, .int .u8 0, .int .u8 0, .int .u8 0, .int .u8 0, .int .u8 0, .int .u8 0, .int .u8 0, .int .u8 0, .int .u8 0, .int .u8 0, .int .u8 0, .int .u8 0, .int .u8 0, .int .u64 0] 27)).mono (al0 _ _)))
      have hown3 := own_row (own_row hownA (g' := w2.heap.size) (fun g hg => Nat.ne_of_lt (hown2.lt g hg).2) (keyC kk)) (g' := w2.heap.size + 1) (fun g hg => by have := (hown2.lt g hg).2; omega) (drC s (N + j + 1))
      have hne3 : ∀ g, (Value.slice A j c).ownBlock = some g → g < w2.heap.size := fun g hg => (hown2.lt g hg).2
      have hgs2 : w.heap.size + 1 < w2.heap.size := Nat.lt_of_lt_of_le hgs hs2
      clear hownA hown2 hb2 hs2 hgs
      go_upto_region 7 with (first
        | ((with_reducible show wpList _ _ _ (⟨none, Op.store 24 _ _, _, _, _, _⟩ :: _) _ _); refine wpList_store_row rfl 24 (.tmp 8) (.tmp 29) rfl (w2.heap.size) (keyC kk) rfl rfl 24 _ (hB2.get 1 rfl) Hsk.out Hzk.out Hok.out ?_)
        | ((with_reducible show wpList _ _ _ (⟨none, Op.store 27 _ _, _, _, _, _⟩ :: _) _ _); refine wpList_store_row rfl 27 (.tmp 9) (.tmp 30) rfl (w2.heap.size + 1) (drC s (N + j + 1)) rfl rfl 27 _ ((hB2.get 0 rfl).rowFar (by omega) _) Hsn.out Hzn.out Hon.out ?_))
      try simp only [Act.put]
      refine wp_gen (fun wx => Ms w wx [(w2.heap.size, 24, keyC kk), (w2.heap.size + 1, 27, drC s (N + j + 1)), (w.heap.size + 1, 27, #[.int .u8 0, .int .u8 0, .int .u8 0, .int .u8 0, .int .u8 0, .int .u8 0, .int .u8 0, .int .u8 0, .int .u8 0, .int .u8 0, .int .u8 0, .int .u8 0, .int .u8 0, .int .u8 0, .int .u8 0, .int .u8 0, .int .u8 0, .int .u8 0, .int .u8 0, .int .u8 0, .int .u8 0, .int .u8 0, .int .u8 0, .int .u8 0, .int .u8 0, .int .u8 0, .int .u8 0, .int .u8 0, .int .u8 0, .int .u8 0, .int .u8 0, .int .u8 0, .int .u64 0]), (w.heap.size, 27, drC s (N + j))] ∧ wx.ownsRow (w.heap.size + 1 + 1) 24 32 (.slice A j c) j ((keysU s N j).map bv)) ⟨hM3, hown3⟩ ?_
      clear hM3 hown3 hB2 hg1 hn1 hn2 hM2
      rintro w3 ⟨hM, hown⟩
      generalize w2.heap.size = g8 at *
      have Hfd := Lib.hid (fold_key Hkl.out)
      have hks : (keyC kk).size = 32 := by rw [keyC_size, Hkl.out]
      have hal := d_al w3 (.cells (keyC kk) 24)
      have hM4 := hM.call hal
      have hown4 := own_below hown hal
      have hr4 : RowC (w3.alloc (.cells (keyC kk) 24)) w3.heap.size 24 (keyC kk) := RowC.new _ _ _
      have hnews : ∀ q u, (kk.map bv)[q]? = some u → (w3.alloc (.cells (keyC kk) 24)).cell? ((⟨w3.heap.size, 0, none⟩ : Addr).add q) = some u := fun q u hu => by
        rw [show ((⟨w3.heap.size, 0, none⟩ : Addr).add q) = ⟨w3.heap.size, q, none⟩ by
          simp only [Addr.add, Nat.zero_add]
          split <;> simp_all]
        exact hr4.cell (by simpa [keyC] using hu)
      have hkl32 : (kk.map bv).length = 1 * 32 := by rw [List.length_map, Hkl.out]
      have hwb : w.heap.size + 1 + 1 ≤ (w3.alloc (.cells (keyC kk) 24)).heap.size := by
        have := (hM.get 2 rfl).lt
        simp
        omega
      obtain ⟨iK, hiK, hzK, hsK, hbK⟩ := info_parts infoKeyZ
      have hown1 : ∀ k, (Value.slice A j c).ownBlock = some k → w.heap.size + 1 + 1 ≤ k ∧ k < g8 := fun k hk => ⟨(hown.lt k hk).1, hne3 k hk⟩
      clear hown hr4
      go_wp2_with (first
        | ((with_reducible show wpList _ _ _ (⟨some 37, _, _, _, _, _⟩ :: _) _ _); refine wpList_loadC (by kernel_rfl) 24 (.tmp 8) rfl (g8) rfl 24 (keyC kk) _ (hM.get 0 rfl) Tryd.underlying24 rfl Hsk.out ?_)
        | (at_builtin; rw [Hfd.out]; refine wpList_append_own_at _ rfl (.tmp 36) (.tmp 38) _ rfl (w.heap.size + 1 + 1) 24 iK _ 32 32 Tryd.underlying35 hiK hzK hsK hbK rfl (by omega) (.slice A j c) j _ rfl hown4 ⟨w3.heap.size, 0, none⟩ 1 1 (kk.map bv) rfl hkl32 hnews (one_bv _) (by simp only [maxLen]; omega) (by omega) hwb ?_; intro v5 w5 hown5 hgr5 hnil5 hat5; obtain ⟨A5, c5, rfl⟩ := own_sl hown5; rw [← List.map_append, ← Hks.out] at hown5; have hM5 := hM4.grownD hgr5 (fun k hk => by have := (hown1 k hk).1; omega) (fun p hp k hk => by have := hown1 k hk; simp at hp; rcases hp with rfl | rfl | rfl | rfl <;> simp <;> omega))
        | ((with_reducible show wpList _ _ _ (⟨some 40, _, _, _, _, _⟩ :: _) _ _); refine wpList_loadC (by kernel_rfl) 27 (.tmp 9) rfl (g8 + 1) rfl 27 (drC s (N + j + 1)) _ (hM5.get 1 rfl) Tryd.underlying27 rfl Hsn.out ?_)
        | ((with_reducible show wpList _ _ _ (⟨none, Op.store 27 _ _, _, _, _, _⟩ :: _) _ _); refine wpList_store_row rfl 27 (.tmp 2) (.tmp 40) rfl (w.heap.size) (drC s (N + j + 1)) rfl rfl 27 _ (hM5.get 3 rfl) Hsn.out Hzs.out Hon.out ?_))
      have hM6 := (Ms.set (Ms.sub (L' := [(w.heap.size, 27, drC s (N + j)), (w.heap.size + 1, 27, #[.int .u8 0, .int .u8 0, .int .u8 0, .int .u8 0, .int .u8 0, .int .u8 0, .int .u8 0, .int .u8 0, .int .u8 0, .int .u8 0, .int .u8 0, .int .u8 0, .int .u8 0, .int .u8 0, .int .u8 0, .int .u8 0, .int .u8 0, .int .u8 0, .int .u8 0, .int .u8 0, .int .u8 0, .int .u8 0, .int .u8 0, .int .u8 0, .int .u8 0, .int .u8 0, .int .u8 0, .int .u8 0, .int .u8 0, .int .u8 0, .int .u8 0, .int .u8 0, .int .u64 0])]) hM5 (fun p hp => by simp at hp; rcases hp with rfl | rfl <;> simp)) (Nat.le_refl _) (fun p hp => by simp at hp; subst hp; simp) (drC s (N + j + 1))).swap
      have hown6 := own_row hown5 (g' := w.heap.size) (fun g hg => by have := (hown5.lt g hg).1; omega) (drC s (N + j + 1))
      go_roundw
      case rel => exact ⟨j + 1, A5, c5, by omega, by omega, by go_num, rfl, hown6, (hM6.get 0 rfl).lt, hM6⟩
      case measure => simp [intOf]; omega
    · obtain rfl : j = m := by omega
      have He := Lib.hid (show errM N (j : Int) = 0 by rw [Hem.out, if_neg (by omega)])
      have hud := Tryd.underlying27
      have hsj : (Tryd.prog.info? 27).map (·.size) = some (drC s (N + j)).toList.length := by simpa using Hsj.out
      have hkeep : ∀ wx : World, Below wr.heap.size wr wx → wx.rangeAt w.heap.size 0 (drC s (N + j)).toList := fun wx hb => ((hM.get 1 rfl).call hb).range
      have hM9 := hM.drew
      have hown9 := own_below hown (c_drew (c_refl _))
      have Hzs := Lib.hid (show (#[.int .u8 0, .int .u8 0, .int .u8 0, .int .u8 0, .int .u8 0, .int .u8 0, .int .u8 0, .int .u8 0, .int .u8 0, .int .u8 0, .int .u8 0, .int .u8 0, .int .u8 0, .int .u8 0, .int .u8 0, .int .u8 0, .int .u8 0, .int .u8 0, .int .u8 0, .int .u8 0, .int .u8 0, .int .u8 0, .int .u8 0, .int .u8 0, .int .u8 0, .int .u8 0, .int .u8 0, .int .u8 0, .int .u8 0, .int .u8 0, .int .u8 0, .int .u8 0, .int .u64 0] : Array Value).size = (drC s (N + j)).size by rw [drC_size _ Hs.out]; rfl)
      have Hon := Lib.hid (one_dr s (N + j))
      go_wp2_with fail
      refine beginT (fun wx => wx.rangeAt w.heap.size 0 (drC s (N + j)).toList) 5 (by kernel_rfl) ?_
      have hS := hkeep _ (c_drew (c_refl _))
      refine takeD 0 (some 42) (.slice A j c) rfl rfl (by kernel_rfl) (by kernel_rfl) (by kernel_rfl) (by kernel_rfl) (fun _ _ _ h => h) (Or.inl ⟨by kernel_rfl, fun wx hSw => by go_simp⟩) hS ?_
      simp only [Act.put, List.setIfInBounds_toArray, List.set_cons_zero, List.set_cons_succ]
      refine loadT 1 (some 43) 27 (.tmp 2) w.heap.size 0 (drC s (N + j)).toList rfl rfl (by kernel_rfl) (by kernel_rfl) (by kernel_rfl) (by kernel_rfl) rfl (by kernel_rfl) rfl (fun wx hSw => hSw) hud rfl hsj (fun _ _ _ h => h) hS ?_
      simp only [Act.put, List.setIfInBounds_toArray, List.set_cons_zero, List.set_cons_succ, Array.toArray_toList]
      refine oneT 2 (by kernel_rfl) rfl (fun K hK => ?_)
      go_simp
      refine hK.out _ _ (fun _ => hkeep _ (c_drew (c_refl _))) ?_
      clear hK K
      have q1 : w.heap.size ≠ w.heap.size + 1 := by omega
      refine oneT 3 (by kernel_rfl) rfl (fun K hK => ?_)
      refine step_store_row rfl 27 (.tmp 5) (.tmp 43) rfl (w.heap.size + 1) (drC s (N + j)) rfl rfl 27 _ (hM9.get 0 rfl) Hsj.out Hzs.out Hon.out ?_
      refine hK.out _ _ (fun _ => ((hM9.get 1 rfl).rowFar q1 _).range) ?_
      clear hK K
      refine oneT 4 (by kernel_rfl) rfl (fun K hK => ?_)
      go_simp
      refine hK.out _ _ (fun _ => ((hM9.get 1 rfl).rowFar q1 _).range) ?_
      clear hK K
      refine doneT (by kernel_rfl) ?_ _
      go_wp2_with fail
      exact bodyPost_ret (results_tcT rfl _ _ (w.heap.size + 1) 27 (drC s (N + j)) _ rfl ((hM9.get 0 rfl).row _) Tryd.underlying27 rfl Hsj.out) rfl (Hpost.out _ _ (below_setRow hM9.old (by omega) _) (.inr ⟨He.out, _, rfl, own_base (own_row hown9 (g' := w.heap.size + 1) (fun g hg => by have := (hown9.lt g hg).1; omega) _) (by omega)⟩))

end Go.Proofs.YtgjeamapgdakcaaDoor

