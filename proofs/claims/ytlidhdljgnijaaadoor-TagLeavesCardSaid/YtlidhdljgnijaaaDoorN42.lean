import Derived.Test.YtlidhdljgnijaaaDoorN40
import Derived.RangeFuncBox
import Derived.Shelf.Abstract
import Derived.Shelf.RegionOpen
import Derived.WalkKit
import Derived.OwnWalkIn
import Derived.TacticsInMore
import Derived.LoopNIn
import Derived.LoopIn
import Derived.Deep.RegionHeld3
/-
  CONTRACTS of slices.Chunk over bytes, of a length that is so many times the chunk's, and of the iterator that it hands back: chunk after chunk, for every loop body that keeps the two boxes that the iterator reads.
-/
set_option linter.unusedVariables false
namespace Go.Proofs.YtlidhdljgnijaaaDoor
open Go.RowKit Go.Shelf

attribute [local go_sem] Oper.semAt_some

/-- chunk j of a slice at block g, from place o on -/
def chunkQ (g o q j : Nat) : Value := .slice (some ⟨g, o + q * j, none⟩) q q
/-- the two boxes lie as they lay -/
def KpQ (bS bN : Nat) (W W' : World) : Prop := W'.heap[bS]? = W.heap[bS]? ∧ W'.heap[bN]? = W.heap[bN]?
theorem KpQ.trans {bS bN : Nat} {A B C : World} (h : KpQ bS bN A B) (k : KpQ bS bN B C) : KpQ bS bN A C := ⟨k.1.trans h.1, k.2.trans h.2⟩
theorem take_finQ {m j : Nat} (h : j < m) : (List.finRange m).take (j + 1) = (List.finRange m).take j ++ [⟨j, h⟩] := by
  rw [List.take_succ_eq_append_getElem (by simpa using h)]
  simp
theorem take_finQ_len {m j : Nat} (h : j ≤ m) : ((List.finRange m).take j).length = j := by simp; omega
theorem grown_drewQ (w : World) (row : Option Nat) : w.grownBy w.drew row := ⟨rfl, rfl, rfl, Nat.le_refl _, fun _ _ _ => rfl⟩

set_option maxRecDepth 100000 in
set_option maxHeartbeats 2000000 in
theorem chunkQ_in (n : Nat) (hn : 1 ≤ n) (l bS bN g o q m c : Nat) (hq1 : 1 ≤ q) (hq2 : q ≤ 64) (hk : q * m ≤ 1099511627776) (hcap : q * m ≤ c) (A : Option Addr) (hA : 0 < q * m → A = some ⟨g, o, none⟩) (J Jx : List (Fin m) → World → Prop)
    (W : World) (hJ : AbidesFrom W.heap.size J)
    (hY : ∀ pre (x : Fin m) W, J pre W → pre.length < m → YieldAt Fence.wide (n - 1) Tryd.prog l #[chunkQ g o q x.1] W fun e W' =>
      (e = .returned (.bool true) ∧ J (pre ++ [x]) W' ∧ KpQ bS bN W W') ∨ (e = .returned (.bool false) ∧ Jx (pre ++ [x]) W'))
    (hS : W.cell? ⟨bS, 0, none⟩ = some (.slice A (q * m) c)) (hN : W.cell? ⟨bN, 0, none⟩ = some (.int .i64 (q : Int))) (h0 : J [] W) :
    CallsIn Fence.wide n Tryd.prog 80 #[.func (.yield l) #[] #[], .pointer (some ⟨bS, 0, none⟩), .pointer (some ⟨bN, 0, none⟩)] W fun e W' => (∃ v, e = .returned v) ∧
      ((∃ ys, ys = List.finRange m ∧ J ys W') ∨ (∃ pre, True ∧ Jx pre W')) := by
  obtain ⟨k, hkq⟩ : ∃ k, k = q * m := ⟨_, rfl⟩
  rw [← hkq] at hk hcap hA hS
  have Hk := Lib.hid hkq
  clear hkq
  refine callsIn_of_wp Tryd.func80 rfl trivial ?_ rfl
  simp only [Tryd.ntmps80, List.size_toArray, List.length_cons, List.length_nil, Nat.reduceAdd, Nat.reduceSub, Array.replicate_succ, Array.replicate_zero, List.push_toArray, List.append_toArray, List.nil_append, List.cons_append]
  gi_wp2
  gi_loopw [4] (fun i wr => ∃ j p : Nat, Hid (p = q * j) ∧ j ≤ m ∧ i = .int .i64 (p : Int) ∧ J ((List.finRange m).take j) wr ∧ KpQ bS bN W wr)
    (fun i _ => k + q - (intOf i).toNat)
  case atStart => exact ⟨0, 0, Lib.hid (by omega), Nat.zero_le _, rfl, h0, rfl, rfl⟩
  case round =>
    obtain ⟨j, p, Hp, hj, rfl, hJs, hnx⟩ := hrel
    have hSr : wr.cell? ⟨bS, 0, none⟩ = some (.slice A k c) := (World.cell?_of_block hnx.1).trans hS
    have hNr : wr.cell? ⟨bN, 0, none⟩ = some (.int .i64 (q : Int)) := (World.cell?_of_block hnx.2).trans hN
    by_cases hlt' : j < m
    · have hpq : p + q ≤ k := by
        have h1 : q * (j + 1) ≤ q * m := Nat.mul_le_mul_left _ hlt'
        rw [Hp.out, Hk.out]
        rw [Nat.mul_succ] at h1
        exact h1
      have Hpn := Lib.hid (show p + q = q * (j + 1) by rw [Hp.out, Nat.mul_succ])
      have hlt : p < k := by omega
      obtain rfl := hA (by omega)
      have hJd := hJ _ _ _ none hJs (grown_drewQ wr none) (fun r e => by cases e)
      obtain ⟨fn, tmps, assign, body, hy, hR⟩ := hY _ ⟨j, hlt'⟩ wr.drew hJd (by rw [take_finQ_len hj]; exact hlt')
      have hkd : KpQ bS bN wr wr.drew := ⟨rfl, rfl⟩
      have i0 : (0 : Int) ≤ (p : Int) := by omega
      have i1 : (p : Int) ≤ (k : Int) := by omega
      have i2 : ¬ c = p := by omega
      gi_wp2
      refine wpIn_wide.2 ?_
      go_region_held3 (fun wx : World => wx.cell? ⟨bS, 0, none⟩ = some (.slice (some ⟨g, o, none⟩) k c) ∧ wx.cell? ⟨bN, 0, none⟩ = some (.int .i64 (q : Int))) (exact ⟨hSr, hNr⟩) (first | done | fail "open")
      have em : min (q : Int) ((k - p : Nat) : Int) = (q : Int) := by omega
      rw [em]
      have hSd : wr.drew.cell? ⟨bS, 0, none⟩ = some (.slice (some ⟨g, o, none⟩) k c) := hSr
      simp only [chunkQ, ← Hp.out] at hy
      generalize wr.drew = wd at *
      have j1 : (p : Int) + (q : Int) ≤ (k : Int) := by omega
      gi_wp2
      refine hR.mono ?_
      rintro e W3 (⟨rfl, hJ3, hk3⟩ | ⟨rfl, hJx3⟩)
      · have hN3 : W3.cell? ⟨bN, 0, none⟩ = some (.int .i64 (q : Int)) := (World.cell?_of_block (hkd.trans hk3).2).trans hNr
        have j3 : (p : Int) + (q : Int) ≤ 1099511627776 := by omega
        gi_wp2
        go_roundw
        case rel => exact ⟨j + 1, p + q, Hpn, by omega, by simp, by rw [take_finQ hlt']; exact hJ3, hnx.trans (hkd.trans hk3)⟩
        case measure => simp [intOf]; omega
      · gi_wp2
        refine bodyPost_ret (results_none rfl _ _ _) rfl ?_
        exact ⟨⟨_, rfl⟩, .inr ⟨_, trivial, hJx3⟩⟩
    · have hjn : j = m := by omega
      have hpk : p = k := by rw [Hp.out, Hk.out, hjn]
      have hge : ¬ (p : Int) < (k : Int) := by omega
      rw [List.take_of_length_le (by simp [hjn])] at hJs
      gi_wp2
      go_end0
      exact ⟨⟨_, rfl⟩, .inl hJs⟩

theorem ChunkQ_any (A : Option Addr) (k c q : Nat) (w : World) (hq : 1 ≤ q) :
    Calls Tryd.prog 51 #[.slice A k c, .int .i64 (q : Int)] w fun e w' =>
      e = .returned (.func (.func 80) #[] #[.pointer (some ⟨w.heap.size, 0, none⟩), .pointer (some ⟨w.heap.size + 1, 0, none⟩)]) ∧
      w' = (w.alloc (.cells #[.slice A k c] 41)).alloc (.cells #[.int .i64 (q : Int)] 3) := by
  have h1 : ¬ (q : Int) < 1 := by omega
  go_enter Tryd.func51, Tryd.ntmps51
  go_wp2_with fail
  go_ret
  exact ⟨rfl, rfl⟩

/-- the iterator hands its caller chunk after chunk, for every loop body that keeps the two boxes -/
theorem chunkQ_stops (n : Nat) (hn : 1 ≤ n) (bS bN g o q m c : Nat) (hq1 : 1 ≤ q) (hq2 : q ≤ 64) (hk : q * m ≤ 1099511627776) (hcap : q * m ≤ c) (A : Option Addr) (hA : 0 < q * m → A = some ⟨g, o, none⟩) (w : World) (hbS : bS < w.heap.size) (hbN : bN < w.heap.size)
    (hS : w.cell? ⟨bS, 0, none⟩ = some (.slice A (q * m) c)) (hN : w.cell? ⟨bN, 0, none⟩ = some (.int .i64 (q : Int))) :
    SeqStopsK Fence.wide n Tryd.prog 80 #[.pointer (some ⟨bS, 0, none⟩), .pointer (some ⟨bN, 0, none⟩)] (fun x : Fin m => #[chunkQ g o q x.1]) (KpQ bS bN) (fun ys => ys = List.finRange m) (fun _ => True) m w :=
  fun l J Jx W hW hJ _ hY h0 => chunkQ_in n hn l bS bN g o q m c hq1 hq2 hk hcap A hA J Jx W hJ hY ((hW.cell (p := ⟨bS, 0, none⟩) hbS).trans hS) ((hW.cell (p := ⟨bN, 0, none⟩) hbN).trans hN) h0

end Go.Proofs.YtlidhdljgnijaaaDoor

