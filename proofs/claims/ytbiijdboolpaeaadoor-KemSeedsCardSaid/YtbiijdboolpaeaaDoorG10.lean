import Derived.Test.YtbiijdboolpaeaaDoorG09
import Derived.RangeFuncBox
import Derived.Shelf.Abstract
import Derived.Shelf.RegionOpen
import Derived.WalkKit
import Derived.OwnWalkIn
import Derived.TacticsInMore
import Derived.LoopNIn
import Derived.LoopIn
import Derived.Deep.RegionHeld3
set_option linter.unusedVariables false
namespace Go.Proofs.YtbiijdboolpaeaaDoor
open Go.RowKit Go.Shelf
attribute [local go_sem] Oper.semAt_some
def nbs (k : Nat) : Nat := (k + 15) / 16
def clen (k j : Nat) : Nat := if 16 * j + 16 ≤ k then 16 else k - 16 * j
theorem nbs_lt {k j : Nat} : j < nbs k ↔ 16 * j < k := by unfold nbs; omega
theorem clen_le {k j : Nat} : clen k j ≤ 16 := by unfold clen; split <;> omega
theorem clen_fit {k j : Nat} (h : j < nbs k) : 16 * j + clen k j ≤ k ∧ 0 < clen k j := by rw [nbs_lt] at h; unfold clen; split <;> omega
def chunkV (g k j : Nat) : Value := .slice (some ⟨g, 16 * j, none⟩) (clen k j) (clen k j)
def KpS (bS bN : Nat) (W W' : World) : Prop := W'.heap[bS]? = W.heap[bS]? ∧ W'.heap[bN]? = W.heap[bN]?
theorem KpS.trans {bS bN : Nat} {A B C : World} (h : KpS bS bN A B) (k : KpS bS bN B C) : KpS bS bN A C := ⟨k.1.trans h.1, k.2.trans h.2⟩
theorem KpS.putObj {bS bN B : Nat} (h1 : bS < B) (h2 : bN < B) (W : World) (l : Nat) (o o' : Obj) (hl : B ≤ l) : KpS bS bN W (W.putObj l o') := by
 unfold KpS World.putObj
 constructor
 ·
  exact Array.getElem?_setIfInBounds_ne (by omega)
 ·
  exact Array.getElem?_setIfInBounds_ne (by omega)
theorem take_fin {m j : Nat} (h : j < m) : (List.finRange m).take (j + 1) = (List.finRange m).take j ++ [⟨j, h⟩] := by
 rw [List.take_succ_eq_append_getElem (by simpa using h)]
 simp
theorem take_fin_len {m j : Nat} (h : j ≤ m) : ((List.finRange m).take j).length = j := by simp; omega
theorem grown_drew' (w : World) (row : Option Nat) : w.grownBy w.drew row := ⟨rfl, rfl, rfl, Nat.le_refl _, fun _ _ _ => rfl⟩
set_option maxRecDepth 100000 in
set_option maxHeartbeats 2000000 in
theorem chunk1_in (n : Nat) (hn : 1 ≤ n) (l bS bN g k c : Nat) (hk : k ≤ 1099511627776) (hcap : k ≤ c) (A : Option Addr) (hA : 0 < k → A = some ⟨g, 0, none⟩) (J Jx : List (Fin (nbs k)) → World → Prop)
  (W : World) (hJ : AbidesFrom W.heap.size J)
  (hY : ∀ pre (x : Fin (nbs k)) W, J pre W → pre.length < nbs k → YieldAt Fence.wide (n - 1) Tryd.prog l #[chunkV g k x.1] W fun e W' =>
   (e = .returned (.bool true) ∧ J (pre ++ [x]) W' ∧ KpS bS bN W W') ∨ (e = .returned (.bool false) ∧ Jx (pre ++ [x]) W'))
  (hS : W.cell? ⟨bS, 0, none⟩ = some (.slice A k c)) (hN : W.cell? ⟨bN, 0, none⟩ = some (.int .i64 16)) (h0 : J [] W) :
  CallsIn Fence.wide n Tryd.prog 77 #[.func (.yield l) #[] #[], .pointer (some ⟨bS, 0, none⟩), .pointer (some ⟨bN, 0, none⟩)] W fun e W' => (∃ v, e = .returned v) ∧
   ((∃ ys, ys = List.finRange (nbs k) ∧ J ys W') ∨ (∃ pre, True ∧ Jx pre W')) := by
 refine callsIn_of_wp Tryd.func77 rfl trivial ?_ rfl
 simp only [Tryd.ntmps77, List.size_toArray, List.length_cons, List.length_nil, Nat.reduceAdd, Nat.reduceSub, Array.replicate_succ, Array.replicate_zero, List.push_toArray, List.append_toArray, List.nil_append, List.cons_append]
 gi_wp2
 gi_loopw [4] (fun i wr => ∃ j p : Nat, p = 16 * j ∧ j ≤ nbs k ∧ i = .int .i64 (p : Int) ∧ J ((List.finRange (nbs k)).take j) wr ∧ KpS bS bN W wr)
  (fun i _ => k + 16 - (intOf i).toNat)
 case atStart => exact ⟨0, 0, rfl, Nat.zero_le _, rfl, h0, rfl, rfl⟩
 case round =>
  obtain ⟨j, p, hp, hj, rfl, hJs, hnx⟩ := hrel
  have hSr : wr.cell? ⟨bS, 0, none⟩ = some (.slice A k c) := (World.cell?_of_block hnx.1).trans hS
  have hNr : wr.cell? ⟨bN, 0, none⟩ = some (.int .i64 16) := (World.cell?_of_block hnx.2).trans hN
  by_cases hlt : p < k
  ·
   have hlt' : j < nbs k := nbs_lt.2 (by omega)
   obtain rfl := hA (by omega)
   have hJd := hJ _ _ _ none hJs (grown_drew' wr none) (fun r e => by cases e)
   obtain ⟨fn, tmps, assign, body, hy, hR⟩ := hY _ ⟨j, hlt'⟩ wr.drew hJd (by rw [take_fin_len hj]; exact hlt')
   have hkd : KpS bS bN wr wr.drew := ⟨rfl, rfl⟩
   have i0 : (0 : Int) ≤ (p : Int) := by omega
   have i1 : (p : Int) ≤ (k : Int) := by omega
   have i2 : ¬ c = p := by omega
   have Hp := Lib.hid hp
   clear hp
   gi_wp2
   refine wpIn_wide.2 ?_
   go_region_held3 (fun wx : World => wx.cell? ⟨bS, 0, none⟩ = some (.slice (some ⟨g, 0, none⟩) k c) ∧ wx.cell? ⟨bN, 0, none⟩ = some (.int .i64 16)) (exact ⟨hSr, hNr⟩) (first | done | fail "open")
   have em : min (16 : Int) ((k - p : Nat) : Int) = ((clen k j : Nat) : Int) := by rw [Hp.out]; unfold clen; split <;> omega
   rw [em]
   obtain ⟨hf1, hf2⟩ := clen_fit hlt'
   have hcl := @clen_le k j
   have hSd : wr.drew.cell? ⟨bS, 0, none⟩ = some (.slice (some ⟨g, 0, none⟩) k c) := hSr
   simp only [chunkV, ← Hp.out] at hy
   rw [← Hp.out] at hf1
   generalize clen k j = m at *
   generalize wr.drew = wd at *
   have j1 : (p : Int) + (m : Int) ≤ (k : Int) := by omega
   gi_wp2
   refine hR.mono ?_
   rintro e W3 (⟨rfl, hJ3, hk3⟩ | ⟨rfl, hJx3⟩)
   ·
    have hN3 : W3.cell? ⟨bN, 0, none⟩ = some (.int .i64 16) := (World.cell?_of_block (hkd.trans hk3).2).trans hNr
    have j3 : (p : Int) + 16 ≤ 1099511627792 := by omega
    gi_wp2
    go_roundw
    case rel => exact ⟨j + 1, p + 16, by rw [Hp.out]; omega, by omega, by simp, by rw [take_fin hlt']; exact hJ3, hnx.trans (hkd.trans hk3)⟩
    case measure => simp [intOf]; omega
   ·
    gi_wp2
    refine bodyPost_ret (results_none rfl _ _ _) rfl ?_
    exact ⟨⟨_, rfl⟩, .inr ⟨_, trivial, hJx3⟩⟩
  ·
   have hjn : j = nbs k := Nat.le_antisymm hj (Nat.le_of_not_lt fun h => hlt (by rw [hp]; exact nbs_lt.1 h))
   rw [List.take_of_length_le (by simp [hjn])] at hJs
   clear hp
   gi_wp2
   go_end0
   exact ⟨⟨_, rfl⟩, .inl ⟨_, rfl, hJs⟩⟩
theorem Chunk_any (A : Option Addr) (k c : Nat) (w : World) :
  Calls Tryd.prog 60 #[.slice A k c, .int .i64 16] w fun e w' =>
   e = .returned (.func (.func 77) #[] #[.pointer (some ⟨w.heap.size, 0, none⟩), .pointer (some ⟨w.heap.size + 1, 0, none⟩)]) ∧
   w' = (w.alloc (.cells #[.slice A k c] 24)).alloc (.cells #[.int .i64 16] 3) := by
 go_enter Tryd.func60, Tryd.ntmps60
 go_wp2_with fail
 go_ret
 exact ⟨rfl, rfl⟩
theorem chunk_stops (n : Nat) (hn : 1 ≤ n) (bS bN g k c : Nat) (hk : k ≤ 1099511627776) (hcap : k ≤ c) (A : Option Addr) (hA : 0 < k → A = some ⟨g, 0, none⟩) (w : World) (hbS : bS < w.heap.size) (hbN : bN < w.heap.size)
  (hS : w.cell? ⟨bS, 0, none⟩ = some (.slice A k c)) (hN : w.cell? ⟨bN, 0, none⟩ = some (.int .i64 16)) :
  SeqStopsK Fence.wide n Tryd.prog 77 #[.pointer (some ⟨bS, 0, none⟩), .pointer (some ⟨bN, 0, none⟩)] (fun x : Fin (nbs k) => #[chunkV g k x.1]) (KpS bS bN) (fun ys => ys = List.finRange (nbs k)) (fun _ => True) (nbs k) w :=
 fun l J Jx W hW hJ _ hY h0 => chunk1_in n hn l bS bN g k c hk hcap A hA J Jx W hJ hY ((hW.cell (p := ⟨bS, 0, none⟩) hbS).trans hS) ((hW.cell (p := ⟨bN, 0, none⟩) hbN).trans hN) h0
end Go.Proofs.YtbiijdboolpaeaaDoor
