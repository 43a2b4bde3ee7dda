import Derived.Test.YtajbaaamhddgiaaDoorG27
import Derived.Test.YtajbaaamhddgiaaDoorG19
import Derived.StillTailTactics
/-
  CONTRACTS of the document's xor, turned, at (coterieref04).
-/
set_option linter.unusedVariables false
namespace Go.Proofs.YtajbaaamhddgiaaDoor
open Go.RowKit

set_option maxRecDepth 100000 in
set_option maxHeartbeats 800000 in
theorem Rxor_any (b k : List UInt8) (w : World) (hb : b.length = 16) (hk : k.length = 16) :
    Calls Tryd.prog 66 #[.agg (b.map bv).toArray, .agg (k.map bv).toArray] w fun e w' => e = .returned (.agg ((addU b k).map bv).toArray) ∧ Below w.heap.size w w' := by
  have Hiz := Lib.hid (size16 (addU_len b k))
  have Hsz := Lib.hid (same16 (addU_len b k) zero16_len)
  have Hb := Lib.hid hb
  have Hk := Lib.hid hk
  clear hb hk
  go_enter Tryd.func66, Tryd.ntmps66
  go_wp2_with fail
  go_loopw [6] (fun i wr => ∃ j : Nat, j ≤ 16 ∧ i = .int .i64 (j : Int) ∧ ArrB wr w.heap.size 51 (upto (addF b k) (at0 b) 16 j) ∧ ArrB wr (w.heap.size + 1) 51 k ∧ ArrB wr (w.heap.size + 1 + 1) 51 zero16 ∧ Below w.heap.size w wr) (fun i _ => (16 - intOf i).toNat)
  case atStart =>
    refine ⟨0, by omega, rfl, ?_, (ArrB.mk_ _ _ _ k (by simp) rfl).alloc _, ArrB.mk_ _ _ _ _ (by simp) rfl, (((Below.refl _ _).alloc (Nat.le_refl _) _).alloc (al0 _ _) _).alloc (by simp; omega) _⟩
    rw [upto_zero, map_at0 Hb.out]
    exact ((ArrB.mk_ w _ _ b rfl rfl).alloc _).alloc _
  case round =>
    obtain ⟨j, hj, rfl, g0, g1, g2, hbel⟩ := hrel
    by_cases hlt : j < 16
    · have c0 := g0.cell (upto_old _ _ hlt (Nat.le_refl j))
      have f0 := g0.frozen j
      have hs := g0.set_ j (addF b k j)
      rw [← upto_succ, addF] at hs
      have c1 := g1.cell (at0_of (show j < k.length by rw [Hk.out]; exact hlt))
      have j0 : 0 ≤ (j : Int) := by omega
      have j1 : (j : Int) < 16 := by omega
      go_wp2_with fail
      go_still_tail 8, (by kernel_rfl)
      change wpList _ _ _ _ _ wr.drew
      rw [b_xor]
      clear c1
      go_wp2_with fail
      exact ⟨⟨j + 1, by omega, by go_num, hs.drew, (g1.far (by simp; try omega) _).drew, (g2.far (by simp; try omega) _).drew, (hbel.setCell (by simp) _).drew⟩, by simp [intOf]; omega⟩
    · obtain rfl : j = 16 := by omega
      rw [show ((16 : Nat) : Int) = 16 from rfl]
      rw [upto_all] at g0
      rw [show (List.range 16).map (addF b k) = addU b k from rfl] at g0
      generalize hq : addU b k = q at *
      have Hq := Lib.hid hq
      clear hq
      go_wp2_with (first
        | ((with_reducible show wpList _ _ _ (⟨some 18, _, _, _, _, _⟩ :: _) _ _); refine wpList_load_row rfl 51 (.tmp 2) rfl w.heap.size rfl 51 (q.map bv).toArray (0, 0) _ g0 Tryd.underlying51 rfl Hiz.out ?_)
        | ((with_reducible show wpList _ _ _ (⟨none, Op.store 51 _ _, _, _, _, _⟩ :: _) _ _); refine wpList_store_row rfl 51 (.tmp 4) (.tmp 18) rfl (w.heap.size + 1 + 1) (q.map bv).toArray rfl rfl 51 _ g2 Hiz.out Hsz.out (one_bvA q) ?_))
      exact bodyPost_ret (results_cell_row rfl _ _ (w.heap.size + 1 + 1) 51 _ (0, 0) _ rfl (g2.row q) Tryd.underlying51 rfl Hiz.out) rfl ⟨by rw [Hq.out], below_setRow hbel (by omega) _⟩

/-- boxed, then turned, in one -/
def btF (b : List UInt8) (i : Nat) : UInt8 := boxU (at0 b (i % 4 + 4 * ((i / 4 + i % 4) % 4)))
theorem bt_eq (b : List UInt8) : (List.range 16).map (btF b) = turnU (boxL b) := by
  apply List.map_congr_left
  intro i hi
  rw [List.mem_range] at hi
  unfold btF turnF boxL
  rw [at0_map (boxF b) (by omega)]
  rfl

set_option maxRecDepth 100000 in
set_option maxHeartbeats 1600000 in
theorem Rturned_any (b : List UInt8) (w : World) (hb : b.length = 16) :
    Calls Tryd.prog 67 #[.agg (b.map bv).toArray] w fun e w' => e = .returned (.agg ((turnU (boxL b)).map bv).toArray) ∧ Below w.heap.size w w' := by
  have Hiz := Lib.hid (size16 (turnU_len (boxL b)))
  have Hsz := Lib.hid (same16 (turnU_len (boxL b)) zero16_len)
  have Hb := Lib.hid hb
  clear hb
  go_enter Tryd.func67, Tryd.ntmps67
  go_wp2_with fail
  go_loopw [6] (fun i wr => ∃ c : Nat, c ≤ 4 ∧ i = .int .i64 (c : Int) ∧ ArrB wr w.heap.size 51 b ∧ ArrB wr (w.heap.size + 1) 51 zero16 ∧ ArrB wr (w.heap.size + 1 + 1) 51 (upto (btF b) (fun _ => 0) 16 (4 * c)) ∧ Below w.heap.size w wr) (fun i _ => (4 - intOf i).toNat)
  case atStart =>
    refine ⟨0, by omega, rfl, ((ArrB.mk_ w _ _ b rfl rfl).alloc _).alloc _, (ArrB.mk_ _ _ _ zero16 (by simp) rfl).alloc _, ArrB.mk_ _ _ _ _ (by simp) (by rw [Nat.mul_zero, upto_zero]; rfl), (((Below.refl _ _).alloc (Nat.le_refl _) _).alloc (al0 _ _) _).alloc (by simp; omega) _⟩
  case round =>
    obtain ⟨c, hc, rfl, g0, g1, g2, hbel⟩ := hrel
    by_cases hlt : c < 4
    · have j0 : 0 ≤ (c : Int) := by omega
      have j1 : (c : Int) < 4 := by omega
      go_wp2_with fail
      go_loopw [9] (fun i wr => ∃ r : Nat, r ≤ 4 ∧ i = .int .i64 (r : Int) ∧ ArrB wr w.heap.size 51 b ∧ ArrB wr (w.heap.size + 1) 51 zero16 ∧ ArrB wr (w.heap.size + 1 + 1) 51 (upto (btF b) (fun _ => 0) 16 (4 * c + r)) ∧ Below w.heap.size w wr) (fun i _ => (4 - intOf i).toNat)
      case atStart => exact ⟨0, by omega, rfl, g0, g1, g2, hbel⟩
      case round =>
        obtain ⟨r, hr, rfl, g0, g1, g2, hbel⟩ := hrel
        by_cases hlr : r < 4
        · have hq : 4 * ((c + r) % 4) + r < 16 := by omega
          have cs := g0.cell (at0_of (show 4 * ((c + r) % 4) + r < b.length by rw [Hb.out]; exact hq))
          have c2 := g2.cell (upto_old (btF b) (fun _ => 0) (show 4 * c + r < 16 by omega) (Nat.le_refl _))
          have f2 := g2.frozen (4 * c + r)
          have hs := g2.set_ (4 * c + r) (btF b (4 * c + r))
          rw [← upto_succ, btF, show (4 * c + r) % 4 = r by omega, show (4 * c + r) / 4 = c by omega, show r + 4 * ((c + r) % 4) = 4 * ((c + r) % 4) + r by omega] at hs
          generalize at0 b (4 * ((c + r) % 4) + r) = x at *
          have j2 : 0 ≤ (r : Int) := by omega
          have j3 : (r : Int) < 4 := by omega
          go_wp2_with fail
          refine (RBox_any x _).mono ?_
          rintro e w4 ⟨rfl, q, rfl⟩
          generalize boxU x = y at *
          go_wp2_with fail
          exact ⟨⟨r + 1, by omega, by go_num, (g0.drewN _).far (by simp; try omega) _, (g1.drewN _).far (by simp; try omega) _, hs.of rfl, (hbel.trans ⟨rfl, rfl, rfl, Nat.le_refl _, fun _ _ => rfl⟩ : Below w.heap.size w (wr.drewN q)).setCell (by simp; try omega) _⟩, by simp [intOf]; omega⟩
        · obtain rfl : r = 4 := by omega
          rw [show ((4 : Nat) : Int) = 4 from rfl]
          go_wp2_with fail
          exact ⟨⟨c + 1, by omega, by go_num, g0, g1, g2, hbel⟩, by simp [intOf]; omega⟩
    · obtain rfl : c = 4 := by omega
      rw [show ((4 : Nat) : Int) = 4 from rfl]
      rw [show 4 * 4 = 16 from rfl, upto_all, bt_eq] at g2
      generalize hq : turnU (boxL b) = q at *
      have Hq := Lib.hid hq
      clear hq
      go_wp2_with (first
        | ((with_reducible show wpList _ _ _ (⟨some 29, _, _, _, _, _⟩ :: _) _ _); refine wpList_load_row rfl 51 (.tmp 3) rfl (w.heap.size + 1 + 1) rfl 51 (q.map bv).toArray (0, 0) _ g2 Tryd.underlying51 rfl Hiz.out ?_)
        | ((with_reducible show wpList _ _ _ (⟨none, Op.store 51 _ _, _, _, _, _⟩ :: _) _ _); refine wpList_store_row rfl 51 (.tmp 2) (.tmp 29) rfl (w.heap.size + 1) (q.map bv).toArray rfl rfl 51 _ g1 Hiz.out Hsz.out (one_bvA q) ?_))
      exact bodyPost_ret (results_cell_row rfl _ _ (w.heap.size + 1) 51 _ (0, 0) _ rfl (g1.row q) Tryd.underlying51 rfl Hiz.out) rfl ⟨by rw [Hq.out], below_setRow hbel (by omega) _⟩

set_option maxRecDepth 100000 in
theorem Rat_any (b : List UInt8) (c r : Nat) (d : Int) (w : World) (hb : b.length = 16) (hc : c < 4) (hr : r < 8) (hd : d = (r : Int)) :
    Calls Tryd.prog 81 #[.agg (b.map bv).toArray, .int .i64 (c : Int), .int .i64 d] w fun e w' => e = .returned (.int .u8 ((at0 b (4 * c + r % 4)).toNat : Int)) ∧ Below w.heap.size w w' := by
  subst hd
  have cs := (ArrB.mk_ w 51 _ b rfl rfl).cell (at0_of (show 4 * c + r % 4 < b.length by rw [hb]; omega))
  have j0 : 0 ≤ (c : Int) := by omega
  have j1 : (c : Int) < 4 := by omega
  have j2 : 0 ≤ (r : Int) := by omega
  have j3 : (r : Int) < 8 := by omega
  generalize hx : at0 b (4 * c + r % 4) = x at *
  go_enter Tryd.func81, Tryd.ntmps81
  go_wp2_with fail
  go_ret
  exact ⟨rfl, (Below.refl _ _).alloc (Nat.le_refl _) _⟩

end Go.Proofs.YtajbaaamhddgiaaDoor

