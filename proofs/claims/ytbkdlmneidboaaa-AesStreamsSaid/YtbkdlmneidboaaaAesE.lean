/-
  CONTRACT of the program's nextKey (package aes).
-/
import Derived.Test.YtbkdlmneidboaaaAesD
set_option linter.unusedVariables false
namespace Go.Proofs.Ytbkdlmneidboaaa
open Go.RowKit

def zero4 : List UInt8 := List.replicate 4 0

/-- the boxes of the last word, turned -/
def lastF (was : List UInt8) (r : Nat) : UInt8 := boxU (at0 was (12 + (r + 1) % 4))
theorem word0 (was : List UInt8) (mark : UInt8) :
    (upto (lastF was) (fun _ => 0) 4 4).set 0 (lastF was 0 ^^^ mark) = upto (wordK was mark 1) (wordK was mark 0) 4 0 := by
  simp only [upto, List.range, List.range.loop, List.map, lastF, wordK, List.set]
  simp
theorem wordNext (was : List UInt8) (mark : UInt8) (c : Nat) : upto (wordK was mark (c + 1)) (wordK was mark c) 4 4 = upto (wordK was mark (c + 2)) (wordK was mark (c + 1)) 4 0 := by
  simp only [upto]
  apply List.map_congr_left
  intro i hi
  rw [List.mem_range] at hi
  rw [if_pos hi, if_neg (by omega)]
theorem nextF_at (was : List UInt8) (mark : UInt8) {c r : Nat} (hr : r < 4) : nextF was mark (r + 4 * c) = wordK was mark (c + 1) r := by
  unfold nextF
  rw [show (r + 4 * c) / 4 = c by omega, show (r + 4 * c) % 4 = r by omega]

set_option maxRecDepth 100000 in
set_option maxHeartbeats 3000000 in
theorem nextKey_any (g : Nat) (K was : List UInt8) (mark : UInt8) (w : World) (hC : CipAt w g K) (hb : was.length = 16) :
    Calls Try.prog 56 #[.pointer (some ⟨g, 0, none⟩), .agg (was.map bv).toArray, .int .u8 (mark.toNat : Int)] w fun e w' => e = .returned (.agg ((nextU was mark).map bv).toArray) ∧ Below w.heap.size w w' := by
  have Hiz := Lib.hid (size16 (nextU_len was mark))
  have Hsz := Lib.hid (same16 (nextU_len was mark) zero16_len)
  have Hb := Lib.hid hb
  have hg := ArrB.lt hC
  clear hb
  go_enter Try.func56, Try.ntmps56
  go_wp2_with fail
  go_loopw [13] (fun i wr => ∃ r : Nat, r ≤ 4 ∧ i = .int .i64 (r : Int) ∧ ArrB wr w.heap.size 23 was ∧ ArrB wr (w.heap.size + 1) 23 zero16 ∧ ArrB wr (w.heap.size + 1 + 1) 23 zero16 ∧ ArrB wr (w.heap.size + 1 + 1 + 1) 93 (upto (lastF was) (fun _ => 0) 4 r) ∧ Below w.heap.size w wr) (fun i _ => (4 - intOf i).toNat)
  case atStart =>
    exact ⟨0, by omega, rfl, (((ArrB.mk_ w _ _ was rfl rfl).alloc _).alloc _).alloc _, ((ArrB.mk_ _ _ _ zero16 (by simp) rfl).alloc _).alloc _, (ArrB.mk_ _ _ _ zero16 (by simp) rfl).alloc _, ArrB.mk_ _ _ _ _ (by simp) (by rw [upto_zero]; rfl),
      ((((Below.refl _ _).alloc (Nat.le_refl _) _).alloc (al0 _ _) _).alloc (by simp; omega) _).alloc (by simp; omega) _⟩
  case round =>
    obtain ⟨r, hr, rfl, g0, g1, g2, g3, hbel⟩ := hrel
    by_cases hlr : r < 4
    · have c0 := g0.cell (at0_of (show 12 + (r + 1) % 4 < was.length by rw [Hb.out]; omega))
      have cb := CipAt.box (ArrB.below hC hbel hg) (at0 was (12 + (r + 1) % 4))
      have cs := g3.cell (upto_old (lastF was) (fun _ => 0) hlr (Nat.le_refl _))
      have fs := g3.frozen r
      have hs := g3.set_ r (lastF was r)
      rw [← upto_succ, lastF] at hs
      have hx := b_lt (at0 was (12 + (r + 1) % 4))
      generalize at0 was (12 + (r + 1) % 4) = x at *
      generalize boxU x = y at *
      have j2 : 0 ≤ (r : Int) := by omega
      have j3 : (r : Int) < 4 := by omega
      have hx1 : (x.toNat : Int) < 256 := by omega
      have hx0 : 0 ≤ (x.toNat : Int) := by omega
      have v1 : IntKind.i64.wrap ((r : Int) + 1) = (r : Int) + 1 := IntWalk.i64_in _ (by omega)
      have v2 : ((r : Int) + 1).tmod 4 = ((r : Int) + 1) % 4 := Int.tmod_eq_emod_of_nonneg (by omega)
      have v3 : IntKind.i64.wrap (12 + ((r : Int) + 1) % 4) = 12 + ((r : Int) + 1) % 4 := IntWalk.i64_in _ (by omega)
      have v4 : 0 ≤ 12 + ((r : Int) + 1) % 4 := by omega
      have v5 : 12 + ((r : Int) + 1) % 4 < 16 := by omega
      have v6 : (12 + ((r : Int) + 1) % 4).toNat = 12 + (r + 1) % 4 := by omega
      go_wp2_with fail
      go_still_tail 13, (by kernel_rfl)
      change wpList _ _ _ _ _ wr.drew
      clear c0 cb v1 v2 v3 v4 v5 v6
      go_wp2_with fail
      exact ⟨⟨r + 1, by omega, by go_num, (g0.far (by simp; try omega) _).drew, (g1.far (by simp; try omega) _).drew, (g2.far (by simp; try omega) _).drew, hs.drew, (hbel.setCell (by simp; try omega) _).drew⟩, by simp [intOf]; omega⟩
    · obtain rfl : r = 4 := by omega
      rw [show ((4 : Nat) : Int) = 4 from rfl]
      have c0 := g3.cell (upto_done (lastF was) (fun _ => 0) (show 0 < 4 by omega) (show 0 < 4 by omega))
      have f0 := g3.frozen 0
      have hs := g3.set_ 0 (lastF was 0 ^^^ mark)
      rw [word0] at hs
      generalize lastF was 0 = x at *
      go_wp2_with fail
      rw [b_xor]
      generalize x ^^^ mark = y0 at *
      refine wp_gen (fun wx => ArrB wx w.heap.size 23 was ∧ ArrB wx (w.heap.size + 1) 23 zero16 ∧ ArrB wx (w.heap.size + 1 + 1) 23 zero16 ∧ ArrB wx (w.heap.size + 1 + 1 + 1) 93 (upto (wordK was mark 1) (wordK was mark 0) 4 0) ∧ Below w.heap.size w wx)
        ⟨g0.far (by simp; try omega) _, g1.far (by simp; try omega) _, g2.far (by simp; try omega) _, hs, hbel.setCell (by simp; try omega) _⟩ ?_
      clear g0 g1 g2 g3 hbel c0 f0 hs
      rintro wy ⟨g0, g1, g2, g3, hbel⟩
      go_loopw [35] (fun i wr => ∃ c : Nat, c ≤ 4 ∧ i = .int .i64 (c : Int) ∧ ArrB wr w.heap.size 23 was ∧ ArrB wr (w.heap.size + 1) 23 zero16 ∧ ArrB wr (w.heap.size + 1 + 1) 23 (upto (nextF was mark) (fun _ => 0) 16 (0 + 4 * c)) ∧ ArrB wr (w.heap.size + 1 + 1 + 1) 93 (upto (wordK was mark (c + 1)) (wordK was mark c) 4 0) ∧ Below w.heap.size w wr) (fun i _ => (4 - intOf i).toNat)
      case atStart => exact ⟨0, by omega, rfl, g0, g1, by rw [show 0 + 4 * 0 = 0 from rfl, upto_zero]; exact g2, g3, hbel⟩
      case round =>
        obtain ⟨c, hc, rfl, g0, g1, g2, g3, hbel⟩ := hrel
        by_cases hlt : c < 4
        · have j0 : 0 ≤ (c : Int) := by omega
          have j1 : (c : Int) < 4 := by omega
          go_wp2_with fail
          go_loopw [38] (fun i wr => ∃ r : Nat, r ≤ 4 ∧ i = .int .i64 (r : Int) ∧ ArrB wr w.heap.size 23 was ∧ ArrB wr (w.heap.size + 1) 23 zero16 ∧ ArrB wr (w.heap.size + 1 + 1) 23 (upto (nextF was mark) (fun _ => 0) 16 (r + 4 * c)) ∧ ArrB wr (w.heap.size + 1 + 1 + 1) 93 (upto (wordK was mark (c + 1)) (wordK was mark c) 4 r) ∧ Below w.heap.size w wr) (fun i _ => (4 - intOf i).toNat)
          case atStart => exact ⟨0, by omega, rfl, g0, g1, g2, g3, hbel⟩
          case round =>
            obtain ⟨r, hr, rfl, g0, g1, g2, g3, hbel⟩ := hrel
            by_cases hlr : r < 4
            · have cw := g0.cell (at0_of (show r + 4 * c < was.length by rw [Hb.out]; omega))
              have c3 := g3.cell (upto_old (wordK was mark (c + 1)) (wordK was mark c) hlr (Nat.le_refl _))
              have f3 := g3.frozen r
              have h3 := g3.set_ r (wordK was mark (c + 1) r)
              rw [← upto_succ] at h3
              have c2 := g2.cell (upto_old (nextF was mark) (fun _ => 0) (show r + 4 * c < 16 by omega) (Nat.le_refl _))
              have f2 := g2.frozen (r + 4 * c)
              have h2 := (g2.far (p := ⟨w.heap.size + 1 + 1 + 1, r, none⟩) (by simp; try omega) (.int .u8 ((wordK was mark (c + 1) r).toNat : Int))).set_ (r + 4 * c) (nextF was mark (r + 4 * c))
              rw [← upto_succ, nextF_at was mark hlr] at h2
              have Hw := Lib.hid (show wordK was mark (c + 1) r = wordK was mark c r ^^^ at0 was (r + 4 * c) from rfl)
              generalize wordK was mark (c + 1) r = y at *
              generalize wordK was mark c r = x at *
              generalize at0 was (r + 4 * c) = z at *
              have j2 : 0 ≤ (r : Int) := by omega
              have j3 : (r : Int) < 4 := by omega
              have u3 : 0 ≤ (r : Int) + 4 * (c : Int) := by omega
              have u4 : (r : Int) + 4 * (c : Int) < 16 := by omega
              have u5 : ((r : Int) + 4 * (c : Int)).toNat = r + 4 * c := by omega
              go_wp2_with fail
              go_still_tail 8, (by kernel_rfl)
              change wpList _ _ _ _ _ wr.drew
              rw [b_xor, ← Hw.out]
              clear cw
              go_wp2_with fail
              refine ⟨⟨r + 1, by omega, by go_num, ((g0.far (p := ⟨w.heap.size + 1 + 1 + 1, r, none⟩) (by simp; try omega) _).far (p := ⟨w.heap.size + 1 + 1, r + 4 * c, none⟩) (by simp; try omega) _).drew, ((g1.far (p := ⟨w.heap.size + 1 + 1 + 1, r, none⟩) (by simp; try omega) _).far (p := ⟨w.heap.size + 1 + 1, r + 4 * c, none⟩) (by simp; try omega) _).drew, ?_, (h3.far (p := ⟨w.heap.size + 1 + 1, r + 4 * c, none⟩) (by simp; try omega) _).drew, ((hbel.setCell (p := ⟨w.heap.size + 1 + 1 + 1, r, none⟩) (by simp; try omega) _).setCell (p := ⟨w.heap.size + 1 + 1, r + 4 * c, none⟩) (by simp; try omega) _).drew⟩, by simp [intOf]; omega⟩
              rw [show r + 1 + 4 * c = r + 4 * c + 1 by omega]
              exact h2.drew
            · obtain rfl : r = 4 := by omega
              rw [show ((4 : Nat) : Int) = 4 from rfl]
              rw [wordNext] at g3
              go_wp2_with fail
              refine ⟨⟨c + 1, by omega, by go_num, g0, g1, ?_, g3, hbel⟩, by simp [intOf]; omega⟩
              rw [show 0 + 4 * (c + 1) = 4 + 4 * c by omega]
              exact g2
        · obtain rfl : c = 4 := by omega
          rw [show ((4 : Nat) : Int) = 4 from rfl]
          rw [show 0 + 4 * 4 = 16 from rfl, upto_all, show (List.range 16).map (nextF was mark) = nextU was mark from rfl] at g2
          generalize hq : nextU was mark = q at *
          have Hq := Lib.hid hq
          clear hq
          go_wp2_with (first
            | ((with_reducible show wpList _ _ _ (⟨some 60, _, _, _, _, _⟩ :: _) _ _); refine wpList_load_row rfl 23 (.tmp 7) rfl (w.heap.size + 1 + 1) rfl 23 (q.map bv).toArray (0, 0) _ g2 Try.underlying23 rfl Hiz.out ?_)
            | ((with_reducible show wpList _ _ _ (⟨none, Op.store 23 _ _, _, _, _, _⟩ :: _) _ _); refine wpList_store_row rfl 23 (.tmp 6) (.tmp 60) rfl (w.heap.size + 1) (q.map bv).toArray rfl rfl 23 _ g1 Hiz.out Hsz.out (one_bvA q) ?_))
          exact bodyPost_ret (results_cell_row rfl _ _ (w.heap.size + 1) 23 _ (0, 0) _ rfl (g1.row q) Try.underlying23 rfl Hiz.out) rfl ⟨by rw [Hq.out], below_setRow hbel (by omega) _⟩

end Go.Proofs.Ytbkdlmneidboaaa
