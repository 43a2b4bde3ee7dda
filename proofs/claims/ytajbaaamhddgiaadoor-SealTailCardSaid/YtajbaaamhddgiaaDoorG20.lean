import Derived.Test.YtajbaaamhddgiaaDoorG19
import Derived.Laws.Cover3
/-
  CONTRACTS of the program's mixed and nextKey (package aes).
-/
set_option linter.unusedVariables false
namespace Go.Proofs.YtajbaaamhddgiaaDoor
open Go.RowKit

/-- a column -/
def colU (b : List UInt8) (c : Nat) : List UInt8 := (List.range 4).map fun r => at0 b (4 * c + r)
theorem colU_at (b : List UInt8) (c : Nat) {r : Nat} (h : r < 4) : (colU b c)[r]? = some (at0 b (4 * c + r)) := by simp [colU, h]
theorem colU_len (b : List UInt8) (c : Nat) : (colU b c).length = 4 := by simp [colU]
theorem info4 : (Tryd.prog.info? 90).map (·.size) = some 4 := by kernel_rfl
theorem size4 {l : List UInt8} (h : l.length = 4) : (Tryd.prog.info? 90).map (·.size) = some (l.map bv).toArray.size := by rw [info4]; simp [h]
theorem size4L {l : List UInt8} (h : l.length = 4) : (Tryd.prog.info? 90).map (·.size) = some (l.map bv).length := by rw [info4]; simp [h]

theorem upto_rangeAt {w : World} {g : Nat} {t : TypeId} {f : Nat → UInt8} {b : List UInt8} {c : Nat} (h : ArrB w g t (upto f (at0 b) 16 (4 * c))) (hc : c < 4) : w.rangeAt g (4 * c) ((colU b c).map bv) := by
  intro j u hu
  have hj : j < 4 := by have := (List.getElem?_eq_some_iff.1 hu).1; simpa [colU] using this
  rw [List.getElem?_map, colU_at b c hj] at hu
  obtain rfl : bv (at0 b (4 * c + j)) = u := by simpa using hu
  exact h.cell (upto_old f (at0 b) (by omega) (by omega))

set_option maxRecDepth 100000 in
set_option maxHeartbeats 1600000 in
theorem mixedA_any (b : List UInt8) (w : World) (hb : b.length = 16) :
    Calls Tryd.prog 58 #[.agg (b.map bv).toArray] w fun e w' => e = .returned (.agg ((mixU b).map bv).toArray) ∧ Below w.heap.size w w' := by
  have Hiz := Lib.hid (size16 (mixU_len b))
  have Hsz := Lib.hid (same16 (mixU_len b) zero16_len)
  have Hb := Lib.hid hb
  clear hb
  go_enter Tryd.func58, Tryd.ntmps58
  go_wp2_with fail
  go_loopw [8] (fun i wr => ∃ c : Nat, c ≤ 4 ∧ i = .int .i64 (c : Int) ∧ ArrB wr w.heap.size 51 (upto (mixF b) (at0 b) 16 (4 * c)) ∧ ArrB wr (w.heap.size + 1) 51 zero16 ∧ Below w.heap.size w wr) (fun i _ => (4 - intOf i).toNat)
  case atStart =>
    refine ⟨0, by omega, rfl, ?_, ArrB.mk_ _ _ _ zero16 (by simp) rfl, ((Below.refl _ _).alloc (Nat.le_refl _) _).alloc (al0 _ _) _⟩
    rw [show 4 * 0 = 0 from rfl, upto_zero, map_at0 Hb.out]
    exact (ArrB.mk_ w _ _ b rfl rfl).alloc _
  case round =>
    obtain ⟨c, hc, rfl, g0, g1, hbel⟩ := hrel
    obtain ⟨wo, rfl⟩ : ∃ wo, wo = wr := ⟨_, rfl⟩
    by_cases hlt : c < 4
    · have hsz := hbel.size
      have hr := upto_rangeAt g0 hlt
      have s4 := size4L (colU_len b c)
      have hlen4 := colU_len b c
      have j0 : 0 ≤ (c : Int) := by omega
      have j1 : (c : Int) < 4 := by omega
      have i0 : 0 ≤ 4 * (c : Int) := by omega
      have i1 : 4 * (c : Int) ≤ 16 := by omega
      have i2 : ¬ 16 = 4 * c := by omega
      have i3 : (4 * (c : Int)).toNat = 4 * c := by omega
      have i4 : 4 ≤ 16 - 4 * c := by omega
      have i5 : ¬ 16 - 4 * c < 4 := by omega
      have hat : ∀ wx, (Instr.arrayAt 90 (.slice (some ⟨w.heap.size, 4 * c, none⟩) (16 - 4 * c) (16 - 4 * c))).run Tryd.prog wx = .ok (.pointer (some ⟨w.heap.size, 4 * c, none⟩)) wx := fun wx => run_arrayAt wx _ _ 4 _ _ _ Tryd.underlying90 i4
      have Hcol := Lib.hid (fun (r : Nat) (h : r < 4) => colU_at b c h)
      have hA := ArrB.mk_ wo 90 _ (colU b c) rfl rfl
      have g0' := g0.alloc (.cells ((colU b c).map bv).toArray 90)
      have g1' := g1.alloc (.cells ((colU b c).map bv).toArray 90)
      have hb' : Below w.heap.size w (wo.alloc (.cells ((colU b c).map bv).toArray 90)) := hbel.alloc hsz _
      generalize colU b c = col at *
      go_wp2_with (first
        | ((with_reducible show wpList _ _ _ (⟨some 16, _, _, _, _, _⟩ :: _) _ _); refine wpList_load_mid rfl 90 (.tmp 15) rfl w.heap.size (4 * c) rfl (col.map bv) _ hr Tryd.underlying90 rfl s4 ?_)
        | ((with_reducible show wpList _ _ _ (⟨none, Op.store 90 _ _, _, _, _, _⟩ :: _) _ _); refine wpList_store_row rfl 90 (.tmp 5) (.tmp 16) rfl wo.heap.size (col.map bv).toArray rfl rfl 90 _ (heap_alloc_new _ _) (by simpa using s4) (by simp [hlen4]) (one_bvA col) ?_; rw [World.setRow_alloc_new]))
      have hga := g1.lt
      refine wp_gen (fun wx => ArrB wx wo.heap.size 90 col ∧ ArrB wx w.heap.size 51 (upto (mixF b) (at0 b) 16 (4 * c)) ∧ ArrB wx (w.heap.size + 1) 51 zero16 ∧ Below w.heap.size w wx) ⟨hA, g0', g1', hb'⟩ ?_
      clear hat hr s4 hlen4 hA g0' g1' hb' i0 i1 i2 i3 i4 i5
      rintro wy ⟨kA, k0, k1, kb⟩
      go_loopw [17] (fun i wx => ∃ r : Nat, r ≤ 4 ∧ i = .int .i64 (r : Int) ∧ ArrB wx wo.heap.size 90 col ∧ ArrB wx w.heap.size 51 (upto (mixF b) (at0 b) 16 (4 * c + r)) ∧ ArrB wx (w.heap.size + 1) 51 zero16 ∧ Below w.heap.size w wx) (fun i _ => (4 - intOf i).toNat)
      case atStart => exact ⟨0, by omega, rfl, kA, k0, k1, kb⟩
      case round =>
        obtain ⟨r, hr, rfl, kA, k0, k1, kb⟩ := hrel
        by_cases hlr : r < 4
        · have c0 := kA.cell (Hcol.out r hlr)
          have c1 := kA.cell (Hcol.out ((r + 1) % 4) (Nat.mod_lt _ (by omega)))
          have c2 := kA.cell (Hcol.out ((r + 2) % 4) (Nat.mod_lt _ (by omega)))
          have c3 := kA.cell (Hcol.out ((r + 3) % 4) (Nat.mod_lt _ (by omega)))
          have cs := k0.cell (upto_old (mixF b) (at0 b) (show 4 * c + r < 16 by omega) (Nat.le_refl _))
          have fs := k0.frozen (4 * c + r)
          have hs := k0.set_ (4 * c + r) (mixF b (4 * c + r))
          rw [← upto_succ, mixF_at b hlt hlr] at hs
          generalize at0 b (4 * c + r) = x0 at *
          generalize at0 b (4 * c + (r + 1) % 4) = x1 at *
          generalize at0 b (4 * c + (r + 2) % 4) = x2 at *
          generalize at0 b (4 * c + (r + 3) % 4) = x3 at *
          have j2 : 0 ≤ (r : Int) := by omega
          have j3 : (r : Int) < 4 := by omega
          have v1 : IntKind.i64.wrap (4 * (c : Int) + (r : Int)) = 4 * (c : Int) + (r : Int) := IntWalk.i64_in _ (by omega)
          have v2 : IntKind.i64.wrap ((r : Int) + 2) = (r : Int) + 2 := IntWalk.i64_in _ (by omega)
          have v3 : IntKind.i64.wrap ((r : Int) + 3) = (r : Int) + 3 := IntWalk.i64_in _ (by omega)
          have v4 : ((r : Int) + 2).tmod 4 = ((r : Int) + 2) % 4 := Int.tmod_eq_emod_of_nonneg (by omega)
          have v5 : ((r : Int) + 3).tmod 4 = ((r : Int) + 3) % 4 := Int.tmod_eq_emod_of_nonneg (by omega)
          have v6 : 0 ≤ ((r : Int) + 2) % 4 := by omega
          have v7 : ((r : Int) + 2) % 4 < 4 := by omega
          have v8 : (((r : Int) + 2) % 4).toNat = (r + 2) % 4 := by omega
          have v9 : 0 ≤ ((r : Int) + 3) % 4 := by omega
          have u1 : ((r : Int) + 3) % 4 < 4 := by omega
          have u2 : (((r : Int) + 3) % 4).toNat = (r + 3) % 4 := by omega
          have u3 : 0 ≤ 4 * (c : Int) + (r : Int) := by omega
          have u4 : 4 * (c : Int) + (r : Int) < 16 := by omega
          have u5 : (4 * (c : Int) + (r : Int)).toNat = 4 * c + r := by omega
          go_wp2_with fail
          refine wp_region_still_tail 25 (by kernel_rfl) (by kernel_rfl) ?_
          simp only [List.take_succ_cons, List.take_zero, List.drop_succ_cons, List.drop_zero]
          repeat (first | (refine wpStill_step (fun K hK => ?_); go_simp; first | (refine ⟨_, (twice_any _ _).mono still_flip8, hK _ ?_⟩); clear hK K) | still_step)
          refine wpStill_nil ?_
          change wpList _ _ _ _ _ wr.drew
          rw [b_xor, b_xor, b_xor, b_xor]
          clear v1 v2 v3 v4 v5 v6 v7 v8 v9 u1 u2 u3 u4 u5 c0 c1 c2 c3
          go_wp2_with fail
          refine ⟨⟨r + 1, by omega, by go_num, (kA.far (by simp; omega) _).drew, hs.drew, (k1.far (by simp; try omega) _).drew, (kb.setCell (by simp; try omega) _).drew⟩, by simp [intOf]; omega⟩
        · obtain rfl : r = 4 := by omega
          rw [show ((4 : Nat) : Int) = 4 from rfl]
          go_wp2_with fail
          exact ⟨⟨c + 1, by omega, by go_num, k0, k1, kb⟩, by simp [intOf]; omega⟩
    · obtain rfl : c = 4 := by omega
      rw [show ((4 : Nat) : Int) = 4 from rfl]
      rw [show 4 * 4 = 16 from rfl, upto_all, show (List.range 16).map (mixF b) = mixU b from rfl] at g0
      generalize hq : mixU b = q at *
      have Hq := Lib.hid hq
      clear hq
      go_wp2_with (first
        | ((with_reducible show wpList _ _ _ (⟨some 52, _, _, _, _, _⟩ :: _) _ _); refine wpList_load_row rfl 51 (.tmp 1) rfl w.heap.size rfl 51 (q.map bv).toArray (0, 0) _ g0 Tryd.underlying51 rfl Hiz.out ?_)
        | ((with_reducible show wpList _ _ _ (⟨none, Op.store 51 _ _, _, _, _, _⟩ :: _) _ _); refine wpList_store_row rfl 51 (.tmp 2) (.tmp 52) rfl (w.heap.size + 1) (q.map bv).toArray rfl rfl 51 _ g1 Hiz.out Hsz.out (one_bvA q) ?_))
      exact bodyPost_ret (results_cell_row rfl _ _ (w.heap.size + 1) 51 _ (0, 0) _ rfl (g1.row q) Tryd.underlying51 rfl Hiz.out) rfl ⟨by rw [Hq.out], below_setRow hbel (by omega) _⟩

end Go.Proofs.YtajbaaamhddgiaaDoor

/-
  CONTRACT of the program's nextKey (package aes).
-/
set_option linter.unusedVariables false
namespace Go.Proofs.YtajbaaamhddgiaaDoor
open Go.RowKit

def zero4 : List UInt8 := List.replicate 4 0

/-- the boxes of the last word, turned -/
def lastF (was : List UInt8) (r : Nat) : UInt8 := boxU (at0 was (12 + (r + 1) % 4))
theorem word0 (was : List UInt8) (mark : UInt8) :
    (upto (lastF was) (fun _ => 0) 4 4).set 0 (lastF was 0 ^^^ mark) = upto (wordK was mark 1) (wordK was mark 0) 4 0 := by
  simp only [upto, List.range, List.range.loop, List.map, lastF, wordK, List.set]
  simp
theorem wordNext (was : List UInt8) (mark : UInt8) (c : Nat) : upto (wordK was mark (c + 1)) (wordK was mark c) 4 4 = upto (wordK was mark (c + 2)) (wordK was mark (c + 1)) 4 0 := by
  simp only [upto]
  apply List.map_congr_left
  intro i hi
  rw [List.mem_range] at hi
  rw [if_pos hi, if_neg (by omega)]
theorem nextF_at (was : List UInt8) (mark : UInt8) {c r : Nat} (hr : r < 4) : nextF was mark (r + 4 * c) = wordK was mark (c + 1) r := by
  unfold nextF
  rw [show (r + 4 * c) / 4 = c by omega, show (r + 4 * c) % 4 = r by omega]

set_option maxRecDepth 100000 in
set_option maxHeartbeats 3000000 in
theorem nextKey_any (g : Nat) (K was : List UInt8) (mark : UInt8) (w : World) (hC : CipAt w g K) (hb : was.length = 16) :
    Calls Tryd.prog 54 #[.pointer (some ⟨g, 0, none⟩), .agg (was.map bv).toArray, .int .u8 (mark.toNat : Int)] w fun e w' => e = .returned (.agg ((nextU was mark).map bv).toArray) ∧ Below w.heap.size w w' := by
  have Hiz := Lib.hid (size16 (nextU_len was mark))
  have Hsz := Lib.hid (same16 (nextU_len was mark) zero16_len)
  have Hb := Lib.hid hb
  have hg := ArrB.lt hC
  clear hb
  go_enter Tryd.func54, Tryd.ntmps54
  go_wp2_with fail
  go_loopw [13] (fun i wr => ∃ r : Nat, r ≤ 4 ∧ i = .int .i64 (r : Int) ∧ ArrB wr w.heap.size 51 was ∧ ArrB wr (w.heap.size + 1) 51 zero16 ∧ ArrB wr (w.heap.size + 1 + 1) 51 zero16 ∧ ArrB wr (w.heap.size + 1 + 1 + 1) 90 (upto (lastF was) (fun _ => 0) 4 r) ∧ Below w.heap.size w wr) (fun i _ => (4 - intOf i).toNat)
  case atStart =>
    exact ⟨0, by omega, rfl, (((ArrB.mk_ w _ _ was rfl rfl).alloc _).alloc _).alloc _, ((ArrB.mk_ _ _ _ zero16 (by simp) rfl).alloc _).alloc _, (ArrB.mk_ _ _ _ zero16 (by simp) rfl).alloc _, ArrB.mk_ _ _ _ _ (by simp) (by rw [upto_zero]; rfl),
      ((((Below.refl _ _).alloc (Nat.le_refl _) _).alloc (al0 _ _) _).alloc (by simp; omega) _).alloc (by simp; omega) _⟩
  case round =>
    obtain ⟨r, hr, rfl, g0, g1, g2, g3, hbel⟩ := hrel
    by_cases hlr : r < 4
    · have c0 := g0.cell (at0_of (show 12 + (r + 1) % 4 < was.length by rw [Hb.out]; omega))
      have cb := CipAt.box (ArrB.below hC hbel hg) (at0 was (12 + (r + 1) % 4))
      have cs := g3.cell (upto_old (lastF was) (fun _ => 0) hlr (Nat.le_refl _))
      have fs := g3.frozen r
      have hs := g3.set_ r (lastF was r)
      rw [← upto_succ, lastF] at hs
      have hx := b_lt (at0 was (12 + (r + 1) % 4))
      generalize at0 was (12 + (r + 1) % 4) = x at *
      generalize boxU x = y at *
      have j2 : 0 ≤ (r : Int) := by omega
      have j3 : (r : Int) < 4 := by omega
      have hx1 : (x.toNat : Int) < 256 := by omega
      have hx0 : 0 ≤ (x.toNat : Int) := by omega
      have v1 : IntKind.i64.wrap ((r : Int) + 1) = (r : Int) + 1 := IntWalk.i64_in _ (by omega)
      have v2 : ((r : Int) + 1).tmod 4 = ((r : Int) + 1) % 4 := Int.tmod_eq_emod_of_nonneg (by omega)
      have v3 : IntKind.i64.wrap (12 + ((r : Int) + 1) % 4) = 12 + ((r : Int) + 1) % 4 := IntWalk.i64_in _ (by omega)
      have v4 : 0 ≤ 12 + ((r : Int) + 1) % 4 := by omega
      have v5 : 12 + ((r : Int) + 1) % 4 < 16 := by omega
      have v6 : (12 + ((r : Int) + 1) % 4).toNat = 12 + (r + 1) % 4 := by omega
      go_wp2_with fail
      go_still_tail 13, (by kernel_rfl)
      change wpList _ _ _ _ _ wr.drew
      clear c0 cb v1 v2 v3 v4 v5 v6
      go_wp2_with fail
      exact ⟨⟨r + 1, by omega, by go_num, (g0.far (by simp; try omega) _).drew, (g1.far (by simp; try omega) _).drew, (g2.far (by simp; try omega) _).drew, hs.drew, (hbel.setCell (by simp; try omega) _).drew⟩, by simp [intOf]; omega⟩
    · obtain rfl : r = 4 := by omega
      rw [show ((4 : Nat) : Int) = 4 from rfl]
      have c0 := g3.cell (upto_done (lastF was) (fun _ => 0) (show 0 < 4 by omega) (show 0 < 4 by omega))
      have f0 := g3.frozen 0
      have hs := g3.set_ 0 (lastF was 0 ^^^ mark)
      rw [word0] at hs
      generalize lastF was 0 = x at *
      go_wp2_with fail
      rw [b_xor]
      generalize x ^^^ mark = y0 at *
      refine wp_gen (fun wx => ArrB wx w.heap.size 51 was ∧ ArrB wx (w.heap.size + 1) 51 zero16 ∧ ArrB wx (w.heap.size + 1 + 1) 51 zero16 ∧ ArrB wx (w.heap.size + 1 + 1 + 1) 90 (upto (wordK was mark 1) (wordK was mark 0) 4 0) ∧ Below w.heap.size w wx)
        ⟨g0.far (by simp; try omega) _, g1.far (by simp; try omega) _, g2.far (by simp; try omega) _, hs, hbel.setCell (by simp; try omega) _⟩ ?_
      clear g0 g1 g2 g3 hbel c0 f0 hs
      rintro wy ⟨g0, g1, g2, g3, hbel⟩
      go_loopw [35] (fun i wr => ∃ c : Nat, c ≤ 4 ∧ i = .int .i64 (c : Int) ∧ ArrB wr w.heap.size 51 was ∧ ArrB wr (w.heap.size + 1) 51 zero16 ∧ ArrB wr (w.heap.size + 1 + 1) 51 (upto (nextF was mark) (fun _ => 0) 16 (0 + 4 * c)) ∧ ArrB wr (w.heap.size + 1 + 1 + 1) 90 (upto (wordK was mark (c + 1)) (wordK was mark c) 4 0) ∧ Below w.heap.size w wr) (fun i _ => (4 - intOf i).toNat)
      case atStart => exact ⟨0, by omega, rfl, g0, g1, by rw [show 0 + 4 * 0 = 0 from rfl, upto_zero]; exact g2, g3, hbel⟩
      case round =>
        obtain ⟨c, hc, rfl, g0, g1, g2, g3, hbel⟩ := hrel
        by_cases hlt : c < 4
        · have j0 : 0 ≤ (c : Int) := by omega
          have j1 : (c : Int) < 4 := by omega
          go_wp2_with fail
          go_loopw [38] (fun i wr => ∃ r : Nat, r ≤ 4 ∧ i = .int .i64 (r : Int) ∧ ArrB wr w.heap.size 51 was ∧ ArrB wr (w.heap.size + 1) 51 zero16 ∧ ArrB wr (w.heap.size + 1 + 1) 51 (upto (nextF was mark) (fun _ => 0) 16 (r + 4 * c)) ∧ ArrB wr (w.heap.size + 1 + 1 + 1) 90 (upto (wordK was mark (c + 1)) (wordK was mark c) 4 r) ∧ Below w.heap.size w wr) (fun i _ => (4 - intOf i).toNat)
          case atStart => exact ⟨0, by omega, rfl, g0, g1, g2, g3, hbel⟩
          case round =>
            obtain ⟨r, hr, rfl, g0, g1, g2, g3, hbel⟩ := hrel
            by_cases hlr : r < 4
            · have cw := g0.cell (at0_of (show r + 4 * c < was.length by rw [Hb.out]; omega))
              have c3 := g3.cell (upto_old (wordK was mark (c + 1)) (wordK was mark c) hlr (Nat.le_refl _))
              have f3 := g3.frozen r
              have h3 := g3.set_ r (wordK was mark (c + 1) r)
              rw [← upto_succ] at h3
              have c2 := g2.cell (upto_old (nextF was mark) (fun _ => 0) (show r + 4 * c < 16 by omega) (Nat.le_refl _))
              have f2 := g2.frozen (r + 4 * c)
              have h2 := (g2.far (p := ⟨w.heap.size + 1 + 1 + 1, r, none⟩) (by simp; try omega) (.int .u8 ((wordK was mark (c + 1) r).toNat : Int))).set_ (r + 4 * c) (nextF was mark (r + 4 * c))
              rw [← upto_succ, nextF_at was mark hlr] at h2
              have Hw := Lib.hid (show wordK was mark (c + 1) r = wordK was mark c r ^^^ at0 was (r + 4 * c) from rfl)
              generalize wordK was mark (c + 1) r = y at *
              generalize wordK was mark c r = x at *
              generalize at0 was (r + 4 * c) = z at *
              have j2 : 0 ≤ (r : Int) := by omega
              have j3 : (r : Int) < 4 := by omega
              have u3 : 0 ≤ (r : Int) + 4 * (c : Int) := by omega
              have u4 : (r : Int) + 4 * (c : Int) < 16 := by omega
              have u5 : ((r : Int) + 4 * (c : Int)).toNat = r + 4 * c := by omega
              go_wp2_with fail
              go_still_tail 8, (by kernel_rfl)
              change wpList _ _ _ _ _ wr.drew
              rw [b_xor, ← Hw.out]
              clear cw
              go_wp2_with fail
              refine ⟨⟨r + 1, by omega, by go_num, ((g0.far (p := ⟨w.heap.size + 1 + 1 + 1, r, none⟩) (by simp; try omega) _).far (p := ⟨w.heap.size + 1 + 1, r + 4 * c, none⟩) (by simp; try omega) _).drew, ((g1.far (p := ⟨w.heap.size + 1 + 1 + 1, r, none⟩) (by simp; try omega) _).far (p := ⟨w.heap.size + 1 + 1, r + 4 * c, none⟩) (by simp; try omega) _).drew, ?_, (h3.far (p := ⟨w.heap.size + 1 + 1, r + 4 * c, none⟩) (by simp; try omega) _).drew, ((hbel.setCell (p := ⟨w.heap.size + 1 + 1 + 1, r, none⟩) (by simp; try omega) _).setCell (p := ⟨w.heap.size + 1 + 1, r + 4 * c, none⟩) (by simp; try omega) _).drew⟩, by simp [intOf]; omega⟩
              rw [show r + 1 + 4 * c = r + 4 * c + 1 by omega]
              exact h2.drew
            · obtain rfl : r = 4 := by omega
              rw [show ((4 : Nat) : Int) = 4 from rfl]
              rw [wordNext] at g3
              go_wp2_with fail
              refine ⟨⟨c + 1, by omega, by go_num, g0, g1, ?_, g3, hbel⟩, by simp [intOf]; omega⟩
              rw [show 0 + 4 * (c + 1) = 4 + 4 * c by omega]
              exact g2
        · obtain rfl : c = 4 := by omega
          rw [show ((4 : Nat) : Int) = 4 from rfl]
          rw [show 0 + 4 * 4 = 16 from rfl, upto_all, show (List.range 16).map (nextF was mark) = nextU was mark from rfl] at g2
          generalize hq : nextU was mark = q at *
          have Hq := Lib.hid hq
          clear hq
          go_wp2_with (first
            | ((with_reducible show wpList _ _ _ (⟨some 60, _, _, _, _, _⟩ :: _) _ _); refine wpList_load_row rfl 51 (.tmp 7) rfl (w.heap.size + 1 + 1) rfl 51 (q.map bv).toArray (0, 0) _ g2 Tryd.underlying51 rfl Hiz.out ?_)
            | ((with_reducible show wpList _ _ _ (⟨none, Op.store 51 _ _, _, _, _, _⟩ :: _) _ _); refine wpList_store_row rfl 51 (.tmp 6) (.tmp 60) rfl (w.heap.size + 1) (q.map bv).toArray rfl rfl 51 _ g1 Hiz.out Hsz.out (one_bvA q) ?_))
          exact bodyPost_ret (results_cell_row rfl _ _ (w.heap.size + 1) 51 _ (0, 0) _ rfl (g1.row q) Tryd.underlying51 rfl Hiz.out) rfl ⟨by rw [Hq.out], below_setRow hbel (by omega) _⟩

end Go.Proofs.YtajbaaamhddgiaaDoor

