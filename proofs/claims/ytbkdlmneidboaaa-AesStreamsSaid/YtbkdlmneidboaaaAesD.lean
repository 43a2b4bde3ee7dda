/-
  CONTRACTS of the program's mixed and nextKey (package aes).
-/
import Derived.Test.YtbkdlmneidboaaaAesC
import Derived.Laws.Cover3
set_option linter.unusedVariables false
namespace Go.Proofs.Ytbkdlmneidboaaa
open Go.RowKit

/-- a column -/
def colU (b : List UInt8) (c : Nat) : List UInt8 := (List.range 4).map fun r => at0 b (4 * c + r)
theorem colU_at (b : List UInt8) (c : Nat) {r : Nat} (h : r < 4) : (colU b c)[r]? = some (at0 b (4 * c + r)) := by simp [colU, h]
theorem colU_len (b : List UInt8) (c : Nat) : (colU b c).length = 4 := by simp [colU]
theorem info4 : (Try.prog.info? 93).map (·.size) = some 4 := by kernel_rfl
theorem size4 {l : List UInt8} (h : l.length = 4) : (Try.prog.info? 93).map (·.size) = some (l.map bv).toArray.size := by rw [info4]; simp [h]
theorem size4L {l : List UInt8} (h : l.length = 4) : (Try.prog.info? 93).map (·.size) = some (l.map bv).length := by rw [info4]; simp [h]

theorem upto_rangeAt {w : World} {g : Nat} {t : TypeId} {f : Nat → UInt8} {b : List UInt8} {c : Nat} (h : ArrB w g t (upto f (at0 b) 16 (4 * c))) (hc : c < 4) : w.rangeAt g (4 * c) ((colU b c).map bv) := by
  intro j u hu
  have hj : j < 4 := by have := (List.getElem?_eq_some_iff.1 hu).1; simpa [colU] using this
  rw [List.getElem?_map, colU_at b c hj] at hu
  obtain rfl : bv (at0 b (4 * c + j)) = u := by simpa using hu
  exact h.cell (upto_old f (at0 b) (by omega) (by omega))

set_option maxRecDepth 100000 in
set_option maxHeartbeats 1600000 in
theorem mixed_any (b : List UInt8) (w : World) (hb : b.length = 16) :
    Calls Try.prog 60 #[.agg (b.map bv).toArray] w fun e w' => e = .returned (.agg ((mixU b).map bv).toArray) ∧ Below w.heap.size w w' := by
  have Hiz := Lib.hid (size16 (mixU_len b))
  have Hsz := Lib.hid (same16 (mixU_len b) zero16_len)
  have Hb := Lib.hid hb
  clear hb
  go_enter Try.func60, Try.ntmps60
  go_wp2_with fail
  go_loopw [8] (fun i wr => ∃ c : Nat, c ≤ 4 ∧ i = .int .i64 (c : Int) ∧ ArrB wr w.heap.size 23 (upto (mixF b) (at0 b) 16 (4 * c)) ∧ ArrB wr (w.heap.size + 1) 23 zero16 ∧ Below w.heap.size w wr) (fun i _ => (4 - intOf i).toNat)
  case atStart =>
    refine ⟨0, by omega, rfl, ?_, ArrB.mk_ _ _ _ zero16 (by simp) rfl, ((Below.refl _ _).alloc (Nat.le_refl _) _).alloc (al0 _ _) _⟩
    rw [show 4 * 0 = 0 from rfl, upto_zero, map_at0 Hb.out]
    exact (ArrB.mk_ w _ _ b rfl rfl).alloc _
  case round =>
    obtain ⟨c, hc, rfl, g0, g1, hbel⟩ := hrel
    obtain ⟨wo, rfl⟩ : ∃ wo, wo = wr := ⟨_, rfl⟩
    by_cases hlt : c < 4
    · have hsz := hbel.size
      have hr := upto_rangeAt g0 hlt
      have s4 := size4L (colU_len b c)
      have hlen4 := colU_len b c
      have j0 : 0 ≤ (c : Int) := by omega
      have j1 : (c : Int) < 4 := by omega
      have i0 : 0 ≤ 4 * (c : Int) := by omega
      have i1 : 4 * (c : Int) ≤ 16 := by omega
      have i2 : ¬ 16 = 4 * c := by omega
      have i3 : (4 * (c : Int)).toNat = 4 * c := by omega
      have i4 : 4 ≤ 16 - 4 * c := by omega
      have i5 : ¬ 16 - 4 * c < 4 := by omega
      have hat : ∀ wx, (Instr.arrayAt 93 (.slice (some ⟨w.heap.size, 4 * c, none⟩) (16 - 4 * c) (16 - 4 * c))).run Try.prog wx = .ok (.pointer (some ⟨w.heap.size, 4 * c, none⟩)) wx := fun wx => run_arrayAt wx _ _ 4 _ _ _ Try.underlying93 i4
      have Hcol := Lib.hid (fun (r : Nat) (h : r < 4) => colU_at b c h)
      have hA := ArrB.mk_ wo 93 _ (colU b c) rfl rfl
      have g0' := g0.alloc (.cells ((colU b c).map bv).toArray 93)
      have g1' := g1.alloc (.cells ((colU b c).map bv).toArray 93)
      have hb' : Below w.heap.size w (wo.alloc (.cells ((colU b c).map bv).toArray 93)) := hbel.alloc hsz _
      generalize colU b c = col at *
      go_wp2_with (first
        | ((with_reducible show wpList _ _ _ (⟨some 16, _, _, _, _, _⟩ :: _) _ _); refine wpList_load_mid rfl 93 (.tmp 15) rfl w.heap.size (4 * c) rfl (col.map bv) _ hr Try.underlying93 rfl s4 ?_)
        | ((with_reducible show wpList _ _ _ (⟨none, Op.store 93 _ _, _, _, _, _⟩ :: _) _ _); refine wpList_store_row rfl 93 (.tmp 5) (.tmp 16) rfl wo.heap.size (col.map bv).toArray rfl rfl 93 _ (heap_alloc_new _ _) (by simpa using s4) (by simp [hlen4]) (one_bvA col) ?_; rw [World.setRow_alloc_new]))
      have hga := g1.lt
      refine wp_gen (fun wx => ArrB wx wo.heap.size 93 col ∧ ArrB wx w.heap.size 23 (upto (mixF b) (at0 b) 16 (4 * c)) ∧ ArrB wx (w.heap.size + 1) 23 zero16 ∧ Below w.heap.size w wx) ⟨hA, g0', g1', hb'⟩ ?_
      clear hat hr s4 hlen4 hA g0' g1' hb' i0 i1 i2 i3 i4 i5
      rintro wy ⟨kA, k0, k1, kb⟩
      go_loopw [17] (fun i wx => ∃ r : Nat, r ≤ 4 ∧ i = .int .i64 (r : Int) ∧ ArrB wx wo.heap.size 93 col ∧ ArrB wx w.heap.size 23 (upto (mixF b) (at0 b) 16 (4 * c + r)) ∧ ArrB wx (w.heap.size + 1) 23 zero16 ∧ Below w.heap.size w wx) (fun i _ => (4 - intOf i).toNat)
      case atStart => exact ⟨0, by omega, rfl, kA, k0, k1, kb⟩
      case round =>
        obtain ⟨r, hr, rfl, kA, k0, k1, kb⟩ := hrel
        by_cases hlr : r < 4
        · have c0 := kA.cell (Hcol.out r hlr)
          have c1 := kA.cell (Hcol.out ((r + 1) % 4) (Nat.mod_lt _ (by omega)))
          have c2 := kA.cell (Hcol.out ((r + 2) % 4) (Nat.mod_lt _ (by omega)))
          have c3 := kA.cell (Hcol.out ((r + 3) % 4) (Nat.mod_lt _ (by omega)))
          have cs := k0.cell (upto_old (mixF b) (at0 b) (show 4 * c + r < 16 by omega) (Nat.le_refl _))
          have fs := k0.frozen (4 * c + r)
          have hs := k0.set_ (4 * c + r) (mixF b (4 * c + r))
          rw [← upto_succ, mixF_at b hlt hlr] at hs
          generalize at0 b (4 * c + r) = x0 at *
          generalize at0 b (4 * c + (r + 1) % 4) = x1 at *
          generalize at0 b (4 * c + (r + 2) % 4) = x2 at *
          generalize at0 b (4 * c + (r + 3) % 4) = x3 at *
          have j2 : 0 ≤ (r : Int) := by omega
          have j3 : (r : Int) < 4 := by omega
          have v1 : IntKind.i64.wrap (4 * (c : Int) + (r : Int)) = 4 * (c : Int) + (r : Int) := IntWalk.i64_in _ (by omega)
          have v2 : IntKind.i64.wrap ((r : Int) + 2) = (r : Int) + 2 := IntWalk.i64_in _ (by omega)
          have v3 : IntKind.i64.wrap ((r : Int) + 3) = (r : Int) + 3 := IntWalk.i64_in _ (by omega)
          have v4 : ((r : Int) + 2).tmod 4 = ((r : Int) + 2) % 4 := Int.tmod_eq_emod_of_nonneg (by omega)
          have v5 : ((r : Int) + 3).tmod 4 = ((r : Int) + 3) % 4 := Int.tmod_eq_emod_of_nonneg (by omega)
          have v6 : 0 ≤ ((r : Int) + 2) % 4 := by omega
          have v7 : ((r : Int) + 2) % 4 < 4 := by omega
          have v8 : (((r : Int) + 2) % 4).toNat = (r + 2) % 4 := by omega
          have v9 : 0 ≤ ((r : Int) + 3) % 4 := by omega
          have u1 : ((r : Int) + 3) % 4 < 4 := by omega
          have u2 : (((r : Int) + 3) % 4).toNat = (r + 3) % 4 := by omega
          have u3 : 0 ≤ 4 * (c : Int) + (r : Int) := by omega
          have u4 : 4 * (c : Int) + (r : Int) < 16 := by omega
          have u5 : (4 * (c : Int) + (r : Int)).toNat = 4 * c + r := by omega
          go_wp2_with fail
          refine wp_region_still_tail 25 (by kernel_rfl) (by kernel_rfl) ?_
          simp only [List.take_succ_cons, List.take_zero, List.drop_succ_cons, List.drop_zero]
          repeat (first | (refine wpStill_step (fun K hK => ?_); go_simp; first | (refine ⟨_, (twice_any _ _).mono still_flip8, hK _ ?_⟩); clear hK K) | still_step)
          refine wpStill_nil ?_
          change wpList _ _ _ _ _ wr.drew
          rw [b_xor, b_xor, b_xor, b_xor]
          clear v1 v2 v3 v4 v5 v6 v7 v8 v9 u1 u2 u3 u4 u5 c0 c1 c2 c3
          go_wp2_with fail
          refine ⟨⟨r + 1, by omega, by go_num, (kA.far (by simp; omega) _).drew, hs.drew, (k1.far (by simp; try omega) _).drew, (kb.setCell (by simp; try omega) _).drew⟩, by simp [intOf]; omega⟩
        · obtain rfl : r = 4 := by omega
          rw [show ((4 : Nat) : Int) = 4 from rfl]
          go_wp2_with fail
          exact ⟨⟨c + 1, by omega, by go_num, k0, k1, kb⟩, by simp [intOf]; omega⟩
    · obtain rfl : c = 4 := by omega
      rw [show ((4 : Nat) : Int) = 4 from rfl]
      rw [show 4 * 4 = 16 from rfl, upto_all, show (List.range 16).map (mixF b) = mixU b from rfl] at g0
      generalize hq : mixU b = q at *
      have Hq := Lib.hid hq
      clear hq
      go_wp2_with (first
        | ((with_reducible show wpList _ _ _ (⟨some 52, _, _, _, _, _⟩ :: _) _ _); refine wpList_load_row rfl 23 (.tmp 1) rfl w.heap.size rfl 23 (q.map bv).toArray (0, 0) _ g0 Try.underlying23 rfl Hiz.out ?_)
        | ((with_reducible show wpList _ _ _ (⟨none, Op.store 23 _ _, _, _, _, _⟩ :: _) _ _); refine wpList_store_row rfl 23 (.tmp 2) (.tmp 52) rfl (w.heap.size + 1) (q.map bv).toArray rfl rfl 23 _ g1 Hiz.out Hsz.out (one_bvA q) ?_))
      exact bodyPost_ret (results_cell_row rfl _ _ (w.heap.size + 1) 23 _ (0, 0) _ rfl (g1.row q) Try.underlying23 rfl Hiz.out) rfl ⟨by rw [Hq.out], below_setRow hbel (by omega) _⟩

end Go.Proofs.Ytbkdlmneidboaaa
