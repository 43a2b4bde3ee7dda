import Derived.Test.YtajbaaamhddgiaaDoorG28
import Derived.Test.YtajbaaamhddgiaaDoorG22
/-
  CONTRACT of the document's mixed (coterieref04).
-/
set_option linter.unusedVariables false
namespace Go.Proofs.YtajbaaamhddgiaaDoor
open Go.RowKit

theorem mixF_ref (b : List UInt8) {c r : Nat} (hc : c < 4) (hr : r < 4) :
    mixF b (4 * c + r) = twU (at0 b (4 * c + r % 4)) ^^^ (twU (at0 b (4 * c + (r + 1) % 4)) ^^^ at0 b (4 * c + (r + 1) % 4)) ^^^ at0 b (4 * c + (r + 2) % 4) ^^^ at0 b (4 * c + (r + 3) % 4) := by
  rw [mixF_at b hc hr, ← UInt8.xor_assoc (twU (at0 b (4 * c + r % 4))), Nat.mod_eq_of_lt hr]
theorem Rat_c (b : List UInt8) (c r : Nat) (d : Int) (x : UInt8) (w : World) (hb : b.length = 16) (hc : c < 4) (hr : r < 8) (hd : d = (r : Int)) (hx : at0 b (4 * c + r % 4) = x) :
    Calls Tryd.prog 81 #[.agg (b.map bv).toArray, .int .i64 (c : Int), .int .i64 d] w fun e w' => e = .returned (.int .u8 (x.toNat : Int)) ∧ Below w.heap.size w w' := by
  subst hx
  exact Rat_any b c r d w hb hc hr hd

set_option maxRecDepth 100000 in
set_option maxHeartbeats 3000000 in
theorem Rmixed_any (b : List UInt8) (w : World) (hb : b.length = 16) :
    Calls Tryd.prog 68 #[.agg (b.map bv).toArray] w fun e w' => e = .returned (.agg ((mixU b).map bv).toArray) ∧ Below w.heap.size w w' := by
  have Hiz := Lib.hid (size16 (mixU_len b))
  have Hsz := Lib.hid (same16 (mixU_len b) zero16_len)
  have Hb := Lib.hid hb
  clear hb
  go_enter Tryd.func68, Tryd.ntmps68
  go_wp2_with fail
  go_loopw [6] (fun i wr => ∃ c : Nat, c ≤ 4 ∧ i = .int .i64 (c : Int) ∧ ArrB wr w.heap.size 51 b ∧ ArrB wr (w.heap.size + 1) 51 zero16 ∧ ArrB wr (w.heap.size + 1 + 1) 51 (upto (mixF b) (fun _ => 0) 16 (4 * c)) ∧ Below w.heap.size w wr) (fun i _ => (4 - intOf i).toNat)
  case atStart =>
    refine ⟨0, by omega, rfl, ((ArrB.mk_ w _ _ b rfl rfl).alloc _).alloc _, (ArrB.mk_ _ _ _ zero16 (by simp) rfl).alloc _, ArrB.mk_ _ _ _ _ (by simp) (by rw [Nat.mul_zero, upto_zero]; rfl), (((Below.refl _ _).alloc (Nat.le_refl _) _).alloc (al0 _ _) _).alloc (by simp; omega) _⟩
  case round =>
    obtain ⟨c, hc, rfl, g0, g1, g2, hbel⟩ := hrel
    by_cases hlt : c < 4
    · have j0 : 0 ≤ (c : Int) := by omega
      have j1 : (c : Int) < 4 := by omega
      go_wp2_with fail
      go_loopw [9] (fun i wr => ∃ r : Nat, r ≤ 4 ∧ i = .int .i64 (r : Int) ∧ ArrB wr w.heap.size 51 b ∧ ArrB wr (w.heap.size + 1) 51 zero16 ∧ ArrB wr (w.heap.size + 1 + 1) 51 (upto (mixF b) (fun _ => 0) 16 (4 * c + r)) ∧ Below w.heap.size w wr) (fun i _ => (4 - intOf i).toNat)
      case atStart => exact ⟨0, by omega, rfl, g0, g1, g2, hbel⟩
      case round =>
        obtain ⟨r, hr, rfl, g0, g1, g2, hbel⟩ := hrel
        by_cases hlr : r < 4
        · have Hm := Lib.hid (mixF_ref b hlt hlr)
          have ha0 : ∀ wx, _ := fun wx => Rat_c b c r (r : Int) _ wx Hb.out hlt (by omega) rfl rfl
          have ha1 : ∀ wx, _ := fun wx => Rat_c b c (r + 1) ((r : Int) + 1) _ wx Hb.out hlt (by omega) (by omega) rfl
          have ha2 : ∀ wx, _ := fun wx => Rat_c b c (r + 2) ((r : Int) + 2) _ wx Hb.out hlt (by omega) (by omega) rfl
          have ha3 : ∀ wx, _ := fun wx => Rat_c b c (r + 3) ((r : Int) + 3) _ wx Hb.out hlt (by omega) (by omega) rfl
          generalize at0 b (4 * c + r % 4) = x0 at *
          generalize at0 b (4 * c + (r + 1) % 4) = x1 at *
          generalize at0 b (4 * c + (r + 2) % 4) = x2 at *
          generalize at0 b (4 * c + (r + 3) % 4) = x3 at *
          have Hc0 := Lib.hid ha0
          have Hc1 := Lib.hid ha1
          have Hc2 := Lib.hid ha2
          have Hc3 := Lib.hid ha3
          clear ha0 ha1 ha2 ha3
          have j2 : 0 ≤ (r : Int) := by omega
          have j3 : (r : Int) < 4 := by omega
          have hu := Tryd.underlying51
          have hi0 := size16L Hb.out
          have v0 : IntKind.i64.wrap (4 * (c : Int) + (r : Int)) = 4 * (c : Int) + (r : Int) := IntWalk.i64_in _ (by omega)
          have v1 : IntKind.i64.wrap ((r : Int) + 1) = (r : Int) + 1 := IntWalk.i64_in _ (by omega)
          have v2 : IntKind.i64.wrap ((r : Int) + 2) = (r : Int) + 2 := IntWalk.i64_in _ (by omega)
          have v3 : IntKind.i64.wrap ((r : Int) + 3) = (r : Int) + 3 := IntWalk.i64_in _ (by omega)
          have v4 : 0 ≤ 4 * (c : Int) + (r : Int) := by omega
          have v5 : 4 * (c : Int) + (r : Int) < 16 := by omega
          have v6 : (4 * (c : Int) + (r : Int)).toNat = 4 * c + r := by omega
          have v7 : IntKind.i64.wrap (4 * (c : Int)) = 4 * (c : Int) := IntWalk.i64_in _ (by omega)
          go_wp2_with fail
          have hkeep : ∀ wx : World, Below wr.heap.size wr wx → wx.rangeAt w.heap.size 0 (b.map bv) := fun wx hw => (g0.below hw g0.lt).range
          refine beginT (fun wx => wx.rangeAt w.heap.size 0 (b.map bv)) 29 (by kernel_rfl) ?_
          have hS := hkeep _ (c_drew (c_refl _))
          refine takeD 0 (some 12) (.int .i64 (c : Int)) rfl rfl (by kernel_rfl) (by kernel_rfl) (by kernel_rfl) (by kernel_rfl) (fun _ _ _ h => h) (Or.inl ⟨by kernel_rfl, fun wx hSw => by go_simp⟩) hS ?_
          simp only [Act.put, List.setIfInBounds_toArray, List.set_cons_zero, List.set_cons_succ]
          refine takeD 1 (some 13) (.int .i64 (4 * (c : Int))) rfl rfl (by kernel_rfl) (by kernel_rfl) (by kernel_rfl) (by kernel_rfl) (fun _ _ _ h => h) (Or.inl ⟨by kernel_rfl, fun wx hSw => by go_simp⟩) hS ?_
          simp only [Act.put, List.setIfInBounds_toArray, List.set_cons_zero, List.set_cons_succ]
          refine takeD 2 (some 14) (.int .i64 (r : Int)) rfl rfl (by kernel_rfl) (by kernel_rfl) (by kernel_rfl) (by kernel_rfl) (fun _ _ _ h => h) (Or.inl ⟨by kernel_rfl, fun wx hSw => by go_simp⟩) hS ?_
          simp only [Act.put, List.setIfInBounds_toArray, List.set_cons_zero, List.set_cons_succ]
          refine takeD 3 (some 15) (.int .i64 (4 * (c : Int) + (r : Int))) rfl rfl (by kernel_rfl) (by kernel_rfl) (by kernel_rfl) (by kernel_rfl) (fun _ _ _ h => h) (Or.inl ⟨by kernel_rfl, fun wx hSw => by go_simp⟩) hS ?_
          simp only [Act.put, List.setIfInBounds_toArray, List.set_cons_zero, List.set_cons_succ]
          refine loadT 4 (some 16) 51 (.tmp 1) w.heap.size 0 (b.map bv) rfl rfl (by kernel_rfl) (by kernel_rfl) (by kernel_rfl) (by kernel_rfl) rfl (by kernel_rfl) rfl (fun wx hSw => hSw) hu rfl hi0 (fun _ _ _ h => h) hS ?_
          simp only [Act.put, List.setIfInBounds_toArray, List.set_cons_zero, List.set_cons_succ]
          refine takeD 5 (some 17) (.int .i64 (c : Int)) rfl rfl (by kernel_rfl) (by kernel_rfl) (by kernel_rfl) (by kernel_rfl) (fun _ _ _ h => h) (Or.inl ⟨by kernel_rfl, fun wx hSw => by go_simp⟩) hS ?_
          simp only [Act.put, List.setIfInBounds_toArray, List.set_cons_zero, List.set_cons_succ]
          refine takeD 6 (some 18) (.int .i64 (r : Int)) rfl rfl (by kernel_rfl) (by kernel_rfl) (by kernel_rfl) (by kernel_rfl) (fun _ _ _ h => h) (Or.inl ⟨by kernel_rfl, fun wx hSw => by go_simp⟩) hS ?_
          simp only [Act.put, List.setIfInBounds_toArray, List.set_cons_zero, List.set_cons_succ]
          refine loadT 9 (some 21) 51 (.tmp 1) w.heap.size 0 (b.map bv) rfl rfl (by kernel_rfl) (by kernel_rfl) (by kernel_rfl) (by kernel_rfl) rfl (by kernel_rfl) rfl (fun wx hSw => hSw) hu rfl hi0 (fun _ _ _ h => h) hS ?_
          simp only [Act.put, List.setIfInBounds_toArray, List.set_cons_zero, List.set_cons_succ]
          refine takeD 10 (some 22) (.int .i64 (c : Int)) rfl rfl (by kernel_rfl) (by kernel_rfl) (by kernel_rfl) (by kernel_rfl) (fun _ _ _ h => h) (Or.inl ⟨by kernel_rfl, fun wx hSw => by go_simp⟩) hS ?_
          simp only [Act.put, List.setIfInBounds_toArray, List.set_cons_zero, List.set_cons_succ]
          refine takeD 11 (some 23) (.int .i64 (r : Int)) rfl rfl (by kernel_rfl) (by kernel_rfl) (by kernel_rfl) (by kernel_rfl) (fun _ _ _ h => h) (Or.inl ⟨by kernel_rfl, fun wx hSw => by go_simp⟩) hS ?_
          simp only [Act.put, List.setIfInBounds_toArray, List.set_cons_zero, List.set_cons_succ]
          refine takeD 12 (some 24) (.int .i64 ((r : Int) + 1)) rfl rfl (by kernel_rfl) (by kernel_rfl) (by kernel_rfl) (by kernel_rfl) (fun _ _ _ h => h) (Or.inl ⟨by kernel_rfl, fun wx hSw => by go_simp⟩) hS ?_
          simp only [Act.put, List.setIfInBounds_toArray, List.set_cons_zero, List.set_cons_succ]
          refine loadT 16 (some 28) 51 (.tmp 1) w.heap.size 0 (b.map bv) rfl rfl (by kernel_rfl) (by kernel_rfl) (by kernel_rfl) (by kernel_rfl) rfl (by kernel_rfl) rfl (fun wx hSw => hSw) hu rfl hi0 (fun _ _ _ h => h) hS ?_
          simp only [Act.put, List.setIfInBounds_toArray, List.set_cons_zero, List.set_cons_succ]
          refine takeD 17 (some 29) (.int .i64 (c : Int)) rfl rfl (by kernel_rfl) (by kernel_rfl) (by kernel_rfl) (by kernel_rfl) (fun _ _ _ h => h) (Or.inl ⟨by kernel_rfl, fun wx hSw => by go_simp⟩) hS ?_
          simp only [Act.put, List.setIfInBounds_toArray, List.set_cons_zero, List.set_cons_succ]
          refine takeD 18 (some 30) (.int .i64 (r : Int)) rfl rfl (by kernel_rfl) (by kernel_rfl) (by kernel_rfl) (by kernel_rfl) (fun _ _ _ h => h) (Or.inl ⟨by kernel_rfl, fun wx hSw => by go_simp⟩) hS ?_
          simp only [Act.put, List.setIfInBounds_toArray, List.set_cons_zero, List.set_cons_succ]
          refine takeD 19 (some 31) (.int .i64 ((r : Int) + 2)) rfl rfl (by kernel_rfl) (by kernel_rfl) (by kernel_rfl) (by kernel_rfl) (fun _ _ _ h => h) (Or.inl ⟨by kernel_rfl, fun wx hSw => by go_simp⟩) hS ?_
          simp only [Act.put, List.setIfInBounds_toArray, List.set_cons_zero, List.set_cons_succ]
          refine loadT 22 (some 34) 51 (.tmp 1) w.heap.size 0 (b.map bv) rfl rfl (by kernel_rfl) (by kernel_rfl) (by kernel_rfl) (by kernel_rfl) rfl (by kernel_rfl) rfl (fun wx hSw => hSw) hu rfl hi0 (fun _ _ _ h => h) hS ?_
          simp only [Act.put, List.setIfInBounds_toArray, List.set_cons_zero, List.set_cons_succ]
          refine takeD 23 (some 35) (.int .i64 (c : Int)) rfl rfl (by kernel_rfl) (by kernel_rfl) (by kernel_rfl) (by kernel_rfl) (fun _ _ _ h => h) (Or.inl ⟨by kernel_rfl, fun wx hSw => by go_simp⟩) hS ?_
          simp only [Act.put, List.setIfInBounds_toArray, List.set_cons_zero, List.set_cons_succ]
          refine takeD 24 (some 36) (.int .i64 (r : Int)) rfl rfl (by kernel_rfl) (by kernel_rfl) (by kernel_rfl) (by kernel_rfl) (fun _ _ _ h => h) (Or.inl ⟨by kernel_rfl, fun wx hSw => by go_simp⟩) hS ?_
          simp only [Act.put, List.setIfInBounds_toArray, List.set_cons_zero, List.set_cons_succ]
          refine takeD 25 (some 37) (.int .i64 ((r : Int) + 3)) rfl rfl (by kernel_rfl) (by kernel_rfl) (by kernel_rfl) (by kernel_rfl) (fun _ _ _ h => h) (Or.inl ⟨by kernel_rfl, fun wx hSw => by go_simp⟩) hS ?_
          simp only [Act.put, List.setIfInBounds_toArray, List.set_cons_zero, List.set_cons_succ]
          refine oneT 7 (by kernel_rfl) rfl (fun K hK => ?_)
          go_simp
          refine (Hc0.out _).mono ?_
          rintro e wa ⟨rfl, hba⟩
          refine hK.out _ _ (fun _ => hkeep _ (by (repeat (first | exact c_refl _ | refine c_drew ?_ | refine c_alloc ?_ _ | refine c_row ?_ (by first | omega | exact Nat.le_refl _) _ | refine c_call ?_ (by assumption))); first | done | fail "open")) ?_
          clear hK K
          refine oneT 8 (by kernel_rfl) rfl (fun K hK => ?_)
          go_simp
          refine (RMul_2l x0 _).mono ?_
          rintro e wz ⟨rfl, rfl⟩
          generalize twU x0 = t0 at *
          refine hK.out _ _ (fun _ => hkeep _ (by (repeat (first | exact c_refl _ | refine c_drew ?_ | refine c_alloc ?_ _ | refine c_row ?_ (by first | omega | exact Nat.le_refl _) _ | refine c_call ?_ (by assumption))); first | done | fail "open")) ?_
          clear hK K
          refine oneT 13 (by kernel_rfl) rfl (fun K hK => ?_)
          go_simp
          refine (Hc1.out _).mono ?_
          rintro e wb ⟨rfl, hbb⟩
          refine hK.out _ _ (fun _ => hkeep _ (by (repeat (first | exact c_refl _ | refine c_drew ?_ | refine c_alloc ?_ _ | refine c_row ?_ (by first | omega | exact Nat.le_refl _) _ | refine c_call ?_ (by assumption))); first | done | fail "open")) ?_
          clear hK K
          refine oneT 14 (by kernel_rfl) rfl (fun K hK => ?_)
          go_simp
          refine (RMul_3l x1 _).mono ?_
          rintro e wz ⟨rfl, rfl⟩
          generalize twU x1 ^^^ x1 = m1 at *
          refine hK.out _ _ (fun _ => hkeep _ (by (repeat (first | exact c_refl _ | refine c_drew ?_ | refine c_alloc ?_ _ | refine c_row ?_ (by first | omega | exact Nat.le_refl _) _ | refine c_call ?_ (by assumption))); first | done | fail "open")) ?_
          clear hK K
          have hSb := hkeep wb (by (repeat (first | exact c_refl _ | refine c_drew ?_ | refine c_alloc ?_ _ | refine c_row ?_ (by first | omega | exact Nat.le_refl _) _ | refine c_call ?_ (by assumption))); first | done | fail "open")
          refine takeD 15 (some 27) (.int .u8 (bits .xor .u8 (t0.toNat : Int) (m1.toNat : Int))) rfl rfl (by kernel_rfl) (by kernel_rfl) (by kernel_rfl) (by kernel_rfl) (fun _ _ _ h => h) (Or.inl ⟨by kernel_rfl, fun wx hSw => by go_simp⟩) hSb ?_
          simp only [Act.put, List.setIfInBounds_toArray, List.set_cons_zero, List.set_cons_succ]
          rw [b_xor]
          generalize t0 ^^^ m1 = y1 at *
          refine oneT 20 (by kernel_rfl) rfl (fun K hK => ?_)
          go_simp
          refine (Hc2.out _).mono ?_
          rintro e wd ⟨rfl, hbd⟩
          refine hK.out _ _ (fun _ => hkeep _ (by (repeat (first | exact c_refl _ | refine c_drew ?_ | refine c_alloc ?_ _ | refine c_row ?_ (by first | omega | exact Nat.le_refl _) _ | refine c_call ?_ (by assumption))); first | done | fail "open")) ?_
          clear hK K
          have hSd := hkeep wd (by (repeat (first | exact c_refl _ | refine c_drew ?_ | refine c_alloc ?_ _ | refine c_row ?_ (by first | omega | exact Nat.le_refl _) _ | refine c_call ?_ (by assumption))); first | done | fail "open")
          refine takeD 21 (some 33) (.int .u8 (bits .xor .u8 (y1.toNat : Int) (x2.toNat : Int))) rfl rfl (by kernel_rfl) (by kernel_rfl) (by kernel_rfl) (by kernel_rfl) (fun _ _ _ h => h) (Or.inl ⟨by kernel_rfl, fun wx hSw => by go_simp⟩) hSd ?_
          simp only [Act.put, List.setIfInBounds_toArray, List.set_cons_zero, List.set_cons_succ]
          rw [b_xor]
          generalize y1 ^^^ x2 = y2 at *
          refine oneT 26 (by kernel_rfl) rfl (fun K hK => ?_)
          go_simp
          refine (Hc3.out _).mono ?_
          rintro e we ⟨rfl, hbe⟩
          refine hK.out _ _ (fun _ => hkeep _ (by (repeat (first | exact c_refl _ | refine c_drew ?_ | refine c_alloc ?_ _ | refine c_row ?_ (by first | omega | exact Nat.le_refl _) _ | refine c_call ?_ (by assumption))); first | done | fail "open")) ?_
          clear hK K
          have hE : Below wr.heap.size wr we := (by (repeat (first | exact c_refl _ | refine c_drew ?_ | refine c_alloc ?_ _ | refine c_row ?_ (by first | omega | exact Nat.le_refl _) _ | refine c_call ?_ (by assumption))); first | done | fail "open")
          have hSe := hkeep we hE
          refine takeD 27 (some 39) (.int .u8 (bits .xor .u8 (y2.toNat : Int) (x3.toNat : Int))) rfl rfl (by kernel_rfl) (by kernel_rfl) (by kernel_rfl) (by kernel_rfl) (fun _ _ _ h => h) (Or.inl ⟨by kernel_rfl, fun wx hSw => by go_simp⟩) hSe ?_
          simp only [Act.put, List.setIfInBounds_toArray, List.set_cons_zero, List.set_cons_succ]
          rw [b_xor]
          generalize y2 ^^^ x3 = y at *
          refine takeD 28 (some 40) (.pointer (some ⟨w.heap.size + 1 + 1, 4 * c + r, none⟩)) rfl rfl (by kernel_rfl) (by kernel_rfl) (by kernel_rfl) (by kernel_rfl) (fun _ _ _ h => h) (Or.inl ⟨by kernel_rfl, fun wx hSw => by go_simp⟩) hSe ?_
          simp only [Act.put, List.setIfInBounds_toArray, List.set_cons_zero, List.set_cons_succ]
          have e2 := g2.below hE g2.lt
          have cs := e2.cell (upto_old (mixF b) (fun _ => 0) (show 4 * c + r < 16 by omega) (Nat.le_refl _))
          have fs := e2.frozen (4 * c + r)
          have hs := e2.set_ (4 * c + r) (mixF b (4 * c + r))
          rw [← upto_succ, Hm.out] at hs
          refine oneT 29 (by kernel_rfl) rfl (fun K hK => ?_)
          go_simp
          refine hK.out _ _ (fun h => absurd rfl h) ?_
          clear hK K
          refine doneT (by kernel_rfl) ?_ _
          go_wp2_with fail
          refine ⟨⟨r + 1, by omega, by go_num, (g0.below hE g0.lt).far (by simp; try omega) _, (g1.below hE g1.lt).far (by simp; try omega) _, hs, (hbel.trans (hE.mono hbel.size)).setCell (by simp; try omega) _⟩, by simp [intOf]; omega⟩
        · obtain rfl : r = 4 := by omega
          rw [show ((4 : Nat) : Int) = 4 from rfl]
          go_wp2_with fail
          exact ⟨⟨c + 1, by omega, by go_num, g0, g1, g2, hbel⟩, by simp [intOf]; omega⟩
    · obtain rfl : c = 4 := by omega
      rw [show ((4 : Nat) : Int) = 4 from rfl]
      rw [show 4 * 4 = 16 from rfl, upto_all, show (List.range 16).map (mixF b) = mixU b from rfl] at g2
      generalize hq : mixU b = q at *
      have Hq := Lib.hid hq
      clear hq
      go_wp2_with (first
        | ((with_reducible show wpList _ _ _ (⟨some 43, _, _, _, _, _⟩ :: _) _ _); refine wpList_load_row rfl 51 (.tmp 3) rfl (w.heap.size + 1 + 1) rfl 51 (q.map bv).toArray (0, 0) _ g2 Tryd.underlying51 rfl Hiz.out ?_)
        | ((with_reducible show wpList _ _ _ (⟨none, Op.store 51 _ _, _, _, _, _⟩ :: _) _ _); refine wpList_store_row rfl 51 (.tmp 2) (.tmp 43) rfl (w.heap.size + 1) (q.map bv).toArray rfl rfl 51 _ g1 Hiz.out Hsz.out (one_bvA q) ?_))
      exact bodyPost_ret (results_cell_row rfl _ _ (w.heap.size + 1) 51 _ (0, 0) _ rfl (g1.row q) Tryd.underlying51 rfl Hiz.out) rfl ⟨by rw [Hq.out], below_setRow hbel (by omega) _⟩

end Go.Proofs.YtajbaaamhddgiaaDoor

