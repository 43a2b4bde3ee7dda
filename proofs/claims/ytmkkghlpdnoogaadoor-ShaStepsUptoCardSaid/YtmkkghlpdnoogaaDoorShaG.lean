/-
  CONTRACTS of the program's takeWord and spread (package sha).
-/
import Derived.Test.YtmkkghlpdnoogaaDoorShaF
set_option linter.unusedVariables false
namespace Go.Proofs.YtmkkghlpdnoogaaDoor
open Go.RowKit

set_option maxRecDepth 100000 in
theorem or_bytes (a b c d : Nat) (hb : b < 256) (hc : c < 256) (hd : d < 256) : a * 16777216 ||| b * 65536 ||| c * 256 ||| d = a * 16777216 + b * 65536 + c * 256 + d := by
  have e1 : a * 16777216 ||| b * 65536 = a * 16777216 + b * 65536 := by
    have := Nat.shiftLeft_add_eq_or_of_lt (show b * 65536 < 2 ^ 24 by omega) a
    rw [Nat.shiftLeft_eq, show (2 : Nat) ^ 24 = 16777216 from rfl] at this
    exact this.symm
  have e2 : (a * 16777216 + b * 65536) ||| c * 256 = a * 16777216 + b * 65536 + c * 256 := by
    have := Nat.shiftLeft_add_eq_or_of_lt (show c * 256 < 2 ^ 16 by omega) (a * 256 + b)
    rw [Nat.shiftLeft_eq, show (2 : Nat) ^ 16 = 65536 from rfl, show (a * 256 + b) * 65536 = a * 16777216 + b * 65536 by rw [Nat.add_mul, Nat.mul_assoc]] at this
    exact this.symm
  have e3 : (a * 16777216 + b * 65536 + c * 256) ||| d = a * 16777216 + b * 65536 + c * 256 + d := by
    have := Nat.shiftLeft_add_eq_or_of_lt (show d < 2 ^ 8 by omega) (a * 65536 + b * 256 + c)
    rw [Nat.shiftLeft_eq, show (2 : Nat) ^ 8 = 256 from rfl, show (a * 65536 + b * 256 + c) * 256 = a * 16777216 + b * 65536 + c * 256 by rw [Nat.add_mul, Nat.add_mul, Nat.mul_assoc, Nat.mul_assoc]] at this
    exact this.symm
  rw [e1, e2, e3]

theorem take_val (x0 x1 x2 x3 : UInt8) : bits .or .u32 (bits .or .u32 (bits .or .u32 ((x0.toNat : Int) * 16777216) ((x1.toNat : Int) * 65536)) ((x2.toNat : Int) * 256)) (x3.toNat : Int) = (x0.toNat : Int) * 16777216 + x1.toNat * 65536 + x2.toNat * 256 + x3.toNat := by
  have n0 := x0.toNat_lt
  have n1 := x1.toNat_lt
  have n2 := x2.toNat_lt
  have n3 := x3.toNat_lt
  have h1 : x0.toNat * 16777216 ||| x1.toNat * 65536 < 4294967296 := Nat.or_lt_two_pow (n := 32) (by omega) (by omega)
  have h2 : x0.toNat * 16777216 ||| x1.toNat * 65536 ||| x2.toNat * 256 < 4294967296 := Nat.or_lt_two_pow (n := 32) h1 (by omega)
  rw [show (x0.toNat : Int) * 16777216 = ((x0.toNat * 16777216 : Nat) : Int) by omega, show (x1.toNat : Int) * 65536 = ((x1.toNat * 65536 : Nat) : Int) by omega, show (x2.toNat : Int) * 256 = ((x2.toNat * 256 : Nat) : Int) by omega,
    u32_or_nat _ _ (by omega) (by omega), u32_or_nat _ _ h1 (by omega), u32_or_nat _ _ h2 (by omega), or_bytes _ _ _ _ n1 n2 n3]
  omega

theorem takeWord_at (b o n c : Nat) (x0 x1 x2 x3 : UInt8) (w : World) (hn : 4 ≤ n) (c0 : w.cell? ⟨b, o, none⟩ = some (.int .u8 (x0.toNat : Int))) (c1 : w.cell? ⟨b, o + 1, none⟩ = some (.int .u8 (x1.toNat : Int)))
    (c2 : w.cell? ⟨b, o + 2, none⟩ = some (.int .u8 (x2.toNat : Int))) (c3 : w.cell? ⟨b, o + 3, none⟩ = some (.int .u8 (x3.toNat : Int))) :
    Calls Tryd.prog 70 #[.slice (some ⟨b, o, none⟩) n c] w fun e w' => e = .returned (.int .u32 ((x0.toNat : Int) * 16777216 + x1.toNat * 65536 + x2.toNat * 256 + x3.toNat)) ∧ ∃ q, w' = w.drewN q := by
  have n0 := x0.toNat_lt
  have n1 := x1.toNat_lt
  have n2 := x2.toNat_lt
  have n3 := x3.toNat_lt
  have i0 : (0 : Int) < (n : Int) := by omega
  have i1 : (1 : Int) < (n : Int) := by omega
  have i2 : (2 : Int) < (n : Int) := by omega
  have i3 : (3 : Int) < (n : Int) := by omega
  go_enter Tryd.func70, Tryd.ntmps70
  go_wp2_with fail
  go_quiet (fail)
  go_wp2_with fail
  go_ret
  refine ⟨?_, nq, rfl⟩
  exact ret_u32 (take_val x0 x1 x2 x3)

theorem w_wadd (a b : UInt32) : IntKind.u32.wrap ((a.toNat : Int) + (b.toNat : Int)) = ((a + b).toNat : Int) := by
  rw [← w_add]; rfl

theorem still_flip {v : Value} {w : World} (e : Ending) (w' : World) (h : e = .returned v ∧ w = w') : e = .returned v ∧ w' = w := ⟨h.1, h.2.symm⟩

theorem info64b : (Tryd.prog.info? 67).map (·.size) = some 64 := by kernel_rfl

set_option maxHeartbeats 1000000 in
theorem spread_any (l : List UInt8) (w : World) (hl : l.length = 64) :
    Calls Tryd.prog 65 #[.agg (l.map bv).toArray] w fun e w' => e = .returned (.agg ((wordsU l).map wv).toArray) ∧ Below w.heap.size w w' := by
  have Hll := Lib.hid hl
  clear hl
  go_enter Tryd.func65, Tryd.ntmps65
  go_wp2_with fail
  go_loopw [8] (fun i wr => ∃ j : Nat, j ≤ 16 ∧ i = .int .i64 (j : Int) ∧ ArrW wr (w.heap.size + 1 + 1) 77 (firstWords l j) ∧ ArrW wr (w.heap.size + 1) 77 zero64 ∧ ArrB wr w.heap.size 67 l ∧ Below w.heap.size w wr) (fun i _ => 16 - (intOf i).toNat)
  case atStart =>
    refine ⟨0, by omega, rfl, ?_, ?_, ?_, (((Below.refl _ _).alloc (Nat.le_refl _) _).alloc (al0 _ _) _).alloc (Nat.le_trans (al0 _ _) (al0 _ _)) _⟩
    · rw [firstWords_zero]
      exact ArrW.mk_ _ _ _ _ (by simp) rfl
    · refine ArrW.alloc (ArrW.mk_ _ _ _ zero64 (by simp) ?_) _
      rfl
    · exact ((ArrB.mk_ w _ _ l rfl rfl).alloc _).alloc _
  case round =>
    obtain ⟨j, hj, rfl, ha1, ha0, hab, hbel⟩ := hrel
    by_cases hlt : j < 16
    · obtain ⟨x0, hx0⟩ : ∃ x, l[4 * j]? = some x := ⟨_, List.getElem?_eq_getElem (by have := Hll.out; omega)⟩
      obtain ⟨x1, hx1⟩ : ∃ x, l[4 * j + 1]? = some x := ⟨_, List.getElem?_eq_getElem (by have := Hll.out; omega)⟩
      obtain ⟨x2, hx2⟩ : ∃ x, l[4 * j + 2]? = some x := ⟨_, List.getElem?_eq_getElem (by have := Hll.out; omega)⟩
      obtain ⟨x3, hx3⟩ : ∃ x, l[4 * j + 3]? = some x := ⟨_, List.getElem?_eq_getElem (by have := Hll.out; omega)⟩
      have c0 := hab.cell hx0
      have c1 := hab.cell hx1
      have c2 := hab.cell hx2
      have c3 := hab.cell hx3
      obtain ⟨y, hy⟩ : ∃ y, (firstWords l j)[j]? = some y := ⟨_, List.getElem?_eq_getElem (by simp [firstWords]; omega)⟩
      have cw := ha1.cell hy
      have fw := ha1.frozen j
      have b0 : 0 ≤ (j : Int) := by omega
      have b1 : (j : Int) < 64 := by omega
      have b2 : 0 ≤ (j : Int) * 4 := by omega
      have b3 : (j : Int) * 4 ≤ 64 := by omega
      have b4 : ((j : Int) * 4).toNat = 4 * j := by omega
      have b5 : ¬ 64 = 4 * j := by omega
      have hword := Lib.hid (wordAt_of hx0 hx1 hx2 hx3)
      clear hx0 hx1 hx2 hx3 hy
      go_wp2_with (go_at_call 70; refine (takeWord_at _ _ _ _ x0 x1 x2 x3 _ (by omega) c0 c1 c2 c3).mono ?_; rintro e w' ⟨rfl, q, rfl⟩)
      go_roundw
      case rel =>
        refine ⟨j + 1, by omega, by go_num, ?_, ?_, ?_, ?_⟩
        · rw [firstWords_succ, hword.out]
          exact (ha1.drewN q).set_ j _
        · exact (ha0.drewN q).far (by simp) _
        · exact (hab.drewN q).far (by simp; omega) _
        · exact (hbel.trans ⟨rfl, rfl, rfl, Nat.le_refl _, fun _ _ => rfl⟩ : Below w.heap.size w (wr.drewN q)).setCell (by simp; omega) _
      case measure => simp [intOf]; omega
    · obtain rfl : j = 16 := by omega
      rw [show ((16 : Nat) : Int) = 16 from rfl]
      go_wp2_with fail
      go_loopw [6] (fun i wr => ∃ t : Nat, 16 ≤ t ∧ t ≤ 64 ∧ i = .int .i64 (t : Int) ∧ ArrW wr (w.heap.size + 1 + 1) 77 (schedTo l (t - 16)) ∧ ArrW wr (w.heap.size + 1) 77 zero64 ∧ Below w.heap.size w wr) (fun i _ => (64 - intOf i).toNat)
      case atStart => exact ⟨16, by omega, by omega, rfl, ha1, ha0, hbel⟩
      case round =>
        obtain ⟨t, ht0, ht, rfl, hb1, hb0, hbel2⟩ := hrel
        by_cases hlt2 : t < 64
        · have hlen := schedTo_len l (t - 16)
          have Hst := Lib.hid (show schedTo l (t + 1 - 16) = schedStep (schedTo l (t - 16)) t by rw [show t + 1 - 16 = (t - 16) + 1 from by omega, schedTo, show 16 + (t - 16) = t from by omega])
          generalize schedTo l (t - 16) = ws at *
          obtain ⟨y16, h16⟩ : ∃ y, ws[t - 16]? = some y := ⟨_, List.getElem?_eq_getElem (by omega)⟩
          obtain ⟨y15, h15⟩ : ∃ y, ws[t - 15]? = some y := ⟨_, List.getElem?_eq_getElem (by omega)⟩
          obtain ⟨y7, h7⟩ : ∃ y, ws[t - 7]? = some y := ⟨_, List.getElem?_eq_getElem (by omega)⟩
          obtain ⟨y2, h2⟩ : ∃ y, ws[t - 2]? = some y := ⟨_, List.getElem?_eq_getElem (by omega)⟩
          obtain ⟨y, hy⟩ : ∃ y, ws[t]? = some y := ⟨_, List.getElem?_eq_getElem (by omega)⟩
          have c16 := hb1.cell h16
          have c15 := hb1.cell h15
          have c7 := hb1.cell h7
          have c2 := hb1.cell h2
          have cy := hb1.cell hy
          have fy := hb1.frozen t
          have l16 := u32_lt y16
          have l15 := u32_lt y15
          have l7 := u32_lt y7
          have l2 := u32_lt y2
          have Hsp := Lib.hid (show schedStep ws t = ws.set t (y16 + sig0 y15 + y7 + sig1 y2) by
            unfold schedStep; rw [List.getD_eq_getElem?_getD, List.getD_eq_getElem?_getD, List.getD_eq_getElem?_getD, List.getD_eq_getElem?_getD, h16, h15, h7, h2]; rfl)
          clear h16 h15 h7 h2 hy hlen
          have ls0 := u32_lt (sig0 y15)
          have ls1 := u32_lt (sig1 y2)
          have t0 : 0 ≤ (t : Int) - 16 := by omega
          have t1 : (t : Int) < 64 := by omega
          have t10 : 16 ≤ (t : Int) := by omega
          have t11 : 15 ≤ (t : Int) := by omega
          have t12 : 7 ≤ (t : Int) := by omega
          have t13 : 2 ≤ (t : Int) := by omega
          have t2 : 0 ≤ (t : Int) - 15 := by omega
          have t3 : 0 ≤ (t : Int) - 7 := by omega
          have t4 : 0 ≤ (t : Int) - 2 := by omega
          have t5 : (t : Int) - 16 < 64 := by omega
          have t6 : (t : Int) - 15 < 64 := by omega
          have t7 : (t : Int) - 7 < 64 := by omega
          have t8 : (t : Int) - 2 < 64 := by omega
          have t9 : 0 ≤ (t : Int) := by omega
          have z1 : ((t : Int) - 16).toNat = t - 16 := by omega
          have z2 : ((t : Int) - 15).toNat = t - 15 := by omega
          have z3 : ((t : Int) - 7).toNat = t - 7 := by omega
          have z4 : ((t : Int) - 2).toNat = t - 2 := by omega
          have v1 : IntKind.i64.wrap ((t : Int) - 16) = (t : Int) - 16 := IntWalk.i64_in _ (by omega)
          have v2 : IntKind.i64.wrap ((t : Int) - 15) = (t : Int) - 15 := IntWalk.i64_in _ (by omega)
          have v3 : IntKind.i64.wrap ((t : Int) - 7) = (t : Int) - 7 := IntWalk.i64_in _ (by omega)
          have v4 : IntKind.i64.wrap ((t : Int) - 2) = (t : Int) - 2 := IntWalk.i64_in _ (by omega)
          go_wp2_with fail
          refine wp_region_still_tail 23 (by kernel_rfl) (by kernel_rfl) ?_
          simp only [List.take_succ_cons, List.take_zero, List.drop_succ_cons, List.drop_zero]
          repeat (first | (refine wpStill_step (fun K hK => ?_); go_simp; first | (refine ⟨_, (smallS0_any _ _).mono still_flip, hK _ ?_⟩) | (refine ⟨_, (smallS1_any _ _).mono still_flip, hK _ ?_⟩); clear hK K) | still_step)
          refine wpStill_nil ?_
          change wpList _ _ _ _ _ wr.drew
          go_wp2_with fail
          go_roundw
          case rel =>
            refine ⟨t + 1, by omega, by omega, by go_num, ?_, ?_, ?_⟩
            · rw [Hst.out, Hsp.out, w_add4]
              exact (hb1.set_ t _).drew
            · exact (hb0.far (by simp) _).drew
            · exact (hbel2.setCell (by simp; omega) _).drew
          case measure => simp [intOf]; omega
        · obtain rfl : t = 64 := by omega
          have hsz1 : (Tryd.prog.info? 77).map (·.size) = some (((schedTo l 48).map wv).toArray).size := by rw [info64]; simp [schedTo_len]
          have hsz0 : (zero64.map wv).toArray.size = ((schedTo l 48).map wv).toArray.size := by simp [schedTo_len, zero64]
          have Hsz1 := Lib.hid hsz1
          have Hsz0 := Lib.hid hsz0
          clear hsz1 hsz0
          go_wp2_with (first
            | ((with_reducible show wpList _ _ _ (⟨some 46, _, _, _, _, _⟩ :: _) _ _); refine wpList_load_row rfl 77 (.tmp 3) rfl (w.heap.size + 1 + 1) rfl 77 ((schedTo l 48).map wv).toArray (0, 0) _ hb1 Tryd.underlying77 rfl Hsz1.out ?_)
            | ((with_reducible show wpList _ _ _ (⟨none, Op.store 77 _ _, _, _, _, _⟩ :: _) _ _); refine wpList_store_row rfl 77 (.tmp 2) (.tmp 46) rfl (w.heap.size + 1) ((schedTo l 48).map wv).toArray rfl rfl 77 _ hb0 Hsz1.out Hsz0.out (one_wv _) ?_))
          exact bodyPost_ret (results_cell_row rfl _ _ (w.heap.size + 1) 77 _ (0, 0) _ rfl (hb0.row (schedTo l 48)) Tryd.underlying77 rfl Hsz1.out) rfl ⟨rfl, below_setRow hbel2 (by omega) _⟩

end Go.Proofs.YtmkkghlpdnoogaaDoor
