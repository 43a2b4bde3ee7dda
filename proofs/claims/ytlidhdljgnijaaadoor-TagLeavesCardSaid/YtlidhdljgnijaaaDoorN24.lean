import Derived.Test.YtlidhdljgnijaaaDoorN22
import Derived.Deep.MidRow
/-
  CONTRACTS of the program's small functions of package sha: turns, mixtures of words.
-/
set_option linter.unusedVariables false
namespace Go.Proofs.YtlidhdljgnijaaaDoor
open Go.RowKit

theorem and31 : ∀ j : Fin 32, 1 ≤ j.val → bits .and .u64 (IntKind.u64.wrap (-(j.val : Int))) 31 = 32 - (j.val : Int) := by decide +kernel

theorem or_ror' (x : UInt32) (k : Nat) (h1 : 1 ≤ k) (h2 : k ≤ 31) :
    bits .or .u32 ((x.toNat : Int) * 2 ^ (32 - k) % 4294967296) ((x.toNat : Int) / 2 ^ k) = ((rorU x k).toNat : Int) := by
  rw [← or_ror x k h1 h2]
  have hx := u32_lt x
  have e1 : (x.toNat : Int) / 2 ^ k = ((x.toNat / 2 ^ k : Nat) : Int) := by
    rw [Int.natCast_ediv, Int.natCast_pow]; rfl
  have e2 : (x.toNat : Int) * 2 ^ (32 - k) % 4294967296 = ((x.toNat * 2 ^ (32 - k) % 4294967296 : Nat) : Int) := by
    rw [Int.natCast_emod, Int.natCast_mul, Int.natCast_pow]; rfl
  rw [e1, e2, u32_or_nat _ _ (Nat.lt_of_le_of_lt (Nat.div_le_self _ _) hx) (Nat.mod_lt _ (by omega)), u32_or_nat _ _ (Nat.mod_lt _ (by omega)) (Nat.lt_of_le_of_lt (Nat.div_le_self _ _) hx), Nat.or_comm]

theorem ret_u32 {a b : Int} (h : a = b) : Ending.returned (.int .u32 a) = .returned (.int .u32 b) := by rw [h]

theorem S0_val (x : UInt32) : bits .xor .u32 (bits .xor .u32 ((rorU x 2).toNat : Int) ((rorU x 13).toNat : Int)) ((rorU x 22).toNat : Int) = ((S0 x).toNat : Int) := by
  rw [w_xor, w_xor]; rfl
theorem S1_val (x : UInt32) : bits .xor .u32 (bits .xor .u32 ((rorU x 6).toNat : Int) ((rorU x 11).toNat : Int)) ((rorU x 25).toNat : Int) = ((S1 x).toNat : Int) := by
  rw [w_xor, w_xor]; rfl

theorem rot_any (x : UInt32) (k : Nat) (w : World) (h1 : 1 ≤ k) (h2 : k ≤ 31) :
    Calls Tryd.prog 105 #[.int .u32 (x.toNat : Int), .int .i64 (-(k : Int))] w fun e w' => e = .returned (.int .u32 ((rorU x k).toNat : Int)) ∧ w = w' := by
  have hx := u32_lt x
  have hk := and31 ⟨k, by omega⟩ h1
  have k0 : 0 ≤ 32 - (k : Int) := by omega
  have k1 : 32 - (k : Int) ≤ 32 := by omega
  have k2 : 32 - (32 - (k : Int)) = (k : Int) := by omega
  go_enter Tryd.func105, Tryd.ntmps105
  go_wp2_with fail
  go_ret
  refine ⟨?_, rfl⟩
  exact ret_u32 (or_ror' x k h1 h2)

theorem pror_any (x : UInt32) (d : Int) (w : World) (h1 : 1 ≤ d) (h2 : d ≤ 31) :
    Calls Tryd.prog 104 #[.int .u32 (x.toNat : Int), .int .i64 d] w fun e w' => e = .returned (.int .u32 ((rorU x d.toNat).toNat : Int)) ∧ w = w' := by
  obtain ⟨k, rfl⟩ := Int.eq_ofNat_of_zero_le (show 0 ≤ d by omega)
  go_enter Tryd.func104, Tryd.ntmps104
  go_wp2_with (go_at_call 105; refine (rot_any x k _ (by omega) (by omega)).mono ?_; rintro e w' ⟨rfl, rfl⟩)
  go_ret
  exact ⟨by simp, rfl⟩

theorem smallS0_any (x : UInt32) (w : World) :
    Calls Tryd.prog 102 #[.int .u32 (x.toNat : Int)] w fun e w' => e = .returned (.int .u32 ((sig0 x).toNat : Int)) ∧ w = w' := by
  have hx := u32_lt x
  go_enter Tryd.func102, Tryd.ntmps102
  go_wp2_with (go_at_call 104; refine (pror_any x _ _ (by omega) (by omega)).mono ?_; rintro e w' ⟨rfl, rfl⟩)
  go_ret
  exact ⟨ret_u32 (sig0_val x), rfl⟩

theorem smallS1_any (x : UInt32) (w : World) :
    Calls Tryd.prog 103 #[.int .u32 (x.toNat : Int)] w fun e w' => e = .returned (.int .u32 ((sig1 x).toNat : Int)) ∧ w = w' := by
  have hx := u32_lt x
  go_enter Tryd.func103, Tryd.ntmps103
  go_wp2_with (go_at_call 104; refine (pror_any x _ _ (by omega) (by omega)).mono ?_; rintro e w' ⟨rfl, rfl⟩)
  go_ret
  exact ⟨ret_u32 (sig1_val x), rfl⟩

theorem bigS0_any (x : UInt32) (w : World) :
    Calls Tryd.prog 99 #[.int .u32 (x.toNat : Int)] w fun e w' => e = .returned (.int .u32 ((S0 x).toNat : Int)) ∧ w = w' := by
  have hx := u32_lt x
  go_enter Tryd.func99, Tryd.ntmps99
  go_wp2_with (go_at_call 104; refine (pror_any x _ _ (by omega) (by omega)).mono ?_; rintro e w' ⟨rfl, rfl⟩)
  go_ret
  exact ⟨ret_u32 (S0_val x), rfl⟩

theorem bigS1_any (x : UInt32) (w : World) :
    Calls Tryd.prog 98 #[.int .u32 (x.toNat : Int)] w fun e w' => e = .returned (.int .u32 ((S1 x).toNat : Int)) ∧ w = w' := by
  have hx := u32_lt x
  go_enter Tryd.func98, Tryd.ntmps98
  go_wp2_with (go_at_call 104; refine (pror_any x _ _ (by omega) (by omega)).mono ?_; rintro e w' ⟨rfl, rfl⟩)
  go_ret
  exact ⟨ret_u32 (S1_val x), rfl⟩

end Go.Proofs.YtlidhdljgnijaaaDoor

/-
  CONTRACTS of the program's takeWord and spread (package sha).
-/
set_option linter.unusedVariables false
namespace Go.Proofs.YtlidhdljgnijaaaDoor
open Go.RowKit

set_option maxRecDepth 100000 in
theorem or_bytes (a b c d : Nat) (hb : b < 256) (hc : c < 256) (hd : d < 256) : a * 16777216 ||| b * 65536 ||| c * 256 ||| d = a * 16777216 + b * 65536 + c * 256 + d := by
  have e1 : a * 16777216 ||| b * 65536 = a * 16777216 + b * 65536 := by
    have := Nat.shiftLeft_add_eq_or_of_lt (show b * 65536 < 2 ^ 24 by omega) a
    rw [Nat.shiftLeft_eq, show (2 : Nat) ^ 24 = 16777216 from rfl] at this
    exact this.symm
  have e2 : (a * 16777216 + b * 65536) ||| c * 256 = a * 16777216 + b * 65536 + c * 256 := by
    have := Nat.shiftLeft_add_eq_or_of_lt (show c * 256 < 2 ^ 16 by omega) (a * 256 + b)
    rw [Nat.shiftLeft_eq, show (2 : Nat) ^ 16 = 65536 from rfl, show (a * 256 + b) * 65536 = a * 16777216 + b * 65536 by rw [Nat.add_mul, Nat.mul_assoc]] at this
    exact this.symm
  have e3 : (a * 16777216 + b * 65536 + c * 256) ||| d = a * 16777216 + b * 65536 + c * 256 + d := by
    have := Nat.shiftLeft_add_eq_or_of_lt (show d < 2 ^ 8 by omega) (a * 65536 + b * 256 + c)
    rw [Nat.shiftLeft_eq, show (2 : Nat) ^ 8 = 256 from rfl, show (a * 65536 + b * 256 + c) * 256 = a * 16777216 + b * 65536 + c * 256 by rw [Nat.add_mul, Nat.add_mul, Nat.mul_assoc, Nat.mul_assoc]] at this
    exact this.symm
  rw [e1, e2, e3]

theorem take_val (x0 x1 x2 x3 : UInt8) : bits .or .u32 (bits .or .u32 (bits .or .u32 ((x0.toNat : Int) * 16777216) ((x1.toNat : Int) * 65536)) ((x2.toNat : Int) * 256)) (x3.toNat : Int) = (x0.toNat : Int) * 16777216 + x1.toNat * 65536 + x2.toNat * 256 + x3.toNat := by
  have n0 := x0.toNat_lt
  have n1 := x1.toNat_lt
  have n2 := x2.toNat_lt
  have n3 := x3.toNat_lt
  have h1 : x0.toNat * 16777216 ||| x1.toNat * 65536 < 4294967296 := Nat.or_lt_two_pow (n := 32) (by omega) (by omega)
  have h2 : x0.toNat * 16777216 ||| x1.toNat * 65536 ||| x2.toNat * 256 < 4294967296 := Nat.or_lt_two_pow (n := 32) h1 (by omega)
  rw [show (x0.toNat : Int) * 16777216 = ((x0.toNat * 16777216 : Nat) : Int) by omega, show (x1.toNat : Int) * 65536 = ((x1.toNat * 65536 : Nat) : Int) by omega, show (x2.toNat : Int) * 256 = ((x2.toNat * 256 : Nat) : Int) by omega,
    u32_or_nat _ _ (by omega) (by omega), u32_or_nat _ _ h1 (by omega), u32_or_nat _ _ h2 (by omega), or_bytes _ _ _ _ n1 n2 n3]
  omega

theorem takeWord_at (b o n c : Nat) (x0 x1 x2 x3 : UInt8) (w : World) (hn : 4 ≤ n) (c0 : w.cell? ⟨b, o, none⟩ = some (.int .u8 (x0.toNat : Int))) (c1 : w.cell? ⟨b, o + 1, none⟩ = some (.int .u8 (x1.toNat : Int)))
    (c2 : w.cell? ⟨b, o + 2, none⟩ = some (.int .u8 (x2.toNat : Int))) (c3 : w.cell? ⟨b, o + 3, none⟩ = some (.int .u8 (x3.toNat : Int))) :
    Calls Tryd.prog 101 #[.slice (some ⟨b, o, none⟩) n c] w fun e w' => e = .returned (.int .u32 ((x0.toNat : Int) * 16777216 + x1.toNat * 65536 + x2.toNat * 256 + x3.toNat)) ∧ ∃ q, w' = w.drewN q := by
  have n0 := x0.toNat_lt
  have n1 := x1.toNat_lt
  have n2 := x2.toNat_lt
  have n3 := x3.toNat_lt
  have i0 : (0 : Int) < (n : Int) := by omega
  have i1 : (1 : Int) < (n : Int) := by omega
  have i2 : (2 : Int) < (n : Int) := by omega
  have i3 : (3 : Int) < (n : Int) := by omega
  go_enter Tryd.func101, Tryd.ntmps101
  go_wp2_with fail
  go_quiet (fail)
  go_wp2_with fail
  go_ret
  refine ⟨?_, nq, rfl⟩
  exact ret_u32 (take_val x0 x1 x2 x3)

theorem still_flip {v : Value} {w : World} (e : Ending) (w' : World) (h : e = .returned v ∧ w = w') : e = .returned v ∧ w' = w := ⟨h.1, h.2.symm⟩

theorem info64b : (Tryd.prog.info? 125).map (·.size) = some 64 := by kernel_rfl

set_option maxRecDepth 1000000 in
set_option maxHeartbeats 1000000 in
theorem spread_any (l : List UInt8) (w : World) (hl : l.length = 64) :
    Calls Tryd.prog 97 #[.agg (l.map bv).toArray] w fun e w' => e = .returned (.agg ((wordsU l).map wv).toArray) ∧ Below w.heap.size w w' := by
  have Hll := Lib.hid hl
  clear hl
  go_enter Tryd.func97, Tryd.ntmps97
  go_wp2_with fail
  go_loopw [8] (fun i wr => ∃ j : Nat, j ≤ 16 ∧ i = .int .i64 (j : Int) ∧ ArrW wr (w.heap.size + 1 + 1) 130 (firstWords l j) ∧ ArrW wr (w.heap.size + 1) 130 zero64 ∧ ArrB wr w.heap.size 125 l ∧ Below w.heap.size w wr) (fun i _ => 16 - (intOf i).toNat)
  case atStart =>
    refine ⟨0, by omega, rfl, ?_, ?_, ?_, (((Below.refl _ _).alloc (Nat.le_refl _) _).alloc (al0 _ _) _).alloc (Nat.le_trans (al0 _ _) (al0 _ _)) _⟩
    · rw [firstWords_zero]
      exact ArrW.mk_ _ _ _ _ (by simp) rfl
    · refine ArrW.alloc (ArrW.mk_ _ _ _ zero64 (by simp) ?_) _
      rfl
    · exact ((ArrB.mk_ w _ _ l rfl rfl).alloc _).alloc _
  case round =>
    obtain ⟨j, hj, rfl, ha1, ha0, hab, hbel⟩ := hrel
    by_cases hlt : j < 16
    · obtain ⟨x0, hx0⟩ : ∃ x, l[4 * j]? = some x := ⟨_, List.getElem?_eq_getElem (by have := Hll.out; omega)⟩
      obtain ⟨x1, hx1⟩ : ∃ x, l[4 * j + 1]? = some x := ⟨_, List.getElem?_eq_getElem (by have := Hll.out; omega)⟩
      obtain ⟨x2, hx2⟩ : ∃ x, l[4 * j + 2]? = some x := ⟨_, List.getElem?_eq_getElem (by have := Hll.out; omega)⟩
      obtain ⟨x3, hx3⟩ : ∃ x, l[4 * j + 3]? = some x := ⟨_, List.getElem?_eq_getElem (by have := Hll.out; omega)⟩
      have c0 := hab.cell hx0
      have c1 := hab.cell hx1
      have c2 := hab.cell hx2
      have c3 := hab.cell hx3
      obtain ⟨y, hy⟩ : ∃ y, (firstWords l j)[j]? = some y := ⟨_, List.getElem?_eq_getElem (by simp [firstWords]; omega)⟩
      have cw := ha1.cell hy
      have fw := ha1.frozen j
      have b0 : 0 ≤ (j : Int) := by omega
      have b1 : (j : Int) < 64 := by omega
      have b2 : 0 ≤ (j : Int) * 4 := by omega
      have b3 : (j : Int) * 4 ≤ 64 := by omega
      have b4 : ((j : Int) * 4).toNat = 4 * j := by omega
      have b5 : ¬ 64 = 4 * j := by omega
      have hword := Lib.hid (wordAt_of hx0 hx1 hx2 hx3)
      clear hx0 hx1 hx2 hx3 hy
      go_wp2_with (go_at_call 101; refine (takeWord_at _ _ _ _ x0 x1 x2 x3 _ (by omega) c0 c1 c2 c3).mono ?_; rintro e w' ⟨rfl, q, rfl⟩)
      go_roundw
      case rel =>
        refine ⟨j + 1, by omega, by go_num, ?_, ?_, ?_, ?_⟩
        · rw [firstWords_succ, hword.out]
          exact (ha1.drewN q).set_ j _
        · exact (ha0.drewN q).far (by simp) _
        · exact (hab.drewN q).far (by simp; omega) _
        · exact (hbel.trans ⟨rfl, rfl, rfl, Nat.le_refl _, fun _ _ => rfl⟩ : Below w.heap.size w (wr.drewN q)).setCell (by simp; omega) _
      case measure => simp [intOf]; omega
    · obtain rfl : j = 16 := by omega
      rw [show ((16 : Nat) : Int) = 16 from rfl]
      go_wp2_with fail
      go_loopw [6] (fun i wr => ∃ t : Nat, 16 ≤ t ∧ t ≤ 64 ∧ i = .int .i64 (t : Int) ∧ ArrW wr (w.heap.size + 1 + 1) 130 (schedTo l (t - 16)) ∧ ArrW wr (w.heap.size + 1) 130 zero64 ∧ Below w.heap.size w wr) (fun i _ => (64 - intOf i).toNat)
      case atStart => exact ⟨16, by omega, by omega, rfl, ha1, ha0, hbel⟩
      case round =>
        obtain ⟨t, ht0, ht, rfl, hb1, hb0, hbel2⟩ := hrel
        by_cases hlt2 : t < 64
        · have hlen := schedTo_len l (t - 16)
          have Hst := Lib.hid (show schedTo l (t + 1 - 16) = schedStep (schedTo l (t - 16)) t by rw [show t + 1 - 16 = (t - 16) + 1 from by omega, schedTo, show 16 + (t - 16) = t from by omega])
          generalize schedTo l (t - 16) = ws at *
          obtain ⟨y16, h16⟩ : ∃ y, ws[t - 16]? = some y := ⟨_, List.getElem?_eq_getElem (by omega)⟩
          obtain ⟨y15, h15⟩ : ∃ y, ws[t - 15]? = some y := ⟨_, List.getElem?_eq_getElem (by omega)⟩
          obtain ⟨y7, h7⟩ : ∃ y, ws[t - 7]? = some y := ⟨_, List.getElem?_eq_getElem (by omega)⟩
          obtain ⟨y2, h2⟩ : ∃ y, ws[t - 2]? = some y := ⟨_, List.getElem?_eq_getElem (by omega)⟩
          obtain ⟨y, hy⟩ : ∃ y, ws[t]? = some y := ⟨_, List.getElem?_eq_getElem (by omega)⟩
          have c16 := hb1.cell h16
          have c15 := hb1.cell h15
          have c7 := hb1.cell h7
          have c2 := hb1.cell h2
          have cy := hb1.cell hy
          have fy := hb1.frozen t
          have l16 := u32_lt y16
          have l15 := u32_lt y15
          have l7 := u32_lt y7
          have l2 := u32_lt y2
          have Hsp := Lib.hid (show schedStep ws t = ws.set t (y16 + sig0 y15 + y7 + sig1 y2) by
            unfold schedStep; rw [List.getD_eq_getElem?_getD, List.getD_eq_getElem?_getD, List.getD_eq_getElem?_getD, List.getD_eq_getElem?_getD, h16, h15, h7, h2]; rfl)
          clear h16 h15 h7 h2 hy hlen
          have ls0 := u32_lt (sig0 y15)
          have ls1 := u32_lt (sig1 y2)
          have t0 : 0 ≤ (t : Int) - 16 := by omega
          have t1 : (t : Int) < 64 := by omega
          have t10 : 16 ≤ (t : Int) := by omega
          have t11 : 15 ≤ (t : Int) := by omega
          have t12 : 7 ≤ (t : Int) := by omega
          have t13 : 2 ≤ (t : Int) := by omega
          have t2 : 0 ≤ (t : Int) - 15 := by omega
          have t3 : 0 ≤ (t : Int) - 7 := by omega
          have t4 : 0 ≤ (t : Int) - 2 := by omega
          have t5 : (t : Int) - 16 < 64 := by omega
          have t6 : (t : Int) - 15 < 64 := by omega
          have t7 : (t : Int) - 7 < 64 := by omega
          have t8 : (t : Int) - 2 < 64 := by omega
          have t9 : 0 ≤ (t : Int) := by omega
          have z1 : ((t : Int) - 16).toNat = t - 16 := by omega
          have z2 : ((t : Int) - 15).toNat = t - 15 := by omega
          have z3 : ((t : Int) - 7).toNat = t - 7 := by omega
          have z4 : ((t : Int) - 2).toNat = t - 2 := by omega
          have v1 : IntKind.i64.wrap ((t : Int) - 16) = (t : Int) - 16 := IntWalk.i64_in _ (by omega)
          have v2 : IntKind.i64.wrap ((t : Int) - 15) = (t : Int) - 15 := IntWalk.i64_in _ (by omega)
          have v3 : IntKind.i64.wrap ((t : Int) - 7) = (t : Int) - 7 := IntWalk.i64_in _ (by omega)
          have v4 : IntKind.i64.wrap ((t : Int) - 2) = (t : Int) - 2 := IntWalk.i64_in _ (by omega)
          go_wp2_with fail
          refine wp_region_still_tail 23 (by kernel_rfl) (by kernel_rfl) ?_
          simp only [List.take_succ_cons, List.take_zero, List.drop_succ_cons, List.drop_zero]
          repeat (first | (refine wpStill_step (fun K hK => ?_); go_simp; first | (refine ⟨_, (smallS0_any _ _).mono still_flip, hK _ ?_⟩) | (refine ⟨_, (smallS1_any _ _).mono still_flip, hK _ ?_⟩); clear hK K) | still_step)
          refine wpStill_nil ?_
          change wpList _ _ _ _ _ wr.drew
          go_wp2_with fail
          go_roundw
          case rel =>
            refine ⟨t + 1, by omega, by omega, by go_num, ?_, ?_, ?_⟩
            · rw [Hst.out, Hsp.out, w_add4]
              exact (hb1.set_ t _).drew
            · exact (hb0.far (by simp) _).drew
            · exact (hbel2.setCell (by simp; omega) _).drew
          case measure => simp [intOf]; omega
        · obtain rfl : t = 64 := by omega
          have hsz1 : (Tryd.prog.info? 130).map (·.size) = some (((schedTo l 48).map wv).toArray).size := by rw [info64]; simp [schedTo_len]
          have hsz0 : (zero64.map wv).toArray.size = ((schedTo l 48).map wv).toArray.size := by simp [schedTo_len, zero64]
          have Hsz1 := Lib.hid hsz1
          have Hsz0 := Lib.hid hsz0
          clear hsz1 hsz0
          go_wp2_with (first
            | ((with_reducible show wpList _ _ _ (⟨some 46, _, _, _, _, _⟩ :: _) _ _); refine wpList_load_row rfl 130 (.tmp 3) rfl (w.heap.size + 1 + 1) rfl 130 ((schedTo l 48).map wv).toArray (0, 0) _ hb1 Tryd.underlying130 rfl Hsz1.out ?_)
            | ((with_reducible show wpList _ _ _ (⟨none, Op.store 130 _ _, _, _, _, _⟩ :: _) _ _); refine wpList_store_row rfl 130 (.tmp 2) (.tmp 46) rfl (w.heap.size + 1) ((schedTo l 48).map wv).toArray rfl rfl 130 _ hb0 Hsz1.out Hsz0.out (one_wv _) ?_))
          exact bodyPost_ret (results_cell_row rfl _ _ (w.heap.size + 1) 130 _ (0, 0) _ rfl (hb0.row (schedTo l 48)) Tryd.underlying130 rfl Hsz1.out) rfl ⟨rfl, below_setRow hbel2 (by omega) _⟩

end Go.Proofs.YtlidhdljgnijaaaDoor

/-
  CONTRACT of the program's mixed (package sha): a block goes into the words.
-/
set_option linter.unusedVariables false
namespace Go.Proofs.YtlidhdljgnijaaaDoor
open Go.RowKit

/-- the program's table lies in the world -/
def CTab (w : World) : Prop := ∀ (i : Nat) (x : UInt32), kU[i]? = some x → w.cell? ⟨1, i, none⟩ = some (.int .u32 (x.toNat : Int))
theorem CTab.lt {w : World} (h : CTab w) : 1 < w.heap.size := World.block_lt_of_cell? w _ (h 0 _ rfl)
theorem CTab.below {w w' : World} (h : CTab w) (hb : Below w.heap.size w w') : CTab w' := fun i x hx => (hb.cell (p := ⟨1, i, none⟩) h.lt).trans (h i x hx)

theorem pt1_val (e f g h k w : UInt32) :
    (((h.toNat : Int) + ((S1 e).toNat : Int) + bits .xor .u32 (bits .and .u32 (e.toNat : Int) (f.toNat : Int)) (bits .and .u32 (bits .xor .u32 (if IntKind.u32.signed = true then -1 else IntKind.u32.max) (e.toNat : Int)) (g.toNat : Int)) + (k.toNat : Int)) % 4294967296 + (w.toNat : Int)) % 4294967296 = ((T1 e f g h k w).toNat : Int) := by
  rw [w_not, w_and, w_and, w_xor, w_add4, w_add]
  rfl
theorem pt2_val (a b c : UInt32) :
    (((S0 a).toNat : Int) + bits .xor .u32 (bits .xor .u32 (bits .and .u32 (a.toNat : Int) (b.toNat : Int)) (bits .and .u32 (a.toNat : Int) (c.toNat : Int))) (bits .and .u32 (b.toNat : Int) (c.toNat : Int))) % 4294967296 = ((T2 a b c).toNat : Int) := by
  rw [w_and, w_and, w_and, w_xor, w_xor, w_add]
  rfl

theorem quietC {P : Program} {f : FuncId} {args : Array Value} {w : World} {a n : Nat} {v : Value} (h : Calls P f args (w.drewN (a + n)) fun e w' => e = .returned v ∧ w.drewN (a + n) = w') :
    Calls P f args (w.drewN (a + n)) fun e w'' => e = .returned v ∧ ∃ m, w'' = w.drewN (a + m) :=
  h.mono fun _ _ ⟨he, hm⟩ => ⟨he, n, hm.symm⟩

set_option maxRecDepth 1000000 in
set_option maxHeartbeats 1000000 in
theorem mixed_any (h : List UInt32) (l : List UInt8) (w : World) (hh : h.length = 8) (hl : l.length = 64) (hT : CTab w) :
    Calls Tryd.prog 86 #[.agg (h.map wv).toArray, .agg (l.map bv).toArray] w fun e w' => e = .returned (.agg ((blockW h (wordsU l)).map wv).toArray) ∧ Below w.heap.size w w' := by
  have hws : (wordsU l).length = 64 := schedTo_len l 48
  have hi64 : (Tryd.prog.info? 130).map (·.size) = some (((wordsU l).map wv).toArray).size := by rw [info64]; simp [hws]
  have hib : (Tryd.prog.info? 125).map (·.size) = some ((l.map bv).toArray).size := by rw [info64b]; simp [hl]
  have hs64 : 64 = (((wordsU l).map wv).toArray).size := by simp [hws]
  have Hi64 := Lib.hid hi64
  have Hib := Lib.hid hib
  have Hs64 := Lib.hid hs64
  have Hh := Lib.hid hh
  have Hl := Lib.hid hl
  have Hws := Lib.hid hws
  clear hi64 hib hs64 hh hl hws
  go_enter Tryd.func86, Tryd.ntmps86
  go_wp2_with (
    ((with_reducible show wpList _ _ _ (⟨some 17, _, _, _, _, _⟩ :: _) _ _); refine wpList_load_row rfl 125 (.tmp 3) rfl (w.heap.size + 1) rfl 125 (l.map bv).toArray (0, 0) _ (((ArrB.mk_ _ _ _ l (by simp) rfl)).alloc _) Tryd.underlying125 rfl Hib.out ?_))
  refine (spread_any l _ Hl.out).mono ?_
  rintro e w2 ⟨rfl, hb2⟩
  have ha2 : ArrW w2 w.heap.size 94 h := (((ArrW.mk_ w _ _ h rfl rfl).alloc _).alloc _).below hb2 (by simp; omega)
  have ha4 : ArrW w2 (w.heap.size + 1 + 1) 94 zero8 := (ArrW.mk_ _ _ _ zero8 (by simp) rfl).below hb2 (by simp)
  have hs2 : w.heap.size + 3 ≤ w2.heap.size := by have := hb2.size; simpa using this
  have hbw2 : Below w.heap.size w w2 := ((((Below.refl _ _).alloc (Nat.le_refl _) _).alloc (al0 _ _) _).alloc (Nat.le_trans (al0 _ _) (al0 _ _)) _).trans (hb2.mono (by simp; omega))
  generalize hgw : wordsU l = ws at *
  have Hgw := Lib.hid hgw
  clear hgw
  go_wp2_with (first
    | ((with_reducible show wpList _ _ _ (⟨none, Op.store 130 _ _, _, _, _, _⟩ :: _) _ _); refine wpList_store_row rfl 130 (.tmp 5) (.tmp 18) rfl w2.heap.size (ws.map wv).toArray rfl rfl 130 _ (heap_alloc_new _ _) Hi64.out (by rw [← Hs64.out]; rfl) (one_wv _) ?_; rw [World.setRow_alloc_new]))
  have hA5 : ArrW (w2.alloc (.cells (ws.map wv).toArray 130)) w2.heap.size 130 ws := ArrW.mk_ w2 _ _ ws rfl rfl
  have hA2 := ha2.alloc (.cells (ws.map wv).toArray 130)
  have hA4 := ha4.alloc (.cells (ws.map wv).toArray 130)
  have hBW : Below w.heap.size w (w2.alloc (.cells (ws.map wv).toArray 130)) := hbw2.alloc (by omega) _
  obtain ⟨h0, h1, h2, h3, h4, h5, h6, h7, hv⟩ := eight Hh.out
  have q0 := hA2.cell (i := 0) (x := h0) (by rw [hv]; rfl)
  have q1 := hA2.cell (i := 1) (x := h1) (by rw [hv]; rfl)
  have q2 := hA2.cell (i := 2) (x := h2) (by rw [hv]; rfl)
  have q3 := hA2.cell (i := 3) (x := h3) (by rw [hv]; rfl)
  have q4 := hA2.cell (i := 4) (x := h4) (by rw [hv]; rfl)
  have q5 := hA2.cell (i := 5) (x := h5) (by rw [hv]; rfl)
  have q6 := hA2.cell (i := 6) (x := h6) (by rw [hv]; rfl)
  have q7 := hA2.cell (i := 7) (x := h7) (by rw [hv]; rfl)
  have Hv := Lib.hid hv
  clear hv
  generalize hgx : w2.alloc (.cells (ws.map wv).toArray 130) = w3 at *
  have Hgx := Lib.hid hgx
  clear hgx
  go_quiet (fail)
  go_wp2_with fail
  go_loopw [6, 7, 8, 9, 10, 11, 12, 13, 35] (fun s0 s1 s2 s3 s4 s5 s6 s7 i wr => ∃ (t : Nat) (a b c d e f g k : UInt32), t ≤ 64 ∧ i = .int .i64 (t : Int) ∧ s0 = .int .u32 (a.toNat : Int) ∧ s1 = .int .u32 (b.toNat : Int) ∧ s2 = .int .u32 (c.toNat : Int) ∧ s3 = .int .u32 (d.toNat : Int) ∧ s4 = .int .u32 (e.toNat : Int) ∧ s5 = .int .u32 (f.toNat : Int) ∧ s6 = .int .u32 (g.toNat : Int) ∧ s7 = .int .u32 (k.toNat : Int) ∧ Hid (roundsTo h ws t = [a, b, c, d, e, f, g, k]) ∧ ∃ n, wr = w3.drewN n) (fun _ _ _ _ _ _ _ _ i _ => (64 - intOf i).toNat)
  case atStart => exact ⟨0, h0, h1, h2, h3, h4, h5, h6, h7, by omega, rfl, rfl, rfl, rfl, rfl, rfl, rfl, rfl, rfl, Hv, _, rfl⟩
  case round =>
    obtain ⟨t, a, b, c, d, e, f, g, k, ht, rfl, rfl, rfl, rfl, rfl, rfl, rfl, rfl, rfl, Hr, n, rfl⟩ := hrel
    by_cases hlt : t < 64
    · obtain ⟨kt, hkt⟩ : ∃ y, kU[t]? = some y := ⟨_, List.getElem?_eq_getElem (by rw [kU_len]; omega)⟩
      obtain ⟨wt, hwt⟩ : ∃ y, ws[t]? = some y := ⟨_, List.getElem?_eq_getElem (by have := Hws.out; omega)⟩
      have Hst := Lib.hid (show roundsTo h ws (t + 1) = [T1 e f g k kt wt + T2 a b c, a, b, c, d + T1 e f g k kt wt, e, f, g] by
        rw [roundsTo, Hr.out, List.getD_eq_getElem?_getD, List.getD_eq_getElem?_getD, hkt, hwt]; rfl)
      have mk := (hT.below hBW) t kt hkt
      have mw := hA5.cell hwt
      have t0 : 0 ≤ (t : Int) := by omega
      have t1 : (t : Int) < 64 := by omega
      clear hkt hwt
      go_wp2_with fail
      go_quiet ((go_at_call 98; exact quietC (bigS1_any _ _)))
      rw [pt1_val]
      generalize T1 e f g k kt wt = x1 at *
      go_wp2_with (go_at_call 99; refine (bigS0_any _ _).mono ?_; rintro e w' ⟨rfl, rfl⟩)
      rw [pt2_val]
      generalize T2 a b c = x2 at *
      exact ⟨⟨t + 1, x1 + x2, a, b, c, d + x1, e, f, g, by omega, by go_num, by rw [w_add], rfl, rfl, rfl, by rw [w_add], rfl, rfl, rfl, Hst, _, rfl⟩, by simp [intOf]; omega⟩
    · obtain rfl : t = 64 := by omega
      rw [show ((64 : Nat) : Int) = 64 from rfl]
      have hne : (w.heap.size + 1 + 1) < w3.heap.size := hA4.lt
      have Hblk := Lib.hid (show blockW h ws = [h0 + a, h1 + b, h2 + c, h3 + d, h4 + e, h5 + f, h6 + g, h7 + k] by
        rw [blockW, Hr.out, Hv.out]; rfl)
      go_wp2_with (
        ((with_reducible show wpList _ _ _ (⟨none, _, _, _, _, _⟩ :: _) _ _)
         rw [w_add, w_add, w_add, w_add, w_add, w_add, w_add, w_add]
         refine wpList_store_row rfl 94 (.tmp 4) (.tmp 118) rfl (w.heap.size + 1 + 1) ([h0 + a, h1 + b, h2 + c, h3 + d, h4 + e, h5 + f, h6 + g, h7 + k].map wv).toArray rfl rfl 94 _ (hA4.drewN n) info8 rfl (one_wv _) ?_))
      exact bodyPost_ret (results_cell_row rfl _ _ (w.heap.size + 1 + 1) 94 _ (0, 0) _ rfl ((hA4.drewN n).row _) Tryd.underlying94 rfl info8) rfl ⟨by rw [Hgw.out, Hblk.out], below_setRow (hBW.trans ⟨rfl, rfl, rfl, Nat.le_refl _, fun _ _ => rfl⟩ : Below w.heap.size w (w3.drewN n)) (by omega) _⟩

end Go.Proofs.YtlidhdljgnijaaaDoor

