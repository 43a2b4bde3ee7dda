/-
  CONTRACT of the program's Of (package fe).
-/
import Derived.Test.YtimgnpcojamafaaFeH
set_option linter.unusedVariables false
namespace Go.Proofs.Ytimgnpcojamafaa
open Go.RowKit

theorem parts_low (v : Nat) : partsU (v % 57896044618658097711785492504343953926634992332820282019728792003956564819968) = partsU v := by
  simp only [partsU, Fe5.mk.injEq]
  refine ⟨by omega, by omega, by omega, by omega, by omega⟩
/-- what bytes stand for, without their highest bit -/
def ofU (l : List UInt8) : Fe5 := partsU (keyV l)
theorem ofU_may (l : List UInt8) : MayF (ofU l) := partsU_may _
theorem ofU_val (l : List UInt8) : valF (ofU l) = keyV l % 57896044618658097711785492504343953926634992332820282019728792003956564819968 := by
  rw [ofU, ← parts_low, partsU_val (Nat.mod_lt _ (by omega))]

theorem word_more (l : List UInt8) {a j : Nat} (h : a + j < l.length) : keyV ((l.drop a).take (j + 1)) = keyV ((l.drop a).take j) + (l[a + j]).toNat * 256 ^ j := by
  have hj : j < (l.drop a).length := by rw [List.length_drop]; omega
  rw [← List.take_append_getElem hj, keyV_append, List.length_take, Nat.min_eq_left (by omega), List.getElem_drop]
  simp [keyV, Nat.mul_comm]
theorem word_or {W x j : Nat} (hW : W < 256 ^ j) : W ||| x * 256 ^ j = W + x * 256 ^ j := by
  have e : (256 : Nat) ^ j = 2 ^ (8 * j) := by rw [Nat.pow_mul]
  rw [e] at hW ⊢
  have := Nat.two_pow_add_eq_or_of_lt hW x
  rw [Nat.or_comm, Nat.mul_comm x, ← this, Nat.add_comm]
theorem pow8F (j : Nat) : ((2 : Int) ^ (8 * j)) = ((256 ^ j : Nat) : Int) := by
  rw [Int.pow_mul, Int.natCast_pow]; rfl
theorem word_lt (l : List UInt8) (a j : Nat) : keyV ((l.drop a).take j) < 256 ^ j :=
  Nat.lt_of_lt_of_le (keyV_lt _) (Nat.pow_le_pow_right (by omega) (by rw [List.length_take]; exact Nat.min_le_left _ _))
theorem fits8 {j x : Nat} (hj : j < 8) (hx : x < 256) : x * 256 ^ j < 18446744073709551616 := by
  have h1 : 256 ^ j ≤ 256 ^ 7 := Nat.pow_le_pow_right (by omega) (by omega)
  have h2 := Nat.mul_le_mul (show x ≤ 255 by omega) h1
  omega

theorem word_part0 (l : List UInt8) : keyV ((l.drop 0).take 8) / 1 % 2251799813685248 = prt (partsU (keyV l)) 0 := by
  rw [keyV_take, keyV_drop]
  simp only [prt, partsU, List.getD_cons_zero]
  rw [show (256 : Nat) ^ 0 = 1 from rfl, show (256 : Nat) ^ 8 = 18446744073709551616 from rfl]
  omega

theorem word_part1 (l : List UInt8) : keyV ((l.drop 6).take 8) / 8 % 2251799813685248 = prt (partsU (keyV l)) 1 := by
  rw [keyV_take, keyV_drop]
  simp only [prt, partsU, List.getD_cons_zero, List.getD_cons_succ]
  rw [show (256 : Nat) ^ 6 = 281474976710656 from rfl, show (256 : Nat) ^ 8 = 18446744073709551616 from rfl]
  omega

theorem word_part2 (l : List UInt8) : keyV ((l.drop 12).take 8) / 64 % 2251799813685248 = prt (partsU (keyV l)) 2 := by
  rw [keyV_take, keyV_drop]
  simp only [prt, partsU, List.getD_cons_zero, List.getD_cons_succ]
  rw [show (256 : Nat) ^ 12 = 79228162514264337593543950336 from rfl, show (256 : Nat) ^ 8 = 18446744073709551616 from rfl]
  omega

theorem word_part3 (l : List UInt8) : keyV ((l.drop 19).take 8) / 2 % 2251799813685248 = prt (partsU (keyV l)) 3 := by
  rw [keyV_take, keyV_drop]
  simp only [prt, partsU, List.getD_cons_zero, List.getD_cons_succ]
  rw [show (256 : Nat) ^ 19 = 5708990770823839524233143877797980545530986496 from rfl, show (256 : Nat) ^ 8 = 18446744073709551616 from rfl]
  omega

theorem word_part4 (l : List UInt8) : keyV ((l.drop 25).take 7) / 16 % 2251799813685248 = prt (partsU (keyV l)) 4 := by
  rw [keyV_take, keyV_drop]
  simp only [prt, partsU, List.getD_cons_zero, List.getD_cons_succ]
  rw [show (256 : Nat) ^ 25 = 1606938044258990275541962092341162602522202993782792835301376 from rfl, show (256 : Nat) ^ 7 = 72057594037927936 from rfl]
  omega

set_option maxRecDepth 100000 in
set_option maxHeartbeats 4000000 in
theorem Of_any (l : List UInt8) (w : World) (hl : l.length = 32) :
    Calls Try.prog 16 #[.agg (keyC l)] w fun e w' => e = .returned (.agg (feC (ofU l))) ∧ Below w.heap.size w w' := by
  have hM0 := (((Ms.nil w).box 23 (keyC l)).box 35 (qC (uptoN (prt (ofU l)) (fun _ => 0) 5 0))).box 35 (qC (uptoN (prt (ofU l)) (fun _ => 0) 5 0))
  simp only [World.size_alloc] at hM0
  have HZ := Lib.hid (show qC (uptoN (prt (ofU l)) (fun _ => 0) 5 0) = #[.int .u64 0, .int .u64 0, .int .u64 0, .int .u64 0, .int .u64 0] from rfl)
  have Hl := Lib.hid hl
  rw [HZ.out] at hM0
  clear hl
  go_enter Try.func16, Try.ntmps16
  go_wp2_with fail
  go_loopw [10] (fun i wr => ∃ n : Nat, n ≤ 5 ∧ i = .int .i64 (n : Int) ∧ Ms w wr [(w.heap.size + 1 + 1, 35, qC (uptoN (prt (ofU l)) (fun _ => 0) 5 n)), (w.heap.size + 1, 35, #[.int .u64 0, .int .u64 0, .int .u64 0, .int .u64 0, .int .u64 0]), (w.heap.size, 23, keyC l)]) (fun i _ => (5 - intOf i).toNat)
  case atStart => exact ⟨0, by omega, rfl, by rw [HZ.out]; exact hM0⟩
  case round =>
    obtain ⟨n, hn, rfl, hM⟩ := hrel
    clear hM0 HZ
    have h6 : n = 0 ∨ n = 1 ∨ n = 2 ∨ n = 3 ∨ n = 4 ∨ n = 5 := by omega
    rcases h6 with rfl | rfl | rfl | rfl | rfl | rfl
    · have hpl : ∀ wx, Calls Try.prog 33 #[.int .i64 0] wx fun e w' => e = .returned (.tuple #[.int .i64 0, .int .i64 0]) ∧ w' = wx := fun wx => place_any 0 wx (by omega)
      have hrow := hM.get 2 rfl
      have hmin : min (8 : Int) 32 = 8 := by decide
      go_wp2_with fail
      refine (hpl _).mono ?_
      rintro e w3 ⟨rfl, rfl⟩
      go_wp2_with fail
      go_loopw [24, 7] (fun p r wr => ∃ j : Nat, j ≤ 8 ∧ p = .int .i64 (j : Int) ∧ r = .int .u64 ((keyV ((l.drop 0).take j) : Nat) : Int) ∧ w3 = wr) (fun p _ _ => (8 - intOf p).toNat)
      case atStart => exact ⟨0, by omega, rfl, by simp [keyV], rfl⟩
      case round =>
        obtain ⟨j, hj, rfl, rfl, rfl⟩ := hrel
        by_cases hlt : j < 8
        · have hjl : 0 + j < l.length := by rw [Hl.out]; omega
          have hc := hrow.cell (i := j) (keyC_at (show l[j]? = some (l[0 + j]) by rw [List.getElem?_eq_getElem (by omega)]; simp))
          have hwx : IntKind.u64.wrap ((l[0 + j]).toNat : Int) = ((l[0 + j]).toNat : Int) := wrap_nat rfl (by have : (l[0 + j]).toNat < 256 := (l[0 + j]).toBitVec.isLt; omega)
          have hx : (l[0 + j]).toNat < 256 := (l[0 + j]).toBitVec.isLt
          have Hm := Lib.hid (word_more l hjl)
          have hW := word_lt l 0 j
          have h3 := fits8 (show j < 8 by omega) hx
          have h4 : (256 : Nat) ^ j ≤ 256 ^ 7 := Nat.pow_le_pow_right (by omega) (by omega)
          have hsh : IntKind.u64.wrap (((l[0 + j]).toNat : Int) * 2 ^ (8 * j)) = (((l[0 + j]).toNat * 256 ^ j : Nat) : Int) := wrap_nat (by rw [pow8F, Int.natCast_mul]) h3
          have hor : bits .or .u64 ((keyV ((l.drop 0).take j) : Nat) : Int) (((l[0 + j]).toNat * 256 ^ j : Nat) : Int) = ((keyV ((l.drop 0).take j) + (l[0 + j]).toNat * 256 ^ j : Nat) : Int) := by
            rw [bits_or_u64_nat _ _ (by omega) h3, word_or hW]
          have h8 : ((8 : Int) * (j : Int)).toNat = 8 * j := by omega
          rw [← Hm.out] at hor
          clear hW h3 h4 hx
          generalize hW1 : keyV ((l.drop 0).take (j + 1)) = W1 at *
          have HW1 := Lib.hid hW1
          clear hW1
          generalize keyV ((l.drop 0).take j) = W0 at *
          generalize (l[0 + j]).toNat * 256 ^ j = X at *
          generalize (l[0 + j]).toNat = x at *
          have k0 : 0 ≤ (j : Int) := by omega
          have k1 : (j : Int) < 8 := by omega
          go_wp2_with fail
          exact ⟨⟨j + 1, by omega, by go_num, by rw [HW1.out], trivial⟩, by simp [intOf]; omega⟩
        · obtain rfl : j = 8 := by omega
          rw [show ((8 : Nat) : Int) = 8 from rfl]
          have Hwp := Lib.hid (word_part0 l)
          have hmk : bits .and .u64 (((keyV ((l.drop 0).take 8) : Nat) : Int)) 2251799813685247 = ((prt (partsU (keyV l)) 0 : Nat) : Int) := by
            rw [show ((keyV ((l.drop 0).take 8) : Nat) : Int) = ((keyV ((l.drop 0).take 8) / 1 : Nat) : Int) by omega, mask51 (Nat.lt_of_le_of_lt (Nat.div_le_self _ _) (Nat.lt_of_lt_of_le (word_lt l 0 8) (by decide))), Hwp.out]
          rw [show partsU (keyV l) = ofU l from rfl] at hmk
          have hcf := (hM.get 0 rfl).cell (qC_at (uptoN_old (prt (ofU l)) (fun _ => 0) (show 0 < 5 by omega) (Nat.le_refl _)))
          rw [show ((0 : Nat) : Int) = 0 from rfl] at hcf
          have hff := (hM.get 0 rfl).frozen 0
          have hnew := hM.setCell (by omega) (by simp; try omega) 0 (.int .u64 ((prt (ofU l) 0 : Nat) : Int))
          rw [qC_set, ← uptoN_succ] at hnew
          clear hM Hwp
          generalize keyV ((l.drop 0).take 8) = W at *
          go_wp2_with fail
          exact ⟨⟨1, by omega, rfl, hnew⟩, by simp [intOf]⟩
    · have hpl : ∀ wx, Calls Try.prog 33 #[.int .i64 1] wx fun e w' => e = .returned (.tuple #[.int .i64 6, .int .i64 3]) ∧ w' = wx := fun wx => place_any 1 wx (by omega)
      have hrow := hM.get 2 rfl
      have hmin : min (14 : Int) 32 = 14 := by decide
      go_wp2_with fail
      refine (hpl _).mono ?_
      rintro e w3 ⟨rfl, rfl⟩
      go_wp2_with fail
      go_loopw [24, 7] (fun p r wr => ∃ j : Nat, j ≤ 8 ∧ p = .int .i64 (j : Int) ∧ r = .int .u64 ((keyV ((l.drop 6).take j) : Nat) : Int) ∧ w3 = wr) (fun p _ _ => (8 - intOf p).toNat)
      case atStart => exact ⟨0, by omega, rfl, by simp [keyV], rfl⟩
      case round =>
        obtain ⟨j, hj, rfl, rfl, rfl⟩ := hrel
        by_cases hlt : j < 8
        · have hjl : 6 + j < l.length := by rw [Hl.out]; omega
          have hc := hrow.cell (keyC_at (List.getElem?_eq_getElem hjl))
          have hwx : IntKind.u64.wrap ((l[6 + j]).toNat : Int) = ((l[6 + j]).toNat : Int) := wrap_nat rfl (by have : (l[6 + j]).toNat < 256 := (l[6 + j]).toBitVec.isLt; omega)
          have hx : (l[6 + j]).toNat < 256 := (l[6 + j]).toBitVec.isLt
          have Hm := Lib.hid (word_more l hjl)
          have hW := word_lt l 6 j
          have h3 := fits8 (show j < 8 by omega) hx
          have h4 : (256 : Nat) ^ j ≤ 256 ^ 7 := Nat.pow_le_pow_right (by omega) (by omega)
          have hsh : IntKind.u64.wrap (((l[6 + j]).toNat : Int) * 2 ^ (8 * j)) = (((l[6 + j]).toNat * 256 ^ j : Nat) : Int) := wrap_nat (by rw [pow8F, Int.natCast_mul]) h3
          have hor : bits .or .u64 ((keyV ((l.drop 6).take j) : Nat) : Int) (((l[6 + j]).toNat * 256 ^ j : Nat) : Int) = ((keyV ((l.drop 6).take j) + (l[6 + j]).toNat * 256 ^ j : Nat) : Int) := by
            rw [bits_or_u64_nat _ _ (by omega) h3, word_or hW]
          have h8 : ((8 : Int) * (j : Int)).toNat = 8 * j := by omega
          rw [← Hm.out] at hor
          clear hW h3 h4 hx
          generalize hW1 : keyV ((l.drop 6).take (j + 1)) = W1 at *
          have HW1 := Lib.hid hW1
          clear hW1
          generalize keyV ((l.drop 6).take j) = W0 at *
          generalize (l[6 + j]).toNat * 256 ^ j = X at *
          generalize (l[6 + j]).toNat = x at *
          have k0 : 0 ≤ (j : Int) := by omega
          have k1 : (j : Int) < 8 := by omega
          go_wp2_with fail
          exact ⟨⟨j + 1, by omega, by go_num, by rw [HW1.out], trivial⟩, by simp [intOf]; omega⟩
        · obtain rfl : j = 8 := by omega
          rw [show ((8 : Nat) : Int) = 8 from rfl]
          have Hwp := Lib.hid (word_part1 l)
          have hmk : bits .and .u64 (((keyV ((l.drop 6).take 8) : Nat) : Int) / 8) 2251799813685247 = ((prt (partsU (keyV l)) 1 : Nat) : Int) := by
            rw [show ((keyV ((l.drop 6).take 8) : Nat) : Int) / 8 = ((keyV ((l.drop 6).take 8) / 8 : Nat) : Int) by omega, mask51 (Nat.lt_of_le_of_lt (Nat.div_le_self _ _) (Nat.lt_of_lt_of_le (word_lt l 6 8) (by decide))), Hwp.out]
          rw [show partsU (keyV l) = ofU l from rfl] at hmk
          have hcf := (hM.get 0 rfl).cell (qC_at (uptoN_old (prt (ofU l)) (fun _ => 0) (show 1 < 5 by omega) (Nat.le_refl _)))
          rw [show ((0 : Nat) : Int) = 0 from rfl] at hcf
          have hff := (hM.get 0 rfl).frozen 1
          have hnew := hM.setCell (by omega) (by simp; try omega) 1 (.int .u64 ((prt (ofU l) 1 : Nat) : Int))
          rw [qC_set, ← uptoN_succ] at hnew
          clear hM Hwp
          generalize keyV ((l.drop 6).take 8) = W at *
          go_wp2_with fail
          exact ⟨⟨2, by omega, rfl, hnew⟩, by simp [intOf]⟩
    · have hpl : ∀ wx, Calls Try.prog 33 #[.int .i64 2] wx fun e w' => e = .returned (.tuple #[.int .i64 12, .int .i64 6]) ∧ w' = wx := fun wx => place_any 2 wx (by omega)
      have hrow := hM.get 2 rfl
      have hmin : min (20 : Int) 32 = 20 := by decide
      go_wp2_with fail
      refine (hpl _).mono ?_
      rintro e w3 ⟨rfl, rfl⟩
      go_wp2_with fail
      go_loopw [24, 7] (fun p r wr => ∃ j : Nat, j ≤ 8 ∧ p = .int .i64 (j : Int) ∧ r = .int .u64 ((keyV ((l.drop 12).take j) : Nat) : Int) ∧ w3 = wr) (fun p _ _ => (8 - intOf p).toNat)
      case atStart => exact ⟨0, by omega, rfl, by simp [keyV], rfl⟩
      case round =>
        obtain ⟨j, hj, rfl, rfl, rfl⟩ := hrel
        by_cases hlt : j < 8
        · have hjl : 12 + j < l.length := by rw [Hl.out]; omega
          have hc := hrow.cell (keyC_at (List.getElem?_eq_getElem hjl))
          have hwx : IntKind.u64.wrap ((l[12 + j]).toNat : Int) = ((l[12 + j]).toNat : Int) := wrap_nat rfl (by have : (l[12 + j]).toNat < 256 := (l[12 + j]).toBitVec.isLt; omega)
          have hx : (l[12 + j]).toNat < 256 := (l[12 + j]).toBitVec.isLt
          have Hm := Lib.hid (word_more l hjl)
          have hW := word_lt l 12 j
          have h3 := fits8 (show j < 8 by omega) hx
          have h4 : (256 : Nat) ^ j ≤ 256 ^ 7 := Nat.pow_le_pow_right (by omega) (by omega)
          have hsh : IntKind.u64.wrap (((l[12 + j]).toNat : Int) * 2 ^ (8 * j)) = (((l[12 + j]).toNat * 256 ^ j : Nat) : Int) := wrap_nat (by rw [pow8F, Int.natCast_mul]) h3
          have hor : bits .or .u64 ((keyV ((l.drop 12).take j) : Nat) : Int) (((l[12 + j]).toNat * 256 ^ j : Nat) : Int) = ((keyV ((l.drop 12).take j) + (l[12 + j]).toNat * 256 ^ j : Nat) : Int) := by
            rw [bits_or_u64_nat _ _ (by omega) h3, word_or hW]
          have h8 : ((8 : Int) * (j : Int)).toNat = 8 * j := by omega
          rw [← Hm.out] at hor
          clear hW h3 h4 hx
          generalize hW1 : keyV ((l.drop 12).take (j + 1)) = W1 at *
          have HW1 := Lib.hid hW1
          clear hW1
          generalize keyV ((l.drop 12).take j) = W0 at *
          generalize (l[12 + j]).toNat * 256 ^ j = X at *
          generalize (l[12 + j]).toNat = x at *
          have k0 : 0 ≤ (j : Int) := by omega
          have k1 : (j : Int) < 8 := by omega
          go_wp2_with fail
          exact ⟨⟨j + 1, by omega, by go_num, by rw [HW1.out], trivial⟩, by simp [intOf]; omega⟩
        · obtain rfl : j = 8 := by omega
          rw [show ((8 : Nat) : Int) = 8 from rfl]
          have Hwp := Lib.hid (word_part2 l)
          have hmk : bits .and .u64 (((keyV ((l.drop 12).take 8) : Nat) : Int) / 64) 2251799813685247 = ((prt (partsU (keyV l)) 2 : Nat) : Int) := by
            rw [show ((keyV ((l.drop 12).take 8) : Nat) : Int) / 64 = ((keyV ((l.drop 12).take 8) / 64 : Nat) : Int) by omega, mask51 (Nat.lt_of_le_of_lt (Nat.div_le_self _ _) (Nat.lt_of_lt_of_le (word_lt l 12 8) (by decide))), Hwp.out]
          rw [show partsU (keyV l) = ofU l from rfl] at hmk
          have hcf := (hM.get 0 rfl).cell (qC_at (uptoN_old (prt (ofU l)) (fun _ => 0) (show 2 < 5 by omega) (Nat.le_refl _)))
          rw [show ((0 : Nat) : Int) = 0 from rfl] at hcf
          have hff := (hM.get 0 rfl).frozen 2
          have hnew := hM.setCell (by omega) (by simp; try omega) 2 (.int .u64 ((prt (ofU l) 2 : Nat) : Int))
          rw [qC_set, ← uptoN_succ] at hnew
          clear hM Hwp
          generalize keyV ((l.drop 12).take 8) = W at *
          go_wp2_with fail
          exact ⟨⟨3, by omega, rfl, hnew⟩, by simp [intOf]⟩
    · have hpl : ∀ wx, Calls Try.prog 33 #[.int .i64 3] wx fun e w' => e = .returned (.tuple #[.int .i64 19, .int .i64 1]) ∧ w' = wx := fun wx => place_any 3 wx (by omega)
      have hrow := hM.get 2 rfl
      have hmin : min (27 : Int) 32 = 27 := by decide
      go_wp2_with fail
      refine (hpl _).mono ?_
      rintro e w3 ⟨rfl, rfl⟩
      go_wp2_with fail
      go_loopw [24, 7] (fun p r wr => ∃ j : Nat, j ≤ 8 ∧ p = .int .i64 (j : Int) ∧ r = .int .u64 ((keyV ((l.drop 19).take j) : Nat) : Int) ∧ w3 = wr) (fun p _ _ => (8 - intOf p).toNat)
      case atStart => exact ⟨0, by omega, rfl, by simp [keyV], rfl⟩
      case round =>
        obtain ⟨j, hj, rfl, rfl, rfl⟩ := hrel
        by_cases hlt : j < 8
        · have hjl : 19 + j < l.length := by rw [Hl.out]; omega
          have hc := hrow.cell (keyC_at (List.getElem?_eq_getElem hjl))
          have hwx : IntKind.u64.wrap ((l[19 + j]).toNat : Int) = ((l[19 + j]).toNat : Int) := wrap_nat rfl (by have : (l[19 + j]).toNat < 256 := (l[19 + j]).toBitVec.isLt; omega)
          have hx : (l[19 + j]).toNat < 256 := (l[19 + j]).toBitVec.isLt
          have Hm := Lib.hid (word_more l hjl)
          have hW := word_lt l 19 j
          have h3 := fits8 (show j < 8 by omega) hx
          have h4 : (256 : Nat) ^ j ≤ 256 ^ 7 := Nat.pow_le_pow_right (by omega) (by omega)
          have hsh : IntKind.u64.wrap (((l[19 + j]).toNat : Int) * 2 ^ (8 * j)) = (((l[19 + j]).toNat * 256 ^ j : Nat) : Int) := wrap_nat (by rw [pow8F, Int.natCast_mul]) h3
          have hor : bits .or .u64 ((keyV ((l.drop 19).take j) : Nat) : Int) (((l[19 + j]).toNat * 256 ^ j : Nat) : Int) = ((keyV ((l.drop 19).take j) + (l[19 + j]).toNat * 256 ^ j : Nat) : Int) := by
            rw [bits_or_u64_nat _ _ (by omega) h3, word_or hW]
          have h8 : ((8 : Int) * (j : Int)).toNat = 8 * j := by omega
          rw [← Hm.out] at hor
          clear hW h3 h4 hx
          generalize hW1 : keyV ((l.drop 19).take (j + 1)) = W1 at *
          have HW1 := Lib.hid hW1
          clear hW1
          generalize keyV ((l.drop 19).take j) = W0 at *
          generalize (l[19 + j]).toNat * 256 ^ j = X at *
          generalize (l[19 + j]).toNat = x at *
          have k0 : 0 ≤ (j : Int) := by omega
          have k1 : (j : Int) < 8 := by omega
          go_wp2_with fail
          exact ⟨⟨j + 1, by omega, by go_num, by rw [HW1.out], trivial⟩, by simp [intOf]; omega⟩
        · obtain rfl : j = 8 := by omega
          rw [show ((8 : Nat) : Int) = 8 from rfl]
          have Hwp := Lib.hid (word_part3 l)
          have hmk : bits .and .u64 (((keyV ((l.drop 19).take 8) : Nat) : Int) / 2) 2251799813685247 = ((prt (partsU (keyV l)) 3 : Nat) : Int) := by
            rw [show ((keyV ((l.drop 19).take 8) : Nat) : Int) / 2 = ((keyV ((l.drop 19).take 8) / 2 : Nat) : Int) by omega, mask51 (Nat.lt_of_le_of_lt (Nat.div_le_self _ _) (Nat.lt_of_lt_of_le (word_lt l 19 8) (by decide))), Hwp.out]
          rw [show partsU (keyV l) = ofU l from rfl] at hmk
          have hcf := (hM.get 0 rfl).cell (qC_at (uptoN_old (prt (ofU l)) (fun _ => 0) (show 3 < 5 by omega) (Nat.le_refl _)))
          rw [show ((0 : Nat) : Int) = 0 from rfl] at hcf
          have hff := (hM.get 0 rfl).frozen 3
          have hnew := hM.setCell (by omega) (by simp; try omega) 3 (.int .u64 ((prt (ofU l) 3 : Nat) : Int))
          rw [qC_set, ← uptoN_succ] at hnew
          clear hM Hwp
          generalize keyV ((l.drop 19).take 8) = W at *
          go_wp2_with fail
          exact ⟨⟨4, by omega, rfl, hnew⟩, by simp [intOf]⟩
    · have hpl : ∀ wx, Calls Try.prog 33 #[.int .i64 4] wx fun e w' => e = .returned (.tuple #[.int .i64 25, .int .i64 4]) ∧ w' = wx := fun wx => place_any 4 wx (by omega)
      have hrow := hM.get 2 rfl
      have hmin : min (33 : Int) 32 = 32 := by decide
      go_wp2_with fail
      refine (hpl _).mono ?_
      rintro e w3 ⟨rfl, rfl⟩
      go_wp2_with fail
      go_loopw [24, 7] (fun p r wr => ∃ j : Nat, j ≤ 7 ∧ p = .int .i64 (j : Int) ∧ r = .int .u64 ((keyV ((l.drop 25).take j) : Nat) : Int) ∧ w3 = wr) (fun p _ _ => (7 - intOf p).toNat)
      case atStart => exact ⟨0, by omega, rfl, by simp [keyV], rfl⟩
      case round =>
        obtain ⟨j, hj, rfl, rfl, rfl⟩ := hrel
        by_cases hlt : j < 7
        · have hjl : 25 + j < l.length := by rw [Hl.out]; omega
          have hc := hrow.cell (keyC_at (List.getElem?_eq_getElem hjl))
          have hwx : IntKind.u64.wrap ((l[25 + j]).toNat : Int) = ((l[25 + j]).toNat : Int) := wrap_nat rfl (by have : (l[25 + j]).toNat < 256 := (l[25 + j]).toBitVec.isLt; omega)
          have hx : (l[25 + j]).toNat < 256 := (l[25 + j]).toBitVec.isLt
          have Hm := Lib.hid (word_more l hjl)
          have hW := word_lt l 25 j
          have h3 := fits8 (show j < 8 by omega) hx
          have h4 : (256 : Nat) ^ j ≤ 256 ^ 7 := Nat.pow_le_pow_right (by omega) (by omega)
          have hsh : IntKind.u64.wrap (((l[25 + j]).toNat : Int) * 2 ^ (8 * j)) = (((l[25 + j]).toNat * 256 ^ j : Nat) : Int) := wrap_nat (by rw [pow8F, Int.natCast_mul]) h3
          have hor : bits .or .u64 ((keyV ((l.drop 25).take j) : Nat) : Int) (((l[25 + j]).toNat * 256 ^ j : Nat) : Int) = ((keyV ((l.drop 25).take j) + (l[25 + j]).toNat * 256 ^ j : Nat) : Int) := by
            rw [bits_or_u64_nat _ _ (by omega) h3, word_or hW]
          have h8 : ((8 : Int) * (j : Int)).toNat = 8 * j := by omega
          rw [← Hm.out] at hor
          clear hW h3 h4 hx
          generalize hW1 : keyV ((l.drop 25).take (j + 1)) = W1 at *
          have HW1 := Lib.hid hW1
          clear hW1
          generalize keyV ((l.drop 25).take j) = W0 at *
          generalize (l[25 + j]).toNat * 256 ^ j = X at *
          generalize (l[25 + j]).toNat = x at *
          have k0 : 0 ≤ (j : Int) := by omega
          have k1 : (j : Int) < 7 := by omega
          go_wp2_with fail
          exact ⟨⟨j + 1, by omega, by go_num, by rw [HW1.out], trivial⟩, by simp [intOf]; omega⟩
        · obtain rfl : j = 7 := by omega
          rw [show ((7 : Nat) : Int) = 7 from rfl]
          have Hwp := Lib.hid (word_part4 l)
          have hmk : bits .and .u64 (((keyV ((l.drop 25).take 7) : Nat) : Int) / 16) 2251799813685247 = ((prt (partsU (keyV l)) 4 : Nat) : Int) := by
            rw [show ((keyV ((l.drop 25).take 7) : Nat) : Int) / 16 = ((keyV ((l.drop 25).take 7) / 16 : Nat) : Int) by omega, mask51 (Nat.lt_of_le_of_lt (Nat.div_le_self _ _) (Nat.lt_of_lt_of_le (word_lt l 25 7) (by decide))), Hwp.out]
          rw [show partsU (keyV l) = ofU l from rfl] at hmk
          have hcf := (hM.get 0 rfl).cell (qC_at (uptoN_old (prt (ofU l)) (fun _ => 0) (show 4 < 5 by omega) (Nat.le_refl _)))
          rw [show ((0 : Nat) : Int) = 0 from rfl] at hcf
          have hff := (hM.get 0 rfl).frozen 4
          have hnew := hM.setCell (by omega) (by simp; try omega) 4 (.int .u64 ((prt (ofU l) 4 : Nat) : Int))
          rw [qC_set, ← uptoN_succ] at hnew
          clear hM Hwp
          generalize keyV ((l.drop 25).take 7) = W at *
          go_wp2_with fail
          exact ⟨⟨5, by omega, rfl, hnew⟩, by simp [intOf]⟩
    · have hs5 : qC (uptoN (prt (ofU l)) (fun _ => 0) 5 5) = feC (ofU l) := by rw [feC_q]; rfl
      rw [hs5] at hM
      have hz := Lib.hid (sizeFe (ofU l))
      have hzz := Lib.hid (show (#[.int .u64 0, .int .u64 0, .int .u64 0, .int .u64 0, .int .u64 0] : Array Value).size = (feC (ofU l)).size from rfl)
      have hzo := Lib.hid (one_fe (ofU l))
      clear hs5
      generalize hfa : feC (ofU l) = fa at *
      have Hfa := Lib.hid hfa
      clear hfa
      rw [show ((5 : Nat) : Int) = 5 from rfl]
      go_wp2_with (first
        | ((with_reducible show wpList _ _ _ (⟨some 44, _, _, _, _, _⟩ :: _) _ _); refine wpList_loadC (by kernel_rfl) 35 (.tmp 3) rfl (w.heap.size + 1 + 1) rfl 35 fa _ (hM.get 0 rfl) Try.underlying35 rfl hz.out ?_)
        | ((with_reducible show wpList _ _ _ (⟨none, Op.store 35 _ _, _, _, _, _⟩ :: _) _ _); refine wpList_store_row rfl 35 (.tmp 2) (.tmp 44) rfl (w.heap.size + 1) fa rfl rfl 35 _ (hM.get 1 rfl) hz.out hzz.out hzo.out ?_))
      exact bodyPost_ret (results_cell_one rfl _ _ (w.heap.size + 1) 35 fa _ rfl ((hM.get 1 rfl).row fa) Try.underlying35 rfl hz.out) rfl ⟨by rw [Hfa.out], below_setRow hM.old (by omega) _⟩

end Go.Proofs.Ytimgnpcojamafaa
