/-
  THE WALK of coterielaw01.WireOrder.
-/
import Derived.Test.YtlpgljdfokfilaaWireLive
set_option linter.unusedVariables false
namespace Go.Proofs.Ytlpgljdfokfilaa
open Go.RowKit

theorem less_be : ∀ (m a b : Nat), a < 256 ^ m → b < 256 ^ m → Op.bytesLess (be m a) (be m b) = decide (a < b)
  | 0, a, b, ha, hb => by
    have h1 : a = 0 := by simpa using ha
    have h2 : b = 0 := by simpa using hb
    subst h1 h2
    rfl
  | m + 1, a, b, ha, hb => by
    have hp := pow256_pos m
    rw [Nat.pow_succ'] at ha hb
    have qa : a / 256 ^ m < 256 := Nat.div_lt_of_lt_mul (by rwa [Nat.mul_comm] at ha)
    have qb : b / 256 ^ m < 256 := Nat.div_lt_of_lt_mul (by rwa [Nat.mul_comm] at hb)
    have ih := less_be m (a % 256 ^ m) (b % 256 ^ m) (Nat.mod_lt _ hp) (Nat.mod_lt _ hp)
    rw [be_mod, be_mod] at ih
    rw [be_cons, be_cons]
    have ua : (UInt8.ofNat (a / 256 ^ m)).toNat = a / 256 ^ m := by rw [UInt8.toNat_ofNat']; exact Nat.mod_eq_of_lt qa
    have ub : (UInt8.ofNat (b / 256 ^ m)).toNat = b / 256 ^ m := by rw [UInt8.toNat_ofNat']; exact Nat.mod_eq_of_lt qb
    have da := Nat.div_add_mod a (256 ^ m)
    have db := Nat.div_add_mod b (256 ^ m)
    have la := Nat.mod_lt a hp
    have lb := Nat.mod_lt b hp
    simp only [Op.bytesLess, ih]
    rcases Nat.lt_trichotomy (a / 256 ^ m) (b / 256 ^ m) with h | h | h
    · have h1 : a < b := by
        have := Nat.mul_le_mul_left (256 ^ m) (show a / 256 ^ m + 1 ≤ b / 256 ^ m from h)
        rw [Nat.mul_add] at this
        omega
      have h2 : UInt8.ofNat (a / 256 ^ m) < UInt8.ofNat (b / 256 ^ m) := by rw [UInt8.lt_iff_toNat_lt, ua, ub]; exact h
      simp [h1, h2]
    · have h3 : (decide (a % 256 ^ m < b % 256 ^ m)) = decide (a < b) := by
        rw [h] at da
        by_cases hlt : a < b <;> simp [hlt] <;> omega
      simp [h, h3]
    · have h1 : ¬ a < b := by
        have := Nat.mul_le_mul_left (256 ^ m) (show b / 256 ^ m + 1 ≤ a / 256 ^ m from h)
        rw [Nat.mul_add] at this
        omega
      have h2 : ¬ UInt8.ofNat (a / 256 ^ m) < UInt8.ofNat (b / 256 ^ m) := by rw [UInt8.lt_iff_toNat_lt, ua, ub]; omega
      have h3 : ¬ UInt8.ofNat (a / 256 ^ m) = UInt8.ofNat (b / 256 ^ m) := fun e => by
        have := congrArg UInt8.toNat e
        rw [ua, ub] at this
        omega
      simp [h1, h2, h3]

set_option maxHeartbeats 1000000 in
theorem walk_WireOrder (a b : Nat) (d : Int) (w : World) (ha : a < 18446744073709551616) (hb : b < 18446744073709551616) (_hd1 : -9223372036854775808 ≤ d) (_hd2 : d ≤ 9223372036854775807) :
    Calls Try.prog 7 #[.int .u64 (a : Int), .int .u64 (b : Int), .int .i64 d] w fun e w' => e = .returned (.bool true) ∧ Below w.heap.size w w' := by
  by_cases hga : 1 ≤ d ∧ d ≤ 8 ∧ a < 256 ^ d.toNat
  · by_cases hgb : b < 256 ^ d.toNat
    · obtain ⟨hd1, hd2, hga⟩ := hga
      obtain ⟨la, hla⟩ : ∃ la, la = [] ++ nums d.toNat [a] := ⟨_, rfl⟩
      obtain ⟨lb, hlb⟩ : ∃ lb, lb = [] ++ nums d.toNat [b] := ⟨_, rfl⟩
      have hna : la = be d.toNat a := by rw [hla]; simp [nums]
      have hnb : lb = be d.toNat b := by rw [hlb]; simp [nums]
      have hless : Op.bytesLess (strOf la).toList (strOf lb).toList = decide (a < b) := by
        rw [strOf_list, strOf_list, hna, hnb, less_be _ _ _ hga hgb]
      have hsame : sameB la lb = ((a : Int) == (b : Int)) := by
        rw [hna, hnb]
        unfold sameB
        by_cases h : a = b
        · subst h; simp
        · have h1 : be d.toNat a ≠ be d.toNat b := fun e => h (be_inj hga hgb e)
          have h2 : ((a : Int) == (b : Int)) = false := by rw [beq_eq_false_iff_ne]; omega
          rw [h2]
          simp [h1]
      have Hla := Lib.hid hla
      have Hlb := Lib.hid hlb
      have Ga := good_one hd1 hd2 hga
      have Gb := good_one hd1 hd2 hgb
      have Hga := Lib.hid hga
      have Hgb := Lib.hid hgb
      clear hna hnb hga hgb hla hlb
      go_enter Try.func7, Try.ntmps7
      go_wp2_with (go_at_call 9; refine (live01 _).mono ?_; rintro e w1 ⟨rfl, hb1⟩)
      refine (Num_any none 0 0 [] d _ 1 1 [a] _ (by omega) (by omega) (Rd.zero _ _ _) (by exact Rd.mk_ _ _ _ rfl (by simp) rfl rfl) (one64 ha)).mono ?_
      intro e w2 hp
      obtain ⟨A2, n2, c2, rfl, hown2, hc2, hl2, hb2⟩ := hp.yes Ga
      rw [← Hla.out] at hown2
      clear hl2
      go_wp2_with fail
      refine (Num_any none 0 0 [] d _ 1 1 [b] _ (by omega) (by omega) (Rd.zero _ _ _) (by exact Rd.mk_ _ _ _ rfl (by simp) rfl rfl) (one64 hb)).mono ?_
      intro e w3 hp
      obtain ⟨A3, n3, c3, rfl, hown3, hc3, hl3, hb3⟩ := hp.yes Gb
      rw [← Hlb.out] at hown3
      clear hl3
      have hr2 := ((Rd.of_own hown2).alloc (Nat.le_refl _) _).more (al0 _ _) |>.below hb3
      have hr3 := Rd.of_own hown3
      have k2 := run_convert_rd (P := Try.prog) w3 22 5 9 Try.underlying22 Try.underlying5 Try.underlying9 (c := c2) hr2
      have k3 := run_convert_rd (P := Try.prog) w3 22 5 9 Try.underlying22 Try.underlying5 Try.underlying9 (c := c3) hr3
      go_wp2_with (go_at_call 16; refine (Same_any _ _ _ _ _ _ _ _ _ _ _ hr2 hr3).mono ?_; rintro e w4 ⟨rfl, rfl⟩)
      go_ret
      refine ⟨by simp, ?_⟩
      exact (below_trans' hb1 (below_trans' (below_trans' ((Below.refl _ _).alloc (Nat.le_refl _) _) hb2) (below_trans' ((Below.refl _ _).alloc (Nat.le_refl _) _) hb3)))
    · obtain ⟨hd1, hd2, hga⟩ := hga
      obtain ⟨m, rfl⟩ := Int.eq_ofNat_of_zero_le (show 0 ≤ d by omega)
      rw [Int.toNat_natCast] at hga hgb
      have h8 : m < 8 := by
        rcases Nat.lt_or_ge m 8 with h8 | h8
        · exact h8
        · obtain rfl : m = 8 := by omega
          rw [pow8] at hgb
          omega
      have Ga := good_one (d := m) hd1 hd2 (by simpa using hga)
      have Gb : ¬ Good m [b] := not_good_one (by simp; omega)
      have f1 := gtB a m hga
      have f2 := gtNotB b m (by omega)
      clear hga hgb
      go_enter Try.func7, Try.ntmps7
      go_wp2_with (go_at_call 9; refine (live01 _).mono ?_; rintro e w1 ⟨rfl, hb1⟩)
      refine (Num_any none 0 0 [] m _ 1 1 [a] _ (by omega) (by omega) (Rd.zero _ _ _) (by exact Rd.mk_ _ _ _ rfl (by simp) rfl rfl) (one64 ha)).mono ?_
      intro e w2 hp
      obtain ⟨A2, n2, c2, rfl, hown2, hc2, hl2, hb2⟩ := hp.yes Ga
      go_wp2_with fail
      refine (Num_any none 0 0 [] m _ 1 1 [b] _ (by omega) (by omega) (Rd.zero _ _ _) (by exact Rd.mk_ _ _ _ rfl (by simp) rfl rfl) (one64 hb)).mono ?_
      intro e w3 hp
      obtain ⟨rfl, hb3⟩ := hp.no Gb
      go_wp2_with fail
      go_ret
      refine ⟨by simp, ?_⟩
      exact (below_trans' hb1 (below_trans' (below_trans' ((Below.refl _ _).alloc (Nat.le_refl _) _) hb2) (below_trans' ((Below.refl _ _).alloc (Nat.le_refl _) _) hb3)))
  · have Ga : ¬ Good d [a] := not_good_one hga
    by_cases hd : 1 ≤ d ∧ d ≤ 8
    · obtain ⟨hd1, hd2⟩ := hd
      obtain ⟨m, rfl⟩ := Int.eq_ofNat_of_zero_le (show 0 ≤ d by omega)
      rw [Int.toNat_natCast] at hga
      have hga' : 256 ^ m ≤ a := by
        rcases Nat.lt_or_ge a (256 ^ m) with h | h
        · exact absurd ⟨hd1, hd2, h⟩ hga
        · exact h
      have h8 : m < 8 := by
        rcases Nat.lt_or_ge m 8 with h8 | h8
        · exact h8
        · obtain rfl : m = 8 := by omega
          rw [pow8] at hga'
          omega
      have f1 := gtNotB a m hga'
      clear hga hga'
      go_enter Try.func7, Try.ntmps7
      go_wp2_with (go_at_call 9; refine (live01 _).mono ?_; rintro e w1 ⟨rfl, hb1⟩)
      refine (Num_any none 0 0 [] m _ 1 1 [a] _ (by omega) (by omega) (Rd.zero _ _ _) (by exact Rd.mk_ _ _ _ rfl (by simp) rfl rfl) (one64 ha)).mono ?_
      intro e w2 hp
      obtain ⟨rfl, hb2⟩ := hp.no Ga
      go_wp2_with fail
      refine (Num_any none 0 0 [] m _ 1 1 [b] _ (by omega) (by omega) (Rd.zero _ _ _) (by exact Rd.mk_ _ _ _ rfl (by simp) rfl rfl) (one64 hb)).mono ?_
      intro e w3 hp
      have hb3 := hp.1
      by_cases Gb : Good m [b]
      · obtain ⟨A3, n3, c3, rfl, hown3, hc3, hl3, _⟩ := hp.yes Gb
        clear hp hl3
        go_wp2_with fail
        go_ret
        refine ⟨by simp, ?_⟩
        exact (below_trans' hb1 (below_trans' (below_trans' ((Below.refl _ _).alloc (Nat.le_refl _) _) hb2) (below_trans' ((Below.refl _ _).alloc (Nat.le_refl _) _) hb3)))
      · obtain ⟨rfl, _⟩ := hp.no Gb
        clear hp
        go_wp2_with fail
        go_ret
        refine ⟨by simp, ?_⟩
        exact (below_trans' hb1 (below_trans' (below_trans' ((Below.refl _ _).alloc (Nat.le_refl _) _) hb2) (below_trans' ((Below.refl _ _).alloc (Nat.le_refl _) _) hb3)))
    · have Gb : ¬ Good d [b] := not_good_one (fun h => hd ⟨h.1, h.2.1⟩)
      have hd' : d < 1 ∨ (¬ d < 1 ∧ 8 < d) := by omega
      clear hga hd
      rcases hd' with hd' | ⟨hd', hd8⟩
      all_goals
        go_enter Try.func7, Try.ntmps7
        go_wp2_with (go_at_call 9; refine (live01 _).mono ?_; rintro e w1 ⟨rfl, hb1⟩)
        refine (Num_any none 0 0 [] d _ 1 1 [a] _ (by omega) (by omega) (Rd.zero _ _ _) (by exact Rd.mk_ _ _ _ rfl (by simp) rfl rfl) (one64 ha)).mono ?_
        intro e w2 hp
        obtain ⟨rfl, hb2⟩ := hp.no Ga
        go_wp2_with fail
        refine (Num_any none 0 0 [] d _ 1 1 [b] _ (by omega) (by omega) (Rd.zero _ _ _) (by exact Rd.mk_ _ _ _ rfl (by simp) rfl rfl) (one64 hb)).mono ?_
        intro e w3 hp
        obtain ⟨rfl, hb3⟩ := hp.no Gb
        go_wp2_with fail
        go_ret
        refine ⟨by simp; try omega, ?_⟩
        exact (below_trans' hb1 (below_trans' (below_trans' ((Below.refl _ _).alloc (Nat.le_refl _) _) hb2) (below_trans' ((Below.refl _ _).alloc (Nat.le_refl _) _) hb3)))

end Go.Proofs.Ytlpgljdfokfilaa
