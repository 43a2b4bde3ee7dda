import Derived.Test.YtbiijdboolpaeaaDoorG13
set_option linter.unusedVariables false
namespace Go.Proofs.YtbiijdboolpaeaaDoor
def keyB (v : Nat) : List UInt8 := (List.range 32).map fun k => UInt8.ofNat (v / 256 ^ k)
def keyV : List UInt8 → Nat
 | [] => 0
 | x :: l => x.toNat + 256 * keyV l
theorem keyB_len (v : Nat) : (keyB v).length = 32 := by simp [keyB]
theorem keyB_at (v : Nat) {k : Nat} (hk : k < 32) : (keyB v)[k]? = some (UInt8.ofNat (v / 256 ^ k)) := by simp [keyB, hk]
theorem ofNat_mod {a b : Nat} (h : a % 256 = b % 256) : UInt8.ofNat a = UInt8.ofNat b := by
 apply UInt8.toNat_inj.1
 rw [UInt8.toNat_ofNat', UInt8.toNat_ofNat']
 exact h
theorem ofNat_lt {a : Nat} (h : a < 256) : (UInt8.ofNat a).toNat = a := by
 rw [UInt8.toNat_ofNat']
 exact Nat.mod_eq_of_lt h
theorem byte_more (W d p k : Nat) (h : W / 256 ^ p % 256 + d < 256) (hk : k ≠ p) : (W + d * 256 ^ p) / 256 ^ k % 256 = W / 256 ^ k % 256 := by
 have pp : 0 < 256 ^ p := Nat.pow_pos (by omega)
 have pk : 0 < 256 ^ k := Nat.pow_pos (by omega)
 rcases Nat.lt_or_ge k p with hlt | hge
 ·
  obtain ⟨j, rfl⟩ : ∃ j, p = k + 1 + j := ⟨p - k - 1, by omega⟩
  have e : d * 256 ^ (k + 1 + j) = 256 ^ k * (256 * (d * 256 ^ j)) := by
   rw [Nat.pow_add, Nat.pow_succ]
   simp only [Nat.mul_assoc, Nat.mul_left_comm, Nat.mul_comm]
  rw [e, Nat.add_mul_div_left _ _ pk, Nat.add_mul_mod_self_left]
 ·
  obtain ⟨j, rfl⟩ : ∃ j, k = p + 1 + j := ⟨k - p - 1, by omega⟩
  have e : 256 ^ (p + 1 + j) = 256 ^ p * (256 * 256 ^ j) := by rw [Nat.pow_add, Nat.pow_succ, Nat.mul_assoc]
  rw [e, ← Nat.div_div_eq_div_mul, ← Nat.div_div_eq_div_mul, Nat.mul_comm d, Nat.add_mul_div_left _ _ pp, ← Nat.div_div_eq_div_mul, ← Nat.div_div_eq_div_mul]
  have : (W / 256 ^ p + d) / 256 = W / 256 ^ p / 256 := by omega
  rw [this]
theorem byte_here (W d p : Nat) : (W + d * 256 ^ p) / 256 ^ p = W / 256 ^ p + d := by
 rw [Nat.mul_comm d, Nat.add_mul_div_left _ _ (Nat.pow_pos (by omega))]
theorem keyB_set (W d p : Nat) (hp : p < 32) (h : W / 256 ^ p % 256 + d < 256) (x : UInt8) (hx : x = UInt8.ofNat (W / 256 ^ p % 256 + d)) : (keyB W).set p x = keyB (W + d * 256 ^ p) := by
 apply List.ext_getElem?
 intro k
 by_cases hk : k < 32
 ·
  rw [keyB_at _ hk, List.getElem?_set, keyB_len]
  by_cases he : p = k
  ·
   subst he
   rw [if_pos rfl, if_pos hk, hx, byte_here]
   congr 1
   exact ofNat_mod (by omega)
  ·
   rw [if_neg he, keyB_at _ hk]
   congr 1
   exact ofNat_mod (byte_more W d p k h (by omega)).symm
 ·
  rw [List.getElem?_eq_none (by rw [List.length_set, keyB_len]; omega), List.getElem?_eq_none (by rw [keyB_len]; omega)]
theorem or_part {s q b : Nat} (hs : s ≤ 7) (hb : b < 2 ^ s) : b ||| (q * 2 ^ s % 256) = b + q * 2 ^ s % 256 ∧ b + q * 2 ^ s % 256 < 256 := by
 have e : q * 2 ^ s % 256 = 2 ^ s * (q % 2 ^ (8 - s)) := by
  rw [show (256 : Nat) = 2 ^ (8 - s) * 2 ^ s by rw [← Nat.pow_add, show 8 - s + s = 8 by omega], Nat.mul_mod_mul_right, Nat.mul_comm]
 rw [e]
 refine ⟨?_, ?_⟩
 ·
  have := Nat.two_pow_add_eq_or_of_lt hb (q % 2 ^ (8 - s))
  rw [Nat.or_comm, ← this, Nat.add_comm]
 ·
  have h1 : q % 2 ^ (8 - s) + 1 ≤ 2 ^ (8 - s) := Nat.mod_lt _ (Nat.pow_pos (by omega))
  have h2 : 2 ^ s * (q % 2 ^ (8 - s) + 1) ≤ 2 ^ s * 2 ^ (8 - s) := Nat.mul_le_mul_left _ h1
  rw [← Nat.pow_add, show s + (8 - s) = 8 by omega, Nat.mul_add, Nat.mul_one] at h2
  omega
def wroteU (V q s a m : Nat) : Nat := V + q * 2 ^ s % 256 ^ m * 256 ^ a
theorem wroteU_zero (V q s a : Nat) : wroteU V q s a 0 = V := by simp [wroteU, Nat.mod_one]
theorem wroteU_end {V q s a m : Nat} (h : q * 2 ^ s / 256 ^ m = 0) : wroteU V q s a m = V + q * 2 ^ s * 256 ^ a := by
 have hp : 0 < 256 ^ m := Nat.pow_pos (by omega)
 have : q * 2 ^ s < 256 ^ m := by
  rcases Nat.lt_or_ge (q * 2 ^ s) (256 ^ m) with h1 | h1
  ·
   exact h1
  ·
   have := Nat.div_pos h1 hp
   omega
 rw [wroteU, Nat.mod_eq_of_lt this]
theorem wrote_step {V q s a m : Nat} (hs : s ≤ 7) (hV : V < 2 ^ s * 256 ^ a) :
  (wroteU V q s a m / 256 ^ (a + m) % 256) ||| (q * 2 ^ s / 256 ^ m % 256) = wroteU V q s a m / 256 ^ (a + m) % 256 + q * 2 ^ s / 256 ^ m % 256 ∧
  wroteU V q s a m / 256 ^ (a + m) % 256 + q * 2 ^ s / 256 ^ m % 256 < 256 ∧
  wroteU V q s a (m + 1) = wroteU V q s a m + q * 2 ^ s / 256 ^ m % 256 * 256 ^ (a + m) := by
 have pa : 0 < 256 ^ a := Nat.pow_pos (by omega)
 have e3 : wroteU V q s a (m + 1) = wroteU V q s a m + q * 2 ^ s / 256 ^ m % 256 * 256 ^ (a + m) := by
  unfold wroteU
  rw [Nat.pow_succ, Nat.mod_mul, Nat.add_mul, Nat.add_assoc, Nat.pow_add]
  congr 2
  rw [Nat.mul_comm (256 ^ m), Nat.mul_assoc, Nat.mul_comm (256 ^ m)]
 rcases m with _ | m
 ·
  have hb : V / 256 ^ a < 2 ^ s := Nat.div_lt_of_lt_mul (by rw [Nat.mul_comm]; exact hV)
  have h8 : (2 : Nat) ^ s ≤ 256 := Nat.le_trans (Nat.pow_le_pow_right (by omega) (show s ≤ 8 by omega)) (by decide)
  have := or_part (q := q) hs hb
  rw [wroteU_zero, Nat.pow_zero, Nat.div_one, Nat.add_zero, Nat.mod_eq_of_lt (show V / 256 ^ a < 256 by omega)]
  rw [wroteU_zero, Nat.pow_zero, Nat.div_one, Nat.add_zero] at e3
  exact ⟨this.1, this.2, e3⟩
 ·
  have hz : wroteU V q s a (m + 1) / 256 ^ (a + (m + 1)) = 0 := by
   apply Nat.div_eq_of_lt
   unfold wroteU
   have hM : (256 : Nat) ^ (m + 1) = 2 ^ (8 * (m + 1) - s) * 2 ^ s := by
    rw [← Nat.pow_add, show 8 * (m + 1) - s + s = 8 * (m + 1) by omega, Nat.pow_mul]
   have h1 : q * 2 ^ s % 256 ^ (m + 1) + 2 ^ s ≤ 256 ^ (m + 1) := by
    rw [hM, Nat.mul_mod_mul_right]
    have h2 : q % 2 ^ (8 * (m + 1) - s) + 1 ≤ 2 ^ (8 * (m + 1) - s) := Nat.mod_lt _ (Nat.pow_pos (by omega))
    have h3 := Nat.mul_le_mul_right (2 ^ s) h2
    rwa [Nat.add_mul, Nat.one_mul] at h3
   have h4 := Nat.mul_le_mul_right (256 ^ a) h1
   rw [Nat.add_mul] at h4
   rw [show 256 ^ (a + (m + 1)) = 256 ^ (m + 1) * 256 ^ a by rw [Nat.add_comm, Nat.pow_add]]
   omega
  rw [hz, Nat.zero_mod, Nat.zero_or, Nat.zero_add]
  refine ⟨rfl, Nat.mod_lt _ (by omega), ?_⟩
  rw [e3]
theorem keyV_lt : ∀ l : List UInt8, keyV l < 256 ^ l.length
 | [] => by simp [keyV]
 | x :: l => by
  have h1 := keyV_lt l
  have h2 : x.toNat < 256 := x.toBitVec.isLt
  rw [keyV, List.length_cons, Nat.pow_succ]
  omega
theorem keyV_map (v : Nat) : ∀ (n s : Nat), keyV ((List.range' s n).map fun k => UInt8.ofNat (v / 256 ^ k)) = v / 256 ^ s % 256 ^ n
 | 0, s => by simp [keyV, Nat.mod_one]
 | n + 1, s => by
  rw [List.range'_succ, List.map_cons, keyV, keyV_map v n (s + 1), UInt8.toNat_ofNat', Nat.pow_succ 256 n, Nat.mul_comm (256 ^ n), Nat.mod_mul, Nat.pow_succ 256 s, ← Nat.div_div_eq_div_mul]
theorem keyV_keyB {v : Nat} (h : v < 256 ^ 32) : keyV (keyB v) = v := by
 have := keyV_map v 32 0
 rw [Nat.pow_zero, Nat.div_one, Nat.mod_eq_of_lt h] at this
 rw [keyB, List.range_eq_range']
 exact this
theorem keyV_append : ∀ (a b : List UInt8), keyV (a ++ b) = keyV a + 256 ^ a.length * keyV b
 | [], b => by simp [keyV]
 | x :: a, b => by
  rw [List.cons_append, keyV, keyV_append a b, keyV, List.length_cons, Nat.pow_succ, Nat.mul_add, Nat.add_assoc, Nat.mul_comm (256 ^ a.length) 256, Nat.mul_assoc]
theorem keyV_take (l : List UInt8) (n : Nat) : keyV (l.take n) = keyV l % 256 ^ n := by
 by_cases hn : n ≤ l.length
 ·
  have h := keyV_append (l.take n) (l.drop n)
  rw [List.take_append_drop, List.length_take, Nat.min_eq_left hn] at h
  have h2 := keyV_lt (l.take n)
  rw [List.length_take, Nat.min_eq_left hn] at h2
  rw [h, Nat.add_mul_mod_self_left, Nat.mod_eq_of_lt h2]
 ·
  rw [List.take_of_length_le (by omega), Nat.mod_eq_of_lt]
  exact Nat.lt_of_lt_of_le (keyV_lt l) (Nat.pow_le_pow_right (by omega) (by omega))
theorem keyV_drop (l : List UInt8) (n : Nat) : keyV (l.drop n) = keyV l / 256 ^ n := by
 by_cases hn : n ≤ l.length
 ·
  have h := keyV_append (l.take n) (l.drop n)
  rw [List.take_append_drop, List.length_take, Nat.min_eq_left hn] at h
  have h2 := keyV_lt (l.take n)
  rw [List.length_take, Nat.min_eq_left hn] at h2
  rw [h, Nat.add_mul_div_left _ _ (Nat.pow_pos (by omega)), Nat.div_eq_of_lt h2, Nat.zero_add]
 ·
  rw [List.drop_of_length_le (by omega), Nat.div_eq_of_lt]
  ·
   rfl
  ·
   exact Nat.lt_of_lt_of_le (keyV_lt l) (Nat.pow_le_pow_right (by omega) (by omega))
end Go.Proofs.YtbiijdboolpaeaaDoor
