import Derived.Test.YtbiijdboolpaeaaGreatDoorH13
set_option linter.unusedVariables false
namespace Go.Proofs.YtbiijdboolpaeaaGreatDoor
def sumF (f : Nat → Nat) : Nat → Nat
 | 0 => 0
 | n + 1 => sumF f n + f n * 65536 ^ n
theorem sumF_congr {f g : Nat → Nat} : ∀ n, (∀ k, k < n → f k = g k) → sumF f n = sumF g n
 | 0, _ => rfl
 | n + 1, h => by rw [sumF, sumF, sumF_congr n (fun k hk => h k (by omega)), h n (by omega)]
theorem sumF_lin (f g : Nat → Nat) (c : Nat) : ∀ n, sumF (fun k => f k + c * g k) n = sumF f n + c * sumF g n
 | 0 => rfl
 | n + 1 => by
  rw [sumF, sumF, sumF, sumF_lin f g c n, Nat.add_mul, Nat.mul_add, Nat.mul_assoc]
  omega
theorem sumF_split (f : Nat → Nat) (m : Nat) : ∀ n, sumF f (m + n) = sumF f m + 65536 ^ m * sumF (fun k => f (m + k)) n
 | 0 => by simp [sumF]
 | n + 1 => by
  rw [← Nat.add_assoc, sumF, sumF_split f m n, sumF, Nat.mul_add, Nat.pow_add, Nat.add_assoc]
  congr 2
  simp only [Nat.mul_left_comm]
theorem sumF_lt {f : Nat → Nat} : ∀ n, (∀ k, k < n → f k < 65536) → sumF f n < 65536 ^ n
 | 0, _ => by simp [sumF]
 | n + 1, h => by
  have ih := sumF_lt n (fun k hk => h k (by omega))
  have h1 := h n (by omega)
  have h2 := Nat.mul_le_mul_right (65536 ^ n) (show f n ≤ 65535 by omega)
  rw [sumF, Nat.pow_succ]
  omega
theorem sumF_digit {f : Nat → Nat} : ∀ n, (∀ k, k < n → f k < 65536) → ∀ k, k < n → sumF f n / 65536 ^ k % 65536 = f k
 | 0, _, k, hk => by omega
 | n + 1, h, k, hk => by
  have hlow := sumF_lt n (fun k hk => h k (by omega))
  have hp : 0 < 65536 ^ k := Nat.pow_pos (by omega)
  rw [sumF]
  rcases Nat.lt_or_ge k n with hlt | hge
  ·
   have ih := sumF_digit n (fun k hk => h k (by omega)) k hlt
   obtain ⟨j, rfl⟩ : ∃ j, n = k + 1 + j := ⟨n - k - 1, by omega⟩
   have e : f (k + 1 + j) * 65536 ^ (k + 1 + j) = 65536 ^ k * (65536 * (f (k + 1 + j) * 65536 ^ j)) := by
    rw [Nat.pow_add, Nat.pow_succ]
    simp only [Nat.mul_assoc, Nat.mul_left_comm, Nat.mul_comm]
   rw [e, Nat.add_mul_div_left _ _ hp, Nat.add_mul_mod_self_left]
   exact ih
  ·
   obtain rfl : k = n := by omega
   rw [Nat.mul_comm (f k), Nat.add_mul_div_left _ _ hp, Nat.div_eq_of_lt hlow, Nat.zero_add, Nat.mod_eq_of_lt (h k (by omega))]
def pU (k : Nat) : Nat := if k = 0 then 65517 else if k = 15 then 32767 else 65535
theorem pU_lt (k : Nat) : pU k < 65536 := by unfold pU; split <;> (try split) <;> omega
theorem pU_sum : sumF pU 16 = P25 := by decide +kernel
def carF (d : Nat → Nat) : Nat → Nat
 | 0 => 0
 | n + 1 => (carF d n + d n) / 65536
def digF (d : Nat → Nat) (n : Nat) : Nat := (carF d n + d n) % 65536
theorem car_sum (d : Nat → Nat) : ∀ n, sumF (digF d) n + carF d n * 65536 ^ n = sumF d n
 | 0 => rfl
 | n + 1 => by
  have ih := car_sum d n
  have e : digF d n + 65536 * carF d (n + 1) = carF d n + d n := by
   rw [digF, carF]
   omega
  have e2 : carF d (n + 1) * 65536 ^ (n + 1) = 65536 * carF d (n + 1) * 65536 ^ n := by
   rw [Nat.pow_succ]
   simp only [Nat.mul_assoc, Nat.mul_left_comm, Nat.mul_comm]
  rw [sumF, sumF, e2, Nat.add_assoc, ← Nat.add_mul, e, Nat.add_mul, ← ih]
  omega
theorem car_lt {d : Nat → Nat} : ∀ n, (∀ k, k < n → d k < 140737488355328) → carF d n < 4294967296
 | 0, _ => by simp [carF]
 | n + 1, h => by
  have ih := car_lt n (fun k hk => h k (by omega))
  have h1 := h n (by omega)
  rw [carF]
  omega
theorem digF_lt (d : Nat → Nat) (n : Nat) : digF d n < 65536 := Nat.mod_lt _ (by omega)
def pasF (d : Nat → Nat) (k : Nat) : Nat := if k = 0 then digF d 0 + 38 * carF d 16 else digF d k
theorem pas_sum (d : Nat → Nat) : sumF (pasF d) 16 + P25 * (2 * carF d 16) = sumF d 16 := by
 have h := car_sum d 16
 have h1 := sumF_split (pasF d) 1 15
 have h2 := sumF_split (digF d) 1 15
 have h3 : sumF (fun k => pasF d (1 + k)) 15 = sumF (fun k => digF d (1 + k)) 15 := sumF_congr 15 (fun k hk => by rw [pasF, if_neg (by omega)])
 have h4 : sumF (pasF d) 1 = sumF (digF d) 1 + 38 * carF d 16 := by
  simp only [sumF, Nat.zero_add, Nat.pow_zero, Nat.mul_one]
  rw [pasF, if_pos rfl]
 rw [show (1 + 15 : Nat) = 16 from rfl] at h1 h2
 rw [h1, h3, h4, ← h, h2, show (65536 : Nat) ^ 16 = P25 * 2 + 38 from by decide +kernel]
 generalize carF d 16 = c
 rw [Nat.mul_add, show P25 * (2 * c) = c * (P25 * 2) by rw [Nat.mul_comm c, Nat.mul_assoc]]
 omega
def borF (d : Nat → Nat) : Nat → Nat
 | 0 => 0
 | n + 1 => 1 - (65536 + d n - pU n - borF d n) / 65536
def lesF (d : Nat → Nat) (n : Nat) : Nat := (65536 + d n - pU n - borF d n) % 65536
theorem bor_le (d : Nat → Nat) : ∀ n, borF d n ≤ 1
 | 0 => by simp [borF]
 | n + 1 => by rw [borF]; omega
theorem bor_sum {d : Nat → Nat} : ∀ n, (∀ k, k < n → d k < 65536) → sumF (lesF d) n + sumF pU n = sumF d n + borF d n * 65536 ^ n
 | 0, _ => rfl
 | n + 1, h => by
  have ih := bor_sum n (fun k hk => h k (by omega))
  have h1 := h n (by omega)
  have h2 := pU_lt n
  have h3 := bor_le d n
  have e : lesF d n + pU n + borF d n = d n + 65536 * borF d (n + 1) := by
   rw [lesF, borF]
   omega
  have e2 : borF d (n + 1) * 65536 ^ (n + 1) = 65536 * borF d (n + 1) * 65536 ^ n := by
   rw [Nat.pow_succ]
   simp only [Nat.mul_assoc, Nat.mul_left_comm, Nat.mul_comm]
  have e3 := congrArg (· * 65536 ^ n) e
  simp only [Nat.add_mul] at e3
  rw [sumF, sumF, sumF, e2]
  omega
theorem lesF_lt (d : Nat → Nat) (n : Nat) : lesF d n < 65536 := Nat.mod_lt _ (by omega)
theorem les_gen {X Y b B P : Nat} (h1 : X + P = Y + b * B) (h2 : b ≤ 1) (h3 : X < B) (hp : P ≤ Y) : X + P = Y := by
 have hb : b = 0 ∨ b = 1 := by omega
 rcases hb with rfl | rfl
 ·
  omega
 ·
  omega
theorem les_sum {d : Nat → Nat} (h : ∀ k, k < 16 → d k < 65536) (hp : P25 ≤ sumF d 16) : sumF (lesF d) 16 + P25 = sumF d 16 := by
 have h1 := bor_sum 16 h
 rw [pU_sum] at h1
 exact les_gen h1 (bor_le d 16) (sumF_lt 16 (fun k _ => lesF_lt d k)) hp
theorem cmp_rest {a b : Nat → Nat} {i : Nat} : ∀ m, (∀ k, i < k → k < i + 1 + m → a k = b k) → sumF a (i + 1 + m) + sumF b (i + 1) = sumF b (i + 1 + m) + sumF a (i + 1)
 | 0, _ => by simp; omega
 | m + 1, h => by
  have ih := cmp_rest m (fun k h1 h2 => h k h1 (by omega))
  have e1 : sumF a (i + 1 + (m + 1)) = sumF a (i + 1 + m) + a (i + 1 + m) * 65536 ^ (i + 1 + m) := rfl
  have e2 : sumF b (i + 1 + (m + 1)) = sumF b (i + 1 + m) + b (i + 1 + m) * 65536 ^ (i + 1 + m) := rfl
  rw [e1, e2, h (i + 1 + m) (by omega) (by omega)]
  generalize b (i + 1 + m) * 65536 ^ (i + 1 + m) = t
  omega
theorem cmp_lt {a b : Nat → Nat} {i n : Nat} (hi : i < n) (ha : ∀ k, k < n → a k < 65536) (hlt : a i < b i) (h : ∀ k, i < k → k < n → a k = b k) : sumF a n < sumF b n := by
 obtain ⟨m, rfl⟩ : ∃ m, n = i + 1 + m := ⟨n - i - 1, by omega⟩
 have h1 := cmp_rest m h
 have h2 := sumF_lt i (fun k hk => ha k (by omega))
 have h3 := Nat.mul_le_mul_right (65536 ^ i) (show a i + 1 ≤ b i from hlt)
 have h4 : sumF a (i + 1) < sumF b (i + 1) := by
  rw [sumF, sumF]
  rw [Nat.add_mul, Nat.one_mul] at h3
  omega
 omega
theorem cmp_eq {a b : Nat → Nat} {n : Nat} (h : ∀ k, k < n → a k = b k) : sumF a n = sumF b n := sumF_congr n h
def numF (v k : Nat) : Nat := v / 65536 ^ k % 65536
theorem numF_lt (v k : Nat) : numF v k < 65536 := Nat.mod_lt _ (by omega)
def numL (v : Nat) : List Nat := (List.range 16).map (numF v)
theorem numL_of {d : Nat → Nat} (h : ∀ k, k < 16 → d k < 65536) : (List.range 16).map d = numL (sumF d 16) := by
 apply List.map_congr_left
 intro k hk
 exact (sumF_digit 16 h k (by simpa using hk)).symm
theorem numF_mod (v : Nat) : ∀ n, sumF (numF v) n = v % 65536 ^ n
 | 0 => by simp [sumF, Nat.mod_one]
 | n + 1 => by rw [sumF, numF_mod v n, Nat.pow_succ, Nat.mod_mul, numF, Nat.mul_comm (65536 ^ n)]
theorem num_sum {v : Nat} (h : v < 65536 ^ 16) : sumF (numF v) 16 = v := by rw [numF_mod, Nat.mod_eq_of_lt h]
theorem fold_sum (l : Nat → Nat) : sumF (fun k => l k + 38 * l (16 + k)) 16 % P25 = sumF l 32 % P25 := by
 rw [sumF_lin l (fun k => l (16 + k)) 38 16, show (32 : Nat) = 16 + 16 from rfl, sumF_split l 16 16, show (65536 : Nat) ^ 16 = 38 + P25 * 2 from by decide +kernel, Nat.add_mul, Nat.mul_assoc, ← Nat.add_assoc, Nat.add_mul_mod_self_left]
end Go.Proofs.YtbiijdboolpaeaaGreatDoor
