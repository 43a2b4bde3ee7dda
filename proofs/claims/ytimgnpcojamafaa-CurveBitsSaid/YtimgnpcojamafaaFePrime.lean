/-
  2^255 LESS 19 IS A PRIME: a certificate (what multiplies to each prime less one, down to small ones), and what follows of it: each number that it doesn't divide, to the power of it less 1, is 1. Nothing of the program.
-/
import Derived.Test.YtimgnpcojamafaaMem
set_option linter.unusedVariables false
namespace Go.Proofs.Ytimgnpcojamafaa

/-- b^e mod n by squares, e below 2^fuel -/
def pm (n : Nat) : Nat → Nat → Nat → Nat
  | 0, _, _ => 1 % n
  | f + 1, b, e => match e % 2 with
    | 0 => pm n f (b * b % n) (e / 2)
    | _ => b * pm n f (b * b % n) (e / 2) % n

theorem pow_half (b e : Nat) : b ^ e = (b * b) ^ (e / 2) * b ^ (e % 2) := by
  conv => lhs; rw [← Nat.div_add_mod e 2]
  rw [Nat.pow_add, Nat.pow_mul, Nat.pow_two]

theorem pm_eq (n : Nat) : ∀ f b e, e < 2 ^ f → pm n f b e = b ^ e % n
  | 0, b, e, h => by
    obtain rfl : e = 0 := by simpa using h
    simp [pm]
  | f + 1, b, e, h => by
    have ih := pm_eq n f (b * b % n) (e / 2) (by rw [Nat.pow_succ] at h; omega)
    have h2 : e % 2 = 0 ∨ e % 2 = 1 := by omega
    have hp := pow_half b e
    rcases h2 with h2 | h2
    · rw [h2, Nat.pow_zero, Nat.mul_one] at hp
      simp only [pm, h2, ih]
      rw [← Nat.pow_mod, hp]
    · rw [h2, Nat.pow_one] at hp
      simp only [pm, h2, ih]
      rw [← Nat.pow_mod, hp, Nat.mul_comm b, Nat.mod_mul_mod]

def Pr (p : Nat) : Prop := 2 ≤ p ∧ ∀ d, d ∣ p → d = 1 ∨ d = p

/-- no divisor from k on, m of them -/
def noDiv (n : Nat) : Nat → Nat → Bool
  | 0, _ => true
  | f + 1, k => match n % k with
    | 0 => false
    | _ => noDiv n f (k + 1)

theorem noDiv_ok (n : Nat) : ∀ f k, noDiv n f k = true → ∀ d, k ≤ d → d < k + f → ¬ d ∣ n
  | 0, k, _, d, h1, h2 => by omega
  | f + 1, k, h, d, h1, h2 => by
    unfold noDiv at h
    split at h
    · cases h
    · rename_i hne
      by_cases hd : d = k
      · subst hd
        intro hdvd
        exact hne (Nat.mod_eq_zero_of_dvd hdvd)
      · exact noDiv_ok n f (k + 1) h d (by omega) (by omega)

theorem pr_small (n f : Nat) (h2 : 2 ≤ n) (hf : n < (f + 2) * (f + 2)) (h : noDiv n f 2 = true) : Pr n := by
  refine ⟨h2, fun d hd => ?_⟩
  have hn := noDiv_ok n f 2 h
  obtain ⟨c, hc⟩ := hd
  have hd0 : d ≠ 0 := by rintro rfl; simp at hc; omega
  have hc0 : c ≠ 0 := by rintro rfl; simp at hc; omega
  by_cases h1 : d = 1
  · exact .inl h1
  by_cases h3 : c = 1
  · subst h3; exact .inr (by omega)
  exfalso
  have a1 : ¬ d < 2 + f := fun hlt => hn d (by omega) hlt ⟨c, hc⟩
  have a2 : ¬ c < 2 + f := fun hlt => hn c (by omega) hlt ⟨d, by rw [Nat.mul_comm]; exact hc⟩
  have : (f + 2) * (f + 2) ≤ d * c := Nat.mul_le_mul (by omega) (by omega)
  omega

theorem pow_cong {n a b : Nat} (h : a % n = b % n) (k : Nat) : a ^ k % n = b ^ k % n := by
  rw [Nat.pow_mod, h, ← Nat.pow_mod]

theorem pow_one_mod {n a k : Nat} (h : a % n = 1 % n) : a ^ k % n = 1 % n := by
  rw [pow_cong h, Nat.one_pow]

theorem mul_cong {n a b c d : Nat} (h : a % n = b % n) (k : c % n = d % n) : a * c % n = b * d % n := by
  rw [Nat.mul_mod, h, k, ← Nat.mul_mod]

theorem gcd_one {n g : Nat} (a b : Nat) (ha : g ^ a % n = 1 % n) (hb : g ^ b % n = 1 % n) : g ^ Nat.gcd a b % n = 1 % n := by
  induction a, b using Nat.gcd.induction with
  | H0 b => simpa using hb
  | H1 a b hpos ih =>
    rw [Nat.gcd_rec]
    refine ih ?_ ha
    have e : g ^ b = (g ^ a) ^ (b / a) * g ^ (b % a) := by
      rw [← Nat.pow_mul, ← Nat.pow_add, Nat.div_add_mod]
    rw [e] at hb
    have := mul_cong (pow_one_mod (k := b / a) ha) (rfl : g ^ (b % a) % n = g ^ (b % a) % n)
    rw [this, Nat.one_mul] at hb
    exact hb

theorem Pr.one_or {q m : Nat} (h : Pr q) : Nat.gcd q m = 1 ∨ q ∣ m := by
  rcases h.2 (Nat.gcd q m) (Nat.gcd_dvd_left q m) with h1 | h1
  · exact .inl h1
  · exact .inr (h1 ▸ Nat.gcd_dvd_right q m)

def prod : List Nat → Nat
  | [] => 1
  | q :: qs => q * prod qs

theorem prime_of : ∀ (fs : List Nat) (m : Nat), (∀ q ∈ fs, Pr q) → m ∣ prod fs → m ≠ 1 → ∃ q, q ∈ fs ∧ q ∣ m
  | [], m, _, hd, h1 => absurd (Nat.dvd_one.1 hd) h1
  | q :: qs, m, hp, hd, h1 => by
    rcases (hp q (by simp)).one_or (m := m) with hg | hg
    · have : m ∣ prod qs := Nat.Coprime.dvd_of_dvd_mul_left (k := m) (by rw [Nat.Coprime, Nat.gcd_comm]; exact hg) hd
      obtain ⟨r, hr, hrd⟩ := prime_of qs m (fun r hr => hp r (by simp [hr])) this h1
      exact ⟨r, by simp [hr], hrd⟩
    · exact ⟨q, by simp, hg⟩

theorem pigeon : ∀ (m : Nat) (f : Nat → Nat), (∀ i, i < m → f i < m) → (∀ i j, i < m → j < m → f i = f j → i = j) → ∀ y, y < m → ∃ i, i < m ∧ f i = y
  | 0, _, _, _, y, hy => by omega
  | m + 1, f, hf, hi, y, hy => by
    by_cases hv : y = f m
    · exact ⟨m, by omega, hv.symm⟩
    have ih := pigeon m (fun i => if f i = m then f m else f i)
      (fun i him => by
        by_cases hc : f i = m
        · simp only [hc, if_true]
          have h1 := hf m (by omega)
          have : f m ≠ m := fun h => by have := hi i m (by omega) (by omega) (by rw [hc, h]); omega
          omega
        · simp only [hc, if_false]
          have := hf i (by omega)
          omega)
      (fun i j him hjm h => by
        by_cases hc : f i = m <;> by_cases hd : f j = m
        · exact hi i j (by omega) (by omega) (by rw [hc, hd])
        · simp only [hc, hd, if_true, if_false] at h
          have := hi m j (by omega) (by omega) h
          omega
        · simp only [hc, hd, if_true, if_false] at h
          have := hi i m (by omega) (by omega) h
          omega
        · simp only [hc, hd, if_false] at h
          exact hi i j (by omega) (by omega) h)
    by_cases hm : y = m
    · have h1 := hf m (by omega)
      obtain ⟨i, him, he⟩ := ih (f m) (by omega)
      by_cases hc : f i = m
      · exact ⟨i, by omega, by omega⟩
      · simp only [hc, if_false] at he
        have := hi i m (by omega) (by omega) he
        omega
    · obtain ⟨i, him, he⟩ := ih y (by omega)
      by_cases hc : f i = m
      · simp only [hc, if_true] at he
        exact absurd he.symm hv
      · simp only [hc, if_false] at he
        exact ⟨i, by omega, he⟩

def Fermat (n : Nat) : Prop := ∀ a, a % n ≠ 0 → a ^ (n - 1) % n = 1 % n

theorem Fermat.pr {n : Nat} (h2 : 2 ≤ n) (h : Fermat n) : Pr n := by
  refine ⟨h2, fun d hd => ?_⟩
  by_cases h1 : d = 1
  · exact .inl h1
  by_cases hn : d = n
  · exact .inr hn
  exfalso
  have hle := Nat.le_of_dvd (by omega) hd
  have hd0 : d ≠ 0 := by
    rintro rfl
    have := Nat.eq_zero_of_zero_dvd hd
    omega
  have hm : d % n ≠ 0 := by rw [Nat.mod_eq_of_lt (by omega)]; exact hd0
  have hf := h d hm
  have e := Nat.div_add_mod (d ^ (n - 1)) n
  rw [hf, Nat.mod_eq_of_lt (show 1 < n by omega)] at e
  have hdp : d ∣ d ^ (n - 1) := ⟨d ^ (n - 2), by rw [← Nat.pow_succ']; congr 1; omega⟩
  rw [← e] at hdp
  have hdn : d ∣ n * (d ^ (n - 1) / n) := Nat.dvd_trans hd (Nat.dvd_mul_right _ _)
  have := (Nat.dvd_add_right hdn).1 hdp
  exact h1 (Nat.dvd_one.1 this)

theorem lucas (n g : Nat) (fs : List Nat) (h2 : 2 < n) (hfs : prod fs = n - 1) (hp : ∀ q ∈ fs, Pr q) (h1 : g ^ (n - 1) % n = 1) (hq : ∀ q ∈ fs, g ^ ((n - 1) / q) % n ≠ 1) : Fermat n := by
  have o1 : 1 % n = 1 := Nat.mod_eq_of_lt (by omega)
  have hord : ∀ k, 0 < k → k < n - 1 → g ^ k % n ≠ 1 := by
    intro k hk hkn hk1
    have hd := gcd_one (n := n) (g := g) k (n - 1) (by rw [hk1, o1]) (by rw [h1, o1])
    have hdl : Nat.gcd k (n - 1) ≤ k := Nat.gcd_le_left _ hk
    have hdd : Nat.gcd k (n - 1) ∣ n - 1 := Nat.gcd_dvd_right _ _
    have hdp : 0 < Nat.gcd k (n - 1) := Nat.gcd_pos_of_pos_left _ hk
    generalize Nat.gcd k (n - 1) = d at *
    obtain ⟨m, hm⟩ := hdd
    have hm1 : m ≠ 1 := by rintro rfl; omega
    obtain ⟨q, hqf, hqm⟩ := prime_of fs m hp (by rw [hfs, hm]; exact Nat.dvd_mul_left _ _) hm1
    obtain ⟨c, rfl⟩ := hqm
    have hq0 : 0 < q := by have := (hp q hqf).1; omega
    refine hq q hqf ?_
    rw [hm, show d * (q * c) = q * (d * c) by rw [Nat.mul_left_comm], Nat.mul_div_cancel_left _ hq0, Nat.pow_mul, pow_one_mod hd, o1]
  have hinj : ∀ i j, i < j → j < n - 1 → g ^ i % n ≠ g ^ j % n := by
    intro i j hij hj he
    have h3 := mul_cong he (rfl : g ^ (n - 1 - i) % n = g ^ (n - 1 - i) % n)
    rw [← Nat.pow_add, ← Nat.pow_add, show i + (n - 1 - i) = n - 1 by omega, show j + (n - 1 - i) = (j - i) + (n - 1) by omega, Nat.pow_add, Nat.mul_mod, h1, Nat.mul_one, Nat.mod_mod] at h3
    exact hord (j - i) (by omega) (by omega) h3.symm
  have hnz : ∀ i, i < n - 1 → g ^ i % n ≠ 0 := by
    intro i hi h0
    have h3 : g ^ (i + (n - 1 - i)) % n = 0 := by rw [Nat.pow_add, Nat.mul_mod, h0]; simp
    rw [show i + (n - 1 - i) = n - 1 by omega, h1] at h3
    omega
  intro a ha
  have hlt := Nat.mod_lt a (show 0 < n by omega)
  obtain ⟨i, hi, he⟩ := pigeon (n - 1) (fun i => g ^ i % n - 1)
    (fun i hi => by have h3 := hnz i hi; have := Nat.mod_lt (g ^ i) (show 0 < n by omega); show g ^ i % n - 1 < n - 1; omega)
    (fun i j hi hj h => by
      have h3 := hnz i hi
      have h4 := hnz j hj
      have h5 : g ^ i % n = g ^ j % n := by
        have h : g ^ i % n - 1 = g ^ j % n - 1 := h
        omega
      rcases Nat.lt_trichotomy i j with h6 | h6 | h6
      · exact absurd h5 (hinj i j h6 hj)
      · exact h6
      · exact absurd h5.symm (hinj j i h6 hi))
    (a % n - 1) (by omega)
  have he : g ^ i % n - 1 = a % n - 1 := he
  have h3 := hnz i hi
  have h5 : a % n = g ^ i % n := by omega
  rw [pow_cong h5, ← Nat.pow_mul, Nat.mul_comm, Nat.pow_mul]
  exact pow_one_mod (by rw [h1, o1])

/-- a certificate, reckoned -/
def lucasOk (n g : Nat) (fs : List Nat) : Bool :=
  decide (2 < n) && (prod fs == n - 1) && decide (n < 2 ^ 256) && (pm n 256 g (n - 1) == 1) && fs.all fun q => !(pm n 256 g ((n - 1) / q) == 1)

theorem lucas_of (n g : Nat) (fs : List Nat) (h : lucasOk n g fs = true) (hp : ∀ q ∈ fs, Pr q) : Fermat n := by
  simp only [lucasOk, Bool.and_eq_true, decide_eq_true_eq, beq_iff_eq, List.all_eq_true, Bool.not_eq_true', beq_eq_false_iff_ne] at h
  obtain ⟨⟨⟨⟨h2, hf⟩, hn⟩, h1⟩, hq⟩ := h
  refine lucas n g fs h2 hf hp ?_ ?_
  · rw [← pm_eq n 256 g (n - 1) (by omega)]; exact h1
  · intro q hqf
    have := hq q hqf
    rwa [pm_eq _ _ _ _ (Nat.lt_of_le_of_lt (Nat.div_le_self _ _) (by omega))] at this
theorem lucas_pr (n g : Nat) (fs : List Nat) (h : lucasOk n g fs = true) (hp : ∀ q ∈ fs, Pr q) : Pr n := by
  refine Fermat.pr ?_ (lucas_of n g fs h hp)
  simp only [lucasOk, Bool.and_eq_true, decide_eq_true_eq] at h
  omega

theorem pr_2 : Pr 2 := pr_small 2 0 (by omega) (by omega) (by decide +kernel)
theorem pr_3 : Pr 3 := pr_small 3 0 (by omega) (by omega) (by decide +kernel)
theorem pr_5 : Pr 5 := pr_small 5 1 (by omega) (by omega) (by decide +kernel)
theorem pr_7 : Pr 7 := pr_small 7 1 (by omega) (by omega) (by decide +kernel)
theorem pr_13 : Pr 13 := pr_small 13 2 (by omega) (by omega) (by decide +kernel)
theorem pr_19 : Pr 19 := pr_small 19 3 (by omega) (by omega) (by decide +kernel)
theorem pr_31 : Pr 31 := pr_small 31 4 (by omega) (by omega) (by decide +kernel)
theorem pr_43 : Pr 43 := pr_small 43 5 (by omega) (by omega) (by decide +kernel)
theorem pr_47 : Pr 47 := pr_small 47 5 (by omega) (by omega) (by decide +kernel)
theorem pr_103 : Pr 103 := pr_small 103 9 (by omega) (by omega) (by decide +kernel)
theorem pr_107 : Pr 107 := pr_small 107 9 (by omega) (by omega) (by decide +kernel)
theorem pr_127 : Pr 127 := pr_small 127 10 (by omega) (by omega) (by decide +kernel)
theorem pr_223 : Pr 223 := pr_small 223 13 (by omega) (by omega) (by decide +kernel)
theorem pr_353 : Pr 353 := pr_small 353 17 (by omega) (by omega) (by decide +kernel)
theorem pr_991 : Pr 991 := pr_small 991 30 (by omega) (by omega) (by decide +kernel)
theorem pr_2437 : Pr 2437 := pr_small 2437 48 (by omega) (by omega) (by decide +kernel)
theorem pr_3727 : Pr 3727 := pr_small 3727 60 (by omega) (by omega) (by decide +kernel)
theorem pr_4153 : Pr 4153 := pr_small 4153 63 (by omega) (by omega) (by decide +kernel)
theorem pr_57467 : Pr 57467 := pr_small 57467 238 (by omega) (by omega) (by decide +kernel)
theorem pr_65147 : Pr 65147 := pr_small 65147 254 (by omega) (by omega) (by decide +kernel)
theorem pr_75707 : Pr 75707 := pr_small 75707 274 (by omega) (by omega) (by decide +kernel)
theorem pr_132049 : Pr 132049 := pr_small 132049 362 (by omega) (by omega) (by decide +kernel)
theorem pr_430751 : Pr 430751 := pr_small 430751 655 (by omega) (by omega) (by decide +kernel)
theorem pr_569003 : Pr 569003 := pr_small 569003 753 (by omega) (by omega) (by decide +kernel)
theorem pr_1923133 : Pr 1923133 := lucas_pr 1923133 2 [2, 2, 3, 43, 3727] (by decide +kernel) (by
  intro q hq
  simp only [List.mem_cons, List.not_mem_nil, or_false] at hq
  rcases hq with rfl | rfl | rfl | rfl | rfl
  · exact pr_2
  · exact pr_2
  · exact pr_3
  · exact pr_43
  · exact pr_3727)
theorem pr_8574133 : Pr 8574133 := lucas_pr 8574133 2 [2, 2, 3, 7, 103, 991] (by decide +kernel) (by
  intro q hq
  simp only [List.mem_cons, List.not_mem_nil, or_false] at hq
  rcases hq with rfl | rfl | rfl | rfl | rfl | rfl
  · exact pr_2
  · exact pr_2
  · exact pr_3
  · exact pr_7
  · exact pr_103
  · exact pr_991)
theorem pr_2773320623 : Pr 2773320623 := lucas_pr 2773320623 5 [2, 2437, 569003] (by decide +kernel) (by
  intro q hq
  simp only [List.mem_cons, List.not_mem_nil, or_false] at hq
  rcases hq with rfl | rfl | rfl
  · exact pr_2
  · exact pr_2437
  · exact pr_569003)
theorem pr_72106336199 : Pr 72106336199 := lucas_pr 72106336199 7 [2, 13, 2773320623] (by decide +kernel) (by
  intro q hq
  simp only [List.mem_cons, List.not_mem_nil, or_false] at hq
  rcases hq with rfl | rfl | rfl
  · exact pr_2
  · exact pr_13
  · exact pr_2773320623)
theorem pr_1919519569386763 : Pr 1919519569386763 := lucas_pr 1919519569386763 2 [2, 3, 7, 19, 47, 47, 127, 8574133] (by decide +kernel) (by
  intro q hq
  simp only [List.mem_cons, List.not_mem_nil, or_false] at hq
  rcases hq with rfl | rfl | rfl | rfl | rfl | rfl | rfl | rfl
  · exact pr_2
  · exact pr_3
  · exact pr_7
  · exact pr_19
  · exact pr_47
  · exact pr_47
  · exact pr_127
  · exact pr_8574133)
theorem pr_31757755568855353 : Pr 31757755568855353 := lucas_pr 31757755568855353 10 [2, 2, 2, 3, 31, 107, 223, 4153, 430751] (by decide +kernel) (by
  intro q hq
  simp only [List.mem_cons, List.not_mem_nil, or_false] at hq
  rcases hq with rfl | rfl | rfl | rfl | rfl | rfl | rfl | rfl | rfl
  · exact pr_2
  · exact pr_2
  · exact pr_2
  · exact pr_3
  · exact pr_31
  · exact pr_107
  · exact pr_223
  · exact pr_4153
  · exact pr_430751)
theorem pr_75445702479781427272750846543864801 : Pr 75445702479781427272750846543864801 := lucas_pr 75445702479781427272750846543864801 7 [2, 2, 2, 2, 2, 3, 3, 5, 5, 75707, 72106336199, 1919519569386763] (by decide +kernel) (by
  intro q hq
  simp only [List.mem_cons, List.not_mem_nil, or_false] at hq
  rcases hq with rfl | rfl | rfl | rfl | rfl | rfl | rfl | rfl | rfl | rfl | rfl | rfl
  · exact pr_2
  · exact pr_2
  · exact pr_2
  · exact pr_2
  · exact pr_2
  · exact pr_3
  · exact pr_3
  · exact pr_5
  · exact pr_5
  · exact pr_75707
  · exact pr_72106336199
  · exact pr_1919519569386763)
theorem pr_74058212732561358302231226437062788676166966415465897661863160754340907 : Pr 74058212732561358302231226437062788676166966415465897661863160754340907 := lucas_pr 74058212732561358302231226437062788676166966415465897661863160754340907 2 [2, 3, 353, 57467, 132049, 1923133, 31757755568855353, 75445702479781427272750846543864801] (by decide +kernel) (by
  intro q hq
  simp only [List.mem_cons, List.not_mem_nil, or_false] at hq
  rcases hq with rfl | rfl | rfl | rfl | rfl | rfl | rfl | rfl
  · exact pr_2
  · exact pr_3
  · exact pr_353
  · exact pr_57467
  · exact pr_132049
  · exact pr_1923133
  · exact pr_31757755568855353
  · exact pr_75445702479781427272750846543864801)
theorem fermat255 : Fermat 57896044618658097711785492504343953926634992332820282019728792003956564819949 := lucas_of 57896044618658097711785492504343953926634992332820282019728792003956564819949 2 [2, 2, 3, 65147, 74058212732561358302231226437062788676166966415465897661863160754340907] (by decide +kernel) (by
  intro q hq
  simp only [List.mem_cons, List.not_mem_nil, or_false] at hq
  rcases hq with rfl | rfl | rfl | rfl | rfl
  · exact pr_2
  · exact pr_2
  · exact pr_3
  · exact pr_65147
  · exact pr_74058212732561358302231226437062788676166966415465897661863160754340907)

end Go.Proofs.Ytimgnpcojamafaa
