import Derived.Test.YtbiijdboolpaeaaDoorG01
set_option linter.unusedVariables false
namespace Go.Proofs.YtbiijdboolpaeaaDoor
def pm (n : Nat) : Nat → Nat → Nat → Nat
 | 0, _, _ => 1 % n
 | f + 1, b, e => match e % 2 with
  | 0 => pm n f (b * b % n) (e / 2)
  | _ => b * pm n f (b * b % n) (e / 2) % n
theorem pow_half (b e : Nat) : b ^ e = (b * b) ^ (e / 2) * b ^ (e % 2) := by
 conv => lhs; rw [← Nat.div_add_mod e 2]
 rw [Nat.pow_add, Nat.pow_mul, Nat.pow_two]
theorem pm_eq (n : Nat) : ∀ f b e, e < 2 ^ f → pm n f b e = b ^ e % n
 | 0, b, e, h => by
  obtain rfl : e = 0 := by simpa using h
  simp [pm]
 | f + 1, b, e, h => by
  have ih := pm_eq n f (b * b % n) (e / 2) (by rw [Nat.pow_succ] at h; omega)
  have h2 : e % 2 = 0 ∨ e % 2 = 1 := by omega
  have hp := pow_half b e
  rcases h2 with h2 | h2
  ·
   rw [h2, Nat.pow_zero, Nat.mul_one] at hp
   simp only [pm, h2, ih]
   rw [← Nat.pow_mod, hp]
  ·
   rw [h2, Nat.pow_one] at hp
   simp only [pm, h2, ih]
   rw [← Nat.pow_mod, hp, Nat.mul_comm b, Nat.mod_mul_mod]
def Pr (p : Nat) : Prop := 2 ≤ p ∧ ∀ d, d ∣ p → d = 1 ∨ d = p
def noDiv (n : Nat) : Nat → Nat → Bool
 | 0, _ => true
 | f + 1, k => match n % k with
  | 0 => false
  | _ => noDiv n f (k + 1)
theorem noDiv_ok (n : Nat) : ∀ f k, noDiv n f k = true → ∀ d, k ≤ d → d < k + f → ¬ d ∣ n
 | 0, k, _, d, h1, h2 => by omega
 | f + 1, k, h, d, h1, h2 => by
  unfold noDiv at h
  split at h
  ·
   cases h
  ·
   rename_i hne
   by_cases hd : d = k
   ·
    subst hd
    intro hdvd
    exact hne (Nat.mod_eq_zero_of_dvd hdvd)
   ·
    exact noDiv_ok n f (k + 1) h d (by omega) (by omega)
theorem pr_small (n f : Nat) (h2 : 2 ≤ n) (hf : n < (f + 2) * (f + 2)) (h : noDiv n f 2 = true) : Pr n := by
 refine ⟨h2, fun d hd => ?_⟩
 have hn := noDiv_ok n f 2 h
 obtain ⟨c, hc⟩ := hd
 have hd0 : d ≠ 0 := by rintro rfl; simp at hc; omega
 have hc0 : c ≠ 0 := by rintro rfl; simp at hc; omega
 by_cases h1 : d = 1
 ·
  exact .inl h1
 by_cases h3 : c = 1
 ·
  subst h3; exact .inr (by omega)
 exfalso
 have a1 : ¬ d < 2 + f := fun hlt => hn d (by omega) hlt ⟨c, hc⟩
 have a2 : ¬ c < 2 + f := fun hlt => hn c (by omega) hlt ⟨d, by rw [Nat.mul_comm]; exact hc⟩
 have : (f + 2) * (f + 2) ≤ d * c := Nat.mul_le_mul (by omega) (by omega)
 omega
theorem pow_cong {n a b : Nat} (h : a % n = b % n) (k : Nat) : a ^ k % n = b ^ k % n := by
 rw [Nat.pow_mod, h, ← Nat.pow_mod]
theorem pow_one_mod {n a k : Nat} (h : a % n = 1 % n) : a ^ k % n = 1 % n := by
 rw [pow_cong h, Nat.one_pow]
theorem mul_cong {n a b c d : Nat} (h : a % n = b % n) (k : c % n = d % n) : a * c % n = b * d % n := by
 rw [Nat.mul_mod, h, k, ← Nat.mul_mod]
theorem gcd_one {n g : Nat} (a b : Nat) (ha : g ^ a % n = 1 % n) (hb : g ^ b % n = 1 % n) : g ^ Nat.gcd a b % n = 1 % n := by
 induction a, b using Nat.gcd.induction with
 | H0 b => simpa using hb
 | H1 a b hpos ih =>
  rw [Nat.gcd_rec]
  refine ih ?_ ha
  have e : g ^ b = (g ^ a) ^ (b / a) * g ^ (b % a) := by
   rw [← Nat.pow_mul, ← Nat.pow_add, Nat.div_add_mod]
  rw [e] at hb
  have := mul_cong (pow_one_mod (k := b / a) ha) (rfl : g ^ (b % a) % n = g ^ (b % a) % n)
  rw [this, Nat.one_mul] at hb
  exact hb
theorem Pr.one_or {q m : Nat} (h : Pr q) : Nat.gcd q m = 1 ∨ q ∣ m := by
 rcases h.2 (Nat.gcd q m) (Nat.gcd_dvd_left q m) with h1 | h1
 ·
  exact .inl h1
 ·
  exact .inr (h1 ▸ Nat.gcd_dvd_right q m)
def prod : List Nat → Nat
 | [] => 1
 | q :: qs => q * prod qs
theorem prime_of : ∀ (fs : List Nat) (m : Nat), (∀ q ∈ fs, Pr q) → m ∣ prod fs → m ≠ 1 → ∃ q, q ∈ fs ∧ q ∣ m
 | [], m, _, hd, h1 => absurd (Nat.dvd_one.1 hd) h1
 | q :: qs, m, hp, hd, h1 => by
  rcases (hp q (by simp)).one_or (m := m) with hg | hg
  ·
   have : m ∣ prod qs := Nat.Coprime.dvd_of_dvd_mul_left (k := m) (by rw [Nat.Coprime, Nat.gcd_comm]; exact hg) hd
   obtain ⟨r, hr, hrd⟩ := prime_of qs m (fun r hr => hp r (by simp [hr])) this h1
   exact ⟨r, by simp [hr], hrd⟩
  ·
   exact ⟨q, by simp, hg⟩
theorem pigeon : ∀ (m : Nat) (f : Nat → Nat), (∀ i, i < m → f i < m) → (∀ i j, i < m → j < m → f i = f j → i = j) → ∀ y, y < m → ∃ i, i < m ∧ f i = y
 | 0, _, _, _, y, hy => by omega
 | m + 1, f, hf, hi, y, hy => by
  by_cases hv : y = f m
  ·
   exact ⟨m, by omega, hv.symm⟩
  have ih := pigeon m (fun i => if f i = m then f m else f i)
   (fun i him => by
    by_cases hc : f i = m
    ·
     simp only [hc, if_true]
     have h1 := hf m (by omega)
     have : f m ≠ m := fun h => by have := hi i m (by omega) (by omega) (by rw [hc, h]); omega
     omega
    ·
     simp only [hc, if_false]
     have := hf i (by omega)
     omega)
   (fun i j him hjm h => by
    by_cases hc : f i = m <;> by_cases hd : f j = m
    ·
     exact hi i j (by omega) (by omega) (by rw [hc, hd])
    ·
     simp only [hc, hd, if_true, if_false] at h
     have := hi m j (by omega) (by omega) h
     omega
    ·
     simp only [hc, hd, if_true, if_false] at h
     have := hi i m (by omega) (by omega) h
     omega
    ·
     simp only [hc, hd, if_false] at h
     exact hi i j (by omega) (by omega) h)
  by_cases hm : y = m
  ·
   have h1 := hf m (by omega)
   obtain ⟨i, him, he⟩ := ih (f m) (by omega)
   by_cases hc : f i = m
   ·
    exact ⟨i, by omega, by omega⟩
   ·
    simp only [hc, if_false] at he
    have := hi i m (by omega) (by omega) he
    omega
  ·
   obtain ⟨i, him, he⟩ := ih y (by omega)
   by_cases hc : f i = m
   ·
    simp only [hc, if_true] at he
    exact absurd he.symm hv
   ·
    simp only [hc, if_false] at he
    exact ⟨i, by omega, he⟩
def Fermat (n : Nat) : Prop := ∀ a, a % n ≠ 0 → a ^ (n - 1) % n = 1 % n
theorem Fermat.pr {n : Nat} (h2 : 2 ≤ n) (h : Fermat n) : Pr n := by
 refine ⟨h2, fun d hd => ?_⟩
 by_cases h1 : d = 1
 ·
  exact .inl h1
 by_cases hn : d = n
 ·
  exact .inr hn
 exfalso
 have hle := Nat.le_of_dvd (by omega) hd
 have hd0 : d ≠ 0 := by
  rintro rfl
  have := Nat.eq_zero_of_zero_dvd hd
  omega
 have hm : d % n ≠ 0 := by rw [Nat.mod_eq_of_lt (by omega)]; exact hd0
 have hf := h d hm
 have e := Nat.div_add_mod (d ^ (n - 1)) n
 rw [hf, Nat.mod_eq_of_lt (show 1 < n by omega)] at e
 have hdp : d ∣ d ^ (n - 1) := ⟨d ^ (n - 2), by rw [← Nat.pow_succ']; congr 1; omega⟩
 rw [← e] at hdp
 have hdn : d ∣ n * (d ^ (n - 1) / n) := Nat.dvd_trans hd (Nat.dvd_mul_right _ _)
 have := (Nat.dvd_add_right hdn).1 hdp
 exact h1 (Nat.dvd_one.1 this)
theorem lucas (n g : Nat) (fs : List Nat) (h2 : 2 < n) (hfs : prod fs = n - 1) (hp : ∀ q ∈ fs, Pr q) (h1 : g ^ (n - 1) % n = 1) (hq : ∀ q ∈ fs, g ^ ((n - 1) / q) % n ≠ 1) : Fermat n := by
 have o1 : 1 % n = 1 := Nat.mod_eq_of_lt (by omega)
 have hord : ∀ k, 0 < k → k < n - 1 → g ^ k % n ≠ 1 := by
  intro k hk hkn hk1
  have hd := gcd_one (n := n) (g := g) k (n - 1) (by rw [hk1, o1]) (by rw [h1, o1])
  have hdl : Nat.gcd k (n - 1) ≤ k := Nat.gcd_le_left _ hk
  have hdd : Nat.gcd k (n - 1) ∣ n - 1 := Nat.gcd_dvd_right _ _
  have hdp : 0 < Nat.gcd k (n - 1) := Nat.gcd_pos_of_pos_left _ hk
  generalize Nat.gcd k (n - 1) = d at *
  obtain ⟨m, hm⟩ := hdd
  have hm1 : m ≠ 1 := by rintro rfl; omega
  obtain ⟨q, hqf, hqm⟩ := prime_of fs m hp (by rw [hfs, hm]; exact Nat.dvd_mul_left _ _) hm1
  obtain ⟨c, rfl⟩ := hqm
  have hq0 : 0 < q := by have := (hp q hqf).1; omega
  refine hq q hqf ?_
  rw [hm, show d * (q * c) = q * (d * c) by rw [Nat.mul_left_comm], Nat.mul_div_cancel_left _ hq0, Nat.pow_mul, pow_one_mod hd, o1]
 have hinj : ∀ i j, i < j → j < n - 1 → g ^ i % n ≠ g ^ j % n := by
  intro i j hij hj he
  have h3 := mul_cong he (rfl : g ^ (n - 1 - i) % n = g ^ (n - 1 - i) % n)
  rw [← Nat.pow_add, ← Nat.pow_add, show i + (n - 1 - i) = n - 1 by omega, show j + (n - 1 - i) = (j - i) + (n - 1) by omega, Nat.pow_add, Nat.mul_mod, h1, Nat.mul_one, Nat.mod_mod] at h3
  exact hord (j - i) (by omega) (by omega) h3.symm
 have hnz : ∀ i, i < n - 1 → g ^ i % n ≠ 0 := by
  intro i hi h0
  have h3 : g ^ (i + (n - 1 - i)) % n = 0 := by rw [Nat.pow_add, Nat.mul_mod, h0]; simp
  rw [show i + (n - 1 - i) = n - 1 by omega, h1] at h3
  omega
 intro a ha
 have hlt := Nat.mod_lt a (show 0 < n by omega)
 obtain ⟨i, hi, he⟩ := pigeon (n - 1) (fun i => g ^ i % n - 1)
  (fun i hi => by have h3 := hnz i hi; have := Nat.mod_lt (g ^ i) (show 0 < n by omega); show g ^ i % n - 1 < n - 1; omega)
  (fun i j hi hj h => by
   have h3 := hnz i hi
   have h4 := hnz j hj
   have h5 : g ^ i % n = g ^ j % n := by
    have h : g ^ i % n - 1 = g ^ j % n - 1 := h
    omega
   rcases Nat.lt_trichotomy i j with h6 | h6 | h6
   ·
    exact absurd h5 (hinj i j h6 hj)
   ·
    exact h6
   ·
    exact absurd h5.symm (hinj j i h6 hi))
  (a % n - 1) (by omega)
 have he : g ^ i % n - 1 = a % n - 1 := he
 have h3 := hnz i hi
 have h5 : a % n = g ^ i % n := by omega
 rw [pow_cong h5, ← Nat.pow_mul, Nat.mul_comm, Nat.pow_mul]
 exact pow_one_mod (by rw [h1, o1])
def lucasOk (n g : Nat) (fs : List Nat) : Bool :=
 decide (2 < n) && (prod fs == n - 1) && decide (n < 2 ^ 256) && (pm n 256 g (n - 1) == 1) && fs.all fun q => !(pm n 256 g ((n - 1) / q) == 1)
theorem lucas_of (n g : Nat) (fs : List Nat) (h : lucasOk n g fs = true) (hp : ∀ q ∈ fs, Pr q) : Fermat n := by
 simp only [lucasOk, Bool.and_eq_true, decide_eq_true_eq, beq_iff_eq, List.all_eq_true, Bool.not_eq_true', beq_eq_false_iff_ne] at h
 obtain ⟨⟨⟨⟨h2, hf⟩, hn⟩, h1⟩, hq⟩ := h
 refine lucas n g fs h2 hf hp ?_ ?_
 ·
  rw [← pm_eq n 256 g (n - 1) (by omega)]; exact h1
 ·
  intro q hqf
  have := hq q hqf
  rwa [pm_eq _ _ _ _ (Nat.lt_of_le_of_lt (Nat.div_le_self _ _) (by omega))] at this
theorem lucas_pr (n g : Nat) (fs : List Nat) (h : lucasOk n g fs = true) (hp : ∀ q ∈ fs, Pr q) : Pr n := by
 refine Fermat.pr ?_ (lucas_of n g fs h hp)
 simp only [lucasOk, Bool.and_eq_true, decide_eq_true_eq] at h
 omega
theorem pr_2 : Pr 2 := pr_small 2 0 (by omega) (by omega) (by decide +kernel)
theorem pr_3 : Pr 3 := pr_small 3 0 (by omega) (by omega) (by decide +kernel)
theorem pr_5 : Pr 5 := pr_small 5 1 (by omega) (by omega) (by decide +kernel)
theorem pr_7 : Pr 7 := pr_small 7 1 (by omega) (by omega) (by decide +kernel)
theorem pr_13 : Pr 13 := pr_small 13 2 (by omega) (by omega) (by decide +kernel)
theorem pr_19 : Pr 19 := pr_small 19 3 (by omega) (by omega) (by decide +kernel)
theorem pr_31 : Pr 31 := pr_small 31 4 (by omega) (by omega) (by decide +kernel)
theorem pr_43 : Pr 43 := pr_small 43 5 (by omega) (by omega) (by decide +kernel)
theorem pr_47 : Pr 47 := pr_small 47 5 (by omega) (by omega) (by decide +kernel)
theorem pr_103 : Pr 103 := pr_small 103 9 (by omega) (by omega) (by decide +kernel)
theorem pr_107 : Pr 107 := pr_small 107 9 (by omega) (by omega) (by decide +kernel)
theorem pr_127 : Pr 127 := pr_small 127 10 (by omega) (by omega) (by decide +kernel)
theorem pr_223 : Pr 223 := pr_small 223 13 (by omega) (by omega) (by decide +kernel)
theorem pr_353 : Pr 353 := pr_small 353 17 (by omega) (by omega) (by decide +kernel)
theorem pr_991 : Pr 991 := pr_small 991 30 (by omega) (by omega) (by decide +kernel)
theorem pr_2437 : Pr 2437 := pr_small 2437 48 (by omega) (by omega) (by decide +kernel)
theorem pr_3727 : Pr 3727 := pr_small 3727 60 (by omega) (by omega) (by decide +kernel)
theorem pr_4153 : Pr 4153 := pr_small 4153 63 (by omega) (by omega) (by decide +kernel)
theorem pr_57467 : Pr 57467 := pr_small 57467 238 (by omega) (by omega) (by decide +kernel)
theorem pr_65147 : Pr 65147 := pr_small 65147 254 (by omega) (by omega) (by decide +kernel)
theorem pr_75707 : Pr 75707 := pr_small 75707 274 (by omega) (by omega) (by decide +kernel)
theorem pr_132049 : Pr 132049 := pr_small 132049 362 (by omega) (by omega) (by decide +kernel)
theorem pr_430751 : Pr 430751 := pr_small 430751 655 (by omega) (by omega) (by decide +kernel)
theorem pr_569003 : Pr 569003 := pr_small 569003 753 (by omega) (by omega) (by decide +kernel)
theorem pr_1923133 : Pr 1923133 := lucas_pr 1923133 2 [2, 2, 3, 43, 3727] (by decide +kernel) (by
 intro q hq
 simp only [List.mem_cons, List.not_mem_nil, or_false] at hq
 rcases hq with rfl | rfl | rfl | rfl | rfl
 ·
  exact pr_2
 ·
  exact pr_2
 ·
  exact pr_3
 ·
  exact pr_43
 ·
  exact pr_3727)
theorem pr_8574133 : Pr 8574133 := lucas_pr 8574133 2 [2, 2, 3, 7, 103, 991] (by decide +kernel) (by
 intro q hq
 simp only [List.mem_cons, List.not_mem_nil, or_false] at hq
 rcases hq with rfl | rfl | rfl | rfl | rfl | rfl
 ·
  exact pr_2
 ·
  exact pr_2
 ·
  exact pr_3
 ·
  exact pr_7
 ·
  exact pr_103
 ·
  exact pr_991)
theorem pr_2773320623 : Pr 2773320623 := lucas_pr 2773320623 5 [2, 2437, 569003] (by decide +kernel) (by
 intro q hq
 simp only [List.mem_cons, List.not_mem_nil, or_false] at hq
 rcases hq with rfl | rfl | rfl
 ·
  exact pr_2
 ·
  exact pr_2437
 ·
  exact pr_569003)
theorem pr_72106336199 : Pr 72106336199 := lucas_pr 72106336199 7 [2, 13, 2773320623] (by decide +kernel) (by
 intro q hq
 simp only [List.mem_cons, List.not_mem_nil, or_false] at hq
 rcases hq with rfl | rfl | rfl
 ·
  exact pr_2
 ·
  exact pr_13
 ·
  exact pr_2773320623)
theorem pr_1919519569386763 : Pr 1919519569386763 := lucas_pr 1919519569386763 2 [2, 3, 7, 19, 47, 47, 127, 8574133] (by decide +kernel) (by
 intro q hq
 simp only [List.mem_cons, List.not_mem_nil, or_false] at hq
 rcases hq with rfl | rfl | rfl | rfl | rfl | rfl | rfl | rfl
 ·
  exact pr_2
 ·
  exact pr_3
 ·
  exact pr_7
 ·
  exact pr_19
 ·
  exact pr_47
 ·
  exact pr_47
 ·
  exact pr_127
 ·
  exact pr_8574133)
theorem pr_31757755568855353 : Pr 31757755568855353 := lucas_pr 31757755568855353 10 [2, 2, 2, 3, 31, 107, 223, 4153, 430751] (by decide +kernel) (by
 intro q hq
 simp only [List.mem_cons, List.not_mem_nil, or_false] at hq
 rcases hq with rfl | rfl | rfl | rfl | rfl | rfl | rfl | rfl | rfl
 ·
  exact pr_2
 ·
  exact pr_2
 ·
  exact pr_2
 ·
  exact pr_3
 ·
  exact pr_31
 ·
  exact pr_107
 ·
  exact pr_223
 ·
  exact pr_4153
 ·
  exact pr_430751)
theorem pr_75445702479781427272750846543864801 : Pr 75445702479781427272750846543864801 := lucas_pr 75445702479781427272750846543864801 7 [2, 2, 2, 2, 2, 3, 3, 5, 5, 75707, 72106336199, 1919519569386763] (by decide +kernel) (by
 intro q hq
 simp only [List.mem_cons, List.not_mem_nil, or_false] at hq
 rcases hq with rfl | rfl | rfl | rfl | rfl | rfl | rfl | rfl | rfl | rfl | rfl | rfl
 ·
  exact pr_2
 ·
  exact pr_2
 ·
  exact pr_2
 ·
  exact pr_2
 ·
  exact pr_2
 ·
  exact pr_3
 ·
  exact pr_3
 ·
  exact pr_5
 ·
  exact pr_5
 ·
  exact pr_75707
 ·
  exact pr_72106336199
 ·
  exact pr_1919519569386763)
theorem pr_74058212732561358302231226437062788676166966415465897661863160754340907 : Pr 74058212732561358302231226437062788676166966415465897661863160754340907 := lucas_pr 74058212732561358302231226437062788676166966415465897661863160754340907 2 [2, 3, 353, 57467, 132049, 1923133, 31757755568855353, 75445702479781427272750846543864801] (by decide +kernel) (by
 intro q hq
 simp only [List.mem_cons, List.not_mem_nil, or_false] at hq
 rcases hq with rfl | rfl | rfl | rfl | rfl | rfl | rfl | rfl
 ·
  exact pr_2
 ·
  exact pr_3
 ·
  exact pr_353
 ·
  exact pr_57467
 ·
  exact pr_132049
 ·
  exact pr_1923133
 ·
  exact pr_31757755568855353
 ·
  exact pr_75445702479781427272750846543864801)
theorem fermat255 : Fermat 57896044618658097711785492504343953926634992332820282019728792003956564819949 := lucas_of 57896044618658097711785492504343953926634992332820282019728792003956564819949 2 [2, 2, 3, 65147, 74058212732561358302231226437062788676166966415465897661863160754340907] (by decide +kernel) (by
 intro q hq
 simp only [List.mem_cons, List.not_mem_nil, or_false] at hq
 rcases hq with rfl | rfl | rfl | rfl | rfl
 ·
  exact pr_2
 ·
  exact pr_2
 ·
  exact pr_3
 ·
  exact pr_65147
 ·
  exact pr_74058212732561358302231226437062788676166966415465897661863160754340907)
end Go.Proofs.YtbiijdboolpaeaaDoor
namespace Go.Proofs.YtbiijdboolpaeaaDoor
structure Fe5 where
 a0 : Nat
 a1 : Nat
 a2 : Nat
 a3 : Nat
 a4 : Nat
def P25 : Nat := 57896044618658097711785492504343953926634992332820282019728792003956564819949
def valF (f : Fe5) : Nat := f.a0 + 2251799813685248 * (f.a1 + 2251799813685248 * (f.a2 + 2251799813685248 * (f.a3 + 2251799813685248 * f.a4)))
def MayF (f : Fe5) : Prop := f.a0 < 4503599627370496 ∧ f.a1 < 4503599627370496 ∧ f.a2 < 4503599627370496 ∧ f.a3 < 4503599627370496 ∧ f.a4 < 4503599627370496
def WordF (f : Fe5) : Prop := f.a0 < 18446744073709551616 ∧ f.a1 < 18446744073709551616 ∧ f.a2 < 18446744073709551616 ∧ f.a3 < 18446744073709551616 ∧ f.a4 < 18446744073709551616
instance (f : Fe5) : Decidable (MayF f) := by unfold MayF; infer_instance
theorem MayF.word {f : Fe5} (h : MayF f) : WordF f := by
 obtain ⟨h0, h1, h2, h3, h4⟩ := h
 exact ⟨by omega, by omega, by omega, by omega, by omega⟩
def carU (f : Fe5) : Fe5 :=
  ⟨f.a0 % 2251799813685248 + 19 * (f.a4 / 2251799813685248), f.a1 % 2251799813685248 + f.a0 / 2251799813685248, f.a2 % 2251799813685248 + f.a1 / 2251799813685248,
   f.a3 % 2251799813685248 + f.a2 / 2251799813685248, f.a4 % 2251799813685248 + f.a3 / 2251799813685248⟩
theorem carU_eq (f : Fe5) : valF (carU f) + P25 * (f.a4 / 2251799813685248) = valF f := by
 obtain ⟨x0, x1, x2, x3, x4⟩ := f
 simp only [valF, carU, P25]
 omega
theorem carU_val (f : Fe5) : valF (carU f) % P25 = valF f % P25 := by
 rw [← carU_eq f, Nat.add_mul_mod_self_left]
theorem carU_may {f : Fe5} (h : WordF f) : MayF (carU f) := by
 obtain ⟨x0, x1, x2, x3, x4⟩ := f
 obtain ⟨h0, h1, h2, h3, h4⟩ := h
 simp only [MayF, carU] at *
 omega
def addS (a b : Fe5) : Fe5 := ⟨a.a0 + b.a0, a.a1 + b.a1, a.a2 + b.a2, a.a3 + b.a3, a.a4 + b.a4⟩
def addQ (a b : Fe5) : Fe5 := carU (addS a b)
theorem addS_word {a b : Fe5} (ha : MayF a) (hb : MayF b) : WordF (addS a b) := by
 obtain ⟨h0, h1, h2, h3, h4⟩ := ha
 obtain ⟨k0, k1, k2, k3, k4⟩ := hb
 simp only [WordF, addS]
 omega
theorem addQ_may {a b : Fe5} (ha : MayF a) (hb : MayF b) : MayF (addQ a b) := carU_may (addS_word ha hb)
theorem addQ_val (a b : Fe5) : valF (addQ a b) % P25 = (valF a + valF b) % P25 := by
 rw [addQ, carU_val]
 congr 1
 simp only [valF, addS]
 omega
def subS (a b : Fe5) : Fe5 := ⟨a.a0 + (9007199254740916 - b.a0), a.a1 + (9007199254740988 - b.a1), a.a2 + (9007199254740988 - b.a2), a.a3 + (9007199254740988 - b.a3), a.a4 + (9007199254740988 - b.a4)⟩
def subQ (a b : Fe5) : Fe5 := carU (subS a b)
theorem subS_word {a b : Fe5} (ha : MayF a) (hb : MayF b) : WordF (subS a b) := by
 obtain ⟨h0, h1, h2, h3, h4⟩ := ha
 obtain ⟨k0, k1, k2, k3, k4⟩ := hb
 simp only [WordF, subS]
 omega
theorem subQ_may {a b : Fe5} (ha : MayF a) (hb : MayF b) : MayF (subQ a b) := carU_may (subS_word ha hb)
theorem subS_eq {a b : Fe5} (hb : MayF b) : valF (subS a b) + valF b = valF a + P25 * 4 := by
 obtain ⟨k0, k1, k2, k3, k4⟩ := hb
 simp only [valF, subS, P25]
 omega
theorem subQ_val {a b : Fe5} (hb : MayF b) : (valF (subQ a b) + valF b) % P25 = valF a % P25 := by
 rw [Nat.add_mod, subQ, carU_val, ← Nat.add_mod, subS_eq hb, Nat.add_mul_mod_self_left]
def prodS (a b : Fe5) : Fe5 :=
  ⟨a.a0 * b.a0 + a.a1 * (19 * b.a4) + a.a2 * (19 * b.a3) + a.a3 * (19 * b.a2) + a.a4 * (19 * b.a1),
   a.a0 * b.a1 + a.a1 * b.a0 + a.a2 * (19 * b.a4) + a.a3 * (19 * b.a3) + a.a4 * (19 * b.a2),
   a.a0 * b.a2 + a.a1 * b.a1 + a.a2 * b.a0 + a.a3 * (19 * b.a4) + a.a4 * (19 * b.a3),
   a.a0 * b.a3 + a.a1 * b.a2 + a.a2 * b.a1 + a.a3 * b.a0 + a.a4 * (19 * b.a4),
   a.a0 * b.a4 + a.a1 * b.a3 + a.a2 * b.a2 + a.a3 * b.a1 + a.a4 * b.a0⟩
theorem prod_gen (B p : Nat) (hp : B * (B * (B * (B * B))) = p + 19) (a b : Fe5) :
  (a.a0 + B * (a.a1 + B * (a.a2 + B * (a.a3 + B * a.a4)))) * (b.a0 + B * (b.a1 + B * (b.a2 + B * (b.a3 + B * b.a4)))) =
   ((prodS a b).a0 + B * ((prodS a b).a1 + B * ((prodS a b).a2 + B * ((prodS a b).a3 + B * (prodS a b).a4)))) +
    p * ((a.a1 * b.a4 + a.a2 * b.a3 + a.a3 * b.a2 + a.a4 * b.a1) + B * (a.a2 * b.a4 + a.a3 * b.a3 + a.a4 * b.a2 + B * (a.a3 * b.a4 + a.a4 * b.a3 + B * (a.a4 * b.a4)))) := by
 obtain ⟨x0, x1, x2, x3, x4⟩ := a
 obtain ⟨y0, y1, y2, y3, y4⟩ := b
 simp only [prodS]
 grind
theorem prodS_val (a b : Fe5) : valF (prodS a b) % P25 = valF a * valF b % P25 := by
 have h := prod_gen 2251799813685248 P25 (by decide +kernel) a b
 simp only [valF]
 rw [h, Nat.add_mul_mod_self_left]
theorem part_le {x y : Nat} (hx : x < 4503599627370496) (hy : y < 4503599627370496) : x * y ≤ 20282409603651661420747996954624 :=
 Nat.le_trans (Nat.mul_le_mul (show x ≤ 4503599627370495 by omega) (show y ≤ 4503599627370495 by omega)) (by decide)
theorem part19_le {x y : Nat} (hx : x < 4503599627370496) (hy : y < 4503599627370496) : x * (19 * y) ≤ 385365782469381566994211942137856 :=
 Nat.le_trans (Nat.mul_le_mul (show x ≤ 4503599627370495 by omega) (show 19 * y ≤ 19 * 4503599627370495 by omega)) (by decide)
theorem prodS_low {a b : Fe5} (ha : MayF a) (hb : MayF b) :
  (prodS a b).a0 < 2596148429267413814265248164610048 ∧ (prodS a b).a1 < 2596148429267413814265248164610048 ∧ (prodS a b).a2 < 2596148429267413814265248164610048 ∧
   (prodS a b).a3 < 2596148429267413814265248164610048 ∧ (prodS a b).a4 < 101412048018258307103739984773121 := by
 obtain ⟨h0, h1, h2, h3, h4⟩ := ha
 obtain ⟨k0, k1, k2, k3, k4⟩ := hb
 have p00 := part_le h0 k0
 have p01 := part_le h0 k1
 have p02 := part_le h0 k2
 have p03 := part_le h0 k3
 have p04 := part_le h0 k4
 have p10 := part_le h1 k0
 have p11 := part_le h1 k1
 have p12 := part_le h1 k2
 have p13 := part_le h1 k3
 have p20 := part_le h2 k0
 have p21 := part_le h2 k1
 have p22 := part_le h2 k2
 have p30 := part_le h3 k0
 have p31 := part_le h3 k1
 have p40 := part_le h4 k0
 have q14 := part19_le h1 k4
 have q23 := part19_le h2 k3
 have q24 := part19_le h2 k4
 have q32 := part19_le h3 k2
 have q33 := part19_le h3 k3
 have q34 := part19_le h3 k4
 have q41 := part19_le h4 k1
 have q42 := part19_le h4 k2
 have q43 := part19_le h4 k3
 have q44 := part19_le h4 k4
 simp only [prodS]
 omega
def mulQ (a b : Fe5) : Fe5 := carU (carU (prodS a b))
theorem mulQ_val (a b : Fe5) : valF (mulQ a b) % P25 = valF a * valF b % P25 := by rw [mulQ, carU_val, carU_val, prodS_val]
theorem mulQ_word {a b : Fe5} (ha : MayF a) (hb : MayF b) : WordF (carU (prodS a b)) := by
 obtain ⟨h0, h1, h2, h3, h4⟩ := prodS_low ha hb
 simp only [WordF, carU]
 omega
theorem mulQ_may {a b : Fe5} (ha : MayF a) (hb : MayF b) : MayF (mulQ a b) := carU_may (mulQ_word ha hb)
def partsU (v : Nat) : Fe5 := ⟨v % 2251799813685248, v / 2251799813685248 % 2251799813685248, v / 5070602400912917605986812821504 % 2251799813685248, v / 11417981541647679048466287755595961091061972992 % 2251799813685248, v / 25711008708143844408671393477458601640355247900524685364822016 % 2251799813685248⟩
def leastU (f : Fe5) : Fe5 := partsU (valF f % P25)
theorem P25_lt (n : Nat) : n % P25 < P25 := Nat.mod_lt _ (by decide)
theorem partsU_val {v : Nat} (h : v < 57896044618658097711785492504343953926634992332820282019728792003956564819968) : valF (partsU v) = v := by
 simp only [partsU, valF]
 omega
theorem partsU_may (v : Nat) : MayF (partsU v) := by
 simp only [partsU, MayF]
 omega
def sqU (a : Fe5) : Nat → Fe5
 | 0 => a
 | n + 1 => mulQ (sqU a n) (sqU a n)
theorem sqU_may {a : Fe5} (h : MayF a) : ∀ n, MayF (sqU a n)
 | 0 => h
 | n + 1 => mulQ_may (sqU_may h n) (sqU_may h n)
theorem sqU_val (a : Fe5) : ∀ n, valF (sqU a n) % P25 = valF a ^ 2 ^ n % P25
 | 0 => by simp [sqU]
 | n + 1 => by
  rw [sqU, mulQ_val, Nat.mul_mod, sqU_val a n, ← Nat.mul_mod, ← Nat.pow_add, Nat.pow_succ, Nat.mul_two]
def behU (p t : Fe5) (n : Nat) : Fe5 := mulQ (sqU p n) t
theorem behU_may {p t : Fe5} (hp : MayF p) (ht : MayF t) (n : Nat) : MayF (behU p t n) := mulQ_may (sqU_may hp n) ht
theorem behU_val {p t a : Fe5} {x y : Nat} (n : Nat) (hp : valF p % P25 = valF a ^ x % P25) (ht : valF t % P25 = valF a ^ y % P25) : valF (behU p t n) % P25 = valF a ^ (x * 2 ^ n + y) % P25 := by
 have h1 : valF p ^ 2 ^ n % P25 = valF a ^ (x * 2 ^ n) % P25 := by rw [Nat.pow_mod, hp, ← Nat.pow_mod, ← Nat.pow_mul]
 rw [behU, mulQ_val, Nat.mul_mod, sqU_val, h1, ht, ← Nat.mul_mod, ← Nat.pow_add]
def i2U (a : Fe5) : Fe5 := behU a a 1
def i5U (a : Fe5) : Fe5 := behU (behU (i2U a) (i2U a) 2) a 1
def i10U (a : Fe5) : Fe5 := behU (i5U a) (i5U a) 5
def i20U (a : Fe5) : Fe5 := behU (i10U a) (i10U a) 10
def i40U (a : Fe5) : Fe5 := behU (i20U a) (i20U a) 20
def i50U (a : Fe5) : Fe5 := behU (i40U a) (i10U a) 10
def i100U (a : Fe5) : Fe5 := behU (i50U a) (i50U a) 50
def i200U (a : Fe5) : Fe5 := behU (i100U a) (i100U a) 100
def i250U (a : Fe5) : Fe5 := behU (i200U a) (i50U a) 50
def i252U (a : Fe5) : Fe5 := behU (i250U a) a 2
def invU (a : Fe5) : Fe5 := behU (i252U a) (i2U a) 3
theorem i2U_may {a : Fe5} (h : MayF a) : MayF (i2U a) := behU_may h h 1
theorem i5U_may {a : Fe5} (h : MayF a) : MayF (i5U a) := behU_may (behU_may (i2U_may h) (i2U_may h) 2) h 1
theorem i10U_may {a : Fe5} (h : MayF a) : MayF (i10U a) := behU_may (i5U_may h) (i5U_may h) 5
theorem i20U_may {a : Fe5} (h : MayF a) : MayF (i20U a) := behU_may (i10U_may h) (i10U_may h) 10
theorem i40U_may {a : Fe5} (h : MayF a) : MayF (i40U a) := behU_may (i20U_may h) (i20U_may h) 20
theorem i50U_may {a : Fe5} (h : MayF a) : MayF (i50U a) := behU_may (i40U_may h) (i10U_may h) 10
theorem i100U_may {a : Fe5} (h : MayF a) : MayF (i100U a) := behU_may (i50U_may h) (i50U_may h) 50
theorem i200U_may {a : Fe5} (h : MayF a) : MayF (i200U a) := behU_may (i100U_may h) (i100U_may h) 100
theorem i250U_may {a : Fe5} (h : MayF a) : MayF (i250U a) := behU_may (i200U_may h) (i50U_may h) 50
theorem i252U_may {a : Fe5} (h : MayF a) : MayF (i252U a) := behU_may (i250U_may h) h 2
theorem invU_may {a : Fe5} (h : MayF a) : MayF (invU a) := behU_may (i252U_may h) (i2U_may h) 3
theorem invU_val (a : Fe5) : valF (invU a) % P25 = valF a ^ (P25 - 2) % P25 := by
 have e1 : valF a % P25 = valF a ^ 1 % P25 := by rw [Nat.pow_one]
 have e2 := behU_val 1 e1 e1
 have e5 := behU_val 1 (behU_val 2 e2 e2) e1
 have e10 := behU_val 5 e5 e5
 have e20 := behU_val 10 e10 e10
 have e40 := behU_val 20 e20 e20
 have e50 := behU_val 10 e40 e10
 have e100 := behU_val 50 e50 e50
 have e200 := behU_val 100 e100 e100
 have e250 := behU_val 50 e200 e50
 have e252 := behU_val 2 e250 e1
 have e := behU_val 3 e252 e2
 refine Eq.trans e ?_
 congr 2
end Go.Proofs.YtbiijdboolpaeaaDoor
