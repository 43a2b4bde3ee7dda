import Derived.Test.YtbiijdboolpaeaaGreatDoorH01
set_option linter.unusedVariables false
namespace Go.Proofs.YtbiijdboolpaeaaGreatDoor
end Go.Proofs.YtbiijdboolpaeaaGreatDoor
namespace Go.Proofs.YtbiijdboolpaeaaGreatDoor
structure Fe5 where
 a0 : Nat
 a1 : Nat
 a2 : Nat
 a3 : Nat
 a4 : Nat
def P25 : Nat := 57896044618658097711785492504343953926634992332820282019728792003956564819949
def valF (f : Fe5) : Nat := f.a0 + 2251799813685248 * (f.a1 + 2251799813685248 * (f.a2 + 2251799813685248 * (f.a3 + 2251799813685248 * f.a4)))
def MayF (f : Fe5) : Prop := f.a0 < 4503599627370496 ∧ f.a1 < 4503599627370496 ∧ f.a2 < 4503599627370496 ∧ f.a3 < 4503599627370496 ∧ f.a4 < 4503599627370496
def WordF (f : Fe5) : Prop := f.a0 < 18446744073709551616 ∧ f.a1 < 18446744073709551616 ∧ f.a2 < 18446744073709551616 ∧ f.a3 < 18446744073709551616 ∧ f.a4 < 18446744073709551616
instance (f : Fe5) : Decidable (MayF f) := by unfold MayF; infer_instance
theorem MayF.word {f : Fe5} (h : MayF f) : WordF f := by
 obtain ⟨h0, h1, h2, h3, h4⟩ := h
 exact ⟨by omega, by omega, by omega, by omega, by omega⟩
def carU (f : Fe5) : Fe5 :=
  ⟨f.a0 % 2251799813685248 + 19 * (f.a4 / 2251799813685248), f.a1 % 2251799813685248 + f.a0 / 2251799813685248, f.a2 % 2251799813685248 + f.a1 / 2251799813685248,
   f.a3 % 2251799813685248 + f.a2 / 2251799813685248, f.a4 % 2251799813685248 + f.a3 / 2251799813685248⟩
theorem carU_eq (f : Fe5) : valF (carU f) + P25 * (f.a4 / 2251799813685248) = valF f := by
 obtain ⟨x0, x1, x2, x3, x4⟩ := f
 simp only [valF, carU, P25]
 omega
theorem carU_val (f : Fe5) : valF (carU f) % P25 = valF f % P25 := by
 rw [← carU_eq f, Nat.add_mul_mod_self_left]
theorem carU_may {f : Fe5} (h : WordF f) : MayF (carU f) := by
 obtain ⟨x0, x1, x2, x3, x4⟩ := f
 obtain ⟨h0, h1, h2, h3, h4⟩ := h
 simp only [MayF, carU] at *
 omega
def addS (a b : Fe5) : Fe5 := ⟨a.a0 + b.a0, a.a1 + b.a1, a.a2 + b.a2, a.a3 + b.a3, a.a4 + b.a4⟩
def addQ (a b : Fe5) : Fe5 := carU (addS a b)
theorem addS_word {a b : Fe5} (ha : MayF a) (hb : MayF b) : WordF (addS a b) := by
 obtain ⟨h0, h1, h2, h3, h4⟩ := ha
 obtain ⟨k0, k1, k2, k3, k4⟩ := hb
 simp only [WordF, addS]
 omega
theorem addQ_may {a b : Fe5} (ha : MayF a) (hb : MayF b) : MayF (addQ a b) := carU_may (addS_word ha hb)
theorem addQ_val (a b : Fe5) : valF (addQ a b) % P25 = (valF a + valF b) % P25 := by
 rw [addQ, carU_val]
 congr 1
 simp only [valF, addS]
 omega
def subS (a b : Fe5) : Fe5 := ⟨a.a0 + (9007199254740916 - b.a0), a.a1 + (9007199254740988 - b.a1), a.a2 + (9007199254740988 - b.a2), a.a3 + (9007199254740988 - b.a3), a.a4 + (9007199254740988 - b.a4)⟩
def subQ (a b : Fe5) : Fe5 := carU (subS a b)
theorem subS_word {a b : Fe5} (ha : MayF a) (hb : MayF b) : WordF (subS a b) := by
 obtain ⟨h0, h1, h2, h3, h4⟩ := ha
 obtain ⟨k0, k1, k2, k3, k4⟩ := hb
 simp only [WordF, subS]
 omega
theorem subQ_may {a b : Fe5} (ha : MayF a) (hb : MayF b) : MayF (subQ a b) := carU_may (subS_word ha hb)
theorem subS_eq {a b : Fe5} (hb : MayF b) : valF (subS a b) + valF b = valF a + P25 * 4 := by
 obtain ⟨k0, k1, k2, k3, k4⟩ := hb
 simp only [valF, subS, P25]
 omega
theorem subQ_val {a b : Fe5} (hb : MayF b) : (valF (subQ a b) + valF b) % P25 = valF a % P25 := by
 rw [Nat.add_mod, subQ, carU_val, ← Nat.add_mod, subS_eq hb, Nat.add_mul_mod_self_left]
def prodS (a b : Fe5) : Fe5 :=
  ⟨a.a0 * b.a0 + a.a1 * (19 * b.a4) + a.a2 * (19 * b.a3) + a.a3 * (19 * b.a2) + a.a4 * (19 * b.a1),
   a.a0 * b.a1 + a.a1 * b.a0 + a.a2 * (19 * b.a4) + a.a3 * (19 * b.a3) + a.a4 * (19 * b.a2),
   a.a0 * b.a2 + a.a1 * b.a1 + a.a2 * b.a0 + a.a3 * (19 * b.a4) + a.a4 * (19 * b.a3),
   a.a0 * b.a3 + a.a1 * b.a2 + a.a2 * b.a1 + a.a3 * b.a0 + a.a4 * (19 * b.a4),
   a.a0 * b.a4 + a.a1 * b.a3 + a.a2 * b.a2 + a.a3 * b.a1 + a.a4 * b.a0⟩
theorem prod_gen (B p : Nat) (hp : B * (B * (B * (B * B))) = p + 19) (a b : Fe5) :
  (a.a0 + B * (a.a1 + B * (a.a2 + B * (a.a3 + B * a.a4)))) * (b.a0 + B * (b.a1 + B * (b.a2 + B * (b.a3 + B * b.a4)))) =
   ((prodS a b).a0 + B * ((prodS a b).a1 + B * ((prodS a b).a2 + B * ((prodS a b).a3 + B * (prodS a b).a4)))) +
    p * ((a.a1 * b.a4 + a.a2 * b.a3 + a.a3 * b.a2 + a.a4 * b.a1) + B * (a.a2 * b.a4 + a.a3 * b.a3 + a.a4 * b.a2 + B * (a.a3 * b.a4 + a.a4 * b.a3 + B * (a.a4 * b.a4)))) := by
 obtain ⟨x0, x1, x2, x3, x4⟩ := a
 obtain ⟨y0, y1, y2, y3, y4⟩ := b
 simp only [prodS]
 grind
theorem prodS_val (a b : Fe5) : valF (prodS a b) % P25 = valF a * valF b % P25 := by
 have h := prod_gen 2251799813685248 P25 (by decide +kernel) a b
 simp only [valF]
 rw [h, Nat.add_mul_mod_self_left]
theorem part_le {x y : Nat} (hx : x < 4503599627370496) (hy : y < 4503599627370496) : x * y ≤ 20282409603651661420747996954624 :=
 Nat.le_trans (Nat.mul_le_mul (show x ≤ 4503599627370495 by omega) (show y ≤ 4503599627370495 by omega)) (by decide)
theorem part19_le {x y : Nat} (hx : x < 4503599627370496) (hy : y < 4503599627370496) : x * (19 * y) ≤ 385365782469381566994211942137856 :=
 Nat.le_trans (Nat.mul_le_mul (show x ≤ 4503599627370495 by omega) (show 19 * y ≤ 19 * 4503599627370495 by omega)) (by decide)
theorem prodS_low {a b : Fe5} (ha : MayF a) (hb : MayF b) :
  (prodS a b).a0 < 2596148429267413814265248164610048 ∧ (prodS a b).a1 < 2596148429267413814265248164610048 ∧ (prodS a b).a2 < 2596148429267413814265248164610048 ∧
   (prodS a b).a3 < 2596148429267413814265248164610048 ∧ (prodS a b).a4 < 101412048018258307103739984773121 := by
 obtain ⟨h0, h1, h2, h3, h4⟩ := ha
 obtain ⟨k0, k1, k2, k3, k4⟩ := hb
 have p00 := part_le h0 k0
 have p01 := part_le h0 k1
 have p02 := part_le h0 k2
 have p03 := part_le h0 k3
 have p04 := part_le h0 k4
 have p10 := part_le h1 k0
 have p11 := part_le h1 k1
 have p12 := part_le h1 k2
 have p13 := part_le h1 k3
 have p20 := part_le h2 k0
 have p21 := part_le h2 k1
 have p22 := part_le h2 k2
 have p30 := part_le h3 k0
 have p31 := part_le h3 k1
 have p40 := part_le h4 k0
 have q14 := part19_le h1 k4
 have q23 := part19_le h2 k3
 have q24 := part19_le h2 k4
 have q32 := part19_le h3 k2
 have q33 := part19_le h3 k3
 have q34 := part19_le h3 k4
 have q41 := part19_le h4 k1
 have q42 := part19_le h4 k2
 have q43 := part19_le h4 k3
 have q44 := part19_le h4 k4
 simp only [prodS]
 omega
def mulQ (a b : Fe5) : Fe5 := carU (carU (prodS a b))
theorem mulQ_val (a b : Fe5) : valF (mulQ a b) % P25 = valF a * valF b % P25 := by rw [mulQ, carU_val, carU_val, prodS_val]
theorem mulQ_word {a b : Fe5} (ha : MayF a) (hb : MayF b) : WordF (carU (prodS a b)) := by
 obtain ⟨h0, h1, h2, h3, h4⟩ := prodS_low ha hb
 simp only [WordF, carU]
 omega
theorem mulQ_may {a b : Fe5} (ha : MayF a) (hb : MayF b) : MayF (mulQ a b) := carU_may (mulQ_word ha hb)
def partsU (v : Nat) : Fe5 := ⟨v % 2251799813685248, v / 2251799813685248 % 2251799813685248, v / 5070602400912917605986812821504 % 2251799813685248, v / 11417981541647679048466287755595961091061972992 % 2251799813685248, v / 25711008708143844408671393477458601640355247900524685364822016 % 2251799813685248⟩
def leastU (f : Fe5) : Fe5 := partsU (valF f % P25)
theorem P25_lt (n : Nat) : n % P25 < P25 := Nat.mod_lt _ (by decide)
theorem partsU_val {v : Nat} (h : v < 57896044618658097711785492504343953926634992332820282019728792003956564819968) : valF (partsU v) = v := by
 simp only [partsU, valF]
 omega
theorem partsU_may (v : Nat) : MayF (partsU v) := by
 simp only [partsU, MayF]
 omega
def sqU (a : Fe5) : Nat → Fe5
 | 0 => a
 | n + 1 => mulQ (sqU a n) (sqU a n)
theorem sqU_may {a : Fe5} (h : MayF a) : ∀ n, MayF (sqU a n)
 | 0 => h
 | n + 1 => mulQ_may (sqU_may h n) (sqU_may h n)
theorem sqU_val (a : Fe5) : ∀ n, valF (sqU a n) % P25 = valF a ^ 2 ^ n % P25
 | 0 => by simp [sqU]
 | n + 1 => by
  rw [sqU, mulQ_val, Nat.mul_mod, sqU_val a n, ← Nat.mul_mod, ← Nat.pow_add, Nat.pow_succ, Nat.mul_two]
def behU (p t : Fe5) (n : Nat) : Fe5 := mulQ (sqU p n) t
theorem behU_may {p t : Fe5} (hp : MayF p) (ht : MayF t) (n : Nat) : MayF (behU p t n) := mulQ_may (sqU_may hp n) ht
theorem behU_val {p t a : Fe5} {x y : Nat} (n : Nat) (hp : valF p % P25 = valF a ^ x % P25) (ht : valF t % P25 = valF a ^ y % P25) : valF (behU p t n) % P25 = valF a ^ (x * 2 ^ n + y) % P25 := by
 have h1 : valF p ^ 2 ^ n % P25 = valF a ^ (x * 2 ^ n) % P25 := by rw [Nat.pow_mod, hp, ← Nat.pow_mod, ← Nat.pow_mul]
 rw [behU, mulQ_val, Nat.mul_mod, sqU_val, h1, ht, ← Nat.mul_mod, ← Nat.pow_add]
def i2U (a : Fe5) : Fe5 := behU a a 1
def i5U (a : Fe5) : Fe5 := behU (behU (i2U a) (i2U a) 2) a 1
def i10U (a : Fe5) : Fe5 := behU (i5U a) (i5U a) 5
def i20U (a : Fe5) : Fe5 := behU (i10U a) (i10U a) 10
def i40U (a : Fe5) : Fe5 := behU (i20U a) (i20U a) 20
def i50U (a : Fe5) : Fe5 := behU (i40U a) (i10U a) 10
def i100U (a : Fe5) : Fe5 := behU (i50U a) (i50U a) 50
def i200U (a : Fe5) : Fe5 := behU (i100U a) (i100U a) 100
def i250U (a : Fe5) : Fe5 := behU (i200U a) (i50U a) 50
def i252U (a : Fe5) : Fe5 := behU (i250U a) a 2
def invU (a : Fe5) : Fe5 := behU (i252U a) (i2U a) 3
theorem i2U_may {a : Fe5} (h : MayF a) : MayF (i2U a) := behU_may h h 1
theorem i5U_may {a : Fe5} (h : MayF a) : MayF (i5U a) := behU_may (behU_may (i2U_may h) (i2U_may h) 2) h 1
theorem i10U_may {a : Fe5} (h : MayF a) : MayF (i10U a) := behU_may (i5U_may h) (i5U_may h) 5
theorem i20U_may {a : Fe5} (h : MayF a) : MayF (i20U a) := behU_may (i10U_may h) (i10U_may h) 10
theorem i40U_may {a : Fe5} (h : MayF a) : MayF (i40U a) := behU_may (i20U_may h) (i20U_may h) 20
theorem i50U_may {a : Fe5} (h : MayF a) : MayF (i50U a) := behU_may (i40U_may h) (i10U_may h) 10
theorem i100U_may {a : Fe5} (h : MayF a) : MayF (i100U a) := behU_may (i50U_may h) (i50U_may h) 50
theorem i200U_may {a : Fe5} (h : MayF a) : MayF (i200U a) := behU_may (i100U_may h) (i100U_may h) 100
theorem i250U_may {a : Fe5} (h : MayF a) : MayF (i250U a) := behU_may (i200U_may h) (i50U_may h) 50
theorem i252U_may {a : Fe5} (h : MayF a) : MayF (i252U a) := behU_may (i250U_may h) h 2
theorem invU_may {a : Fe5} (h : MayF a) : MayF (invU a) := behU_may (i252U_may h) (i2U_may h) 3
theorem invU_val (a : Fe5) : valF (invU a) % P25 = valF a ^ (P25 - 2) % P25 := by
 have e1 : valF a % P25 = valF a ^ 1 % P25 := by rw [Nat.pow_one]
 have e2 := behU_val 1 e1 e1
 have e5 := behU_val 1 (behU_val 2 e2 e2) e1
 have e10 := behU_val 5 e5 e5
 have e20 := behU_val 10 e10 e10
 have e40 := behU_val 20 e20 e20
 have e50 := behU_val 10 e40 e10
 have e100 := behU_val 50 e50 e50
 have e200 := behU_val 100 e100 e100
 have e250 := behU_val 50 e200 e50
 have e252 := behU_val 2 e250 e1
 have e := behU_val 3 e252 e2
 refine Eq.trans e ?_
 congr 2
end Go.Proofs.YtbiijdboolpaeaaGreatDoor
