import Derived.Test.YtbiijdboolpaeaaDoorG13
set_option linter.unusedVariables false
namespace Go.Proofs.YtbiijdboolpaeaaDoor.Crv
section
variable {p : Nat} [NeZero p]
structure Fld (inv : Fin p → Fin p) : Prop where
 two : (2 : Fin p) ≠ 0
 mul_inv : ∀ a : Fin p, a ≠ 0 → a * inv a = 1
 inv_zero : inv 0 = 0
variable {inv : Fin p → Fin p}
theorem Fld.mul_ne (F : Fld inv) {a b : Fin p} (ha : a ≠ 0) (hb : b ≠ 0) : a * b ≠ 0 := fun h => by
 have h1 := F.mul_inv a ha
 have h2 : b = inv a * (a * b) := by grind
 rw [h] at h2
 exact hb (by grind)
theorem Fld.zero_or (F : Fld inv) {a b : Fin p} (h : a * b = 0) : a = 0 ∨ b = 0 := by
 by_cases ha : a = 0
 ·
  exact .inl ha
 ·
  by_cases hb : b = 0
  ·
   exact .inr hb
  ·
   exact absurd h (F.mul_ne ha hb)
theorem Fld.cancel (F : Fld inv) {m a b : Fin p} (hm : m ≠ 0) (h : m * a = m * b) : a = b := by
 have h1 := F.mul_inv m hm
 have h2 : inv m * (m * a) = inv m * (m * b) := by rw [h]
 grind
theorem Fld.frac (F : Fld inv) {n1 d1 n2 d2 : Fin p} (h1 : d1 ≠ 0) (h2 : d2 ≠ 0) (h : n1 * d2 = n2 * d1) : n1 * inv d1 = n2 * inv d2 := by
 have e1 := F.mul_inv d1 h1
 have e2 := F.mul_inv d2 h2
 grind
theorem Fld.one_ne (F : Fld inv) : (1 : Fin p) ≠ 0 := fun h => F.two (by grind)
theorem Fld.sq (F : Fld inv) {d a m : Fin p} (hd : ∀ r : Fin p, r * r ≠ d) (h : a * a = d * (m * m)) : m = 0 := by
 by_cases hm : m = 0
 ·
  exact hm
 ·
  have e := F.mul_inv m hm
  exact absurd (show (a * inv m) * (a * inv m) = d by grind) (hd _)
def On (d : Fin p) (P : Fin p × Fin p) : Prop := P.1 * P.1 + P.2 * P.2 = 1 + d * (P.1 * P.1) * (P.2 * P.2)
def eT (d : Fin p) (P Q : Fin p × Fin p) : Fin p := d * P.1 * Q.1 * P.2 * Q.2
def eAdd (inv : Fin p → Fin p) (d : Fin p) (P Q : Fin p × Fin p) : Fin p × Fin p :=
 ((P.1 * Q.2 + P.2 * Q.1) * inv (1 + eT d P Q), (P.2 * Q.2 - P.1 * Q.1) * inv (1 - eT d P Q))
theorem complete (F : Fld inv) {d : Fin p} (hd : ∀ r : Fin p, r * r ≠ d) {P Q : Fin p × Fin p} (hP : On d P) (hQ : On d Q) : eT d P Q * eT d P Q ≠ 1 := by
 obtain ⟨x1, y1⟩ := P
 obtain ⟨x2, y2⟩ := Q
 simp only [On, eT] at *
 intro ht
 have m1 : x1 * y1 * (x2 + y2) = 0 := F.sq (a := x1 + d * x1 * x2 * y1 * y2 * y1) hd (by grind)
 have m2 : x1 * y1 * (x2 - y2) = 0 := F.sq (a := x1 - d * x1 * x2 * y1 * y2 * y1) hd (by grind)
 exact F.two (by grind)
theorem dens (F : Fld inv) {d : Fin p} (hd : ∀ r : Fin p, r * r ≠ d) {P Q : Fin p × Fin p} (hP : On d P) (hQ : On d Q) : 1 + eT d P Q ≠ 0 ∧ 1 - eT d P Q ≠ 0 := by
 have h := complete F hd hP hQ
 generalize eT d P Q = t at *
 exact ⟨fun e => h (by grind), fun e => h (by grind)⟩
theorem sum_rel (F : Fld inv) {d : Fin p} (hd : ∀ r : Fin p, r * r ≠ d) {P Q : Fin p × Fin p} (hP : On d P) (hQ : On d Q) :
  (eAdd inv d P Q).1 * (1 + eT d P Q) = P.1 * Q.2 + P.2 * Q.1 ∧ (eAdd inv d P Q).2 * (1 - eT d P Q) = P.2 * Q.2 - P.1 * Q.1 := by
 obtain ⟨h1, h2⟩ := dens F hd hP hQ
 have e1 := F.mul_inv _ h1
 have e2 := F.mul_inv _ h2
 simp only [eAdd]
 constructor <;> grind
theorem on_poly (x1 y1 x2 y2 d : Fin p) (h1 : x1*x1 + y1*y1 = 1 + d*(x1*x1)*(y1*y1)) (h2 : x2*x2 + y2*y2 = 1 + d*(x2*x2)*(y2*y2)) :
 (x1*y2+y1*x2)*(x1*y2+y1*x2)*((1-d*x1*x2*y1*y2)*(1-d*x1*x2*y1*y2)) + (y1*y2-x1*x2)*(y1*y2-x1*x2)*((1+d*x1*x2*y1*y2)*(1+d*x1*x2*y1*y2)) = (1-d*x1*x2*y1*y2)*(1-d*x1*x2*y1*y2)*((1+d*x1*x2*y1*y2)*(1+d*x1*x2*y1*y2)) + d*((x1*y2+y1*x2)*(x1*y2+y1*x2))*((y1*y2-x1*x2)*(y1*y2-x1*x2)) := by grind
theorem add_on (F : Fld inv) {d : Fin p} (hd : ∀ r : Fin p, r * r ≠ d) {P Q : Fin p × Fin p} (hP : On d P) (hQ : On d Q) : On d (eAdd inv d P Q) := by
 obtain ⟨n1, n2⟩ := dens F hd hP hQ
 obtain ⟨r1, r2⟩ := sum_rel F hd hP hQ
 have hp := on_poly P.1 P.2 Q.1 Q.2 d hP hQ
 unfold On
 unfold eT at *
 generalize eAdd inv d P Q = R at *
 obtain ⟨x1, y1⟩ := P
 obtain ⟨x2, y2⟩ := Q
 obtain ⟨x3, y3⟩ := R
 simp only at *
 rw [← r1, ← r2] at hp
 clear r1 r2
 generalize 1 + d * x1 * x2 * y1 * y2 = b at *
 generalize 1 - d * x1 * x2 * y1 * y2 = e at *
 refine F.cancel (m := b * b * (e * e)) (F.mul_ne (F.mul_ne n1 n1) (F.mul_ne n2 n2)) ?_
 clear hP hQ
 grind
theorem assoc_x (x1 y1 x2 y2 x3 y3 d : Fin p)
  (h1 : x1*x1 + y1*y1 = 1 + d*(x1*x1)*(y1*y1)) (h2 : x2*x2 + y2*y2 = 1 + d*(x2*x2)*(y2*y2)) (h3 : x3*x3 + y3*y3 = 1 + d*(x3*x3)*(y3*y3)) :
  ((x1*y2+y1*x2)*(1-d*x1*x2*y1*y2)*y3 + (y1*y2-x1*x2)*(1+d*x1*x2*y1*y2)*x3) * ((1+d*x2*x3*y2*y3)*(1-d*x2*x3*y2*y3) + d*(x2*y3+y2*x3)*(y2*y3-x2*x3)*x1*y1)
   = (x1*(y2*y3-x2*x3)*(1+d*x2*x3*y2*y3) + y1*(x2*y3+y2*x3)*(1-d*x2*x3*y2*y3)) * ((1+d*x1*x2*y1*y2)*(1-d*x1*x2*y1*y2) + d*(x1*y2+y1*x2)*(y1*y2-x1*x2)*x3*y3) := by
  grind
theorem assoc_y (x1 y1 x2 y2 x3 y3 d : Fin p)
  (h1 : x1*x1 + y1*y1 = 1 + d*(x1*x1)*(y1*y1)) (h2 : x2*x2 + y2*y2 = 1 + d*(x2*x2)*(y2*y2)) (h3 : x3*x3 + y3*y3 = 1 + d*(x3*x3)*(y3*y3)) :
  ((y1*y2-x1*x2)*(1+d*x1*x2*y1*y2)*y3 - (x1*y2+y1*x2)*(1-d*x1*x2*y1*y2)*x3) * ((1+d*x2*x3*y2*y3)*(1-d*x2*x3*y2*y3) - d*(x2*y3+y2*x3)*(y2*y3-x2*x3)*x1*y1)
   = (y1*(y2*y3-x2*x3)*(1+d*x2*x3*y2*y3) - x1*(x2*y3+y2*x3)*(1-d*x2*x3*y2*y3)) * ((1+d*x1*x2*y1*y2)*(1-d*x1*x2*y1*y2) - d*(x1*y2+y1*x2)*(y1*y2-x1*x2)*x3*y3) := by
  grind
theorem add_assoc (F : Fld inv) {d : Fin p} (hd : ∀ r : Fin p, r * r ≠ d) {P Q R : Fin p × Fin p} (hP : On d P) (hQ : On d Q) (hR : On d R) :
  eAdd inv d (eAdd inv d P Q) R = eAdd inv d P (eAdd inv d Q R) := by
 obtain ⟨n1, n2⟩ := dens F hd hP hQ
 obtain ⟨n3, n4⟩ := dens F hd hQ hR
 obtain ⟨r1, r2⟩ := sum_rel F hd hP hQ
 obtain ⟨r3, r4⟩ := sum_rel F hd hQ hR
 obtain ⟨n5, n6⟩ := dens F hd (add_on F hd hP hQ) hR
 obtain ⟨n7, n8⟩ := dens F hd hP (add_on F hd hQ hR)
 have ax := assoc_x P.1 P.2 Q.1 Q.2 R.1 R.2 d hP hQ hR
 have ay := assoc_y P.1 P.2 Q.1 Q.2 R.1 R.2 d hP hQ hR
 clear hP hQ hR
 generalize eAdd inv d P Q = S at *
 generalize eAdd inv d Q R = T at *
 obtain ⟨x1, y1⟩ := P
 obtain ⟨x2, y2⟩ := Q
 obtain ⟨x3, y3⟩ := R
 obtain ⟨xs, ys⟩ := S
 obtain ⟨xt, yt⟩ := T
 simp only [eT, eAdd, Prod.mk.injEq] at *
 rw [← r1, ← r2, ← r3, ← r4] at ax ay
 clear r1 r2 r3 r4
 generalize 1 + d * x1 * x2 * y1 * y2 = b at *
 generalize 1 - d * x1 * x2 * y1 * y2 = e at *
 generalize 1 + d * x2 * x3 * y2 * y3 = b' at *
 generalize 1 - d * x2 * x3 * y2 * y3 = e' at *
 have hm := F.mul_ne (F.mul_ne n1 n2) (F.mul_ne n3 n4)
 refine ⟨F.frac n5 n7 (F.cancel hm ?_), F.frac n6 n8 (F.cancel hm ?_)⟩
 ·
  have k1 : b * e * (b' * e') * ((xs * y3 + ys * x3) * (1 + d * x1 * xt * y1 * yt)) = (xs * b * e * y3 + ys * e * b * x3) * (b' * e' + d * (xt * b') * (yt * e') * x1 * y1) := by grind
  have k2 : b * e * (b' * e') * ((x1 * yt + y1 * xt) * (1 + d * xs * x3 * ys * y3)) = (x1 * (yt * e') * b' + y1 * (xt * b') * e') * (b * e + d * (xs * b) * (ys * e) * x3 * y3) := by grind
  rw [k1, k2]
  exact ax
 ·
  have k1 : b * e * (b' * e') * ((ys * y3 - xs * x3) * (1 - d * x1 * xt * y1 * yt)) = (ys * e * b * y3 - xs * b * e * x3) * (b' * e' - d * (xt * b') * (yt * e') * x1 * y1) := by grind
  have k2 : b * e * (b' * e') * ((y1 * yt - x1 * xt) * (1 - d * xs * x3 * ys * y3)) = (y1 * (yt * e') * b' - x1 * (xt * b') * e') * (b * e - d * (xs * b) * (ys * e) * x3 * y3) := by grind
  rw [k1, k2]
  exact ay
theorem add_comm (d : Fin p) (P Q : Fin p × Fin p) : eAdd inv d P Q = eAdd inv d Q P := by
 simp only [eAdd, eT]
 rw [show d * Q.1 * P.1 * Q.2 * P.2 = d * P.1 * Q.1 * P.2 * Q.2 by grind, show Q.1 * P.2 + Q.2 * P.1 = P.1 * Q.2 + P.2 * Q.1 by grind, show Q.2 * P.2 - Q.1 * P.1 = P.2 * Q.2 - P.1 * Q.1 by grind]
def eO : Fin p × Fin p := (0, 1)
theorem on_O (d : Fin p) : On d eO := by simp only [On, eO]; grind
theorem inv_one (F : Fld inv) : inv 1 = 1 := by
 have := F.mul_inv 1 F.one_ne
 grind
theorem add_O (F : Fld inv) (d : Fin p) (P : Fin p × Fin p) : eAdd inv d P eO = P := by
 obtain ⟨x, y⟩ := P
 have h := inv_one F
 simp only [eAdd, eT, eO]
 rw [show (1 : Fin p) + d * x * 0 * y * 1 = 1 by grind, show (1 : Fin p) - d * x * 0 * y * 1 = 1 by grind, h]
 congr 1 <;> grind
def eMul (inv : Fin p → Fin p) (d : Fin p) (P : Fin p × Fin p) : Nat → Fin p × Fin p
 | 0 => eO
 | n + 1 => eAdd inv d (eMul inv d P n) P
theorem mul_on (F : Fld inv) {d : Fin p} (hd : ∀ r : Fin p, r * r ≠ d) {P : Fin p × Fin p} (hP : On d P) : ∀ n, On d (eMul inv d P n)
 | 0 => on_O d
 | n + 1 => add_on F hd (mul_on F hd hP n) hP
theorem mul_add (F : Fld inv) {d : Fin p} (hd : ∀ r : Fin p, r * r ≠ d) {P : Fin p × Fin p} (hP : On d P) (m : Nat) : ∀ n, eMul inv d P (m + n) = eAdd inv d (eMul inv d P m) (eMul inv d P n)
 | 0 => (add_O F d _).symm
 | n + 1 => by
  rw [← Nat.add_assoc, eMul, mul_add F hd hP m n, eMul, add_assoc F hd (mul_on F hd hP m) (mul_on F hd hP n) hP]
theorem mul_mul (F : Fld inv) {d : Fin p} (hd : ∀ r : Fin p, r * r ≠ d) {P : Fin p × Fin p} (hP : On d P) (m : Nat) : ∀ n, eMul inv d (eMul inv d P m) n = eMul inv d P (m * n)
 | 0 => rfl
 | n + 1 => by rw [eMul, mul_mul F hd hP m n, Nat.mul_succ, mul_add F hd hP]
theorem mul_O (F : Fld inv) (d : Fin p) : ∀ n, eMul inv d eO n = eO
 | 0 => rfl
 | n + 1 => by rw [eMul, mul_O F d n, add_O F]
def eNeg (P : Fin p × Fin p) : Fin p × Fin p := (-P.1, P.2)
theorem neg_on {d : Fin p} {P : Fin p × Fin p} (h : On d P) : On d (eNeg P) := by
 simp only [On, eNeg] at *
 grind
theorem add_neg (F : Fld inv) {d : Fin p} (hd : ∀ r : Fin p, r * r ≠ d) {P : Fin p × Fin p} (hP : On d P) : eAdd inv d P (eNeg P) = eO := by
 obtain ⟨n1, n2⟩ := dens F hd hP (neg_on hP)
 obtain ⟨r1, r2⟩ := sum_rel F hd hP (neg_on hP)
 generalize eAdd inv d P (eNeg P) = S at *
 obtain ⟨x, y⟩ := P
 obtain ⟨u, v⟩ := S
 simp only [On, eT, eNeg, eO] at *
 have h1 : u = 0 := by
  rcases F.zero_or (show u * (1 + d * x * -x * y * y) = 0 by grind) with h | h
  ·
   exact h
  ·
   exact absurd h n1
 have h2 : v = 1 := F.cancel n2 (by grind)
 rw [h1, h2]
theorem mul_less (F : Fld inv) {d : Fin p} (hd : ∀ r : Fin p, r * r ≠ d) {P : Fin p × Fin p} (hP : On d P) (n : Nat) : eAdd inv d (eMul inv d P (n + 1)) (eNeg (eMul inv d P n)) = P := by
 have hn := mul_on F hd hP n
 rw [eMul, add_comm (P := eMul inv d P n), add_assoc F hd hP hn (neg_on hn), add_neg F hd hn, add_O F]
theorem dif_poly (x1 y1 x2 y2 d : Fin p) (h1 : x1*x1 + y1*y1 = 1 + d*(x1*x1)*(y1*y1)) (h2 : x2*x2 + y2*y2 = 1 + d*(x2*x2)*(y2*y2)) :
  ((1 + d*x1*x2*y1*y2) - (y1*y2+x1*x2)) * ((1 - d*x1*x2*y1*y2) - (y1*y2-x1*x2)) * ((y1+y2)*(y1+y2)) = ((1 + d*x1*x2*y1*y2) + (y1*y2+x1*x2)) * ((1 - d*x1*x2*y1*y2) + (y1*y2-x1*x2)) * ((y1-y2)*(y1-y2)) := by grind
theorem dif_rel (F : Fld inv) {d : Fin p} (hd : ∀ r : Fin p, r * r ≠ d) {P Q : Fin p × Fin p} (hP : On d P) (hQ : On d Q) :
  (1 - (eAdd inv d P (eNeg Q)).2) * (1 - (eAdd inv d P Q).2) * ((P.2 + Q.2) * (P.2 + Q.2)) = (1 + (eAdd inv d P (eNeg Q)).2) * (1 + (eAdd inv d P Q).2) * ((P.2 - Q.2) * (P.2 - Q.2)) := by
 obtain ⟨n1, n2⟩ := dens F hd hP hQ
 obtain ⟨r1, r2⟩ := sum_rel F hd hP hQ
 obtain ⟨r3, r4⟩ := sum_rel F hd hP (neg_on hQ)
 have hp := dif_poly P.1 P.2 Q.1 Q.2 d hP hQ
 clear hP hQ r1 r3
 generalize (eAdd inv d P Q).2 = s at *
 generalize (eAdd inv d P (eNeg Q)).2 = w at *
 obtain ⟨x1, y1⟩ := P
 obtain ⟨x2, y2⟩ := Q
 simp only [eT, eNeg] at *
 rw [show (1 : Fin p) - d * x1 * -x2 * y1 * y2 = 1 + d * x1 * x2 * y1 * y2 by grind, show y1 * y2 - x1 * -x2 = y1 * y2 + x1 * x2 by grind] at r4
 rw [← r2, ← r4] at hp
 clear r2 r4
 generalize 1 + d * x1 * x2 * y1 * y2 = b at *
 generalize 1 - d * x1 * x2 * y1 * y2 = e at *
 refine F.cancel (m := b * e) (F.mul_ne n1 n2) ?_
 grind
theorem dbl_poly (x y d a : Fin p) (h : x*x + y*y = 1 + d*(x*x)*(y*y)) (ha : d * (1 + a) = a) :
  (1 + a) * ((1 - d*x*x*y*y) * (y*y - (1 - y*y) - a*((1 - y*y)*(1 - y*y)))) = (1 + a) * ((y*y - x*x) * (1 + a*((1 - y*y)*(1 - y*y)))) := by grind
def Rep (q : Fin p × Fin p) (v : Fin p) : Prop := q.1 - q.2 = v * (q.1 + q.2) ∧ q.1 + q.2 ≠ 0
def dbl (a : Fin p) (q : Fin p × Fin p) : Fin p × Fin p :=
 (((q.1 + q.2) * (q.1 + q.2)) * ((q.1 - q.2) * (q.1 - q.2)),
  ((q.1 + q.2) * (q.1 + q.2) - (q.1 - q.2) * (q.1 - q.2)) * ((q.1 + q.2) * (q.1 + q.2) + a * ((q.1 + q.2) * (q.1 + q.2) - (q.1 - q.2) * (q.1 - q.2))))
def dif (u : Fin p) (q s : Fin p × Fin p) : Fin p × Fin p :=
 (((s.1 - s.2) * (q.1 + q.2) + (s.1 + s.2) * (q.1 - q.2)) * ((s.1 - s.2) * (q.1 + q.2) + (s.1 + s.2) * (q.1 - q.2)),
  u * (((s.1 - s.2) * (q.1 + q.2) - (s.1 + s.2) * (q.1 - q.2)) * ((s.1 - s.2) * (q.1 + q.2) - (s.1 + s.2) * (q.1 - q.2))))
theorem dif_swap (u : Fin p) (q s : Fin p × Fin p) : dif u s q = dif u q s := by
 simp only [dif, Prod.mk.injEq]
 constructor <;> grind
theorem one_more_ne (F : Fld inv) {d a : Fin p} (ha : d * (1 + a) = a) : 1 + a ≠ 0 := fun h => by
 rw [h] at ha
 exact F.one_ne (by grind)
theorem ring_a (L y s a : Fin p) (h : (y*y - (1 - y*y) - a*((1 - y*y)*(1 - y*y))) = s * (1 + a*((1 - y*y)*(1 - y*y)))) :
  L * L * (y * L * (y * L)) - (L * L - y * L * (y * L)) * (L * L + a * (L * L - y * L * (y * L))) = s * (L * L * (y * L * (y * L)) + (L * L - y * L * (y * L)) * (L * L + a * (L * L - y * L * (y * L)))) := by
 have e1 : L * L * (y * L * (y * L)) - (L * L - y * L * (y * L)) * (L * L + a * (L * L - y * L * (y * L))) = L * L * (L * L) * (y*y - (1 - y*y) - a*((1 - y*y)*(1 - y*y))) := by
  clear h
  grind
 have e2 : L * L * (y * L * (y * L)) + (L * L - y * L * (y * L)) * (L * L + a * (L * L - y * L * (y * L))) = L * L * (L * L) * (1 + a*((1 - y*y)*(1 - y*y))) := by
  clear h e1
  grind
 rw [e1, e2, h]
 clear h e1 e2
 grind
theorem ring_b (w t u S T : Fin p) (hu : u * (1 - w) = 1 + w) (hp : (1 - w) * (1 - t) * S = (1 + w) * (1 + t) * T) : (1 - w) * ((1 - t) * S) = (1 - w) * (u * (1 + t) * T) := by
 rw [← hu] at hp
 clear hu
 grind
theorem ring_c (M S T t u : Fin p) (hk : (1 - t) * S = u * (1 + t) * T) : M * S - u * (M * T) = t * (M * S + u * (M * T)) := by grind
theorem ring_d (A B t : Fin p) (h1 : A - B = t * 0) (h2 : A + B = 0) : 2 * A = 0 ∧ 2 * B = 0 := by
 constructor <;> grind
theorem dbl_rep (F : Fld inv) {d a : Fin p} (hd : ∀ r : Fin p, r * r ≠ d) (ha : d * (1 + a) = a) {P q : Fin p × Fin p} (hP : On d P) (h : Rep q P.2) : Rep (dbl a q) (eAdd inv d P P).2 := by
 obtain ⟨_, n2⟩ := dens F hd hP hP
 obtain ⟨_, r2⟩ := sum_rel F hd hP hP
 have h1 := one_more_ne F ha
 have hp := F.cancel h1 (dbl_poly P.1 P.2 d a hP ha)
 generalize (eAdd inv d P P).2 = s at *
 obtain ⟨x, y⟩ := P
 obtain ⟨X, Z⟩ := q
 obtain ⟨h2, h3⟩ := h
 simp only [eT] at *
 have hN : (y*y - (1 - y*y) - a*((1 - y*y)*(1 - y*y))) = s * (1 + a*((1 - y*y)*(1 - y*y))) := by
  refine F.cancel n2 ?_
  rw [hp, ← r2]
  clear hp r2 hP h2 h3 n2 ha
  grind
 have hD : 1 + a*((1 - y*y)*(1 - y*y)) ≠ 0 := fun e => by
  have hy : y = 0 := by
   rcases F.zero_or (show y * (2 * y) = 0 by grind) with h | h
   ·
    exact h
   ·
    rcases F.zero_or h with h | h
    ·
     exact absurd h F.two
    ·
     exact h
  subst hy
  exact h1 (by grind)
 clear hp hP n2 r2
 generalize hL : X + Z = L at *
 have hM : X - Z = y * L := h2
 refine ⟨?_, ?_⟩
 ·
  simp only [dbl, hL, hM]
  exact ring_a L y s a hN
 ·
  have e : (dbl a (X, Z)).1 + (dbl a (X, Z)).2 = L * L * (L * L) * (1 + a*((1 - y*y)*(1 - y*y))) := by
   simp only [dbl, hL, hM]
   grind
  rw [e]
  exact F.mul_ne (F.mul_ne (F.mul_ne h3 h3) (F.mul_ne h3 h3)) hD
theorem dif_rep (F : Fld inv) {d u : Fin p} (hd : ∀ r : Fin p, r * r ≠ d) {P Q q s : Fin p × Fin p} (hP : On d P) (hQ : On d Q) (hq : Rep q P.2) (hs : Rep s Q.2)
  (hu : u * (1 - (eAdd inv d Q (eNeg P)).2) = 1 + (eAdd inv d Q (eNeg P)).2) (hu0 : u ≠ 0) : Rep (dif u q s) (eAdd inv d Q P).2 := by
 have hp := dif_rel F hd hQ hP
 obtain ⟨_, r4⟩ := sum_rel F hd hQ (neg_on hP)
 generalize (eAdd inv d Q P).2 = t at *
 generalize (eAdd inv d Q (eNeg P)).2 = w at *
 have hw : 1 - w ≠ 0 := fun e => F.two (by rw [e] at hu; grind)
 obtain ⟨x1, y1⟩ := P
 obtain ⟨x2, y2⟩ := Q
 obtain ⟨X2, Z2⟩ := q
 obtain ⟨X3, Z3⟩ := s
 obtain ⟨h2, h3⟩ := hq
 obtain ⟨h4, h5⟩ := hs
 simp only [On, eT, eNeg] at *
 have hk : (1 - t) * ((y2 + y1) * (y2 + y1)) = u * (1 + t) * ((y2 - y1) * (y2 - y1)) := F.cancel hw (ring_b w t u _ _ hu hp)
 generalize hL : X2 + Z2 = L at *
 generalize hK : X3 + Z3 = K at *
 have e1 : (dif u (X2, Z2) (X3, Z3)).1 = (L * K) * (L * K) * ((y2 + y1) * (y2 + y1)) := by
  simp only [dif, hL, hK, h2, h4]
  grind
 have e2 : (dif u (X2, Z2) (X3, Z3)).2 = u * ((L * K) * (L * K) * ((y2 - y1) * (y2 - y1))) := by
  simp only [dif, hL, hK, h2, h4]
  grind
 have hLK := F.mul_ne h3 h5
 have hR : (dif u (X2, Z2) (X3, Z3)).1 - (dif u (X2, Z2) (X3, Z3)).2 = t * ((dif u (X2, Z2) (X3, Z3)).1 + (dif u (X2, Z2) (X3, Z3)).2) := by
  rw [e1, e2]
  exact ring_c _ _ _ t u hk
 refine ⟨hR, fun hz => ?_⟩
 rw [hz, e1, e2] at hR
 rw [e1, e2] at hz
 obtain ⟨hz1, hz2⟩ := ring_d _ _ t hR hz
 have hLL := F.mul_ne hLK hLK
 have s1 : (y2 + y1) * (y2 + y1) = 0 := by
  rcases F.zero_or hz1 with h | h
  ·
   exact absurd h F.two
  ·
   rcases F.zero_or h with h | h
   ·
    exact absurd h hLL
   ·
    exact h
 have s2 : (y2 - y1) * (y2 - y1) = 0 := by
  rcases F.zero_or hz2 with h | h
  ·
   exact absurd h F.two
  ·
   rcases F.zero_or h with h | h
   ·
    exact absurd h hu0
   ·
    rcases F.zero_or h with h | h
    ·
     exact absurd h hLL
    ·
     exact h
 have z1 : y2 + y1 = 0 := by rcases F.zero_or s1 with h | h <;> exact h
 have z2 : y2 - y1 = 0 := by rcases F.zero_or s2 with h | h <;> exact h
 have y20 : y2 = 0 := by
  rcases F.zero_or (show 2 * y2 = 0 by grind) with h | h
  ·
   exact absurd h F.two
  ·
   exact h
 have y10 : y1 = 0 := by grind
 subst y20 y10
 have hw1 : (w - 1) * (w + 1) = 0 := by
  have : w = x2 * x1 := by grind
  grind
 rcases F.zero_or hw1 with h | h
 ·
  exact hw (by grind)
 ·
  rcases F.zero_or (show u * 2 = 0 by grind) with h | h
  ·
   exact hu0 h
  ·
   exact F.two h
def ladS (a u : Fin p) (st : (Fin p × Fin p) × (Fin p × Fin p)) (b : Bool) : (Fin p × Fin p) × (Fin p × Fin p) :=
 if b then (dif u st.2 st.1, dbl a st.2) else (dbl a st.1, dif u st.1 st.2)
def lad (a u : Fin p) (bs : List Bool) : (Fin p × Fin p) × (Fin p × Fin p) := bs.foldl (ladS a u) ((1, 0), (u, 1))
def numB (bs : List Bool) : Nat := bs.foldl (fun n b => 2 * n + b.toNat) 0
def mulF (inv : Fin p → Fin p) (a u : Fin p) (bs : List Bool) : Fin p := (lad a u bs).1.1 * inv (lad a u bs).1.2
def resV (inv : Fin p → Fin p) (v : Fin p) : Fin p := (1 + v) * inv (1 - v)
theorem lad_rep (F : Fld inv) {d a u : Fin p} (hd : ∀ r : Fin p, r * r ≠ d) (ha : d * (1 + a) = a) {P : Fin p × Fin p} (hP : On d P) (hu : u * (1 - P.2) = 1 + P.2) (hu0 : u ≠ 0) :
  ∀ (bs : List Bool) (st : (Fin p × Fin p) × (Fin p × Fin p)) (n : Nat), Rep st.1 (eMul inv d P n).2 → Rep st.2 (eMul inv d P (n + 1)).2 →
   Rep (bs.foldl (ladS a u) st).1 (eMul inv d P (bs.foldl (fun n b => 2 * n + b.toNat) n)).2
 | [], _, _, h, _ => h
 | b :: bs, st, n, h1, h2 => by
  have o1 := mul_on F hd hP n
  have o2 := mul_on F hd hP (n + 1)
  have hl := mul_less F hd hP n
  have hdif : Rep (dif u st.1 st.2) (eMul inv d P (2 * n + 1)).2 := by
   have := dif_rep F hd o1 o2 h1 h2 (by rw [hl]; exact hu) hu0
   rwa [← mul_add F hd hP, show n + 1 + n = 2 * n + 1 by omega] at this
  rw [List.foldl_cons, List.foldl_cons]
  cases b with
  | false =>
   refine lad_rep F hd ha hP hu hu0 bs _ _ ?_ ?_
   ·
    have := dbl_rep F hd ha o1 h1
    rw [← mul_add F hd hP, show n + n = 2 * n by omega] at this
    exact this
   ·
    exact hdif
  | true =>
   refine lad_rep F hd ha hP hu hu0 bs _ _ ?_ ?_
   ·
    show Rep (dif u st.2 st.1) _
    rw [dif_swap]
    exact hdif
   ·
    have := dbl_rep F hd ha o2 h2
    rw [← mul_add F hd hP, show n + 1 + (n + 1) = 2 * n + 1 + 1 by omega] at this
    exact this
theorem res_of (F : Fld inv) {q : Fin p × Fin p} {v : Fin p} (h : Rep q v) : q.1 * inv q.2 = resV inv v := by
 obtain ⟨X, Z⟩ := q
 obtain ⟨h1, h2⟩ := h
 simp only [resV] at *
 have hX : X * (1 - v) = (1 + v) * Z := by grind
 by_cases hv : 1 - v = 0
 ·
  have hZ : Z = 0 := by
   have : v = 1 := by grind
   subst this
   rcases F.zero_or (show 2 * Z = 0 by grind) with h | h
   ·
    exact absurd h F.two
   ·
    exact h
  rw [hv, hZ, F.inv_zero]
  grind
 ·
  have hZ : Z ≠ 0 := fun e => by
   subst e
   rcases F.zero_or (show X * (1 - v) = 0 by grind) with h | h
   ·
    exact h2 (by grind)
   ·
    exact hv h
  exact F.frac hZ hv hX
theorem mul_of (F : Fld inv) {d a u : Fin p} (hd : ∀ r : Fin p, r * r ≠ d) (ha : d * (1 + a) = a) {P : Fin p × Fin p} (hP : On d P) (hu : u * (1 - P.2) = 1 + P.2) (hu0 : u ≠ 0) (bs : List Bool) :
  mulF inv a u bs = resV inv (eMul inv d P (numB bs)).2 := by
 refine res_of F (lad_rep F hd ha hP hu hu0 bs ((1, 0), (u, 1)) 0 ?_ ?_)
 ·
  refine ⟨?_, ?_⟩
  ·
   show (1 : Fin p) - 0 = 1 * (1 + 0)
   grind
  ·
   show (1 : Fin p) + 0 ≠ 0
   have := F.one_ne
   grind
 ·
  rw [eMul, eMul, add_comm, add_O F]
  refine ⟨?_, ?_⟩
  ·
   show u - 1 = P.2 * (u + 1)
   grind
  ·
   show u + 1 ≠ 0
   intro e
   have : u = -1 := by grind
   subst this
   exact F.two (by grind)
theorem mul_zero (F : Fld inv) (a : Fin p) (bs : List Bool) : mulF inv a 0 bs = 0 := by
 have h : ∀ (bs : List Bool) (st : (Fin p × Fin p) × (Fin p × Fin p)), st.1.2 = 0 → (bs.foldl (ladS a 0) st).1.2 = 0 := by
  intro bs
  induction bs with
  | nil => exact fun st h => h
  | cons b bs ih =>
   intro st hz
   rw [List.foldl_cons]
   refine ih _ ?_
   cases b with
   | false =>
    show (dbl a st.1).2 = 0
    simp only [dbl, hz]
    grind
   | true =>
    show (dif 0 st.2 st.1).2 = 0
    simp only [dif]
    grind
 rw [mulF, lad, h bs _ rfl, F.inv_zero]
 grind
theorem even_top (F : Fld inv) {d : Fin p} (hd : ∀ r : Fin p, r * r ≠ d) {Q : Fin p × Fin p} (hQ : On d Q) (h : Q.2 = 1 ∨ Q.2 = -1) (i : Nat) : eMul inv d Q (2 * i) = eO := by
 have hx : Q.1 = 0 := by
  obtain ⟨x, y⟩ := Q
  simp only [On] at *
  have hd1 : 1 - d ≠ 0 := fun e => hd 1 (by grind)
  have : x * (x * (1 - d)) = 0 := by rcases h with rfl | rfl <;> grind
  rcases F.zero_or this with h | h
  ·
   exact h
  ·
   rcases F.zero_or h with h | h
   ·
    exact h
   ·
    exact absurd h hd1
 have h2 : eMul inv d Q 2 = eO := by
  rw [eMul, eMul, eMul, add_comm (P := eO), add_O F]
  obtain ⟨x, y⟩ := Q
  simp only at hx h
  subst hx
  have hi := inv_one F
  simp only [eAdd, eT, eO]
  rw [show (1 : Fin p) + d * 0 * 0 * y * y = 1 by grind, show (1 : Fin p) - d * 0 * 0 * y * y = 1 by grind, hi]
  have : y * y = 1 := by rcases h with rfl | rfl <;> grind
  congr 1 <;> grind
 rw [← mul_mul F hd hQ, h2, mul_O F]
theorem turns (F : Fld inv) {d a u : Fin p} (hd : ∀ r : Fin p, r * r ≠ d) (ha : d * (1 + a) = a) {P : Fin p × Fin p} (hP : On d P) (hu : u * (1 - P.2) = 1 + P.2) {bs cs : List Bool} {i j : Nat} (hb : numB bs = 2 * i) (hc : numB cs = 2 * j) :
  mulF inv a (mulF inv a u bs) cs = mulF inv a (mulF inv a u cs) bs := by
 by_cases hu0 : u = 0
 ·
  subst hu0
  simp only [mul_zero F]
 ·
  have key : ∀ (xs : List Bool) (k : Nat), numB xs = 2 * k → mulF inv a u xs = 0 → (eMul inv d P (numB xs)).2 = 1 ∨ (eMul inv d P (numB xs)).2 = -1 := fun xs k _ h => by
   rw [mul_of F hd ha hP hu hu0] at h
   generalize (eMul inv d P (numB xs)).2 = v at *
   by_cases hv : 1 - v = 0
   ·
    exact .inl (by grind)
   ·
    have := F.mul_inv _ hv
    rw [resV] at h
    rcases F.zero_or h with h | h
    ·
     exact .inr (by grind)
    ·
     rw [h] at this
     exact absurd (show (1 : Fin p) = 0 by grind) F.one_ne
  have next : ∀ (xs ys : List Bool), mulF inv a u xs ≠ 0 → mulF inv a (mulF inv a u xs) ys = resV inv (eMul inv d P (numB xs * numB ys)).2 := fun xs ys h => by
   have e := mul_of F hd ha hP hu hu0 xs
   rw [mul_of F hd ha (mul_on F hd hP (numB xs)) ?_ h, mul_mul F hd hP]
   rw [e] at h ⊢
   generalize (eMul inv d P (numB xs)).2 = v at *
   rw [resV] at h ⊢
   by_cases hv : 1 - v = 0
   ·
    rw [hv, F.inv_zero] at h
    exact absurd (show (1 + v) * 0 = 0 by grind) h
   ·
    have := F.mul_inv _ hv
    grind
  have top : ∀ (xs ys : List Bool) (k l : Nat), numB xs = 2 * k → numB ys = 2 * l → mulF inv a u xs = 0 → mulF inv a (mulF inv a u ys) xs = 0 := fun xs ys k l hx hy h => by
   by_cases h2 : mulF inv a u ys = 0
   ·
    rw [h2, mul_zero F]
   ·
    rw [next ys xs h2, Nat.mul_comm, ← mul_mul F hd hP, hy, even_top F hd (mul_on F hd hP _) (key xs k hx h)]
    simp only [resV, eO]
    rw [show (1 : Fin p) - 1 = 0 by grind, F.inv_zero]
    grind
  by_cases h1 : mulF inv a u bs = 0
  ·
   rw [top bs cs i j hb hc h1, h1, mul_zero F]
  ·
   by_cases h2 : mulF inv a u cs = 0
   ·
    rw [top cs bs j i hc hb h2, h2, mul_zero F]
   ·
    rw [next bs cs h1, next cs bs h2, Nat.mul_comm]
theorem dbl_turn (a : Fin p) (X Z : Fin p) : dbl (-(1 + a)) (X, -Z) = ((dbl a (X, Z)).1, -(dbl a (X, Z)).2) := by
 simp only [dbl, Prod.mk.injEq]
 constructor <;> grind
theorem dif_turn (u : Fin p) (X Z Y W : Fin p) : dif (-u) (X, -Z) (Y, -W) = ((dif u (X, Z) (Y, W)).1, -(dif u (X, Z) (Y, W)).2) := by
 simp only [dif, Prod.mk.injEq]
 constructor <;> grind
theorem dbl_minus (a : Fin p) (X Z : Fin p) : dbl a (-X, -Z) = dbl a (X, Z) := by
 simp only [dbl, Prod.mk.injEq]
 constructor <;> grind
theorem dif_minus (u : Fin p) (X Z Y W : Fin p) : dif u (X, Z) (-Y, -W) = dif u (X, Z) (Y, W) := by
 simp only [dif, Prod.mk.injEq]
 constructor <;> grind
def Turned (q s : Fin p × Fin p) : Prop := s = (q.1, -q.2)
theorem lad_turn (a u : Fin p) : ∀ (bs : List Bool) (st st' : (Fin p × Fin p) × (Fin p × Fin p)), Turned st.1 st'.1 → (Turned st.2 st'.2 ∨ Turned st.2 (-st'.2.1, -st'.2.2)) →
  Turned (bs.foldl (ladS a u) st).1 (bs.foldl (ladS (-(1 + a)) (-u)) st').1
 | [], _, _, h, _ => h
 | b :: bs, ((X, Z), (Y, W)), ((X', Z'), (Y', W')), h1, h2 => by
  rw [List.foldl_cons, List.foldl_cons]
  simp only [Turned, Prod.mk.injEq] at h1
  obtain ⟨rfl, rfl⟩ := h1
  have hd1 := dbl_turn a X' Z
  have hd2 : dbl (-(1 + a)) (Y', W') = ((dbl a (Y, W)).1, -(dbl a (Y, W)).2) := by
   rcases h2 with h | h
   ·
    simp only [Turned, Prod.mk.injEq] at h
    obtain ⟨rfl, rfl⟩ := h
    exact dbl_turn a _ _
   ·
    simp only [Turned, Prod.mk.injEq] at h
    rw [← dbl_minus, h.1, h.2]
    exact dbl_turn a _ _
  have hf : dif (-u) (X', -Z) (Y', W') = ((dif u (X', Z) (Y, W)).1, -(dif u (X', Z) (Y, W)).2) := by
   rcases h2 with h | h
   ·
    simp only [Turned, Prod.mk.injEq] at h
    obtain ⟨rfl, rfl⟩ := h
    exact dif_turn u _ _ _ _
   ·
    simp only [Turned, Prod.mk.injEq] at h
    rw [← dif_minus, h.1, h.2]
    exact dif_turn u _ _ _ _
  cases b with
  | false => exact lad_turn a u bs _ _ hd1 (.inl hf)
  | true =>
   refine lad_turn a u bs _ _ ?_ (.inl hd2)
   show Turned (dif u (Y, W) (X', Z)) (dif (-u) (Y', W') (X', -Z))
   rw [dif_swap u (X', Z) (Y, W), dif_swap (-u) (X', -Z) (Y', W')]
   exact hf
theorem inv_neg (F : Fld inv) (z : Fin p) : inv (-z) = -inv z := by
 by_cases h : z = 0
 ·
  subst h
  rw [show -(0 : Fin p) = 0 by grind, F.inv_zero]
  grind
 ·
  have h1 := F.mul_inv z h
  have h2 := F.mul_inv (-z) (fun e => h (by grind))
  exact F.cancel h (by grind)
theorem mul_turn (F : Fld inv) (a u : Fin p) (bs : List Bool) : mulF inv (-(1 + a)) (-u) bs = -mulF inv a u bs := by
 have h := lad_turn a u bs ((1, 0), (u, 1)) ((1, 0), (-u, 1)) (by simp only [Turned, Prod.mk.injEq]; constructor <;> grind) (.inr (by simp only [Turned, Prod.mk.injEq]; constructor <;> grind))
 simp only [Turned] at h
 simp only [mulF, lad]
 rw [h]
 simp only [inv_neg F]
 grind
theorem pt_of (F : Fld inv) {d a u r : Fin p} (ha : d * (1 + a) = a) (hu : u + 1 ≠ 0) (hB : u * u + (4 * a + 2) * u + 1 ≠ 0) (hr : r * r = (1 + a) * u * (u * u + (4 * a + 2) * u + 1)) :
  ∃ P : Fin p × Fin p, On d P ∧ u * (1 - P.2) = 1 + P.2 := by
 have e1 := F.mul_inv _ hu
 have e2 := F.mul_inv _ hB
 have h1 := one_more_ne F ha
 obtain ⟨B, hBe⟩ : ∃ B, B = u * u + (4 * a + 2) * u + 1 := ⟨_, rfl⟩
 rw [← hBe] at e2 hr hB
 obtain ⟨x, hx⟩ : ∃ x, x = 2 * r * inv B := ⟨_, rfl⟩
 obtain ⟨v, hv⟩ : ∃ v, v = (u - 1) * inv (u + 1) := ⟨_, rfl⟩
 have hx2 : x * x * B = 4 * (1 + a) * u := by
  have : x * x * B * B = 4 * (1 + a) * u * B := by
   have : x * B = 2 * r := by
    clear hr e1 ha hBe hv
    grind
   have h3 : x * x * B * B = (x * B) * (x * B) := by
    clear hr e1 ha hBe hv hx e2 this
    grind
   rw [h3, this]
   clear h3 this hx e2 e1 ha hBe hv
   grind
  exact F.cancel hB (by clear hr e1 ha hBe hv hx e2; grind)
 have hv2 : v * (u + 1) = u - 1 := by
  clear hr ha hBe hx e2 hx2
  grind
 refine ⟨(x, v), ?_, ?_⟩
 ·
  show x * x + v * v = 1 + d * (x * x) * (v * v)
  refine F.cancel (m := (1 + a) * B * ((u + 1) * (u + 1))) (F.mul_ne (F.mul_ne h1 hB) (F.mul_ne hu hu)) ?_
  have k1 : (1 + a) * B * ((u + 1) * (u + 1)) * (x * x + v * v) = (1 + a) * ((x * x * B) * ((u + 1) * (u + 1)) + B * ((v * (u + 1)) * (v * (u + 1)))) := by
   clear hr ha hBe hx e2 hx2 hv2 hv e1
   grind
  have k2 : (1 + a) * B * ((u + 1) * (u + 1)) * (1 + d * (x * x) * (v * v)) = (1 + a) * B * ((u + 1) * (u + 1)) + (d * (1 + a)) * (x * x * B) * ((v * (u + 1)) * (v * (u + 1))) := by
   clear hr ha hBe hx e2 hx2 hv2 hv e1 k1
   grind
  rw [k1, k2, hx2, hv2, ha, hBe]
  clear k1 k2 hx2 hv2 hx hv e1 e2 hr ha hBe hB hu h1
  grind
 ·
  show u * (1 - v) = 1 + v
  clear hr ha hBe hx e2 hx2
  grind
theorem turns_all (F : Fld inv) {a : Fin p} (hc : ∀ r : Fin p, r * r ≠ a * (1 + a)) (hsq : ∀ h : Fin p, (∃ r, r * r = h) ∨ (∃ r, r * r = a * (1 + a) * h)) (u : Fin p) {bs cs : List Bool} {i j : Nat} (hb : numB bs = 2 * i) (hcs : numB cs = 2 * j) :
  mulF inv a (mulF inv a u bs) cs = mulF inv a (mulF inv a u cs) bs := by
 have a0 : a ≠ 0 := fun e => hc 0 (by rw [e]; grind)
 have a1 : 1 + a ≠ 0 := fun e => hc 0 (by rw [e]; grind)
 have i0 := F.mul_inv _ a0
 have i1 := F.mul_inv _ a1
 have ha1 : a * inv (1 + a) * (1 + a) = a := by grind
 have ha2 : (1 + a) * inv a * (1 + -(1 + a)) = -(1 + a) := by grind
 have hd1 : ∀ r : Fin p, r * r ≠ a * inv (1 + a) := fun r h => hc (r * (1 + a)) (by
  have : r * (1 + a) * (r * (1 + a)) = r * r * (1 + a) * (1 + a) := by clear i0 i1 ha1 ha2 h; grind
  rw [this, h, ha1])
 have hd2 : ∀ r : Fin p, r * r ≠ (1 + a) * inv a := fun r h => hc (r * a) (by
  have : r * a * (r * a) = r * r * a * a := by clear i0 i1 ha1 ha2 h; grind
  rw [this, h]
  clear this h ha1 ha2 i1
  grind)
 have one : ∀ P : Fin p × Fin p, On (a * inv (1 + a)) P → u * (1 - P.2) = 1 + P.2 → mulF inv a (mulF inv a u bs) cs = mulF inv a (mulF inv a u cs) bs := fun P h1 h2 => turns F hd1 ha1 h1 h2 hb hcs
 have two : ∀ P : Fin p × Fin p, On ((1 + a) * inv a) P → (-u) * (1 - P.2) = 1 + P.2 → mulF inv a (mulF inv a u bs) cs = mulF inv a (mulF inv a u cs) bs := fun P h1 h2 => by
  have h := turns F hd2 ha2 h1 h2 hb hcs
  rw [mul_turn F, mul_turn F, mul_turn F, mul_turn F] at h
  generalize mulF inv a (mulF inv a u bs) cs = y at *
  generalize mulF inv a (mulF inv a u cs) bs = z at *
  clear i0 i1 ha1 ha2
  grind
 by_cases u1 : u + 1 = 0
 ·
  refine two (1, 0) ?_ ?_
  ·
   simp only [On]
   clear i0 i1 ha1 ha2
   grind
  ·
   show -u * (1 - 0) = 1 + 0
   clear i0 i1 ha1 ha2
   grind
 ·
  by_cases u2 : -u + 1 = 0
  ·
   refine one (1, 0) ?_ ?_
   ·
    simp only [On]
    clear i0 i1 ha1 ha2
    grind
   ·
    show u * (1 - 0) = 1 + 0
    clear i0 i1 ha1 ha2
    grind
  ·
   have hB : u * u + (4 * a + 2) * u + 1 ≠ 0 := fun e => by
    have h2 := F.mul_inv _ F.two
    refine hc ((u + 2 * a + 1) * inv 2) ?_
    have k : (u + 2 * a + 1) * (u + 2 * a + 1) = 4 * (a * (1 + a)) := by
     clear i0 i1 ha1 ha2 h2
     grind
    have k2 : (u + 2 * a + 1) * inv 2 * ((u + 2 * a + 1) * inv 2) = (u + 2 * a + 1) * (u + 2 * a + 1) * (inv 2 * inv 2) := by
     clear i0 i1 ha1 ha2 h2 k e
     grind
    rw [k2, k]
    clear k k2 i0 i1 ha1 ha2 e
    grind
   rcases hsq ((1 + a) * u * (u * u + (4 * a + 2) * u + 1)) with ⟨r, hr⟩ | ⟨r, hr⟩
   ·
    obtain ⟨P, h1, h2⟩ := pt_of F ha1 u1 hB hr
    exact one P h1 h2
   ·
    have e : -u * -u + (4 * -(1 + a) + 2) * -u + 1 = u * u + (4 * a + 2) * u + 1 := by
     clear hr i0 i1 ha1 ha2 hB
     grind
    obtain ⟨P, h1, h2⟩ := pt_of (u := -u) (r := r * inv (1 + a)) F ha2 u2 (by rw [e]; exact hB) (by
     rw [e]
     have k : r * inv (1 + a) * (r * inv (1 + a)) = r * r * (inv (1 + a) * inv (1 + a)) := by
      clear hr i0 i1 ha1 ha2 hB e
      grind
     rw [k, hr]
     clear k hr e i0 ha1 ha2 hB
     generalize u * u + (4 * a + 2) * u + 1 = B
     generalize inv (1 + a) = n at *
     grind)
    exact two P h1 h2
end
end Go.Proofs.YtbiijdboolpaeaaDoor.Crv

namespace Go.Proofs.YtbiijdboolpaeaaDoor.Crv
instance p25_ne : NeZero P25 := ⟨by decide +kernel⟩
def fi (n : Nat) : Fin P25 := Fin.ofNat P25 n
theorem fi_val (n : Nat) : (fi n).val = n % P25 := rfl
theorem fi_eq {a b : Nat} : fi a = fi b ↔ a % P25 = b % P25 := ⟨fun h => congrArg Fin.val h, fun h => Fin.ext h⟩
theorem fi_add (a b : Nat) : fi (a + b) = fi a + fi b := Fin.ext (Nat.add_mod a b P25)
theorem fi_mul (a b : Nat) : fi (a * b) = fi a * fi b := Fin.ext (Nat.mul_mod a b P25)
theorem fi_mod (a : Nat) : fi (a % P25) = fi a := fi_eq.2 (Nat.mod_mod _ _)
theorem fi_of (x : Fin P25) : fi x.val = x := Fin.ext (Nat.mod_eq_of_lt x.isLt)
theorem fi_zero : fi 0 = 0 := rfl
theorem fi_one : fi 1 = 1 := rfl
theorem fi_sub {x a b : Nat} (h : (x + b) % P25 = a % P25) : fi x = fi a - fi b := by
 have h1 : fi x + fi b = fi a := by rw [← fi_add]; exact fi_eq.2 h
 rw [← h1]
 generalize fi x = y
 generalize fi b = z
 clear h1 h
 grind
theorem fi_nz {n : Nat} : fi n = 0 ↔ n % P25 = 0 := by
 rw [← fi_zero, fi_eq, Nat.zero_mod]
def inF (x : Fin P25) : Fin P25 := fi (x.val ^ (P25 - 2))
theorem inF_fi (n : Nat) : inF (fi n) = fi (n ^ (P25 - 2)) := by
 rw [inF, fi_val]
 exact fi_eq.2 (by rw [← Nat.pow_mod])
theorem fermP : Fermat P25 := fermat255
theorem fermatN {n : Nat} (h : n % P25 ≠ 0) : fi (n ^ (P25 - 1)) = 1 := by
 rw [← fi_one]
 exact fi_eq.2 (fermP n h)
theorem P25_m1 : P25 - 1 = P25 - 2 + 1 := by decide +kernel
theorem P25_m2 : P25 - 2 ≠ 0 := by decide +kernel
theorem fld25 : Fld inF := by
 refine ⟨fun h => ?_, fun a ha => ?_, ?_⟩
 ·
  exact absurd (congrArg Fin.val h) (by decide +kernel)
 ·
  have hv : a.val % P25 ≠ 0 := fun h => ha (by rw [← fi_of a]; exact fi_nz.2 h)
  have h1 := fermatN hv
  rw [P25_m1, Nat.pow_succ, Nat.mul_comm, fi_mul, fi_of] at h1
  exact h1
 ·
  rw [inF, show (0 : Fin P25).val = 0 from rfl, Nat.zero_pow (Nat.pos_of_ne_zero P25_m2)]
  exact fi_zero
def rootI : Nat := pm P25 256 2 ((P25 - 1) / 4)
theorem rootI_sq : fi rootI * fi rootI = -1 := by
 have h : (rootI * rootI + 1) % P25 = 0 % P25 := by decide +kernel
 have h2 : fi rootI * fi rootI + 1 = 0 := by
  rw [← fi_mul, ← fi_one, ← fi_add, ← fi_zero]
  exact fi_eq.2 h
 generalize fi rootI * fi rootI = y at *
 clear h
 grind
theorem e_half : P25 - 1 = (P25 - 1) / 2 + (P25 - 1) / 2 := by decide +kernel
theorem e_quart : (P25 - 1) / 2 = (P25 - 1) / 4 + (P25 - 1) / 4 := by decide +kernel
theorem e_eight : (P25 + 3) / 8 + (P25 + 3) / 8 = (P25 - 1) / 4 + 1 := by decide +kernel
theorem pm_one (x : Fin P25) (h : x * x = 1) : x = 1 ∨ x = -1 := by
 rcases fld25.zero_or (show (x - 1) * (x + 1) = 0 by grind) with h | h
 ·
  exact .inl (by grind)
 ·
  exact .inr (by grind)
theorem sqrt_of (n : Nat) (h : fi (n ^ ((P25 - 1) / 2)) = 1) : ∃ r, r * r = fi n := by
 rw [e_quart, Nat.pow_add, fi_mul] at h
 have hr : fi (n ^ ((P25 + 3) / 8)) * fi (n ^ ((P25 + 3) / 8)) = fi (n ^ ((P25 - 1) / 4)) * fi n := by
  rw [← fi_mul, ← Nat.pow_add, e_eight, Nat.pow_succ, fi_mul]
 have hI := rootI_sq
 rcases pm_one _ h with hq | hq
 ·
  refine ⟨_, hr.trans ?_⟩
  rw [hq]
  generalize fi n = y
  clear hr hq hI h
  grind
 ·
  refine ⟨fi (n ^ ((P25 + 3) / 8)) * fi rootI, ?_⟩
  rw [hq] at hr
  generalize fi (n ^ ((P25 + 3) / 8)) = r at *
  generalize fi rootI = s at *
  generalize fi n = y at *
  clear hq h
  grind
theorem half_of (n : Nat) (h : n % P25 ≠ 0) : fi (n ^ ((P25 - 1) / 2)) = 1 ∨ fi (n ^ ((P25 - 1) / 2)) = -1 := by
 refine pm_one _ ?_
 rw [← fi_mul, ← Nat.pow_add, ← e_half]
 exact fermatN h
def a24 : Fin P25 := fi 121665
def cN : Nat := 121665 * 121666
theorem c_eq : fi cN = a24 * (1 + a24) := by
 rw [cN, fi_mul, show (121666 : Nat) = 1 + 121665 from rfl, fi_add]
 rfl
theorem c_half : fi (cN ^ ((P25 - 1) / 2)) = -1 := by
 have h : (pm P25 256 cN ((P25 - 1) / 2) + 1) % P25 = 0 % P25 := by decide +kernel
 rw [pm_eq P25 256 cN _ (by decide +kernel)] at h
 have h2 : fi (cN ^ ((P25 - 1) / 2)) + 1 = 0 := by
  rw [← fi_mod (cN ^ ((P25 - 1) / 2)), ← fi_one, ← fi_add, ← fi_zero]
  exact fi_eq.2 h
 generalize fi (cN ^ ((P25 - 1) / 2)) = y at *
 clear h
 grind
theorem no_root (r : Fin P25) : r * r ≠ a24 * (1 + a24) := by
 rw [← c_eq]
 intro h
 have h1 := c_half
 have hr : fi (r.val * r.val) = fi cN := by rw [fi_mul, fi_of, h]
 have h2 : fi ((r.val * r.val) ^ ((P25 - 1) / 2)) = fi (cN ^ ((P25 - 1) / 2)) := fi_eq.2 (by rw [Nat.pow_mod, fi_eq.1 hr, ← Nat.pow_mod])
 rw [h1, Nat.mul_pow, ← Nat.pow_add, ← e_half] at h2
 by_cases hz : r.val % P25 = 0
 ·
  have : r = 0 := by rw [← fi_of r]; exact fi_nz.2 hz
  rw [this] at h
  exact absurd (congrArg Fin.val h) (by decide +kernel)
 ·
  rw [fermatN hz] at h2
  exact absurd (congrArg Fin.val h2) (by decide +kernel)
theorem root_or (h : Fin P25) : (∃ r, r * r = h) ∨ (∃ r, r * r = a24 * (1 + a24) * h) := by
 by_cases hz : h.val % P25 = 0
 ·
  refine .inl ⟨0, ?_⟩
  have : h = 0 := by rw [← fi_of h]; exact fi_nz.2 hz
  rw [this]
  clear this hz
  grind
 ·
  rcases half_of h.val hz with h1 | h1
  ·
   have := sqrt_of h.val h1
   rw [fi_of] at this
   exact .inl this
  ·
   have h2 : fi ((cN * h.val) ^ ((P25 - 1) / 2)) = 1 := by
    rw [Nat.mul_pow, fi_mul, h1, c_half]
    clear h1 hz
    grind
   have := sqrt_of _ h2
   rw [fi_mul, fi_of, c_eq] at this
   exact .inr this
theorem turns25 (u : Fin P25) {bs cs : List Bool} {i j : Nat} (hb : numB bs = 2 * i) (hc : numB cs = 2 * j) :
  mulF inF a24 (mulF inF a24 u bs) cs = mulF inF a24 (mulF inF a24 u cs) bs := turns_all fld25 no_root root_or u hb hc
end Go.Proofs.YtbiijdboolpaeaaDoor.Crv

