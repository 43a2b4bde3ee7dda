import Derived.Test.YtbiijdboolpaeaaGreatDoorH13
set_option linter.unusedVariables false
namespace Go.Proofs.YtbiijdboolpaeaaGreatDoor.Crv
section
variable {p : Nat} [NeZero p]
structure Fld (inv : Fin p → Fin p) : Prop where
 two : (2 : Fin p) ≠ 0
 mul_inv : ∀ a : Fin p, a ≠ 0 → a * inv a = 1
 inv_zero : inv 0 = 0
variable {inv : Fin p → Fin p}
theorem Fld.mul_ne (F : Fld inv) {a b : Fin p} (ha : a ≠ 0) (hb : b ≠ 0) : a * b ≠ 0 := fun h => by
 have h1 := F.mul_inv a ha
 have h2 : b = inv a * (a * b) := by grind
 rw [h] at h2
 exact hb (by grind)
theorem Fld.zero_or (F : Fld inv) {a b : Fin p} (h : a * b = 0) : a = 0 ∨ b = 0 := by
 by_cases ha : a = 0
 ·
  exact .inl ha
 ·
  by_cases hb : b = 0
  ·
   exact .inr hb
  ·
   exact absurd h (F.mul_ne ha hb)
theorem Fld.cancel (F : Fld inv) {m a b : Fin p} (hm : m ≠ 0) (h : m * a = m * b) : a = b := by
 have h1 := F.mul_inv m hm
 have h2 : inv m * (m * a) = inv m * (m * b) := by rw [h]
 grind
theorem Fld.frac (F : Fld inv) {n1 d1 n2 d2 : Fin p} (h1 : d1 ≠ 0) (h2 : d2 ≠ 0) (h : n1 * d2 = n2 * d1) : n1 * inv d1 = n2 * inv d2 := by
 have e1 := F.mul_inv d1 h1
 have e2 := F.mul_inv d2 h2
 grind
theorem Fld.one_ne (F : Fld inv) : (1 : Fin p) ≠ 0 := fun h => F.two (by grind)
theorem Fld.sq (F : Fld inv) {d a m : Fin p} (hd : ∀ r : Fin p, r * r ≠ d) (h : a * a = d * (m * m)) : m = 0 := by
 by_cases hm : m = 0
 ·
  exact hm
 ·
  have e := F.mul_inv m hm
  exact absurd (show (a * inv m) * (a * inv m) = d by grind) (hd _)
def On (d : Fin p) (P : Fin p × Fin p) : Prop := P.1 * P.1 + P.2 * P.2 = 1 + d * (P.1 * P.1) * (P.2 * P.2)
def eT (d : Fin p) (P Q : Fin p × Fin p) : Fin p := d * P.1 * Q.1 * P.2 * Q.2
def eAdd (inv : Fin p → Fin p) (d : Fin p) (P Q : Fin p × Fin p) : Fin p × Fin p :=
 ((P.1 * Q.2 + P.2 * Q.1) * inv (1 + eT d P Q), (P.2 * Q.2 - P.1 * Q.1) * inv (1 - eT d P Q))
theorem complete (F : Fld inv) {d : Fin p} (hd : ∀ r : Fin p, r * r ≠ d) {P Q : Fin p × Fin p} (hP : On d P) (hQ : On d Q) : eT d P Q * eT d P Q ≠ 1 := by
 obtain ⟨x1, y1⟩ := P
 obtain ⟨x2, y2⟩ := Q
 simp only [On, eT] at *
 intro ht
 have m1 : x1 * y1 * (x2 + y2) = 0 := F.sq (a := x1 + d * x1 * x2 * y1 * y2 * y1) hd (by grind)
 have m2 : x1 * y1 * (x2 - y2) = 0 := F.sq (a := x1 - d * x1 * x2 * y1 * y2 * y1) hd (by grind)
 exact F.two (by grind)
theorem dens (F : Fld inv) {d : Fin p} (hd : ∀ r : Fin p, r * r ≠ d) {P Q : Fin p × Fin p} (hP : On d P) (hQ : On d Q) : 1 + eT d P Q ≠ 0 ∧ 1 - eT d P Q ≠ 0 := by
 have h := complete F hd hP hQ
 generalize eT d P Q = t at *
 exact ⟨fun e => h (by grind), fun e => h (by grind)⟩
theorem sum_rel (F : Fld inv) {d : Fin p} (hd : ∀ r : Fin p, r * r ≠ d) {P Q : Fin p × Fin p} (hP : On d P) (hQ : On d Q) :
  (eAdd inv d P Q).1 * (1 + eT d P Q) = P.1 * Q.2 + P.2 * Q.1 ∧ (eAdd inv d P Q).2 * (1 - eT d P Q) = P.2 * Q.2 - P.1 * Q.1 := by
 obtain ⟨h1, h2⟩ := dens F hd hP hQ
 have e1 := F.mul_inv _ h1
 have e2 := F.mul_inv _ h2
 simp only [eAdd]
 constructor <;> grind
theorem on_poly (x1 y1 x2 y2 d : Fin p) (h1 : x1*x1 + y1*y1 = 1 + d*(x1*x1)*(y1*y1)) (h2 : x2*x2 + y2*y2 = 1 + d*(x2*x2)*(y2*y2)) :
 (x1*y2+y1*x2)*(x1*y2+y1*x2)*((1-d*x1*x2*y1*y2)*(1-d*x1*x2*y1*y2)) + (y1*y2-x1*x2)*(y1*y2-x1*x2)*((1+d*x1*x2*y1*y2)*(1+d*x1*x2*y1*y2)) = (1-d*x1*x2*y1*y2)*(1-d*x1*x2*y1*y2)*((1+d*x1*x2*y1*y2)*(1+d*x1*x2*y1*y2)) + d*((x1*y2+y1*x2)*(x1*y2+y1*x2))*((y1*y2-x1*x2)*(y1*y2-x1*x2)) := by grind
theorem add_on (F : Fld inv) {d : Fin p} (hd : ∀ r : Fin p, r * r ≠ d) {P Q : Fin p × Fin p} (hP : On d P) (hQ : On d Q) : On d (eAdd inv d P Q) := by
 obtain ⟨n1, n2⟩ := dens F hd hP hQ
 obtain ⟨r1, r2⟩ := sum_rel F hd hP hQ
 have hp := on_poly P.1 P.2 Q.1 Q.2 d hP hQ
 unfold On
 unfold eT at *
 generalize eAdd inv d P Q = R at *
 obtain ⟨x1, y1⟩ := P
 obtain ⟨x2, y2⟩ := Q
 obtain ⟨x3, y3⟩ := R
 simp only at *
 rw [← r1, ← r2] at hp
 clear r1 r2
 generalize 1 + d * x1 * x2 * y1 * y2 = b at *
 generalize 1 - d * x1 * x2 * y1 * y2 = e at *
 refine F.cancel (m := b * b * (e * e)) (F.mul_ne (F.mul_ne n1 n1) (F.mul_ne n2 n2)) ?_
 clear hP hQ
 grind
theorem assoc_x (x1 y1 x2 y2 x3 y3 d : Fin p)
  (h1 : x1*x1 + y1*y1 = 1 + d*(x1*x1)*(y1*y1)) (h2 : x2*x2 + y2*y2 = 1 + d*(x2*x2)*(y2*y2)) (h3 : x3*x3 + y3*y3 = 1 + d*(x3*x3)*(y3*y3)) :
  ((x1*y2+y1*x2)*(1-d*x1*x2*y1*y2)*y3 + (y1*y2-x1*x2)*(1+d*x1*x2*y1*y2)*x3) * ((1+d*x2*x3*y2*y3)*(1-d*x2*x3*y2*y3) + d*(x2*y3+y2*x3)*(y2*y3-x2*x3)*x1*y1)
   = (x1*(y2*y3-x2*x3)*(1+d*x2*x3*y2*y3) + y1*(x2*y3+y2*x3)*(1-d*x2*x3*y2*y3)) * ((1+d*x1*x2*y1*y2)*(1-d*x1*x2*y1*y2) + d*(x1*y2+y1*x2)*(y1*y2-x1*x2)*x3*y3) := by
  grind
theorem assoc_y (x1 y1 x2 y2 x3 y3 d : Fin p)
  (h1 : x1*x1 + y1*y1 = 1 + d*(x1*x1)*(y1*y1)) (h2 : x2*x2 + y2*y2 = 1 + d*(x2*x2)*(y2*y2)) (h3 : x3*x3 + y3*y3 = 1 + d*(x3*x3)*(y3*y3)) :
  ((y1*y2-x1*x2)*(1+d*x1*x2*y1*y2)*y3 - (x1*y2+y1*x2)*(1-d*x1*x2*y1*y2)*x3) * ((1+d*x2*x3*y2*y3)*(1-d*x2*x3*y2*y3) - d*(x2*y3+y2*x3)*(y2*y3-x2*x3)*x1*y1)
   = (y1*(y2*y3-x2*x3)*(1+d*x2*x3*y2*y3) - x1*(x2*y3+y2*x3)*(1-d*x2*x3*y2*y3)) * ((1+d*x1*x2*y1*y2)*(1-d*x1*x2*y1*y2) - d*(x1*y2+y1*x2)*(y1*y2-x1*x2)*x3*y3) := by
  grind
theorem add_assoc (F : Fld inv) {d : Fin p} (hd : ∀ r : Fin p, r * r ≠ d) {P Q R : Fin p × Fin p} (hP : On d P) (hQ : On d Q) (hR : On d R) :
  eAdd inv d (eAdd inv d P Q) R = eAdd inv d P (eAdd inv d Q R) := by
 obtain ⟨n1, n2⟩ := dens F hd hP hQ
 obtain ⟨n3, n4⟩ := dens F hd hQ hR
 obtain ⟨r1, r2⟩ := sum_rel F hd hP hQ
 obtain ⟨r3, r4⟩ := sum_rel F hd hQ hR
 obtain ⟨n5, n6⟩ := dens F hd (add_on F hd hP hQ) hR
 obtain ⟨n7, n8⟩ := dens F hd hP (add_on F hd hQ hR)
 have ax := assoc_x P.1 P.2 Q.1 Q.2 R.1 R.2 d hP hQ hR
 have ay := assoc_y P.1 P.2 Q.1 Q.2 R.1 R.2 d hP hQ hR
 clear hP hQ hR
 generalize eAdd inv d P Q = S at *
 generalize eAdd inv d Q R = T at *
 obtain ⟨x1, y1⟩ := P
 obtain ⟨x2, y2⟩ := Q
 obtain ⟨x3, y3⟩ := R
 obtain ⟨xs, ys⟩ := S
 obtain ⟨xt, yt⟩ := T
 simp only [eT, eAdd, Prod.mk.injEq] at *
 rw [← r1, ← r2, ← r3, ← r4] at ax ay
 clear r1 r2 r3 r4
 generalize 1 + d * x1 * x2 * y1 * y2 = b at *
 generalize 1 - d * x1 * x2 * y1 * y2 = e at *
 generalize 1 + d * x2 * x3 * y2 * y3 = b' at *
 generalize 1 - d * x2 * x3 * y2 * y3 = e' at *
 have hm := F.mul_ne (F.mul_ne n1 n2) (F.mul_ne n3 n4)
 refine ⟨F.frac n5 n7 (F.cancel hm ?_), F.frac n6 n8 (F.cancel hm ?_)⟩
 ·
  have k1 : b * e * (b' * e') * ((xs * y3 + ys * x3) * (1 + d * x1 * xt * y1 * yt)) = (xs * b * e * y3 + ys * e * b * x3) * (b' * e' + d * (xt * b') * (yt * e') * x1 * y1) := by grind
  have k2 : b * e * (b' * e') * ((x1 * yt + y1 * xt) * (1 + d * xs * x3 * ys * y3)) = (x1 * (yt * e') * b' + y1 * (xt * b') * e') * (b * e + d * (xs * b) * (ys * e) * x3 * y3) := by grind
  rw [k1, k2]
  exact ax
 ·
  have k1 : b * e * (b' * e') * ((ys * y3 - xs * x3) * (1 - d * x1 * xt * y1 * yt)) = (ys * e * b * y3 - xs * b * e * x3) * (b' * e' - d * (xt * b') * (yt * e') * x1 * y1) := by grind
  have k2 : b * e * (b' * e') * ((y1 * yt - x1 * xt) * (1 - d * xs * x3 * ys * y3)) = (y1 * (yt * e') * b' - x1 * (xt * b') * e') * (b * e - d * (xs * b) * (ys * e) * x3 * y3) := by grind
  rw [k1, k2]
  exact ay
theorem add_comm (d : Fin p) (P Q : Fin p × Fin p) : eAdd inv d P Q = eAdd inv d Q P := by
 simp only [eAdd, eT]
 rw [show d * Q.1 * P.1 * Q.2 * P.2 = d * P.1 * Q.1 * P.2 * Q.2 by grind, show Q.1 * P.2 + Q.2 * P.1 = P.1 * Q.2 + P.2 * Q.1 by grind, show Q.2 * P.2 - Q.1 * P.1 = P.2 * Q.2 - P.1 * Q.1 by grind]
def eO : Fin p × Fin p := (0, 1)
theorem on_O (d : Fin p) : On d eO := by simp only [On, eO]; grind
theorem inv_one (F : Fld inv) : inv 1 = 1 := by
 have := F.mul_inv 1 F.one_ne
 grind
theorem add_O (F : Fld inv) (d : Fin p) (P : Fin p × Fin p) : eAdd inv d P eO = P := by
 obtain ⟨x, y⟩ := P
 have h := inv_one F
 simp only [eAdd, eT, eO]
 rw [show (1 : Fin p) + d * x * 0 * y * 1 = 1 by grind, show (1 : Fin p) - d * x * 0 * y * 1 = 1 by grind, h]
 congr 1 <;> grind
def eMul (inv : Fin p → Fin p) (d : Fin p) (P : Fin p × Fin p) : Nat → Fin p × Fin p
 | 0 => eO
 | n + 1 => eAdd inv d (eMul inv d P n) P
theorem mul_on (F : Fld inv) {d : Fin p} (hd : ∀ r : Fin p, r * r ≠ d) {P : Fin p × Fin p} (hP : On d P) : ∀ n, On d (eMul inv d P n)
 | 0 => on_O d
 | n + 1 => add_on F hd (mul_on F hd hP n) hP
theorem mul_add (F : Fld inv) {d : Fin p} (hd : ∀ r : Fin p, r * r ≠ d) {P : Fin p × Fin p} (hP : On d P) (m : Nat) : ∀ n, eMul inv d P (m + n) = eAdd inv d (eMul inv d P m) (eMul inv d P n)
 | 0 => (add_O F d _).symm
 | n + 1 => by
  rw [← Nat.add_assoc, eMul, mul_add F hd hP m n, eMul, add_assoc F hd (mul_on F hd hP m) (mul_on F hd hP n) hP]
def dbl (a : Fin p) (q : Fin p × Fin p) : Fin p × Fin p :=
 (((q.1 + q.2) * (q.1 + q.2)) * ((q.1 - q.2) * (q.1 - q.2)),
  ((q.1 + q.2) * (q.1 + q.2) - (q.1 - q.2) * (q.1 - q.2)) * ((q.1 + q.2) * (q.1 + q.2) + a * ((q.1 + q.2) * (q.1 + q.2) - (q.1 - q.2) * (q.1 - q.2))))
def dif (u : Fin p) (q s : Fin p × Fin p) : Fin p × Fin p :=
 (((s.1 - s.2) * (q.1 + q.2) + (s.1 + s.2) * (q.1 - q.2)) * ((s.1 - s.2) * (q.1 + q.2) + (s.1 + s.2) * (q.1 - q.2)),
  u * (((s.1 - s.2) * (q.1 + q.2) - (s.1 + s.2) * (q.1 - q.2)) * ((s.1 - s.2) * (q.1 + q.2) - (s.1 + s.2) * (q.1 - q.2))))
def ladS (a u : Fin p) (st : (Fin p × Fin p) × (Fin p × Fin p)) (b : Bool) : (Fin p × Fin p) × (Fin p × Fin p) :=
 if b then (dif u st.2 st.1, dbl a st.2) else (dbl a st.1, dif u st.1 st.2)
def lad (a u : Fin p) (bs : List Bool) : (Fin p × Fin p) × (Fin p × Fin p) := bs.foldl (ladS a u) ((1, 0), (u, 1))
def mulF (inv : Fin p → Fin p) (a u : Fin p) (bs : List Bool) : Fin p := (lad a u bs).1.1 * inv (lad a u bs).1.2
theorem mul_zero (F : Fld inv) (a : Fin p) (bs : List Bool) : mulF inv a 0 bs = 0 := by
 have h : ∀ (bs : List Bool) (st : (Fin p × Fin p) × (Fin p × Fin p)), st.1.2 = 0 → (bs.foldl (ladS a 0) st).1.2 = 0 := by
  intro bs
  induction bs with
  | nil => exact fun st h => h
  | cons b bs ih =>
   intro st hz
   rw [List.foldl_cons]
   refine ih _ ?_
   cases b with
   | false =>
    show (dbl a st.1).2 = 0
    simp only [dbl, hz]
    grind
   | true =>
    show (dif 0 st.2 st.1).2 = 0
    simp only [dif]
    grind
 rw [mulF, lad, h bs _ rfl, F.inv_zero]
 grind
end
end Go.Proofs.YtbiijdboolpaeaaGreatDoor.Crv

namespace Go.Proofs.YtbiijdboolpaeaaGreatDoor.Crv
instance p25_ne : NeZero P25 := ⟨by decide +kernel⟩
def cN : Nat := 121665 * 121666
end Go.Proofs.YtbiijdboolpaeaaGreatDoor.Crv

