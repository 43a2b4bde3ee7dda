/-
  THE FIELD OF 2^255 LESS 19 AS RESIDUES: what divides, what squares there are; so the ladder of Curve25519 hangs on no order. Nothing of the program.
-/
import Derived.Test.YtimgnpcojamafaaEdw
import Derived.Test.YtimgnpcojamafaaFeSpec
set_option linter.unusedVariables false
namespace Go.Proofs.Ytimgnpcojamafaa.Crv

instance p25_ne : NeZero P25 := ⟨by decide +kernel⟩
/-- a number, modulo the prime -/
def fi (n : Nat) : Fin P25 := Fin.ofNat P25 n
theorem fi_val (n : Nat) : (fi n).val = n % P25 := rfl
theorem fi_eq {a b : Nat} : fi a = fi b ↔ a % P25 = b % P25 := ⟨fun h => congrArg Fin.val h, fun h => Fin.ext h⟩
theorem fi_add (a b : Nat) : fi (a + b) = fi a + fi b := Fin.ext (Nat.add_mod a b P25)
theorem fi_mul (a b : Nat) : fi (a * b) = fi a * fi b := Fin.ext (Nat.mul_mod a b P25)
theorem fi_mod (a : Nat) : fi (a % P25) = fi a := fi_eq.2 (Nat.mod_mod _ _)
theorem fi_of (x : Fin P25) : fi x.val = x := Fin.ext (Nat.mod_eq_of_lt x.isLt)
theorem fi_zero : fi 0 = 0 := rfl
theorem fi_one : fi 1 = 1 := rfl
theorem fi_sub {x a b : Nat} (h : (x + b) % P25 = a % P25) : fi x = fi a - fi b := by
  have h1 : fi x + fi b = fi a := by rw [← fi_add]; exact fi_eq.2 h
  rw [← h1]
  generalize fi x = y
  generalize fi b = z
  clear h1 h
  grind
theorem fi_nz {n : Nat} : fi n = 0 ↔ n % P25 = 0 := by
  rw [← fi_zero, fi_eq, Nat.zero_mod]

/-- what a residue is divided by -/
def inF (x : Fin P25) : Fin P25 := fi (x.val ^ (P25 - 2))
theorem inF_fi (n : Nat) : inF (fi n) = fi (n ^ (P25 - 2)) := by
  rw [inF, fi_val]
  exact fi_eq.2 (by rw [← Nat.pow_mod])
theorem fermP : Fermat P25 := fermat255
theorem fermatN {n : Nat} (h : n % P25 ≠ 0) : fi (n ^ (P25 - 1)) = 1 := by
  rw [← fi_one]
  exact fi_eq.2 (fermP n h)
theorem P25_m1 : P25 - 1 = P25 - 2 + 1 := by decide +kernel
theorem P25_m2 : P25 - 2 ≠ 0 := by decide +kernel
theorem fld25 : Fld inF := by
  refine ⟨fun h => ?_, fun a ha => ?_, ?_⟩
  · exact absurd (congrArg Fin.val h) (by decide +kernel)
  · have hv : a.val % P25 ≠ 0 := fun h => ha (by rw [← fi_of a]; exact fi_nz.2 h)
    have h1 := fermatN hv
    rw [P25_m1, Nat.pow_succ, Nat.mul_comm, fi_mul, fi_of] at h1
    exact h1
  · rw [inF, show (0 : Fin P25).val = 0 from rfl, Nat.zero_pow (Nat.pos_of_ne_zero P25_m2)]
    exact fi_zero

def rootI : Nat := pm P25 256 2 ((P25 - 1) / 4)
theorem rootI_sq : fi rootI * fi rootI = -1 := by
  have h : (rootI * rootI + 1) % P25 = 0 % P25 := by decide +kernel
  have h2 : fi rootI * fi rootI + 1 = 0 := by
    rw [← fi_mul, ← fi_one, ← fi_add, ← fi_zero]
    exact fi_eq.2 h
  generalize fi rootI * fi rootI = y at *
  clear h
  grind
theorem e_half : P25 - 1 = (P25 - 1) / 2 + (P25 - 1) / 2 := by decide +kernel
theorem e_quart : (P25 - 1) / 2 = (P25 - 1) / 4 + (P25 - 1) / 4 := by decide +kernel
theorem e_eight : (P25 + 3) / 8 + (P25 + 3) / 8 = (P25 - 1) / 4 + 1 := by decide +kernel
theorem pm_one (x : Fin P25) (h : x * x = 1) : x = 1 ∨ x = -1 := by
  rcases fld25.zero_or (show (x - 1) * (x + 1) = 0 by grind) with h | h
  · exact .inl (by grind)
  · exact .inr (by grind)
theorem sqrt_of (n : Nat) (h : fi (n ^ ((P25 - 1) / 2)) = 1) : ∃ r, r * r = fi n := by
  rw [e_quart, Nat.pow_add, fi_mul] at h
  have hr : fi (n ^ ((P25 + 3) / 8)) * fi (n ^ ((P25 + 3) / 8)) = fi (n ^ ((P25 - 1) / 4)) * fi n := by
    rw [← fi_mul, ← Nat.pow_add, e_eight, Nat.pow_succ, fi_mul]
  have hI := rootI_sq
  rcases pm_one _ h with hq | hq
  · refine ⟨_, hr.trans ?_⟩
    rw [hq]
    generalize fi n = y
    clear hr hq hI h
    grind
  · refine ⟨fi (n ^ ((P25 + 3) / 8)) * fi rootI, ?_⟩
    rw [hq] at hr
    generalize fi (n ^ ((P25 + 3) / 8)) = r at *
    generalize fi rootI = s at *
    generalize fi n = y at *
    clear hq h
    grind
theorem half_of (n : Nat) (h : n % P25 ≠ 0) : fi (n ^ ((P25 - 1) / 2)) = 1 ∨ fi (n ^ ((P25 - 1) / 2)) = -1 := by
  refine pm_one _ ?_
  rw [← fi_mul, ← Nat.pow_add, ← e_half]
  exact fermatN h

/-- the curve's number, and what is no square -/
def a24 : Fin P25 := fi 121665
def cN : Nat := 121665 * 121666
theorem c_eq : fi cN = a24 * (1 + a24) := by
  rw [cN, fi_mul, show (121666 : Nat) = 1 + 121665 from rfl, fi_add]
  rfl
theorem c_half : fi (cN ^ ((P25 - 1) / 2)) = -1 := by
  have h : (pm P25 256 cN ((P25 - 1) / 2) + 1) % P25 = 0 % P25 := by decide +kernel
  rw [pm_eq P25 256 cN _ (by decide +kernel)] at h
  have h2 : fi (cN ^ ((P25 - 1) / 2)) + 1 = 0 := by
    rw [← fi_mod (cN ^ ((P25 - 1) / 2)), ← fi_one, ← fi_add, ← fi_zero]
    exact fi_eq.2 h
  generalize fi (cN ^ ((P25 - 1) / 2)) = y at *
  clear h
  grind
theorem no_root (r : Fin P25) : r * r ≠ a24 * (1 + a24) := by
  rw [← c_eq]
  intro h
  have h1 := c_half
  have hr : fi (r.val * r.val) = fi cN := by rw [fi_mul, fi_of, h]
  have h2 : fi ((r.val * r.val) ^ ((P25 - 1) / 2)) = fi (cN ^ ((P25 - 1) / 2)) := fi_eq.2 (by rw [Nat.pow_mod, fi_eq.1 hr, ← Nat.pow_mod])
  rw [h1, Nat.mul_pow, ← Nat.pow_add, ← e_half] at h2
  by_cases hz : r.val % P25 = 0
  · have : r = 0 := by rw [← fi_of r]; exact fi_nz.2 hz
    rw [this] at h
    exact absurd (congrArg Fin.val h) (by decide +kernel)
  · rw [fermatN hz] at h2
    exact absurd (congrArg Fin.val h2) (by decide +kernel)
theorem root_or (h : Fin P25) : (∃ r, r * r = h) ∨ (∃ r, r * r = a24 * (1 + a24) * h) := by
  by_cases hz : h.val % P25 = 0
  · refine .inl ⟨0, ?_⟩
    have : h = 0 := by rw [← fi_of h]; exact fi_nz.2 hz
    rw [this]
    clear this hz
    grind
  · rcases half_of h.val hz with h1 | h1
    · have := sqrt_of h.val h1
      rw [fi_of] at this
      exact .inl this
    · have h2 : fi ((cN * h.val) ^ ((P25 - 1) / 2)) = 1 := by
        rw [Nat.mul_pow, fi_mul, h1, c_half]
        clear h1 hz
        grind
      have := sqrt_of _ h2
      rw [fi_mul, fi_of, c_eq] at this
      exact .inr this

/-- a number multiplied by two others, one behind the other, hangs on no order -/
theorem turns25 (u : Fin P25) {bs cs : List Bool} {i j : Nat} (hb : numB bs = 2 * i) (hc : numB cs = 2 * j) :
    mulF inF a24 (mulF inF a24 u bs) cs = mulF inF a24 (mulF inF a24 u cs) bs := turns_all fld25 no_root root_or u hb hc

end Go.Proofs.Ytimgnpcojamafaa.Crv
