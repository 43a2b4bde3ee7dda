/-
  BYTES THAT ARE A NUMBER FROM 2^255 LESS 19 ON: told byte by byte. Nothing of the program.
-/
import Derived.Test.YtimgnpcojamafaaKey
set_option linter.unusedVariables false
namespace Go.Proofs.Ytimgnpcojamafaa

/-- byte k -/
def byteK (l : List UInt8) (k : Nat) : UInt8 := l.getD k 0
theorem byteK_at {l : List UInt8} {k : Nat} (hk : k < l.length) : l[k]? = some (byteK l k) := by
  rw [byteK, List.getD_eq_getElem?_getD, List.getElem?_eq_getElem hk]
  rfl
theorem byteK_val {l : List UInt8} {k : Nat} (hk : k < l.length) : keyV l / 256 ^ k % 256 = (byteK l k).toNat := by
  rw [keyV_at l k hk, byteK, List.getD_eq_getElem?_getD, List.getElem?_eq_getElem hk]
  rfl
def bigN (l : List UInt8) : Nat → Bool
  | 0 => (((byteK l 31).toNat : Int) == 127) && decide ((237 : Int) ≤ ((byteK l 0).toNat : Int))
  | n + 1 => bigN l n && (((byteK l (n + 1)).toNat : Int) == 255)

theorem step255 {D X d : Nat} (hX : 0 < X) (hD : D < X) (hd : d < 256) : D + X * d = X * 256 - 1 ↔ D = X - 1 ∧ d = 255 := by
  constructor
  · intro h
    have hd5 : d = 255 := by
      rcases Nat.lt_or_ge d 255 with hlt | hge
      · have := Nat.mul_le_mul_left X (show d ≤ 254 by omega)
        omega
      · omega
    subst hd5
    exact ⟨by omega, rfl⟩
  · rintro ⟨h1, rfl⟩
    omega
theorem digits255 (K : Nat) : ∀ n, (∀ i, 1 ≤ i → i ≤ n → K / 256 ^ i % 256 = 255) ↔ K / 256 % 256 ^ n = 256 ^ n - 1
  | 0 => by
    constructor
    · intro _
      simp [Nat.mod_one]
    · intro _ i a b
      omega
  | n + 1 => by
    have ih := digits255 K n
    have e1 : K / 256 % 256 ^ (n + 1) = K / 256 % 256 ^ n + 256 ^ n * (K / 256 ^ (n + 1) % 256) := by
      rw [Nat.pow_succ 256 n, Nat.mod_mul, Nat.div_div_eq_div_mul, Nat.mul_comm 256 (256 ^ n)]
    rw [e1, Nat.pow_succ 256 n, step255 (Nat.pow_pos (by omega)) (Nat.mod_lt _ (Nat.pow_pos (by omega))) (Nat.mod_lt _ (by omega)), ← ih]
    constructor
    · intro h
      exact ⟨fun i a b => h i a (by omega), h (n + 1) (by omega) (by omega)⟩
    · rintro ⟨h1, h2⟩ i a b
      rcases Nat.lt_or_ge i (n + 1) with hi | hi
      · exact h1 i a (by omega)
      · obtain rfl : i = n + 1 := by omega
        exact h2

theorem bigN_iff {l : List UInt8} (hl : l.length = 32) : ∀ n, n ≤ 30 → (bigN l n = true ↔ (keyV l / 256 ^ 31 % 256 = 127 ∧ 237 ≤ keyV l % 256) ∧ ∀ i, 1 ≤ i → i ≤ n → keyV l / 256 ^ i % 256 = 255)
  | 0, _ => by
    have h31 := byteK_val (l := l) (k := 31) (by omega)
    have h0 := byteK_val (l := l) (k := 0) (by omega)
    rw [Nat.pow_zero, Nat.div_one] at h0
    rw [h31, h0, bigN, Bool.and_eq_true, beq_iff_eq, decide_eq_true_eq]
    constructor
    · rintro ⟨h1, h2⟩
      exact ⟨⟨by omega, by omega⟩, fun i a b => by omega⟩
    · rintro ⟨⟨h1, h2⟩, _⟩
      exact ⟨by omega, by omega⟩
  | n + 1, hn => by
    have ih := bigN_iff hl n (by omega)
    have hk := byteK_val (l := l) (k := n + 1) (by omega)
    rw [bigN, Bool.and_eq_true, ih, beq_iff_eq]
    constructor
    · rintro ⟨⟨h1, h2⟩, h3⟩
      refine ⟨h1, fun i a b => ?_⟩
      rcases Nat.lt_or_ge i (n + 1) with hi | hi
      · exact h2 i a (by omega)
      · obtain rfl : i = n + 1 := by omega
        rw [hk]
        omega
    · rintro ⟨h1, h2⟩
      have h3 := h2 (n + 1) (by omega) (by omega)
      rw [hk] at h3
      exact ⟨⟨h1, fun i a b => h2 i a (by omega)⟩, by omega⟩

theorem big_num (K : Nat) (hK : K < 57896044618658097711785492504343953926634992332820282019728792003956564819968) :
    ((K / 256 ^ 31 % 256 = 127 ∧ 237 ≤ K % 256) ∧ K / 256 % 256 ^ 30 = 256 ^ 30 - 1) ↔ P25 ≤ K := by
  rw [show (256 : Nat) ^ 31 = 452312848583266388373324160190187140051835877600158453279131187530910662656 from rfl, show (256 : Nat) ^ 30 = 1766847064778384329583297500742918515827483896875618958121606201292619776 from rfl]
  unfold P25
  constructor
  · rintro ⟨⟨h1, h2⟩, h3⟩
    omega
  · intro h
    refine ⟨⟨by omega, by omega⟩, by omega⟩
theorem big_low (K : Nat) (hK : K < 57896044618658097711785492504343953926634992332820282019728792003956564819968) (h : P25 ≤ K) : K % P25 = K % 256 - 237 := by
  unfold P25 at *
  omega
theorem bigN_spec {l : List UInt8} (hl : l.length = 32) (hK : keyV l < 57896044618658097711785492504343953926634992332820282019728792003956564819968) : bigN l 30 = decide (P25 ≤ keyV l) := by
  rw [Bool.eq_iff_iff, bigN_iff hl 30 (by omega), decide_eq_true_eq, digits255, big_num _ hK]

end Go.Proofs.Ytimgnpcojamafaa
