/-
  PLAIN MATHEMATICS: two blocks that are not the same are not encrypted to the same: each step of a round has one block behind it for each ahead of it. Nothing of the program.
-/
import Derived.Test.YtbiongbbohnoiaaAesBox
set_option linter.unusedVariables false
namespace Go.Proofs.Ytbiongbbohnoiaa
open Go.RowKit

theorem at0_ext {a b : List UInt8} {n : Nat} (ha : a.length = n) (hb : b.length = n) (h : ∀ i, i < n → at0 a i = at0 b i) : a = b := by
  rw [← map_at0 ha, ← map_at0 hb]
  apply List.map_congr_left
  intro i hi
  exact h i (List.mem_range.1 hi)
theorem range16_inj {f g : Nat → UInt8} (h : (List.range 16).map f = (List.range 16).map g) {i : Nat} (hi : i < 16) : f i = g i := by
  rw [← at0_map f hi, h, at0_map g hi]

theorem xor_right {a b k : UInt8} (h : a ^^^ k = b ^^^ k) : a = b := by
  have := congrArg (· ^^^ k) h
  simpa [UInt8.xor_assoc, UInt8.xor_self, UInt8.xor_zero] using this

theorem addU_inj {a b k : List UInt8} (ha : a.length = 16) (hb : b.length = 16) (h : addU a k = addU b k) : a = b :=
  at0_ext ha hb fun i hi => xor_right (range16_inj h hi)
theorem boxL_inj {a b : List UInt8} (ha : a.length = 16) (hb : b.length = 16) (h : boxL a = boxL b) : a = b :=
  at0_ext ha hb fun i hi => boxU_inj (range16_inj h hi)
theorem turnU_inj {a b : List UInt8} (ha : a.length = 16) (hb : b.length = 16) (h : turnU a = turnU b) : a = b := by
  refine at0_ext ha hb fun i hi => ?_
  have := range16_inj h (i := i % 4 + 4 * ((i / 4 + (4 - i % 4)) % 4)) (by omega)
  unfold turnF at this
  rw [show (i % 4 + 4 * ((i / 4 + (4 - i % 4)) % 4)) % 4 + 4 * (((i % 4 + 4 * ((i / 4 + (4 - i % 4)) % 4)) / 4 + (i % 4 + 4 * ((i / 4 + (4 - i % 4)) % 4)) % 4) % 4) = i by omega] at this
  exact this

theorem all8 {p : UInt8 → Prop} (h : ∀ n, n < 256 → p (UInt8.ofNat n)) (x : UInt8) : p x := by
  have := h x.toNat (b_lt x)
  rwa [UInt8.ofNat_toNat] at this
theorem x8_lc (a b c : UInt8) : a ^^^ (b ^^^ c) = b ^^^ (a ^^^ c) := by rw [← UInt8.xor_assoc, UInt8.xor_comm a b, UInt8.xor_assoc]
theorem x8_cancel (a b : UInt8) : a ^^^ (a ^^^ b) = b := by rw [← UInt8.xor_assoc, UInt8.xor_self, UInt8.zero_xor]

theorem tw_high : ∀ n, n < 256 → (UInt8.ofNat n >>> 7) * 27 = if (UInt8.ofNat n).toBitVec.getLsbD 7 then 27 else 0 := by decide +kernel
theorem tw_xor (x y : UInt8) : twU (x ^^^ y) = twU x ^^^ twU y := by
  have e : ∀ z : UInt8, (z >>> 7) * 27 = if z.toBitVec.getLsbD 7 then 27 else 0 := all8 tw_high
  unfold twU
  rw [e, e, e, UInt8.toBitVec_xor, BitVec.getLsbD_xor]
  cases x.toBitVec.getLsbD 7 <;> cases y.toBitVec.getLsbD 7 <;> simp [UInt8.shiftLeft_xor, UInt8.xor_assoc, UInt8.xor_comm, x8_lc]

/-- one byte of a mixed column -/
def mcU (x0 x1 x2 x3 : UInt8) : UInt8 := twU x0 ^^^ twU x1 ^^^ x1 ^^^ x2 ^^^ x3
theorem mc_twice (x0 x1 x2 x3 : UInt8) : mcU (mcU x0 x1 x2 x3) (mcU x1 x2 x3 x0) (mcU x2 x3 x0 x1) (mcU x3 x0 x1 x2) = x0 ^^^ twU (twU (x0 ^^^ x2)) := by
  simp only [mcU, tw_xor]
  simp only [UInt8.xor_assoc, UInt8.xor_comm, x8_lc, x8_cancel]
theorem mc_four (x0 x2 : UInt8) : (x0 ^^^ twU (twU (x0 ^^^ x2))) ^^^ twU (twU ((x0 ^^^ twU (twU (x0 ^^^ x2))) ^^^ (x2 ^^^ twU (twU (x2 ^^^ x0))))) = x0 := by
  simp only [tw_xor]
  simp only [UInt8.xor_assoc, UInt8.xor_comm, x8_lc, UInt8.xor_self, UInt8.xor_zero]
theorem mc_inj {x0 x1 x2 x3 y0 y1 y2 y3 : UInt8} (h0 : mcU x0 x1 x2 x3 = mcU y0 y1 y2 y3) (h1 : mcU x1 x2 x3 x0 = mcU y1 y2 y3 y0) (h2 : mcU x2 x3 x0 x1 = mcU y2 y3 y0 y1) (h3 : mcU x3 x0 x1 x2 = mcU y3 y0 y1 y2) : x0 = y0 := by
  have a0 := mc_twice x0 x1 x2 x3
  have a2 := mc_twice x2 x3 x0 x1
  rw [h0, h1, h2, h3, mc_twice] at a0
  rw [h0, h1, h2, h3, mc_twice] at a2
  have e := mc_four x0 x2
  rw [← a0, ← a2, mc_four] at e
  exact e.symm

theorem mixU_inj {a b : List UInt8} (ha : a.length = 16) (hb : b.length = 16) (h : mixU a = mixU b) : a = b := by
  refine at0_ext ha hb fun i hi => ?_
  obtain ⟨c, r, hr, rfl⟩ : ∃ c r, r < 4 ∧ i = 4 * c + r := ⟨i / 4, i % 4, by omega, by omega⟩
  have hc : c < 4 := by omega
  have hm : ∀ r, r < 4 → mcU (at0 a (4 * c + r)) (at0 a (4 * c + (r + 1) % 4)) (at0 a (4 * c + (r + 2) % 4)) (at0 a (4 * c + (r + 3) % 4)) =
      mcU (at0 b (4 * c + r)) (at0 b (4 * c + (r + 1) % 4)) (at0 b (4 * c + (r + 2) % 4)) (at0 b (4 * c + (r + 3) % 4)) := by
    intro r hr
    have := range16_inj h (i := 4 * c + r) (by omega)
    rw [mixF_at a hc hr, mixF_at b hc hr] at this
    exact this
  have m1 := hm ((r + 1) % 4) (by omega)
  have m2 := hm ((r + 2) % 4) (by omega)
  have m3 := hm ((r + 3) % 4) (by omega)
  rw [show ((r + 1) % 4 + 1) % 4 = (r + 2) % 4 by omega, show ((r + 1) % 4 + 2) % 4 = (r + 3) % 4 by omega, show ((r + 1) % 4 + 3) % 4 = r by omega] at m1
  rw [show ((r + 2) % 4 + 1) % 4 = (r + 3) % 4 by omega, show ((r + 2) % 4 + 2) % 4 = r by omega, show ((r + 2) % 4 + 3) % 4 = (r + 1) % 4 by omega] at m2
  rw [show ((r + 3) % 4 + 1) % 4 = r by omega, show ((r + 3) % 4 + 2) % 4 = (r + 1) % 4 by omega, show ((r + 3) % 4 + 3) % 4 = (r + 2) % 4 by omega] at m3
  exact mc_inj (hm r hr) m1 m2 m3

theorem encTo_inj (k : List UInt8) {a b : List UInt8} (ha : a.length = 16) (hb : b.length = 16) : ∀ n, encTo k a n = encTo k b n → a = b
  | 0, h => addU_inj ha hb h
  | n + 1, h => encTo_inj k ha hb n (boxL_inj (encTo_len _ _ _) (encTo_len _ _ _) (turnU_inj (boxL_len _) (boxL_len _) (mixU_inj (turnU_len _) (turnU_len _) (addU_inj (mixU_len _) (mixU_len _) h))))
theorem encU_inj (k : List UInt8) {a b : List UInt8} (ha : a.length = 16) (hb : b.length = 16) (h : encU k a = encU k b) : a = b :=
  encTo_inj k ha hb 9 (boxL_inj (encTo_len _ _ _) (encTo_len _ _ _) (turnU_inj (boxL_len _) (boxL_len _) (addU_inj (turnU_len _) (turnU_len _) h)))
theorem encU_same (k : List UInt8) {a b : List UInt8} (ha : a.length = 16) (hb : b.length = 16) : (encU k a == encU k b) = (a == b) := by
  rw [Bool.eq_iff_iff, beq_iff_eq, beq_iff_eq]
  exact ⟨encU_inj k ha hb, fun h => by rw [h]⟩
theorem box_same (x y : UInt8) : (((boxU x).toNat : Int) == ((boxU y).toNat : Int)) = ((x.toNat : Int) == (y.toNat : Int)) := by
  rw [Bool.eq_iff_iff, beq_iff_eq, beq_iff_eq]
  constructor
  · intro h
    rw [boxU_inj (bv_inj _ _ h)]
  · intro h
    rw [bv_inj _ _ h]

end Go.Proofs.Ytbiongbbohnoiaa
