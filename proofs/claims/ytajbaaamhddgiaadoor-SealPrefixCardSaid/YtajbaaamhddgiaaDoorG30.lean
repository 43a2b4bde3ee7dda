import Derived.Test.YtajbaaamhddgiaaDoorG21
/-
  PLAIN MATHEMATICS: the keys of a key as one row of words, each told by those ahead of it. Nothing of the program.
-/
set_option linter.unusedVariables false
namespace Go.Proofs.YtajbaaamhddgiaaDoor
open Go.RowKit

theorem keyAt {k : List UInt8} (h : k.length = 16) {j p : Nat} (hj : j < 11) (hp : p < 16) : at0 (keysU k) (16 * j + p) = at0 (keyU k j) p := by
  rw [keysU_kTo]
  unfold at0
  rw [List.getD_eq_getElem?_getD, kTo_at h hp 11 hj, List.getD_eq_getElem?_getD]
theorem word_first {k : List UInt8} (h : k.length = 16) {p : Nat} (hp : p < 16) : at0 (keysU k) p = at0 k p := by
  have := keyAt h (j := 0) (p := p) (by omega) hp
  rwa [show 16 * 0 + p = p by omega] at this

/-- what is laid over the word four ahead -/
def tW (F : List UInt8) (i n : Nat) : UInt8 := if i % 4 = 0 then boxU (at0 F (4 * (i - 1) + (n + 1) % 4)) ^^^ (if n = 0 then markU ((i - 1) / 4) else 0) else at0 F (4 * (i - 1) + n)
theorem word_next {k : List UInt8} (h : k.length = 16) {i n : Nat} (hi : 4 ≤ i) (hi2 : i < 44) (hn : n < 4) :
    at0 (keysU k) (4 * i + n) = at0 (keysU k) (4 * (i - 4) + n) ^^^ tW (keysU k) i n := by
  obtain ⟨j, c, hc, rfl⟩ : ∃ j c, c < 4 ∧ i = 4 * (j + 1) + c := ⟨i / 4 - 1, i % 4, by omega, by omega⟩
  have e1 : at0 (keysU k) (4 * (4 * (j + 1) + c) + n) = wordK (keyU k j) (markU j) (c + 1) n := by
    rw [show 4 * (4 * (j + 1) + c) + n = 16 * (j + 1) + (n + 4 * c) by omega, keyAt h (by omega) (by omega), keyU, nextU, at0_map (nextF (keyU k j) (markU j)) (by omega)]
    unfold nextF
    rw [show (n + 4 * c) / 4 = c by omega, show (n + 4 * c) % 4 = n by omega]
  have e2 : at0 (keysU k) (4 * (4 * (j + 1) + c - 4) + n) = at0 (keyU k j) (n + 4 * c) := by
    rw [show 4 * (4 * (j + 1) + c - 4) + n = 16 * j + (n + 4 * c) by omega, keyAt h (by omega) (by omega)]
  have e3 : tW (keysU k) (4 * (j + 1) + c) n = wordK (keyU k j) (markU j) c n := by
    unfold tW
    rcases c with _ | c
    · rw [if_pos (by omega), show 4 * (4 * (j + 1) + 0 - 1) + (n + 1) % 4 = 16 * j + (12 + (n + 1) % 4) by omega, keyAt h (by omega) (by omega), show (4 * (j + 1) + 0 - 1) / 4 = j by omega]
      rfl
    · rw [if_neg (by omega), show 4 * (4 * (j + 1) + (c + 1) - 1) + n = 16 * (j + 1) + (n + 4 * c) by omega, keyAt h (by omega) (by omega), keyU, nextU, at0_map (nextF (keyU k j) (markU j)) (by omega)]
      unfold nextF
      rw [show (n + 4 * c) / 4 = c by omega, show (n + 4 * c) % 4 = n by omega]
  rw [e1, e2, e3, UInt8.xor_comm]
  rfl

end Go.Proofs.YtajbaaamhddgiaaDoor

