/-
  THE STREAM, BYTE BY BYTE: done twice a text is as it was; parts of whole blocks come to the same as all at once; of zeros it is the counters' blocks, encrypted. Nothing of the program.
-/
import Derived.Test.YtbkdlmneidboaaaCtrB
set_option linter.unusedVariables false
namespace Go.Proofs.Ytbkdlmneidboaaa
open Go.RowKit

theorem at0_some {l : List UInt8} {i : Nat} {v : UInt8} (h : l[i]? = some v) : at0 l i = v := by
  have hi : i < l.length := (List.getElem?_eq_some_iff.1 h).1
  have := at0_of hi
  rw [h] at this
  injection this with e
  exact e.symm
theorem at0_ext {l m : List UInt8} (hl : l.length = m.length) (h : ∀ i, i < l.length → at0 l i = at0 m i) : l = m := by
  apply List.ext_getElem? 
  intro i
  by_cases hi : i < l.length
  · rw [at0_of hi, at0_of (by omega), h i hi]
  · rw [List.getElem?_eq_none (by omega), List.getElem?_eq_none (by omega)]
theorem xorAt_at (ys : List UInt8) (p : Nat) (s : List UInt8) {i : Nat} (hi : i < ys.length) : (xorAt ys p s)[i]? = some (if p ≤ i ∧ i < p + 16 then at0 ys i ^^^ at0 s (i - p) else at0 ys i) := by simp [xorAt, hi]

theorem ctrTo_at (k n : List UInt8) (f : Nat) (b : List UInt8) : ∀ J i, i < b.length → at0 (ctrTo k n f b J) i = if i / 16 < J then at0 b i ^^^ at0 (encU k (cinU n (f + i / 16))) (i % 16) else at0 b i
  | 0, i, hi => by rw [if_neg (by omega)]; rfl
  | J + 1, i, hi => by
    have ih := ctrTo_at k n f b J i hi
    have h := xorAt_at (ctrTo k n f b J) (16 * J) (encU k (cinU n (f + J))) (i := i) (by rw [ctrTo_len]; exact hi)
    rw [ctrTo, at0_some h]
    by_cases h1 : 16 * J ≤ i ∧ i < 16 * J + 16
    · have hq : i / 16 = J := by omega
      rw [if_pos h1, ih, if_neg (by omega), if_pos (by omega), hq, show i - 16 * J = i % 16 by omega]
    · rw [if_neg h1, ih]
      by_cases h2 : i / 16 < J
      · rw [if_pos h2, if_pos (by omega)]
      · rw [if_neg h2, if_neg (by omega)]
theorem ctrU_len (k n : List UInt8) (f : Nat) (b : List UInt8) : (ctrU k n f b).length = b.length := ctrTo_len _ _ _ _ _
theorem ctrU_at (k n : List UInt8) (f : Nat) {b : List UInt8} {i : Nat} (hi : i < b.length) : at0 (ctrU k n f b) i = at0 b i ^^^ at0 (encU k (cinU n (f + i / 16))) (i % 16) := by
  rw [ctrU, ctrTo_at k n f b _ i hi, if_pos (by unfold nbs; omega)]

theorem ctr_twice (k n : List UInt8) (f : Nat) (b : List UInt8) : ctrU k n f (ctrU k n f b) = b := by
  refine at0_ext (by rw [ctrU_len, ctrU_len]) fun i hi => ?_
  rw [ctrU_len, ctrU_len] at hi
  rw [ctrU_at k n f (by rw [ctrU_len]; exact hi), ctrU_at k n f hi, UInt8.xor_assoc, UInt8.xor_self, UInt8.xor_zero]

theorem ctr_split (k n : List UInt8) (f B : Nat) (b : List UInt8) (hB : 16 * B ≤ b.length) : ctrU k n f b = ctrU k n f (b.take (16 * B)) ++ ctrU k n (f + B) (b.drop (16 * B)) := by
  have hlt : (b.take (16 * B)).length = 16 * B := by rw [List.length_take]; omega
  have hld : (b.drop (16 * B)).length = b.length - 16 * B := List.length_drop
  refine at0_ext (by rw [List.length_append, ctrU_len, ctrU_len, ctrU_len, hlt, hld]; omega) fun i hi => ?_
  rw [ctrU_len] at hi
  by_cases h : i < 16 * B
  · have e : (ctrU k n f (b.take (16 * B)) ++ ctrU k n (f + B) (b.drop (16 * B)))[i]? = (ctrU k n f (b.take (16 * B)))[i]? := List.getElem?_append_left (by rw [ctrU_len, hlt]; exact h)
    have e2 := at0_of (l := ctrU k n f (b.take (16 * B))) (i := i) (by rw [ctrU_len, hlt]; exact h)
    have e3 : at0 (b.take (16 * B)) i = at0 b i := at0_some (by rw [List.getElem?_take, if_pos h]; exact at0_of hi)
    rw [at0_some (e.trans e2), ctrU_at k n f hi, ctrU_at k n f (by rw [hlt]; exact h), e3]
  · have hj : i - 16 * B < (b.drop (16 * B)).length := by rw [hld]; omega
    have e : (ctrU k n f (b.take (16 * B)) ++ ctrU k n (f + B) (b.drop (16 * B)))[i]? = (ctrU k n (f + B) (b.drop (16 * B)))[i - 16 * B]? := by
      rw [List.getElem?_append_right (by rw [ctrU_len, hlt]; omega), ctrU_len, hlt]
    have e2 := at0_of (l := ctrU k n (f + B) (b.drop (16 * B))) (i := i - 16 * B) (by rw [ctrU_len]; exact hj)
    have e3 : at0 (b.drop (16 * B)) (i - 16 * B) = at0 b i := at0_some (by rw [List.getElem?_drop, show 16 * B + (i - 16 * B) = i by omega]; exact at0_of hi)
    rw [at0_some (e.trans e2), ctrU_at k n f hi, ctrU_at k n (f + B) hj, e3, show f + B + (i - 16 * B) / 16 = f + i / 16 by omega, show (i - 16 * B) % 16 = i % 16 by omega]

theorem ctr_take (k n : List UInt8) (f B : Nat) (b : List UInt8) (hB : 16 * B ≤ b.length) : (ctrU k n f b).take (16 * B) = ctrU k n f (b.take (16 * B)) := by
  rw [ctr_split k n f B b hB, List.take_append_of_le_length (by rw [ctrU_len, List.length_take]; omega), List.take_of_length_le (by rw [ctrU_len, List.length_take]; omega)]

theorem ctr_zeros (k n : List UInt8) (f M i : Nat) (hk : k.length = 16) (hi : i < M) : ((ctrU k n f (List.replicate (16 * M) 0)).drop (16 * i)).take 16 = encU k (cinU n (f + i)) := by
  have hl : (((ctrU k n f (List.replicate (16 * M) 0)).drop (16 * i)).take 16).length = 16 := by rw [List.length_take, List.length_drop, ctrU_len, List.length_replicate]; omega
  refine at0_ext (by rw [hl, encU_len]) fun j hj => ?_
  rw [hl] at hj
  have hjj : 16 * i + j < 16 * M := by omega
  have e := ctrU_at k n f (b := List.replicate (16 * M) 0) (i := 16 * i + j) (by rw [List.length_replicate]; exact hjj)
  have e0 : at0 (List.replicate (16 * M) (0 : UInt8)) (16 * i + j) = 0 := at0_some (by rw [List.getElem?_replicate, if_pos hjj])
  rw [e0, UInt8.zero_xor, show (16 * i + j) / 16 = i by omega, show (16 * i + j) % 16 = j by omega] at e
  rw [← e]
  refine at0_some ?_
  rw [List.getElem?_take, if_pos hj, List.getElem?_drop]
  exact at0_of (by rw [ctrU_len, List.length_replicate]; exact hjj)

end Go.Proofs.Ytbkdlmneidboaaa
