import Derived.Test.YtajbaaamhddgiaaDoorG13
import Derived.Test.YtajbaaamhddgiaaDoorG32
/-
  Sealing as functions on lists of bytes: the stream, the sum, what is sealed and what is opened (layer 7).
-/
set_option linter.unusedVariables false
namespace Go.Proofs.YtajbaaamhddgiaaDoor
open Go.RowKit

/-- the text that names the stream, and the one that names the sum -/
def streamL : List UInt8 := [115, 116, 114, 101, 97, 109]
def sumL : List UInt8 := [115, 117, 109]
/-- a text encrypted by a key's stream -/
def streamU (k b : List UInt8) : List UInt8 := ctrU ((expandU k streamL 28).take 16) ((expandU k streamL 28).drop 16) 0 b
/-- what is summed ahead of the hidden text -/
def besideU (ts : List (List UInt8)) : List UInt8 := txs ts ++ be 4 ts.length
/-- the sum that stands behind -/
def tagU (k hidden : List UInt8) (ts : List (List UInt8)) : List UInt8 := (macU (expandU k sumL 32) (besideU ts ++ hidden)).take 16
def sealU (k plain : List UInt8) (ts : List (List UInt8)) : List UInt8 := streamU k plain ++ tagU k (streamU k plain) ts
/-- does what stands behind agree -/
def soundU (k b : List UInt8) (ts : List (List UInt8)) : Prop := tagU k (b.take (b.length - 16)) ts = b.drop (b.length - 16)
def openU (k b : List UInt8) : List UInt8 := streamU k (b.take (b.length - 16))

theorem streamK_len (k : List UInt8) : ((expandU k streamL 28).take 16).length = 16 := by simp [expandU_len]
theorem streamN_len (k : List UInt8) : ((expandU k streamL 28).drop 16).length = 12 := by simp [expandU_len]
theorem streamU_len (k b : List UInt8) : (streamU k b).length = b.length := ctrTo_len _ _ _ _ _
theorem tagU_len (k hidden : List UInt8) (ts : List (List UInt8)) : (tagU k hidden ts).length = 16 := by simp [tagU, macU_len]
theorem sealU_len (k plain : List UInt8) (ts : List (List UInt8)) : (sealU k plain ts).length = plain.length + 16 := by
  rw [sealU, List.length_append, streamU_len, tagU_len]

/-- the stream alone: what byte i is changed by -/
def maskU (k : List UInt8) (i : Nat) : UInt8 := at0 (encU ((expandU k streamL 28).take 16) (cinU ((expandU k streamL 28).drop 16) (0 + i / 16))) (i % 16)
theorem streamU_at (k : List UInt8) {b : List UInt8} {i : Nat} (h : i < b.length) : at0 (streamU k b) i = at0 b i ^^^ maskU k i := ctrU_at _ _ _ h
theorem xor_twice (a m : UInt8) : a ^^^ m ^^^ m = a := by rw [UInt8.xor_assoc, UInt8.xor_self, UInt8.xor_zero]
theorem streamU_twice (k b : List UInt8) : streamU k (streamU k b) = b := by
  refine at0_ext (by rw [streamU_len, streamU_len]) fun i hi => ?_
  rw [streamU_len, streamU_len] at hi
  rw [streamU_at k (by rw [streamU_len]; exact hi), streamU_at k hi, xor_twice]
theorem at0_take {l : List UInt8} {m i : Nat} (h : i < m) : at0 (l.take m) i = at0 l i := by
  simp only [at0, List.getD_eq_getElem?_getD, List.getElem?_take, if_pos h]
theorem at0_app {l m : List UInt8} {i : Nat} (h : i < l.length) : at0 (l ++ m) i = at0 l i := by
  simp only [at0, List.getD_eq_getElem?_getD, List.getElem?_append_left h]
/-- the stream of a beginning is the beginning of the stream -/
theorem streamU_take (k b : List UInt8) (m : Nat) : streamU k (b.take m) = (streamU k b).take m := by
  refine at0_ext (by simp [streamU_len]) fun i hi => ?_
  rw [streamU_len, List.length_take] at hi
  rw [streamU_at k (by rw [List.length_take]; exact hi), at0_take (by omega), at0_take (by omega), streamU_at k (by omega)]
/-- two texts differ under one stream where they do -/
theorem streamU_differ (k : List UInt8) {a b : List UInt8} {i : Nat} (ha : i < a.length) (hb : i < b.length) : at0 (streamU k a) i ^^^ at0 (streamU k b) i = at0 a i ^^^ at0 b i := by
  rw [streamU_at k ha, streamU_at k hb]
  generalize at0 a i = x
  generalize at0 b i = y
  generalize maskU k i = m
  rw [UInt8.xor_comm y m, ← UInt8.xor_assoc, xor_twice]
theorem sealU_differ (k : List UInt8) {a b : List UInt8} (ts : List (List UInt8)) {i : Nat} (ha : i < a.length) (hb : i < b.length) : at0 (sealU k a ts) i ^^^ at0 (sealU k b ts) i = at0 a i ^^^ at0 b i := by
  rw [sealU, sealU, at0_app (by rw [streamU_len]; exact ha), at0_app (by rw [streamU_len]; exact hb), streamU_differ k ha hb]

/-- the two parts of what was sealed -/
theorem sealU_hidden (k plain : List UInt8) (ts : List (List UInt8)) : (sealU k plain ts).take ((sealU k plain ts).length - 16) = streamU k plain := by
  rw [sealU_len, Nat.add_sub_cancel, sealU]
  exact List.take_left' (streamU_len k plain)
theorem sealU_tail (k plain : List UInt8) (ts : List (List UInt8)) : (sealU k plain ts).drop ((sealU k plain ts).length - 16) = tagU k (streamU k plain) ts := by
  rw [sealU_len, Nat.add_sub_cancel, sealU]
  exact List.drop_left' (streamU_len k plain)
theorem sealU_sound (k plain : List UInt8) (ts : List (List UInt8)) : soundU k (sealU k plain ts) ts := by
  rw [soundU, sealU_hidden, sealU_tail]
theorem open_seal (k plain : List UInt8) (ts : List (List UInt8)) : openU k (sealU k plain ts) = plain := by
  rw [openU, sealU_hidden, streamU_twice]
/-- what is opened is, sealed, what stood there -/
theorem seal_open (k b : List UInt8) (ts : List (List UInt8)) (h : soundU k b ts) : sealU k (openU k b) ts = b := by
  rw [sealU, openU, streamU_twice, h, List.take_append_drop]
theorem openU_len (k b : List UInt8) : (openU k b).length = b.length - 16 := by
  rw [openU, streamU_len, List.length_take]
  omega
/-- of a beginning, but for the tail -/
theorem sealU_take (k b : List UInt8) (ts us : List (List UInt8)) (m : Nat) (h : m ≤ b.length) : (sealU k b ts).take m = (sealU k (b.take m) us).take m := by
  rw [sealU, sealU, List.take_append_of_le_length (by rw [streamU_len]; exact h), List.take_append_of_le_length (by rw [streamU_len, List.length_take]; omega), streamU_take, List.take_take, Nat.min_self]

/-- a byte of the tail made another one: the hidden part is the same -/
theorem bad_hidden (k plain : List UInt8) (ts : List (List UInt8)) (i : Nat) (x : UInt8) (hi : plain.length ≤ i) : ((sealU k plain ts).set i x).take plain.length = streamU k plain := by
  rw [List.take_set_of_le (by omega), sealU]
  exact List.take_left' (streamU_len k plain)
/-- and nothing is opened -/
theorem bad_sound (k plain : List UInt8) (ts : List (List UInt8)) (i : Nat) (x : UInt8) (hi : plain.length ≤ i) (hi2 : i < plain.length + 16) (hx : x ≠ at0 (sealU k plain ts) i) : ¬ soundU k ((sealU k plain ts).set i x) ts := by
  intro h
  rw [soundU, List.length_set, sealU_len, Nat.add_sub_cancel, bad_hidden k plain ts i x hi] at h
  have h2 := congrArg (fun l => l[i - plain.length]?) h
  simp only [List.getElem?_drop] at h2
  rw [show plain.length + (i - plain.length) = i by omega, List.getElem?_set_self (by rw [sealU_len]; exact hi2)] at h2
  have h3 : (sealU k plain ts)[i]? = (tagU k (streamU k plain) ts)[i - plain.length]? := by
    rw [sealU, List.getElem?_append_right (by rw [streamU_len]; exact hi), streamU_len]
  rw [← h3] at h2
  exact hx (at0_some h2).symm
theorem seal_set (k plain : List UInt8) (ts : List (List UInt8)) (i : Nat) (hi : i < plain.length + 16) : (sealU k plain ts).set i (at0 (sealU k plain ts) i) = sealU k plain ts := by
  have h : i < (sealU k plain ts).length := by rw [sealU_len]; exact hi
  have e := at0_of h
  rw [List.getElem?_eq_getElem h] at e
  rw [← Option.some.inj e, List.set_getElem_self]

end Go.Proofs.YtajbaaamhddgiaaDoor

