import Derived.Test.YtlidhdljgnijaaaDoorN09
import Derived.Laws.IdiomStrings
import Derived.Laws.Cover3
import Derived.Deep.MidRow
import Derived.Lib.SmallJoins
/-
  WHAT THE BYTES OF A STRING ANSWER, and leave.
-/
set_option linter.unusedVariables false
namespace Go.Proofs.YtlidhdljgnijaaaDoor
open Go.RowKit

/-- the bytes of a string -/
def strB (s : ByteArray) : List UInt8 := s.data.toList
theorem strB_len (s : ByteArray) : (strB s).length = s.size := by simp [strB]

/-- what '[]byte(s)' answers, and leaves -/
structure Conv (wx : World) (s : ByteArray) (c : Nat) (w' : World) : Prop where
  cap : s.size ≤ c
  rd : Rd w' w'.heap.size (some ⟨wx.heap.size, 0, none⟩) s.size ((strB s).map bv)
  below : Below wx.heap.size wx w'
  size : w'.heap.size = wx.heap.size + 1
theorem conv_any (s : ByteArray) : ∃ (cf : World → Nat) (wf : World → World), (∀ wx, (convert 9 41 (.string s)).run Tryd.prog wx = .ok (.slice (some ⟨wx.heap.size, 0, none⟩) s.size (cf wx)) (wf wx)) ∧ ∀ wx, Conv wx s (cf wx) (wf wx) := by
  refine ⟨_, _, fun wx => run_bytes_of_string wx 9 41 5 s Tryd.underlying9 Tryd.underlying41 Tryd.underlying5, fun wx => ⟨grownCap_ge wx s.size 0 _, ?_, ((c_refl wx).drew).alloc (Nat.le_refl _) _, by simp⟩⟩
  refine ⟨by simp [strB_len], fun hp => ⟨wx.heap.size, 0, rfl, by simp, fun j u hu => ?_⟩⟩
  have hj : j < s.size := by
    have := (List.getElem?_eq_some_iff.1 hu).1
    rw [List.length_map, strB_len] at this
    exact this
  rw [Nat.zero_add, cell_of_row _ wx.heap.size j _ _ _ (heap_alloc_new wx.drew _)]
  have h2 : (strB s)[j]? = some s.data[j] := by
    unfold strB
    rw [Array.getElem?_toList]
    exact Array.getElem?_eq_getElem hj
  rw [List.getElem?_map, h2] at hu
  simp only [Option.map_some, Option.some.injEq] at hu
  rw [← hu]
  unfold bytesRow
  rw [Array.getElem?_append_left (by simpa using hj), Array.getElem?_map, Array.getElem?_eq_getElem hj]
  rfl

end Go.Proofs.YtlidhdljgnijaaaDoor

