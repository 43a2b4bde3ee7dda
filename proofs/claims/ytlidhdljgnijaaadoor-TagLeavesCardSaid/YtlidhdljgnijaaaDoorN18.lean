import Derived.Test.YtlidhdljgnijaaaDoorN17
import Derived.Test.YtlidhdljgnijaaaDoorN09
import Derived.ChangeKeysEq
import Derived.Great.Walk
import Derived.Laws.StructEq
import Derived.Laws.Rows
import Derived.Deep.MidRow
/-
  CONTRACT of the document's Bytes (coterieref02): words' bytes.
-/
set_option linter.unusedVariables false
namespace Go.Proofs.YtlidhdljgnijaaaDoor
open Go.RowKit

/-- the bytes of words -/
def bytesU (h : List UInt32) : List UInt8 := (h.map fun x => be 4 x.toNat).flatten
theorem bytesU_len (h : List UInt32) : (bytesU h).length = 4 * h.length := by
  induction h with
  | nil => rfl
  | cons x h ih => simp only [bytesU, List.map_cons, List.flatten_cons, List.length_append, be_length, List.length_cons] at ih ⊢; omega
theorem bytesU_at : ∀ (h : List UInt32) (i n : Nat) (x : UInt32), h[i]? = some x → n < 4 → (bytesU h)[4 * i + n]? = (be 4 x.toNat)[n]?
  | [], i, n, x, hx, _ => by simp at hx
  | y :: h, 0, n, x, hx, hn => by
    simp at hx; subst hx
    simp only [bytesU, List.map_cons, List.flatten_cons]
    rw [List.getElem?_append_left (by rw [be_length]; omega), show 4 * 0 + n = n from by omega]
  | y :: h, i + 1, n, x, hx, hn => by
    simp only [bytesU, List.map_cons, List.flatten_cons]
    rw [List.getElem?_append_right (by rw [be_length]; omega), be_length, show 4 * (i + 1) + n - 4 = 4 * i + n from by omega]
    exact bytesU_at h i n x (by simpa using hx) hn

/-- the first p of 32 bytes, zeros behind -/
def outAt (b : List UInt8) (p : Nat) : List UInt8 := b.take p ++ List.replicate (32 - p) 0
theorem outAt_len {b : List UInt8} (hb : b.length = 32) {p : Nat} (hp : p ≤ 32) : (outAt b p).length = 32 := by simp [outAt]; omega
theorem outAt_all {b : List UInt8} (hb : b.length = 32) : outAt b 32 = b := by simp [outAt, List.take_of_length_le (Nat.le_of_eq hb)]
theorem outAt_zero (b : List UInt8) : outAt b 0 = List.replicate 32 0 := by simp [outAt]
theorem word_plain : Tryd.prog.plainKey 93 = true := by kernel_rfl
theorem word_cells : Tryd.prog.cellsOf 93 = 1 := by kernel_rfl
set_option maxRecDepth 1000000 in
theorem word_info : ∃ i, Tryd.prog.info? 93 = some i := ⟨_, rfl⟩
theorem info32 : (Tryd.prog.info? 36).map (·.size) = some 32 := by kernel_rfl

end Go.Proofs.YtlidhdljgnijaaaDoor

/-
  ARRAYS OF NUMBERS, COMPARED BY VALUE: what '==' and '!=' of two arrays of words, or of bytes, come to.
-/
set_option linter.unusedVariables false
namespace Go.Proofs.YtlidhdljgnijaaaDoor
open Go.RowKit

theorem eql_key (w : World) (a b : List UInt8) (ha : a.length = 32) (hb : b.length = 32) :
    (binOp .eql 36 (.agg (a.map bv).toArray) (.agg (b.map bv).toArray)).run Tryd.prog w = .ok (.bool (a == b)) w := by
  obtain ⟨i, hi⟩ := byte_info
  rw [run_eql_struct, run_eqlRow w false Tryd.underlying36 Tryd.underlying5 hi byteCells bv (fun x => (x.toNat : Int)) (fun _ => rfl) bv_inj 0 a b ha hb]
  rfl

end Go.Proofs.YtlidhdljgnijaaaDoor

