import Derived.Test.YtgjeamapgdakcaaDoorG09
import Derived.Laws.StructEq
import Derived.Laws.Rows
import Derived.Deep.MidRow
/-
  ARRAYS OF NUMBERS, COMPARED BY VALUE: what '==' and '!=' of two arrays of words, or of bytes, come to.
-/
set_option linter.unusedVariables false
namespace Go.Proofs.YtgjeamapgdakcaaDoor
open Go.RowKit

theorem eql_words (w : World) (a b : List UInt32) (ha : a.length = 8) (hb : b.length = 8) :
    (binOp .eql 57 (.agg (a.map wv).toArray) (.agg (b.map wv).toArray)).run Tryd.prog w = .ok (.bool (a == b)) w := by
  obtain ⟨i, hi⟩ := word_info
  rw [run_eql_struct, run_eqlRow w false Tryd.underlying57 Tryd.underlying56 hi word_cells wv (fun x => (x.toNat : Int)) (fun _ => rfl) wv_inj 0 a b ha hb]
  rfl
theorem neq_words (w : World) (a b : List UInt32) (ha : a.length = 8) (hb : b.length = 8) :
    (binOp .neq 57 (.agg (a.map wv).toArray) (.agg (b.map wv).toArray)).run Tryd.prog w = .ok (.bool (!(a == b))) w := by
  obtain ⟨i, hi⟩ := word_info
  rw [run_neq_struct, run_eqlRow w false Tryd.underlying57 Tryd.underlying56 hi word_cells wv (fun x => (x.toNat : Int)) (fun _ => rfl) wv_inj 0 a b ha hb]
  rfl
theorem eql_key (w : World) (a b : List UInt8) (ha : a.length = 32) (hb : b.length = 32) :
    (binOp .eql 24 (.agg (a.map bv).toArray) (.agg (b.map bv).toArray)).run Tryd.prog w = .ok (.bool (a == b)) w := by
  obtain ⟨i, hi⟩ := byte_info
  rw [run_eql_struct, run_eqlRow w false Tryd.underlying24 Tryd.underlying5 hi byteCells bv (fun x => (x.toNat : Int)) (fun _ => rfl) bv_inj 0 a b ha hb]
  rfl

end Go.Proofs.YtgjeamapgdakcaaDoor

