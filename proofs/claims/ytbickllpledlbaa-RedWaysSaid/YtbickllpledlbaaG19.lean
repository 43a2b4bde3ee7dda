import Derived.Test.YtbickllpledlbaaG16
/-
  CONTRACT of the document's with (coterieref10).
-/
set_option linter.unusedVariables false
namespace Go.Proofs.Ytbickllpledlbaa
open Go.RowKit

theorem joinN_len (l m r : List Nd) : (joinN l m r).length = 1 ∨ (joinN l m r).length = 2 := by
  unfold joinN
  split
  · exact .inr rfl
  · exact .inl rfl
theorem withN_len (x : Nd) (id : Int) : (withN x id).length = 1 ∨ (withN x id).length = 2 := by
  cases x with
  | leaf i => rw [withN]; split <;> exact .inr rfl
  | one a => rw [withN]; exact joinN_len _ _ _
  | two a b => rw [withN]; split <;> exact joinN_len _ _ _
  | three a b c => rw [withN]; split; exact joinN_len _ _ _; split <;> exact joinN_len _ _ _

end Go.Proofs.Ytbickllpledlbaa

