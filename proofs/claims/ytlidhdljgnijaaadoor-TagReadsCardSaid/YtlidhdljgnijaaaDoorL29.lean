import Derived.Test.YtlidhdljgnijaaaDoorL17
/-
  CONTRACT of the document's Few (coterieref01), which many laws call.
-/
set_option linter.unusedVariables false
namespace Go.Proofs.YtlidhdljgnijaaaDoor
open Go.RowKit

def FewPost (m : Nat) (w : World) (e : Ending) (w' : World) : Prop := ∃ b : Bool, e = .returned (.bool b) ∧ (b = true → m ≤ 200) ∧ w = w'

end Go.Proofs.YtlidhdljgnijaaaDoor

