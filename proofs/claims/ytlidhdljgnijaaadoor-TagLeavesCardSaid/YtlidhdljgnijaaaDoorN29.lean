import Derived.Test.YtlidhdljgnijaaaDoorN27
import Derived.Test.YtlidhdljgnijaaaDoorN22
import Derived.Test.YtlidhdljgnijaaaDoorN18
import Derived.Test.YtlidhdljgnijaaaDoorN28
import Derived.Deep.RegionHeld3
/-
  WORDS FOR LONG WALKS: what is kept from world to world (Below, Rd, Txs), a row that is new, keys that are the same, append inside a region that draws its order.
-/
set_option linter.unusedVariables false
namespace Go.Proofs.YtlidhdljgnijaaaDoor
open Go.RowKit

theorem Txs.append {w : World} {B : Nat} {vs vs' : List Value} {ts ts' : List (List UInt8)} (h : Txs w B vs ts) (h' : Txs w B vs' ts') : Txs w B (vs ++ vs') (ts ++ ts') := by
  refine ⟨by simp [h.1, h'.1], fun i v t hv ht => ?_⟩
  rw [List.getElem?_append] at hv ht
  rw [← h.1] at ht
  split at hv
  · rename_i hi
    rw [if_pos hi] at ht
    exact h.2 i v t hv ht
  · rename_i hi
    rw [if_neg hi] at ht
    exact h'.2 _ v t hv ht
end Go.Proofs.YtlidhdljgnijaaaDoor

