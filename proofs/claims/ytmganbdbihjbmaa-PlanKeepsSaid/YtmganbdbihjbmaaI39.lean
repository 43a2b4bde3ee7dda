import Derived.Test.YtmganbdbihjbmaaI33
/-
  NODES OF A TREE (layer 11): both kinds have the same nodes but the red ones, as a pure fact.
-/
set_option linter.unusedVariables false
namespace Go.Proofs.Ytmganbdbihjbmaa

/-- what both kinds say alike of a node -/
def coreR (x : RN) : Nat × Nat × Nat × Nat := (x.lev, x.at_, x.fr, x.to)
theorem treeOf_fr (kind : Int) (lv : List (List Nat)) : ∀ k a, (treeOf kind lv k a).fr = leafS lv k a
  | 0, a => rfl
  | k + 1, a => by
    rw [treeOf, leafS]
    split
    · split
      · exact treeOf_fr kind lv k _
      · exact treeOf_fr kind lv k _
    · exact treeOf_fr kind lv k _
theorem treeOf_to (lv : List (List Nat)) : ∀ k a, (treeOf 2 lv k a).to = (treeOf 1 lv k a).to
  | 0, a => rfl
  | k + 1, a => by
    rw [treeOf, treeOf]
    split
    · rw [if_pos rfl, if_neg (by decide)]
      exact treeOf_to lv k _
    · exact treeOf_to lv k _
theorem kinds_core (lv : List (List Nat)) : ∀ (k a off off' : Nat) (up up' : Int), (((treeOf 2 lv k a).flat off up).filter (fun x => !x.red)).map coreR = ((treeOf 1 lv k a).flat off' up').map coreR
  | 0, a, off, off', up, up' => by simp [treeOf, RT.flat, coreR]
  | k + 1, a, off, off', up, up' => by
    have ih := kinds_core lv k
    have hf := treeOf_fr 2 lv k
    have hf1 := treeOf_fr 1 lv k
    have ht := treeOf_to lv k
    rw [treeOf, treeOf]
    split
    · rw [if_pos rfl, if_neg (by decide)]
      simp only [RT.flat, RT.fr, List.filter_append, List.map_append]
      rw [ih _ _ off' _ ((off' + (treeOf 1 lv k (startT (lv.getD k []) a)).size + (treeOf 1 lv k (startT (lv.getD k []) a + 1)).size + (treeOf 1 lv k (startT (lv.getD k []) a + 2)).size : Nat) : Int), ih _ _ (off' + (treeOf 1 lv k (startT (lv.getD k []) a)).size) _ ((off' + (treeOf 1 lv k (startT (lv.getD k []) a)).size + (treeOf 1 lv k (startT (lv.getD k []) a + 1)).size + (treeOf 1 lv k (startT (lv.getD k []) a + 2)).size : Nat) : Int), ih _ _ (off' + (treeOf 1 lv k (startT (lv.getD k []) a)).size + (treeOf 1 lv k (startT (lv.getD k []) a + 1)).size) _ ((off' + (treeOf 1 lv k (startT (lv.getD k []) a)).size + (treeOf 1 lv k (startT (lv.getD k []) a + 1)).size + (treeOf 1 lv k (startT (lv.getD k []) a + 2)).size : Nat) : Int)]
      simp [coreR, hf, hf1, ht]
    · simp only [RT.flat, List.filter_append, List.map_append]
      rw [ih _ _ off' _ ((off' + (treeOf 1 lv k (startT (lv.getD k []) a)).size + (treeOf 1 lv k (startT (lv.getD k []) a + 1)).size : Nat) : Int), ih _ _ (off' + (treeOf 1 lv k (startT (lv.getD k []) a)).size) _ ((off' + (treeOf 1 lv k (startT (lv.getD k []) a)).size + (treeOf 1 lv k (startT (lv.getD k []) a + 1)).size : Nat) : Int)]
      simp [coreR, hf, hf1, ht]

end Go.Proofs.Ytmganbdbihjbmaa

