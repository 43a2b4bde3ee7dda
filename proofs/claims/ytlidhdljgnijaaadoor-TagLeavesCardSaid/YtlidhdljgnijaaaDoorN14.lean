import Derived.Test.YtlidhdljgnijaaaDoorN01
/-
  NODES OF A TREE (layer 11): what RedHeight, RedKinds and RedWays say, as pure facts.
-/
set_option linter.unusedVariables false
namespace Go.Proofs.YtlidhdljgnijaaaDoor

/-- how many leaves; how high -/
def RT.lvs : RT → Nat
  | .leaf _ => 1
  | .two _ _ _ l r => l.lvs + r.lvs
  | .three _ _ l m r => l.lvs + m.lvs + r.lvs
def RT.high : RT → Nat
  | .leaf _ => 0
  | .two _ _ _ l r => max l.high r.high + 1
  | .three _ _ l m r => max l.high (max m.high r.high) + 1
theorem RT.size_lt : ∀ T : RT, T.size + 1 ≤ 2 * T.lvs
  | .leaf _ => by simp [RT.size, RT.lvs]
  | .two _ _ _ l r => by
    have := RT.size_lt l
    have := RT.size_lt r
    simp only [RT.size, RT.lvs]
    omega
  | .three _ _ l m r => by
    have := RT.size_lt l
    have := RT.size_lt m
    have := RT.size_lt r
    simp only [RT.size, RT.lvs]
    omega
theorem RT.lvs_ok : ∀ T : RT, T.ok → T.lvs + T.fr = T.to
  | .leaf a, _ => by simp [RT.lvs, RT.fr, RT.to]; omega
  | .two _ _ _ l r, ⟨h1, h2, h3⟩ => by
    have := RT.lvs_ok l h1
    have := RT.lvs_ok r h2
    simp only [RT.lvs, RT.fr, RT.to]
    omega
  | .three _ _ l m r, ⟨h1, h2, h3, h4, h5⟩ => by
    have := RT.lvs_ok l h1
    have := RT.lvs_ok m h2
    have := RT.lvs_ok r h3
    simp only [RT.lvs, RT.fr, RT.to]
    omega
theorem treeOf_high (kind : Int) (lv : List (List Nat)) : ∀ (k a : Nat), (treeOf kind lv k a).high ≤ if kind = 2 then 2 * k else k
  | 0, a => by simp [treeOf, RT.high]
  | k + 1, a => by
    have ih := treeOf_high kind lv k
    rw [treeOf]
    have h0 := ih (startT (lv.getD k []) a)
    have h1 := ih (startT (lv.getD k []) a + 1)
    have h2 := ih (startT (lv.getD k []) a + 2)
    split
    · by_cases hk : kind = 2
      · rw [if_pos hk] at h0 h1 h2 ⊢
        rw [if_pos hk]
        simp only [RT.high]
        omega
      · rw [if_neg hk] at h0 h1 h2 ⊢
        rw [if_neg hk]
        simp only [RT.high]
        omega
    · simp only [RT.high]
      by_cases hk : kind = 2
      · rw [if_pos hk] at h0 h1 h2 ⊢; omega
      · rw [if_neg hk] at h0 h1 h2 ⊢; omega
/-- nodes that may be of a kind: those that are no leaves have levels; a red node has two nodes below that are not red, and is the first one of a node that is not -/
def RT.isRed : RT → Bool
  | .two _ _ red _ _ => red
  | _ => false
def RT.good (kind : Int) : RT → Prop
  | .leaf _ => True
  | .two lev _ red l r => l.good kind ∧ r.good kind ∧ 0 < lev ∧ r.isRed = false ∧ (l.isRed = true → red = false) ∧ (red = true → kind = 2)
  | .three lev _ l m r => l.good kind ∧ m.good kind ∧ r.good kind ∧ 0 < lev ∧ l.isRed = false ∧ m.isRed = false ∧ r.isRed = false ∧ kind ≠ 2
theorem treeOf_red (kind : Int) (lv : List (List Nat)) : ∀ (k a : Nat), (treeOf kind lv k a).isRed = false
  | 0, a => rfl
  | k + 1, a => by
    rw [treeOf]
    split
    · split <;> rfl
    · rfl
theorem treeOf_good (kind : Int) (lv : List (List Nat)) : ∀ (k a : Nat), (treeOf kind lv k a).good kind
  | 0, a => trivial
  | k + 1, a => by
    have ih := treeOf_good kind lv k
    have hr := treeOf_red kind lv k
    rw [treeOf]
    split
    · split
      · rename_i h3 hk
        exact ⟨⟨ih _, ih _, by omega, hr _, fun h => (by rw [hr] at h; cases h), fun _ => hk⟩, ih _, by omega, hr _, fun _ => rfl, fun h => (by cases h)⟩
      · rename_i h3 hk
        exact ⟨ih _, ih _, ih _, by omega, hr _, hr _, hr _, hk⟩
    · exact ⟨ih _, ih _, by omega, hr _, fun _ => rfl, fun h => (by cases h)⟩

end Go.Proofs.YtlidhdljgnijaaaDoor

