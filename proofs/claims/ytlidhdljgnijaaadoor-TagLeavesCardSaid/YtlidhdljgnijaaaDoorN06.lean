import Derived.Test.YtlidhdljgnijaaaDoorN01
/-
  TREES OF NODES: nodes equally deep, their members and levels; the nodes of levels.
-/
set_option linter.unusedVariables false
namespace Go.Proofs.YtlidhdljgnijaaaDoor

/-- a node: a leaf, or what it has below -/
inductive Nd where
  | leaf (id : Int)
  | one (a : Nd)
  | two (a b : Nd)
  | three (a b c : Nd)
def Nd.kids : Nd → List Nd
  | .leaf _ => []
  | .one a => [a]
  | .two a b => [a, b]
  | .three a b c => [a, b, c]
def Nd.id : Nd → Int
  | .leaf i => i
  | _ => 0
/-- all leaves so deep, each group of two or three -/
def Nd.hi : Nat → Nd → Prop
  | 0, .leaf _ => True
  | h + 1, .two a b => Nd.hi h a ∧ Nd.hi h b
  | h + 1, .three a b c => Nd.hi h a ∧ Nd.hi h b ∧ Nd.hi h c
  | _, _ => False
def ofKids : List Nd → Nd
  | [a] => .one a
  | [a, b] => .two a b
  | [a, b, c] => .three a b c
  | _ => .leaf 0
end Go.Proofs.YtlidhdljgnijaaaDoor

/-
  A MEMBER MORE: nodes in which one was put have the levels with one more item.
-/
set_option linter.unusedVariables false
namespace Go.Proofs.YtlidhdljgnijaaaDoor

/-- the first leaf below a node -/
def Nd.first : Nd → Int
  | .leaf i => i
  | .one a => a.first
  | .two a _ => a.first
  | .three a _ _ => a.first
end Go.Proofs.YtlidhdljgnijaaaDoor

/-
  A MEMBER FEWER, in levels: with one level more above; the last level left out.
-/
set_option linter.unusedVariables false
namespace Go.Proofs.YtlidhdljgnijaaaDoor

theorem getD_some {l : List Nat} {k n : Nat} (hn : n ≠ 0) : l.getD k 0 = n ↔ l[k]? = some n := by
  rw [List.getD_eq_getElem?_getD]
  cases h : l[k]? with
  | none => simp; omega
  | some x => simp
end Go.Proofs.YtlidhdljgnijaaaDoor

/-
  A MEMBER FEWER: nodes out of which one was taken have the levels without an item.
-/
set_option linter.unusedVariables false
namespace Go.Proofs.YtlidhdljgnijaaaDoor

end Go.Proofs.YtlidhdljgnijaaaDoor

/-
  A TREE WITH A MEMBER MORE, AND FEWER: its nodes above all have the levels, and the members.
-/
set_option linter.unusedVariables false
namespace Go.Proofs.YtlidhdljgnijaaaDoor

end Go.Proofs.YtlidhdljgnijaaaDoor

