import Derived.Test.YtlidhdljgnijaaaDoorRows
/-
  TREES AS FUNCTIONS: in which group an item is, the levels with one more item and without one, spans.
-/
set_option linter.unusedVariables false
namespace Go.Proofs.YtlidhdljgnijaaaDoor

/-- how many members are below a number, and whether it is one -/
def belT (ids : List Int) (id : Int) : Nat := ids.countP (fun x => decide (x < id))
def isT (ids : List Int) (id : Int) : Bool := ids.any (fun x => x == id)

/-- how many items stand ahead of a group -/
def startT (l : List Nat) (k : Nat) : Nat := (l.take k).sum
def two3 (l : List Nat) : Prop := ∀ n ∈ l, n = 2 ∨ n = 3
/-- levels over so many nodes may be -/
def lvOK : Nat → List (List Nat) → Prop
  | many, [] => many ≤ 1
  | many, l :: ls => 2 ≤ many ∧ two3 l ∧ l.sum = many ∧ lvOK l.length ls

theorem startT_zero (l : List Nat) : startT l 0 = 0 := by simp [startT]
theorem startT_succ (l : List Nat) {k : Nat} (h : k < l.length) : startT l (k + 1) = startT l k + l[k] := by
  unfold startT
  rw [List.take_succ_eq_append_getElem h, List.sum_append]
  simp
theorem startT_all (l : List Nat) : startT l l.length = l.sum := by simp [startT]
theorem startT_le (l : List Nat) (k : Nat) : startT l k ≤ l.sum := by
  have := List.take_append_drop k l
  have h : (l.take k ++ l.drop k).sum = l.sum := by rw [this]
  rw [List.sum_append] at h
  unfold startT
  omega
theorem two3_get {l : List Nat} (h : two3 l) {k : Nat} (hk : k < l.length) : l[k] = 2 ∨ l[k] = 3 := h _ (List.getElem_mem hk)
theorem two3_len {l : List Nat} (h : two3 l) : 2 * l.length ≤ l.sum ∧ l.sum ≤ 3 * l.length := by
  induction l with
  | nil => simp
  | cons x l ih =>
    have hx := h x (by simp)
    have := ih (fun y hy => h y (by simp [hy]))
    simp only [List.length_cons, List.sum_cons]
    omega
/-- no more levels than so many that two, so often multiplied, are no more than the members -/
theorem lvOK_high : ∀ (lv : List (List Nat)) (many : Nat), lvOK many lv → 0 < many → 2 ^ lv.length ≤ many
  | [], many, _, hm => by simp; omega
  | l :: ls, many, ⟨h1, h2, h3, h4⟩, hm => by
    have hl := two3_len h2
    have := lvOK_high ls l.length h4 (by omega)
    rw [List.length_cons, Nat.pow_succ]
    omega

end Go.Proofs.YtlidhdljgnijaaaDoor

/-
  NODES OF A TREE (layer 11) AS FUNCTIONS: a tree of nodes of either kind, told from below; ways up, and what is beside them; pure facts.
-/
set_option linter.unusedVariables false
namespace Go.Proofs.YtlidhdljgnijaaaDoor

/-- a tree of nodes: a leaf, two nodes below (red, or not), three -/
inductive RT where
  | leaf (a : Nat)
  | two (lev a : Nat) (red : Bool) (l r : RT)
  | three (lev a : Nat) (l m r : RT)
/-- a node as it is told -/
structure RN where
  lev : Nat
  at_ : Nat
  red : Bool
  fr : Nat
  to : Nat
  kids : List Nat
  up : Int
def RT.fr : RT → Nat
  | .leaf a => a
  | .two _ _ _ l _ => l.fr
  | .three _ _ l _ _ => l.fr
def RT.to : RT → Nat
  | .leaf a => a + 1
  | .two _ _ _ _ r => r.to
  | .three _ _ _ _ r => r.to
def RT.size : RT → Nat
  | .leaf _ => 1
  | .two _ _ _ l r => l.size + r.size + 1
  | .three _ _ l m r => l.size + m.size + r.size + 1
/-- the nodes, from below: the first one's place is off, the last one's Up is up -/
def RT.flat : RT → Nat → Int → List RN
  | .leaf a, _, up => [⟨0, a, false, a, a + 1, [], up⟩]
  | .two lev a red l r, off, up => l.flat off ((off + l.size + r.size : Nat) : Int) ++ r.flat (off + l.size) ((off + l.size + r.size : Nat) : Int) ++ [⟨lev, a, red, l.fr, r.to, [off + l.size - 1, off + l.size + r.size - 1], up⟩]
  | .three lev a l m r, off, up => l.flat off ((off + l.size + m.size + r.size : Nat) : Int) ++ m.flat (off + l.size) ((off + l.size + m.size + r.size : Nat) : Int) ++ r.flat (off + l.size + m.size) ((off + l.size + m.size + r.size : Nat) : Int) ++
      [⟨lev, a, false, l.fr, r.to, [off + l.size - 1, off + l.size + m.size - 1, off + l.size + m.size + r.size - 1], up⟩]
/-- the nodes of a level's group, with all below -/
def treeOf (kind : Int) (lv : List (List Nat)) : Nat → Nat → RT
  | 0, a => .leaf a
  | k + 1, a =>
    if (lv.getD k []).getD a 0 = 3 then
      if kind = 2 then .two (k + 1) a false (.two (k + 1) a true (treeOf kind lv k (startT (lv.getD k []) a)) (treeOf kind lv k (startT (lv.getD k []) a + 1))) (treeOf kind lv k (startT (lv.getD k []) a + 2))
      else .three (k + 1) a (treeOf kind lv k (startT (lv.getD k []) a)) (treeOf kind lv k (startT (lv.getD k []) a + 1)) (treeOf kind lv k (startT (lv.getD k []) a + 2))
    else .two (k + 1) a false (treeOf kind lv k (startT (lv.getD k []) a)) (treeOf kind lv k (startT (lv.getD k []) a + 1))
def nodesU (kind : Int) (many : Nat) (lv : List (List Nat)) : List RN := if many = 0 then [] else (treeOf kind lv lv.length 0).flat 0 (-1)

theorem RT.size_pos : ∀ T : RT, 0 < T.size
  | .leaf _ => by simp [RT.size]
  | .two _ _ _ l r => by simp [RT.size]
  | .three _ _ l m r => by simp [RT.size]
theorem RT.flat_len : ∀ (T : RT) (off : Nat) (up : Int), (T.flat off up).length = T.size
  | .leaf _, _, _ => rfl
  | .two _ _ _ l r, off, up => by simp only [RT.flat, RT.size, List.length_append, RT.flat_len l, RT.flat_len r, List.length_cons, List.length_nil]
  | .three _ _ l m r, off, up => by simp only [RT.flat, RT.size, List.length_append, RT.flat_len l, RT.flat_len m, RT.flat_len r, List.length_cons, List.length_nil]
/-- all but the last node, and the last one -/
def RT.init : RT → Nat → List RN
  | .leaf _, _ => []
  | .two lev a red l r, off => l.flat off ((off + l.size + r.size : Nat) : Int) ++ r.flat (off + l.size) ((off + l.size + r.size : Nat) : Int)
  | .three lev a l m r, off => l.flat off ((off + l.size + m.size + r.size : Nat) : Int) ++ m.flat (off + l.size) ((off + l.size + m.size + r.size : Nat) : Int) ++ r.flat (off + l.size + m.size) ((off + l.size + m.size + r.size : Nat) : Int)
def RT.node : RT → Nat → Int → RN
  | .leaf a, _, up => ⟨0, a, false, a, a + 1, [], up⟩
  | .two lev a red l r, off, up => ⟨lev, a, red, l.fr, r.to, [off + l.size - 1, off + l.size + r.size - 1], up⟩
  | .three lev a l m r, off, up => ⟨lev, a, false, l.fr, r.to, [off + l.size - 1, off + l.size + m.size - 1, off + l.size + m.size + r.size - 1], up⟩
theorem RT.flat_split (T : RT) (off : Nat) (up : Int) : T.flat off up = T.init off ++ [T.node off up] := by cases T <;> rfl
theorem RT.init_len (T : RT) (off : Nat) : (T.init off).length + 1 = T.size := by
  have h := T.flat_len off 0
  rw [T.flat_split, List.length_append] at h
  exact h
theorem RT.node_up (T : RT) (off : Nat) (up up' : Int) : { T.node off up with up := up' } = T.node off up' := by cases T <;> rfl
theorem RT.node_fr (T : RT) (off : Nat) (up : Int) : (T.node off up).fr = T.fr := by cases T <;> rfl
theorem RT.node_to (T : RT) (off : Nat) (up : Int) : (T.node off up).to = T.to := by cases T <;> rfl
theorem RT.node_upv (T : RT) (off : Nat) (up : Int) : (T.node off up).up = up := by cases T <;> rfl

/-- the nodes below a node have leaves, one behind the other -/
def RT.ok : RT → Prop
  | .leaf _ => True
  | .two _ _ _ l r => l.ok ∧ r.ok ∧ l.to = r.fr
  | .three _ _ l m r => l.ok ∧ m.ok ∧ r.ok ∧ l.to = m.fr ∧ m.to = r.fr
theorem RT.fr_lt : ∀ T : RT, T.ok → T.fr < T.to
  | .leaf _, _ => by simp [RT.fr, RT.to]
  | .two _ _ _ l r, ⟨h1, h2, h3⟩ => by
    have := RT.fr_lt l h1
    have := RT.fr_lt r h2
    simp only [RT.fr, RT.to]
    omega
  | .three _ _ l m r, ⟨h1, h2, h3, h4, h5⟩ => by
    have := RT.fr_lt l h1
    have := RT.fr_lt m h2
    have := RT.fr_lt r h3
    simp only [RT.fr, RT.to]
    omega
/-- where the leaves below a level's group begin -/
def leafS (lv : List (List Nat)) : Nat → Nat → Nat
  | 0, a => a
  | k + 1, a => leafS lv k (startT (lv.getD k []) a)
theorem getD_at {α : Type} {l : List α} {i : Nat} {d x : α} (h : l[i]? = some x) : l.getD i d = x := by rw [List.getD_eq_getElem?_getD, h]; rfl
/-- levels over so many nodes: each level's groups are as many as the level above says -/
def lvSum (many : Nat) (lv : List (List Nat)) : Prop := ∀ k l, lv[k]? = some l → two3 l ∧ l.sum = (if k = 0 then many else (lv.getD (k - 1) []).length)
theorem lvOK_sum : ∀ (lv : List (List Nat)) (many : Nat), lvOK many lv → lvSum many lv
  | [], many, _ => fun k l h => by simp at h
  | l :: ls, many, ⟨h1, h2, h3, h4⟩ => fun k x hx => by
    cases k with
    | zero =>
      simp at hx
      subst hx
      exact ⟨h2, by simpa using h3⟩
    | succ k =>
      have := lvOK_sum ls l.length h4 k x (by simpa using hx)
      refine ⟨this.1, ?_⟩
      rw [this.2]
      cases k with
      | zero => simp
      | succ k => simp
/-- so many groups a level has (level 0: leaves) -/
def wideN (many : Nat) (lv : List (List Nat)) : Nat → Nat
  | 0 => many
  | k + 1 => (lv.getD k []).length
theorem treeOf_ok {kind : Int} {many : Nat} {lv : List (List Nat)} (h : lvSum many lv) : ∀ (k a : Nat), k ≤ lv.length → a < wideN many lv k →
    (treeOf kind lv k a).ok ∧ (treeOf kind lv k a).fr = leafS lv k a ∧ (treeOf kind lv k a).to = leafS lv k (a + 1)
  | 0, a, _, _ => ⟨trivial, rfl, rfl⟩
  | k + 1, a, hk, ha => by
    have hl : lv[k]? = some lv[k] := List.getElem?_eq_getElem (by omega)
    have hg : lv.getD k [] = lv[k] := getD_at hl
    obtain ⟨h23, hsum⟩ := h k _ hl
    have ha' : a < lv[k].length := by rw [wideN, hg] at ha; exact ha
    have hx : lv[k].getD a 0 = lv[k][a] := getD_at (List.getElem?_eq_getElem ha')
    have hst := startT_succ lv[k] ha'
    have hle := startT_le lv[k] (a + 1)
    have h2 := two3_get h23 ha'
    have hw : wideN many lv k = lv[k].sum := by
      rw [hsum]
      cases k with
      | zero => rfl
      | succ k => simp [wideN]
    have ih := fun b (hb : b < lv[k].sum) => treeOf_ok (kind := kind) h k b (by omega) (by rw [hw]; exact hb)
    rw [treeOf, hg, hx]
    have e1 : leafS lv (k + 1) a = leafS lv k (startT lv[k] a) := by rw [leafS, hg]
    have e2 : leafS lv (k + 1) (a + 1) = leafS lv k (startT lv[k] a + lv[k][a]) := by rw [leafS, hg, hst]
    rw [e1, e2]
    generalize startT lv[k] a = f at *
    rcases h2 with h2 | h2
    · rw [h2] at hst ⊢
      rw [if_neg (by decide)]
      obtain ⟨a1, a2, a3⟩ := ih f (by omega)
      obtain ⟨b1, b2, b3⟩ := ih (f + 1) (by omega)
      exact ⟨⟨a1, b1, by rw [a3, b2]⟩, a2, b3⟩
    · rw [h2] at hst ⊢
      rw [if_pos rfl]
      obtain ⟨a1, a2, a3⟩ := ih f (by omega)
      obtain ⟨b1, b2, b3⟩ := ih (f + 1) (by omega)
      obtain ⟨c1, c2, c3⟩ := ih (f + 2) (by omega)
      by_cases h3 : kind = 2
      · rw [if_pos h3]
        exact ⟨⟨⟨a1, b1, by rw [a3, b2]⟩, c1, by rw [c2]; exact b3⟩, a2, c3⟩
      · rw [if_neg h3]
        exact ⟨⟨a1, b1, c1, by rw [a3, b2], by rw [b3, c2]⟩, a2, c3⟩

/-- a leaf's way up -/
def RT.path : RT → Nat → Nat → List Nat
  | .leaf _, off, _ => [off]
  | .two _ _ _ l r, off, p => (if p < l.to then l.path off p else r.path (off + l.size) p) ++ [off + l.size + r.size]
  | .three _ _ l m r, off, p => (if p < l.to then l.path off p else if p < m.to then m.path (off + l.size) p else r.path (off + l.size + m.size) p) ++ [off + l.size + m.size + r.size]
/-- places of the nodes that have a leaf below -/
def hasP (p : Nat) (x : RN) : Bool := decide (x.fr ≤ p) && decide (p < x.to)
def wayOf (p : Nat) : Nat → List RN → List Nat
  | _, [] => []
  | i, x :: l => if hasP p x then i :: wayOf p (i + 1) l else wayOf p (i + 1) l
theorem wayOf_append (p : Nat) : ∀ (i : Nat) (a b : List RN), wayOf p i (a ++ b) = wayOf p i a ++ wayOf p (i + a.length) b
  | i, [], b => by simp [wayOf]
  | i, x :: a, b => by
    simp only [List.cons_append, wayOf, wayOf_append p (i + 1) a b, List.length_cons, show i + 1 + a.length = i + (a.length + 1) by omega]
    split <;> rfl
theorem RT.span : ∀ (T : RT) (off : Nat) (up : Int), T.ok → ∀ x ∈ T.flat off up, T.fr ≤ x.fr ∧ x.to ≤ T.to ∧ x.fr < x.to
  | .leaf a, off, up, _ => fun x hx => by
    simp only [RT.flat, List.mem_singleton] at hx
    subst hx
    exact ⟨Nat.le_refl _, Nat.le_refl _, Nat.lt_succ_self _⟩
  | .two lev a red l r, off, up, ⟨h1, h2, h3⟩ => fun x hx => by
    have f1 := RT.fr_lt l h1
    have f2 := RT.fr_lt r h2
    simp only [RT.flat, List.mem_append, List.mem_singleton] at hx
    simp only [RT.fr, RT.to]
    rcases hx with (hx | hx) | hx
    · have := RT.span l _ _ h1 x hx; omega
    · have := RT.span r _ _ h2 x hx; omega
    · subst hx; simp only; omega
  | .three lev a l m r, off, up, ⟨h1, h2, h3, h4, h5⟩ => fun x hx => by
    have f1 := RT.fr_lt l h1
    have f2 := RT.fr_lt m h2
    have f3 := RT.fr_lt r h3
    simp only [RT.flat, List.mem_append, List.mem_singleton] at hx
    simp only [RT.fr, RT.to]
    rcases hx with ((hx | hx) | hx) | hx
    · have := RT.span l _ _ h1 x hx; omega
    · have := RT.span m _ _ h2 x hx; omega
    · have := RT.span r _ _ h3 x hx; omega
    · subst hx; simp only; omega
theorem wayOf_none (p : Nat) : ∀ (i : Nat) (l : List RN), (∀ x ∈ l, hasP p x = false) → wayOf p i l = []
  | _, [], _ => rfl
  | i, x :: l, h => by
    rw [wayOf, h x (by simp), wayOf_none p (i + 1) l (fun y hy => h y (by simp [hy]))]
    rfl
theorem RT.way_out (T : RT) (off i : Nat) (up : Int) {p : Nat} (h : T.ok) (hp : p < T.fr ∨ T.to ≤ p) : wayOf p i (T.flat off up) = [] :=
  wayOf_none p i _ fun x hx => by
    have := T.span off up h x hx
    simp only [hasP, Bool.and_eq_false_iff, decide_eq_false_iff_not]
    omega
theorem RT.way : ∀ (T : RT) (off : Nat) (up : Int) (p : Nat), T.ok → T.fr ≤ p → p < T.to → wayOf p off (T.flat off up) = T.path off p
  | .leaf a, off, up, p, _, h1, h2 => by
    simp only [RT.fr, RT.to] at h1 h2
    simp [RT.flat, wayOf, hasP, RT.path]
    omega
  | .two lev a red l r, off, up, p, ⟨k1, k2, k3⟩, h1, h2 => by
    simp only [RT.fr, RT.to] at h1 h2
    have f1 := RT.fr_lt l k1
    have f2 := RT.fr_lt r k2
    have hme : wayOf p (off + l.size + r.size) [(⟨lev, a, red, l.fr, r.to, [off + l.size - 1, off + l.size + r.size - 1], up⟩ : RN)] = [off + l.size + r.size] := by
      simp [wayOf, hasP, h1, h2]
    simp only [RT.flat, wayOf_append, List.length_append, RT.flat_len, ← Nat.add_assoc]
    rw [hme, RT.path]
    by_cases hp : p < l.to
    · rw [if_pos hp, RT.way l _ _ p k1 h1 hp, RT.way_out r _ _ _ k2 (by omega), List.append_nil]
    · rw [if_neg hp, RT.way_out l _ _ _ k1 (by omega), RT.way r _ _ p k2 (by omega) h2, List.nil_append]
  | .three lev a l m r, off, up, p, ⟨k1, k2, k3, k4, k5⟩, h1, h2 => by
    simp only [RT.fr, RT.to] at h1 h2
    have f1 := RT.fr_lt l k1
    have f2 := RT.fr_lt m k2
    have f3 := RT.fr_lt r k3
    have hme : wayOf p (off + l.size + m.size + r.size) [(⟨lev, a, false, l.fr, r.to, [off + l.size - 1, off + l.size + m.size - 1, off + l.size + m.size + r.size - 1], up⟩ : RN)] = [off + l.size + m.size + r.size] := by
      simp [wayOf, hasP, h1, h2]
    simp only [RT.flat, wayOf_append, List.length_append, RT.flat_len, ← Nat.add_assoc]
    rw [hme, RT.path]
    by_cases hp : p < l.to
    · rw [if_pos hp, RT.way l _ _ p k1 h1 hp, RT.way_out m _ _ _ k2 (by omega), RT.way_out r _ _ _ k3 (by omega), List.append_nil, List.append_nil]
    · rw [if_neg hp, RT.way_out l _ _ _ k1 (by omega), List.nil_append]
      by_cases hp2 : p < m.to
      · rw [if_pos hp2, RT.way m _ _ p k2 (by omega) hp2, RT.way_out r _ _ _ k3 (by omega), List.append_nil]
      · rw [if_neg hp2, RT.way_out m _ _ _ k2 (by omega), RT.way r _ _ p k3 (by omega) h2, List.nil_append]

end Go.Proofs.YtlidhdljgnijaaaDoor

