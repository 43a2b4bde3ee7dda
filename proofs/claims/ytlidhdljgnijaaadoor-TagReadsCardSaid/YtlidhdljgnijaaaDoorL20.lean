import Derived.Test.YtlidhdljgnijaaaDoorL15
import Derived.Test.YtlidhdljgnijaaaDoorL19
/-
  NODES OF A TREE (layer 11): what RedHeight asks of each node, as pure facts.
-/
set_option linter.unusedVariables false
namespace Go.Proofs.YtlidhdljgnijaaaDoor

/-- as many leaves are told as there are -/
theorem RT.leaves {kind : Int} : ∀ (T : RT) (off : Nat) (up : Int), T.good kind → (T.flat off up).countP (fun x => x.lev == 0) = T.lvs
  | .leaf a, off, up, _ => by simp [RT.flat, RT.lvs]
  | .two lev a red l r, off, up, ⟨h1, h2, h3, _⟩ => by
    have h0 : (lev == 0) = false := by simp; omega
    simp only [RT.flat, List.countP_append, RT.leaves l _ _ h1, RT.leaves r _ _ h2, RT.lvs, List.countP_cons, List.countP_nil, h0]
    simp
  | .three lev a l m r, off, up, ⟨h1, h2, h3, h4, _⟩ => by
    have h0 : (lev == 0) = false := by simp; omega
    simp only [RT.flat, List.countP_append, RT.leaves l _ _ h1, RT.leaves m _ _ h2, RT.leaves r _ _ h3, RT.lvs, List.countP_cons, List.countP_nil, h0]
    simp
theorem RT.node_red (T : RT) (off : Nat) (up : Int) : (T.node off up).red = T.isRed := by cases T <;> rfl
/-- a node's form, and its kids' -/
def nodeOK (kind : Int) (L : List RN) (x : RN) : Prop :=
  x.kids.length ≠ 1 ∧ (x.kids.length : Int) ≤ 4 - kind ∧ (x.kids.length = 0 ↔ x.lev = 0) ∧ (x.red = true → kind = 2 ∧ x.lev ≠ 0) ∧
  ∀ (i k : Nat), x.kids[i]? = some k → ∃ y, L[k]? = some y ∧ (y.red = true → x.red = false ∧ i = 0)
theorem RT.nodes_ok {kind : Int} (hk : kind = 1 ∨ kind = 2) : ∀ (T : RT) (pre post : List RN) (up : Int), T.good kind → ∀ x ∈ T.flat pre.length up, nodeOK kind (pre ++ T.flat pre.length up ++ post) x
  | .leaf a, pre, post, up, _ => fun x hx => by
    simp only [RT.flat, List.mem_singleton] at hx
    subst hx
    refine ⟨by simp, ?_, by simp, fun h => by simp at h, fun i k h => by simp at h⟩
    simp only [List.length_nil]
    omega
  | .two lev a red l r, pre, post, up, ⟨h1, h2, h3, h4, h5, h6⟩ => fun x hx => by
    have hA : (pre ++ l.flat pre.length ((pre.length + l.size + r.size : Nat) : Int)).length = pre.length + l.size := by rw [List.length_append, RT.flat_len]
    have p1 := l.size_pos
    have p2 := r.size_pos
    simp only [RT.flat, List.mem_append, List.mem_singleton] at hx
    rcases hx with (hx | hx) | hx
    · have := RT.nodes_ok hk l pre (r.flat (pre.length + l.size) ((pre.length + l.size + r.size : Nat) : Int) ++ [⟨lev, a, red, l.fr, r.to, [pre.length + l.size - 1, pre.length + l.size + r.size - 1], up⟩] ++ post) _ h1 x hx
      simpa only [RT.flat, List.append_assoc] using this
    · have := RT.nodes_ok hk r (pre ++ l.flat pre.length ((pre.length + l.size + r.size : Nat) : Int)) ([⟨lev, a, red, l.fr, r.to, [pre.length + l.size - 1, pre.length + l.size + r.size - 1], up⟩] ++ post) ((pre.length + l.size + r.size : Nat) : Int) h2 x (by rw [hA]; exact hx)
      rw [hA] at this
      simpa only [RT.flat, List.append_assoc] using this
    · subst hx
      refine ⟨by simp, by simp only [List.length_cons, List.length_nil]; omega, by simp; omega, fun h => ⟨h6 h, Nat.ne_of_gt h3⟩, fun i k h => ?_⟩
      have e1 := flat_end pre (r.flat (pre.length + l.size) ((pre.length + l.size + r.size : Nat) : Int) ++ [⟨lev, a, red, l.fr, r.to, [pre.length + l.size - 1, pre.length + l.size + r.size - 1], up⟩] ++ post) l (pre.length + l.size - 1) ((pre.length + l.size + r.size : Nat) : Int) rfl
      have e2 := flat_end (pre ++ l.flat pre.length ((pre.length + l.size + r.size : Nat) : Int)) ([⟨lev, a, red, l.fr, r.to, [pre.length + l.size - 1, pre.length + l.size + r.size - 1], up⟩] ++ post) r (pre.length + l.size + r.size - 1) ((pre.length + l.size + r.size : Nat) : Int) (by rw [hA])
      rw [hA] at e2
      simp only [RT.flat, List.append_assoc] at e1 e2 ⊢
      match i, h with
      | 0, h =>
        simp at h
        subst h
        exact ⟨_, e1, fun h => ⟨h5 (by rw [← RT.node_red]; exact h), rfl⟩⟩
      | 1, h =>
        simp at h
        subst h
        exact ⟨_, e2, fun h => (by rw [RT.node_red, h4] at h; cases h)⟩
      | i + 2, h => simp at h
  | .three lev a l m r, pre, post, up, ⟨h1, h2, h3, h4, h5, h6, h7, h8⟩ => fun x hx => by
    generalize hU : ((pre.length + l.size + m.size + r.size : Nat) : Int) = U at *
    have hA : (pre ++ l.flat pre.length U).length = pre.length + l.size := by rw [List.length_append, RT.flat_len]
    have hB : (pre ++ l.flat pre.length U ++ m.flat (pre.length + l.size) U).length = pre.length + l.size + m.size := by rw [List.length_append, RT.flat_len, hA]
    have p1 := l.size_pos
    have p2 := m.size_pos
    have p3 := r.size_pos
    simp only [RT.flat, List.mem_append, List.mem_singleton, hU] at hx
    generalize hX : (⟨lev, a, false, l.fr, r.to, [pre.length + l.size - 1, pre.length + l.size + m.size - 1, pre.length + l.size + m.size + r.size - 1], up⟩ : RN) = X at *
    have hfl : (RT.three lev a l m r).flat pre.length up = l.flat pre.length U ++ m.flat (pre.length + l.size) U ++ r.flat (pre.length + l.size + m.size) U ++ [X] := by rw [RT.flat, hU, hX]
    rw [hfl]
    rcases hx with ((hx | hx) | hx) | hx
    · have := RT.nodes_ok hk l pre (m.flat (pre.length + l.size) U ++ r.flat (pre.length + l.size + m.size) U ++ [X] ++ post) _ h1 x hx
      simpa only [List.append_assoc] using this
    · have := RT.nodes_ok hk m (pre ++ l.flat pre.length U) (r.flat (pre.length + l.size + m.size) U ++ [X] ++ post) U h2 x (by rw [hA]; exact hx)
      rw [hA] at this
      simpa only [List.append_assoc] using this
    · have := RT.nodes_ok hk r (pre ++ l.flat pre.length U ++ m.flat (pre.length + l.size) U) ([X] ++ post) U h3 x (by rw [hB]; exact hx)
      rw [hB] at this
      simpa only [List.append_assoc] using this
    · subst hx
      have e1 := flat_end pre (m.flat (pre.length + l.size) U ++ r.flat (pre.length + l.size + m.size) U ++ [x] ++ post) l (pre.length + l.size - 1) U rfl
      have e2 := flat_end (pre ++ l.flat pre.length U) (r.flat (pre.length + l.size + m.size) U ++ [x] ++ post) m (pre.length + l.size + m.size - 1) U (by rw [hA])
      have e3 := flat_end (pre ++ l.flat pre.length U ++ m.flat (pre.length + l.size) U) ([x] ++ post) r (pre.length + l.size + m.size + r.size - 1) U (by rw [hB])
      rw [hA] at e2
      rw [hB] at e3
      simp only [List.append_assoc] at e1 e2 e3 ⊢
      have hk1 : kind = 1 := hk.resolve_right h8
      have f1 : x.kids.length = 3 := by rw [← hX]; rfl
      have f2 : x.lev = lev := by rw [← hX]
      have f3 : x.red = false := by rw [← hX]
      refine ⟨by omega, by rw [f1, hk1]; decide, ⟨fun h => by omega, fun h => by omega⟩, fun h => (by rw [f3] at h; cases h), fun i k h => ?_⟩
      rw [← hX] at h
      match i, h with
      | 0, h =>
        simp at h
        subst h
        exact ⟨_, e1, fun h => (by rw [RT.node_red, h5] at h; cases h)⟩
      | 1, h =>
        simp at h
        subst h
        exact ⟨_, e2, fun h => (by rw [RT.node_red, h6] at h; cases h)⟩
      | 2, h =>
        simp at h
        subst h
        exact ⟨_, e3, fun h => (by rw [RT.node_red, h7] at h; cases h)⟩
      | i + 3, h => simp at h

end Go.Proofs.YtlidhdljgnijaaaDoor

/-
  NODES OF A TREE (layer 11): a way up node by node, its leaf, what is beside it; how deep the nodes are; what is below a node: pure facts.
-/
set_option linter.unusedVariables false
namespace Go.Proofs.YtlidhdljgnijaaaDoor

/-- the next place of a way up -/
def nextU : List Nat → Int → Int
  | [], up => up
  | b :: _, _ => (b : Int)
/-- each node of a way has the next one above -/
def chainP (L : List RN) : List Nat → Int → Prop
  | [], _ => True
  | a :: l, up => (∃ x, L[a]? = some x ∧ x.up = nextU l up) ∧ chainP L l up
theorem nextU_snoc (l : List Nat) (q : Nat) (up : Int) : nextU (l ++ [q]) up = nextU l (q : Int) := by cases l <;> rfl
theorem chainP_snoc (L : List RN) (q : Nat) (up : Int) : ∀ P : List Nat, chainP L P (q : Int) → (∃ x, L[q]? = some x ∧ x.up = up) → chainP L (P ++ [q]) up
  | [], _, h => ⟨h, trivial⟩
  | a :: l, ⟨⟨x, h1, h2⟩, h3⟩, h => ⟨⟨x, h1, h2.trans (nextU_snoc l q up).symm⟩, chainP_snoc L q up l h3 h⟩
theorem chainP_at (L : List RN) (up : Int) : ∀ (P : List Nat) (j : Nat), chainP L P up → (hj : j < P.length) → ∃ x, L[P[j]]? = some x ∧ x.up = nextU (P.drop (j + 1)) up
  | [], j, _, hj => by simp at hj
  | a :: l, 0, ⟨⟨x, h1, h2⟩, h3⟩, hj => ⟨x, h1, h2⟩
  | a :: l, j + 1, ⟨_, h3⟩, hj => chainP_at L up l j h3 (by simpa using hj)
theorem RT.chain : ∀ (T : RT) (pre post : List RN) (up : Int) (p : Nat), T.ok → T.fr ≤ p → p < T.to → chainP (pre ++ T.flat pre.length up ++ post) (T.path pre.length p) up
  | .leaf a, pre, post, up, p, _, _, _ => ⟨⟨_, flat_end pre post (.leaf a) pre.length up (by simp [RT.size]), rfl⟩, trivial⟩
  | .two lev a red l r, pre, post, up, p, ⟨k1, k2, k3⟩, h1, h2 => by
    have hroot := flat_end pre post (.two lev a red l r) (pre.length + l.size + r.size) up (by simp only [RT.size]; omega)
    simp only [RT.fr, RT.to] at h1 h2
    have hA : (pre ++ l.flat pre.length ((pre.length + l.size + r.size : Nat) : Int)).length = pre.length + l.size := by rw [List.length_append, RT.flat_len]
    rw [RT.path]
    refine chainP_snoc _ _ _ _ ?_ ⟨_, hroot, RT.node_upv _ _ _⟩
    by_cases hp : p < l.to
    · rw [if_pos hp]
      have := RT.chain l pre (r.flat (pre.length + l.size) ((pre.length + l.size + r.size : Nat) : Int) ++ [⟨lev, a, red, l.fr, r.to, [pre.length + l.size - 1, pre.length + l.size + r.size - 1], up⟩] ++ post) ((pre.length + l.size + r.size : Nat) : Int) p k1 h1 hp
      simpa only [RT.flat, List.append_assoc] using this
    · rw [if_neg hp]
      have := RT.chain r (pre ++ l.flat pre.length ((pre.length + l.size + r.size : Nat) : Int)) ([⟨lev, a, red, l.fr, r.to, [pre.length + l.size - 1, pre.length + l.size + r.size - 1], up⟩] ++ post) ((pre.length + l.size + r.size : Nat) : Int) p k2 (by omega) h2
      rw [hA] at this
      simpa only [RT.flat, List.append_assoc] using this
  | .three lev a l m r, pre, post, up, p, ⟨k1, k2, k3, k4, k5⟩, h1, h2 => by
    have hroot := flat_end pre post (.three lev a l m r) (pre.length + l.size + m.size + r.size) up (by simp only [RT.size]; omega)
    simp only [RT.fr, RT.to] at h1 h2
    generalize hU : ((pre.length + l.size + m.size + r.size : Nat) : Int) = U at *
    have hA : (pre ++ l.flat pre.length U).length = pre.length + l.size := by rw [List.length_append, RT.flat_len]
    have hB : (pre ++ l.flat pre.length U ++ m.flat (pre.length + l.size) U).length = pre.length + l.size + m.size := by rw [List.length_append, RT.flat_len, hA]
    rw [RT.path]
    refine chainP_snoc _ _ _ _ ?_ ⟨_, hroot, RT.node_upv _ _ _⟩
    rw [hU]
    by_cases hp : p < l.to
    · rw [if_pos hp]
      have := RT.chain l pre (m.flat (pre.length + l.size) U ++ r.flat (pre.length + l.size + m.size) U ++ [⟨lev, a, false, l.fr, r.to, [pre.length + l.size - 1, pre.length + l.size + m.size - 1, pre.length + l.size + m.size + r.size - 1], up⟩] ++ post) U p k1 h1 hp
      simpa only [RT.flat, List.append_assoc, hU] using this
    · rw [if_neg hp]
      by_cases hp2 : p < m.to
      · rw [if_pos hp2]
        have := RT.chain m (pre ++ l.flat pre.length U) (r.flat (pre.length + l.size + m.size) U ++ [⟨lev, a, false, l.fr, r.to, [pre.length + l.size - 1, pre.length + l.size + m.size - 1, pre.length + l.size + m.size + r.size - 1], up⟩] ++ post) U p k2 (by omega) hp2
        rw [hA] at this
        simpa only [RT.flat, List.append_assoc, hU] using this
      · rw [if_neg hp2]
        have := RT.chain r (pre ++ l.flat pre.length U ++ m.flat (pre.length + l.size) U) ([⟨lev, a, false, l.fr, r.to, [pre.length + l.size - 1, pre.length + l.size + m.size - 1, pre.length + l.size + m.size + r.size - 1], up⟩] ++ post) U p k3 (by omega) h2
        rw [hB] at this
        simpa only [RT.flat, List.append_assoc, hU] using this
theorem RT.path_leaf : ∀ (T : RT) (pre post : List RN) (up : Int) (p : Nat), T.ok → T.fr ≤ p → p < T.to → ∃ a l x, T.path pre.length p = a :: l ∧ (pre ++ T.flat pre.length up ++ post)[a]? = some x ∧ x.lev = 0 ∧ x.at_ = p ∧ x.kids = []
  | .leaf a, pre, post, up, p, _, h1, h2 => by
    simp only [RT.fr, RT.to] at h1 h2
    exact ⟨_, _, _, rfl, flat_end pre post (.leaf a) pre.length up (by simp [RT.size]), rfl, by simp only [RT.node]; omega, rfl⟩
  | .two lev a red l r, pre, post, up, p, ⟨k1, k2, k3⟩, h1, h2 => by
    simp only [RT.fr, RT.to] at h1 h2
    have hA : (pre ++ l.flat pre.length ((pre.length + l.size + r.size : Nat) : Int)).length = pre.length + l.size := by rw [List.length_append, RT.flat_len]
    rw [RT.path]
    by_cases hp : p < l.to
    · rw [if_pos hp]
      obtain ⟨b, t, x, e, hx⟩ := RT.path_leaf l pre (r.flat (pre.length + l.size) ((pre.length + l.size + r.size : Nat) : Int) ++ [⟨lev, a, red, l.fr, r.to, [pre.length + l.size - 1, pre.length + l.size + r.size - 1], up⟩] ++ post) ((pre.length + l.size + r.size : Nat) : Int) p k1 h1 hp
      exact ⟨b, t ++ [pre.length + l.size + r.size], x, by rw [e]; rfl, by simpa only [RT.flat, List.append_assoc] using hx⟩
    · rw [if_neg hp]
      obtain ⟨b, t, x, e, hx⟩ := RT.path_leaf r (pre ++ l.flat pre.length ((pre.length + l.size + r.size : Nat) : Int)) ([⟨lev, a, red, l.fr, r.to, [pre.length + l.size - 1, pre.length + l.size + r.size - 1], up⟩] ++ post) ((pre.length + l.size + r.size : Nat) : Int) p k2 (by omega) h2
      rw [hA] at e hx
      exact ⟨b, t ++ [pre.length + l.size + r.size], x, by rw [e]; rfl, by simpa only [RT.flat, List.append_assoc] using hx⟩
  | .three lev a l m r, pre, post, up, p, ⟨k1, k2, k3, k4, k5⟩, h1, h2 => by
    simp only [RT.fr, RT.to] at h1 h2
    generalize hU : ((pre.length + l.size + m.size + r.size : Nat) : Int) = U at *
    have hA : (pre ++ l.flat pre.length U).length = pre.length + l.size := by rw [List.length_append, RT.flat_len]
    have hB : (pre ++ l.flat pre.length U ++ m.flat (pre.length + l.size) U).length = pre.length + l.size + m.size := by rw [List.length_append, RT.flat_len, hA]
    rw [RT.path]
    by_cases hp : p < l.to
    · rw [if_pos hp]
      obtain ⟨b, t, x, e, hx⟩ := RT.path_leaf l pre (m.flat (pre.length + l.size) U ++ r.flat (pre.length + l.size + m.size) U ++ [⟨lev, a, false, l.fr, r.to, [pre.length + l.size - 1, pre.length + l.size + m.size - 1, pre.length + l.size + m.size + r.size - 1], up⟩] ++ post) U p k1 h1 hp
      exact ⟨b, t ++ [pre.length + l.size + m.size + r.size], x, by rw [e]; rfl, by simpa only [RT.flat, List.append_assoc, hU] using hx⟩
    · rw [if_neg hp]
      by_cases hp2 : p < m.to
      · rw [if_pos hp2]
        obtain ⟨b, t, x, e, hx⟩ := RT.path_leaf m (pre ++ l.flat pre.length U) (r.flat (pre.length + l.size + m.size) U ++ [⟨lev, a, false, l.fr, r.to, [pre.length + l.size - 1, pre.length + l.size + m.size - 1, pre.length + l.size + m.size + r.size - 1], up⟩] ++ post) U p k2 (by omega) hp2
        rw [hA] at e hx
        exact ⟨b, t ++ [pre.length + l.size + m.size + r.size], x, by rw [e]; rfl, by simpa only [RT.flat, List.append_assoc, hU] using hx⟩
      · rw [if_neg hp2]
        obtain ⟨b, t, x, e, hx⟩ := RT.path_leaf r (pre ++ l.flat pre.length U ++ m.flat (pre.length + l.size) U) ([⟨lev, a, false, l.fr, r.to, [pre.length + l.size - 1, pre.length + l.size + m.size - 1, pre.length + l.size + m.size + r.size - 1], up⟩] ++ post) U p k3 (by omega) h2
        rw [hB] at e hx
        exact ⟨b, t ++ [pre.length + l.size + m.size + r.size], x, by rw [e]; rfl, by simpa only [RT.flat, List.append_assoc, hU] using hx⟩
theorem RT.path_last (T : RT) (off p : Nat) : (T.path off p).getLast? = some (off + T.size - 1) := by
  cases T with
  | leaf a => simp [RT.path, RT.size]
  | two lev a red l r => rw [RT.path, List.getLast?_append]; simp [RT.size]; omega
  | three lev a l m r => rw [RT.path, List.getLast?_append]; simp [RT.size]; omega
/-- nodes ahead of a way's leaf have not the leaf below -/
theorem way_min (p : Nat) : ∀ (i : Nat) (l : List RN) (a : Nat) (t : List Nat), wayOf p i l = a :: t → ∀ (j : Nat) (y : RN), l[j]? = some y → i + j < a → hasP p y = false
  | i, [], a, t, h => by simp [wayOf] at h
  | i, x :: l, a, t, h => fun j y hj hlt => by
    rw [wayOf] at h
    by_cases hx : hasP p x = true
    · rw [if_pos hx] at h
      injection h with h
      omega
    · rw [if_neg hx] at h
      cases j with
      | zero =>
        simp at hj
        subst hj
        simpa using hx
      | succ j => exact way_min p (i + 1) l a t h j y (by simpa using hj) (by omega)
theorem way_mem (p : Nat) : ∀ (i : Nat) (l : List RN), ∀ a ∈ wayOf p i l, i ≤ a ∧ ∃ y, l[a - i]? = some y ∧ hasP p y = true
  | i, [] => fun a h => by simp [wayOf] at h
  | i, x :: l => fun a h => by
    rw [wayOf] at h
    have ih := way_mem p (i + 1) l
    by_cases hx : hasP p x = true
    · rw [if_pos hx] at h
      rcases List.mem_cons.1 h with rfl | h
      · exact ⟨Nat.le_refl _, x, by simp, hx⟩
      · obtain ⟨h1, y, h2, h3⟩ := ih a h
        refine ⟨by omega, y, ?_, h3⟩
        rw [show a - i = (a - (i + 1)) + 1 by omega]
        exact h2
    · rw [if_neg hx] at h
      obtain ⟨h1, y, h2, h3⟩ := ih a h
      refine ⟨by omega, y, ?_, h3⟩
      rw [show a - i = (a - (i + 1)) + 1 by omega]
      exact h2
theorem way_rise (p : Nat) : ∀ (i : Nat) (l : List RN), (wayOf p i l).Pairwise (· < ·)
  | i, [] => by simp [wayOf]
  | i, x :: l => by
    rw [wayOf]
    split
    · refine List.pairwise_cons.2 ⟨fun a ha => ?_, way_rise p (i + 1) l⟩
      have := (way_mem p (i + 1) l a ha).1
      omega
    · exact way_rise p (i + 1) l

/-- what is below a node has its leaves, one behind the other -/
def spanK (L : List RN) : Nat → List Nat → Nat → Prop
  | q, [], z => q = z
  | q, k :: ks, z => ∃ y, L[k]? = some y ∧ y.fr = q ∧ spanK L y.to ks z
def nodeKid (L : List RN) (q : Nat) (x : RN) : Prop :=
  (x.kids ≠ [] → spanK L x.fr x.kids x.to) ∧ (∀ k ∈ x.kids, ∃ y, L[k]? = some y ∧ y.up = (q : Int)) ∧ (x.lev = 0 → x.fr = x.at_ ∧ x.to = x.at_ + 1) ∧ (∀ k ∈ x.kids, k < q)
theorem RT.kid_ok {kind : Int} : ∀ (T : RT) (pre post : List RN) (up : Int), T.good kind → T.ok → ∀ (q : Nat) (x : RN), pre.length ≤ q → q < pre.length + T.size → (pre ++ T.flat pre.length up ++ post)[q]? = some x → nodeKid (pre ++ T.flat pre.length up ++ post) q x
  | .leaf a, pre, post, up, _, _, q, x, h1, h2, hx => by
    have e := flat_end pre post (.leaf a) q up (by simp only [RT.size] at h2 ⊢; omega)
    rw [e] at hx
    have hx := Option.some.inj hx
    subst hx
    exact ⟨fun h => absurd rfl h, fun k hk => by simp [RT.node] at hk, fun _ => ⟨rfl, rfl⟩, fun k hk => by simp [RT.node] at hk⟩
  | .two lev a red l r, pre, post, up, ⟨g1, g2, g3, _⟩, ⟨k1, k2, k3⟩, q, x, h1, h2, hx => by
    have hroot := flat_end pre post (.two lev a red l r) (pre.length + l.size + r.size) up (by simp only [RT.size]; omega)
    have p1 := l.size_pos
    have p2 := r.size_pos
    simp only [RT.size] at h2
    have hA : (pre ++ l.flat pre.length ((pre.length + l.size + r.size : Nat) : Int)).length = pre.length + l.size := by rw [List.length_append, RT.flat_len]
    have c1 := RT.kid_ok l pre (r.flat (pre.length + l.size) ((pre.length + l.size + r.size : Nat) : Int) ++ [⟨lev, a, red, l.fr, r.to, [pre.length + l.size - 1, pre.length + l.size + r.size - 1], up⟩] ++ post) ((pre.length + l.size + r.size : Nat) : Int) g1 k1 q x
    have c2 := RT.kid_ok r (pre ++ l.flat pre.length ((pre.length + l.size + r.size : Nat) : Int)) ([⟨lev, a, red, l.fr, r.to, [pre.length + l.size - 1, pre.length + l.size + r.size - 1], up⟩] ++ post) ((pre.length + l.size + r.size : Nat) : Int) g2 k2 q x
    have e1 := flat_end pre (r.flat (pre.length + l.size) ((pre.length + l.size + r.size : Nat) : Int) ++ [⟨lev, a, red, l.fr, r.to, [pre.length + l.size - 1, pre.length + l.size + r.size - 1], up⟩] ++ post) l (pre.length + l.size - 1) ((pre.length + l.size + r.size : Nat) : Int) rfl
    have e2 := flat_end (pre ++ l.flat pre.length ((pre.length + l.size + r.size : Nat) : Int)) ([⟨lev, a, red, l.fr, r.to, [pre.length + l.size - 1, pre.length + l.size + r.size - 1], up⟩] ++ post) r (pre.length + l.size + r.size - 1) ((pre.length + l.size + r.size : Nat) : Int) (by rw [hA])
    rw [hA] at e2 c2
    simp only [RT.flat, List.append_assoc] at e1 e2 c1 c2 hx hroot ⊢
    rcases Nat.lt_or_ge q (pre.length + l.size) with hq | hq
    · exact c1 h1 hq hx
    · rcases Nat.lt_or_ge q (pre.length + l.size + r.size) with hq2 | hq2
      · exact c2 hq hq2 hx
      · obtain rfl : q = pre.length + l.size + r.size := by omega
        rw [hroot] at hx
        have hx := Option.some.inj hx
        subst hx
        refine ⟨fun _ => ⟨_, e1, RT.node_fr _ _ _, _, e2, ?_, RT.node_to _ _ _⟩, fun k hk => ?_, fun h => ?_, fun k hk => ?_⟩
        · rw [RT.node_fr, RT.node_to, k3]
        · simp only [RT.node, List.mem_cons, List.not_mem_nil, or_false] at hk
          rcases hk with rfl | rfl
          · exact ⟨_, e1, RT.node_upv _ _ _⟩
          · exact ⟨_, e2, RT.node_upv _ _ _⟩
        · simp only [RT.node] at h
          omega
        · simp only [RT.node, List.mem_cons, List.not_mem_nil, or_false] at hk
          omega
  | .three lev a l m r, pre, post, up, ⟨g1, g2, g3, g4, _⟩, ⟨k1, k2, k3, k4, k5⟩, q, x, h1, h2, hx => by
    have hroot := flat_end pre post (.three lev a l m r) (pre.length + l.size + m.size + r.size) up (by simp only [RT.size]; omega)
    have p1 := l.size_pos
    have p2 := m.size_pos
    have p3 := r.size_pos
    simp only [RT.size] at h2
    have hUU : ∀ U : Int, U = ((pre.length + l.size + m.size + r.size : Nat) : Int) → nodeKid (pre ++ (RT.three lev a l m r).flat pre.length up ++ post) q x := by
      intro U hU
      have hA : (pre ++ l.flat pre.length U).length = pre.length + l.size := by rw [List.length_append, RT.flat_len]
      have hB : (pre ++ l.flat pre.length U ++ m.flat (pre.length + l.size) U).length = pre.length + l.size + m.size := by rw [List.length_append, RT.flat_len, hA]
      have c1 := RT.kid_ok l pre (m.flat (pre.length + l.size) U ++ r.flat (pre.length + l.size + m.size) U ++ [⟨lev, a, false, l.fr, r.to, [pre.length + l.size - 1, pre.length + l.size + m.size - 1, pre.length + l.size + m.size + r.size - 1], up⟩] ++ post) U g1 k1 q x
      have c2 := RT.kid_ok m (pre ++ l.flat pre.length U) (r.flat (pre.length + l.size + m.size) U ++ [⟨lev, a, false, l.fr, r.to, [pre.length + l.size - 1, pre.length + l.size + m.size - 1, pre.length + l.size + m.size + r.size - 1], up⟩] ++ post) U g2 k2 q x
      have c3 := RT.kid_ok r (pre ++ l.flat pre.length U ++ m.flat (pre.length + l.size) U) ([⟨lev, a, false, l.fr, r.to, [pre.length + l.size - 1, pre.length + l.size + m.size - 1, pre.length + l.size + m.size + r.size - 1], up⟩] ++ post) U g3 k3 q x
      have e1 := flat_end pre (m.flat (pre.length + l.size) U ++ r.flat (pre.length + l.size + m.size) U ++ [⟨lev, a, false, l.fr, r.to, [pre.length + l.size - 1, pre.length + l.size + m.size - 1, pre.length + l.size + m.size + r.size - 1], up⟩] ++ post) l (pre.length + l.size - 1) U rfl
      have e2 := flat_end (pre ++ l.flat pre.length U) (r.flat (pre.length + l.size + m.size) U ++ [⟨lev, a, false, l.fr, r.to, [pre.length + l.size - 1, pre.length + l.size + m.size - 1, pre.length + l.size + m.size + r.size - 1], up⟩] ++ post) m (pre.length + l.size + m.size - 1) U (by rw [hA])
      have e3 := flat_end (pre ++ l.flat pre.length U ++ m.flat (pre.length + l.size) U) ([⟨lev, a, false, l.fr, r.to, [pre.length + l.size - 1, pre.length + l.size + m.size - 1, pre.length + l.size + m.size + r.size - 1], up⟩] ++ post) r (pre.length + l.size + m.size + r.size - 1) U (by rw [hB])
      rw [hA] at e2 c2
      rw [hB] at e3 c3
      simp only [RT.flat, List.append_assoc, ← hU] at e1 e2 e3 c1 c2 c3 hx hroot ⊢
      rcases Nat.lt_or_ge q (pre.length + l.size) with hq | hq
      · exact c1 h1 hq hx
      · rcases Nat.lt_or_ge q (pre.length + l.size + m.size) with hq2 | hq2
        · exact c2 hq hq2 hx
        · rcases Nat.lt_or_ge q (pre.length + l.size + m.size + r.size) with hq3 | hq3
          · exact c3 hq2 hq3 hx
          · obtain rfl : q = pre.length + l.size + m.size + r.size := by omega
            rw [hroot] at hx
            have hx := Option.some.inj hx
            subst hx
            refine ⟨fun _ => ⟨_, e1, RT.node_fr _ _ _, _, e2, ?_, _, e3, ?_, RT.node_to _ _ _⟩, fun k hk => ?_, fun h => ?_, fun k hk => ?_⟩
            · rw [RT.node_fr, RT.node_to, k4]
            · rw [RT.node_fr, RT.node_to, k5]
            · simp only [RT.node, List.mem_cons, List.not_mem_nil, or_false] at hk
              rw [← hU]
              rcases hk with rfl | rfl | rfl
              · exact ⟨_, e1, RT.node_upv _ _ _⟩
              · exact ⟨_, e2, RT.node_upv _ _ _⟩
              · exact ⟨_, e3, RT.node_upv _ _ _⟩
            · simp only [RT.node] at h
              omega
            · simp only [RT.node, List.mem_cons, List.not_mem_nil, or_false] at hk
              omega
    exact hUU _ rfl

/-- how many nodes are above each node -/
def RT.deps : RT → Nat → List Nat
  | .leaf _, d => [d]
  | .two _ _ _ l r, d => l.deps (d + 1) ++ r.deps (d + 1) ++ [d]
  | .three _ _ l m r, d => l.deps (d + 1) ++ m.deps (d + 1) ++ r.deps (d + 1) ++ [d]
theorem RT.deps_len : ∀ (T : RT) (d : Nat), (T.deps d).length = T.size
  | .leaf _, _ => rfl
  | .two _ _ _ l r, d => by simp only [RT.deps, RT.size, List.length_append, RT.deps_len l, RT.deps_len r, List.length_singleton]
  | .three _ _ l m r, d => by simp only [RT.deps, RT.size, List.length_append, RT.deps_len l, RT.deps_len m, RT.deps_len r, List.length_singleton]
theorem RT.deps_last (T : RT) (d : Nat) : (T.deps d)[T.size - 1]? = some d := by
  have h := T.deps_len d
  cases T with
  | leaf a => rfl
  | two lev a red l r =>
    rw [RT.deps, List.getElem?_append_right (by simp [RT.deps_len, RT.size])]
    simp [RT.deps_len, RT.size]
  | three lev a l m r =>
    rw [RT.deps, List.getElem?_append_right (by simp [RT.deps_len, RT.size]; omega)]
    simp [RT.deps_len, RT.size, Nat.add_assoc]
def deepAt (T : RT) (off d : Nat) (up : Int) (i : Nat) : Prop :=
  ∃ x, (T.flat off up)[i]? = some x ∧ ((i + 1 = T.size ∧ x.up = up) ∨ ∃ u e, x.up = ((off + u : Nat) : Int) ∧ i < u ∧ u < T.size ∧ (T.deps d)[u]? = some e ∧ (T.deps d)[i]? = some (e + 1))
theorem RT.deep : ∀ (T : RT) (off d : Nat) (up : Int) (i : Nat), i < T.size → deepAt T off d up i
  | .leaf a, off, d, up, i, hi => by
    simp only [RT.size] at hi
    obtain rfl : i = 0 := by omega
    exact ⟨_, rfl, .inl ⟨rfl, rfl⟩⟩
  | .two lev a red l r, off, d, up, i, hi => by
    have hl := RT.deps_len l (d + 1)
    have hr := RT.deps_len r (d + 1)
    have hd := RT.deps_last (.two lev a red l r) d
    have p1 := l.size_pos
    have p2 := r.size_pos
    simp only [RT.size] at hi hd
    rw [show l.size + r.size + 1 - 1 = l.size + r.size by omega] at hd
    rcases Nat.lt_or_ge i l.size with h | h
    · obtain ⟨x, hx, h2⟩ := RT.deep l off (d + 1) ((off + l.size + r.size : Nat) : Int) i h
      refine ⟨x, by rw [RT.flat, List.append_assoc, List.getElem?_append_left (by rw [RT.flat_len]; exact h)]; exact hx, .inr ?_⟩
      rcases h2 with ⟨e1, e2⟩ | ⟨u, e, e1, e2, e3, e4, e5⟩
      · refine ⟨l.size + r.size, d, by rw [e2, Nat.add_assoc], by omega, by simp only [RT.size]; omega, hd, ?_⟩
        have := RT.deps_last l (d + 1)
        rw [RT.deps, List.append_assoc, List.getElem?_append_left (by omega), show i = l.size - 1 by omega]
        exact this
      · refine ⟨u, e, e1, e2, by simp only [RT.size]; omega, ?_, ?_⟩
        · rw [RT.deps, List.append_assoc, List.getElem?_append_left (by omega)]; exact e4
        · rw [RT.deps, List.append_assoc, List.getElem?_append_left (by omega)]; exact e5
    · rcases Nat.lt_or_ge i (l.size + r.size) with h' | h'
      · obtain ⟨x, hx, h2⟩ := RT.deep r (off + l.size) (d + 1) ((off + l.size + r.size : Nat) : Int) (i - l.size) (by omega)
        refine ⟨x, by rw [RT.flat, List.append_assoc, List.getElem?_append_right (by rw [RT.flat_len]; exact h), RT.flat_len, List.getElem?_append_left (by rw [RT.flat_len]; omega)]; exact hx, .inr ?_⟩
        rcases h2 with ⟨e1, e2⟩ | ⟨u, e, e1, e2, e3, e4, e5⟩
        · refine ⟨l.size + r.size, d, by rw [e2, Nat.add_assoc], by omega, by simp only [RT.size]; omega, hd, ?_⟩
          have := RT.deps_last r (d + 1)
          rw [RT.deps, List.append_assoc, List.getElem?_append_right (by omega), hl, List.getElem?_append_left (by omega), show i - l.size = r.size - 1 by omega]
          exact this
        · refine ⟨l.size + u, e, by rw [e1, Nat.add_assoc], by omega, by simp only [RT.size]; omega, ?_, ?_⟩
          · rw [RT.deps, List.append_assoc, List.getElem?_append_right (by omega), hl, List.getElem?_append_left (by omega), show l.size + u - l.size = u by omega]; exact e4
          · rw [RT.deps, List.append_assoc, List.getElem?_append_right (by omega), hl, List.getElem?_append_left (by omega)]; exact e5
      · obtain rfl : i = l.size + r.size := by omega
        refine ⟨_, by rw [RT.flat, List.getElem?_append_right (by simp [RT.flat_len])]; simp only [List.length_append, RT.flat_len, Nat.sub_self]; rfl, .inl ⟨by simp only [RT.size], rfl⟩⟩
  | .three lev a l m r, off, d, up, i, hi => by
    have hl := RT.deps_len l (d + 1)
    have hm := RT.deps_len m (d + 1)
    have hr := RT.deps_len r (d + 1)
    have hd := RT.deps_last (.three lev a l m r) d
    have p1 := l.size_pos
    have p2 := m.size_pos
    have p3 := r.size_pos
    simp only [RT.size] at hi hd
    rw [show l.size + m.size + r.size + 1 - 1 = l.size + m.size + r.size by omega] at hd
    rcases Nat.lt_or_ge i l.size with h | h
    · obtain ⟨x, hx, h2⟩ := RT.deep l off (d + 1) ((off + l.size + m.size + r.size : Nat) : Int) i h
      refine ⟨x, by rw [RT.flat, List.append_assoc, List.append_assoc, List.getElem?_append_left (by rw [RT.flat_len]; exact h)]; exact hx, .inr ?_⟩
      rcases h2 with ⟨e1, e2⟩ | ⟨u, e, e1, e2, e3, e4, e5⟩
      · refine ⟨l.size + m.size + r.size, d, by rw [e2]; simp only [Nat.add_assoc], by omega, by simp only [RT.size]; omega, hd, ?_⟩
        have := RT.deps_last l (d + 1)
        rw [RT.deps, List.append_assoc, List.append_assoc, List.getElem?_append_left (by omega), show i = l.size - 1 by omega]
        exact this
      · refine ⟨u, e, e1, e2, by simp only [RT.size]; omega, ?_, ?_⟩
        · rw [RT.deps, List.append_assoc, List.append_assoc, List.getElem?_append_left (by omega)]; exact e4
        · rw [RT.deps, List.append_assoc, List.append_assoc, List.getElem?_append_left (by omega)]; exact e5
    · rcases Nat.lt_or_ge i (l.size + m.size) with h' | h'
      · obtain ⟨x, hx, h2⟩ := RT.deep m (off + l.size) (d + 1) ((off + l.size + m.size + r.size : Nat) : Int) (i - l.size) (by omega)
        refine ⟨x, by rw [RT.flat, List.append_assoc, List.append_assoc, List.getElem?_append_right (by rw [RT.flat_len]; exact h), RT.flat_len, List.getElem?_append_left (by rw [RT.flat_len]; omega)]; exact hx, .inr ?_⟩
        rcases h2 with ⟨e1, e2⟩ | ⟨u, e, e1, e2, e3, e4, e5⟩
        · refine ⟨l.size + m.size + r.size, d, by rw [e2]; simp only [Nat.add_assoc], by omega, by simp only [RT.size]; omega, hd, ?_⟩
          have := RT.deps_last m (d + 1)
          rw [RT.deps, List.append_assoc, List.append_assoc, List.getElem?_append_right (by omega), hl, List.getElem?_append_left (by omega), show i - l.size = m.size - 1 by omega]
          exact this
        · refine ⟨l.size + u, e, by rw [e1, Nat.add_assoc], by omega, by simp only [RT.size]; omega, ?_, ?_⟩
          · rw [RT.deps, List.append_assoc, List.append_assoc, List.getElem?_append_right (by omega), hl, List.getElem?_append_left (by omega), show l.size + u - l.size = u by omega]; exact e4
          · rw [RT.deps, List.append_assoc, List.append_assoc, List.getElem?_append_right (by omega), hl, List.getElem?_append_left (by omega)]; exact e5
      · rcases Nat.lt_or_ge i (l.size + m.size + r.size) with h3 | h3
        · obtain ⟨x, hx, h2⟩ := RT.deep r (off + l.size + m.size) (d + 1) ((off + l.size + m.size + r.size : Nat) : Int) (i - l.size - m.size) (by omega)
          refine ⟨x, by rw [RT.flat, List.append_assoc, List.append_assoc, List.getElem?_append_right (by rw [RT.flat_len]; exact h), RT.flat_len, List.getElem?_append_right (by rw [RT.flat_len]; omega), RT.flat_len, List.getElem?_append_left (by rw [RT.flat_len]; omega)]; exact hx, .inr ?_⟩
          rcases h2 with ⟨e1, e2⟩ | ⟨u, e, e1, e2, e3, e4, e5⟩
          · refine ⟨l.size + m.size + r.size, d, by rw [e2]; simp only [Nat.add_assoc], by omega, by simp only [RT.size]; omega, hd, ?_⟩
            have := RT.deps_last r (d + 1)
            rw [RT.deps, List.append_assoc, List.append_assoc, List.getElem?_append_right (by omega), hl, List.getElem?_append_right (by omega), hm, List.getElem?_append_left (by omega), show i - l.size - m.size = r.size - 1 by omega]
            exact this
          · refine ⟨l.size + m.size + u, e, by rw [e1]; simp only [Nat.add_assoc], by omega, by simp only [RT.size]; omega, ?_, ?_⟩
            · rw [RT.deps, List.append_assoc, List.append_assoc, List.getElem?_append_right (by omega), hl, List.getElem?_append_right (by omega), hm, List.getElem?_append_left (by omega), show l.size + m.size + u - l.size - m.size = u by omega]; exact e4
            · rw [RT.deps, List.append_assoc, List.append_assoc, List.getElem?_append_right (by omega), hl, List.getElem?_append_right (by omega), hm, List.getElem?_append_left (by omega)]; exact e5
        · obtain rfl : i = l.size + m.size + r.size := by omega
          refine ⟨_, by rw [RT.flat, List.getElem?_append_right (by simp [RT.flat_len]; omega)]; simp only [List.length_append, RT.flat_len, Nat.sub_self]; rfl, .inl ⟨by simp only [RT.size], rfl⟩⟩
/-- the greatest one -/
def maxL : List Nat → Nat
  | [] => 0
  | x :: l => max x (maxL l)
theorem maxL_append : ∀ a b : List Nat, maxL (a ++ b) = max (maxL a) (maxL b)
  | [], b => by simp [maxL]
  | x :: a, b => by
    rw [List.cons_append, maxL, maxL, maxL_append a b]
    omega
theorem RT.deps_max : ∀ (T : RT) (d : Nat), maxL (T.deps d) = d + T.high
  | .leaf _, d => by simp [RT.deps, maxL, RT.high]
  | .two _ _ _ l r, d => by
    rw [RT.deps, maxL_append, maxL_append, RT.deps_max l, RT.deps_max r, RT.high, maxL, maxL]
    omega
  | .three _ _ l m r, d => by
    rw [RT.deps, maxL_append, maxL_append, maxL_append, RT.deps_max l, RT.deps_max m, RT.deps_max r, RT.high, maxL, maxL]
    omega
theorem RT.high_ex : ∀ (T : RT) (off : Nat), T.ok → ∃ p, T.fr ≤ p ∧ p < T.to ∧ (T.path off p).length = T.high + 1
  | .leaf a, off, _ => ⟨a, by simp [RT.fr], by simp [RT.to], by simp [RT.path, RT.high]⟩
  | .two lev a red l r, off, ⟨k1, k2, k3⟩ => by
    have f1 := RT.fr_lt l k1
    have f2 := RT.fr_lt r k2
    simp only [RT.fr, RT.to, RT.path, RT.high]
    by_cases h : r.high ≤ l.high
    · obtain ⟨p, h1, h2, h3⟩ := RT.high_ex l off k1
      exact ⟨p, h1, by omega, by rw [if_pos h2, List.length_append, h3, List.length_singleton]; omega⟩
    · obtain ⟨p, h1, h2, h3⟩ := RT.high_ex r (off + l.size) k2
      exact ⟨p, by omega, h2, by rw [if_neg (by omega), List.length_append, h3, List.length_singleton]; omega⟩
  | .three lev a l m r, off, ⟨k1, k2, k3, k4, k5⟩ => by
    have f1 := RT.fr_lt l k1
    have f2 := RT.fr_lt m k2
    have f3 := RT.fr_lt r k3
    simp only [RT.fr, RT.to, RT.path, RT.high]
    by_cases h : max m.high r.high ≤ l.high
    · obtain ⟨p, h1, h2, h3⟩ := RT.high_ex l off k1
      exact ⟨p, h1, by omega, by rw [if_pos h2, List.length_append, h3, List.length_singleton]; omega⟩
    · by_cases h' : r.high ≤ m.high
      · obtain ⟨p, h1, h2, h3⟩ := RT.high_ex m (off + l.size) k2
        exact ⟨p, by omega, by omega, by rw [if_neg (by omega), if_pos h2, List.length_append, h3, List.length_singleton]; omega⟩
      · obtain ⟨p, h1, h2, h3⟩ := RT.high_ex r (off + l.size + m.size) k3
        exact ⟨p, by omega, h2, by rw [if_neg (by omega), if_neg (by omega), List.length_append, h3, List.length_singleton]; omega⟩

end Go.Proofs.YtlidhdljgnijaaaDoor

/-
  NODES OF A TREE (layer 11): what is beside a way, and that it covers all other leaves, each once: pure facts.
-/
set_option linter.unusedVariables false
namespace Go.Proofs.YtlidhdljgnijaaaDoor

def kidsN (L : List RN) (q : Nat) : List Nat := (L[q]?.map RN.kids).getD []
/-- what is beside a way, from its leaf on -/
def besP (L : List RN) : List Nat → List Nat
  | [] => []
  | a :: t => match t with
    | [] => []
    | b :: l => (kidsN L b).filter (fun k => k != a) ++ besP L (b :: l)
theorem besP_two (L : List RN) (a b : Nat) (l : List Nat) : besP L (a :: b :: l) = (kidsN L b).filter (fun k => k != a) ++ besP L (b :: l) := rfl
theorem besP_snoc (L : List RN) (q z : Nat) : ∀ P : List Nat, P.getLast? = some z → besP L (P ++ [q]) = besP L P ++ (kidsN L q).filter (fun k => k != z)
  | [], h => by simp at h
  | [a], h => by
    simp at h
    subst h
    show besP L [a, q] = besP L [a] ++ _
    rw [besP_two]
    simp [besP]
  | a :: b :: l, h => by
    have ih := besP_snoc L q z (b :: l) (by simpa using h)
    show besP L (a :: b :: (l ++ [q])) = _
    rw [besP_two, besP_two, List.append_assoc, ← ih]
    rfl
theorem kids_at {L : List RN} {q : Nat} {x : RN} (h : L[q]? = some x) : kidsN L q = x.kids := by rw [kidsN, h]; rfl
theorem RT.bes : ∀ (T : RT) (pre post : List RN) (up : Int) (p : Nat), T.ok → T.fr ≤ p → p < T.to → besP (pre ++ T.flat pre.length up ++ post) (T.path pre.length p) = T.beside pre.length p
  | .leaf a, pre, post, up, p, _, _, _ => rfl
  | .two lev a red l r, pre, post, up, p, ⟨k1, k2, k3⟩, h1, h2 => by
    have hroot := kids_at (flat_end pre post (.two lev a red l r) (pre.length + l.size + r.size) up (by simp only [RT.size]; omega))
    simp only [RT.fr, RT.to] at h1 h2
    have p1 := l.size_pos
    have p2 := r.size_pos
    have hA : (pre ++ l.flat pre.length ((pre.length + l.size + r.size : Nat) : Int)).length = pre.length + l.size := by rw [List.length_append, RT.flat_len]
    rw [RT.path, RT.beside]
    by_cases hp : p < l.to
    · rw [if_pos hp, if_pos hp, besP_snoc _ _ _ _ (RT.path_last l _ _), hroot]
      have := RT.bes l pre (r.flat (pre.length + l.size) ((pre.length + l.size + r.size : Nat) : Int) ++ [⟨lev, a, red, l.fr, r.to, [pre.length + l.size - 1, pre.length + l.size + r.size - 1], up⟩] ++ post) ((pre.length + l.size + r.size : Nat) : Int) p k1 h1 hp
      simp only [RT.flat, List.append_assoc] at this ⊢
      rw [this]
      have e1 : (pre.length + l.size - 1 != pre.length + l.size - 1) = false := by simp
      have e2 : (pre.length + l.size + r.size - 1 != pre.length + l.size - 1) = true := by simp; omega
      simp only [RT.node, List.filter_cons, List.filter_nil, e1, e2, if_true]
      rfl
    · rw [if_neg hp, if_neg hp, besP_snoc _ _ _ _ (RT.path_last r _ _), hroot]
      have := RT.bes r (pre ++ l.flat pre.length ((pre.length + l.size + r.size : Nat) : Int)) ([⟨lev, a, red, l.fr, r.to, [pre.length + l.size - 1, pre.length + l.size + r.size - 1], up⟩] ++ post) ((pre.length + l.size + r.size : Nat) : Int) p k2 (by omega) h2
      rw [hA] at this
      simp only [RT.flat, List.append_assoc] at this ⊢
      rw [this]
      have e1 : (pre.length + l.size - 1 != pre.length + l.size + r.size - 1) = true := by simp; omega
      have e2 : (pre.length + l.size + r.size - 1 != pre.length + l.size + r.size - 1) = false := by simp
      simp only [RT.node, List.filter_cons, List.filter_nil, e1, e2, if_true]
      rfl
  | .three lev a l m r, pre, post, up, p, ⟨k1, k2, k3, k4, k5⟩, h1, h2 => by
    have hroot := kids_at (flat_end pre post (.three lev a l m r) (pre.length + l.size + m.size + r.size) up (by simp only [RT.size]; omega))
    simp only [RT.fr, RT.to] at h1 h2
    have p1 := l.size_pos
    have p2 := m.size_pos
    have p3 := r.size_pos
    generalize hU : ((pre.length + l.size + m.size + r.size : Nat) : Int) = U at *
    have hA : (pre ++ l.flat pre.length U).length = pre.length + l.size := by rw [List.length_append, RT.flat_len]
    have hB : (pre ++ l.flat pre.length U ++ m.flat (pre.length + l.size) U).length = pre.length + l.size + m.size := by rw [List.length_append, RT.flat_len, hA]
    have a1 : (pre.length + l.size - 1 != pre.length + l.size - 1) = false := by simp
    have a2 : (pre.length + l.size + m.size - 1 != pre.length + l.size + m.size - 1) = false := by simp
    have a3 : (pre.length + l.size + m.size + r.size - 1 != pre.length + l.size + m.size + r.size - 1) = false := by simp
    have b1 : (pre.length + l.size + m.size - 1 != pre.length + l.size - 1) = true := by simp; omega
    have b2 : (pre.length + l.size + m.size + r.size - 1 != pre.length + l.size - 1) = true := by simp; omega
    have b3 : (pre.length + l.size - 1 != pre.length + l.size + m.size - 1) = true := by simp; omega
    have b4 : (pre.length + l.size + m.size + r.size - 1 != pre.length + l.size + m.size - 1) = true := by simp; omega
    have b5 : (pre.length + l.size - 1 != pre.length + l.size + m.size + r.size - 1) = true := by simp; omega
    have b6 : (pre.length + l.size + m.size - 1 != pre.length + l.size + m.size + r.size - 1) = true := by simp; omega
    rw [RT.path, RT.beside]
    by_cases hp : p < l.to
    · rw [if_pos hp, if_pos hp, besP_snoc _ _ _ _ (RT.path_last l _ _), hroot]
      have := RT.bes l pre (m.flat (pre.length + l.size) U ++ r.flat (pre.length + l.size + m.size) U ++ [⟨lev, a, false, l.fr, r.to, [pre.length + l.size - 1, pre.length + l.size + m.size - 1, pre.length + l.size + m.size + r.size - 1], up⟩] ++ post) U p k1 h1 hp
      simp only [RT.flat, List.append_assoc, hU] at this ⊢
      rw [this]
      simp only [RT.node, List.filter_cons, List.filter_nil, a1, b1, b2, if_true]
      rfl
    · rw [if_neg hp, if_neg hp]
      by_cases hp2 : p < m.to
      · rw [if_pos hp2, if_pos hp2, besP_snoc _ _ _ _ (RT.path_last m _ _), hroot]
        have := RT.bes m (pre ++ l.flat pre.length U) (r.flat (pre.length + l.size + m.size) U ++ [⟨lev, a, false, l.fr, r.to, [pre.length + l.size - 1, pre.length + l.size + m.size - 1, pre.length + l.size + m.size + r.size - 1], up⟩] ++ post) U p k2 (by omega) hp2
        rw [hA] at this
        simp only [RT.flat, List.append_assoc, hU] at this ⊢
        rw [this]
        simp only [RT.node, List.filter_cons, List.filter_nil, a2, b3, b4, if_true]
        rfl
      · rw [if_neg hp2, if_neg hp2, besP_snoc _ _ _ _ (RT.path_last r _ _), hroot]
        have := RT.bes r (pre ++ l.flat pre.length U ++ m.flat (pre.length + l.size) U) ([⟨lev, a, false, l.fr, r.to, [pre.length + l.size - 1, pre.length + l.size + m.size - 1, pre.length + l.size + m.size + r.size - 1], up⟩] ++ post) U p k3 (by omega) h2
        rw [hB] at this
        simp only [RT.flat, List.append_assoc, hU] at this ⊢
        rw [this]
        simp only [RT.node, List.filter_cons, List.filter_nil, a3, b5, b6, if_true]
        rfl
/-- how many of some nodes have a leaf below -/
def covP (L : List RN) (i k : Nat) : Bool := match L[k]? with
  | some x => hasP i x
  | none => false
def cov (L : List RN) (i : Nat) (B : List Nat) : Nat := B.countP (covP L i)
def onI (a b i : Nat) : Nat := if a ≤ i ∧ i < b then 1 else 0
theorem onI_add {a b c : Nat} (h1 : a ≤ b) (h2 : b ≤ c) (i : Nat) : onI a b i + onI b c i = onI a c i := by
  unfold onI
  split <;> split <;> split <;> omega
theorem cov_one {L : List RN} {k : Nat} {x : RN} (h : L[k]? = some x) (i : Nat) : cov L i [k] = onI x.fr x.to i := by
  rw [cov, List.countP_cons, List.countP_nil, Nat.zero_add, covP, h]
  simp only [hasP, Bool.and_eq_true, decide_eq_true_eq]
  rfl
theorem cov_append (L : List RN) (i : Nat) (a b : List Nat) : cov L i (a ++ b) = cov L i a + cov L i b := by rw [cov, List.countP_append, ← cov, ← cov]
theorem RT.cover : ∀ (T : RT) (pre post : List RN) (up : Int) (p : Nat), T.ok → T.fr ≤ p → p < T.to → ∀ i, (if i = p then 1 else 0) + cov (pre ++ T.flat pre.length up ++ post) i (T.beside pre.length p) = onI T.fr T.to i
  | .leaf a, pre, post, up, p, _, h1, h2 => fun i => by
    simp only [RT.fr, RT.to] at h1 h2 ⊢
    simp only [RT.beside, cov, List.countP_nil, Nat.add_zero]
    unfold onI
    split <;> split <;> omega
  | .two lev a red l r, pre, post, up, p, ⟨k1, k2, k3⟩, h1, h2 => fun i => by
    simp only [RT.fr, RT.to] at h1 h2 ⊢
    have f1 := RT.fr_lt l k1
    have f2 := RT.fr_lt r k2
    have hA : (pre ++ l.flat pre.length ((pre.length + l.size + r.size : Nat) : Int)).length = pre.length + l.size := by rw [List.length_append, RT.flat_len]
    have e1 := flat_end pre (r.flat (pre.length + l.size) ((pre.length + l.size + r.size : Nat) : Int) ++ [⟨lev, a, red, l.fr, r.to, [pre.length + l.size - 1, pre.length + l.size + r.size - 1], up⟩] ++ post) l (pre.length + l.size - 1) ((pre.length + l.size + r.size : Nat) : Int) rfl
    have e2 := flat_end (pre ++ l.flat pre.length ((pre.length + l.size + r.size : Nat) : Int)) ([⟨lev, a, red, l.fr, r.to, [pre.length + l.size - 1, pre.length + l.size + r.size - 1], up⟩] ++ post) r (pre.length + l.size + r.size - 1) ((pre.length + l.size + r.size : Nat) : Int) (by rw [hA])
    rw [hA] at e2
    rw [RT.beside]
    by_cases hp : p < l.to
    · rw [if_pos hp]
      have := RT.cover l pre (r.flat (pre.length + l.size) ((pre.length + l.size + r.size : Nat) : Int) ++ [⟨lev, a, red, l.fr, r.to, [pre.length + l.size - 1, pre.length + l.size + r.size - 1], up⟩] ++ post) ((pre.length + l.size + r.size : Nat) : Int) p k1 h1 hp i
      simp only [RT.flat, List.append_assoc] at this e2 ⊢
      rw [cov_append, cov_one e2, RT.node_fr, RT.node_to, ← Nat.add_assoc, this, ← k3]
      exact onI_add (by omega) (by omega) i
    · rw [if_neg hp]
      have := RT.cover r (pre ++ l.flat pre.length ((pre.length + l.size + r.size : Nat) : Int)) ([⟨lev, a, red, l.fr, r.to, [pre.length + l.size - 1, pre.length + l.size + r.size - 1], up⟩] ++ post) ((pre.length + l.size + r.size : Nat) : Int) p k2 (by omega) h2 i
      rw [hA] at this
      simp only [RT.flat, List.append_assoc] at this e1 ⊢
      rw [cov_append, cov_one e1, RT.node_fr, RT.node_to, ← Nat.add_assoc, this, Nat.add_comm, ← k3]
      exact onI_add (by omega) (by omega) i
  | .three lev a l m r, pre, post, up, p, ⟨k1, k2, k3, k4, k5⟩, h1, h2 => fun i => by
    simp only [RT.fr, RT.to] at h1 h2 ⊢
    have f1 := RT.fr_lt l k1
    have f2 := RT.fr_lt m k2
    have f3 := RT.fr_lt r k3
    generalize hU : ((pre.length + l.size + m.size + r.size : Nat) : Int) = U at *
    have hA : (pre ++ l.flat pre.length U).length = pre.length + l.size := by rw [List.length_append, RT.flat_len]
    have hB : (pre ++ l.flat pre.length U ++ m.flat (pre.length + l.size) U).length = pre.length + l.size + m.size := by rw [List.length_append, RT.flat_len, hA]
    generalize hX : (⟨lev, a, false, l.fr, r.to, [pre.length + l.size - 1, pre.length + l.size + m.size - 1, pre.length + l.size + m.size + r.size - 1], up⟩ : RN) = X at *
    have e1 := flat_end pre (m.flat (pre.length + l.size) U ++ r.flat (pre.length + l.size + m.size) U ++ [X] ++ post) l (pre.length + l.size - 1) U rfl
    have e2 := flat_end (pre ++ l.flat pre.length U) (r.flat (pre.length + l.size + m.size) U ++ [X] ++ post) m (pre.length + l.size + m.size - 1) U (by rw [hA])
    have e3 := flat_end (pre ++ l.flat pre.length U ++ m.flat (pre.length + l.size) U) ([X] ++ post) r (pre.length + l.size + m.size + r.size - 1) U (by rw [hB])
    rw [hA] at e2
    rw [hB] at e3
    have two : ∀ (L : List RN) (x y : Nat), cov L i [x, y] = cov L i [x] + cov L i [y] := fun L x y => cov_append L i [x] [y]
    rw [RT.beside]
    by_cases hp : p < l.to
    · rw [if_pos hp]
      have := RT.cover l pre (m.flat (pre.length + l.size) U ++ r.flat (pre.length + l.size + m.size) U ++ [X] ++ post) U p k1 h1 hp i
      simp only [RT.flat, List.append_assoc, hU, hX] at this e2 e3 ⊢
      rw [cov_append, two, cov_one e2, cov_one e3, RT.node_fr, RT.node_to, RT.node_fr, RT.node_to, ← Nat.add_assoc, this]
      have a1 := onI_add (a := l.fr) (b := l.to) (c := m.to) (by omega) (by omega) i
      have a2 := onI_add (a := l.fr) (b := m.to) (c := r.to) (by omega) (by omega) i
      rw [← k4, ← k5]
      omega
    · rw [if_neg hp]
      by_cases hp2 : p < m.to
      · rw [if_pos hp2]
        have := RT.cover m (pre ++ l.flat pre.length U) (r.flat (pre.length + l.size + m.size) U ++ [X] ++ post) U p k2 (by omega) hp2 i
        rw [hA] at this
        simp only [RT.flat, List.append_assoc, hU, hX] at this e1 e3 ⊢
        rw [cov_append, two, cov_one e1, cov_one e3, RT.node_fr, RT.node_to, RT.node_fr, RT.node_to, ← Nat.add_assoc, this]
        have a1 := onI_add (a := l.fr) (b := l.to) (c := m.to) (by omega) (by omega) i
        have a2 := onI_add (a := l.fr) (b := m.to) (c := r.to) (by omega) (by omega) i
        rw [← k4, ← k5]
        omega
      · rw [if_neg hp2]
        have := RT.cover r (pre ++ l.flat pre.length U ++ m.flat (pre.length + l.size) U) ([X] ++ post) U p k3 (by omega) h2 i
        rw [hB] at this
        simp only [RT.flat, List.append_assoc, hU, hX] at this e1 e2 ⊢
        rw [cov_append, two, cov_one e1, cov_one e2, RT.node_fr, RT.node_to, RT.node_fr, RT.node_to, ← Nat.add_assoc, this]
        have a1 := onI_add (a := l.fr) (b := l.to) (c := m.to) (by omega) (by omega) i
        have a2 := onI_add (a := l.fr) (b := m.to) (c := r.to) (by omega) (by omega) i
        rw [← k4, ← k5]
        omega

end Go.Proofs.YtlidhdljgnijaaaDoor

/-
  CONTRACT of the document's High (coterieref11).
-/
set_option linter.unusedVariables false
namespace Go.Proofs.YtlidhdljgnijaaaDoor
open Go.RowKit

/-- the longest way's length, less one -/
def highT (f : Int → Nat) (ids : List Int) : Int := ids.foldl (fun h id => max h ((f id : Int) - 1)) 0
theorem highT_snoc (f : Int → Nat) (ids : List Int) (id : Int) : highT f (ids ++ [id]) = max (highT f ids) ((f id : Int) - 1) := by rw [highT, List.foldl_append]; rfl
theorem highT_range (f : Int → Nat) (m : Nat) (hf : ∀ id, f id ≤ m) : ∀ ids : List Int, 0 ≤ highT f ids ∧ highT f ids ≤ m := by
  have aux : ∀ (ids : List Int) (h : Int), 0 ≤ h → h ≤ m → 0 ≤ ids.foldl (fun h id => max h ((f id : Int) - 1)) h ∧ ids.foldl (fun h id => max h ((f id : Int) - 1)) h ≤ m := by
    intro ids
    induction ids with
    | nil => intro h h0 h1; exact ⟨h0, h1⟩
    | cons id ids ih =>
      intro h h0 h1
      have := hf id
      exact ih _ (by simp only; omega) (by simp only; omega)
  exact fun ids => aux ids 0 (by omega) (by omega)
def highI (kind : Int) (ids : List Int) (ll : List (List Int)) : Int := if mayB kind ids ll = true then highT (fun id => (pathI kind ids ll id).length) ids else 0
def HighPost (w : World) (kind : Int) (ids : List Int) (ll : List (List Int)) (e : Ending) (w' : World) : Prop :=
  Below w.heap.size w w' ∧ e = .returned (.tuple #[.int .i64 (highI kind ids ll), .int .i64 (mayE kind ids ll)])
theorem pathI_len (kind : Int) (ids : List Int) (ll : List (List Int)) (id : Int) : (pathI kind ids ll id).length ≤ 2000 := by
  rw [pathI]
  split
  · exact Nat.le_trans (wayI_len _ _ _) (nodesU_len _ _ _)
  · simp

end Go.Proofs.YtlidhdljgnijaaaDoor

/-
  CONTRACT of the document's Beside (coterieref11).
-/
set_option linter.unusedVariables false
namespace Go.Proofs.YtlidhdljgnijaaaDoor
open Go.RowKit

def inT (path : List Nat) (k : Int) : Bool := path.any fun q => ((q : Nat) : Int) == k
def sideT (path : List Nat) (ks : List Int) : List Int := ks.filter fun k => !inT path k
def kidsAt (ns : List RI) (p : Nat) : List Int := (ns[p]?.map RI.kids).getD []
def besT (path : List Nat) (ns : List RI) (ps : List Nat) : List Int := (ps.map fun p => sideT path (kidsAt ns p)).flatten
theorem inT_snoc (l : List Nat) (q : Nat) (k : Int) : inT (l ++ [q]) k = (inT l k || ((q : Int) == k)) := by simp [inT]
theorem sideT_snoc (path : List Nat) (ks : List Int) (k : Int) : sideT path (ks ++ [k]) = sideT path ks ++ (if inT path k = true then [] else [k]) := by
  rw [sideT, sideT, List.filter_append]
  cases h : inT path k <;> simp [h]
theorem besT_snoc (path : List Nat) (ns : List RI) (ps : List Nat) (p : Nat) : besT path ns (ps ++ [p]) = besT path ns ps ++ sideT path (kidsAt ns p) := by simp [besT]
theorem wayI_lt (p : Int) : ∀ (i : Nat) (l : List RI), ∀ k ∈ wayI p i l, k < i + l.length
  | _, [] => by simp [wayI]
  | i, x :: l => fun k hk => by
    have ih := wayI_lt p (i + 1) l
    rw [wayI] at hk
    rw [List.length_cons]
    split at hk
    · rcases List.mem_cons.1 hk with rfl | hk
      · omega
      · have := ih k hk; omega
    · have := ih k hk; omega
theorem RT.kids3 : ∀ (T : RT) (off : Nat) (up : Int), ∀ x ∈ T.flat off up, x.kids.length ≤ 3
  | .leaf a, off, up => fun x hx => by
    simp only [RT.flat, List.mem_singleton] at hx
    subst hx
    simp
  | .two lev a red l r, off, up => fun x hx => by
    simp only [RT.flat, List.mem_append, List.mem_singleton] at hx
    rcases hx with (hx | hx) | hx
    · exact RT.kids3 l _ _ x hx
    · exact RT.kids3 r _ _ x hx
    · subst hx; simp
  | .three lev a l m r, off, up => fun x hx => by
    simp only [RT.flat, List.mem_append, List.mem_singleton] at hx
    rcases hx with ((hx | hx) | hx) | hx
    · exact RT.kids3 l _ _ x hx
    · exact RT.kids3 m _ _ x hx
    · exact RT.kids3 r _ _ x hx
    · subst hx; simp
theorem nodesI_kids (kind : Int) (ids : List Int) (ll : List (List Int)) : ∀ x ∈ nodesI kind ids ll, x.kids.length ≤ 3 := by
  intro x hx
  rw [nodesI] at hx
  split at hx
  · obtain ⟨y, hy, rfl⟩ := List.mem_map.1 hx
    rw [nodesU] at hy
    split at hy
    · simp at hy
    · have := RT.kids3 _ _ _ y hy
      simpa [RN.i, castL_len] using this
  · simp at hx
def besI (kind : Int) (ids : List Int) (ll : List (List Int)) (id : Int) : List Int := besT (pathI kind ids ll id) (nodesI kind ids ll) (pathI kind ids ll id)
def BesPost (w : World) (kind : Int) (ids : List Int) (ll : List (List Int)) (id : Int) (e : Ending) (w' : World) : Prop :=
  Below w.heap.size w w' ∧ ∃ A n c, e = .returned (.tuple #[.slice A n c, .int .i64 (pathE kind ids ll id)]) ∧ n ≤ c ∧ c ≤ maxLen ∧ Rd w' w'.heap.size A n ((besI kind ids ll id).map iv)
theorem pathI_lt (kind : Int) (ids : List Int) (ll : List (List Int)) (id : Int) : ∀ k ∈ pathI kind ids ll id, k < (nodesI kind ids ll).length := by
  intro k hk
  rw [pathI] at hk
  split at hk
  · have := wayI_lt _ _ _ k hk
    omega
  · simp at hk
theorem pathE_ne {kind : Int} {ids : List Int} {ll : List (List Int)} {id : Int} (h : ¬ pathE kind ids ll id = 0) : pathI kind ids ll id = [] := by
  rw [pathE] at h
  rw [pathI]
  split at h
  · split at h
    · simp at h
    · rename_i h2
      rw [if_neg (fun e => h2 e.2)]
  · rename_i h1
    rw [if_neg (fun e => h1 e.1)]

end Go.Proofs.YtlidhdljgnijaaaDoor

/-
  NODES OF A TREE (layer 11): what the document's answers are of a tree that may be: pure facts.
-/
set_option linter.unusedVariables false
namespace Go.Proofs.YtlidhdljgnijaaaDoor

theorem castL_iv (l : List Nat) : (castL l).map iv = kidV l := by simp [castL, kidV]
theorem wideN_top : ∀ (lv : List (List Nat)) (many : Nat), lvOK many lv → wideN many lv lv.length ≤ 1
  | [], many, h => h
  | [l], many, ⟨_, _, _, h⟩ => by simpa [wideN, lvOK] using h
  | l :: m :: ls, many, ⟨_, _, _, h⟩ => by
    have := wideN_top (m :: ls) l.length h
    simpa [wideN] using this
theorem leafS_zero (lv : List (List Nat)) : ∀ k, leafS lv k 0 = 0
  | 0 => rfl
  | k + 1 => by rw [leafS, startT_zero, leafS_zero lv k]
theorem leafS_all {many : Nat} {lv : List (List Nat)} (hs : lvSum many lv) : ∀ k, k ≤ lv.length → leafS lv k (wideN many lv k) = many
  | 0, _ => rfl
  | k + 1, hk => by
    have hl : lv[k]? = some lv[k] := List.getElem?_eq_getElem (by omega)
    rw [leafS, wideN, getD_at hl, startT_all, wideN_sum hs hl]
    exact leafS_all hs k (by omega)
/-- a tree that may be, and has members -/
structure TopF (kind : Int) (ids : List Int) (ll : List (List Int)) (T : RT) : Prop where
  k12 : kind = 1 ∨ kind = 2
  ok : T.ok
  good : T.good kind
  fr : T.fr = 0
  to_ : T.to = ids.length
  nodes : nodesI kind ids ll = (T.flat 0 (-1)).map RN.i
  size : T.size + 1 ≤ 2 * ids.length
  n : ids.length ≤ 1000
  high : T.high ≤ if kind = 2 then 2 * (lvN ll).length else (lvN ll).length
  pow : 2 ^ (lvN ll).length ≤ ids.length
  rise : ids.Pairwise (· < ·)
theorem top_facts {kind : Int} {ids : List Int} {ll : List (List Int)} (hm : mayB kind ids ll = true) (h0 : 0 < ids.length) : TopF kind ids ll (treeOf kind (lvN ll) (lvN ll).length 0) := by
  have hm' := hm
  rw [mayB, Bool.and_eq_true] at hm'
  have hk : kind = 1 ∨ kind = 2 := by simpa using hm'.1
  obtain ⟨h1, h2, h3, _⟩ := chkT_lv hm'.2
  have hs := lvOK_sum _ _ h3
  have hw0 := wideN_pos hs h0 _ (Nat.le_refl _)
  have hw1 := wideN_top _ _ h3
  obtain ⟨o1, o2, o3⟩ := treeOf_ok (kind := kind) hs _ 0 (Nat.le_refl _) hw0
  refine ⟨hk, o1, treeOf_good _ _ _ _, by rw [o2, leafS_zero], ?_, ?_, treeOf_size hs (Nat.le_refl _) hw0, h1, treeOf_high _ _ _ _, lvOK_high _ _ h3 h0, okI_rise _ h2⟩
  · rw [o3, show 0 + 1 = wideN ids.length (lvN ll) (lvN ll).length by omega]
    exact leafS_all hs _ (Nat.le_refl _)
  · rw [nodesI, if_pos hm, nodesU, if_neg (by omega)]
theorem path_top {kind : Int} {ids : List Int} {ll : List (List Int)} {id : Int} {T : RT} (hT : TopF kind ids ll T) (hm : mayB kind ids ll = true) (hi : isT ids id = true) : pathI kind ids ll id = T.path 0 (belT ids id) ∧ belT ids id < ids.length := by
  obtain ⟨hb, _⟩ := rise_bel ids id hT.rise hi
  refine ⟨?_, hb⟩
  rw [pathI, if_pos ⟨hm, hi⟩, hT.nodes, wayI_of]
  exact RT.way T 0 (-1) _ hT.ok (by rw [hT.fr]; omega) (by rw [hT.to_]; exact hb)
theorem bel_get {ids : List Int} (hr : ids.Pairwise (· < ·)) {p : Nat} (hp : p < ids.length) : isT ids ids[p] = true ∧ belT ids ids[p] = p := by
  have hi : isT ids ids[p] = true := by
    rw [isT, List.any_eq_true]
    exact ⟨_, List.getElem_mem hp, by simp⟩
  obtain ⟨hb, e⟩ := rise_bel ids ids[p] hr hi
  refine ⟨hi, ?_⟩
  rw [List.pairwise_iff_getElem] at hr
  rcases Nat.lt_trichotomy (belT ids ids[p]) p with h | h | h
  · have := hr _ _ hb hp h; omega
  · exact h
  · have := hr _ _ hp hb h; omega
/-- a way up: its leaf is the first one, and each has the next one above -/
structure WayF (ns : List RN) (p : Nat) (P : List Nat) : Prop where
  chain : chainP ns P (-1)
  first : ∃ a t x, P = a :: t ∧ ns[a]? = some x ∧ x.lev = 0 ∧ x.at_ = p ∧ x.kids = [] ∧ ∀ (i : Nat) (y : RN), i < a → ns[i]? = some y → ¬ (y.lev = 0 ∧ y.at_ = p)
  rise : P.Pairwise (· < ·)
  last : P.getLast? = some (ns.length - 1)
  has : ∀ k ∈ P, ∃ y, ns[k]? = some y ∧ hasP p y = true
theorem way_top {kind : Int} {ids : List Int} {ll : List (List Int)} {T : RT} (hT : TopF kind ids ll T) {p : Nat} (hp : p < ids.length) : WayF (T.flat 0 (-1)) p (T.path 0 p) := by
  have h1 : T.fr ≤ p := by rw [hT.fr]; omega
  have h2 : p < T.to := by rw [hT.to_]; exact hp
  have hw := RT.way T 0 (-1) p hT.ok h1 h2
  have hc := RT.chain T [] [] (-1) p hT.ok h1 h2
  obtain ⟨a, t, x, e1, e2, e3, e4, e5⟩ := RT.path_leaf T [] [] (-1) p hT.ok h1 h2
  have hk := fun q y => RT.kid_ok T [] [] (-1) hT.good hT.ok q y
  have hl := RT.path_last T 0 p
  simp only [List.length_nil, List.nil_append, List.append_nil, Nat.zero_add] at hc e1 e2 hk hl
  refine ⟨hc, ⟨a, t, x, e1, e2, e3, e4, e5, fun i y hi hy hb => ?_⟩, by rw [← hw]; exact way_rise _ _ _, by rw [RT.flat_len]; exact hl, fun k hk' => ?_⟩
  · have hmin := way_min p 0 _ a t (hw.trans e1) i y hy (by omega)
    have hlt : i < T.size := by rw [← RT.flat_len T 0 (-1)]; exact (List.getElem?_eq_some_iff.1 hy).1
    have h3 := (hk i y (by omega) (by omega) hy).2.2.1 hb.1
    simp only [hasP, Bool.and_eq_false_iff, decide_eq_false_iff_not] at hmin
    omega
  · rw [← hw] at hk'
    obtain ⟨_, y, h3, h4⟩ := way_mem p 0 _ k hk'
    exact ⟨y, by simpa using h3, h4⟩

theorem highT_le (f : Int → Nat) (m : Int) (hm : 0 ≤ m) (ids : List Int) (h : ∀ id ∈ ids, (f id : Int) - 1 ≤ m) : highT f ids ≤ m := by
  have aux : ∀ (ids : List Int) (h0 : Int), h0 ≤ m → (∀ id ∈ ids, (f id : Int) - 1 ≤ m) → ids.foldl (fun h id => max h ((f id : Int) - 1)) h0 ≤ m := by
    intro ids
    induction ids with
    | nil => intro h0 h1 _; exact h1
    | cons id ids ih =>
      intro h0 h1 h2
      exact ih _ (by have := h2 id (by simp); simp only; omega) (fun x hx => h2 x (by simp [hx]))
  exact aux ids 0 hm h
theorem highT_ge (f : Int → Nat) (ids : List Int) {id : Int} (h : id ∈ ids) : (f id : Int) - 1 ≤ highT f ids := by
  have mono : ∀ (ids : List Int) (h0 : Int), h0 ≤ ids.foldl (fun h id => max h ((f id : Int) - 1)) h0 := by
    intro ids
    induction ids with
    | nil => intro h0; exact Int.le_refl _
    | cons id ids ih => intro h0; exact Int.le_trans (by simp only; omega) (ih _)
  have aux : ∀ (ids : List Int) (h0 : Int), id ∈ ids → (f id : Int) - 1 ≤ ids.foldl (fun h id => max h ((f id : Int) - 1)) h0 := by
    intro ids
    induction ids with
    | nil => intro h0 hm; simp at hm
    | cons x ids ih =>
      intro h0 hm
      rcases List.mem_cons.1 hm with rfl | hm
      · exact Int.le_trans (by simp only; omega) (mono ids _)
      · exact ih _ hm
  exact aux ids 0 h
theorem high_top {kind : Int} {ids : List Int} {ll : List (List Int)} {T : RT} (hT : TopF kind ids ll T) (hm : mayB kind ids ll = true) : highI kind ids ll = (T.high : Int) := by
  rw [highI, if_pos hm]
  apply Int.le_antisymm
  · refine highT_le _ _ (by omega) ids fun id hid => ?_
    have hi : isT ids id = true := by
      rw [isT, List.any_eq_true]
      exact ⟨_, hid, by simp⟩
    rw [(path_top hT hm hi).1]
    have := (RT.path_len T 0 (belT ids id)).1
    omega
  · obtain ⟨p, h1, h2, h3⟩ := RT.high_ex T 0 hT.ok
    rw [hT.to_] at h2
    obtain ⟨b1, b2⟩ := bel_get hT.rise h2
    have := highT_ge (fun id => (pathI kind ids ll id).length) ids (List.getElem_mem h2)
    rw [(path_top hT hm b1).1, b2, h3] at this
    omega

theorem sideT_cast (P ks : List Nat) : sideT P (castL ks) = castL (ks.filter fun k => !inT P (k : Int)) := by
  induction ks with
  | nil => rfl
  | cons k ks ih =>
    have e : castL (k :: ks) = (k : Int) :: castL ks := rfl
    rw [e, sideT, List.filter_cons, ← sideT, ih, List.filter_cons]
    cases h : inT P (k : Int)
    · simp only [Bool.not_false, if_true]; rfl
    · simp
theorem inT_mem {P : List Nat} {k : Nat} : inT P (k : Int) = true ↔ k ∈ P := by
  rw [inT, List.any_eq_true]
  constructor
  · rintro ⟨q, h1, h2⟩
    have h3 : (q : Int) = (k : Int) := by simpa using h2
    have : q = k := by omega
    rw [← this]; exact h1
  · exact fun h => ⟨k, h, by simp⟩
theorem kidsAt_i (ns : List RN) (q : Nat) : kidsAt (ns.map RN.i) q = castL (kidsN ns q) := by
  rw [kidsAt, kidsN, List.getElem?_map]
  cases ns[q]? <;> rfl
/-- what is not in the way, of what is below its nodes, is what is beside it -/
theorem bes_tie {ns : List RN} {p : Nat} {P : List Nat} (hW : WayF ns p P) (hk : ∀ (q : Nat) (x : RN), ns[q]? = some x → nodeKid ns q x) : besT P (ns.map RN.i) P = castL (besP ns P) := by
  have hr := hW.rise
  rw [List.pairwise_iff_getElem] at hr
  have key : ∀ (pre : List Nat) (x y : Nat) (l : List Nat), P = pre ++ x :: y :: l → sideT P (kidsAt (ns.map RN.i) y) = castL ((kidsN ns y).filter fun k => k != x) := by
    intro pre x y l hP
    rw [kidsAt_i, sideT_cast]
    congr 1
    apply List.filter_congr
    intro k hkm
    have hxm : x ∈ P := by rw [hP]; simp
    have hym : y ∈ P := by rw [hP]; simp
    obtain ⟨z, hz, _⟩ := hW.has y hym
    rw [kids_at hz] at hkm
    obtain ⟨v, hv1, hv2⟩ := (hk y z hz).2.1 k hkm
    by_cases hkx : k = x
    · subst hkx
      rw [inT_mem.2 hxm]
      simp
    · have : ¬ k ∈ P := by
        intro hkP
        obtain ⟨j, hj, rfl⟩ := List.mem_iff_getElem.1 hkP
        obtain ⟨v', hv3, hv4⟩ := chainP_at ns (-1) P j hW.chain hj
        rw [hv1] at hv3
        have hvv := Option.some.inj hv3
        subst hvv
        rw [hv2] at hv4
        have hj1 : j + 1 < P.length := by
          rcases Nat.lt_or_ge (j + 1) P.length with h | h
          · exact h
          · rw [List.drop_eq_nil_of_le h] at hv4
            simp only [nextU] at hv4
            omega
        rw [List.drop_eq_getElem_cons hj1] at hv4
        simp only [nextU] at hv4
        have e1 : P[j + 1] = y := by omega
        have hpl : pre.length + 1 < P.length := by rw [hP]; simp
        have e2 : P[pre.length + 1] = y := by
          have : P[pre.length + 1]? = some y := by
            rw [hP, List.getElem?_append_right (by omega)]
            simp
          rw [List.getElem?_eq_getElem hpl] at this
          exact Option.some.inj this
        have e3 : j = pre.length := by
          rcases Nat.lt_trichotomy (j + 1) (pre.length + 1) with h | h | h
          · have := hr _ _ hj1 hpl h; omega
          · omega
          · have := hr _ _ hpl hj1 h; omega
        subst e3
        have e4 : P[pre.length]? = some x := by
          rw [hP, List.getElem?_append_right (Nat.le_refl _), Nat.sub_self]
          rfl
        rw [List.getElem?_eq_getElem hj] at e4
        exact hkx (Option.some.inj e4)
      have e : inT P (k : Int) = false := by
        rw [Bool.eq_false_iff]
        exact fun h => this (inT_mem.1 h)
      rw [e]
      simp [hkx]
  have step : ∀ (l pre : List Nat) (x : Nat), P = pre ++ x :: l → (l.map fun q => sideT P (kidsAt (ns.map RN.i) q)).flatten = castL (besP ns (x :: l)) := by
    intro l
    induction l with
    | nil => intro pre x _; rfl
    | cons y l ih =>
      intro pre x hP
      rw [List.map_cons, List.flatten_cons, key pre x y l hP, ih (pre ++ [x]) y (by rw [hP]; simp), besP_two]
      simp [castL]
  obtain ⟨a, t, x, e1, e2, _, _, e5, _⟩ := hW.first
  have h0 : sideT P (kidsAt (ns.map RN.i) a) = [] := by rw [kidsAt_i, kids_at e2, e5]; rfl
  have := step t [] a e1
  unfold besT
  have hh : (P.map fun p => sideT P (kidsAt (ns.map RN.i) p)) = ((a :: t).map fun p => sideT P (kidsAt (ns.map RN.i) p)) := by rw [← e1]
  rw [hh, List.map_cons, List.flatten_cons, h0, List.nil_append, this, ← e1]
theorem kid_top {kind : Int} {ids : List Int} {ll : List (List Int)} {T : RT} (hT : TopF kind ids ll T) : ∀ (q : Nat) (x : RN), (T.flat 0 (-1))[q]? = some x → nodeKid (T.flat 0 (-1)) q x := fun q x hx => by
  have hlt : q < T.size := by rw [← RT.flat_len T 0 (-1)]; exact (List.getElem?_eq_some_iff.1 hx).1
  have := RT.kid_ok T [] [] (-1) hT.good hT.ok q x
  simp only [List.length_nil, List.nil_append, List.append_nil, Nat.zero_add] at this
  exact this (by omega) hlt hx
theorem bes_top {kind : Int} {ids : List Int} {ll : List (List Int)} {id : Int} {T : RT} (hT : TopF kind ids ll T) (hm : mayB kind ids ll = true) (hi : isT ids id = true) : besI kind ids ll id = castL (besP (T.flat 0 (-1)) (T.path 0 (belT ids id))) := by
  obtain ⟨h1, h2⟩ := path_top hT hm hi
  rw [besI, h1, hT.nodes]
  exact bes_tie (way_top hT h2) (kid_top hT)

end Go.Proofs.YtlidhdljgnijaaaDoor

