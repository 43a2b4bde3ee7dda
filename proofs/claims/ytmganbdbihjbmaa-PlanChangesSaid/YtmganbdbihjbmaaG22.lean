import Derived.Test.YtmganbdbihjbmaaG20
import Derived.Test.YtmganbdbihjbmaaG21
/-
  JOINS OF TREES OF NODES (layer 11): what the document's join leaves of two trees, and of three.
-/
set_option linter.unusedVariables false
namespace Go.Proofs.Ytmganbdbihjbmaa
open Go.RowKit

theorem upN_mid (A C : List RN) (x : RN) (up : Int) : upN (A ++ x :: C) A.length up = A ++ { x with up := up } :: C := by
  rw [← upN_set (x := x) (by rw [List.getElem?_append_right (Nat.le_refl _), Nat.sub_self]; rfl), List.set_append_right _ _ (Nat.le_refl _), Nat.sub_self]
  rfl
theorem up_flat (A C : List RN) (T : RT) (k : Nat) (up : Int) (hk : k = A.length + T.size - 1) : upN (A ++ T.flat A.length (-1) ++ C) k up = A ++ T.flat A.length up ++ C := by
  have hl := T.init_len A.length
  have e : k = (A ++ T.init A.length).length := by rw [List.length_append]; omega
  rw [T.flat_split, T.flat_split _ up, ← List.append_assoc, ← List.append_assoc, List.append_assoc _ _ C, List.append_assoc _ _ C, List.singleton_append, List.singleton_append, e, upN_mid, T.node_up]
theorem flat_end (A C : List RN) (T : RT) (k : Nat) (up : Int) (hk : k = A.length + T.size - 1) : (A ++ T.flat A.length up ++ C)[k]? = some (T.node A.length up) := by
  have hl := T.init_len A.length
  have e : k = (A ++ T.init A.length).length := by rw [List.length_append]; omega
  rw [T.flat_split, ← List.append_assoc, List.append_assoc _ _ C, List.singleton_append, e, List.getElem?_append_right (Nat.le_refl _), Nat.sub_self]
  rfl
/-- the nodes of some trees, one behind the other; their places -/
def flats : List RT → Nat → List RN
  | [], _ => []
  | T :: Ts, off => T.flat off (-1) ++ flats Ts (off + T.size)
def ends : List RT → Nat → List Nat
  | [], _ => []
  | T :: Ts, off => (off + T.size - 1) :: ends Ts (off + T.size)
def sizes : List RT → Nat
  | [] => 0
  | T :: Ts => T.size + sizes Ts
theorem flats_len : ∀ (Ts : List RT) (off : Nat), (flats Ts off).length = sizes Ts
  | [], _ => rfl
  | T :: Ts, off => by rw [flats, List.length_append, RT.flat_len, flats_len Ts, sizes]
theorem ends_len : ∀ (Ts : List RT) (off : Nat), (ends Ts off).length = Ts.length
  | [], _ => rfl
  | T :: Ts, off => by rw [ends, List.length_cons, ends_len Ts, List.length_cons]
theorem flats_snoc : ∀ (Ts : List RT) (T : RT) (off : Nat), flats (Ts ++ [T]) off = flats Ts off ++ T.flat (off + sizes Ts) (-1)
  | [], T, off => by simp [flats, sizes]
  | U :: Ts, T, off => by simp only [List.cons_append, flats, flats_snoc Ts, sizes, List.append_assoc, Nat.add_assoc]
theorem ends_snoc : ∀ (Ts : List RT) (T : RT) (off : Nat), ends (Ts ++ [T]) off = ends Ts off ++ [off + sizes Ts + T.size - 1]
  | [], T, off => by simp [ends, sizes]
  | U :: Ts, T, off => by simp only [List.cons_append, ends, ends_snoc Ts, sizes, Nat.add_assoc]
theorem sizes_snoc : ∀ (Ts : List RT) (T : RT), sizes (Ts ++ [T]) = sizes Ts + T.size
  | [], T => by simp [sizes]
  | U :: Ts, T => by simp only [List.cons_append, sizes, sizes_snoc Ts, Nat.add_assoc]
theorem join_two (ns : List RN) (lev a : Nat) (red : Bool) (l r : RT) :
    upAll (ns ++ flats [l, r] ns.length ++ [⟨lev, a, red, l.fr, r.to, ends [l, r] ns.length, -1⟩]) (ends [l, r] ns.length) ((ns.length + sizes [l, r] : Nat) : Int) = ns ++ (RT.two lev a red l r).flat ns.length (-1) := by
  simp only [flats, ends, sizes, upAll, List.foldl_cons, List.foldl_nil, RT.flat, List.append_nil, Nat.add_zero, ← Nat.add_assoc]
  have e1 := up_flat ns (r.flat (ns.length + l.size) (-1) ++ [⟨lev, a, red, l.fr, r.to, [ns.length + l.size - 1, ns.length + l.size + r.size - 1], -1⟩]) l (ns.length + l.size - 1) ((ns.length + l.size + r.size : Nat) : Int) rfl
  have hA : (ns ++ l.flat ns.length ((ns.length + l.size + r.size : Nat) : Int)).length = ns.length + l.size := by rw [List.length_append, RT.flat_len]
  have e2 := up_flat (ns ++ l.flat ns.length ((ns.length + l.size + r.size : Nat) : Int)) [⟨lev, a, red, l.fr, r.to, [ns.length + l.size - 1, ns.length + l.size + r.size - 1], -1⟩] r (ns.length + l.size + r.size - 1) ((ns.length + l.size + r.size : Nat) : Int) (by rw [hA])
  rw [hA] at e2
  simp only [List.append_assoc] at e1 e2 ⊢
  rw [e1, e2]
theorem join_three (ns : List RN) (lev a : Nat) (l m r : RT) :
    upAll (ns ++ flats [l, m, r] ns.length ++ [⟨lev, a, false, l.fr, r.to, ends [l, m, r] ns.length, -1⟩]) (ends [l, m, r] ns.length) ((ns.length + sizes [l, m, r] : Nat) : Int) = ns ++ (RT.three lev a l m r).flat ns.length (-1) := by
  simp only [flats, ends, sizes, upAll, List.foldl_cons, List.foldl_nil, RT.flat, List.append_nil, Nat.add_zero, ← Nat.add_assoc]
  generalize hU : ((ns.length + l.size + m.size + r.size : Nat) : Int) = U
  generalize hX : (⟨lev, a, false, l.fr, r.to, [ns.length + l.size - 1, ns.length + l.size + m.size - 1, ns.length + l.size + m.size + r.size - 1], -1⟩ : RN) = X
  have e1 := up_flat ns (m.flat (ns.length + l.size) (-1) ++ (r.flat (ns.length + l.size + m.size) (-1) ++ [X])) l (ns.length + l.size - 1) U rfl
  have hA : (ns ++ l.flat ns.length U).length = ns.length + l.size := by rw [List.length_append, RT.flat_len]
  have e2 := up_flat (ns ++ l.flat ns.length U) (r.flat (ns.length + l.size + m.size) (-1) ++ [X]) m (ns.length + l.size + m.size - 1) U (by rw [hA])
  have hB : (ns ++ l.flat ns.length U ++ m.flat (ns.length + l.size) U).length = ns.length + l.size + m.size := by rw [List.length_append, RT.flat_len, hA]
  have e3 := up_flat (ns ++ l.flat ns.length U ++ m.flat (ns.length + l.size) U) [X] r (ns.length + l.size + m.size + r.size - 1) U (by rw [hB])
  rw [hA] at e2
  rw [hB] at e3
  simp only [List.append_assoc] at e1 e2 e3 ⊢
  rw [e1, e2, e3]
/-- what a call leaves that adds a tree of nodes -/
def AddPost (base : Nat) (w : World) (v : Value) (ns : List RN) (us : List Value) (K : Value → Prop) (T : RT) (n : Nat) (e : Ending) (w' : World) : Prop :=
  ∃ v' us', e = .returned (.tuple #[v', .int .i64 (n : Nat)]) ∧ OwR base w' v' (ns ++ T.flat ns.length (-1)) us' ∧ w.grownBy w' v.ownBlock ∧ (v'.ownBlock = v.ownBlock ∨ ∃ y, v'.ownBlock = some y ∧ w.heap.size ≤ y) ∧ ∀ u ∈ us', u ∈ us ∨ K u
/-- a tree whose last nodes' kids are these trees -/
def joinT (lev a : Nat) (red : Bool) : List RT → RT
  | [l, r] => .two lev a red l r
  | [l, m, r] => .three lev a l m r
  | _ => .leaf a
end Go.Proofs.Ytmganbdbihjbmaa

/-
  NODES OF A TREE (layer 11): what RedHeight asks of each node, as pure facts.
-/
set_option linter.unusedVariables false
namespace Go.Proofs.Ytmganbdbihjbmaa

/-- as many leaves are told as there are -/
theorem RT.leaves {kind : Int} : ∀ (T : RT) (off : Nat) (up : Int), T.good kind → (T.flat off up).countP (fun x => x.lev == 0) = T.lvs
  | .leaf a, off, up, _ => by simp [RT.flat, RT.lvs]
  | .two lev a red l r, off, up, ⟨h1, h2, h3, _⟩ => by
    have h0 : (lev == 0) = false := by simp; omega
    simp only [RT.flat, List.countP_append, RT.leaves l _ _ h1, RT.leaves r _ _ h2, RT.lvs, List.countP_cons, List.countP_nil, h0]
    simp
  | .three lev a l m r, off, up, ⟨h1, h2, h3, h4, _⟩ => by
    have h0 : (lev == 0) = false := by simp; omega
    simp only [RT.flat, List.countP_append, RT.leaves l _ _ h1, RT.leaves m _ _ h2, RT.leaves r _ _ h3, RT.lvs, List.countP_cons, List.countP_nil, h0]
    simp
theorem RT.node_red (T : RT) (off : Nat) (up : Int) : (T.node off up).red = T.isRed := by cases T <;> rfl
/-- a node's form, and its kids' -/
def nodeOK (kind : Int) (L : List RN) (x : RN) : Prop :=
  x.kids.length ≠ 1 ∧ (x.kids.length : Int) ≤ 4 - kind ∧ (x.kids.length = 0 ↔ x.lev = 0) ∧ (x.red = true → kind = 2 ∧ x.lev ≠ 0) ∧
  ∀ (i k : Nat), x.kids[i]? = some k → ∃ y, L[k]? = some y ∧ (y.red = true → x.red = false ∧ i = 0)
theorem RT.nodes_ok {kind : Int} (hk : kind = 1 ∨ kind = 2) : ∀ (T : RT) (pre post : List RN) (up : Int), T.good kind → ∀ x ∈ T.flat pre.length up, nodeOK kind (pre ++ T.flat pre.length up ++ post) x
  | .leaf a, pre, post, up, _ => fun x hx => by
    simp only [RT.flat, List.mem_singleton] at hx
    subst hx
    refine ⟨by simp, ?_, by simp, fun h => by simp at h, fun i k h => by simp at h⟩
    simp only [List.length_nil]
    omega
  | .two lev a red l r, pre, post, up, ⟨h1, h2, h3, h4, h5, h6⟩ => fun x hx => by
    have hA : (pre ++ l.flat pre.length ((pre.length + l.size + r.size : Nat) : Int)).length = pre.length + l.size := by rw [List.length_append, RT.flat_len]
    have p1 := l.size_pos
    have p2 := r.size_pos
    simp only [RT.flat, List.mem_append, List.mem_singleton] at hx
    rcases hx with (hx | hx) | hx
    · have := RT.nodes_ok hk l pre (r.flat (pre.length + l.size) ((pre.length + l.size + r.size : Nat) : Int) ++ [⟨lev, a, red, l.fr, r.to, [pre.length + l.size - 1, pre.length + l.size + r.size - 1], up⟩] ++ post) _ h1 x hx
      simpa only [RT.flat, List.append_assoc] using this
    · have := RT.nodes_ok hk r (pre ++ l.flat pre.length ((pre.length + l.size + r.size : Nat) : Int)) ([⟨lev, a, red, l.fr, r.to, [pre.length + l.size - 1, pre.length + l.size + r.size - 1], up⟩] ++ post) ((pre.length + l.size + r.size : Nat) : Int) h2 x (by rw [hA]; exact hx)
      rw [hA] at this
      simpa only [RT.flat, List.append_assoc] using this
    · subst hx
      refine ⟨by simp, by simp only [List.length_cons, List.length_nil]; omega, by simp; omega, fun h => ⟨h6 h, Nat.ne_of_gt h3⟩, fun i k h => ?_⟩
      have e1 := flat_end pre (r.flat (pre.length + l.size) ((pre.length + l.size + r.size : Nat) : Int) ++ [⟨lev, a, red, l.fr, r.to, [pre.length + l.size - 1, pre.length + l.size + r.size - 1], up⟩] ++ post) l (pre.length + l.size - 1) ((pre.length + l.size + r.size : Nat) : Int) rfl
      have e2 := flat_end (pre ++ l.flat pre.length ((pre.length + l.size + r.size : Nat) : Int)) ([⟨lev, a, red, l.fr, r.to, [pre.length + l.size - 1, pre.length + l.size + r.size - 1], up⟩] ++ post) r (pre.length + l.size + r.size - 1) ((pre.length + l.size + r.size : Nat) : Int) (by rw [hA])
      rw [hA] at e2
      simp only [RT.flat, List.append_assoc] at e1 e2 ⊢
      match i, h with
      | 0, h =>
        simp at h
        subst h
        exact ⟨_, e1, fun h => ⟨h5 (by rw [← RT.node_red]; exact h), rfl⟩⟩
      | 1, h =>
        simp at h
        subst h
        exact ⟨_, e2, fun h => (by rw [RT.node_red, h4] at h; cases h)⟩
      | i + 2, h => simp at h
  | .three lev a l m r, pre, post, up, ⟨h1, h2, h3, h4, h5, h6, h7, h8⟩ => fun x hx => by
    generalize hU : ((pre.length + l.size + m.size + r.size : Nat) : Int) = U at *
    have hA : (pre ++ l.flat pre.length U).length = pre.length + l.size := by rw [List.length_append, RT.flat_len]
    have hB : (pre ++ l.flat pre.length U ++ m.flat (pre.length + l.size) U).length = pre.length + l.size + m.size := by rw [List.length_append, RT.flat_len, hA]
    have p1 := l.size_pos
    have p2 := m.size_pos
    have p3 := r.size_pos
    simp only [RT.flat, List.mem_append, List.mem_singleton, hU] at hx
    generalize hX : (⟨lev, a, false, l.fr, r.to, [pre.length + l.size - 1, pre.length + l.size + m.size - 1, pre.length + l.size + m.size + r.size - 1], up⟩ : RN) = X at *
    have hfl : (RT.three lev a l m r).flat pre.length up = l.flat pre.length U ++ m.flat (pre.length + l.size) U ++ r.flat (pre.length + l.size + m.size) U ++ [X] := by rw [RT.flat, hU, hX]
    rw [hfl]
    rcases hx with ((hx | hx) | hx) | hx
    · have := RT.nodes_ok hk l pre (m.flat (pre.length + l.size) U ++ r.flat (pre.length + l.size + m.size) U ++ [X] ++ post) _ h1 x hx
      simpa only [List.append_assoc] using this
    · have := RT.nodes_ok hk m (pre ++ l.flat pre.length U) (r.flat (pre.length + l.size + m.size) U ++ [X] ++ post) U h2 x (by rw [hA]; exact hx)
      rw [hA] at this
      simpa only [List.append_assoc] using this
    · have := RT.nodes_ok hk r (pre ++ l.flat pre.length U ++ m.flat (pre.length + l.size) U) ([X] ++ post) U h3 x (by rw [hB]; exact hx)
      rw [hB] at this
      simpa only [List.append_assoc] using this
    · subst hx
      have e1 := flat_end pre (m.flat (pre.length + l.size) U ++ r.flat (pre.length + l.size + m.size) U ++ [x] ++ post) l (pre.length + l.size - 1) U rfl
      have e2 := flat_end (pre ++ l.flat pre.length U) (r.flat (pre.length + l.size + m.size) U ++ [x] ++ post) m (pre.length + l.size + m.size - 1) U (by rw [hA])
      have e3 := flat_end (pre ++ l.flat pre.length U ++ m.flat (pre.length + l.size) U) ([x] ++ post) r (pre.length + l.size + m.size + r.size - 1) U (by rw [hB])
      rw [hA] at e2
      rw [hB] at e3
      simp only [List.append_assoc] at e1 e2 e3 ⊢
      have hk1 : kind = 1 := hk.resolve_right h8
      have f1 : x.kids.length = 3 := by rw [← hX]; rfl
      have f2 : x.lev = lev := by rw [← hX]
      have f3 : x.red = false := by rw [← hX]
      refine ⟨by omega, by rw [f1, hk1]; decide, ⟨fun h => by omega, fun h => by omega⟩, fun h => (by rw [f3] at h; cases h), fun i k h => ?_⟩
      rw [← hX] at h
      match i, h with
      | 0, h =>
        simp at h
        subst h
        exact ⟨_, e1, fun h => (by rw [RT.node_red, h5] at h; cases h)⟩
      | 1, h =>
        simp at h
        subst h
        exact ⟨_, e2, fun h => (by rw [RT.node_red, h6] at h; cases h)⟩
      | 2, h =>
        simp at h
        subst h
        exact ⟨_, e3, fun h => (by rw [RT.node_red, h7] at h; cases h)⟩
      | i + 3, h => simp at h

end Go.Proofs.Ytmganbdbihjbmaa

/-
  NODES OF A TREE (layer 11): a way up node by node, its leaf, what is beside it; how deep the nodes are; what is below a node: pure facts.
-/
set_option linter.unusedVariables false
namespace Go.Proofs.Ytmganbdbihjbmaa

/-- the next place of a way up -/
def nextU : List Nat → Int → Int
  | [], up => up
  | b :: _, _ => (b : Int)
/-- each node of a way has the next one above -/
def chainP (L : List RN) : List Nat → Int → Prop
  | [], _ => True
  | a :: l, up => (∃ x, L[a]? = some x ∧ x.up = nextU l up) ∧ chainP L l up
theorem nextU_snoc (l : List Nat) (q : Nat) (up : Int) : nextU (l ++ [q]) up = nextU l (q : Int) := by cases l <;> rfl
theorem chainP_snoc (L : List RN) (q : Nat) (up : Int) : ∀ P : List Nat, chainP L P (q : Int) → (∃ x, L[q]? = some x ∧ x.up = up) → chainP L (P ++ [q]) up
  | [], _, h => ⟨h, trivial⟩
  | a :: l, ⟨⟨x, h1, h2⟩, h3⟩, h => ⟨⟨x, h1, h2.trans (nextU_snoc l q up).symm⟩, chainP_snoc L q up l h3 h⟩
theorem chainP_at (L : List RN) (up : Int) : ∀ (P : List Nat) (j : Nat), chainP L P up → (hj : j < P.length) → ∃ x, L[P[j]]? = some x ∧ x.up = nextU (P.drop (j + 1)) up
  | [], j, _, hj => by simp at hj
  | a :: l, 0, ⟨⟨x, h1, h2⟩, h3⟩, hj => ⟨x, h1, h2⟩
  | a :: l, j + 1, ⟨_, h3⟩, hj => chainP_at L up l j h3 (by simpa using hj)
theorem RT.chain : ∀ (T : RT) (pre post : List RN) (up : Int) (p : Nat), T.ok → T.fr ≤ p → p < T.to → chainP (pre ++ T.flat pre.length up ++ post) (T.path pre.length p) up
  | .leaf a, pre, post, up, p, _, _, _ => ⟨⟨_, flat_end pre post (.leaf a) pre.length up (by simp [RT.size]), rfl⟩, trivial⟩
  | .two lev a red l r, pre, post, up, p, ⟨k1, k2, k3⟩, h1, h2 => by
    have hroot := flat_end pre post (.two lev a red l r) (pre.length + l.size + r.size) up (by simp only [RT.size]; omega)
    simp only [RT.fr, RT.to] at h1 h2
    have hA : (pre ++ l.flat pre.length ((pre.length + l.size + r.size : Nat) : Int)).length = pre.length + l.size := by rw [List.length_append, RT.flat_len]
    rw [RT.path]
    refine chainP_snoc _ _ _ _ ?_ ⟨_, hroot, RT.node_upv _ _ _⟩
    by_cases hp : p < l.to
    · rw [if_pos hp]
      have := RT.chain l pre (r.flat (pre.length + l.size) ((pre.length + l.size + r.size : Nat) : Int) ++ [⟨lev, a, red, l.fr, r.to, [pre.length + l.size - 1, pre.length + l.size + r.size - 1], up⟩] ++ post) ((pre.length + l.size + r.size : Nat) : Int) p k1 h1 hp
      simpa only [RT.flat, List.append_assoc] using this
    · rw [if_neg hp]
      have := RT.chain r (pre ++ l.flat pre.length ((pre.length + l.size + r.size : Nat) : Int)) ([⟨lev, a, red, l.fr, r.to, [pre.length + l.size - 1, pre.length + l.size + r.size - 1], up⟩] ++ post) ((pre.length + l.size + r.size : Nat) : Int) p k2 (by omega) h2
      rw [hA] at this
      simpa only [RT.flat, List.append_assoc] using this
  | .three lev a l m r, pre, post, up, p, ⟨k1, k2, k3, k4, k5⟩, h1, h2 => by
    have hroot := flat_end pre post (.three lev a l m r) (pre.length + l.size + m.size + r.size) up (by simp only [RT.size]; omega)
    simp only [RT.fr, RT.to] at h1 h2
    generalize hU : ((pre.length + l.size + m.size + r.size : Nat) : Int) = U at *
    have hA : (pre ++ l.flat pre.length U).length = pre.length + l.size := by rw [List.length_append, RT.flat_len]
    have hB : (pre ++ l.flat pre.length U ++ m.flat (pre.length + l.size) U).length = pre.length + l.size + m.size := by rw [List.length_append, RT.flat_len, hA]
    rw [RT.path]
    refine chainP_snoc _ _ _ _ ?_ ⟨_, hroot, RT.node_upv _ _ _⟩
    rw [hU]
    by_cases hp : p < l.to
    · rw [if_pos hp]
      have := RT.chain l pre (m.flat (pre.length + l.size) U ++ r.flat (pre.length + l.size + m.size) U ++ [⟨lev, a, false, l.fr, r.to, [pre.length + l.size - 1, pre.length + l.size + m.size - 1, pre.length + l.size + m.size + r.size - 1], up⟩] ++ post) U p k1 h1 hp
      simpa only [RT.flat, List.append_assoc, hU] using this
    · rw [if_neg hp]
      by_cases hp2 : p < m.to
      · rw [if_pos hp2]
        have := RT.chain m (pre ++ l.flat pre.length U) (r.flat (pre.length + l.size + m.size) U ++ [⟨lev, a, false, l.fr, r.to, [pre.length + l.size - 1, pre.length + l.size + m.size - 1, pre.length + l.size + m.size + r.size - 1], up⟩] ++ post) U p k2 (by omega) hp2
        rw [hA] at this
        simpa only [RT.flat, List.append_assoc, hU] using this
      · rw [if_neg hp2]
        have := RT.chain r (pre ++ l.flat pre.length U ++ m.flat (pre.length + l.size) U) ([⟨lev, a, false, l.fr, r.to, [pre.length + l.size - 1, pre.length + l.size + m.size - 1, pre.length + l.size + m.size + r.size - 1], up⟩] ++ post) U p k3 (by omega) h2
        rw [hB] at this
        simpa only [RT.flat, List.append_assoc, hU] using this
theorem RT.path_leaf : ∀ (T : RT) (pre post : List RN) (up : Int) (p : Nat), T.ok → T.fr ≤ p → p < T.to → ∃ a l x, T.path pre.length p = a :: l ∧ (pre ++ T.flat pre.length up ++ post)[a]? = some x ∧ x.lev = 0 ∧ x.at_ = p ∧ x.kids = []
  | .leaf a, pre, post, up, p, _, h1, h2 => by
    simp only [RT.fr, RT.to] at h1 h2
    exact ⟨_, _, _, rfl, flat_end pre post (.leaf a) pre.length up (by simp [RT.size]), rfl, by simp only [RT.node]; omega, rfl⟩
  | .two lev a red l r, pre, post, up, p, ⟨k1, k2, k3⟩, h1, h2 => by
    simp only [RT.fr, RT.to] at h1 h2
    have hA : (pre ++ l.flat pre.length ((pre.length + l.size + r.size : Nat) : Int)).length = pre.length + l.size := by rw [List.length_append, RT.flat_len]
    rw [RT.path]
    by_cases hp : p < l.to
    · rw [if_pos hp]
      obtain ⟨b, t, x, e, hx⟩ := RT.path_leaf l pre (r.flat (pre.length + l.size) ((pre.length + l.size + r.size : Nat) : Int) ++ [⟨lev, a, red, l.fr, r.to, [pre.length + l.size - 1, pre.length + l.size + r.size - 1], up⟩] ++ post) ((pre.length + l.size + r.size : Nat) : Int) p k1 h1 hp
      exact ⟨b, t ++ [pre.length + l.size + r.size], x, by rw [e]; rfl, by simpa only [RT.flat, List.append_assoc] using hx⟩
    · rw [if_neg hp]
      obtain ⟨b, t, x, e, hx⟩ := RT.path_leaf r (pre ++ l.flat pre.length ((pre.length + l.size + r.size : Nat) : Int)) ([⟨lev, a, red, l.fr, r.to, [pre.length + l.size - 1, pre.length + l.size + r.size - 1], up⟩] ++ post) ((pre.length + l.size + r.size : Nat) : Int) p k2 (by omega) h2
      rw [hA] at e hx
      exact ⟨b, t ++ [pre.length + l.size + r.size], x, by rw [e]; rfl, by simpa only [RT.flat, List.append_assoc] using hx⟩
  | .three lev a l m r, pre, post, up, p, ⟨k1, k2, k3, k4, k5⟩, h1, h2 => by
    simp only [RT.fr, RT.to] at h1 h2
    generalize hU : ((pre.length + l.size + m.size + r.size : Nat) : Int) = U at *
    have hA : (pre ++ l.flat pre.length U).length = pre.length + l.size := by rw [List.length_append, RT.flat_len]
    have hB : (pre ++ l.flat pre.length U ++ m.flat (pre.length + l.size) U).length = pre.length + l.size + m.size := by rw [List.length_append, RT.flat_len, hA]
    rw [RT.path]
    by_cases hp : p < l.to
    · rw [if_pos hp]
      obtain ⟨b, t, x, e, hx⟩ := RT.path_leaf l pre (m.flat (pre.length + l.size) U ++ r.flat (pre.length + l.size + m.size) U ++ [⟨lev, a, false, l.fr, r.to, [pre.length + l.size - 1, pre.length + l.size + m.size - 1, pre.length + l.size + m.size + r.size - 1], up⟩] ++ post) U p k1 h1 hp
      exact ⟨b, t ++ [pre.length + l.size + m.size + r.size], x, by rw [e]; rfl, by simpa only [RT.flat, List.append_assoc, hU] using hx⟩
    · rw [if_neg hp]
      by_cases hp2 : p < m.to
      · rw [if_pos hp2]
        obtain ⟨b, t, x, e, hx⟩ := RT.path_leaf m (pre ++ l.flat pre.length U) (r.flat (pre.length + l.size + m.size) U ++ [⟨lev, a, false, l.fr, r.to, [pre.length + l.size - 1, pre.length + l.size + m.size - 1, pre.length + l.size + m.size + r.size - 1], up⟩] ++ post) U p k2 (by omega) hp2
        rw [hA] at e hx
        exact ⟨b, t ++ [pre.length + l.size + m.size + r.size], x, by rw [e]; rfl, by simpa only [RT.flat, List.append_assoc, hU] using hx⟩
      · rw [if_neg hp2]
        obtain ⟨b, t, x, e, hx⟩ := RT.path_leaf r (pre ++ l.flat pre.length U ++ m.flat (pre.length + l.size) U) ([⟨lev, a, false, l.fr, r.to, [pre.length + l.size - 1, pre.length + l.size + m.size - 1, pre.length + l.size + m.size + r.size - 1], up⟩] ++ post) U p k3 (by omega) h2
        rw [hB] at e hx
        exact ⟨b, t ++ [pre.length + l.size + m.size + r.size], x, by rw [e]; rfl, by simpa only [RT.flat, List.append_assoc, hU] using hx⟩
theorem RT.path_last (T : RT) (off p : Nat) : (T.path off p).getLast? = some (off + T.size - 1) := by
  cases T with
  | leaf a => simp [RT.path, RT.size]
  | two lev a red l r => rw [RT.path, List.getLast?_append]; simp [RT.size]; omega
  | three lev a l m r => rw [RT.path, List.getLast?_append]; simp [RT.size]; omega
/-- nodes ahead of a way's leaf have not the leaf below -/
theorem way_min (p : Nat) : ∀ (i : Nat) (l : List RN) (a : Nat) (t : List Nat), wayOf p i l = a :: t → ∀ (j : Nat) (y : RN), l[j]? = some y → i + j < a → hasP p y = false
  | i, [], a, t, h => by simp [wayOf] at h
  | i, x :: l, a, t, h => fun j y hj hlt => by
    rw [wayOf] at h
    by_cases hx : hasP p x = true
    · rw [if_pos hx] at h
      injection h with h
      omega
    · rw [if_neg hx] at h
      cases j with
      | zero =>
        simp at hj
        subst hj
        simpa using hx
      | succ j => exact way_min p (i + 1) l a t h j y (by simpa using hj) (by omega)
theorem way_mem (p : Nat) : ∀ (i : Nat) (l : List RN), ∀ a ∈ wayOf p i l, i ≤ a ∧ ∃ y, l[a - i]? = some y ∧ hasP p y = true
  | i, [] => fun a h => by simp [wayOf] at h
  | i, x :: l => fun a h => by
    rw [wayOf] at h
    have ih := way_mem p (i + 1) l
    by_cases hx : hasP p x = true
    · rw [if_pos hx] at h
      rcases List.mem_cons.1 h with rfl | h
      · exact ⟨Nat.le_refl _, x, by simp, hx⟩
      · obtain ⟨h1, y, h2, h3⟩ := ih a h
        refine ⟨by omega, y, ?_, h3⟩
        rw [show a - i = (a - (i + 1)) + 1 by omega]
        exact h2
    · rw [if_neg hx] at h
      obtain ⟨h1, y, h2, h3⟩ := ih a h
      refine ⟨by omega, y, ?_, h3⟩
      rw [show a - i = (a - (i + 1)) + 1 by omega]
      exact h2
theorem way_rise (p : Nat) : ∀ (i : Nat) (l : List RN), (wayOf p i l).Pairwise (· < ·)
  | i, [] => by simp [wayOf]
  | i, x :: l => by
    rw [wayOf]
    split
    · refine List.pairwise_cons.2 ⟨fun a ha => ?_, way_rise p (i + 1) l⟩
      have := (way_mem p (i + 1) l a ha).1
      omega
    · exact way_rise p (i + 1) l

/-- what is below a node has its leaves, one behind the other -/
def spanK (L : List RN) : Nat → List Nat → Nat → Prop
  | q, [], z => q = z
  | q, k :: ks, z => ∃ y, L[k]? = some y ∧ y.fr = q ∧ spanK L y.to ks z
def nodeKid (L : List RN) (q : Nat) (x : RN) : Prop :=
  (x.kids ≠ [] → spanK L x.fr x.kids x.to) ∧ (∀ k ∈ x.kids, ∃ y, L[k]? = some y ∧ y.up = (q : Int)) ∧ (x.lev = 0 → x.fr = x.at_ ∧ x.to = x.at_ + 1) ∧ (∀ k ∈ x.kids, k < q)
theorem RT.kid_ok {kind : Int} : ∀ (T : RT) (pre post : List RN) (up : Int), T.good kind → T.ok → ∀ (q : Nat) (x : RN), pre.length ≤ q → q < pre.length + T.size → (pre ++ T.flat pre.length up ++ post)[q]? = some x → nodeKid (pre ++ T.flat pre.length up ++ post) q x
  | .leaf a, pre, post, up, _, _, q, x, h1, h2, hx => by
    have e := flat_end pre post (.leaf a) q up (by simp only [RT.size] at h2 ⊢; omega)
    rw [e] at hx
    have hx := Option.some.inj hx
    subst hx
    exact ⟨fun h => absurd rfl h, fun k hk => by simp [RT.node] at hk, fun _ => ⟨rfl, rfl⟩, fun k hk => by simp [RT.node] at hk⟩
  | .two lev a red l r, pre, post, up, ⟨g1, g2, g3, _⟩, ⟨k1, k2, k3⟩, q, x, h1, h2, hx => by
    have hroot := flat_end pre post (.two lev a red l r) (pre.length + l.size + r.size) up (by simp only [RT.size]; omega)
    have p1 := l.size_pos
    have p2 := r.size_pos
    simp only [RT.size] at h2
    have hA : (pre ++ l.flat pre.length ((pre.length + l.size + r.size : Nat) : Int)).length = pre.length + l.size := by rw [List.length_append, RT.flat_len]
    have c1 := RT.kid_ok l pre (r.flat (pre.length + l.size) ((pre.length + l.size + r.size : Nat) : Int) ++ [⟨lev, a, red, l.fr, r.to, [pre.length + l.size - 1, pre.length + l.size + r.size - 1], up⟩] ++ post) ((pre.length + l.size + r.size : Nat) : Int) g1 k1 q x
    have c2 := RT.kid_ok r (pre ++ l.flat pre.length ((pre.length + l.size + r.size : Nat) : Int)) ([⟨lev, a, red, l.fr, r.to, [pre.length + l.size - 1, pre.length + l.size + r.size - 1], up⟩] ++ post) ((pre.length + l.size + r.size : Nat) : Int) g2 k2 q x
    have e1 := flat_end pre (r.flat (pre.length + l.size) ((pre.length + l.size + r.size : Nat) : Int) ++ [⟨lev, a, red, l.fr, r.to, [pre.length + l.size - 1, pre.length + l.size + r.size - 1], up⟩] ++ post) l (pre.length + l.size - 1) ((pre.length + l.size + r.size : Nat) : Int) rfl
    have e2 := flat_end (pre ++ l.flat pre.length ((pre.length + l.size + r.size : Nat) : Int)) ([⟨lev, a, red, l.fr, r.to, [pre.length + l.size - 1, pre.length + l.size + r.size - 1], up⟩] ++ post) r (pre.length + l.size + r.size - 1) ((pre.length + l.size + r.size : Nat) : Int) (by rw [hA])
    rw [hA] at e2 c2
    simp only [RT.flat, List.append_assoc] at e1 e2 c1 c2 hx hroot ⊢
    rcases Nat.lt_or_ge q (pre.length + l.size) with hq | hq
    · exact c1 h1 hq hx
    · rcases Nat.lt_or_ge q (pre.length + l.size + r.size) with hq2 | hq2
      · exact c2 hq hq2 hx
      · obtain rfl : q = pre.length + l.size + r.size := by omega
        rw [hroot] at hx
        have hx := Option.some.inj hx
        subst hx
        refine ⟨fun _ => ⟨_, e1, RT.node_fr _ _ _, _, e2, ?_, RT.node_to _ _ _⟩, fun k hk => ?_, fun h => ?_, fun k hk => ?_⟩
        · rw [RT.node_fr, RT.node_to, k3]
        · simp only [RT.node, List.mem_cons, List.not_mem_nil, or_false] at hk
          rcases hk with rfl | rfl
          · exact ⟨_, e1, RT.node_upv _ _ _⟩
          · exact ⟨_, e2, RT.node_upv _ _ _⟩
        · simp only [RT.node] at h
          omega
        · simp only [RT.node, List.mem_cons, List.not_mem_nil, or_false] at hk
          omega
  | .three lev a l m r, pre, post, up, ⟨g1, g2, g3, g4, _⟩, ⟨k1, k2, k3, k4, k5⟩, q, x, h1, h2, hx => by
    have hroot := flat_end pre post (.three lev a l m r) (pre.length + l.size + m.size + r.size) up (by simp only [RT.size]; omega)
    have p1 := l.size_pos
    have p2 := m.size_pos
    have p3 := r.size_pos
    simp only [RT.size] at h2
    have hUU : ∀ U : Int, U = ((pre.length + l.size + m.size + r.size : Nat) : Int) → nodeKid (pre ++ (RT.three lev a l m r).flat pre.length up ++ post) q x := by
      intro U hU
      have hA : (pre ++ l.flat pre.length U).length = pre.length + l.size := by rw [List.length_append, RT.flat_len]
      have hB : (pre ++ l.flat pre.length U ++ m.flat (pre.length + l.size) U).length = pre.length + l.size + m.size := by rw [List.length_append, RT.flat_len, hA]
      have c1 := RT.kid_ok l pre (m.flat (pre.length + l.size) U ++ r.flat (pre.length + l.size + m.size) U ++ [⟨lev, a, false, l.fr, r.to, [pre.length + l.size - 1, pre.length + l.size + m.size - 1, pre.length + l.size + m.size + r.size - 1], up⟩] ++ post) U g1 k1 q x
      have c2 := RT.kid_ok m (pre ++ l.flat pre.length U) (r.flat (pre.length + l.size + m.size) U ++ [⟨lev, a, false, l.fr, r.to, [pre.length + l.size - 1, pre.length + l.size + m.size - 1, pre.length + l.size + m.size + r.size - 1], up⟩] ++ post) U g2 k2 q x
      have c3 := RT.kid_ok r (pre ++ l.flat pre.length U ++ m.flat (pre.length + l.size) U) ([⟨lev, a, false, l.fr, r.to, [pre.length + l.size - 1, pre.length + l.size + m.size - 1, pre.length + l.size + m.size + r.size - 1], up⟩] ++ post) U g3 k3 q x
      have e1 := flat_end pre (m.flat (pre.length + l.size) U ++ r.flat (pre.length + l.size + m.size) U ++ [⟨lev, a, false, l.fr, r.to, [pre.length + l.size - 1, pre.length + l.size + m.size - 1, pre.length + l.size + m.size + r.size - 1], up⟩] ++ post) l (pre.length + l.size - 1) U rfl
      have e2 := flat_end (pre ++ l.flat pre.length U) (r.flat (pre.length + l.size + m.size) U ++ [⟨lev, a, false, l.fr, r.to, [pre.length + l.size - 1, pre.length + l.size + m.size - 1, pre.length + l.size + m.size + r.size - 1], up⟩] ++ post) m (pre.length + l.size + m.size - 1) U (by rw [hA])
      have e3 := flat_end (pre ++ l.flat pre.length U ++ m.flat (pre.length + l.size) U) ([⟨lev, a, false, l.fr, r.to, [pre.length + l.size - 1, pre.length + l.size + m.size - 1, pre.length + l.size + m.size + r.size - 1], up⟩] ++ post) r (pre.length + l.size + m.size + r.size - 1) U (by rw [hB])
      rw [hA] at e2 c2
      rw [hB] at e3 c3
      simp only [RT.flat, List.append_assoc, ← hU] at e1 e2 e3 c1 c2 c3 hx hroot ⊢
      rcases Nat.lt_or_ge q (pre.length + l.size) with hq | hq
      · exact c1 h1 hq hx
      · rcases Nat.lt_or_ge q (pre.length + l.size + m.size) with hq2 | hq2
        · exact c2 hq hq2 hx
        · rcases Nat.lt_or_ge q (pre.length + l.size + m.size + r.size) with hq3 | hq3
          · exact c3 hq2 hq3 hx
          · obtain rfl : q = pre.length + l.size + m.size + r.size := by omega
            rw [hroot] at hx
            have hx := Option.some.inj hx
            subst hx
            refine ⟨fun _ => ⟨_, e1, RT.node_fr _ _ _, _, e2, ?_, _, e3, ?_, RT.node_to _ _ _⟩, fun k hk => ?_, fun h => ?_, fun k hk => ?_⟩
            · rw [RT.node_fr, RT.node_to, k4]
            · rw [RT.node_fr, RT.node_to, k5]
            · simp only [RT.node, List.mem_cons, List.not_mem_nil, or_false] at hk
              rw [← hU]
              rcases hk with rfl | rfl | rfl
              · exact ⟨_, e1, RT.node_upv _ _ _⟩
              · exact ⟨_, e2, RT.node_upv _ _ _⟩
              · exact ⟨_, e3, RT.node_upv _ _ _⟩
            · simp only [RT.node] at h
              omega
            · simp only [RT.node, List.mem_cons, List.not_mem_nil, or_false] at hk
              omega
    exact hUU _ rfl

/-- how many nodes are above each node -/
def RT.deps : RT → Nat → List Nat
  | .leaf _, d => [d]
  | .two _ _ _ l r, d => l.deps (d + 1) ++ r.deps (d + 1) ++ [d]
  | .three _ _ l m r, d => l.deps (d + 1) ++ m.deps (d + 1) ++ r.deps (d + 1) ++ [d]
theorem RT.deps_len : ∀ (T : RT) (d : Nat), (T.deps d).length = T.size
  | .leaf _, _ => rfl
  | .two _ _ _ l r, d => by simp only [RT.deps, RT.size, List.length_append, RT.deps_len l, RT.deps_len r, List.length_singleton]
  | .three _ _ l m r, d => by simp only [RT.deps, RT.size, List.length_append, RT.deps_len l, RT.deps_len m, RT.deps_len r, List.length_singleton]
theorem RT.deps_last (T : RT) (d : Nat) : (T.deps d)[T.size - 1]? = some d := by
  have h := T.deps_len d
  cases T with
  | leaf a => rfl
  | two lev a red l r =>
    rw [RT.deps, List.getElem?_append_right (by simp [RT.deps_len, RT.size])]
    simp [RT.deps_len, RT.size]
  | three lev a l m r =>
    rw [RT.deps, List.getElem?_append_right (by simp [RT.deps_len, RT.size]; omega)]
    simp [RT.deps_len, RT.size, Nat.add_assoc]
def deepAt (T : RT) (off d : Nat) (up : Int) (i : Nat) : Prop :=
  ∃ x, (T.flat off up)[i]? = some x ∧ ((i + 1 = T.size ∧ x.up = up) ∨ ∃ u e, x.up = ((off + u : Nat) : Int) ∧ i < u ∧ u < T.size ∧ (T.deps d)[u]? = some e ∧ (T.deps d)[i]? = some (e + 1))
theorem RT.deep : ∀ (T : RT) (off d : Nat) (up : Int) (i : Nat), i < T.size → deepAt T off d up i
  | .leaf a, off, d, up, i, hi => by
    simp only [RT.size] at hi
    obtain rfl : i = 0 := by omega
    exact ⟨_, rfl, .inl ⟨rfl, rfl⟩⟩
  | .two lev a red l r, off, d, up, i, hi => by
    have hl := RT.deps_len l (d + 1)
    have hr := RT.deps_len r (d + 1)
    have hd := RT.deps_last (.two lev a red l r) d
    have p1 := l.size_pos
    have p2 := r.size_pos
    simp only [RT.size] at hi hd
    rw [show l.size + r.size + 1 - 1 = l.size + r.size by omega] at hd
    rcases Nat.lt_or_ge i l.size with h | h
    · obtain ⟨x, hx, h2⟩ := RT.deep l off (d + 1) ((off + l.size + r.size : Nat) : Int) i h
      refine ⟨x, by rw [RT.flat, List.append_assoc, List.getElem?_append_left (by rw [RT.flat_len]; exact h)]; exact hx, .inr ?_⟩
      rcases h2 with ⟨e1, e2⟩ | ⟨u, e, e1, e2, e3, e4, e5⟩
      · refine ⟨l.size + r.size, d, by rw [e2, Nat.add_assoc], by omega, by simp only [RT.size]; omega, hd, ?_⟩
        have := RT.deps_last l (d + 1)
        rw [RT.deps, List.append_assoc, List.getElem?_append_left (by omega), show i = l.size - 1 by omega]
        exact this
      · refine ⟨u, e, e1, e2, by simp only [RT.size]; omega, ?_, ?_⟩
        · rw [RT.deps, List.append_assoc, List.getElem?_append_left (by omega)]; exact e4
        · rw [RT.deps, List.append_assoc, List.getElem?_append_left (by omega)]; exact e5
    · rcases Nat.lt_or_ge i (l.size + r.size) with h' | h'
      · obtain ⟨x, hx, h2⟩ := RT.deep r (off + l.size) (d + 1) ((off + l.size + r.size : Nat) : Int) (i - l.size) (by omega)
        refine ⟨x, by rw [RT.flat, List.append_assoc, List.getElem?_append_right (by rw [RT.flat_len]; exact h), RT.flat_len, List.getElem?_append_left (by rw [RT.flat_len]; omega)]; exact hx, .inr ?_⟩
        rcases h2 with ⟨e1, e2⟩ | ⟨u, e, e1, e2, e3, e4, e5⟩
        · refine ⟨l.size + r.size, d, by rw [e2, Nat.add_assoc], by omega, by simp only [RT.size]; omega, hd, ?_⟩
          have := RT.deps_last r (d + 1)
          rw [RT.deps, List.append_assoc, List.getElem?_append_right (by omega), hl, List.getElem?_append_left (by omega), show i - l.size = r.size - 1 by omega]
          exact this
        · refine ⟨l.size + u, e, by rw [e1, Nat.add_assoc], by omega, by simp only [RT.size]; omega, ?_, ?_⟩
          · rw [RT.deps, List.append_assoc, List.getElem?_append_right (by omega), hl, List.getElem?_append_left (by omega), show l.size + u - l.size = u by omega]; exact e4
          · rw [RT.deps, List.append_assoc, List.getElem?_append_right (by omega), hl, List.getElem?_append_left (by omega)]; exact e5
      · obtain rfl : i = l.size + r.size := by omega
        refine ⟨_, by rw [RT.flat, List.getElem?_append_right (by simp [RT.flat_len])]; simp only [List.length_append, RT.flat_len, Nat.sub_self]; rfl, .inl ⟨by simp only [RT.size], rfl⟩⟩
  | .three lev a l m r, off, d, up, i, hi => by
    have hl := RT.deps_len l (d + 1)
    have hm := RT.deps_len m (d + 1)
    have hr := RT.deps_len r (d + 1)
    have hd := RT.deps_last (.three lev a l m r) d
    have p1 := l.size_pos
    have p2 := m.size_pos
    have p3 := r.size_pos
    simp only [RT.size] at hi hd
    rw [show l.size + m.size + r.size + 1 - 1 = l.size + m.size + r.size by omega] at hd
    rcases Nat.lt_or_ge i l.size with h | h
    · obtain ⟨x, hx, h2⟩ := RT.deep l off (d + 1) ((off + l.size + m.size + r.size : Nat) : Int) i h
      refine ⟨x, by rw [RT.flat, List.append_assoc, List.append_assoc, List.getElem?_append_left (by rw [RT.flat_len]; exact h)]; exact hx, .inr ?_⟩
      rcases h2 with ⟨e1, e2⟩ | ⟨u, e, e1, e2, e3, e4, e5⟩
      · refine ⟨l.size + m.size + r.size, d, by rw [e2]; simp only [Nat.add_assoc], by omega, by simp only [RT.size]; omega, hd, ?_⟩
        have := RT.deps_last l (d + 1)
        rw [RT.deps, List.append_assoc, List.append_assoc, List.getElem?_append_left (by omega), show i = l.size - 1 by omega]
        exact this
      · refine ⟨u, e, e1, e2, by simp only [RT.size]; omega, ?_, ?_⟩
        · rw [RT.deps, List.append_assoc, List.append_assoc, List.getElem?_append_left (by omega)]; exact e4
        · rw [RT.deps, List.append_assoc, List.append_assoc, List.getElem?_append_left (by omega)]; exact e5
    · rcases Nat.lt_or_ge i (l.size + m.size) with h' | h'
      · obtain ⟨x, hx, h2⟩ := RT.deep m (off + l.size) (d + 1) ((off + l.size + m.size + r.size : Nat) : Int) (i - l.size) (by omega)
        refine ⟨x, by rw [RT.flat, List.append_assoc, List.append_assoc, List.getElem?_append_right (by rw [RT.flat_len]; exact h), RT.flat_len, List.getElem?_append_left (by rw [RT.flat_len]; omega)]; exact hx, .inr ?_⟩
        rcases h2 with ⟨e1, e2⟩ | ⟨u, e, e1, e2, e3, e4, e5⟩
        · refine ⟨l.size + m.size + r.size, d, by rw [e2]; simp only [Nat.add_assoc], by omega, by simp only [RT.size]; omega, hd, ?_⟩
          have := RT.deps_last m (d + 1)
          rw [RT.deps, List.append_assoc, List.append_assoc, List.getElem?_append_right (by omega), hl, List.getElem?_append_left (by omega), show i - l.size = m.size - 1 by omega]
          exact this
        · refine ⟨l.size + u, e, by rw [e1, Nat.add_assoc], by omega, by simp only [RT.size]; omega, ?_, ?_⟩
          · rw [RT.deps, List.append_assoc, List.append_assoc, List.getElem?_append_right (by omega), hl, List.getElem?_append_left (by omega), show l.size + u - l.size = u by omega]; exact e4
          · rw [RT.deps, List.append_assoc, List.append_assoc, List.getElem?_append_right (by omega), hl, List.getElem?_append_left (by omega)]; exact e5
      · rcases Nat.lt_or_ge i (l.size + m.size + r.size) with h3 | h3
        · obtain ⟨x, hx, h2⟩ := RT.deep r (off + l.size + m.size) (d + 1) ((off + l.size + m.size + r.size : Nat) : Int) (i - l.size - m.size) (by omega)
          refine ⟨x, by rw [RT.flat, List.append_assoc, List.append_assoc, List.getElem?_append_right (by rw [RT.flat_len]; exact h), RT.flat_len, List.getElem?_append_right (by rw [RT.flat_len]; omega), RT.flat_len, List.getElem?_append_left (by rw [RT.flat_len]; omega)]; exact hx, .inr ?_⟩
          rcases h2 with ⟨e1, e2⟩ | ⟨u, e, e1, e2, e3, e4, e5⟩
          · refine ⟨l.size + m.size + r.size, d, by rw [e2]; simp only [Nat.add_assoc], by omega, by simp only [RT.size]; omega, hd, ?_⟩
            have := RT.deps_last r (d + 1)
            rw [RT.deps, List.append_assoc, List.append_assoc, List.getElem?_append_right (by omega), hl, List.getElem?_append_right (by omega), hm, List.getElem?_append_left (by omega), show i - l.size - m.size = r.size - 1 by omega]
            exact this
          · refine ⟨l.size + m.size + u, e, by rw [e1]; simp only [Nat.add_assoc], by omega, by simp only [RT.size]; omega, ?_, ?_⟩
            · rw [RT.deps, List.append_assoc, List.append_assoc, List.getElem?_append_right (by omega), hl, List.getElem?_append_right (by omega), hm, List.getElem?_append_left (by omega), show l.size + m.size + u - l.size - m.size = u by omega]; exact e4
            · rw [RT.deps, List.append_assoc, List.append_assoc, List.getElem?_append_right (by omega), hl, List.getElem?_append_right (by omega), hm, List.getElem?_append_left (by omega)]; exact e5
        · obtain rfl : i = l.size + m.size + r.size := by omega
          refine ⟨_, by rw [RT.flat, List.getElem?_append_right (by simp [RT.flat_len]; omega)]; simp only [List.length_append, RT.flat_len, Nat.sub_self]; rfl, .inl ⟨by simp only [RT.size], rfl⟩⟩
/-- the greatest one -/
def maxL : List Nat → Nat
  | [] => 0
  | x :: l => max x (maxL l)
theorem maxL_append : ∀ a b : List Nat, maxL (a ++ b) = max (maxL a) (maxL b)
  | [], b => by simp [maxL]
  | x :: a, b => by
    rw [List.cons_append, maxL, maxL, maxL_append a b]
    omega
theorem RT.deps_max : ∀ (T : RT) (d : Nat), maxL (T.deps d) = d + T.high
  | .leaf _, d => by simp [RT.deps, maxL, RT.high]
  | .two _ _ _ l r, d => by
    rw [RT.deps, maxL_append, maxL_append, RT.deps_max l, RT.deps_max r, RT.high, maxL, maxL]
    omega
  | .three _ _ l m r, d => by
    rw [RT.deps, maxL_append, maxL_append, maxL_append, RT.deps_max l, RT.deps_max m, RT.deps_max r, RT.high, maxL, maxL]
    omega
theorem RT.high_ex : ∀ (T : RT) (off : Nat), T.ok → ∃ p, T.fr ≤ p ∧ p < T.to ∧ (T.path off p).length = T.high + 1
  | .leaf a, off, _ => ⟨a, by simp [RT.fr], by simp [RT.to], by simp [RT.path, RT.high]⟩
  | .two lev a red l r, off, ⟨k1, k2, k3⟩ => by
    have f1 := RT.fr_lt l k1
    have f2 := RT.fr_lt r k2
    simp only [RT.fr, RT.to, RT.path, RT.high]
    by_cases h : r.high ≤ l.high
    · obtain ⟨p, h1, h2, h3⟩ := RT.high_ex l off k1
      exact ⟨p, h1, by omega, by rw [if_pos h2, List.length_append, h3, List.length_singleton]; omega⟩
    · obtain ⟨p, h1, h2, h3⟩ := RT.high_ex r (off + l.size) k2
      exact ⟨p, by omega, h2, by rw [if_neg (by omega), List.length_append, h3, List.length_singleton]; omega⟩
  | .three lev a l m r, off, ⟨k1, k2, k3, k4, k5⟩ => by
    have f1 := RT.fr_lt l k1
    have f2 := RT.fr_lt m k2
    have f3 := RT.fr_lt r k3
    simp only [RT.fr, RT.to, RT.path, RT.high]
    by_cases h : max m.high r.high ≤ l.high
    · obtain ⟨p, h1, h2, h3⟩ := RT.high_ex l off k1
      exact ⟨p, h1, by omega, by rw [if_pos h2, List.length_append, h3, List.length_singleton]; omega⟩
    · by_cases h' : r.high ≤ m.high
      · obtain ⟨p, h1, h2, h3⟩ := RT.high_ex m (off + l.size) k2
        exact ⟨p, by omega, by omega, by rw [if_neg (by omega), if_pos h2, List.length_append, h3, List.length_singleton]; omega⟩
      · obtain ⟨p, h1, h2, h3⟩ := RT.high_ex r (off + l.size + m.size) k3
        exact ⟨p, by omega, h2, by rw [if_neg (by omega), if_neg (by omega), List.length_append, h3, List.length_singleton]; omega⟩

end Go.Proofs.Ytmganbdbihjbmaa

/-
  NODES OF A TREE (layer 11): what is beside a way, and that it covers all other leaves, each once: pure facts.
-/
set_option linter.unusedVariables false
namespace Go.Proofs.Ytmganbdbihjbmaa

def kidsN (L : List RN) (q : Nat) : List Nat := (L[q]?.map RN.kids).getD []
/-- what is beside a way, from its leaf on -/
def besP (L : List RN) : List Nat → List Nat
  | [] => []
  | a :: t => match t with
    | [] => []
    | b :: l => (kidsN L b).filter (fun k => k != a) ++ besP L (b :: l)
theorem besP_two (L : List RN) (a b : Nat) (l : List Nat) : besP L (a :: b :: l) = (kidsN L b).filter (fun k => k != a) ++ besP L (b :: l) := rfl
theorem besP_snoc (L : List RN) (q z : Nat) : ∀ P : List Nat, P.getLast? = some z → besP L (P ++ [q]) = besP L P ++ (kidsN L q).filter (fun k => k != z)
  | [], h => by simp at h
  | [a], h => by
    simp at h
    subst h
    show besP L [a, q] = besP L [a] ++ _
    rw [besP_two]
    simp [besP]
  | a :: b :: l, h => by
    have ih := besP_snoc L q z (b :: l) (by simpa using h)
    show besP L (a :: b :: (l ++ [q])) = _
    rw [besP_two, besP_two, List.append_assoc, ← ih]
    rfl
theorem kids_at {L : List RN} {q : Nat} {x : RN} (h : L[q]? = some x) : kidsN L q = x.kids := by rw [kidsN, h]; rfl
theorem RT.bes : ∀ (T : RT) (pre post : List RN) (up : Int) (p : Nat), T.ok → T.fr ≤ p → p < T.to → besP (pre ++ T.flat pre.length up ++ post) (T.path pre.length p) = T.beside pre.length p
  | .leaf a, pre, post, up, p, _, _, _ => rfl
  | .two lev a red l r, pre, post, up, p, ⟨k1, k2, k3⟩, h1, h2 => by
    have hroot := kids_at (flat_end pre post (.two lev a red l r) (pre.length + l.size + r.size) up (by simp only [RT.size]; omega))
    simp only [RT.fr, RT.to] at h1 h2
    have p1 := l.size_pos
    have p2 := r.size_pos
    have hA : (pre ++ l.flat pre.length ((pre.length + l.size + r.size : Nat) : Int)).length = pre.length + l.size := by rw [List.length_append, RT.flat_len]
    rw [RT.path, RT.beside]
    by_cases hp : p < l.to
    · rw [if_pos hp, if_pos hp, besP_snoc _ _ _ _ (RT.path_last l _ _), hroot]
      have := RT.bes l pre (r.flat (pre.length + l.size) ((pre.length + l.size + r.size : Nat) : Int) ++ [⟨lev, a, red, l.fr, r.to, [pre.length + l.size - 1, pre.length + l.size + r.size - 1], up⟩] ++ post) ((pre.length + l.size + r.size : Nat) : Int) p k1 h1 hp
      simp only [RT.flat, List.append_assoc] at this ⊢
      rw [this]
      have e1 : (pre.length + l.size - 1 != pre.length + l.size - 1) = false := by simp
      have e2 : (pre.length + l.size + r.size - 1 != pre.length + l.size - 1) = true := by simp; omega
      simp only [RT.node, List.filter_cons, List.filter_nil, e1, e2, if_true]
      rfl
    · rw [if_neg hp, if_neg hp, besP_snoc _ _ _ _ (RT.path_last r _ _), hroot]
      have := RT.bes r (pre ++ l.flat pre.length ((pre.length + l.size + r.size : Nat) : Int)) ([⟨lev, a, red, l.fr, r.to, [pre.length + l.size - 1, pre.length + l.size + r.size - 1], up⟩] ++ post) ((pre.length + l.size + r.size : Nat) : Int) p k2 (by omega) h2
      rw [hA] at this
      simp only [RT.flat, List.append_assoc] at this ⊢
      rw [this]
      have e1 : (pre.length + l.size - 1 != pre.length + l.size + r.size - 1) = true := by simp; omega
      have e2 : (pre.length + l.size + r.size - 1 != pre.length + l.size + r.size - 1) = false := by simp
      simp only [RT.node, List.filter_cons, List.filter_nil, e1, e2, if_true]
      rfl
  | .three lev a l m r, pre, post, up, p, ⟨k1, k2, k3, k4, k5⟩, h1, h2 => by
    have hroot := kids_at (flat_end pre post (.three lev a l m r) (pre.length + l.size + m.size + r.size) up (by simp only [RT.size]; omega))
    simp only [RT.fr, RT.to] at h1 h2
    have p1 := l.size_pos
    have p2 := m.size_pos
    have p3 := r.size_pos
    generalize hU : ((pre.length + l.size + m.size + r.size : Nat) : Int) = U at *
    have hA : (pre ++ l.flat pre.length U).length = pre.length + l.size := by rw [List.length_append, RT.flat_len]
    have hB : (pre ++ l.flat pre.length U ++ m.flat (pre.length + l.size) U).length = pre.length + l.size + m.size := by rw [List.length_append, RT.flat_len, hA]
    have a1 : (pre.length + l.size - 1 != pre.length + l.size - 1) = false := by simp
    have a2 : (pre.length + l.size + m.size - 1 != pre.length + l.size + m.size - 1) = false := by simp
    have a3 : (pre.length + l.size + m.size + r.size - 1 != pre.length + l.size + m.size + r.size - 1) = false := by simp
    have b1 : (pre.length + l.size + m.size - 1 != pre.length + l.size - 1) = true := by simp; omega
    have b2 : (pre.length + l.size + m.size + r.size - 1 != pre.length + l.size - 1) = true := by simp; omega
    have b3 : (pre.length + l.size - 1 != pre.length + l.size + m.size - 1) = true := by simp; omega
    have b4 : (pre.length + l.size + m.size + r.size - 1 != pre.length + l.size + m.size - 1) = true := by simp; omega
    have b5 : (pre.length + l.size - 1 != pre.length + l.size + m.size + r.size - 1) = true := by simp; omega
    have b6 : (pre.length + l.size + m.size - 1 != pre.length + l.size + m.size + r.size - 1) = true := by simp; omega
    rw [RT.path, RT.beside]
    by_cases hp : p < l.to
    · rw [if_pos hp, if_pos hp, besP_snoc _ _ _ _ (RT.path_last l _ _), hroot]
      have := RT.bes l pre (m.flat (pre.length + l.size) U ++ r.flat (pre.length + l.size + m.size) U ++ [⟨lev, a, false, l.fr, r.to, [pre.length + l.size - 1, pre.length + l.size + m.size - 1, pre.length + l.size + m.size + r.size - 1], up⟩] ++ post) U p k1 h1 hp
      simp only [RT.flat, List.append_assoc, hU] at this ⊢
      rw [this]
      simp only [RT.node, List.filter_cons, List.filter_nil, a1, b1, b2, if_true]
      rfl
    · rw [if_neg hp, if_neg hp]
      by_cases hp2 : p < m.to
      · rw [if_pos hp2, if_pos hp2, besP_snoc _ _ _ _ (RT.path_last m _ _), hroot]
        have := RT.bes m (pre ++ l.flat pre.length U) (r.flat (pre.length + l.size + m.size) U ++ [⟨lev, a, false, l.fr, r.to, [pre.length + l.size - 1, pre.length + l.size + m.size - 1, pre.length + l.size + m.size + r.size - 1], up⟩] ++ post) U p k2 (by omega) hp2
        rw [hA] at this
        simp only [RT.flat, List.append_assoc, hU] at this ⊢
        rw [this]
        simp only [RT.node, List.filter_cons, List.filter_nil, a2, b3, b4, if_true]
        rfl
      · rw [if_neg hp2, if_neg hp2, besP_snoc _ _ _ _ (RT.path_last r _ _), hroot]
        have := RT.bes r (pre ++ l.flat pre.length U ++ m.flat (pre.length + l.size) U) ([⟨lev, a, false, l.fr, r.to, [pre.length + l.size - 1, pre.length + l.size + m.size - 1, pre.length + l.size + m.size + r.size - 1], up⟩] ++ post) U p k3 (by omega) h2
        rw [hB] at this
        simp only [RT.flat, List.append_assoc, hU] at this ⊢
        rw [this]
        simp only [RT.node, List.filter_cons, List.filter_nil, a3, b5, b6, if_true]
        rfl
/-- how many of some nodes have a leaf below -/
def covP (L : List RN) (i k : Nat) : Bool := match L[k]? with
  | some x => hasP i x
  | none => false
def cov (L : List RN) (i : Nat) (B : List Nat) : Nat := B.countP (covP L i)
def onI (a b i : Nat) : Nat := if a ≤ i ∧ i < b then 1 else 0
theorem onI_add {a b c : Nat} (h1 : a ≤ b) (h2 : b ≤ c) (i : Nat) : onI a b i + onI b c i = onI a c i := by
  unfold onI
  split <;> split <;> split <;> omega
theorem cov_one {L : List RN} {k : Nat} {x : RN} (h : L[k]? = some x) (i : Nat) : cov L i [k] = onI x.fr x.to i := by
  rw [cov, List.countP_cons, List.countP_nil, Nat.zero_add, covP, h]
  simp only [hasP, Bool.and_eq_true, decide_eq_true_eq]
  rfl
theorem cov_append (L : List RN) (i : Nat) (a b : List Nat) : cov L i (a ++ b) = cov L i a + cov L i b := by rw [cov, List.countP_append, ← cov, ← cov]
theorem RT.cover : ∀ (T : RT) (pre post : List RN) (up : Int) (p : Nat), T.ok → T.fr ≤ p → p < T.to → ∀ i, (if i = p then 1 else 0) + cov (pre ++ T.flat pre.length up ++ post) i (T.beside pre.length p) = onI T.fr T.to i
  | .leaf a, pre, post, up, p, _, h1, h2 => fun i => by
    simp only [RT.fr, RT.to] at h1 h2 ⊢
    simp only [RT.beside, cov, List.countP_nil, Nat.add_zero]
    unfold onI
    split <;> split <;> omega
  | .two lev a red l r, pre, post, up, p, ⟨k1, k2, k3⟩, h1, h2 => fun i => by
    simp only [RT.fr, RT.to] at h1 h2 ⊢
    have f1 := RT.fr_lt l k1
    have f2 := RT.fr_lt r k2
    have hA : (pre ++ l.flat pre.length ((pre.length + l.size + r.size : Nat) : Int)).length = pre.length + l.size := by rw [List.length_append, RT.flat_len]
    have e1 := flat_end pre (r.flat (pre.length + l.size) ((pre.length + l.size + r.size : Nat) : Int) ++ [⟨lev, a, red, l.fr, r.to, [pre.length + l.size - 1, pre.length + l.size + r.size - 1], up⟩] ++ post) l (pre.length + l.size - 1) ((pre.length + l.size + r.size : Nat) : Int) rfl
    have e2 := flat_end (pre ++ l.flat pre.length ((pre.length + l.size + r.size : Nat) : Int)) ([⟨lev, a, red, l.fr, r.to, [pre.length + l.size - 1, pre.length + l.size + r.size - 1], up⟩] ++ post) r (pre.length + l.size + r.size - 1) ((pre.length + l.size + r.size : Nat) : Int) (by rw [hA])
    rw [hA] at e2
    rw [RT.beside]
    by_cases hp : p < l.to
    · rw [if_pos hp]
      have := RT.cover l pre (r.flat (pre.length + l.size) ((pre.length + l.size + r.size : Nat) : Int) ++ [⟨lev, a, red, l.fr, r.to, [pre.length + l.size - 1, pre.length + l.size + r.size - 1], up⟩] ++ post) ((pre.length + l.size + r.size : Nat) : Int) p k1 h1 hp i
      simp only [RT.flat, List.append_assoc] at this e2 ⊢
      rw [cov_append, cov_one e2, RT.node_fr, RT.node_to, ← Nat.add_assoc, this, ← k3]
      exact onI_add (by omega) (by omega) i
    · rw [if_neg hp]
      have := RT.cover r (pre ++ l.flat pre.length ((pre.length + l.size + r.size : Nat) : Int)) ([⟨lev, a, red, l.fr, r.to, [pre.length + l.size - 1, pre.length + l.size + r.size - 1], up⟩] ++ post) ((pre.length + l.size + r.size : Nat) : Int) p k2 (by omega) h2 i
      rw [hA] at this
      simp only [RT.flat, List.append_assoc] at this e1 ⊢
      rw [cov_append, cov_one e1, RT.node_fr, RT.node_to, ← Nat.add_assoc, this, Nat.add_comm, ← k3]
      exact onI_add (by omega) (by omega) i
  | .three lev a l m r, pre, post, up, p, ⟨k1, k2, k3, k4, k5⟩, h1, h2 => fun i => by
    simp only [RT.fr, RT.to] at h1 h2 ⊢
    have f1 := RT.fr_lt l k1
    have f2 := RT.fr_lt m k2
    have f3 := RT.fr_lt r k3
    generalize hU : ((pre.length + l.size + m.size + r.size : Nat) : Int) = U at *
    have hA : (pre ++ l.flat pre.length U).length = pre.length + l.size := by rw [List.length_append, RT.flat_len]
    have hB : (pre ++ l.flat pre.length U ++ m.flat (pre.length + l.size) U).length = pre.length + l.size + m.size := by rw [List.length_append, RT.flat_len, hA]
    generalize hX : (⟨lev, a, false, l.fr, r.to, [pre.length + l.size - 1, pre.length + l.size + m.size - 1, pre.length + l.size + m.size + r.size - 1], up⟩ : RN) = X at *
    have e1 := flat_end pre (m.flat (pre.length + l.size) U ++ r.flat (pre.length + l.size + m.size) U ++ [X] ++ post) l (pre.length + l.size - 1) U rfl
    have e2 := flat_end (pre ++ l.flat pre.length U) (r.flat (pre.length + l.size + m.size) U ++ [X] ++ post) m (pre.length + l.size + m.size - 1) U (by rw [hA])
    have e3 := flat_end (pre ++ l.flat pre.length U ++ m.flat (pre.length + l.size) U) ([X] ++ post) r (pre.length + l.size + m.size + r.size - 1) U (by rw [hB])
    rw [hA] at e2
    rw [hB] at e3
    have two : ∀ (L : List RN) (x y : Nat), cov L i [x, y] = cov L i [x] + cov L i [y] := fun L x y => cov_append L i [x] [y]
    rw [RT.beside]
    by_cases hp : p < l.to
    · rw [if_pos hp]
      have := RT.cover l pre (m.flat (pre.length + l.size) U ++ r.flat (pre.length + l.size + m.size) U ++ [X] ++ post) U p k1 h1 hp i
      simp only [RT.flat, List.append_assoc, hU, hX] at this e2 e3 ⊢
      rw [cov_append, two, cov_one e2, cov_one e3, RT.node_fr, RT.node_to, RT.node_fr, RT.node_to, ← Nat.add_assoc, this]
      have a1 := onI_add (a := l.fr) (b := l.to) (c := m.to) (by omega) (by omega) i
      have a2 := onI_add (a := l.fr) (b := m.to) (c := r.to) (by omega) (by omega) i
      rw [← k4, ← k5]
      omega
    · rw [if_neg hp]
      by_cases hp2 : p < m.to
      · rw [if_pos hp2]
        have := RT.cover m (pre ++ l.flat pre.length U) (r.flat (pre.length + l.size + m.size) U ++ [X] ++ post) U p k2 (by omega) hp2 i
        rw [hA] at this
        simp only [RT.flat, List.append_assoc, hU, hX] at this e1 e3 ⊢
        rw [cov_append, two, cov_one e1, cov_one e3, RT.node_fr, RT.node_to, RT.node_fr, RT.node_to, ← Nat.add_assoc, this]
        have a1 := onI_add (a := l.fr) (b := l.to) (c := m.to) (by omega) (by omega) i
        have a2 := onI_add (a := l.fr) (b := m.to) (c := r.to) (by omega) (by omega) i
        rw [← k4, ← k5]
        omega
      · rw [if_neg hp2]
        have := RT.cover r (pre ++ l.flat pre.length U ++ m.flat (pre.length + l.size) U) ([X] ++ post) U p k3 (by omega) h2 i
        rw [hB] at this
        simp only [RT.flat, List.append_assoc, hU, hX] at this e1 e2 ⊢
        rw [cov_append, two, cov_one e1, cov_one e2, RT.node_fr, RT.node_to, RT.node_fr, RT.node_to, ← Nat.add_assoc, this]
        have a1 := onI_add (a := l.fr) (b := l.to) (c := m.to) (by omega) (by omega) i
        have a2 := onI_add (a := l.fr) (b := m.to) (c := r.to) (by omega) (by omega) i
        rw [← k4, ← k5]
        omega

end Go.Proofs.Ytmganbdbihjbmaa

