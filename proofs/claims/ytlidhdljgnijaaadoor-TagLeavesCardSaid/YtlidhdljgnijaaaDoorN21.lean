import Derived.Test.YtlidhdljgnijaaaDoorN20
import Derived.Test.YtlidhdljgnijaaaDoorN15
/-
  CONTRACT of the document's Path (coterieref11).
-/
set_option linter.unusedVariables false
namespace Go.Proofs.YtlidhdljgnijaaaDoor
open Go.RowKit

def hasI (p : Int) (x : RI) : Bool := decide (x.fr ≤ p) && decide (p < x.to_)
def wayI (p : Int) : Nat → List RI → List Nat
  | _, [] => []
  | i, x :: l => if hasI p x = true then i :: wayI p (i + 1) l else wayI p (i + 1) l
theorem wayI_of (p : Nat) : ∀ (i : Nat) (l : List RN), wayI (p : Int) i (l.map RN.i) = wayOf p i l
  | _, [] => rfl
  | i, x :: l => by
    have e : hasI (p : Int) x.i = hasP p x := by simp [hasI, hasP, RN.i]
    simp only [List.map_cons, wayI, wayOf, wayI_of p (i + 1) l, e]
/-- where a node's cells are -/
theorem NdR.range {w : World} {B : Nat} {A : Option Addr} {n c : Nat} {ns : List RI} (h : NdR w B A n c ns) {k : Nat} {x : RI} (hk : ns[k]? = some x) :
    ∃ b o Au cu, A = some ⟨b, o, none⟩ ∧ b < B ∧ w.rangeAt b (o + k * 7) (riC x (.slice Au x.kids.length cu)) ∧ x.kids.length ≤ cu ∧ cu ≤ maxLen ∧ Rd w B Au x.kids.length (x.kids.map iv) := by
  obtain ⟨us, h1, h2, h3⟩ := h.told
  have hkn : k < n := by have := (List.getElem?_eq_some_iff.1 hk).1; have := h.len; omega
  have hu : us[k]? = some us[k] := List.getElem?_eq_getElem (by omega)
  obtain ⟨Au, cu, e1, e2, e3, e4⟩ := h3 k x _ hk hu
  obtain ⟨b, o, rfl, hb, hc⟩ := h2.pos (by omega)
  refine ⟨b, o, Au, cu, rfl, hb, fun j u hj => ?_, e2, e3, e4⟩
  rw [← e1] at hj
  have hj7 : j < 7 := (List.getElem?_eq_some_iff.1 hj).1
  rw [Nat.add_assoc]
  refine hc (k * 7 + j) u ?_
  rw [cellsI_at ns us k j x _ (by rw [h1, h.len]) hk hu hj7]
  exact hj
def pathI (kind : Int) (ids : List Int) (ll : List (List Int)) (id : Int) : List Nat := if mayB kind ids ll = true ∧ isT ids id = true then wayI (belT ids id : Nat) 0 (nodesI kind ids ll) else []
def zN : Array Value := #[.int .i64 0, .int .i64 0, .bool false, .int .i64 0, .int .i64 0, .slice none 0 0, .int .i64 0]
end Go.Proofs.YtlidhdljgnijaaaDoor

/-
  NODES OF A TREE (layer 11): what RedHeight asks of each node, as pure facts.
-/
set_option linter.unusedVariables false
namespace Go.Proofs.YtlidhdljgnijaaaDoor

theorem RT.node_red (T : RT) (off : Nat) (up : Int) : (T.node off up).red = T.isRed := by cases T <;> rfl
/-- a node's form, and its kids' -/
def nodeOK (kind : Int) (L : List RN) (x : RN) : Prop :=
  x.kids.length ≠ 1 ∧ (x.kids.length : Int) ≤ 4 - kind ∧ (x.kids.length = 0 ↔ x.lev = 0) ∧ (x.red = true → kind = 2 ∧ x.lev ≠ 0) ∧
  ∀ (i k : Nat), x.kids[i]? = some k → ∃ y, L[k]? = some y ∧ (y.red = true → x.red = false ∧ i = 0)
theorem RT.nodes_ok {kind : Int} (hk : kind = 1 ∨ kind = 2) : ∀ (T : RT) (pre post : List RN) (up : Int), T.good kind → ∀ x ∈ T.flat pre.length up, nodeOK kind (pre ++ T.flat pre.length up ++ post) x
  | .leaf a, pre, post, up, _ => fun x hx => by
    simp only [RT.flat, List.mem_singleton] at hx
    subst hx
    refine ⟨by simp, ?_, by simp, fun h => by simp at h, fun i k h => by simp at h⟩
    simp only [List.length_nil]
    omega
  | .two lev a red l r, pre, post, up, ⟨h1, h2, h3, h4, h5, h6⟩ => fun x hx => by
    have hA : (pre ++ l.flat pre.length ((pre.length + l.size + r.size : Nat) : Int)).length = pre.length + l.size := by rw [List.length_append, RT.flat_len]
    have p1 := l.size_pos
    have p2 := r.size_pos
    simp only [RT.flat, List.mem_append, List.mem_singleton] at hx
    rcases hx with (hx | hx) | hx
    · have := RT.nodes_ok hk l pre (r.flat (pre.length + l.size) ((pre.length + l.size + r.size : Nat) : Int) ++ [⟨lev, a, red, l.fr, r.to, [pre.length + l.size - 1, pre.length + l.size + r.size - 1], up⟩] ++ post) _ h1 x hx
      simpa only [RT.flat, List.append_assoc] using this
    · have := RT.nodes_ok hk r (pre ++ l.flat pre.length ((pre.length + l.size + r.size : Nat) : Int)) ([⟨lev, a, red, l.fr, r.to, [pre.length + l.size - 1, pre.length + l.size + r.size - 1], up⟩] ++ post) ((pre.length + l.size + r.size : Nat) : Int) h2 x (by rw [hA]; exact hx)
      rw [hA] at this
      simpa only [RT.flat, List.append_assoc] using this
    · subst hx
      refine ⟨by simp, by simp only [List.length_cons, List.length_nil]; omega, by simp; omega, fun h => ⟨h6 h, Nat.ne_of_gt h3⟩, fun i k h => ?_⟩
      have e1 := flat_end pre (r.flat (pre.length + l.size) ((pre.length + l.size + r.size : Nat) : Int) ++ [⟨lev, a, red, l.fr, r.to, [pre.length + l.size - 1, pre.length + l.size + r.size - 1], up⟩] ++ post) l (pre.length + l.size - 1) ((pre.length + l.size + r.size : Nat) : Int) rfl
      have e2 := flat_end (pre ++ l.flat pre.length ((pre.length + l.size + r.size : Nat) : Int)) ([⟨lev, a, red, l.fr, r.to, [pre.length + l.size - 1, pre.length + l.size + r.size - 1], up⟩] ++ post) r (pre.length + l.size + r.size - 1) ((pre.length + l.size + r.size : Nat) : Int) (by rw [hA])
      rw [hA] at e2
      simp only [RT.flat, List.append_assoc] at e1 e2 ⊢
      match i, h with
      | 0, h =>
        simp at h
        subst h
        exact ⟨_, e1, fun h => ⟨h5 (by rw [← RT.node_red]; exact h), rfl⟩⟩
      | 1, h =>
        simp at h
        subst h
        exact ⟨_, e2, fun h => (by rw [RT.node_red, h4] at h; cases h)⟩
      | i + 2, h => simp at h
  | .three lev a l m r, pre, post, up, ⟨h1, h2, h3, h4, h5, h6, h7, h8⟩ => fun x hx => by
    generalize hU : ((pre.length + l.size + m.size + r.size : Nat) : Int) = U at *
    have hA : (pre ++ l.flat pre.length U).length = pre.length + l.size := by rw [List.length_append, RT.flat_len]
    have hB : (pre ++ l.flat pre.length U ++ m.flat (pre.length + l.size) U).length = pre.length + l.size + m.size := by rw [List.length_append, RT.flat_len, hA]
    have p1 := l.size_pos
    have p2 := m.size_pos
    have p3 := r.size_pos
    simp only [RT.flat, List.mem_append, List.mem_singleton, hU] at hx
    generalize hX : (⟨lev, a, false, l.fr, r.to, [pre.length + l.size - 1, pre.length + l.size + m.size - 1, pre.length + l.size + m.size + r.size - 1], up⟩ : RN) = X at *
    have hfl : (RT.three lev a l m r).flat pre.length up = l.flat pre.length U ++ m.flat (pre.length + l.size) U ++ r.flat (pre.length + l.size + m.size) U ++ [X] := by rw [RT.flat, hU, hX]
    rw [hfl]
    rcases hx with ((hx | hx) | hx) | hx
    · have := RT.nodes_ok hk l pre (m.flat (pre.length + l.size) U ++ r.flat (pre.length + l.size + m.size) U ++ [X] ++ post) _ h1 x hx
      simpa only [List.append_assoc] using this
    · have := RT.nodes_ok hk m (pre ++ l.flat pre.length U) (r.flat (pre.length + l.size + m.size) U ++ [X] ++ post) U h2 x (by rw [hA]; exact hx)
      rw [hA] at this
      simpa only [List.append_assoc] using this
    · have := RT.nodes_ok hk r (pre ++ l.flat pre.length U ++ m.flat (pre.length + l.size) U) ([X] ++ post) U h3 x (by rw [hB]; exact hx)
      rw [hB] at this
      simpa only [List.append_assoc] using this
    · subst hx
      have e1 := flat_end pre (m.flat (pre.length + l.size) U ++ r.flat (pre.length + l.size + m.size) U ++ [x] ++ post) l (pre.length + l.size - 1) U rfl
      have e2 := flat_end (pre ++ l.flat pre.length U) (r.flat (pre.length + l.size + m.size) U ++ [x] ++ post) m (pre.length + l.size + m.size - 1) U (by rw [hA])
      have e3 := flat_end (pre ++ l.flat pre.length U ++ m.flat (pre.length + l.size) U) ([x] ++ post) r (pre.length + l.size + m.size + r.size - 1) U (by rw [hB])
      rw [hA] at e2
      rw [hB] at e3
      simp only [List.append_assoc] at e1 e2 e3 ⊢
      have hk1 : kind = 1 := hk.resolve_right h8
      have f1 : x.kids.length = 3 := by rw [← hX]; rfl
      have f2 : x.lev = lev := by rw [← hX]
      have f3 : x.red = false := by rw [← hX]
      refine ⟨by omega, by rw [f1, hk1]; decide, ⟨fun h => by omega, fun h => by omega⟩, fun h => (by rw [f3] at h; cases h), fun i k h => ?_⟩
      rw [← hX] at h
      match i, h with
      | 0, h =>
        simp at h
        subst h
        exact ⟨_, e1, fun h => (by rw [RT.node_red, h5] at h; cases h)⟩
      | 1, h =>
        simp at h
        subst h
        exact ⟨_, e2, fun h => (by rw [RT.node_red, h6] at h; cases h)⟩
      | 2, h =>
        simp at h
        subst h
        exact ⟨_, e3, fun h => (by rw [RT.node_red, h7] at h; cases h)⟩
      | i + 3, h => simp at h

end Go.Proofs.YtlidhdljgnijaaaDoor

/-
  NODES OF A TREE (layer 11): a way up node by node, its leaf, what is beside it; how deep the nodes are; what is below a node: pure facts.
-/
set_option linter.unusedVariables false
namespace Go.Proofs.YtlidhdljgnijaaaDoor

/-- the next place of a way up -/
def nextU : List Nat → Int → Int
  | [], up => up
  | b :: _, _ => (b : Int)
/-- each node of a way has the next one above -/
def chainP (L : List RN) : List Nat → Int → Prop
  | [], _ => True
  | a :: l, up => (∃ x, L[a]? = some x ∧ x.up = nextU l up) ∧ chainP L l up
theorem nextU_snoc (l : List Nat) (q : Nat) (up : Int) : nextU (l ++ [q]) up = nextU l (q : Int) := by cases l <;> rfl
theorem chainP_snoc (L : List RN) (q : Nat) (up : Int) : ∀ P : List Nat, chainP L P (q : Int) → (∃ x, L[q]? = some x ∧ x.up = up) → chainP L (P ++ [q]) up
  | [], _, h => ⟨h, trivial⟩
  | a :: l, ⟨⟨x, h1, h2⟩, h3⟩, h => ⟨⟨x, h1, h2.trans (nextU_snoc l q up).symm⟩, chainP_snoc L q up l h3 h⟩
theorem RT.chain : ∀ (T : RT) (pre post : List RN) (up : Int) (p : Nat), T.ok → T.fr ≤ p → p < T.to → chainP (pre ++ T.flat pre.length up ++ post) (T.path pre.length p) up
  | .leaf a, pre, post, up, p, _, _, _ => ⟨⟨_, flat_end pre post (.leaf a) pre.length up (by simp [RT.size]), rfl⟩, trivial⟩
  | .two lev a red l r, pre, post, up, p, ⟨k1, k2, k3⟩, h1, h2 => by
    have hroot := flat_end pre post (.two lev a red l r) (pre.length + l.size + r.size) up (by simp only [RT.size]; omega)
    simp only [RT.fr, RT.to] at h1 h2
    have hA : (pre ++ l.flat pre.length ((pre.length + l.size + r.size : Nat) : Int)).length = pre.length + l.size := by rw [List.length_append, RT.flat_len]
    rw [RT.path]
    refine chainP_snoc _ _ _ _ ?_ ⟨_, hroot, RT.node_upv _ _ _⟩
    by_cases hp : p < l.to
    · rw [if_pos hp]
      have := RT.chain l pre (r.flat (pre.length + l.size) ((pre.length + l.size + r.size : Nat) : Int) ++ [⟨lev, a, red, l.fr, r.to, [pre.length + l.size - 1, pre.length + l.size + r.size - 1], up⟩] ++ post) ((pre.length + l.size + r.size : Nat) : Int) p k1 h1 hp
      simpa only [RT.flat, List.append_assoc] using this
    · rw [if_neg hp]
      have := RT.chain r (pre ++ l.flat pre.length ((pre.length + l.size + r.size : Nat) : Int)) ([⟨lev, a, red, l.fr, r.to, [pre.length + l.size - 1, pre.length + l.size + r.size - 1], up⟩] ++ post) ((pre.length + l.size + r.size : Nat) : Int) p k2 (by omega) h2
      rw [hA] at this
      simpa only [RT.flat, List.append_assoc] using this
  | .three lev a l m r, pre, post, up, p, ⟨k1, k2, k3, k4, k5⟩, h1, h2 => by
    have hroot := flat_end pre post (.three lev a l m r) (pre.length + l.size + m.size + r.size) up (by simp only [RT.size]; omega)
    simp only [RT.fr, RT.to] at h1 h2
    generalize hU : ((pre.length + l.size + m.size + r.size : Nat) : Int) = U at *
    have hA : (pre ++ l.flat pre.length U).length = pre.length + l.size := by rw [List.length_append, RT.flat_len]
    have hB : (pre ++ l.flat pre.length U ++ m.flat (pre.length + l.size) U).length = pre.length + l.size + m.size := by rw [List.length_append, RT.flat_len, hA]
    rw [RT.path]
    refine chainP_snoc _ _ _ _ ?_ ⟨_, hroot, RT.node_upv _ _ _⟩
    rw [hU]
    by_cases hp : p < l.to
    · rw [if_pos hp]
      have := RT.chain l pre (m.flat (pre.length + l.size) U ++ r.flat (pre.length + l.size + m.size) U ++ [⟨lev, a, false, l.fr, r.to, [pre.length + l.size - 1, pre.length + l.size + m.size - 1, pre.length + l.size + m.size + r.size - 1], up⟩] ++ post) U p k1 h1 hp
      simpa only [RT.flat, List.append_assoc, hU] using this
    · rw [if_neg hp]
      by_cases hp2 : p < m.to
      · rw [if_pos hp2]
        have := RT.chain m (pre ++ l.flat pre.length U) (r.flat (pre.length + l.size + m.size) U ++ [⟨lev, a, false, l.fr, r.to, [pre.length + l.size - 1, pre.length + l.size + m.size - 1, pre.length + l.size + m.size + r.size - 1], up⟩] ++ post) U p k2 (by omega) hp2
        rw [hA] at this
        simpa only [RT.flat, List.append_assoc, hU] using this
      · rw [if_neg hp2]
        have := RT.chain r (pre ++ l.flat pre.length U ++ m.flat (pre.length + l.size) U) ([⟨lev, a, false, l.fr, r.to, [pre.length + l.size - 1, pre.length + l.size + m.size - 1, pre.length + l.size + m.size + r.size - 1], up⟩] ++ post) U p k3 (by omega) h2
        rw [hB] at this
        simpa only [RT.flat, List.append_assoc, hU] using this
theorem RT.path_leaf : ∀ (T : RT) (pre post : List RN) (up : Int) (p : Nat), T.ok → T.fr ≤ p → p < T.to → ∃ a l x, T.path pre.length p = a :: l ∧ (pre ++ T.flat pre.length up ++ post)[a]? = some x ∧ x.lev = 0 ∧ x.at_ = p ∧ x.kids = []
  | .leaf a, pre, post, up, p, _, h1, h2 => by
    simp only [RT.fr, RT.to] at h1 h2
    exact ⟨_, _, _, rfl, flat_end pre post (.leaf a) pre.length up (by simp [RT.size]), rfl, by simp only [RT.node]; omega, rfl⟩
  | .two lev a red l r, pre, post, up, p, ⟨k1, k2, k3⟩, h1, h2 => by
    simp only [RT.fr, RT.to] at h1 h2
    have hA : (pre ++ l.flat pre.length ((pre.length + l.size + r.size : Nat) : Int)).length = pre.length + l.size := by rw [List.length_append, RT.flat_len]
    rw [RT.path]
    by_cases hp : p < l.to
    · rw [if_pos hp]
      obtain ⟨b, t, x, e, hx⟩ := RT.path_leaf l pre (r.flat (pre.length + l.size) ((pre.length + l.size + r.size : Nat) : Int) ++ [⟨lev, a, red, l.fr, r.to, [pre.length + l.size - 1, pre.length + l.size + r.size - 1], up⟩] ++ post) ((pre.length + l.size + r.size : Nat) : Int) p k1 h1 hp
      exact ⟨b, t ++ [pre.length + l.size + r.size], x, by rw [e]; rfl, by simpa only [RT.flat, List.append_assoc] using hx⟩
    · rw [if_neg hp]
      obtain ⟨b, t, x, e, hx⟩ := RT.path_leaf r (pre ++ l.flat pre.length ((pre.length + l.size + r.size : Nat) : Int)) ([⟨lev, a, red, l.fr, r.to, [pre.length + l.size - 1, pre.length + l.size + r.size - 1], up⟩] ++ post) ((pre.length + l.size + r.size : Nat) : Int) p k2 (by omega) h2
      rw [hA] at e hx
      exact ⟨b, t ++ [pre.length + l.size + r.size], x, by rw [e]; rfl, by simpa only [RT.flat, List.append_assoc] using hx⟩
  | .three lev a l m r, pre, post, up, p, ⟨k1, k2, k3, k4, k5⟩, h1, h2 => by
    simp only [RT.fr, RT.to] at h1 h2
    generalize hU : ((pre.length + l.size + m.size + r.size : Nat) : Int) = U at *
    have hA : (pre ++ l.flat pre.length U).length = pre.length + l.size := by rw [List.length_append, RT.flat_len]
    have hB : (pre ++ l.flat pre.length U ++ m.flat (pre.length + l.size) U).length = pre.length + l.size + m.size := by rw [List.length_append, RT.flat_len, hA]
    rw [RT.path]
    by_cases hp : p < l.to
    · rw [if_pos hp]
      obtain ⟨b, t, x, e, hx⟩ := RT.path_leaf l pre (m.flat (pre.length + l.size) U ++ r.flat (pre.length + l.size + m.size) U ++ [⟨lev, a, false, l.fr, r.to, [pre.length + l.size - 1, pre.length + l.size + m.size - 1, pre.length + l.size + m.size + r.size - 1], up⟩] ++ post) U p k1 h1 hp
      exact ⟨b, t ++ [pre.length + l.size + m.size + r.size], x, by rw [e]; rfl, by simpa only [RT.flat, List.append_assoc, hU] using hx⟩
    · rw [if_neg hp]
      by_cases hp2 : p < m.to
      · rw [if_pos hp2]
        obtain ⟨b, t, x, e, hx⟩ := RT.path_leaf m (pre ++ l.flat pre.length U) (r.flat (pre.length + l.size + m.size) U ++ [⟨lev, a, false, l.fr, r.to, [pre.length + l.size - 1, pre.length + l.size + m.size - 1, pre.length + l.size + m.size + r.size - 1], up⟩] ++ post) U p k2 (by omega) hp2
        rw [hA] at e hx
        exact ⟨b, t ++ [pre.length + l.size + m.size + r.size], x, by rw [e]; rfl, by simpa only [RT.flat, List.append_assoc, hU] using hx⟩
      · rw [if_neg hp2]
        obtain ⟨b, t, x, e, hx⟩ := RT.path_leaf r (pre ++ l.flat pre.length U ++ m.flat (pre.length + l.size) U) ([⟨lev, a, false, l.fr, r.to, [pre.length + l.size - 1, pre.length + l.size + m.size - 1, pre.length + l.size + m.size + r.size - 1], up⟩] ++ post) U p k3 (by omega) h2
        rw [hB] at e hx
        exact ⟨b, t ++ [pre.length + l.size + m.size + r.size], x, by rw [e]; rfl, by simpa only [RT.flat, List.append_assoc, hU] using hx⟩
theorem RT.path_last (T : RT) (off p : Nat) : (T.path off p).getLast? = some (off + T.size - 1) := by
  cases T with
  | leaf a => simp [RT.path, RT.size]
  | two lev a red l r => rw [RT.path, List.getLast?_append]; simp [RT.size]; omega
  | three lev a l m r => rw [RT.path, List.getLast?_append]; simp [RT.size]; omega
/-- nodes ahead of a way's leaf have not the leaf below -/
theorem way_min (p : Nat) : ∀ (i : Nat) (l : List RN) (a : Nat) (t : List Nat), wayOf p i l = a :: t → ∀ (j : Nat) (y : RN), l[j]? = some y → i + j < a → hasP p y = false
  | i, [], a, t, h => by simp [wayOf] at h
  | i, x :: l, a, t, h => fun j y hj hlt => by
    rw [wayOf] at h
    by_cases hx : hasP p x = true
    · rw [if_pos hx] at h
      injection h with h
      omega
    · rw [if_neg hx] at h
      cases j with
      | zero =>
        simp at hj
        subst hj
        simpa using hx
      | succ j => exact way_min p (i + 1) l a t h j y (by simpa using hj) (by omega)
theorem way_mem (p : Nat) : ∀ (i : Nat) (l : List RN), ∀ a ∈ wayOf p i l, i ≤ a ∧ ∃ y, l[a - i]? = some y ∧ hasP p y = true
  | i, [] => fun a h => by simp [wayOf] at h
  | i, x :: l => fun a h => by
    rw [wayOf] at h
    have ih := way_mem p (i + 1) l
    by_cases hx : hasP p x = true
    · rw [if_pos hx] at h
      rcases List.mem_cons.1 h with rfl | h
      · exact ⟨Nat.le_refl _, x, by simp, hx⟩
      · obtain ⟨h1, y, h2, h3⟩ := ih a h
        refine ⟨by omega, y, ?_, h3⟩
        rw [show a - i = (a - (i + 1)) + 1 by omega]
        exact h2
    · rw [if_neg hx] at h
      obtain ⟨h1, y, h2, h3⟩ := ih a h
      refine ⟨by omega, y, ?_, h3⟩
      rw [show a - i = (a - (i + 1)) + 1 by omega]
      exact h2
theorem way_rise (p : Nat) : ∀ (i : Nat) (l : List RN), (wayOf p i l).Pairwise (· < ·)
  | i, [] => by simp [wayOf]
  | i, x :: l => by
    rw [wayOf]
    split
    · refine List.pairwise_cons.2 ⟨fun a ha => ?_, way_rise p (i + 1) l⟩
      have := (way_mem p (i + 1) l a ha).1
      omega
    · exact way_rise p (i + 1) l

/-- what is below a node has its leaves, one behind the other -/
def spanK (L : List RN) : Nat → List Nat → Nat → Prop
  | q, [], z => q = z
  | q, k :: ks, z => ∃ y, L[k]? = some y ∧ y.fr = q ∧ spanK L y.to ks z
def nodeKid (L : List RN) (q : Nat) (x : RN) : Prop :=
  (x.kids ≠ [] → spanK L x.fr x.kids x.to) ∧ (∀ k ∈ x.kids, ∃ y, L[k]? = some y ∧ y.up = (q : Int)) ∧ (x.lev = 0 → x.fr = x.at_ ∧ x.to = x.at_ + 1) ∧ (∀ k ∈ x.kids, k < q)
theorem RT.kid_ok {kind : Int} : ∀ (T : RT) (pre post : List RN) (up : Int), T.good kind → T.ok → ∀ (q : Nat) (x : RN), pre.length ≤ q → q < pre.length + T.size → (pre ++ T.flat pre.length up ++ post)[q]? = some x → nodeKid (pre ++ T.flat pre.length up ++ post) q x
  | .leaf a, pre, post, up, _, _, q, x, h1, h2, hx => by
    have e := flat_end pre post (.leaf a) q up (by simp only [RT.size] at h2 ⊢; omega)
    rw [e] at hx
    have hx := Option.some.inj hx
    subst hx
    exact ⟨fun h => absurd rfl h, fun k hk => by simp [RT.node] at hk, fun _ => ⟨rfl, rfl⟩, fun k hk => by simp [RT.node] at hk⟩
  | .two lev a red l r, pre, post, up, ⟨g1, g2, g3, _⟩, ⟨k1, k2, k3⟩, q, x, h1, h2, hx => by
    have hroot := flat_end pre post (.two lev a red l r) (pre.length + l.size + r.size) up (by simp only [RT.size]; omega)
    have p1 := l.size_pos
    have p2 := r.size_pos
    simp only [RT.size] at h2
    have hA : (pre ++ l.flat pre.length ((pre.length + l.size + r.size : Nat) : Int)).length = pre.length + l.size := by rw [List.length_append, RT.flat_len]
    have c1 := RT.kid_ok l pre (r.flat (pre.length + l.size) ((pre.length + l.size + r.size : Nat) : Int) ++ [⟨lev, a, red, l.fr, r.to, [pre.length + l.size - 1, pre.length + l.size + r.size - 1], up⟩] ++ post) ((pre.length + l.size + r.size : Nat) : Int) g1 k1 q x
    have c2 := RT.kid_ok r (pre ++ l.flat pre.length ((pre.length + l.size + r.size : Nat) : Int)) ([⟨lev, a, red, l.fr, r.to, [pre.length + l.size - 1, pre.length + l.size + r.size - 1], up⟩] ++ post) ((pre.length + l.size + r.size : Nat) : Int) g2 k2 q x
    have e1 := flat_end pre (r.flat (pre.length + l.size) ((pre.length + l.size + r.size : Nat) : Int) ++ [⟨lev, a, red, l.fr, r.to, [pre.length + l.size - 1, pre.length + l.size + r.size - 1], up⟩] ++ post) l (pre.length + l.size - 1) ((pre.length + l.size + r.size : Nat) : Int) rfl
    have e2 := flat_end (pre ++ l.flat pre.length ((pre.length + l.size + r.size : Nat) : Int)) ([⟨lev, a, red, l.fr, r.to, [pre.length + l.size - 1, pre.length + l.size + r.size - 1], up⟩] ++ post) r (pre.length + l.size + r.size - 1) ((pre.length + l.size + r.size : Nat) : Int) (by rw [hA])
    rw [hA] at e2 c2
    simp only [RT.flat, List.append_assoc] at e1 e2 c1 c2 hx hroot ⊢
    rcases Nat.lt_or_ge q (pre.length + l.size) with hq | hq
    · exact c1 h1 hq hx
    · rcases Nat.lt_or_ge q (pre.length + l.size + r.size) with hq2 | hq2
      · exact c2 hq hq2 hx
      · obtain rfl : q = pre.length + l.size + r.size := by omega
        rw [hroot] at hx
        have hx := Option.some.inj hx
        subst hx
        refine ⟨fun _ => ⟨_, e1, RT.node_fr _ _ _, _, e2, ?_, RT.node_to _ _ _⟩, fun k hk => ?_, fun h => ?_, fun k hk => ?_⟩
        · rw [RT.node_fr, RT.node_to, k3]
        · simp only [RT.node, List.mem_cons, List.not_mem_nil, or_false] at hk
          rcases hk with rfl | rfl
          · exact ⟨_, e1, RT.node_upv _ _ _⟩
          · exact ⟨_, e2, RT.node_upv _ _ _⟩
        · simp only [RT.node] at h
          omega
        · simp only [RT.node, List.mem_cons, List.not_mem_nil, or_false] at hk
          omega
  | .three lev a l m r, pre, post, up, ⟨g1, g2, g3, g4, _⟩, ⟨k1, k2, k3, k4, k5⟩, q, x, h1, h2, hx => by
    have hroot := flat_end pre post (.three lev a l m r) (pre.length + l.size + m.size + r.size) up (by simp only [RT.size]; omega)
    have p1 := l.size_pos
    have p2 := m.size_pos
    have p3 := r.size_pos
    simp only [RT.size] at h2
    have hUU : ∀ U : Int, U = ((pre.length + l.size + m.size + r.size : Nat) : Int) → nodeKid (pre ++ (RT.three lev a l m r).flat pre.length up ++ post) q x := by
      intro U hU
      have hA : (pre ++ l.flat pre.length U).length = pre.length + l.size := by rw [List.length_append, RT.flat_len]
      have hB : (pre ++ l.flat pre.length U ++ m.flat (pre.length + l.size) U).length = pre.length + l.size + m.size := by rw [List.length_append, RT.flat_len, hA]
      have c1 := RT.kid_ok l pre (m.flat (pre.length + l.size) U ++ r.flat (pre.length + l.size + m.size) U ++ [⟨lev, a, false, l.fr, r.to, [pre.length + l.size - 1, pre.length + l.size + m.size - 1, pre.length + l.size + m.size + r.size - 1], up⟩] ++ post) U g1 k1 q x
      have c2 := RT.kid_ok m (pre ++ l.flat pre.length U) (r.flat (pre.length + l.size + m.size) U ++ [⟨lev, a, false, l.fr, r.to, [pre.length + l.size - 1, pre.length + l.size + m.size - 1, pre.length + l.size + m.size + r.size - 1], up⟩] ++ post) U g2 k2 q x
      have c3 := RT.kid_ok r (pre ++ l.flat pre.length U ++ m.flat (pre.length + l.size) U) ([⟨lev, a, false, l.fr, r.to, [pre.length + l.size - 1, pre.length + l.size + m.size - 1, pre.length + l.size + m.size + r.size - 1], up⟩] ++ post) U g3 k3 q x
      have e1 := flat_end pre (m.flat (pre.length + l.size) U ++ r.flat (pre.length + l.size + m.size) U ++ [⟨lev, a, false, l.fr, r.to, [pre.length + l.size - 1, pre.length + l.size + m.size - 1, pre.length + l.size + m.size + r.size - 1], up⟩] ++ post) l (pre.length + l.size - 1) U rfl
      have e2 := flat_end (pre ++ l.flat pre.length U) (r.flat (pre.length + l.size + m.size) U ++ [⟨lev, a, false, l.fr, r.to, [pre.length + l.size - 1, pre.length + l.size + m.size - 1, pre.length + l.size + m.size + r.size - 1], up⟩] ++ post) m (pre.length + l.size + m.size - 1) U (by rw [hA])
      have e3 := flat_end (pre ++ l.flat pre.length U ++ m.flat (pre.length + l.size) U) ([⟨lev, a, false, l.fr, r.to, [pre.length + l.size - 1, pre.length + l.size + m.size - 1, pre.length + l.size + m.size + r.size - 1], up⟩] ++ post) r (pre.length + l.size + m.size + r.size - 1) U (by rw [hB])
      rw [hA] at e2 c2
      rw [hB] at e3 c3
      simp only [RT.flat, List.append_assoc, ← hU] at e1 e2 e3 c1 c2 c3 hx hroot ⊢
      rcases Nat.lt_or_ge q (pre.length + l.size) with hq | hq
      · exact c1 h1 hq hx
      · rcases Nat.lt_or_ge q (pre.length + l.size + m.size) with hq2 | hq2
        · exact c2 hq hq2 hx
        · rcases Nat.lt_or_ge q (pre.length + l.size + m.size + r.size) with hq3 | hq3
          · exact c3 hq2 hq3 hx
          · obtain rfl : q = pre.length + l.size + m.size + r.size := by omega
            rw [hroot] at hx
            have hx := Option.some.inj hx
            subst hx
            refine ⟨fun _ => ⟨_, e1, RT.node_fr _ _ _, _, e2, ?_, _, e3, ?_, RT.node_to _ _ _⟩, fun k hk => ?_, fun h => ?_, fun k hk => ?_⟩
            · rw [RT.node_fr, RT.node_to, k4]
            · rw [RT.node_fr, RT.node_to, k5]
            · simp only [RT.node, List.mem_cons, List.not_mem_nil, or_false] at hk
              rw [← hU]
              rcases hk with rfl | rfl | rfl
              · exact ⟨_, e1, RT.node_upv _ _ _⟩
              · exact ⟨_, e2, RT.node_upv _ _ _⟩
              · exact ⟨_, e3, RT.node_upv _ _ _⟩
            · simp only [RT.node] at h
              omega
            · simp only [RT.node, List.mem_cons, List.not_mem_nil, or_false] at hk
              omega
    exact hUU _ rfl

end Go.Proofs.YtlidhdljgnijaaaDoor

/-
  NODES OF A TREE (layer 11): what is beside a way, and that it covers all other leaves, each once: pure facts.
-/
set_option linter.unusedVariables false
namespace Go.Proofs.YtlidhdljgnijaaaDoor

end Go.Proofs.YtlidhdljgnijaaaDoor

/-
  CONTRACT of the document's High (coterieref11).
-/
set_option linter.unusedVariables false
namespace Go.Proofs.YtlidhdljgnijaaaDoor
open Go.RowKit

end Go.Proofs.YtlidhdljgnijaaaDoor

/-
  CONTRACT of the document's Beside (coterieref11).
-/
set_option linter.unusedVariables false
namespace Go.Proofs.YtlidhdljgnijaaaDoor
open Go.RowKit

theorem RT.kids3 : ∀ (T : RT) (off : Nat) (up : Int), ∀ x ∈ T.flat off up, x.kids.length ≤ 3
  | .leaf a, off, up => fun x hx => by
    simp only [RT.flat, List.mem_singleton] at hx
    subst hx
    simp
  | .two lev a red l r, off, up => fun x hx => by
    simp only [RT.flat, List.mem_append, List.mem_singleton] at hx
    rcases hx with (hx | hx) | hx
    · exact RT.kids3 l _ _ x hx
    · exact RT.kids3 r _ _ x hx
    · subst hx; simp
  | .three lev a l m r, off, up => fun x hx => by
    simp only [RT.flat, List.mem_append, List.mem_singleton] at hx
    rcases hx with ((hx | hx) | hx) | hx
    · exact RT.kids3 l _ _ x hx
    · exact RT.kids3 m _ _ x hx
    · exact RT.kids3 r _ _ x hx
    · subst hx; simp
theorem nodesI_kids (kind : Int) (ids : List Int) (ll : List (List Int)) : ∀ x ∈ nodesI kind ids ll, x.kids.length ≤ 3 := by
  intro x hx
  rw [nodesI] at hx
  split at hx
  · obtain ⟨y, hy, rfl⟩ := List.mem_map.1 hx
    rw [nodesU] at hy
    split at hy
    · simp at hy
    · have := RT.kids3 _ _ _ y hy
      simpa [RN.i, castL_len] using this
  · simp at hx
end Go.Proofs.YtlidhdljgnijaaaDoor

/-
  NODES OF A TREE (layer 11): what the document's answers are of a tree that may be: pure facts.
-/
set_option linter.unusedVariables false
namespace Go.Proofs.YtlidhdljgnijaaaDoor

theorem wideN_top : ∀ (lv : List (List Nat)) (many : Nat), lvOK many lv → wideN many lv lv.length ≤ 1
  | [], many, h => h
  | [l], many, ⟨_, _, _, h⟩ => by simpa [wideN, lvOK] using h
  | l :: m :: ls, many, ⟨_, _, _, h⟩ => by
    have := wideN_top (m :: ls) l.length h
    simpa [wideN] using this
theorem leafS_zero (lv : List (List Nat)) : ∀ k, leafS lv k 0 = 0
  | 0 => rfl
  | k + 1 => by rw [leafS, startT_zero, leafS_zero lv k]
theorem leafS_all {many : Nat} {lv : List (List Nat)} (hs : lvSum many lv) : ∀ k, k ≤ lv.length → leafS lv k (wideN many lv k) = many
  | 0, _ => rfl
  | k + 1, hk => by
    have hl : lv[k]? = some lv[k] := List.getElem?_eq_getElem (by omega)
    rw [leafS, wideN, getD_at hl, startT_all, wideN_sum hs hl]
    exact leafS_all hs k (by omega)
/-- a tree that may be, and has members -/
structure TopF (kind : Int) (ids : List Int) (ll : List (List Int)) (T : RT) : Prop where
  k12 : kind = 1 ∨ kind = 2
  ok : T.ok
  good : T.good kind
  fr : T.fr = 0
  to_ : T.to = ids.length
  nodes : nodesI kind ids ll = (T.flat 0 (-1)).map RN.i
  size : T.size + 1 ≤ 2 * ids.length
  n : ids.length ≤ 1000
  high : T.high ≤ if kind = 2 then 2 * (lvN ll).length else (lvN ll).length
  pow : 2 ^ (lvN ll).length ≤ ids.length
  rise : ids.Pairwise (· < ·)
theorem top_facts {kind : Int} {ids : List Int} {ll : List (List Int)} (hm : mayB kind ids ll = true) (h0 : 0 < ids.length) : TopF kind ids ll (treeOf kind (lvN ll) (lvN ll).length 0) := by
  have hm' := hm
  rw [mayB, Bool.and_eq_true] at hm'
  have hk : kind = 1 ∨ kind = 2 := by simpa using hm'.1
  obtain ⟨h1, h2, h3, _⟩ := chkT_lv hm'.2
  have hs := lvOK_sum _ _ h3
  have hw0 := wideN_pos hs h0 _ (Nat.le_refl _)
  have hw1 := wideN_top _ _ h3
  obtain ⟨o1, o2, o3⟩ := treeOf_ok (kind := kind) hs _ 0 (Nat.le_refl _) hw0
  refine ⟨hk, o1, treeOf_good _ _ _ _, by rw [o2, leafS_zero], ?_, ?_, treeOf_size hs (Nat.le_refl _) hw0, h1, treeOf_high _ _ _ _, lvOK_high _ _ h3 h0, okI_rise _ h2⟩
  · rw [o3, show 0 + 1 = wideN ids.length (lvN ll) (lvN ll).length by omega]
    exact leafS_all hs _ (Nat.le_refl _)
  · rw [nodesI, if_pos hm, nodesU, if_neg (by omega)]
theorem path_top {kind : Int} {ids : List Int} {ll : List (List Int)} {id : Int} {T : RT} (hT : TopF kind ids ll T) (hm : mayB kind ids ll = true) (hi : isT ids id = true) : pathI kind ids ll id = T.path 0 (belT ids id) ∧ belT ids id < ids.length := by
  obtain ⟨hb, _⟩ := rise_bel ids id hT.rise hi
  refine ⟨?_, hb⟩
  rw [pathI, if_pos ⟨hm, hi⟩, hT.nodes, wayI_of]
  exact RT.way T 0 (-1) _ hT.ok (by rw [hT.fr]; omega) (by rw [hT.to_]; exact hb)
theorem bel_get {ids : List Int} (hr : ids.Pairwise (· < ·)) {p : Nat} (hp : p < ids.length) : isT ids ids[p] = true ∧ belT ids ids[p] = p := by
  have hi : isT ids ids[p] = true := by
    rw [isT, List.any_eq_true]
    exact ⟨_, List.getElem_mem hp, by simp⟩
  obtain ⟨hb, e⟩ := rise_bel ids ids[p] hr hi
  refine ⟨hi, ?_⟩
  rw [List.pairwise_iff_getElem] at hr
  rcases Nat.lt_trichotomy (belT ids ids[p]) p with h | h | h
  · have := hr _ _ hb hp h; omega
  · exact h
  · have := hr _ _ hp hb h; omega
/-- a way up: its leaf is the first one, and each has the next one above -/
structure WayF (ns : List RN) (p : Nat) (P : List Nat) : Prop where
  chain : chainP ns P (-1)
  first : ∃ a t x, P = a :: t ∧ ns[a]? = some x ∧ x.lev = 0 ∧ x.at_ = p ∧ x.kids = [] ∧ ∀ (i : Nat) (y : RN), i < a → ns[i]? = some y → ¬ (y.lev = 0 ∧ y.at_ = p)
  rise : P.Pairwise (· < ·)
  last : P.getLast? = some (ns.length - 1)
  has : ∀ k ∈ P, ∃ y, ns[k]? = some y ∧ hasP p y = true
theorem way_top {kind : Int} {ids : List Int} {ll : List (List Int)} {T : RT} (hT : TopF kind ids ll T) {p : Nat} (hp : p < ids.length) : WayF (T.flat 0 (-1)) p (T.path 0 p) := by
  have h1 : T.fr ≤ p := by rw [hT.fr]; omega
  have h2 : p < T.to := by rw [hT.to_]; exact hp
  have hw := RT.way T 0 (-1) p hT.ok h1 h2
  have hc := RT.chain T [] [] (-1) p hT.ok h1 h2
  obtain ⟨a, t, x, e1, e2, e3, e4, e5⟩ := RT.path_leaf T [] [] (-1) p hT.ok h1 h2
  have hk := fun q y => RT.kid_ok T [] [] (-1) hT.good hT.ok q y
  have hl := RT.path_last T 0 p
  simp only [List.length_nil, List.nil_append, List.append_nil, Nat.zero_add] at hc e1 e2 hk hl
  refine ⟨hc, ⟨a, t, x, e1, e2, e3, e4, e5, fun i y hi hy hb => ?_⟩, by rw [← hw]; exact way_rise _ _ _, by rw [RT.flat_len]; exact hl, fun k hk' => ?_⟩
  · have hmin := way_min p 0 _ a t (hw.trans e1) i y hy (by omega)
    have hlt : i < T.size := by rw [← RT.flat_len T 0 (-1)]; exact (List.getElem?_eq_some_iff.1 hy).1
    have h3 := (hk i y (by omega) (by omega) hy).2.2.1 hb.1
    simp only [hasP, Bool.and_eq_false_iff, decide_eq_false_iff_not] at hmin
    omega
  · rw [← hw] at hk'
    obtain ⟨_, y, h3, h4⟩ := way_mem p 0 _ k hk'
    exact ⟨y, by simpa using h3, h4⟩

theorem kid_top {kind : Int} {ids : List Int} {ll : List (List Int)} {T : RT} (hT : TopF kind ids ll T) : ∀ (q : Nat) (x : RN), (T.flat 0 (-1))[q]? = some x → nodeKid (T.flat 0 (-1)) q x := fun q x hx => by
  have hlt : q < T.size := by rw [← RT.flat_len T 0 (-1)]; exact (List.getElem?_eq_some_iff.1 hx).1
  have := RT.kid_ok T [] [] (-1) hT.good hT.ok q x
  simp only [List.length_nil, List.nil_append, List.append_nil, Nat.zero_add] at this
  exact this (by omega) hlt hx
end Go.Proofs.YtlidhdljgnijaaaDoor

