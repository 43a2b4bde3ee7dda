import Derived.Test.YtlidhdljgnijaaaDoorN04
import Derived.Test.YtlidhdljgnijaaaDoorN06
import Derived.Maps.AppendAt
import Derived.Test.YtlidhdljgnijaaaDoorN05
/-
  NODES IN MEMORY: what a node's kids read, lists of nodes, and appending nodes.
-/
set_option linter.unusedVariables false
namespace Go.Proofs.YtlidhdljgnijaaaDoor
open Go.RowKit

/-- nodes' cells: of each its number, and what is below -/
def flatV : List Nd → List Value → List Value
  | x :: F, v :: vs => iv x.id :: v :: flatV F vs
  | _, _ => []
/-- what a node has below, as a value -/
def NdV (w : World) (B : Nat) : Nd → Value → Prop
  | .leaf _, v => v = .slice none 0 0
  | .one a, v => ∃ A c x, v = .slice A 1 c ∧ 1 ≤ c ∧ c ≤ maxLen ∧ Rd w B A 2 (flatV [a] [x]) ∧ NdV w B a x
  | .two a b, v => ∃ A c x y, v = .slice A 2 c ∧ 2 ≤ c ∧ c ≤ maxLen ∧ Rd w B A 4 (flatV [a, b] [x, y]) ∧ NdV w B a x ∧ NdV w B b y
  | .three a b d, v => ∃ A c x y z, v = .slice A 3 c ∧ 3 ≤ c ∧ c ≤ maxLen ∧ Rd w B A 6 (flatV [a, b, d] [x, y, z]) ∧ NdV w B a x ∧ NdV w B b y ∧ NdV w B d z
def NdL (w : World) (B : Nat) : List Nd → List Value → Prop
  | [], [] => True
  | x :: F, v :: vs => NdV w B x v ∧ NdL w B F vs
  | _, _ => False
/-- a slice of nodes -/
def SlN (w : World) (B : Nat) (A : Option Addr) (n c : Nat) (F : List Nd) : Prop :=
  F.length = n ∧ n ≤ c ∧ c ≤ maxLen ∧ ∃ vs, NdL w B F vs ∧ Rd w B A (2 * n) (flatV F vs)

theorem NdV.keep {w w' : World} {B B' : Nat} (hk : ∀ (A : Option Addr) (n : Nat) (xs : List Value), Rd w B A n xs → Rd w' B' A n xs) : ∀ (x : Nd) (v : Value), NdV w B x v → NdV w' B' x v
  | .leaf _, v, h => h
  | .one a, v, ⟨A, c, x, h1, h2, h3, h4, h5⟩ => ⟨A, c, x, h1, h2, h3, hk _ _ _ h4, NdV.keep hk a x h5⟩
  | .two a b, v, ⟨A, c, x, y, h1, h2, h3, h4, h5, h6⟩ => ⟨A, c, x, y, h1, h2, h3, hk _ _ _ h4, NdV.keep hk a x h5, NdV.keep hk b y h6⟩
  | .three a b d, v, ⟨A, c, x, y, z, h1, h2, h3, h4, h5, h6, h7⟩ => ⟨A, c, x, y, z, h1, h2, h3, hk _ _ _ h4, NdV.keep hk a x h5, NdV.keep hk b y h6, NdV.keep hk d z h7⟩
theorem NdL.keep {w w' : World} {B B' : Nat} (hk : ∀ (A : Option Addr) (n : Nat) (xs : List Value), Rd w B A n xs → Rd w' B' A n xs) : ∀ (F : List Nd) (vs : List Value), NdL w B F vs → NdL w' B' F vs
  | [], [], _ => trivial
  | x :: F, v :: vs, ⟨h1, h2⟩ => ⟨NdV.keep hk x v h1, NdL.keep hk F vs h2⟩
theorem SlN.keep {w w' : World} {B B' : Nat} (hk : ∀ (A : Option Addr) (n : Nat) (xs : List Value), Rd w B A n xs → Rd w' B' A n xs) {A : Option Addr} {n c : Nat} {F : List Nd} (h : SlN w B A n c F) : SlN w' B' A n c F := by
  obtain ⟨h1, h2, h3, vs, h4, h5⟩ := h
  exact ⟨h1, h2, h3, vs, NdL.keep hk F vs h4, hk _ _ _ h5⟩
theorem SlN.below {w w' : World} {B : Nat} {A : Option Addr} {n c : Nat} {F : List Nd} (h : SlN w B A n c F) (hb : Below B w w') : SlN w' B A n c F := h.keep fun _ _ _ hr => hr.below hb
theorem SlN.more {w : World} {B B' : Nat} {A : Option Addr} {n c : Nat} {F : List Nd} (h : SlN w B A n c F) (hb : B ≤ B') : SlN w B' A n c F := h.keep fun _ _ _ hr => hr.more hb
theorem SlN.alloc {w : World} {B : Nat} {A : Option Addr} {n c : Nat} {F : List Nd} (h : SlN w B A n c F) (hB : B ≤ w.heap.size) (o : Obj) : SlN (w.alloc o) B A n c F := h.keep fun _ _ _ hr => hr.alloc hB o
theorem SlN.grown {w w' : World} {B : Nat} {A : Option Addr} {n c : Nat} {F : List Nd} {row : Option Nat} (h : SlN w B A n c F) (hg : w.grownBy w' row) (hB : B ≤ w.heap.size) (hr : ∀ g, row = some g → B ≤ g) : SlN w' B A n c F := h.keep fun _ _ _ h => h.grown hg hB hr
theorem SlN.drew {w : World} {B : Nat} {A : Option Addr} {n c : Nat} {F : List Nd} (h : SlN w B A n c F) : SlN w.drew B A n c F := h.keep fun _ _ _ hr => hr.drew
theorem SlN.zero (w : World) (B : Nat) : SlN w B none 0 0 [] := ⟨rfl, Nat.le_refl _, by simp [maxLen], [], trivial, Rd.zero _ _ _⟩
theorem NdV.below {w w' : World} {B : Nat} {x : Nd} {v : Value} (h : NdV w B x v) (hb : Below B w w') : NdV w' B x v := NdV.keep (fun _ _ _ hr => hr.below hb) x v h
theorem NdV.more {w : World} {B B' : Nat} {x : Nd} {v : Value} (h : NdV w B x v) (hb : B ≤ B') : NdV w B' x v := NdV.keep (fun _ _ _ hr => hr.more hb) x v h
theorem NdV.alloc {w : World} {B : Nat} {x : Nd} {v : Value} (h : NdV w B x v) (hB : B ≤ w.heap.size) (o : Obj) : NdV (w.alloc o) B x v := NdV.keep (fun _ _ _ hr => hr.alloc hB o) x v h

theorem NdL.len {w : World} {B : Nat} : ∀ {F : List Nd} {vs : List Value}, NdL w B F vs → vs.length = F.length
  | [], [], _ => rfl
  | x :: F, v :: vs, ⟨_, h⟩ => by rw [List.length_cons, List.length_cons, NdL.len h]
theorem flatV_len : ∀ {F : List Nd} {vs : List Value}, vs.length = F.length → (flatV F vs).length = 2 * F.length
  | [], [], _ => rfl
  | x :: F, v :: vs, h => by
    rw [flatV, List.length_cons, List.length_cons, flatV_len (by simpa using h), List.length_cons]
    omega
theorem NdL.split {w : World} {B : Nat} : ∀ {F G : List Nd} {vs : List Value}, NdL w B (F ++ G) vs → NdL w B F (vs.take F.length) ∧ NdL w B G (vs.drop F.length)
  | [], G, vs, h => ⟨by simp [NdL], by simpa using h⟩
  | x :: F, G, v :: vs, ⟨h1, h2⟩ => by
    obtain ⟨r1, r2⟩ := NdL.split h2
    exact ⟨⟨h1, r1⟩, r2⟩
theorem flatV_take : ∀ {F : List Nd} {vs : List Value} (k : Nat), vs.length = F.length → (flatV F vs).take (2 * k) = flatV (F.take k) (vs.take k)
  | [], [], k, _ => by simp [flatV]
  | x :: F, v :: vs, 0, h => by simp [flatV]
  | x :: F, v :: vs, k + 1, h => by
    rw [show 2 * (k + 1) = 2 * k + 1 + 1 by omega, flatV, List.take_succ_cons, List.take_succ_cons, flatV_take k (by simpa using h)]
    rfl
theorem flatV_drop : ∀ {F : List Nd} {vs : List Value} (k : Nat), vs.length = F.length → (flatV F vs).drop (2 * k) = flatV (F.drop k) (vs.drop k)
  | [], [], k, _ => by simp [flatV]
  | x :: F, v :: vs, 0, h => by simp
  | x :: F, v :: vs, k + 1, h => by
    rw [show 2 * (k + 1) = 2 * k + 1 + 1 by omega, flatV, List.drop_succ_cons, List.drop_succ_cons, flatV_drop k (by simpa using h)]
    rfl
theorem NdL.get {w : World} {B : Nat} : ∀ {F : List Nd} {vs : List Value} {i : Nat} (hi : i < F.length), NdL w B F vs → ∃ v, vs[i]? = some v ∧ NdV w B F[i] v ∧ (flatV F vs)[2 * i]? = some (iv F[i].id) ∧ (flatV F vs)[2 * i + 1]? = some v
  | x :: F, v :: vs, 0, _, ⟨h1, _⟩ => ⟨v, rfl, h1, rfl, rfl⟩
  | x :: F, v :: vs, i + 1, hi, ⟨_, h2⟩ => by
    obtain ⟨u, r1, r2, r3, r4⟩ := NdL.get (i := i) (by simpa using hi) h2
    refine ⟨u, r1, r2, ?_, ?_⟩
    · rw [show 2 * (i + 1) = 2 * i + 1 + 1 by omega, flatV]; simpa using r3
    · rw [show 2 * (i + 1) + 1 = 2 * i + 1 + 1 + 1 by omega, flatV]; simpa using r4
/-- what a node of a slice is -/
theorem SlN.get {w : World} {B : Nat} {A : Option Addr} {n c : Nat} {F : List Nd} (h : SlN w B A n c F) {i : Nat} (hi : i < F.length) :
    ∃ b o v, A = some ⟨b, o, none⟩ ∧ b < B ∧ NdV w B F[i] v ∧ w.cell? ⟨b, o + 2 * i, none⟩ = some (iv F[i].id) ∧ w.cell? ⟨b, o + 2 * i + 1, none⟩ = some v := by
  obtain ⟨h1, h2, h3, vs, h4, h5⟩ := h
  obtain ⟨b, o, e, hb, hc⟩ := h5.pos (by omega)
  obtain ⟨v, r1, r2, r3, r4⟩ := h4.get hi
  exact ⟨b, o, v, e, hb, r2, hc _ _ r3, by rw [Nat.add_assoc]; exact hc _ _ r4⟩
theorem SlN.take {w : World} {B : Nat} {A : Option Addr} {n c : Nat} {F : List Nd} (h : SlN w B A n c F) {k c' : Nat} (hk : k ≤ n) (hc1 : k ≤ c') (hc2 : c' ≤ c) : SlN w B A k c' (F.take k) := by
  obtain ⟨h1, h2, h3, vs, h4, h5⟩ := h
  have hl := h4.len
  rw [← List.take_append_drop k F] at h4
  obtain ⟨r1, _⟩ := h4.split
  rw [List.length_take, Nat.min_eq_left (by omega)] at r1
  refine ⟨by rw [List.length_take]; omega, hc1, Nat.le_trans hc2 h3, vs.take k, r1, ?_⟩
  rw [← flatV_take k hl]
  exact h5.take (by omega)
theorem SlN.cut {w : World} {B : Nat} {A : Option Addr} {n c : Nat} {F : List Nd} (h : SlN w B A n c F) {k : Nat} (hk : k ≤ n) : SlN w B (if c = k then A else A.map (·.add (k * 2))) (n - k) (c - k) (F.drop k) := by
  obtain ⟨h1, h2, h3, vs, h4, h5⟩ := h
  have hl := h4.len
  rw [← List.take_append_drop k F] at h4
  obtain ⟨_, r1⟩ := h4.split
  rw [List.length_take, Nat.min_eq_left (by omega)] at r1
  refine ⟨by rw [List.length_drop]; omega, by omega, by omega, vs.drop k, r1, ?_⟩
  rw [← flatV_drop k hl]
  by_cases hck : c = k
  · rw [if_pos hck, List.drop_of_length_le (by rw [flatV_len hl]; omega), show 2 * (n - k) = 0 by omega]
    exact Rd.zero _ _ _
  · have := h5.cut (k := 2 * k) (cap := 2 * c) (by omega) (by omega)
    rw [if_neg (by omega)] at this
    rw [if_neg hck, show 2 * (n - k) = 2 * n - 2 * k by omega, Nat.mul_comm k 2]
    exact this
/-- a node's kids are a slice of nodes -/
theorem NdV.kids {w : World} {B : Nat} : ∀ {x : Nd} {v : Value}, NdV w B x v → ∃ A c, v = .slice A x.kids.length c ∧ SlN w B A x.kids.length c x.kids
  | .leaf _, v, h => ⟨none, 0, h, SlN.zero _ _⟩
  | .one a, v, ⟨A, c, x, h1, h2, h3, h4, h5⟩ => ⟨A, c, h1, rfl, h2, h3, [x], ⟨h5, trivial⟩, h4⟩
  | .two a b, v, ⟨A, c, x, y, h1, h2, h3, h4, h5, h6⟩ => ⟨A, c, h1, rfl, h2, h3, [x, y], ⟨h5, h6, trivial⟩, h4⟩
  | .three a b d, v, ⟨A, c, x, y, z, h1, h2, h3, h4, h5, h6, h7⟩ => ⟨A, c, h1, rfl, h2, h3, [x, y, z], ⟨h5, h6, h7, trivial⟩, h4⟩
theorem SlN.node {w : World} {B : Nat} {A : Option Addr} {n c : Nat} {F : List Nd} (h : SlN w B A n c F) (hn : n = 1 ∨ n = 2 ∨ n = 3) : NdV w B (ofKids F) (.slice A n c) := by
  obtain ⟨h1, h2, h3, vs, h4, h5⟩ := h
  match F, vs, h1, h4, h5 with
  | [a], [x], h1, ⟨k1, _⟩, h5 =>
    have : n = 1 := h1.symm
    subst this
    exact ⟨A, c, x, rfl, h2, h3, h5, k1⟩
  | [a, b], [x, y], h1, ⟨k1, k2, _⟩, h5 =>
    have : n = 2 := h1.symm
    subst this
    exact ⟨A, c, x, y, rfl, h2, h3, h5, k1, k2⟩
  | [a, b, d], [x, y, z], h1, ⟨k1, k2, k3, _⟩, h5 =>
    have : n = 3 := h1.symm
    subst this
    exact ⟨A, c, x, y, z, rfl, h2, h3, h5, k1, k2, k3⟩
  | [], _, h1, _, _ => simp at h1; omega
  | _ :: _ :: _ :: _ :: _, _, h1, _, _ => simp at h1; omega
theorem SlN.range {w : World} {B : Nat} {A : Option Addr} {n c : Nat} {F : List Nd} (h : SlN w B A n c F) {i : Nat} (hi : i < F.length) :
    ∃ b o v, A = some ⟨b, o, none⟩ ∧ b < B ∧ NdV w B F[i] v ∧ w.rangeAt b (o + i * 2) [iv F[i].id, v] ∧ w.cell? ⟨b, o + i * 2 + 1, none⟩ = some v := by
  obtain ⟨b, o, v, h1, h2, h3, h4, h5⟩ := h.get hi
  rw [Nat.mul_comm] at h4 h5
  refine ⟨b, o, v, h1, h2, h3, fun j u hu => ?_, h5⟩
  match j, hu with
  | 0, hu =>
    injection hu with hu
    subst hu
    exact h4
  | 1, hu =>
    injection hu with hu
    subst hu
    exact h5
  | j + 2, hu => simp at hu
section
variable {P : Program} (w : World)
end
end Go.Proofs.YtlidhdljgnijaaaDoor

/-
  CONTRACTS of the document's Nodes and first (coterieref10).
-/
set_option linter.unusedVariables false
namespace Go.Proofs.YtlidhdljgnijaaaDoor
open Go.RowKit

end Go.Proofs.YtlidhdljgnijaaaDoor

