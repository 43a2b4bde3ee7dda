import Derived.Test.YtlidhdljgnijaaaDoorN13
import Derived.Test.YtlidhdljgnijaaaDoorN14
/-
  JOINS OF TREES OF NODES (layer 11): what the document's join leaves of two trees, and of three.
-/
set_option linter.unusedVariables false
namespace Go.Proofs.YtlidhdljgnijaaaDoor
open Go.RowKit

theorem upN_mid (A C : List RN) (x : RN) (up : Int) : upN (A ++ x :: C) A.length up = A ++ { x with up := up } :: C := by
  rw [← upN_set (x := x) (by rw [List.getElem?_append_right (Nat.le_refl _), Nat.sub_self]; rfl), List.set_append_right _ _ (Nat.le_refl _), Nat.sub_self]
  rfl
theorem up_flat (A C : List RN) (T : RT) (k : Nat) (up : Int) (hk : k = A.length + T.size - 1) : upN (A ++ T.flat A.length (-1) ++ C) k up = A ++ T.flat A.length up ++ C := by
  have hl := T.init_len A.length
  have e : k = (A ++ T.init A.length).length := by rw [List.length_append]; omega
  rw [T.flat_split, T.flat_split _ up, ← List.append_assoc, ← List.append_assoc, List.append_assoc _ _ C, List.append_assoc _ _ C, List.singleton_append, List.singleton_append, e, upN_mid, T.node_up]
theorem flat_end (A C : List RN) (T : RT) (k : Nat) (up : Int) (hk : k = A.length + T.size - 1) : (A ++ T.flat A.length up ++ C)[k]? = some (T.node A.length up) := by
  have hl := T.init_len A.length
  have e : k = (A ++ T.init A.length).length := by rw [List.length_append]; omega
  rw [T.flat_split, ← List.append_assoc, List.append_assoc _ _ C, List.singleton_append, e, List.getElem?_append_right (Nat.le_refl _), Nat.sub_self]
  rfl
/-- the nodes of some trees, one behind the other; their places -/
def flats : List RT → Nat → List RN
  | [], _ => []
  | T :: Ts, off => T.flat off (-1) ++ flats Ts (off + T.size)
def ends : List RT → Nat → List Nat
  | [], _ => []
  | T :: Ts, off => (off + T.size - 1) :: ends Ts (off + T.size)
def sizes : List RT → Nat
  | [] => 0
  | T :: Ts => T.size + sizes Ts
theorem flats_len : ∀ (Ts : List RT) (off : Nat), (flats Ts off).length = sizes Ts
  | [], _ => rfl
  | T :: Ts, off => by rw [flats, List.length_append, RT.flat_len, flats_len Ts, sizes]
theorem ends_len : ∀ (Ts : List RT) (off : Nat), (ends Ts off).length = Ts.length
  | [], _ => rfl
  | T :: Ts, off => by rw [ends, List.length_cons, ends_len Ts, List.length_cons]
theorem join_two (ns : List RN) (lev a : Nat) (red : Bool) (l r : RT) :
    upAll (ns ++ flats [l, r] ns.length ++ [⟨lev, a, red, l.fr, r.to, ends [l, r] ns.length, -1⟩]) (ends [l, r] ns.length) ((ns.length + sizes [l, r] : Nat) : Int) = ns ++ (RT.two lev a red l r).flat ns.length (-1) := by
  simp only [flats, ends, sizes, upAll, List.foldl_cons, List.foldl_nil, RT.flat, List.append_nil, Nat.add_zero, ← Nat.add_assoc]
  have e1 := up_flat ns (r.flat (ns.length + l.size) (-1) ++ [⟨lev, a, red, l.fr, r.to, [ns.length + l.size - 1, ns.length + l.size + r.size - 1], -1⟩]) l (ns.length + l.size - 1) ((ns.length + l.size + r.size : Nat) : Int) rfl
  have hA : (ns ++ l.flat ns.length ((ns.length + l.size + r.size : Nat) : Int)).length = ns.length + l.size := by rw [List.length_append, RT.flat_len]
  have e2 := up_flat (ns ++ l.flat ns.length ((ns.length + l.size + r.size : Nat) : Int)) [⟨lev, a, red, l.fr, r.to, [ns.length + l.size - 1, ns.length + l.size + r.size - 1], -1⟩] r (ns.length + l.size + r.size - 1) ((ns.length + l.size + r.size : Nat) : Int) (by rw [hA])
  rw [hA] at e2
  simp only [List.append_assoc] at e1 e2 ⊢
  rw [e1, e2]
theorem join_three (ns : List RN) (lev a : Nat) (l m r : RT) :
    upAll (ns ++ flats [l, m, r] ns.length ++ [⟨lev, a, false, l.fr, r.to, ends [l, m, r] ns.length, -1⟩]) (ends [l, m, r] ns.length) ((ns.length + sizes [l, m, r] : Nat) : Int) = ns ++ (RT.three lev a l m r).flat ns.length (-1) := by
  simp only [flats, ends, sizes, upAll, List.foldl_cons, List.foldl_nil, RT.flat, List.append_nil, Nat.add_zero, ← Nat.add_assoc]
  generalize hU : ((ns.length + l.size + m.size + r.size : Nat) : Int) = U
  generalize hX : (⟨lev, a, false, l.fr, r.to, [ns.length + l.size - 1, ns.length + l.size + m.size - 1, ns.length + l.size + m.size + r.size - 1], -1⟩ : RN) = X
  have e1 := up_flat ns (m.flat (ns.length + l.size) (-1) ++ (r.flat (ns.length + l.size + m.size) (-1) ++ [X])) l (ns.length + l.size - 1) U rfl
  have hA : (ns ++ l.flat ns.length U).length = ns.length + l.size := by rw [List.length_append, RT.flat_len]
  have e2 := up_flat (ns ++ l.flat ns.length U) (r.flat (ns.length + l.size + m.size) (-1) ++ [X]) m (ns.length + l.size + m.size - 1) U (by rw [hA])
  have hB : (ns ++ l.flat ns.length U ++ m.flat (ns.length + l.size) U).length = ns.length + l.size + m.size := by rw [List.length_append, RT.flat_len, hA]
  have e3 := up_flat (ns ++ l.flat ns.length U ++ m.flat (ns.length + l.size) U) [X] r (ns.length + l.size + m.size + r.size - 1) U (by rw [hB])
  rw [hA] at e2
  rw [hB] at e3
  simp only [List.append_assoc] at e1 e2 e3 ⊢
  rw [e1, e2, e3]
/-- a tree whose last nodes' kids are these trees -/
def joinT (lev a : Nat) (red : Bool) : List RT → RT
  | [l, r] => .two lev a red l r
  | [l, m, r] => .three lev a l m r
  | _ => .leaf a
end Go.Proofs.YtlidhdljgnijaaaDoor

/-
  CONTRACT of the document's below (coterieref11): a level's group with all below, by the level.
-/
set_option linter.unusedVariables false
namespace Go.Proofs.YtlidhdljgnijaaaDoor
open Go.RowKit

theorem own_lower {w : World} {base base' size : Nat} {e : TypeId} {v : Value} {n : Nat} {xs : List Value} (h : w.ownsRow base' e size v n xs) (hb : base ≤ base') : w.ownsRow base e size v n xs := by
  obtain ⟨h1, h | ⟨g, cap, cur, e1, e2, r⟩⟩ := h
  · exact ⟨h1, .inl h⟩
  · exact ⟨h1, .inr ⟨g, cap, cur, e1, by omega, r⟩⟩
section
variable {base : Nat} {w w' : World} {v : Value} {ns : List RN} {us : List Value}
theorem sh_ndR : (25 : TypeId) ≠ 68 := by decide
theorem OwR.box (h : OwR base w v ns us) (hg : w.grownBy w' v.ownBlock) {b : Nat} {cs : Array Value} (hq : RowC w b 25 cs) : RowC w' b 25 cs :=
  hq.grownT hg fun k hk e => by
    subst e
    obtain ⟨cs', hr⟩ := own_tyT h.row hk
    exact sh_ndR (ty_neT hq hr)
end
end Go.Proofs.YtlidhdljgnijaaaDoor

/-
  CONTRACT of the document's below (coterieref11) at a level above the leaves, by those below.
-/
set_option linter.unusedVariables false
namespace Go.Proofs.YtlidhdljgnijaaaDoor
open Go.RowKit

section
variable {base : Nat} {w w' : World} {v : Value} {ns : List RN} {us : List Value}
end
end Go.Proofs.YtlidhdljgnijaaaDoor

/-
  NODES AS THEY ARE TOLD (layer 11), read from memory; what the document's Nodes answers.
-/
set_option linter.unusedVariables false
namespace Go.Proofs.YtlidhdljgnijaaaDoor
open Go.RowKit

/-- a node as it is read: any numbers -/
structure RI where
  lev : Int
  at_ : Int
  red : Bool
  fr : Int
  to_ : Int
  kids : List Int
  up : Int
def RN.i (x : RN) : RI := ⟨x.lev, x.at_, x.red, x.fr, x.to, castL x.kids, x.up⟩
def riC (x : RI) (u : Value) : List Value := [.int .i64 x.lev, .int .i64 x.at_, .bool x.red, .int .i64 x.fr, .int .i64 x.to_, u, .int .i64 x.up]
def cellsI : List RI → List Value → List Value
  | x :: ns, u :: us => riC x u ++ cellsI ns us
  | _, _ => []
theorem cellsI_at : ∀ (ns : List RI) (us : List Value) (k j : Nat) (x : RI) (u : Value), us.length = ns.length → ns[k]? = some x → us[k]? = some u → j < 7 → (cellsI ns us)[k * 7 + j]? = (riC x u)[j]?
  | [], _, k, j, x, u, _, h, _, _ => by simp at h
  | y :: ns, [], k, j, x, u, h, _, _, _ => by simp at h
  | y :: ns, v :: us, 0, j, x, u, _, hx, hu, hj => by
    simp at hx hu
    subst hx hu
    rw [cellsI, List.getElem?_append_left (by simp only [riC, List.length_cons, List.length_nil]; omega), Nat.zero_mul, Nat.zero_add]
  | y :: ns, v :: us, k + 1, j, x, u, h, hx, hu, hj => by
    rw [cellsI, List.getElem?_append_right (by simp only [riC, List.length_cons, List.length_nil]; omega), show (riC y v).length = 7 from rfl, show (k + 1) * 7 + j - 7 = k * 7 + j by omega]
    exact cellsI_at ns us k j x u (by simpa using h) (by simpa using hx) (by simpa using hu) hj
theorem cells_i : ∀ (ns : List RN) (us : List Value), cellsR ns us = cellsI (ns.map RN.i) us
  | [], _ => rfl
  | x :: ns, [] => rfl
  | x :: ns, u :: us => by rw [List.map_cons, cellsR, cellsI, cells_i ns us]; rfl
/-- a slice of nodes is read; their Kids are read -/
structure NdR (w : World) (B : Nat) (A : Option Addr) (n c : Nat) (ns : List RI) : Prop where
  len : ns.length = n
  cap : n ≤ c ∧ c ≤ maxLen
  told : ∃ us, us.length = n ∧ Rd w B A (n * 7) (cellsI ns us) ∧ ∀ (k : Nat) (x : RI) (u : Value), ns[k]? = some x → us[k]? = some u → ∃ Au cu, u = .slice Au x.kids.length cu ∧ x.kids.length ≤ cu ∧ cu ≤ maxLen ∧ Rd w B Au x.kids.length (x.kids.map iv)
theorem NdR.keep {w w' : World} {B B' : Nat} (hk : ∀ (A : Option Addr) (n : Nat) (xs : List Value), Rd w B A n xs → Rd w' B' A n xs) {A : Option Addr} {n c : Nat} {ns : List RI} (h : NdR w B A n c ns) : NdR w' B' A n c ns := by
  obtain ⟨us, h1, h2, h3⟩ := h.told
  refine ⟨h.len, h.cap, us, h1, hk _ _ _ h2, fun k x u hx hu => ?_⟩
  obtain ⟨Au, cu, e1, e2, e3, e4⟩ := h3 k x u hx hu
  exact ⟨Au, cu, e1, e2, e3, hk _ _ _ e4⟩
theorem NdR.below {w w' : World} {B : Nat} {A : Option Addr} {n c : Nat} {ns : List RI} (h : NdR w B A n c ns) (hb : Below B w w') : NdR w' B A n c ns := h.keep fun _ _ _ hr => hr.below hb
theorem NdR.more {w : World} {B B' : Nat} {A : Option Addr} {n c : Nat} {ns : List RI} (h : NdR w B A n c ns) (hb : B ≤ B') : NdR w B' A n c ns := h.keep fun _ _ _ hr => hr.more hb
theorem NdR.zero (w : World) (B : Nat) : NdR w B none 0 0 [] := ⟨rfl, ⟨Nat.le_refl _, by simp [maxLen]⟩, [], rfl, Rd.zero _ _ _, fun k x u h => by simp at h⟩
theorem Rd.of_ownZ {w : World} {base size : Nat} {e : TypeId} {A : Option Addr} {n c : Nat} {xs : List Value} (h : w.ownsRow base e size (.slice A n c) n xs) : Rd w w.heap.size A (n * size) xs := by
  refine ⟨h.1, fun hn => ?_⟩
  have hn0 : 0 < n := Nat.pos_of_ne_zero fun e => by subst e; omega
  obtain ⟨g, rfl⟩ := own_someZ h hn0
  refine ⟨g, 0, rfl, own_ltT h g rfl, fun j u hu => ?_⟩
  have hj : j < n * size := by rw [← h.1]; exact (List.getElem?_eq_some_iff.1 hu).1
  rw [Nat.zero_add, h.cellAt j hj]
  exact hu
/-- nodes of the call's own are told -/
theorem OwR.told {base : Nat} {w : World} {A : Option Addr} {c : Nat} {ns : List RN} {us : List Value} (h : OwR base w (.slice A ns.length c) ns us) : NdR w w.heap.size A ns.length c (ns.map RN.i) := by
  obtain ⟨_, _, e, hc, hm⟩ := own_formT h.row
  injection e with e1 e2 e3
  subst e1 e3
  refine ⟨by simp, ⟨hc, hm⟩, us, h.len, by rw [← cells_i]; exact Rd.of_ownZ h.row, fun k x u hx hu => ?_⟩
  rw [List.getElem?_map] at hx
  obtain ⟨y, hy, rfl⟩ := Option.map_eq_some_iff.1 hx
  have ho := h.kids k y u hy hu
  obtain ⟨Au, cu, rfl, h1, h2⟩ := own_formT ho
  refine ⟨Au, cu, by simp [RN.i, castL_len], by simpa [RN.i, castL_len] using h1, h2, ?_⟩
  have e1 : (RN.i y).kids.length = y.kids.length := castL_len _
  have e2 : (RN.i y).kids.map iv = kidV y.kids := by simp [RN.i, castL, kidV]
  rw [e1, e2]
  exact Rd.of_own ho

theorem wideN_sum {many : Nat} {lv : List (List Nat)} (hs : lvSum many lv) {k : Nat} {l : List Nat} (hl : lv[k]? = some l) : l.sum = wideN many lv k := by
  rw [(hs k l hl).2]
  cases k with
  | zero => rfl
  | succ k => simp [wideN]
theorem len_sum : ∀ {l : List Nat}, two3 l → l.length ≤ l.sum
  | [], _ => by simp
  | n :: l, h => by
    have h1 := h n (by simp)
    have h2 := len_sum (l := l) (fun x hx => h x (by simp [hx]))
    rw [List.length_cons, List.sum_cons]
    omega
theorem sum_pos {l : List Nat} (h : 0 < l.sum) : 0 < l.length := by
  cases l with
  | nil => simp at h
  | cons x l => simp
theorem wideN_le {many : Nat} {lv : List (List Nat)} (hs : lvSum many lv) : ∀ k, k ≤ lv.length → wideN many lv k ≤ many
  | 0, _ => Nat.le_refl _
  | k + 1, h => by
    have hl : lv[k]? = some lv[k] := List.getElem?_eq_getElem (by omega)
    have h1 := wideN_le hs k (by omega)
    have h2 := len_sum (hs k _ hl).1
    have h3 := wideN_sum hs hl
    rw [wideN, getD_at hl]
    omega
theorem wideN_pos {many : Nat} {lv : List (List Nat)} (hs : lvSum many lv) (hm : 0 < many) : ∀ k, k ≤ lv.length → 0 < wideN many lv k
  | 0, _ => hm
  | k + 1, h => by
    have hl : lv[k]? = some lv[k] := List.getElem?_eq_getElem (by omega)
    have h1 := wideN_pos hs hm k (by omega)
    have h3 := wideN_sum hs hl
    rw [wideN, getD_at hl]
    exact sum_pos (by omega)
theorem leafS_le {many : Nat} {lv : List (List Nat)} (hs : lvSum many lv) : ∀ k a, k ≤ lv.length → a ≤ wideN many lv k → leafS lv k a ≤ many
  | 0, a, _, h => h
  | k + 1, a, hk, h => by
    have hl : lv[k]? = some lv[k] := List.getElem?_eq_getElem (by omega)
    rw [leafS]
    refine leafS_le hs k _ (by omega) ?_
    have h3 := wideN_sum hs hl
    rw [getD_at hl]
    have := startT_le lv[k] a
    omega
theorem treeOf_size {kind : Int} {many : Nat} {lv : List (List Nat)} (hs : lvSum many lv) {k a : Nat} (hk : k ≤ lv.length) (ha : a < wideN many lv k) : (treeOf kind lv k a).size + 1 ≤ 2 * many := by
  obtain ⟨h1, h2, h3⟩ := treeOf_ok (kind := kind) hs k a hk ha
  have h4 := RT.size_lt (treeOf kind lv k a)
  have h5 := RT.lvs_ok _ h1
  have h6 := leafS_le hs k (a + 1) hk (by omega)
  omega

end Go.Proofs.YtlidhdljgnijaaaDoor

/-
  CONTRACTS of the document's may and Nodes (coterieref11).
-/
set_option linter.unusedVariables false
namespace Go.Proofs.YtlidhdljgnijaaaDoor
open Go.RowKit

def mayB (kind : Int) (ids : List Int) (ll : List (List Int)) : Bool := (decide (kind = 1) || decide (kind = 2)) && chkT ids ll
def nodesI (kind : Int) (ids : List Int) (ll : List (List Int)) : List RI := if mayB kind ids ll = true then (nodesU kind ids.length (lvN ll)).map RN.i else []
def mayE (kind : Int) (ids : List Int) (ll : List (List Int)) : Int := if mayB kind ids ll = true then 0 else 1
def NodesPost (w : World) (kind : Int) (ids : List Int) (ll : List (List Int)) (e : Ending) (w' : World) : Prop :=
  Below w.heap.size w w' ∧ ∃ A n c, e = .returned (.tuple #[.slice A n c, .int .i64 (mayE kind ids ll)]) ∧ NdR w' w'.heap.size A n c (nodesI kind ids ll)
theorem chkE_iff {ids : List Int} {ll : List (List Int)} : chkE ids ll = 0 ↔ chkT ids ll = true := by
  rw [chkE]
  split <;> simp_all

end Go.Proofs.YtlidhdljgnijaaaDoor

