import Derived.Test.YtmganbdbihjbmaaK25
import Derived.Test.YtmganbdbihjbmaaK26
import Derived.Test.YtmganbdbihjbmaaK23
import Derived.Test.YtmganbdbihjbmaaK21
/-
  JOINS OF TREES OF NODES (layer 11): what the document's join leaves of two trees, and of three.
-/
set_option linter.unusedVariables false
namespace Go.Proofs.Ytmganbdbihjbmaa
open Go.RowKit

theorem upN_mid (A C : List RN) (x : RN) (up : Int) : upN (A ++ x :: C) A.length up = A ++ { x with up := up } :: C := by
  rw [← upN_set (x := x) (by rw [List.getElem?_append_right (Nat.le_refl _), Nat.sub_self]; rfl), List.set_append_right _ _ (Nat.le_refl _), Nat.sub_self]
  rfl
theorem up_flat (A C : List RN) (T : RT) (k : Nat) (up : Int) (hk : k = A.length + T.size - 1) : upN (A ++ T.flat A.length (-1) ++ C) k up = A ++ T.flat A.length up ++ C := by
  have hl := T.init_len A.length
  have e : k = (A ++ T.init A.length).length := by rw [List.length_append]; omega
  rw [T.flat_split, T.flat_split _ up, ← List.append_assoc, ← List.append_assoc, List.append_assoc _ _ C, List.append_assoc _ _ C, List.singleton_append, List.singleton_append, e, upN_mid, T.node_up]
theorem flat_end (A C : List RN) (T : RT) (k : Nat) (up : Int) (hk : k = A.length + T.size - 1) : (A ++ T.flat A.length up ++ C)[k]? = some (T.node A.length up) := by
  have hl := T.init_len A.length
  have e : k = (A ++ T.init A.length).length := by rw [List.length_append]; omega
  rw [T.flat_split, ← List.append_assoc, List.append_assoc _ _ C, List.singleton_append, e, List.getElem?_append_right (Nat.le_refl _), Nat.sub_self]
  rfl
/-- the nodes of some trees, one behind the other; their places -/
def flats : List RT → Nat → List RN
  | [], _ => []
  | T :: Ts, off => T.flat off (-1) ++ flats Ts (off + T.size)
def ends : List RT → Nat → List Nat
  | [], _ => []
  | T :: Ts, off => (off + T.size - 1) :: ends Ts (off + T.size)
def sizes : List RT → Nat
  | [] => 0
  | T :: Ts => T.size + sizes Ts
theorem flats_len : ∀ (Ts : List RT) (off : Nat), (flats Ts off).length = sizes Ts
  | [], _ => rfl
  | T :: Ts, off => by rw [flats, List.length_append, RT.flat_len, flats_len Ts, sizes]
theorem ends_len : ∀ (Ts : List RT) (off : Nat), (ends Ts off).length = Ts.length
  | [], _ => rfl
  | T :: Ts, off => by rw [ends, List.length_cons, ends_len Ts, List.length_cons]
theorem flats_snoc : ∀ (Ts : List RT) (T : RT) (off : Nat), flats (Ts ++ [T]) off = flats Ts off ++ T.flat (off + sizes Ts) (-1)
  | [], T, off => by simp [flats, sizes]
  | U :: Ts, T, off => by simp only [List.cons_append, flats, flats_snoc Ts, sizes, List.append_assoc, Nat.add_assoc]
theorem ends_snoc : ∀ (Ts : List RT) (T : RT) (off : Nat), ends (Ts ++ [T]) off = ends Ts off ++ [off + sizes Ts + T.size - 1]
  | [], T, off => by simp [ends, sizes]
  | U :: Ts, T, off => by simp only [List.cons_append, ends, ends_snoc Ts, sizes, Nat.add_assoc]
theorem sizes_snoc : ∀ (Ts : List RT) (T : RT), sizes (Ts ++ [T]) = sizes Ts + T.size
  | [], T => by simp [sizes]
  | U :: Ts, T => by simp only [List.cons_append, sizes, sizes_snoc Ts, Nat.add_assoc]
theorem join_two (ns : List RN) (lev a : Nat) (red : Bool) (l r : RT) :
    upAll (ns ++ flats [l, r] ns.length ++ [⟨lev, a, red, l.fr, r.to, ends [l, r] ns.length, -1⟩]) (ends [l, r] ns.length) ((ns.length + sizes [l, r] : Nat) : Int) = ns ++ (RT.two lev a red l r).flat ns.length (-1) := by
  simp only [flats, ends, sizes, upAll, List.foldl_cons, List.foldl_nil, RT.flat, List.append_nil, Nat.add_zero, ← Nat.add_assoc]
  have e1 := up_flat ns (r.flat (ns.length + l.size) (-1) ++ [⟨lev, a, red, l.fr, r.to, [ns.length + l.size - 1, ns.length + l.size + r.size - 1], -1⟩]) l (ns.length + l.size - 1) ((ns.length + l.size + r.size : Nat) : Int) rfl
  have hA : (ns ++ l.flat ns.length ((ns.length + l.size + r.size : Nat) : Int)).length = ns.length + l.size := by rw [List.length_append, RT.flat_len]
  have e2 := up_flat (ns ++ l.flat ns.length ((ns.length + l.size + r.size : Nat) : Int)) [⟨lev, a, red, l.fr, r.to, [ns.length + l.size - 1, ns.length + l.size + r.size - 1], -1⟩] r (ns.length + l.size + r.size - 1) ((ns.length + l.size + r.size : Nat) : Int) (by rw [hA])
  rw [hA] at e2
  simp only [List.append_assoc] at e1 e2 ⊢
  rw [e1, e2]
theorem join_three (ns : List RN) (lev a : Nat) (l m r : RT) :
    upAll (ns ++ flats [l, m, r] ns.length ++ [⟨lev, a, false, l.fr, r.to, ends [l, m, r] ns.length, -1⟩]) (ends [l, m, r] ns.length) ((ns.length + sizes [l, m, r] : Nat) : Int) = ns ++ (RT.three lev a l m r).flat ns.length (-1) := by
  simp only [flats, ends, sizes, upAll, List.foldl_cons, List.foldl_nil, RT.flat, List.append_nil, Nat.add_zero, ← Nat.add_assoc]
  generalize hU : ((ns.length + l.size + m.size + r.size : Nat) : Int) = U
  generalize hX : (⟨lev, a, false, l.fr, r.to, [ns.length + l.size - 1, ns.length + l.size + m.size - 1, ns.length + l.size + m.size + r.size - 1], -1⟩ : RN) = X
  have e1 := up_flat ns (m.flat (ns.length + l.size) (-1) ++ (r.flat (ns.length + l.size + m.size) (-1) ++ [X])) l (ns.length + l.size - 1) U rfl
  have hA : (ns ++ l.flat ns.length U).length = ns.length + l.size := by rw [List.length_append, RT.flat_len]
  have e2 := up_flat (ns ++ l.flat ns.length U) (r.flat (ns.length + l.size + m.size) (-1) ++ [X]) m (ns.length + l.size + m.size - 1) U (by rw [hA])
  have hB : (ns ++ l.flat ns.length U ++ m.flat (ns.length + l.size) U).length = ns.length + l.size + m.size := by rw [List.length_append, RT.flat_len, hA]
  have e3 := up_flat (ns ++ l.flat ns.length U ++ m.flat (ns.length + l.size) U) [X] r (ns.length + l.size + m.size + r.size - 1) U (by rw [hB])
  rw [hA] at e2
  rw [hB] at e3
  simp only [List.append_assoc] at e1 e2 e3 ⊢
  rw [e1, e2, e3]
/-- what a call leaves that adds a tree of nodes -/
def AddPost (base : Nat) (w : World) (v : Value) (ns : List RN) (us : List Value) (K : Value → Prop) (T : RT) (n : Nat) (e : Ending) (w' : World) : Prop :=
  ∃ v' us', e = .returned (.tuple #[v', .int .i64 (n : Nat)]) ∧ OwR base w' v' (ns ++ T.flat ns.length (-1)) us' ∧ w.grownBy w' v.ownBlock ∧ (v'.ownBlock = v.ownBlock ∨ ∃ y, v'.ownBlock = some y ∧ w.heap.size ≤ y) ∧ ∀ u ∈ us', u ∈ us ∨ K u
/-- a tree whose last nodes' kids are these trees -/
def joinT (lev a : Nat) (red : Bool) : List RT → RT
  | [l, r] => .two lev a red l r
  | [l, m, r] => .three lev a l m r
  | _ => .leaf a
end Go.Proofs.Ytmganbdbihjbmaa

/-
  CONTRACT of the document's below (coterieref11): a level's group with all below, by the level.
-/
set_option linter.unusedVariables false
namespace Go.Proofs.Ytmganbdbihjbmaa
open Go.RowKit

theorem own_lower {w : World} {base base' size : Nat} {e : TypeId} {v : Value} {n : Nat} {xs : List Value} (h : w.ownsRow base' e size v n xs) (hb : base ≤ base') : w.ownsRow base e size v n xs := by
  obtain ⟨h1, h | ⟨g, cap, cur, e1, e2, r⟩⟩ := h
  · exact ⟨h1, .inl h⟩
  · exact ⟨h1, .inr ⟨g, cap, cur, e1, by omega, r⟩⟩
/-- what a call has added: a block that is new, or no block -/
def newV (B : Nat) (u : Value) : Prop := ∀ g, u.ownBlock = some g → B ≤ g
section
variable {base : Nat} {w w' : World} {v : Value} {ns : List RN} {us : List Value}
/-- rows of numbers beside -/
theorem OwR.nums (h : OwR base w v ns us) (hg : w.grownBy w' v.ownBlock) {b n : Nat} {q : Value} {xs : List Value} (hq : w.ownsRow b 3 1 q n xs) : w'.ownsRow b 3 1 q n xs := by
  cases hv : v.ownBlock with
  | none => rw [hv] at hg; exact hq.kept hg (by cases q.ownBlock <;> simp)
  | some g =>
    rw [hv] at hg
    obtain ⟨cs, hr⟩ := own_tyT h.row hv
    exact own_farT hq hg hr nd_ne
theorem sh_ndR : (25 : TypeId) ≠ 57 := by decide
theorem OwR.box (h : OwR base w v ns us) (hg : w.grownBy w' v.ownBlock) {b : Nat} {cs : Array Value} (hq : RowC w b 25 cs) : RowC w' b 25 cs :=
  hq.grownT hg fun k hk e => by
    subst e
    obtain ⟨cs', hr⟩ := own_tyT h.row hk
    exact sh_ndR (ty_neT hq hr)
theorem OwR.belowR (h : OwR base w v ns us) (hg : w.grownBy w' v.ownBlock) (hb : base ≤ w.heap.size) : Below base w w' := (Below.refl _ _).grown hg hb (own_blockT h.row)
end
/-- trees that are done, and not yet joined -/
def redT (r3 : Bool) (lev a : Nat) (sub : Nat → RT) : Nat → List RT
  | 0 => []
  | i + 1 => if r3 = true ∧ i = 1 then [.two lev a true (sub 0) (sub 1)] else redT r3 lev a sub i ++ [sub i]
end Go.Proofs.Ytmganbdbihjbmaa

/-
  CONTRACT of the document's below (coterieref11) at a level above the leaves, by those below.
-/
set_option linter.unusedVariables false
namespace Go.Proofs.Ytmganbdbihjbmaa
open Go.RowKit

section
variable {base : Nat} {w w' : World} {v : Value} {ns : List RN} {us : List Value}
/-- a row of numbers is turned -/
theorem OwR.numTurn (h : OwR base w v ns us) {b n : Nat} {q : Value} {xs : List Value} (hq : w.ownsRow b 3 1 q n xs) (hg : w.grownBy w' q.ownBlock) (hu : ∀ u ∈ us, u.ownBlock = none ∨ u.ownBlock ≠ q.ownBlock) : OwR base w' v ns us := by
  refine h.kept hg ?_ hu
  cases hv : v.ownBlock with
  | none => exact .inl rfl
  | some g =>
    refine .inr fun e => ?_
    obtain ⟨cs, hr⟩ := own_tyT h.row hv
    obtain ⟨cs', hr'⟩ := own_tyT hq e.symm
    exact nd_ne (ty_neT hr hr')
theorem sh_intR : (25 : TypeId) ≠ 3 := by decide
theorem box_numTurn {g : Nat} {cs : Array Value} (h : RowC w g 25 cs) {b n : Nat} {q : Value} {xs : List Value} (hq : w.ownsRow b 3 1 q n xs) (hg : w.grownBy w' q.ownBlock) : RowC w' g 25 cs :=
  h.grownT hg fun k hk e => by
    subst e
    obtain ⟨cs', hr⟩ := own_tyT hq hk
    exact sh_intR (ty_neT h hr)
end
theorem redT_len (r3 : Bool) (lev a : Nat) (sub : Nat → RT) : ∀ j, (redT r3 lev a sub j).length ≤ j
  | 0 => by simp [redT]
  | j + 1 => by
    rw [redT]
    split
    · simp
    · rw [List.length_append]
      have := redT_len r3 lev a sub j
      simp only [List.length_singleton]
      omega
theorem redT_size (r3 : Bool) (lev a : Nat) (sub : Nat → RT) {m j : Nat} (hm : m = 2 ∨ m = 3) (hr : r3 = true → m = 3) (hj : j < m) : sizes (redT r3 lev a sub j) + (sub j).size ≤ sizes (redT r3 lev a sub m) := by
  have hr' : r3 = false ∨ (r3 = true ∧ m = 3) := by cases r3 <;> simp_all
  rcases hr' with rfl | ⟨rfl, rfl⟩
  · rcases hm with rfl | rfl
    · have : j = 0 ∨ j = 1 := by omega
      rcases this with rfl | rfl <;> simp [redT, sizes]
    · have : j = 0 ∨ j = 1 ∨ j = 2 := by omega
      rcases this with rfl | rfl | rfl <;> simp [redT, sizes] <;> omega
  · have : j = 0 ∨ j = 1 ∨ j = 2 := by omega
    rcases this with rfl | rfl | rfl <;> simp [redT, sizes, RT.size] <;> omega
theorem treeOf_join {kind : Int} {lv : List (List Nat)} {k a : Nat} {l : List Nat} (hl : lv[k]? = some l) (h23 : two3 l) (ha : a < l.length) :
    treeOf kind lv (k + 1) a = joinT (k + 1) a false (redT (decide (kind = 2 ∧ l[a] = 3)) (k + 1) a (fun i => treeOf kind lv k (startT l a + i)) l[a]) ∧
    (treeOf kind lv (k + 1) a).size = sizes (redT (decide (kind = 2 ∧ l[a] = 3)) (k + 1) a (fun i => treeOf kind lv k (startT l a + i)) l[a]) + 1 := by
  have hx : l.getD a 0 = l[a] := getD_at (List.getElem?_eq_getElem ha)
  rw [treeOf, getD_at hl, hx]
  rcases two3_get h23 ha with h | h
  · rw [h]
    simp [redT, joinT, sizes, RT.size]
  · rw [h]
    by_cases hk : kind = 2
    · simp [redT, joinT, sizes, RT.size, hk]
    · simp [redT, joinT, sizes, RT.size, hk]
      omega
theorem redT_form (r3 : Bool) (lev a : Nat) (sub : Nat → RT) {m : Nat} (hm : m = 2 ∨ m = 3) (hr : r3 = true → m = 3) :
    (∃ l r, redT r3 lev a sub m = [l, r]) ∨ ((false : Bool) = false ∧ ∃ l x r, redT r3 lev a sub m = [l, x, r]) := by
  have hr' : r3 = false ∨ (r3 = true ∧ m = 3) := by cases r3 <;> simp_all
  rcases hr' with rfl | ⟨rfl, rfl⟩
  · rcases hm with rfl | rfl
    · exact .inl ⟨sub 0, sub 1, by simp [redT]⟩
    · exact .inr ⟨rfl, sub 0, sub 1, sub 2, by simp [redT]⟩
  · exact .inl ⟨.two lev a true (sub 0) (sub 1), sub 2, by simp [redT]⟩

end Go.Proofs.Ytmganbdbihjbmaa

/-
  NODES AS THEY ARE TOLD (layer 11), read from memory; what the document's Nodes answers.
-/
set_option linter.unusedVariables false
namespace Go.Proofs.Ytmganbdbihjbmaa
open Go.RowKit

/-- a node as it is read: any numbers -/
structure RI where
  lev : Int
  at_ : Int
  red : Bool
  fr : Int
  to_ : Int
  kids : List Int
  up : Int
def RN.i (x : RN) : RI := ⟨x.lev, x.at_, x.red, x.fr, x.to, castL x.kids, x.up⟩
def riC (x : RI) (u : Value) : List Value := [.int .i64 x.lev, .int .i64 x.at_, .bool x.red, .int .i64 x.fr, .int .i64 x.to_, u, .int .i64 x.up]
def cellsI : List RI → List Value → List Value
  | x :: ns, u :: us => riC x u ++ cellsI ns us
  | _, _ => []
theorem cellsI_len : ∀ (ns : List RI) (us : List Value), us.length = ns.length → (cellsI ns us).length = ns.length * 7
  | [], [], _ => rfl
  | x :: ns, u :: us, h => by
    rw [cellsI, List.length_append, cellsI_len ns us (by simpa using h), List.length_cons, riC]
    simp only [List.length_cons, List.length_nil]
    omega
  | [], u :: us, h => by simp at h
  | x :: ns, [], h => by simp at h
theorem cellsI_at : ∀ (ns : List RI) (us : List Value) (k j : Nat) (x : RI) (u : Value), us.length = ns.length → ns[k]? = some x → us[k]? = some u → j < 7 → (cellsI ns us)[k * 7 + j]? = (riC x u)[j]?
  | [], _, k, j, x, u, _, h, _, _ => by simp at h
  | y :: ns, [], k, j, x, u, h, _, _, _ => by simp at h
  | y :: ns, v :: us, 0, j, x, u, _, hx, hu, hj => by
    simp at hx hu
    subst hx hu
    rw [cellsI, List.getElem?_append_left (by simp only [riC, List.length_cons, List.length_nil]; omega), Nat.zero_mul, Nat.zero_add]
  | y :: ns, v :: us, k + 1, j, x, u, h, hx, hu, hj => by
    rw [cellsI, List.getElem?_append_right (by simp only [riC, List.length_cons, List.length_nil]; omega), show (riC y v).length = 7 from rfl, show (k + 1) * 7 + j - 7 = k * 7 + j by omega]
    exact cellsI_at ns us k j x u (by simpa using h) (by simpa using hx) (by simpa using hu) hj
theorem cells_i : ∀ (ns : List RN) (us : List Value), cellsR ns us = cellsI (ns.map RN.i) us
  | [], _ => rfl
  | x :: ns, [] => rfl
  | x :: ns, u :: us => by rw [List.map_cons, cellsR, cellsI, cells_i ns us]; rfl
/-- a slice of nodes is read; their Kids are read -/
structure NdR (w : World) (B : Nat) (A : Option Addr) (n c : Nat) (ns : List RI) : Prop where
  len : ns.length = n
  cap : n ≤ c ∧ c ≤ maxLen
  told : ∃ us, us.length = n ∧ Rd w B A (n * 7) (cellsI ns us) ∧ ∀ (k : Nat) (x : RI) (u : Value), ns[k]? = some x → us[k]? = some u → ∃ Au cu, u = .slice Au x.kids.length cu ∧ x.kids.length ≤ cu ∧ cu ≤ maxLen ∧ Rd w B Au x.kids.length (x.kids.map iv)
theorem NdR.keep {w w' : World} {B B' : Nat} (hk : ∀ (A : Option Addr) (n : Nat) (xs : List Value), Rd w B A n xs → Rd w' B' A n xs) {A : Option Addr} {n c : Nat} {ns : List RI} (h : NdR w B A n c ns) : NdR w' B' A n c ns := by
  obtain ⟨us, h1, h2, h3⟩ := h.told
  refine ⟨h.len, h.cap, us, h1, hk _ _ _ h2, fun k x u hx hu => ?_⟩
  obtain ⟨Au, cu, e1, e2, e3, e4⟩ := h3 k x u hx hu
  exact ⟨Au, cu, e1, e2, e3, hk _ _ _ e4⟩
theorem NdR.below {w w' : World} {B : Nat} {A : Option Addr} {n c : Nat} {ns : List RI} (h : NdR w B A n c ns) (hb : Below B w w') : NdR w' B A n c ns := h.keep fun _ _ _ hr => hr.below hb
theorem NdR.more {w : World} {B B' : Nat} {A : Option Addr} {n c : Nat} {ns : List RI} (h : NdR w B A n c ns) (hb : B ≤ B') : NdR w B' A n c ns := h.keep fun _ _ _ hr => hr.more hb
theorem NdR.zero (w : World) (B : Nat) : NdR w B none 0 0 [] := ⟨rfl, ⟨Nat.le_refl _, by simp [maxLen]⟩, [], rfl, Rd.zero _ _ _, fun k x u h => by simp at h⟩
theorem Rd.of_ownZ {w : World} {base size : Nat} {e : TypeId} {A : Option Addr} {n c : Nat} {xs : List Value} (h : w.ownsRow base e size (.slice A n c) n xs) : Rd w w.heap.size A (n * size) xs := by
  refine ⟨h.1, fun hn => ?_⟩
  have hn0 : 0 < n := Nat.pos_of_ne_zero fun e => by subst e; omega
  obtain ⟨g, rfl⟩ := own_someZ h hn0
  refine ⟨g, 0, rfl, own_ltT h g rfl, fun j u hu => ?_⟩
  have hj : j < n * size := by rw [← h.1]; exact (List.getElem?_eq_some_iff.1 hu).1
  rw [Nat.zero_add, h.cellAt j hj]
  exact hu
/-- nodes of the call's own are told -/
theorem OwR.told {base : Nat} {w : World} {A : Option Addr} {c : Nat} {ns : List RN} {us : List Value} (h : OwR base w (.slice A ns.length c) ns us) : NdR w w.heap.size A ns.length c (ns.map RN.i) := by
  obtain ⟨_, _, e, hc, hm⟩ := own_formT h.row
  injection e with e1 e2 e3
  subst e1 e3
  refine ⟨by simp, ⟨hc, hm⟩, us, h.len, by rw [← cells_i]; exact Rd.of_ownZ h.row, fun k x u hx hu => ?_⟩
  rw [List.getElem?_map] at hx
  obtain ⟨y, hy, rfl⟩ := Option.map_eq_some_iff.1 hx
  have ho := h.kids k y u hy hu
  obtain ⟨Au, cu, rfl, h1, h2⟩ := own_formT ho
  refine ⟨Au, cu, by simp [RN.i, castL_len], by simpa [RN.i, castL_len] using h1, h2, ?_⟩
  have e1 : (RN.i y).kids.length = y.kids.length := castL_len _
  have e2 : (RN.i y).kids.map iv = kidV y.kids := by simp [RN.i, castL, kidV]
  rw [e1, e2]
  exact Rd.of_own ho

theorem wideN_sum {many : Nat} {lv : List (List Nat)} (hs : lvSum many lv) {k : Nat} {l : List Nat} (hl : lv[k]? = some l) : l.sum = wideN many lv k := by
  rw [(hs k l hl).2]
  cases k with
  | zero => rfl
  | succ k => simp [wideN]
theorem len_sum : ∀ {l : List Nat}, two3 l → l.length ≤ l.sum
  | [], _ => by simp
  | n :: l, h => by
    have h1 := h n (by simp)
    have h2 := len_sum (l := l) (fun x hx => h x (by simp [hx]))
    rw [List.length_cons, List.sum_cons]
    omega
theorem sum_pos {l : List Nat} (h : 0 < l.sum) : 0 < l.length := by
  cases l with
  | nil => simp at h
  | cons x l => simp
theorem wideN_le {many : Nat} {lv : List (List Nat)} (hs : lvSum many lv) : ∀ k, k ≤ lv.length → wideN many lv k ≤ many
  | 0, _ => Nat.le_refl _
  | k + 1, h => by
    have hl : lv[k]? = some lv[k] := List.getElem?_eq_getElem (by omega)
    have h1 := wideN_le hs k (by omega)
    have h2 := len_sum (hs k _ hl).1
    have h3 := wideN_sum hs hl
    rw [wideN, getD_at hl]
    omega
theorem wideN_pos {many : Nat} {lv : List (List Nat)} (hs : lvSum many lv) (hm : 0 < many) : ∀ k, k ≤ lv.length → 0 < wideN many lv k
  | 0, _ => hm
  | k + 1, h => by
    have hl : lv[k]? = some lv[k] := List.getElem?_eq_getElem (by omega)
    have h1 := wideN_pos hs hm k (by omega)
    have h3 := wideN_sum hs hl
    rw [wideN, getD_at hl]
    exact sum_pos (by omega)
theorem leafS_le {many : Nat} {lv : List (List Nat)} (hs : lvSum many lv) : ∀ k a, k ≤ lv.length → a ≤ wideN many lv k → leafS lv k a ≤ many
  | 0, a, _, h => h
  | k + 1, a, hk, h => by
    have hl : lv[k]? = some lv[k] := List.getElem?_eq_getElem (by omega)
    rw [leafS]
    refine leafS_le hs k _ (by omega) ?_
    have h3 := wideN_sum hs hl
    rw [getD_at hl]
    have := startT_le lv[k] a
    omega
theorem treeOf_size {kind : Int} {many : Nat} {lv : List (List Nat)} (hs : lvSum many lv) {k a : Nat} (hk : k ≤ lv.length) (ha : a < wideN many lv k) : (treeOf kind lv k a).size + 1 ≤ 2 * many := by
  obtain ⟨h1, h2, h3⟩ := treeOf_ok (kind := kind) hs k a hk ha
  have h4 := RT.size_lt (treeOf kind lv k a)
  have h5 := RT.lvs_ok _ h1
  have h6 := leafS_le hs k (a + 1) hk (by omega)
  omega

end Go.Proofs.Ytmganbdbihjbmaa

/-
  CONTRACTS of the document's may and Nodes (coterieref11).
-/
set_option linter.unusedVariables false
namespace Go.Proofs.Ytmganbdbihjbmaa
open Go.RowKit

def mayB (kind : Int) (ids : List Int) (ll : List (List Int)) : Bool := (decide (kind = 1) || decide (kind = 2)) && chkT ids ll
def nodesI (kind : Int) (ids : List Int) (ll : List (List Int)) : List RI := if mayB kind ids ll = true then (nodesU kind ids.length (lvN ll)).map RN.i else []
def mayE (kind : Int) (ids : List Int) (ll : List (List Int)) : Int := if mayB kind ids ll = true then 0 else 1
def NodesPost (w : World) (kind : Int) (ids : List Int) (ll : List (List Int)) (e : Ending) (w' : World) : Prop :=
  Below w.heap.size w w' ∧ ∃ A n c, e = .returned (.tuple #[.slice A n c, .int .i64 (mayE kind ids ll)]) ∧ NdR w' w'.heap.size A n c (nodesI kind ids ll)
theorem chkE_iff {ids : List Int} {ll : List (List Int)} : chkE ids ll = 0 ↔ chkT ids ll = true := by
  rw [chkE]
  split <;> simp_all

end Go.Proofs.Ytmganbdbihjbmaa

/-
  CONTRACT of the document's Nodes (coterieref11).
-/
set_option linter.unusedVariables false
namespace Go.Proofs.Ytmganbdbihjbmaa
open Go.RowKit

end Go.Proofs.Ytmganbdbihjbmaa

/-
  CONTRACT of the document's Path (coterieref11).
-/
set_option linter.unusedVariables false
namespace Go.Proofs.Ytmganbdbihjbmaa
open Go.RowKit

def hasI (p : Int) (x : RI) : Bool := decide (x.fr ≤ p) && decide (p < x.to_)
def wayI (p : Int) : Nat → List RI → List Nat
  | _, [] => []
  | i, x :: l => if hasI p x = true then i :: wayI p (i + 1) l else wayI p (i + 1) l
theorem wayI_snoc (p : Int) : ∀ (i : Nat) (l : List RI) (x : RI), wayI p i (l ++ [x]) = wayI p i l ++ (if hasI p x = true then [i + l.length] else [])
  | i, [], x => by simp [wayI]
  | i, y :: l, x => by
    simp only [List.cons_append, wayI, wayI_snoc p (i + 1) l x, List.length_cons, show i + 1 + l.length = i + (l.length + 1) by omega]
    split <;> simp
theorem wayI_of (p : Nat) : ∀ (i : Nat) (l : List RN), wayI (p : Int) i (l.map RN.i) = wayOf p i l
  | _, [] => rfl
  | i, x :: l => by
    have e : hasI (p : Int) x.i = hasP p x := by simp [hasI, hasP, RN.i]
    simp only [List.map_cons, wayI, wayOf, wayI_of p (i + 1) l, e]
theorem wayI_len (p : Int) : ∀ (i : Nat) (l : List RI), (wayI p i l).length ≤ l.length
  | _, [] => by simp [wayI]
  | i, x :: l => by
    have := wayI_len p (i + 1) l
    rw [wayI]
    split <;> simp only [List.length_cons] <;> omega
/-- where a node's cells are -/
theorem NdR.range {w : World} {B : Nat} {A : Option Addr} {n c : Nat} {ns : List RI} (h : NdR w B A n c ns) {k : Nat} {x : RI} (hk : ns[k]? = some x) :
    ∃ b o Au cu, A = some ⟨b, o, none⟩ ∧ b < B ∧ w.rangeAt b (o + k * 7) (riC x (.slice Au x.kids.length cu)) ∧ x.kids.length ≤ cu ∧ cu ≤ maxLen ∧ Rd w B Au x.kids.length (x.kids.map iv) := by
  obtain ⟨us, h1, h2, h3⟩ := h.told
  have hkn : k < n := by have := (List.getElem?_eq_some_iff.1 hk).1; have := h.len; omega
  have hu : us[k]? = some us[k] := List.getElem?_eq_getElem (by omega)
  obtain ⟨Au, cu, e1, e2, e3, e4⟩ := h3 k x _ hk hu
  obtain ⟨b, o, rfl, hb, hc⟩ := h2.pos (by omega)
  refine ⟨b, o, Au, cu, rfl, hb, fun j u hj => ?_, e2, e3, e4⟩
  rw [← e1] at hj
  have hj7 : j < 7 := (List.getElem?_eq_some_iff.1 hj).1
  rw [Nat.add_assoc]
  refine hc (k * 7 + j) u ?_
  rw [cellsI_at ns us k j x _ (by rw [h1, h.len]) hk hu hj7]
  exact hj
def pathE (kind : Int) (ids : List Int) (ll : List (List Int)) (id : Int) : Int := if mayB kind ids ll = true then (if isT ids id = true then 0 else 6) else 1
def pathI (kind : Int) (ids : List Int) (ll : List (List Int)) (id : Int) : List Nat := if mayB kind ids ll = true ∧ isT ids id = true then wayI (belT ids id : Nat) 0 (nodesI kind ids ll) else []
def Path11Post (w : World) (kind : Int) (ids : List Int) (ll : List (List Int)) (id : Int) (e : Ending) (w' : World) : Prop :=
  Below w.heap.size w w' ∧ ∃ A n c, e = .returned (.tuple #[.slice A n c, .int .i64 (pathE kind ids ll id)]) ∧ n ≤ c ∧ c ≤ maxLen ∧ Rd w' w'.heap.size A n (kidV (pathI kind ids ll id))
def zN : Array Value := #[.int .i64 0, .int .i64 0, .bool false, .int .i64 0, .int .i64 0, .slice none 0 0, .int .i64 0]
theorem nodesU_len (kind : Int) (ids : List Int) (ll : List (List Int)) : (nodesI kind ids ll).length ≤ 2000 := by
  rw [nodesI]
  split
  · rename_i h
    rw [mayB, Bool.and_eq_true] at h
    obtain ⟨h1, _, h3, _⟩ := chkT_lv h.2
    have hs := lvOK_sum _ _ h3
    rw [List.length_map, nodesU]
    split
    · simp
    · rename_i h0
      rw [RT.flat_len]
      have := treeOf_size (kind := kind) hs (Nat.le_refl _) (wideN_pos hs (by omega) _ (Nat.le_refl _))
      omega
  · simp

end Go.Proofs.Ytmganbdbihjbmaa

/-
  CONTRACTS of the program's plan.each, with tree.Delete and with tree.Insert. Printed by gen_planeach.py.
-/
set_option linter.unusedVariables false
namespace Go.Proofs.Ytmganbdbihjbmaa
open Go.RowKit

/-- all deleted, one by one; all inserted -/
def runD : List Int → List Int → List (List Int) → Int × List Int × List (List Int)
  | [], ids, ll => (0, ids, ll)
  | id :: l, ids, ll => if delE ids ll id = 0 then runD l (delS ids (lvN ll) id).1 (levI (delS ids (lvN ll) id).2) else (delE ids ll id, [], [])
def runI : List Int → List Int → List (List Int) → Int × List Int × List (List Int)
  | [], ids, ll => (0, ids, ll)
  | id :: l, ids, ll => if insE ids ll id = 0 then runI l (insS ids (lvN ll) id).1 (levI (insS ids (lvN ll) id).2) else (insE ids ll id, [], [])
theorem runD_chk : ∀ (l ids : List Int) (ll : List (List Int)), chkT ids ll = true → (runD l ids ll).1 = 0 → chkT (runD l ids ll).2.1 (runD l ids ll).2.2 = true
  | [], ids, ll, h, _ => h
  | id :: l, ids, ll, h, h0 => by
    rw [runD] at h0 ⊢
    split at h0
    · next c => rw [if_pos c]; exact runD_chk l _ _ (del_chk c).2.2 h0
    · next c => exact absurd h0 c
theorem runI_chk : ∀ (l ids : List Int) (ll : List (List Int)), chkT ids ll = true → (runI l ids ll).1 = 0 → chkT (runI l ids ll).2.1 (runI l ids ll).2.2 = true
  | [], ids, ll, h, _ => h
  | id :: l, ids, ll, h, h0 => by
    rw [runI] at h0 ⊢
    split at h0
    · next c => rw [if_pos c]; exact runI_chk l _ _ (ins_chk c).2.2 h0
    · next c => exact absurd h0 c
/-- a list's numbers are new, from lo on, and may be written -/
def NI (lo : Nat) (w : World) (A : Option Addr) : Prop := ∀ ad, A = some ad → lo ≤ ad.block ∧ thawed w ad.block
theorem thawed.lt {w : World} {b : Nat} (h : thawed w b) : b < w.heap.size := by
  obtain ⟨cs, t, hr⟩ := h
  exact (show RowC w b t cs from hr).lt
theorem thawed.below {w w' : World} {b : Nat} (h : thawed w b) (hb : Below w.heap.size w w') : thawed w' b := by
  have hl := h.lt
  obtain ⟨cs, t, hr⟩ := h
  exact ⟨cs, t, by rw [hb.block b hl]; exact hr⟩
theorem thawed.row {w : World} {b g : Nat} (h : thawed w b) (hne : b ≠ g) (cs : Array Value) : thawed (w.setRow g cs) b := by
  obtain ⟨ds, t, hr⟩ := h
  exact ⟨ds, t, (show RowC w b t ds from hr).rowFar hne cs⟩
theorem NI.below {lo : Nat} {w w' : World} {A : Option Addr} (h : NI lo w A) (hb : Below w.heap.size w w') : NI lo w' A := fun ad e => ⟨(h ad e).1, (h ad e).2.below hb⟩
theorem NI.none (lo : Nat) (w : World) : NI lo w none := fun ad e => by cases e
theorem NI.row {lo : Nat} {w : World} {A : Option Addr} (h : NI lo w A) {g : Nat} (hne : ∀ ad, A = some ad → ad.block ≠ g) (cs : Array Value) : NI lo (w.setRow g cs) A := fun ad e => ⟨(h ad e).1, (h ad e).2.row (hne ad e) cs⟩
/-- a tree in old blocks, or in new ones behind the boxes -/
def ShX (lo b0 : Nat) (w : World) (Ai : Option Addr) (ni ci : Nat) (Al : Option Addr) (nl cl : Nat) (ids : List Int) (ll : List (List Int)) : Prop :=
  ShN lo w b0 Ai ni ci Al nl cl ids ll ∧ (∀ ad, Ai = some ad → ad.block < b0) ∨ ShN (b0 + 2) w w.heap.size Ai ni ci Al nl cl ids ll
section
variable {lo b0 : Nat} {w w' : World} {Ai : Option Addr} {ni ci : Nat} {Al : Option Addr} {nl cl : Nat} {ids : List Int} {ll : List (List Int)}
theorem ShX.shN (h : ShX lo b0 w Ai ni ci Al nl cl ids ll) (hb : b0 ≤ w.heap.size) (hlo : lo ≤ b0) : ShN lo w w.heap.size Ai ni ci Al nl cl ids ll := by
  rcases h with h | h
  · exact h.1.more hb
  · exact h.mono (by omega)
theorem ShX.box (h : ShX lo b0 w Ai ni ci Al nl cl ids ll) {g : Nat} (h1 : b0 ≤ g) (h2 : g < b0 + 2) (cs : Array Value) : ShX lo b0 (w.setRow g cs) Ai ni ci Al nl cl ids ll := by
  rcases h with h | h
  · exact .inl ⟨h.1.below (below_setRow (Below.refl _ _) h1 cs), h.2⟩
  · have := h.box h2 cs
    exact .inr (by rw [size_setRowT]; exact this)
theorem ShX.ne (h : ShX lo b0 w Ai ni ci Al nl cl ids ll) {g : Nat} (h1 : b0 ≤ g) (h2 : g < b0 + 2) : ∀ ad, Ai = some ad → ad.block ≠ g := fun ad e => by
  rcases h with h | h
  · have := h.2 ad e; omega
  · have := h.hi ad e; omega
end
def EachPost (run : List Int → List Int → List (List Int) → Int × List Int × List (List Int)) (lo : Nat) (w : World) (xs ids : List Int) (ll : List (List Int)) (e : Ending) (w' : World) : Prop :=
  Below w.heap.size w w' ∧ (((run xs ids ll).1 ≠ 0 ∧ e = .returned (.tuple #[.agg sh0, .int .i64 (run xs ids ll).1])) ∨
    ((run xs ids ll).1 = 0 ∧ ∃ Ai ni ci Al nl cl, e = .returned (.tuple #[.agg (shV Ai ni ci Al nl cl), .int .i64 0]) ∧ ShN lo w' w'.heap.size Ai ni ci Al nl cl (run xs ids ll).2.1 (run xs ids ll).2.2 ∧ NI lo w' Ai))

theorem rd_numT {w : World} {B : Nat} {A : Option Addr} {n : Nat} {xs : List Int} (h : Rd w B A n (xs.map iv)) {k : Nat} (hk : k < n) : ∃ b o, A = some ⟨b, o, none⟩ ∧ b < B ∧ w.cell? ⟨b, o + k, none⟩ = some (.int .i64 (xs.getD k 0)) := by
  obtain ⟨b, o, e, hb, hc⟩ := h.pos (by omega)
  have hl : k < xs.length := by have := h.len; rw [List.length_map] at this; omega
  refine ⟨b, o, e, hb, hc k _ ?_⟩
  rw [List.getElem?_map, List.getElem?_eq_getElem hl, getD_at (List.getElem?_eq_getElem hl)]
  rfl

set_option maxRecDepth 100000 in
set_option maxHeartbeats 4000000 in
theorem PEachD_any (lo : Nat) (Ai : Option Addr) (ni ci : Nat) (Al : Option Addr) (nl cl : Nat) (ids : List Int) (ll : List (List Int)) (Au : Option Addr) (n c : Nat) (xs : List Int) (w : World) (h : ShN lo w w.heap.size Ai ni ci Al nl cl ids ll) (hck : chkT ids ll = true) (hN : NI lo w Ai) (hlo : lo ≤ w.heap.size) (hx : Rd w w.heap.size Au n (xs.map iv)) (hn : n ≤ maxLen) :
    Calls Try.prog 27 #[.agg (shV Ai ni ci Al nl cl), .slice Au n c, .func (.func 29) #[] #[]] w (EachPost runD lo w xs ids ll) := by
  have hM0 := ((Ms.nil w).box 25 (shV Ai ni ci Al nl cl)).box 25 #[.slice none 0 0, .slice none 0 0]
  simp only [World.size_alloc] at hM0
  have Hxl := Lib.hid (show xs.length = n by have := hx.len; rwa [List.length_map] at this)
  have HE := Lib.hid (show ∀ (er : Int) w', (runD xs ids ll).1 = er → er ≠ 0 → Below w.heap.size w w' → EachPost runD lo w xs ids ll (.returned (.tuple #[.agg sh0, .int .i64 er])) w' from fun er w' h1 h2 hb => ⟨hb, .inl ⟨by rw [h1]; exact h2, by rw [h1]⟩⟩)
  have HO := Lib.hid (show ∀ w' Ai ni ci Al nl cl ids' ll', runD xs ids ll = (0, ids', ll') → Below w.heap.size w w' → ShN lo w' w'.heap.size Ai ni ci Al nl cl ids' ll' → NI lo w' Ai → EachPost runD lo w xs ids ll (.returned (.tuple #[.agg (shV Ai ni ci Al nl cl), .int .i64 0])) w' from fun w' Ai ni ci Al nl cl ids' ll' h1 hb h2 h3 => ⟨hb, .inr ⟨by rw [h1], Ai, ni, ci, Al, nl, cl, rfl, by rw [h1]; exact h2, h3⟩⟩)
  generalize EachPost runD lo w xs ids ll = PO at *
  rw [maxLen] at hn
  have hX0 : ShX lo w.heap.size ((w.alloc (.cells (shV Ai ni ci Al nl cl) 25)).alloc (.cells #[.slice none 0 0, .slice none 0 0] 25)) Ai ni ci Al nl cl ids ll := .inl ⟨h.below hM0.old, fun ad e => (hN ad e).2.lt⟩
  have hN0 := hN.below hM0.old
  go_enter Try.func27, Try.ntmps27
  go_upto_region 1 with fail
  try simp only [Act.put]
  refine wp_gen (fun wx => Ms w wx [(w.heap.size + 1, 25, #[.slice none 0 0, .slice none 0 0]), (w.heap.size, 25, shV Ai ni ci Al nl cl)] ∧ ShX lo w.heap.size wx Ai ni ci Al nl cl ids ll ∧ NI lo wx Ai) ⟨hM0, hX0, hN0⟩ ?_
  clear hM0 hX0 hN0 h hN
  rintro w1 ⟨hM1, hX1, hN1⟩
  have HM1 := Lib.hid hM1
  have HX1 := Lib.hid hX1
  have HN1 := Lib.hid hN1
  have Hck0 := Lib.hid hck
  clear hM1 hX1 hN1 hck
  go_wp2_with fail
  go_loopw [14] (fun v14 wr => ∃ (j : Nat) (Ai : Option Addr) (ni ci : Nat) (Al : Option Addr) (nl cl : Nat) (ids' : List Int) (ll' : List (List Int)), j ≤ n ∧ v14 = .int .i64 (j : Int) ∧ chkT ids' ll' = true ∧ runD xs ids ll = runD (xs.drop j) ids' ll' ∧ ShX lo w.heap.size wr Ai ni ci Al nl cl ids' ll' ∧ NI lo wr Ai ∧
    Ms w wr [(w.heap.size + 1, 25, #[.slice none 0 0, .slice none 0 0]), (w.heap.size, 25, shV Ai ni ci Al nl cl)]) (fun v14 _ => n - (intOf v14).toNat)
  case atStart => exact ⟨0, Ai, ni, ci, Al, nl, cl, ids, ll, by omega, rfl, Hck0.out, rfl, HX1.out, HN1.out, HM1.out⟩
  case round =>
    clear HM1 HX1 HN1
    obtain ⟨j, Ai, ni, ci, Al, nl, cl, ids', ll', hj, rfl, hck, hrun, hX, hNI, hM⟩ := hrel
    have hb := hM.old
    have hlt := (hM.get 0 rfl).lt
    by_cases hjn : j < n
    · have hjx : j < xs.length := by rw [Hxl.out]; exact hjn
      obtain ⟨b, o, rfl, hbb, c1⟩ := rd_numT (hx.below hb) hjn
      rw [show xs.getD j 0 = xs[j] from getD_at (List.getElem?_eq_getElem hjx)] at c1
      have Hd := Lib.hid (show xs.drop j = xs[j] :: xs.drop (j + 1) from List.drop_eq_getElem_cons hjx)
      have hin := PDelete_any Ai ni ci Al nl cl ids' ll' xs[j] wr (hX.shN hb.size hlo).sh (few_of_chk hck)
      generalize xs[j] = id at *
      have Hck := Lib.hid hck
      have Hrun := Lib.hid hrun
      have zj : (j : Int) < (n : Int) := by omega
      clear hck hrun
      go_wp2_with ((with_reducible show wpList _ _ _ (⟨some 20, _, _, _, _, _⟩ :: _) _ _); refine wpList_loadC (by kernel_rfl) 25 (.tmp 3) rfl w.heap.size rfl 25 (shV Ai ni ci Al nl cl) _ (hM.get 1 rfl) Try.underlying25 rfl (sizeSh _ _ _ _ _ _) ?_)
      refine hin.mono ?_
      intro e w2 hP
      obtain ⟨⟨hb2, ⟨he, hee⟩ | ⟨he, Ai2, ni2, ci2, Al2, nl2, cl2, hee, hsh2⟩⟩, hth⟩ := hP
      · subst hee
        have hP2 := (hM.call hb2).put 25 #[.slice none 0 0, .slice none 0 0] sh0
        have HEr := Lib.hid (show (runD xs ids ll).1 = delE ids' ll' id by rw [Hrun.out, Hd.out, runD, if_neg he])
        generalize delE ids' ll' id = er at *
        have hne : ¬ er = 0 := he
        have hneb : (er != 0) = true := by simpa using he
        have hold := below_setRow (g := w.heap.size + 1) hP2.old (by omega) sh0
        have hr2 := hP2.get 1 rfl
        clear hin hM hX hNI c1 hth
        go_wp2_with (first
          | ((with_reducible show wpList _ _ _ (⟨none, Op.store 25 _ _, _, _, _, _⟩ :: _) _ _); refine wpList_store_row rfl 25 (.tmp 10) (.tmp 23) rfl (w2.heap.size) sh0 rfl rfl 25 _ (RowC.new _ _ _) shapeInfo2 rfl (by simp [sh0, Value.oneCell']) ?_)
          | ((with_reducible show wpList _ _ _ (⟨none, Op.store 25 _ _, _, _, _, _⟩ :: _) _ _); refine wpList_store_row rfl 25 (.tmp 6) (.tmp 27) rfl (w.heap.size + 1) sh0 rfl rfl 25 _ hr2 shapeInfo2 rfl (by simp [sh0, Value.oneCell']) ?_))
        refine bodyPost_ret (results_cell_two rfl _ _ (w.heap.size + 1) 25 sh0 _ rfl (hr2.row _) Try.underlying25 rfl shapeInfo2) rfl ?_
        exact HE.out _ _ HEr.out hne hold
      · subst hee
        have hP2 := (hM.call hb2).put 25 #[.slice none 0 0, .slice none 0 0] (shV Ai2 ni2 ci2 Al2 nl2 cl2)
        have hc2 := (del_chk he).2.2
        have hrun2 : runD xs ids ll = runD (xs.drop (j + 1)) (delS ids' (lvN ll') id).1 (levI (delS ids' (lvN ll') id).2) := by rw [Hrun.out, Hd.out, runD, if_pos he]
        have hsz := hb2.size
        have hB3 : Below w2.heap.size w2 ((w2.alloc (.cells #[.slice none 0 0, .slice none 0 0] 25)).setRow w2.heap.size (shV Ai2 ni2 ci2 Al2 nl2 cl2)) := below_setRow ((Below.refl _ _).alloc (Nat.le_refl _) _) (Nat.le_refl _) _
        have hn2 : NI lo w2 Ai2 := fun ad e => ⟨by have := hsh2.hi ad e; have := hb.size; omega, (hth _ _ _ _ _ _ _ rfl).1 ad e⟩
        have hlow : ∀ ad, Ai2 = some ad → wr.heap.size ≤ ad.block := fun ad e => hsh2.hi ad e
        have hsh3 := hsh2.call hB3
        have hn3 := hn2.below hB3
        have hM4 := ((hP2.subT (L' := [(w.heap.size, 25, shV Ai ni ci Al nl cl), (w.heap.size + 1, 25, #[.slice none 0 0, .slice none 0 0])]) (fun p hp => by simp at hp; rcases hp with rfl | rfl <;> simp)).setT (Nat.le_refl _) (fun p hp => by simp at hp; subst hp; simp) (shV Ai2 ni2 ci2 Al2 nl2 cl2)).subT (L' := [(w.heap.size + 1, 25, #[.slice none 0 0, .slice none 0 0]), (w.heap.size, 25, shV Ai2 ni2 ci2 Al2 nl2 cl2)]) (fun p hp => by simp at hp; rcases hp with rfl | rfl <;> simp)
        have hsh4 : ShX lo w.heap.size _ Ai2 ni2 ci2 Al2 nl2 cl2 _ _ := ShX.box (.inr (hsh3.mono (lo' := w.heap.size + 2) (by omega))) (g := w.heap.size) (Nat.le_refl _) (by omega) (shV Ai2 ni2 ci2 Al2 nl2 cl2)
        have hn4 := hn3.row (g := w.heap.size) (fun ad e => by have := hlow ad e; omega) (shV Ai2 ni2 ci2 Al2 nl2 cl2)
        have hr0 := hP2.get 0 rfl
        have hr2 := hP2.get 2 rfl
        generalize (delS ids' (lvN ll') id).1 = ids2 at *
        generalize levI (delS ids' (lvN ll') id).2 = ll2 at *
        have HM4 := Lib.hid hM4
        have HX4 := Lib.hid hsh4
        have HN4 := Lib.hid hn4
        have Hrun2 := Lib.hid hrun2
        have Hc2 := Lib.hid hc2
        clear hin hM hX hNI c1 hsh2 hsh3 hB3 hth hM4 hsh4 hn4 hn3 hn2 hP2 hlow hrun2 hc2
        go_wp2_with (first
          | ((with_reducible show wpList _ _ _ (⟨none, Op.store 25 _ _, _, _, _, _⟩ :: _) _ _); refine wpList_store_row rfl 25 (.tmp 10) (.tmp 23) rfl (w2.heap.size) (shV Ai2 ni2 ci2 Al2 nl2 cl2) rfl rfl 25 _ (RowC.new _ _ _) (sizeSh _ _ _ _ _ _) rfl (one_sh _ _ _ _ _ _) ?_)
          | ((with_reducible show wpList _ _ _ (⟨some 29, _, _, _, _, _⟩ :: _) _ _); refine wpList_loadC (by kernel_rfl) 25 (.tmp 10) rfl (w2.heap.size) rfl 25 (shV Ai2 ni2 ci2 Al2 nl2 cl2) _ hr0 Try.underlying25 rfl (sizeSh _ _ _ _ _ _) ?_)
          | ((with_reducible show wpList _ _ _ (⟨none, Op.store 25 _ _, _, _, _, _⟩ :: _) _ _); refine wpList_store_row rfl 25 (.tmp 3) (.tmp 29) rfl w.heap.size (shV Ai2 ni2 ci2 Al2 nl2 cl2) rfl rfl 25 _ hr2 (sizeSh _ _ _ _ _ _) rfl (one_sh _ _ _ _ _ _) ?_))
        go_roundw
        case rel => exact ⟨j + 1, Ai2, ni2, ci2, Al2, nl2, cl2, ids2, ll2, by omega, by go_num, Hc2.out, Hrun2.out, HX4.out, HN4.out, HM4.out⟩
        case measure => simp [intOf]; omega
    · obtain rfl : j = n := by omega
      have Hfin := Lib.hid (show runD xs ids ll = (0, ids', ll') by rw [hrun, List.drop_of_length_le (by rw [Hxl.out]; exact Nat.le_refl _)]; rfl)
      have hX9 := hX.box (g := w.heap.size + 1) (by omega) (by omega) (shV Ai ni ci Al nl cl)
      have hN9 := hNI.row (hX.ne (g := w.heap.size + 1) (by omega) (by omega)) (shV Ai ni ci Al nl cl)
      have hold := below_setRow (g := w.heap.size + 1) hb (by omega) (shV Ai ni ci Al nl cl)
      have HF := Lib.hid (HO.out _ _ _ _ _ _ _ _ _ Hfin.out hold (hX9.shN hold.size hlo) hN9)
      have hr0 := hM.get 0 rfl
      have hr1 := hM.get 1 rfl
      clear hrun hX hNI hX9 hN9 hM
      go_wp2_with (first
        | ((with_reducible show wpList _ _ _ (⟨some 31, _, _, _, _, _⟩ :: _) _ _); refine wpList_loadC (by kernel_rfl) 25 (.tmp 3) rfl w.heap.size rfl 25 (shV Ai ni ci Al nl cl) _ hr1 Try.underlying25 rfl (sizeSh _ _ _ _ _ _) ?_)
        | ((with_reducible show wpList _ _ _ (⟨none, Op.store 25 _ _, _, _, _, _⟩ :: _) _ _); refine wpList_store_row rfl 25 (.tmp 6) (.tmp 31) rfl (w.heap.size + 1) (shV Ai ni ci Al nl cl) rfl rfl 25 _ hr0 (sizeSh _ _ _ _ _ _) rfl (one_sh _ _ _ _ _ _) ?_))
      refine bodyPost_ret (results_cell_two rfl _ _ (w.heap.size + 1) 25 (shV Ai ni ci Al nl cl) _ rfl (hr0.row _) Try.underlying25 rfl (sizeSh _ _ _ _ _ _)) rfl ?_
      exact HF.out

set_option maxRecDepth 100000 in
set_option maxHeartbeats 4000000 in
theorem PEachI_any (lo : Nat) (Ai : Option Addr) (ni ci : Nat) (Al : Option Addr) (nl cl : Nat) (ids : List Int) (ll : List (List Int)) (Au : Option Addr) (n c : Nat) (xs : List Int) (w : World) (h : ShN lo w w.heap.size Ai ni ci Al nl cl ids ll) (hck : chkT ids ll = true) (hN : NI lo w Ai) (hlo : lo ≤ w.heap.size) (hx : Rd w w.heap.size Au n (xs.map iv)) (hn : n ≤ maxLen) :
    Calls Try.prog 27 #[.agg (shV Ai ni ci Al nl cl), .slice Au n c, .func (.func 30) #[] #[]] w (EachPost runI lo w xs ids ll) := by
  have hM0 := ((Ms.nil w).box 25 (shV Ai ni ci Al nl cl)).box 25 #[.slice none 0 0, .slice none 0 0]
  simp only [World.size_alloc] at hM0
  have Hxl := Lib.hid (show xs.length = n by have := hx.len; rwa [List.length_map] at this)
  have HE := Lib.hid (show ∀ (er : Int) w', (runI xs ids ll).1 = er → er ≠ 0 → Below w.heap.size w w' → EachPost runI lo w xs ids ll (.returned (.tuple #[.agg sh0, .int .i64 er])) w' from fun er w' h1 h2 hb => ⟨hb, .inl ⟨by rw [h1]; exact h2, by rw [h1]⟩⟩)
  have HO := Lib.hid (show ∀ w' Ai ni ci Al nl cl ids' ll', runI xs ids ll = (0, ids', ll') → Below w.heap.size w w' → ShN lo w' w'.heap.size Ai ni ci Al nl cl ids' ll' → NI lo w' Ai → EachPost runI lo w xs ids ll (.returned (.tuple #[.agg (shV Ai ni ci Al nl cl), .int .i64 0])) w' from fun w' Ai ni ci Al nl cl ids' ll' h1 hb h2 h3 => ⟨hb, .inr ⟨by rw [h1], Ai, ni, ci, Al, nl, cl, rfl, by rw [h1]; exact h2, h3⟩⟩)
  generalize EachPost runI lo w xs ids ll = PO at *
  rw [maxLen] at hn
  have hX0 : ShX lo w.heap.size ((w.alloc (.cells (shV Ai ni ci Al nl cl) 25)).alloc (.cells #[.slice none 0 0, .slice none 0 0] 25)) Ai ni ci Al nl cl ids ll := .inl ⟨h.below hM0.old, fun ad e => (hN ad e).2.lt⟩
  have hN0 := hN.below hM0.old
  go_enter Try.func27, Try.ntmps27
  go_upto_region 1 with fail
  try simp only [Act.put]
  refine wp_gen (fun wx => Ms w wx [(w.heap.size + 1, 25, #[.slice none 0 0, .slice none 0 0]), (w.heap.size, 25, shV Ai ni ci Al nl cl)] ∧ ShX lo w.heap.size wx Ai ni ci Al nl cl ids ll ∧ NI lo wx Ai) ⟨hM0, hX0, hN0⟩ ?_
  clear hM0 hX0 hN0 h hN
  rintro w1 ⟨hM1, hX1, hN1⟩
  have HM1 := Lib.hid hM1
  have HX1 := Lib.hid hX1
  have HN1 := Lib.hid hN1
  have Hck0 := Lib.hid hck
  clear hM1 hX1 hN1 hck
  go_wp2_with fail
  go_loopw [14] (fun v14 wr => ∃ (j : Nat) (Ai : Option Addr) (ni ci : Nat) (Al : Option Addr) (nl cl : Nat) (ids' : List Int) (ll' : List (List Int)), j ≤ n ∧ v14 = .int .i64 (j : Int) ∧ chkT ids' ll' = true ∧ runI xs ids ll = runI (xs.drop j) ids' ll' ∧ ShX lo w.heap.size wr Ai ni ci Al nl cl ids' ll' ∧ NI lo wr Ai ∧
    Ms w wr [(w.heap.size + 1, 25, #[.slice none 0 0, .slice none 0 0]), (w.heap.size, 25, shV Ai ni ci Al nl cl)]) (fun v14 _ => n - (intOf v14).toNat)
  case atStart => exact ⟨0, Ai, ni, ci, Al, nl, cl, ids, ll, by omega, rfl, Hck0.out, rfl, HX1.out, HN1.out, HM1.out⟩
  case round =>
    clear HM1 HX1 HN1
    obtain ⟨j, Ai, ni, ci, Al, nl, cl, ids', ll', hj, rfl, hck, hrun, hX, hNI, hM⟩ := hrel
    have hb := hM.old
    have hlt := (hM.get 0 rfl).lt
    by_cases hjn : j < n
    · have hjx : j < xs.length := by rw [Hxl.out]; exact hjn
      obtain ⟨b, o, rfl, hbb, c1⟩ := rd_numT (hx.below hb) hjn
      rw [show xs.getD j 0 = xs[j] from getD_at (List.getElem?_eq_getElem hjx)] at c1
      have Hd := Lib.hid (show xs.drop j = xs[j] :: xs.drop (j + 1) from List.drop_eq_getElem_cons hjx)
      have hin := PInsert_any Ai ni ci Al nl cl ids' ll' xs[j] wr (hX.shN hb.size hlo).sh (few_of_chk hck)
      generalize xs[j] = id at *
      have Hck := Lib.hid hck
      have Hrun := Lib.hid hrun
      have zj : (j : Int) < (n : Int) := by omega
      clear hck hrun
      go_wp2_with ((with_reducible show wpList _ _ _ (⟨some 20, _, _, _, _, _⟩ :: _) _ _); refine wpList_loadC (by kernel_rfl) 25 (.tmp 3) rfl w.heap.size rfl 25 (shV Ai ni ci Al nl cl) _ (hM.get 1 rfl) Try.underlying25 rfl (sizeSh _ _ _ _ _ _) ?_)
      refine hin.mono ?_
      intro e w2 hP
      obtain ⟨⟨hb2, ⟨he, hee⟩ | ⟨he, Ai2, ni2, ci2, Al2, nl2, cl2, hee, hsh2⟩⟩, hth⟩ := hP
      · subst hee
        have hP2 := (hM.call hb2).put 25 #[.slice none 0 0, .slice none 0 0] sh0
        have HEr := Lib.hid (show (runI xs ids ll).1 = insE ids' ll' id by rw [Hrun.out, Hd.out, runI, if_neg he])
        generalize insE ids' ll' id = er at *
        have hne : ¬ er = 0 := he
        have hneb : (er != 0) = true := by simpa using he
        have hold := below_setRow (g := w.heap.size + 1) hP2.old (by omega) sh0
        have hr2 := hP2.get 1 rfl
        clear hin hM hX hNI c1 hth
        go_wp2_with (first
          | ((with_reducible show wpList _ _ _ (⟨none, Op.store 25 _ _, _, _, _, _⟩ :: _) _ _); refine wpList_store_row rfl 25 (.tmp 10) (.tmp 23) rfl (w2.heap.size) sh0 rfl rfl 25 _ (RowC.new _ _ _) shapeInfo2 rfl (by simp [sh0, Value.oneCell']) ?_)
          | ((with_reducible show wpList _ _ _ (⟨none, Op.store 25 _ _, _, _, _, _⟩ :: _) _ _); refine wpList_store_row rfl 25 (.tmp 6) (.tmp 27) rfl (w.heap.size + 1) sh0 rfl rfl 25 _ hr2 shapeInfo2 rfl (by simp [sh0, Value.oneCell']) ?_))
        refine bodyPost_ret (results_cell_two rfl _ _ (w.heap.size + 1) 25 sh0 _ rfl (hr2.row _) Try.underlying25 rfl shapeInfo2) rfl ?_
        exact HE.out _ _ HEr.out hne hold
      · subst hee
        have hP2 := (hM.call hb2).put 25 #[.slice none 0 0, .slice none 0 0] (shV Ai2 ni2 ci2 Al2 nl2 cl2)
        have hc2 := (ins_chk he).2.2
        have hrun2 : runI xs ids ll = runI (xs.drop (j + 1)) (insS ids' (lvN ll') id).1 (levI (insS ids' (lvN ll') id).2) := by rw [Hrun.out, Hd.out, runI, if_pos he]
        have hsz := hb2.size
        have hB3 : Below w2.heap.size w2 ((w2.alloc (.cells #[.slice none 0 0, .slice none 0 0] 25)).setRow w2.heap.size (shV Ai2 ni2 ci2 Al2 nl2 cl2)) := below_setRow ((Below.refl _ _).alloc (Nat.le_refl _) _) (Nat.le_refl _) _
        have hn2 : NI lo w2 Ai2 := fun ad e => ⟨by have := hsh2.hi ad e; have := hb.size; omega, (hth _ _ _ _ _ _ _ rfl).1 ad e⟩
        have hlow : ∀ ad, Ai2 = some ad → wr.heap.size ≤ ad.block := fun ad e => hsh2.hi ad e
        have hsh3 := hsh2.call hB3
        have hn3 := hn2.below hB3
        have hM4 := ((hP2.subT (L' := [(w.heap.size, 25, shV Ai ni ci Al nl cl), (w.heap.size + 1, 25, #[.slice none 0 0, .slice none 0 0])]) (fun p hp => by simp at hp; rcases hp with rfl | rfl <;> simp)).setT (Nat.le_refl _) (fun p hp => by simp at hp; subst hp; simp) (shV Ai2 ni2 ci2 Al2 nl2 cl2)).subT (L' := [(w.heap.size + 1, 25, #[.slice none 0 0, .slice none 0 0]), (w.heap.size, 25, shV Ai2 ni2 ci2 Al2 nl2 cl2)]) (fun p hp => by simp at hp; rcases hp with rfl | rfl <;> simp)
        have hsh4 : ShX lo w.heap.size _ Ai2 ni2 ci2 Al2 nl2 cl2 _ _ := ShX.box (.inr (hsh3.mono (lo' := w.heap.size + 2) (by omega))) (g := w.heap.size) (Nat.le_refl _) (by omega) (shV Ai2 ni2 ci2 Al2 nl2 cl2)
        have hn4 := hn3.row (g := w.heap.size) (fun ad e => by have := hlow ad e; omega) (shV Ai2 ni2 ci2 Al2 nl2 cl2)
        have hr0 := hP2.get 0 rfl
        have hr2 := hP2.get 2 rfl
        generalize (insS ids' (lvN ll') id).1 = ids2 at *
        generalize levI (insS ids' (lvN ll') id).2 = ll2 at *
        have HM4 := Lib.hid hM4
        have HX4 := Lib.hid hsh4
        have HN4 := Lib.hid hn4
        have Hrun2 := Lib.hid hrun2
        have Hc2 := Lib.hid hc2
        clear hin hM hX hNI c1 hsh2 hsh3 hB3 hth hM4 hsh4 hn4 hn3 hn2 hP2 hlow hrun2 hc2
        go_wp2_with (first
          | ((with_reducible show wpList _ _ _ (⟨none, Op.store 25 _ _, _, _, _, _⟩ :: _) _ _); refine wpList_store_row rfl 25 (.tmp 10) (.tmp 23) rfl (w2.heap.size) (shV Ai2 ni2 ci2 Al2 nl2 cl2) rfl rfl 25 _ (RowC.new _ _ _) (sizeSh _ _ _ _ _ _) rfl (one_sh _ _ _ _ _ _) ?_)
          | ((with_reducible show wpList _ _ _ (⟨some 29, _, _, _, _, _⟩ :: _) _ _); refine wpList_loadC (by kernel_rfl) 25 (.tmp 10) rfl (w2.heap.size) rfl 25 (shV Ai2 ni2 ci2 Al2 nl2 cl2) _ hr0 Try.underlying25 rfl (sizeSh _ _ _ _ _ _) ?_)
          | ((with_reducible show wpList _ _ _ (⟨none, Op.store 25 _ _, _, _, _, _⟩ :: _) _ _); refine wpList_store_row rfl 25 (.tmp 3) (.tmp 29) rfl w.heap.size (shV Ai2 ni2 ci2 Al2 nl2 cl2) rfl rfl 25 _ hr2 (sizeSh _ _ _ _ _ _) rfl (one_sh _ _ _ _ _ _) ?_))
        go_roundw
        case rel => exact ⟨j + 1, Ai2, ni2, ci2, Al2, nl2, cl2, ids2, ll2, by omega, by go_num, Hc2.out, Hrun2.out, HX4.out, HN4.out, HM4.out⟩
        case measure => simp [intOf]; omega
    · obtain rfl : j = n := by omega
      have Hfin := Lib.hid (show runI xs ids ll = (0, ids', ll') by rw [hrun, List.drop_of_length_le (by rw [Hxl.out]; exact Nat.le_refl _)]; rfl)
      have hX9 := hX.box (g := w.heap.size + 1) (by omega) (by omega) (shV Ai ni ci Al nl cl)
      have hN9 := hNI.row (hX.ne (g := w.heap.size + 1) (by omega) (by omega)) (shV Ai ni ci Al nl cl)
      have hold := below_setRow (g := w.heap.size + 1) hb (by omega) (shV Ai ni ci Al nl cl)
      have HF := Lib.hid (HO.out _ _ _ _ _ _ _ _ _ Hfin.out hold (hX9.shN hold.size hlo) hN9)
      have hr0 := hM.get 0 rfl
      have hr1 := hM.get 1 rfl
      clear hrun hX hNI hX9 hN9 hM
      go_wp2_with (first
        | ((with_reducible show wpList _ _ _ (⟨some 31, _, _, _, _, _⟩ :: _) _ _); refine wpList_loadC (by kernel_rfl) 25 (.tmp 3) rfl w.heap.size rfl 25 (shV Ai ni ci Al nl cl) _ hr1 Try.underlying25 rfl (sizeSh _ _ _ _ _ _) ?_)
        | ((with_reducible show wpList _ _ _ (⟨none, Op.store 25 _ _, _, _, _, _⟩ :: _) _ _); refine wpList_store_row rfl 25 (.tmp 6) (.tmp 31) rfl (w.heap.size + 1) (shV Ai ni ci Al nl cl) rfl rfl 25 _ hr0 (sizeSh _ _ _ _ _ _) rfl (one_sh _ _ _ _ _ _) ?_))
      refine bodyPost_ret (results_cell_two rfl _ _ (w.heap.size + 1) 25 (shV Ai ni ci Al nl cl) _ rfl (hr0.row _) Try.underlying25 rfl (sizeSh _ _ _ _ _ _)) rfl ?_
      exact HF.out

end Go.Proofs.Ytmganbdbihjbmaa

/-
  CONTRACT of the program's plan.copied: a handed tree in rows of the call's own. Printed by gen_plancopied.py.
-/
set_option linter.unusedVariables false
namespace Go.Proofs.Ytmganbdbihjbmaa
open Go.RowKit

set_option maxRecDepth 100000 in
set_option maxHeartbeats 8000000 in
theorem PCopied12_any (Ai : Option Addr) (ni ci : Nat) (Al : Option Addr) (nl cl : Nat) (ids : List Int) (lv : List (List Nat)) (w : World) (hn2 : lv.length ≤ 20) (hn1 : ids.length ≤ 1000) (hlm : ∀ l ∈ lv, l.length ≤ 1000) (h : ShR w w.heap.size Ai ni ci Al nl cl ids (levI lv)) :
    Calls Try.prog 28 #[.agg (shV Ai ni ci Al nl cl)] w (PutPost w.heap.size w ids lv) := by
  obtain ⟨i1, hi1, hy0, hy1, hy2⟩ := info_parts listInfo
  have Hpost := Lib.hid (show ∀ Ai ni ci Al nl cl vs w', Below w.heap.size w w' → OwW w.heap.size w' (.slice Ai ni ci) (.slice Al nl cl) vs vs ids (levI lv) → PutPost w.heap.size w ids lv (.returned (.agg (shV Ai ni ci Al nl cl))) w' from fun _ _ _ _ _ _ _ _ h1 h2 => ⟨h1, _, _, _, _, _, _, _, rfl, h2⟩)
  generalize PutPost w.heap.size w ids lv = PO at *
  have hM0 := ((Ms.nil w).box 25 (shV Ai ni ci Al nl cl)).box 25 #[.slice none 0 0, .slice none 0 0]
  simp only [World.size_alloc] at hM0
  have Hni := Lib.hid h.hni
  have Hnl := Lib.hid (show lv.length = nl by have := h.hnl; rwa [levI_lenX] at this)
  have hnl20 : nl ≤ 20 := by rw [← Hnl.out]; exact hn2
  have hni1 : ni ≤ 1000 := by rw [← Hni.out]; exact hn1
  have hci := h.hci
  have hcl := h.hcl
  have hwn : IntKind.i64.wrap ((nl : Int) + 1) = (nl : Int) + 1 := by rw [IntKind.wrap_i64]; omega
  obtain ⟨vs, hv, hlv⟩ := h.lvs
  have hids := h.hids
  clear h
  go_enter Try.func28, Try.ntmps28
  go_upto_region 1 with fail
  try simp only [Act.put]
  obtain ⟨gS, hgS⟩ : ∃ g, g = w.heap.size := ⟨_, rfl⟩
  refine wp_gen (fun wx => Ms w wx [(w.heap.size + 1, 25, #[.slice none 0 0, .slice none 0 0]), (w.heap.size, 25, shV Ai ni ci Al nl cl)]) hM0 ?_
  clear hM0
  rintro w0 hM0
  have hs0 := (hM0.get 0 rfl).lt
  have hw00 := hM0.old
  rw [← hgS] at hM0 hs0 ⊢
  have HgS := Lib.hid hgS
  clear hgS
  have hid0 := (hids.below hw00).more hw00.size
  have k0 := (hM0.get 1 rfl).cell (i := 0) (v := .slice Ai ni ci) rfl
  have hcn := Clone_any Ai ni ci (ids.map iv) w0 hci (by omega) (one_iv _) hid0
  go_wp2_with fail
  refine hcn.mono ?_
  rintro e w2 ⟨A2, c2, he, ho2, hb2⟩
  subst he
  have hMc := (hM0.call hb2).put 25 #[.slice none 0 0, .slice none 0 0] #[.slice A2 ni c2, .slice none 0 0]
  have hbl := below_setRow ((Below.refl w2.heap.size w2).alloc (Nat.le_refl _) (.cells #[.slice none 0 0, .slice none 0 0] 25)) (Nat.le_refl _) #[.slice A2 ni c2, .slice none 0 0]
  have hsw : w.heap.size ≤ w0.heap.size := hw00.size
  have ho := own_below (own_monoT ho2 hsw) hbl
  go_upto_region 2 with ((with_reducible show wpList _ _ _ (⟨none, Op.store 25 _ _, _, _, _, _⟩ :: _) _ _); refine wpList_store_row rfl 25 (.tmp 3) (.tmp 9) rfl w2.heap.size #[.slice A2 ni c2, .slice none 0 0] rfl rfl 25 _ (RowC.new _ _ _) shapeInfo2 rfl (by simp [Value.oneCell']) ?_)
  try simp only [Act.put]
  obtain ⟨gO, hgO⟩ : ∃ g, g = w2.heap.size := ⟨_, rfl⟩
  have hgO2 : w0.heap.size ≤ gO := by rw [hgO]; exact hb2.size
  rw [← hgO] at hMc ho ⊢
  refine wp_gen (fun wx => Ms w wx [(gO, 25, #[.slice A2 ni c2, .slice none 0 0]), (gS + 1, 25, #[.slice none 0 0, .slice none 0 0]), (gS, 25, shV Ai ni ci Al nl cl)] ∧ wx.ownsRow w.heap.size 3 1 (.slice A2 ni c2) ni (ids.map iv)) ⟨hMc, ho⟩ ?_
  clear hMc ho hcn hb2 hbl ho2 hgO k0
  rintro wc ⟨hMc, ho⟩
  have hMB : MsB w.heap.size w wc [(gO, 25, #[.slice A2 ni c2, .slice none 0 0]), (gS + 1, 25, #[.slice none 0 0, .slice none 0 0]), (gS, 25, shV Ai ni ci Al nl cl)] := ⟨hMc.old, fun p hp => by
    simp only [List.mem_cons, List.not_mem_nil, or_false] at hp
    rcases hp with rfl | rfl | rfl
    · exact hMc.get 0 rfl
    · exact hMc.get 1 rfl
    · exact hMc.get 2 rfl⟩
  have hO : OwW w.heap.size wc (.slice A2 ni c2) (.slice none 0 0) [] [] ids (levI (lv.take 0)) := ⟨by rw [Hni.out]; exact ho, World.ownsRow_nil _ _ _ _, rfl, fun k u l hk => by simp at hk, fun k u g hk => by simp at hk, fun j k u v g hj => by simp at hj⟩
  have k1 := (hMB.get 2 rfl).cell (i := 1) (v := .slice Al nl cl) rfl
  have hgO := hgO2
  clear hM0 hw00 hid0 hMc ho
  go_wp2_with fail
  go_loopw [13] (fun i wr => ∃ (j : Nat) (A3 : Option Addr) (c3 : Nat) (us : List Value), j ≤ nl ∧ i = .int .i64 (j : Int) ∧ OwW w.heap.size wr (.slice A2 ni c2) (.slice A3 j c3) us us ids (levI (lv.take j)) ∧
    MsB w.heap.size w wr [(gO, 25, #[.slice A2 ni c2, .slice A3 j c3]), (gS + 1, 25, #[.slice none 0 0, .slice none 0 0]), (gS, 25, shV Ai ni ci Al nl cl)]) (fun i _ => nl - (intOf i).toNat)
  case atStart => exact ⟨0, none, 0, [], by omega, rfl, hO, hMB⟩
  case round =>
    clear hMB hO k1
    obtain ⟨j, A3, c3, us, hj, rfl, h, hM⟩ := hrel
    have hb := hM.old
    have hltO := (hM.get 0 rfl).lt
    have hbs := hb.size
    by_cases hjn : j < nl
    · have hjl : j < lv.length := by rw [Hnl.out]; exact hjn
      obtain ⟨l, hl⟩ : ∃ l, lv[j]? = some l := ⟨_, List.getElem?_eq_getElem hjl⟩
      have hjl' : j < (levI lv).length := by rw [levI_lenX]; exact hjl
      obtain ⟨b, o, rfl, hbb, hcell⟩ := (hv.below hb).pos (by omega)
      obtain ⟨Aj, cj, hvj, hcj, hmj, hrj⟩ := hlv.get hjl'
      have hce : (levI lv)[j] = castL l := Option.some.inj ((List.getElem?_eq_getElem hjl').symm.trans (levI_get hl))
      rw [hce, castL_len] at hvj hcj hrj
      have c1 := hcell j _ hvj
      have hlen : l.length ≤ 1000 := hlm _ (List.mem_of_getElem? hl)
      have hrjw := hrj.below hb
      have Htk := Lib.hid (show lv.take (j + 1) = lv.take j ++ [l] by rw [List.take_add_one, hl]; rfl)
      have hlj : (levI (lv.take j)).length = j := by rw [levI_lenX, List.length_take]; omega
      have hol := h.l
      rw [hlj] at hol
      have Hlj := Lib.hid hlj
      obtain ⟨m, hm⟩ : ∃ m, m = l.length := ⟨_, rfl⟩
      rw [← hm] at hvj hcj hrjw c1 hlen
      have Hm := Lib.hid hm
      have kO := (hM.get 0 rfl).cell (i := 1) (v := .slice A3 j c3) rfl
      clear hcell hvj hrj hjl hjl' hce hl hlj hm
      go_upto_region 5 with fail
      try simp only [Act.put]
      have hkeep : ∀ wx : World, Below wr.heap.size wr wx → wx.cell? ⟨gO, 1, none⟩ = some (.slice A3 j c3) := fun wx hb => ((hM.get 0 rfl).call hb).cell rfl
      refine beginT (fun wx => wx.cell? ⟨gO, 1, none⟩ = some (.slice A3 j c3)) 7 (by kernel_rfl) ?_
      have hS := hkeep _ (c_drew (c_refl _))
      refine takeD 0 (some 17) (.pointer (some ⟨gO, 1, none⟩)) rfl rfl (by kernel_rfl) (by kernel_rfl) (by kernel_rfl) (by kernel_rfl) (fun _ _ _ h => h) (Or.inl ⟨by kernel_rfl, fun wx hSw => by have h := hSw; go_simp⟩) hS ?_
      simp only [Act.put, List.setIfInBounds_toArray, List.set_cons_zero, List.set_cons_succ]
      refine takeD 1 (some 18) (.slice A3 j c3) rfl rfl (by kernel_rfl) (by kernel_rfl) (by kernel_rfl) (by kernel_rfl) (fun _ _ _ h => h) (Or.inl ⟨by kernel_rfl, fun wx hSw => by have h := hSw; go_simp⟩) hS ?_
      simp only [Act.put, List.setIfInBounds_toArray, List.set_cons_zero, List.set_cons_succ]
      refine takeD 2 (some 19) (.slice Aj m cj) rfl rfl (by kernel_rfl) (by kernel_rfl) (by kernel_rfl) (by kernel_rfl) (fun _ _ _ h => h) (Or.inl ⟨by kernel_rfl, fun wx hSw => by have h := hSw; go_simp⟩) hS ?_
      simp only [Act.put, List.setIfInBounds_toArray, List.set_cons_zero, List.set_cons_succ]
      have hx0 : Below wr.heap.size wr wr.drew := c_drew (c_refl _)
      have hrj0 := (hrjw.below (hx0.mono hbs)).more (show w.heap.size ≤ wr.drew.heap.size from hbs)
      have hsx0 : wr.drew.heap.size = wr.heap.size := rfl
      have hMx0 := hM.call hx0 hbs
      have hox0 := own_below hol hx0
      generalize wr.drew = x0 at *
      refine oneT 3 (by kernel_rfl) rfl (fun K hK => ?_)
      go_simp
      refine (Clone_any Aj m cj ((castL l).map iv) x0 hcj (by omega) (one_iv _) hrj0).mono ?_
      rintro e x1 ⟨A5, c5, rfl, ho5, hx1⟩
      have hwx1 := c_call hx0 hx1
      have hMx1 := hMx0.call hx1 (by omega)
      have hox1 := own_below hox0 hx1
      have hf5 : ∀ q, (Value.slice A5 m c5).ownBlock = some q → wr.heap.size ≤ q := fun q hq => by rw [← hsx0]; exact own_blockT ho5 q hq
      have ho5 := own_monoT ho5 (show w.heap.size ≤ x0.heap.size by omega)
      refine hK.out _ _ (fun _ => hkeep _ hwx1) ?_
      clear hK K
      try simp only [Act.put, List.setIfInBounds_toArray, List.set_cons_zero, List.set_cons_succ]
      have hal := d_al x1 (.cells #[.slice A5 m c5] 22)
      have hwx2 := c_call hwx1 hal
      have hMx2 := hMx1.call hal (by have := hwx1.size; omega)
      have hox2 := own_below hox1 hal
      have ho52 := own_below ho5 hal
      have hs1 := hwx1.size
      refine oneT 4 (by kernel_rfl) rfl (fun K hK => ?_)
      go_simp
      refine hK.out _ _ (fun _ => hkeep _ hwx2) ?_
      clear hK K
      have hone : ∀ u ∈ [Value.slice A5 m c5], u.oneCell' = true := by intro u hu; simp at hu; subst hu; rfl
      have hz2 : (x1.alloc (.cells #[.slice A5 m c5] 22)).heap.size = x1.heap.size + 1 := by simp
      refine oneT 5 (by kernel_rfl) rfl (fun K hK => ?_)
      refine step_append_rdT (by kernel_rfl) (some 22) rfl (.tmp 18) (.tmp 21) _ rfl w.heap.size 22 i1 _ 24 Try.underlying23 hi1 hy0 hy1 hy2 rfl (.slice A3 j c3) j us rfl hox2 (x1.heap.size + 1) (some ⟨x1.heap.size, 0, none⟩) 1 1 [.slice A5 m c5] rfl (Rd.mk_ _ _ _ rfl (by omega) rfl rfl) hone (by simp only [maxLen]; omega) (by omega) (by omega) ?_
      intro v6 x3 hown6 hgr6 hat6
      obtain ⟨A6, c6, rfl, _, _⟩ := own_formT hown6
      have h6 := h.snoc (u := .slice A5 m c5) (vL' := .slice A6 (j + 1) c6) (l := castL l) hwx2 (by rw [castL_len, ← Hm.out]; exact ho52) hf5 hgr6 (by rw [Hlj.out]; exact hown6)
      rw [show levI (lv.take j) ++ [castL l] = levI (lv.take (j + 1)) by rw [Htk.out]; simp [levI_cast]] at h6
      have hMx3 := hMx2.turn hgr6 (by omega) (fun q hq => by
        obtain ⟨cs, hr⟩ := own_tyT hox2 hq
        exact ⟨own_blockT hox2 q hq, _, cs, hr, fun p hp => by simp at hp; rcases hp with rfl | rfl | rfl <;> exact sh_ne.2.symm⟩)
      have kx : x3.cell? ⟨gO, 1, none⟩ = some (.slice A3 j c3) := (hMx3.get 0 rfl).cell rfl
      have fx := (hMx3.get 0 rfl).frozen 1
      refine hK.out _ _ (fun _ => kx) ?_
      clear hK K
      try simp only [Act.put, List.setIfInBounds_toArray, List.set_cons_zero, List.set_cons_succ]
      generalize us ++ [Value.slice A5 m c5] = us2 at h6
      have hgw : w.heap.size ≤ gO := by have := HgS.out; omega
      have hM7 := hMx3.set hgw (fun q hq => by simp at hq; rcases hq with rfl | rfl <;> simp <;> omega) 1 (.slice A6 (j + 1) c6)
      rw [show (#[.slice A2 ni c2, .slice A3 j c3] : Array Value).setIfInBounds 1 (.slice A6 (j + 1) c6) = #[.slice A2 ni c2, .slice A6 (j + 1) c6] from rfl] at hM7
      have h7 := h6.far (grown_setCell x3 gO 1 (.slice A6 (j + 1) c6)) (hMx3.get 0 rfl) sh_ne.1 sh_ne.2
      clear hMx3 hMx2 hMx1 hMx0 hox2 hox1 hox0 ho52 ho5 hf5 hown6 hgr6 hat6 h6 h hM hol hrj0 hrjw hS hkeep hone
      refine takeD 6 (some 23) (.pointer (some ⟨gO, 1, none⟩)) rfl rfl (by kernel_rfl) (by kernel_rfl) (by kernel_rfl) (by kernel_rfl) (fun _ _ _ h => h) (Or.inl ⟨by kernel_rfl, fun wx hSw => by go_simp⟩) kx ?_
      simp only [Act.put, List.setIfInBounds_toArray, List.set_cons_zero, List.set_cons_succ]
      refine oneT 7 (by kernel_rfl) rfl (fun K hK => ?_)
      go_simp
      refine hK.out _ _ (fun h => absurd rfl h) ?_
      clear hK K
      refine doneT (by kernel_rfl) ?_ _
      go_wp2_with fail
      go_roundw
      case rel => exact ⟨j + 1, A6, c6, us2, by omega, by go_num, h7, hM7⟩
      case measure => simp [intOf]; omega
    · obtain rfl : j = nl := by omega
      rw [List.take_of_length_le (by rw [Hnl.out]; exact Nat.le_refl _)] at h
      go_wp2_with (first
        | ((with_reducible show wpList _ _ _ (⟨some 25, _, _, _, _, _⟩ :: _) _ _); refine wpList_loadC (by kernel_rfl) 25 (.tmp 3) rfl gO rfl 25 #[.slice A2 ni c2, .slice A3 j c3] _ (hM.get 0 rfl) Try.underlying25 rfl shapeInfo2 ?_)
        | ((with_reducible show wpList _ _ _ (⟨none, Op.store 25 _ _, _, _, _, _⟩ :: _) _ _); refine wpList_store_row rfl 25 (.tmp 2) (.tmp 25) rfl (gS + 1) #[.slice A2 ni c2, .slice A3 j c3] rfl rfl 25 _ (hM.get 1 rfl) shapeInfo2 rfl (by simp [Value.oneCell']) ?_))
      try simp only [Act.put]
      have hR9 := (hM.get 1 rfl).row #[.slice A2 ni c2, .slice A3 j c3]
      have hw9 := h.far (grown_setRow _ (gS + 1) #[.slice A2 ni c2, .slice A3 j c3]) (hM.get 1 rfl) sh_ne.1 sh_ne.2
      have hb9 := below_setRow hM.old (show w.heap.size ≤ gS + 1 by have := HgS.out; omega) #[.slice A2 ni c2, .slice A3 j c3]
      refine bodyPost_ret (results_cell_one rfl _ _ (gS + 1) _ #[.slice A2 ni c2, .slice A3 j c3] _ rfl hR9 Try.underlying25 rfl shapeInfo2) rfl (Hpost.out _ _ _ _ _ _ _ _ hb9 hw9)

end Go.Proofs.Ytmganbdbihjbmaa


/-
  CONTRACT of the program's plan.Change.
-/
set_option linter.unusedVariables false
namespace Go.Proofs.Ytmganbdbihjbmaa
open Go.RowKit

/-- all of out deleted, and then all of in inserted -/
def chgR (out inn ids : List Int) (ll : List (List Int)) : Int × List Int × List (List Int) :=
  if chkT ids ll = true then (if (runD out ids ll).1 = 0 then runI inn (runD out ids ll).2.1 (runD out ids ll).2.2 else ((runD out ids ll).1, [], [])) else (1, [], [])
theorem chgR_chk {out inn ids : List Int} {ll : List (List Int)} (h : (chgR out inn ids ll).1 = 0) : chkT (chgR out inn ids ll).2.1 (chgR out inn ids ll).2.2 = true := by
  rw [chgR] at h ⊢
  split at h
  · next c1 =>
    rw [if_pos c1]
    split at h
    · next c2 => rw [if_pos c2]; exact runI_chk _ _ _ (runD_chk _ _ _ c1 c2) h
    · next c2 => exact absurd h c2
  · simp at h
def ChgPost (lo : Nat) (w : World) (out inn ids : List Int) (ll : List (List Int)) (e : Ending) (w' : World) : Prop :=
  Below w.heap.size w w' ∧ (((chgR out inn ids ll).1 ≠ 0 ∧ e = .returned (.tuple #[.agg sh0, .int .i64 (chgR out inn ids ll).1])) ∨
    ((chgR out inn ids ll).1 = 0 ∧ ∃ Ai ni ci Al nl cl, e = .returned (.tuple #[.agg (shV Ai ni ci Al nl cl), .int .i64 0]) ∧ ShN lo w' w'.heap.size Ai ni ci Al nl cl (chgR out inn ids ll).2.1 (chgR out inn ids ll).2.2 ∧ NI lo w' Ai))

set_option maxRecDepth 100000 in
set_option maxHeartbeats 4000000 in
theorem PChange_any (Ai : Option Addr) (ni ci : Nat) (Al : Option Addr) (nl cl : Nat) (ids : List Int) (ll : List (List Int)) (Ao : Option Addr) (no co : Nat) (out : List Int) (An : Option Addr) (nn cn : Nat) (inn : List Int) (w : World) (h : ShR w w.heap.size Ai ni ci Al nl cl ids ll) (hf : fewT ids ll = true)
    (hro : Rd w w.heap.size Ao no (out.map iv)) (hno : no ≤ maxLen) (hrn : Rd w w.heap.size An nn (inn.map iv)) (hnn : nn ≤ maxLen) :
    Calls Try.prog 12 #[.agg (shV Ai ni ci Al nl cl), .slice Ao no co, .slice An nn cn] w (ChgPost w.heap.size w out inn ids ll) := by
  have hM0 := ((Ms.nil w).box 25 (shV Ai ni ci Al nl cl)).box 25 #[.slice none 0 0, .slice none 0 0]
  simp only [World.size_alloc] at hM0
  have hold0 := hM0.old
  have Hs := Lib.hid (fun wx (hb : Below w.heap.size w wx) => (h.below hb).more hb.size)
  have Hro := Lib.hid (fun wx (hb : Below w.heap.size w wx) => (hro.below hb).more hb.size)
  have Hrn := Lib.hid (fun wx (hb : Below w.heap.size w wx) => (hrn.below hb).more hb.size)
  have HE := Lib.hid (show ∀ (er : Int) w', (chgR out inn ids ll).1 = er → er ≠ 0 → Below w.heap.size w w' → ChgPost w.heap.size w out inn ids ll (.returned (.tuple #[.agg sh0, .int .i64 er])) w' from fun er w' h1 h2 hb => ⟨hb, .inl ⟨by rw [h1]; exact h2, by rw [h1]⟩⟩)
  have HO := Lib.hid (show ∀ w' Ai ni ci Al nl cl R, chgR out inn ids ll = R → R.1 = 0 → Below w.heap.size w w' → ShN w.heap.size w' w'.heap.size Ai ni ci Al nl cl R.2.1 R.2.2 → NI w.heap.size w' Ai → ChgPost w.heap.size w out inn ids ll (.returned (.tuple #[.agg (shV Ai ni ci Al nl cl), .int .i64 0])) w' from fun w' Ai ni ci Al nl cl R h1 h0 hb h2 h3 => ⟨hb, .inr ⟨by rw [h1]; exact h0, Ai, ni, ci, Al, nl, cl, rfl, by rw [h1]; exact h2, h3⟩⟩)
  generalize ChgPost w.heap.size w out inn ids ll = PO at *
  have hck := PCheck_any Ai ni ci Al nl cl ids ll _ (Hs.out _ hold0) (few_million hf) (by have := (few_len hf).2.1; have := h.hni; omega)
  clear h hro hrn
  go_enter Try.func12, Try.ntmps12
  go_wp2_with ((with_reducible show wpList _ _ _ (⟨some 11, _, _, _, _, _⟩ :: _) _ _); refine wpList_loadC (by kernel_rfl) 25 (.tmp 3) rfl w.heap.size rfl 25 (shV Ai ni ci Al nl cl) _ (hM0.get 1 rfl) Try.underlying25 rfl shapeInfo2 ?_)
  refine hck.mono ?_
  rintro e w1 ⟨he, hb1⟩
  subst he
  have hM1 := hM0.call hb1
  have hold1 := hM1.old
  clear hM0 hb1 hck hold0
  by_cases hc : chkT ids ll = true
  rotate_left
  · have hcf : chkT ids ll = false := by simpa using hc
    rw [show chkE ids ll = 1 by rw [chkE, hcf]; rfl]
    have hr1 := hM1.get 0 rfl
    have HF := Lib.hid (HE.out 1 _ (by rw [chgR, if_neg hc]) (by decide) (below_setRow (g := w.heap.size + 1) hold1 (by omega) sh0))
    clear hM1
    go_wp2_with ((with_reducible show wpList _ _ _ (⟨none, Op.store 25 _ _, _, _, _, _⟩ :: _) _ _); refine wpList_store_row rfl 25 (.tmp 6) (.tmp 15) rfl (w.heap.size + 1) sh0 rfl rfl 25 _ hr1 shapeInfo2 rfl (by simp [sh0, Value.oneCell']) ?_)
    refine bodyPost_ret (results_cell_two rfl _ _ (w.heap.size + 1) 25 sh0 _ rfl (hr1.row _) Try.underlying25 rfl shapeInfo2) rfl ?_
    exact HF.out
  · rw [show chkE ids ll = 0 by rw [chkE, hc]; rfl]
    obtain ⟨c1, c2, c3, c4⟩ := chkT_lv hc
    have hl2 := levI_lvN c4
    have hhi := lv_high hc
    have hs1 := Hs.out _ hold1
    rw [← hl2] at hs1
    have hcp := PCopied12_any Ai ni ci Al nl cl ids (lvN ll) w1 (by omega) c1 (fun l hl => Nat.le_trans (lvOK_len _ _ c3 l hl) c1) hs1
    have Hc := Lib.hid hc
    have Hl2 := Lib.hid hl2
    clear c1 c2 c3 c4 hl2 hs1 hhi
    go_wp2_with ((with_reducible show wpList _ _ _ (⟨some 18, _, _, _, _, _⟩ :: _) _ _); refine wpList_loadC (by kernel_rfl) 25 (.tmp 3) rfl w.heap.size rfl 25 (shV Ai ni ci Al nl cl) _ (hM1.get 1 rfl) Try.underlying25 rfl shapeInfo2 ?_)
    refine hcp.mono ?_
    rintro e w2 ⟨hb2, A2, n2, k2, B2, m2, d2, vs2, he, how⟩
    subst he
    have hM2 := hM1.call hb2
    have hold2 := hM2.old
    obtain ⟨hsN, hth⟩ := how.shN (Nat.le_refl _)
    rw [Hl2.out] at hsN
    have hz1 : w.heap.size + 2 ≤ w1.heap.size := by have := (hM1.get 0 rfl).lt; omega
    have hNI : NI (w.heap.size + 2) w2 A2 := fun ad e => ⟨by have := hsN.hi ad e; omega, hth.1 ad e⟩
    have hsN := hsN.mono hz1
    have hea := PEachD_any (w.heap.size + 2) A2 n2 k2 B2 m2 d2 ids ll Ao no co out w2 hsN Hc.out hNI (Nat.le_trans hz1 hb2.size) (Hro.out _ hold2) hno
    have hz2 := hb2.size
    clear hcp hM1 hold1 hb2 how hsN hth hNI
    go_wp2_with fail
    refine hea.mono ?_
    rintro e w3 ⟨hb3, ⟨hr, he⟩ | ⟨hr, A3, n3, k3, B3, m3, d3, he, hsh3, hN3⟩⟩
    · subst he
      have hP := (hM2.call hb3).put 25 #[.slice none 0 0, .slice none 0 0] sh0
      have HR := Lib.hid (show (chgR out inn ids ll).1 = (runD out ids ll).1 by rw [chgR, if_pos Hc.out, if_neg hr])
      generalize (runD out ids ll).1 = er at *
      have hneb : (er != 0) = true := by simpa using hr
      have hr2 := hP.get 1 rfl
      have HF := Lib.hid (HE.out er _ HR.out hr (below_setRow (g := w.heap.size + 1) hP.old (by omega) sh0))
      clear hM2 hea hP hb3 hold2
      go_wp2_with (first
        | ((with_reducible show wpList _ _ _ (⟨none, Op.store 25 _ _, _, _, _, _⟩ :: _) _ _); refine wpList_store_row rfl 25 (.tmp 9) (.tmp 22) rfl (w3.heap.size) sh0 rfl rfl 25 _ (RowC.new _ _ _) shapeInfo2 rfl (by simp [sh0, Value.oneCell']) ?_)
        | ((with_reducible show wpList _ _ _ (⟨none, Op.store 25 _ _, _, _, _, _⟩ :: _) _ _); refine wpList_store_row rfl 25 (.tmp 6) (.tmp 26) rfl (w.heap.size + 1) sh0 rfl rfl 25 _ hr2 shapeInfo2 rfl (by simp [sh0, Value.oneCell']) ?_))
      refine bodyPost_ret (results_cell_two rfl _ _ (w.heap.size + 1) 25 sh0 _ rfl (hr2.row _) Try.underlying25 rfl shapeInfo2) rfl ?_
      exact HF.out
    · subst he
      have hP := (hM2.call hb3).put 25 #[.slice none 0 0, .slice none 0 0] (shV A3 n3 k3 B3 m3 d3)
      have hB4 := below_setRow ((Below.refl w3.heap.size w3).alloc (Nat.le_refl _) (.cells #[.slice none 0 0, .slice none 0 0] 25)) (Nat.le_refl _) (shV A3 n3 k3 B3 m3 d3)
      have hsh4 := hsh3.call hB4
      have hz3 : w.heap.size + 2 ≤ w3.heap.size := Nat.le_trans (Nat.le_trans hz1 hz2) hb3.size
      have hN4 := hN3.below hB4
      have hck4 := runD_chk out ids ll Hc.out hr
      have HR := Lib.hid (show chgR out inn ids ll = runI inn (runD out ids ll).2.1 (runD out ids ll).2.2 by rw [chgR, if_pos Hc.out, if_pos hr])
      generalize (runD out ids ll).2.1 = ids4 at *
      generalize (runD out ids ll).2.2 = ll4 at *
      have hz4 : ((w3.alloc (.cells #[.slice none 0 0, .slice none 0 0] 25)).setRow w3.heap.size (shV A3 n3 k3 B3 m3 d3)).heap.size = w3.heap.size + 1 := by rw [size_setRowT]; simp
      clear hM2 hea hb3 hold2 hsh3 hN3 hB4 hr
      go_upto_region 5 with ((with_reducible show wpList _ _ _ (⟨none, Op.store 25 _ _, _, _, _, _⟩ :: _) _ _); refine wpList_store_row rfl 25 (.tmp 9) (.tmp 22) rfl (w3.heap.size) (shV A3 n3 k3 B3 m3 d3) rfl rfl 25 _ (RowC.new _ _ _) (sizeSh _ _ _ _ _ _) rfl (one_sh _ _ _ _ _ _) ?_)
      try simp only [Act.put]
      obtain ⟨g9, hg9⟩ : ∃ g, g = w3.heap.size := ⟨_, rfl⟩
      rw [← hg9] at hP hsh4 hN4 hz4 ⊢
      refine wp_gen (fun wx => Ms w wx [(g9, 25, shV A3 n3 k3 B3 m3 d3), (w.heap.size + 1, 25, #[.slice none 0 0, .slice none 0 0]), (w.heap.size, 25, shV Ai ni ci Al nl cl)] ∧ ShN (w.heap.size + 2) wx wx.heap.size A3 n3 k3 B3 m3 d3 ids4 ll4 ∧ NI (w.heap.size + 2) wx A3 ∧ w.heap.size + 2 ≤ wx.heap.size) ⟨hP, hsh4, hN4, by omega⟩ ?_
      clear hP hsh4 hN4 hz4 hg9
      rintro w4 ⟨hM4, hsh4, hN4, hz4⟩
      have hold4 := hM4.old
      have hea := PEachI_any (w.heap.size + 2) A3 n3 k3 B3 m3 d3 ids4 ll4 An nn cn inn w4 hsh4 hck4 hN4 hz4 (Hrn.out _ hold4) hnn
      go_wp2_with ((with_reducible show wpList _ _ _ (⟨some 28, _, _, _, _, _⟩ :: _) _ _); refine wpList_loadC (by kernel_rfl) 25 (.tmp 9) rfl g9 rfl 25 (shV A3 n3 k3 B3 m3 d3) _ (hM4.get 0 rfl) Try.underlying25 rfl shapeInfo2 ?_)
      refine hea.mono ?_
      rintro e w5 ⟨hb5, ⟨hr, he⟩ | ⟨hr, A5, n5, k5, B5, m5, d5, he, hsh5, hN5⟩⟩
      · subst he
        have hM5 := hM4.call hb5
        have hr2 := hM5.get 1 rfl
        have HRe := Lib.hid (show (chgR out inn ids ll).1 = (runI inn ids4 ll4).1 by rw [HR.out])
        generalize (runI inn ids4 ll4).1 = er at *
        have HF := Lib.hid (HE.out er _ HRe.out hr (below_setRow (g := w.heap.size + 1) hM5.old (by omega) sh0))
        clear hM4 hea hM5 hb5 hold4 hsh4 hN4
        go_wp2_with ((with_reducible show wpList _ _ _ (⟨none, Op.store 25 _ _, _, _, _, _⟩ :: _) _ _); refine wpList_store_row rfl 25 (.tmp 6) (.tmp 31) rfl (w.heap.size + 1) sh0 rfl rfl 25 _ hr2 shapeInfo2 rfl (by simp [sh0, Value.oneCell']) ?_)
        refine bodyPost_ret (results_cell_two rfl _ _ (w.heap.size + 1) 25 sh0 _ rfl (hr2.row _) Try.underlying25 rfl shapeInfo2) rfl ?_
        exact HF.out
      · subst he
        have hM5 := hM4.call hb5
        have hr2 := hM5.get 1 rfl
        have hsh6 := hsh5.box (g := w.heap.size + 1) (by omega) (shV A5 n5 k5 B5 m5 d5)
        have hN6 := hN5.row (g := w.heap.size + 1) (fun ad e => by have := (hN5 ad e).1; omega) (shV A5 n5 k5 B5 m5 d5)
        have hold6 := below_setRow (g := w.heap.size + 1) hM5.old (by omega) (shV A5 n5 k5 B5 m5 d5)
        have HF := Lib.hid (HO.out _ A5 n5 k5 B5 m5 d5 _ HR.out hr hold6 (by rw [size_setRowT]; exact hsh6.mono (by omega)) (fun ad e => ⟨by have := (hN6 ad e).1; omega, (hN6 ad e).2⟩))
        clear hM4 hea hM5 hb5 hold4 hsh4 hN4 hsh5 hN5 hsh6 hN6 hold6
        go_wp2_with ((with_reducible show wpList _ _ _ (⟨none, Op.store 25 _ _, _, _, _, _⟩ :: _) _ _); refine wpList_store_row rfl 25 (.tmp 6) (.tmp 31) rfl (w.heap.size + 1) (shV A5 n5 k5 B5 m5 d5) rfl rfl 25 _ hr2 (sizeSh _ _ _ _ _ _) rfl (one_sh _ _ _ _ _ _) ?_)
        refine bodyPost_ret (results_cell_two rfl _ _ (w.heap.size + 1) 25 (shV A5 n5 k5 B5 m5 d5) _ rfl (hr2.row _) Try.underlying25 rfl shapeInfo2) rfl ?_
        exact HF.out

end Go.Proofs.Ytmganbdbihjbmaa

