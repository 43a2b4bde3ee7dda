import Derived.Test.YtmganbdbihjbmaaG22
import Derived.Test.YtmganbdbihjbmaaG03
/-
  CONTRACT of the document's below (coterieref11): a level's group with all below, by the level.
-/
set_option linter.unusedVariables false
namespace Go.Proofs.Ytmganbdbihjbmaa
open Go.RowKit

theorem own_lower {w : World} {base base' size : Nat} {e : TypeId} {v : Value} {n : Nat} {xs : List Value} (h : w.ownsRow base' e size v n xs) (hb : base ≤ base') : w.ownsRow base e size v n xs := by
  obtain ⟨h1, h | ⟨g, cap, cur, e1, e2, r⟩⟩ := h
  · exact ⟨h1, .inl h⟩
  · exact ⟨h1, .inr ⟨g, cap, cur, e1, by omega, r⟩⟩
/-- what a call has added: a block that is new, or no block -/
def newV (B : Nat) (u : Value) : Prop := ∀ g, u.ownBlock = some g → B ≤ g
section
variable {base : Nat} {w w' : World} {v : Value} {ns : List RN} {us : List Value}
/-- rows of numbers beside -/
theorem OwR.nums (h : OwR base w v ns us) (hg : w.grownBy w' v.ownBlock) {b n : Nat} {q : Value} {xs : List Value} (hq : w.ownsRow b 3 1 q n xs) : w'.ownsRow b 3 1 q n xs := by
  cases hv : v.ownBlock with
  | none => rw [hv] at hg; exact hq.kept hg (by cases q.ownBlock <;> simp)
  | some g =>
    rw [hv] at hg
    obtain ⟨cs, hr⟩ := own_tyT h.row hv
    exact own_farT hq hg hr nd_ne
theorem sh_ndR : (25 : TypeId) ≠ 57 := by decide
theorem OwR.box (h : OwR base w v ns us) (hg : w.grownBy w' v.ownBlock) {b : Nat} {cs : Array Value} (hq : RowC w b 25 cs) : RowC w' b 25 cs :=
  hq.grownT hg fun k hk e => by
    subst e
    obtain ⟨cs', hr⟩ := own_tyT h.row hk
    exact sh_ndR (ty_neT hq hr)
theorem OwR.belowR (h : OwR base w v ns us) (hg : w.grownBy w' v.ownBlock) (hb : base ≤ w.heap.size) : Below base w w' := (Below.refl _ _).grown hg hb (own_blockT h.row)
end
/-- trees that are done, and not yet joined -/
def redT (r3 : Bool) (lev a : Nat) (sub : Nat → RT) : Nat → List RT
  | 0 => []
  | i + 1 => if r3 = true ∧ i = 1 then [.two lev a true (sub 0) (sub 1)] else redT r3 lev a sub i ++ [sub i]
end Go.Proofs.Ytmganbdbihjbmaa

/-
  CONTRACT of the document's below (coterieref11) at a level above the leaves, by those below.
-/
set_option linter.unusedVariables false
namespace Go.Proofs.Ytmganbdbihjbmaa
open Go.RowKit

section
variable {base : Nat} {w w' : World} {v : Value} {ns : List RN} {us : List Value}
/-- a row of numbers is turned -/
theorem OwR.numTurn (h : OwR base w v ns us) {b n : Nat} {q : Value} {xs : List Value} (hq : w.ownsRow b 3 1 q n xs) (hg : w.grownBy w' q.ownBlock) (hu : ∀ u ∈ us, u.ownBlock = none ∨ u.ownBlock ≠ q.ownBlock) : OwR base w' v ns us := by
  refine h.kept hg ?_ hu
  cases hv : v.ownBlock with
  | none => exact .inl rfl
  | some g =>
    refine .inr fun e => ?_
    obtain ⟨cs, hr⟩ := own_tyT h.row hv
    obtain ⟨cs', hr'⟩ := own_tyT hq e.symm
    exact nd_ne (ty_neT hr hr')
theorem sh_intR : (25 : TypeId) ≠ 3 := by decide
theorem box_numTurn {g : Nat} {cs : Array Value} (h : RowC w g 25 cs) {b n : Nat} {q : Value} {xs : List Value} (hq : w.ownsRow b 3 1 q n xs) (hg : w.grownBy w' q.ownBlock) : RowC w' g 25 cs :=
  h.grownT hg fun k hk e => by
    subst e
    obtain ⟨cs', hr⟩ := own_tyT hq hk
    exact sh_intR (ty_neT h hr)
end
theorem redT_len (r3 : Bool) (lev a : Nat) (sub : Nat → RT) : ∀ j, (redT r3 lev a sub j).length ≤ j
  | 0 => by simp [redT]
  | j + 1 => by
    rw [redT]
    split
    · simp
    · rw [List.length_append]
      have := redT_len r3 lev a sub j
      simp only [List.length_singleton]
      omega
theorem redT_size (r3 : Bool) (lev a : Nat) (sub : Nat → RT) {m j : Nat} (hm : m = 2 ∨ m = 3) (hr : r3 = true → m = 3) (hj : j < m) : sizes (redT r3 lev a sub j) + (sub j).size ≤ sizes (redT r3 lev a sub m) := by
  have hr' : r3 = false ∨ (r3 = true ∧ m = 3) := by cases r3 <;> simp_all
  rcases hr' with rfl | ⟨rfl, rfl⟩
  · rcases hm with rfl | rfl
    · have : j = 0 ∨ j = 1 := by omega
      rcases this with rfl | rfl <;> simp [redT, sizes]
    · have : j = 0 ∨ j = 1 ∨ j = 2 := by omega
      rcases this with rfl | rfl | rfl <;> simp [redT, sizes] <;> omega
  · have : j = 0 ∨ j = 1 ∨ j = 2 := by omega
    rcases this with rfl | rfl | rfl <;> simp [redT, sizes, RT.size] <;> omega
theorem treeOf_join {kind : Int} {lv : List (List Nat)} {k a : Nat} {l : List Nat} (hl : lv[k]? = some l) (h23 : two3 l) (ha : a < l.length) :
    treeOf kind lv (k + 1) a = joinT (k + 1) a false (redT (decide (kind = 2 ∧ l[a] = 3)) (k + 1) a (fun i => treeOf kind lv k (startT l a + i)) l[a]) ∧
    (treeOf kind lv (k + 1) a).size = sizes (redT (decide (kind = 2 ∧ l[a] = 3)) (k + 1) a (fun i => treeOf kind lv k (startT l a + i)) l[a]) + 1 := by
  have hx : l.getD a 0 = l[a] := getD_at (List.getElem?_eq_getElem ha)
  rw [treeOf, getD_at hl, hx]
  rcases two3_get h23 ha with h | h
  · rw [h]
    simp [redT, joinT, sizes, RT.size]
  · rw [h]
    by_cases hk : kind = 2
    · simp [redT, joinT, sizes, RT.size, hk]
    · simp [redT, joinT, sizes, RT.size, hk]
      omega
theorem redT_form (r3 : Bool) (lev a : Nat) (sub : Nat → RT) {m : Nat} (hm : m = 2 ∨ m = 3) (hr : r3 = true → m = 3) :
    (∃ l r, redT r3 lev a sub m = [l, r]) ∨ ((false : Bool) = false ∧ ∃ l x r, redT r3 lev a sub m = [l, x, r]) := by
  have hr' : r3 = false ∨ (r3 = true ∧ m = 3) := by cases r3 <;> simp_all
  rcases hr' with rfl | ⟨rfl, rfl⟩
  · rcases hm with rfl | rfl
    · exact .inl ⟨sub 0, sub 1, by simp [redT]⟩
    · exact .inr ⟨rfl, sub 0, sub 1, sub 2, by simp [redT]⟩
  · exact .inl ⟨.two lev a true (sub 0) (sub 1), sub 2, by simp [redT]⟩

end Go.Proofs.Ytmganbdbihjbmaa

/-
  NODES AS THEY ARE TOLD (layer 11), read from memory; what the document's Nodes answers.
-/
set_option linter.unusedVariables false
namespace Go.Proofs.Ytmganbdbihjbmaa
open Go.RowKit

/-- a node as it is read: any numbers -/
structure RI where
  lev : Int
  at_ : Int
  red : Bool
  fr : Int
  to_ : Int
  kids : List Int
  up : Int
def RN.i (x : RN) : RI := ⟨x.lev, x.at_, x.red, x.fr, x.to, castL x.kids, x.up⟩
def riC (x : RI) (u : Value) : List Value := [.int .i64 x.lev, .int .i64 x.at_, .bool x.red, .int .i64 x.fr, .int .i64 x.to_, u, .int .i64 x.up]
def cellsI : List RI → List Value → List Value
  | x :: ns, u :: us => riC x u ++ cellsI ns us
  | _, _ => []
theorem cellsI_len : ∀ (ns : List RI) (us : List Value), us.length = ns.length → (cellsI ns us).length = ns.length * 7
  | [], [], _ => rfl
  | x :: ns, u :: us, h => by
    rw [cellsI, List.length_append, cellsI_len ns us (by simpa using h), List.length_cons, riC]
    simp only [List.length_cons, List.length_nil]
    omega
  | [], u :: us, h => by simp at h
  | x :: ns, [], h => by simp at h
theorem cellsI_at : ∀ (ns : List RI) (us : List Value) (k j : Nat) (x : RI) (u : Value), us.length = ns.length → ns[k]? = some x → us[k]? = some u → j < 7 → (cellsI ns us)[k * 7 + j]? = (riC x u)[j]?
  | [], _, k, j, x, u, _, h, _, _ => by simp at h
  | y :: ns, [], k, j, x, u, h, _, _, _ => by simp at h
  | y :: ns, v :: us, 0, j, x, u, _, hx, hu, hj => by
    simp at hx hu
    subst hx hu
    rw [cellsI, List.getElem?_append_left (by simp only [riC, List.length_cons, List.length_nil]; omega), Nat.zero_mul, Nat.zero_add]
  | y :: ns, v :: us, k + 1, j, x, u, h, hx, hu, hj => by
    rw [cellsI, List.getElem?_append_right (by simp only [riC, List.length_cons, List.length_nil]; omega), show (riC y v).length = 7 from rfl, show (k + 1) * 7 + j - 7 = k * 7 + j by omega]
    exact cellsI_at ns us k j x u (by simpa using h) (by simpa using hx) (by simpa using hu) hj
theorem cells_i : ∀ (ns : List RN) (us : List Value), cellsR ns us = cellsI (ns.map RN.i) us
  | [], _ => rfl
  | x :: ns, [] => rfl
  | x :: ns, u :: us => by rw [List.map_cons, cellsR, cellsI, cells_i ns us]; rfl
/-- a slice of nodes is read; their Kids are read -/
structure NdR (w : World) (B : Nat) (A : Option Addr) (n c : Nat) (ns : List RI) : Prop where
  len : ns.length = n
  cap : n ≤ c ∧ c ≤ maxLen
  told : ∃ us, us.length = n ∧ Rd w B A (n * 7) (cellsI ns us) ∧ ∀ (k : Nat) (x : RI) (u : Value), ns[k]? = some x → us[k]? = some u → ∃ Au cu, u = .slice Au x.kids.length cu ∧ x.kids.length ≤ cu ∧ cu ≤ maxLen ∧ Rd w B Au x.kids.length (x.kids.map iv)
theorem NdR.keep {w w' : World} {B B' : Nat} (hk : ∀ (A : Option Addr) (n : Nat) (xs : List Value), Rd w B A n xs → Rd w' B' A n xs) {A : Option Addr} {n c : Nat} {ns : List RI} (h : NdR w B A n c ns) : NdR w' B' A n c ns := by
  obtain ⟨us, h1, h2, h3⟩ := h.told
  refine ⟨h.len, h.cap, us, h1, hk _ _ _ h2, fun k x u hx hu => ?_⟩
  obtain ⟨Au, cu, e1, e2, e3, e4⟩ := h3 k x u hx hu
  exact ⟨Au, cu, e1, e2, e3, hk _ _ _ e4⟩
theorem NdR.below {w w' : World} {B : Nat} {A : Option Addr} {n c : Nat} {ns : List RI} (h : NdR w B A n c ns) (hb : Below B w w') : NdR w' B A n c ns := h.keep fun _ _ _ hr => hr.below hb
theorem NdR.more {w : World} {B B' : Nat} {A : Option Addr} {n c : Nat} {ns : List RI} (h : NdR w B A n c ns) (hb : B ≤ B') : NdR w B' A n c ns := h.keep fun _ _ _ hr => hr.more hb
theorem NdR.zero (w : World) (B : Nat) : NdR w B none 0 0 [] := ⟨rfl, ⟨Nat.le_refl _, by simp [maxLen]⟩, [], rfl, Rd.zero _ _ _, fun k x u h => by simp at h⟩
theorem Rd.of_ownZ {w : World} {base size : Nat} {e : TypeId} {A : Option Addr} {n c : Nat} {xs : List Value} (h : w.ownsRow base e size (.slice A n c) n xs) : Rd w w.heap.size A (n * size) xs := by
  refine ⟨h.1, fun hn => ?_⟩
  have hn0 : 0 < n := Nat.pos_of_ne_zero fun e => by subst e; omega
  obtain ⟨g, rfl⟩ := own_someZ h hn0
  refine ⟨g, 0, rfl, own_ltT h g rfl, fun j u hu => ?_⟩
  have hj : j < n * size := by rw [← h.1]; exact (List.getElem?_eq_some_iff.1 hu).1
  rw [Nat.zero_add, h.cellAt j hj]
  exact hu
/-- nodes of the call's own are told -/
theorem OwR.told {base : Nat} {w : World} {A : Option Addr} {c : Nat} {ns : List RN} {us : List Value} (h : OwR base w (.slice A ns.length c) ns us) : NdR w w.heap.size A ns.length c (ns.map RN.i) := by
  obtain ⟨_, _, e, hc, hm⟩ := own_formT h.row
  injection e with e1 e2 e3
  subst e1 e3
  refine ⟨by simp, ⟨hc, hm⟩, us, h.len, by rw [← cells_i]; exact Rd.of_ownZ h.row, fun k x u hx hu => ?_⟩
  rw [List.getElem?_map] at hx
  obtain ⟨y, hy, rfl⟩ := Option.map_eq_some_iff.1 hx
  have ho := h.kids k y u hy hu
  obtain ⟨Au, cu, rfl, h1, h2⟩ := own_formT ho
  refine ⟨Au, cu, by simp [RN.i, castL_len], by simpa [RN.i, castL_len] using h1, h2, ?_⟩
  have e1 : (RN.i y).kids.length = y.kids.length := castL_len _
  have e2 : (RN.i y).kids.map iv = kidV y.kids := by simp [RN.i, castL, kidV]
  rw [e1, e2]
  exact Rd.of_own ho

theorem wideN_sum {many : Nat} {lv : List (List Nat)} (hs : lvSum many lv) {k : Nat} {l : List Nat} (hl : lv[k]? = some l) : l.sum = wideN many lv k := by
  rw [(hs k l hl).2]
  cases k with
  | zero => rfl
  | succ k => simp [wideN]
theorem len_sum : ∀ {l : List Nat}, two3 l → l.length ≤ l.sum
  | [], _ => by simp
  | n :: l, h => by
    have h1 := h n (by simp)
    have h2 := len_sum (l := l) (fun x hx => h x (by simp [hx]))
    rw [List.length_cons, List.sum_cons]
    omega
theorem sum_pos {l : List Nat} (h : 0 < l.sum) : 0 < l.length := by
  cases l with
  | nil => simp at h
  | cons x l => simp
theorem wideN_le {many : Nat} {lv : List (List Nat)} (hs : lvSum many lv) : ∀ k, k ≤ lv.length → wideN many lv k ≤ many
  | 0, _ => Nat.le_refl _
  | k + 1, h => by
    have hl : lv[k]? = some lv[k] := List.getElem?_eq_getElem (by omega)
    have h1 := wideN_le hs k (by omega)
    have h2 := len_sum (hs k _ hl).1
    have h3 := wideN_sum hs hl
    rw [wideN, getD_at hl]
    omega
theorem wideN_pos {many : Nat} {lv : List (List Nat)} (hs : lvSum many lv) (hm : 0 < many) : ∀ k, k ≤ lv.length → 0 < wideN many lv k
  | 0, _ => hm
  | k + 1, h => by
    have hl : lv[k]? = some lv[k] := List.getElem?_eq_getElem (by omega)
    have h1 := wideN_pos hs hm k (by omega)
    have h3 := wideN_sum hs hl
    rw [wideN, getD_at hl]
    exact sum_pos (by omega)
theorem leafS_le {many : Nat} {lv : List (List Nat)} (hs : lvSum many lv) : ∀ k a, k ≤ lv.length → a ≤ wideN many lv k → leafS lv k a ≤ many
  | 0, a, _, h => h
  | k + 1, a, hk, h => by
    have hl : lv[k]? = some lv[k] := List.getElem?_eq_getElem (by omega)
    rw [leafS]
    refine leafS_le hs k _ (by omega) ?_
    have h3 := wideN_sum hs hl
    rw [getD_at hl]
    have := startT_le lv[k] a
    omega
theorem treeOf_size {kind : Int} {many : Nat} {lv : List (List Nat)} (hs : lvSum many lv) {k a : Nat} (hk : k ≤ lv.length) (ha : a < wideN many lv k) : (treeOf kind lv k a).size + 1 ≤ 2 * many := by
  obtain ⟨h1, h2, h3⟩ := treeOf_ok (kind := kind) hs k a hk ha
  have h4 := RT.size_lt (treeOf kind lv k a)
  have h5 := RT.lvs_ok _ h1
  have h6 := leafS_le hs k (a + 1) hk (by omega)
  omega

end Go.Proofs.Ytmganbdbihjbmaa

/-
  CONTRACTS of the document's may and Nodes (coterieref11).
-/
set_option linter.unusedVariables false
namespace Go.Proofs.Ytmganbdbihjbmaa
open Go.RowKit

def mayB (kind : Int) (ids : List Int) (ll : List (List Int)) : Bool := (decide (kind = 1) || decide (kind = 2)) && chkT ids ll
def nodesI (kind : Int) (ids : List Int) (ll : List (List Int)) : List RI := if mayB kind ids ll = true then (nodesU kind ids.length (lvN ll)).map RN.i else []
def mayE (kind : Int) (ids : List Int) (ll : List (List Int)) : Int := if mayB kind ids ll = true then 0 else 1
def NodesPost (w : World) (kind : Int) (ids : List Int) (ll : List (List Int)) (e : Ending) (w' : World) : Prop :=
  Below w.heap.size w w' ∧ ∃ A n c, e = .returned (.tuple #[.slice A n c, .int .i64 (mayE kind ids ll)]) ∧ NdR w' w'.heap.size A n c (nodesI kind ids ll)
theorem chkE_iff {ids : List Int} {ll : List (List Int)} : chkE ids ll = 0 ↔ chkT ids ll = true := by
  rw [chkE]
  split <;> simp_all

end Go.Proofs.Ytmganbdbihjbmaa

/-
  CONTRACT of the document's Nodes (coterieref11).
-/
set_option linter.unusedVariables false
namespace Go.Proofs.Ytmganbdbihjbmaa
open Go.RowKit

end Go.Proofs.Ytmganbdbihjbmaa

/-
  CONTRACT of the document's Path (coterieref11).
-/
set_option linter.unusedVariables false
namespace Go.Proofs.Ytmganbdbihjbmaa
open Go.RowKit

def hasI (p : Int) (x : RI) : Bool := decide (x.fr ≤ p) && decide (p < x.to_)
def wayI (p : Int) : Nat → List RI → List Nat
  | _, [] => []
  | i, x :: l => if hasI p x = true then i :: wayI p (i + 1) l else wayI p (i + 1) l
theorem wayI_snoc (p : Int) : ∀ (i : Nat) (l : List RI) (x : RI), wayI p i (l ++ [x]) = wayI p i l ++ (if hasI p x = true then [i + l.length] else [])
  | i, [], x => by simp [wayI]
  | i, y :: l, x => by
    simp only [List.cons_append, wayI, wayI_snoc p (i + 1) l x, List.length_cons, show i + 1 + l.length = i + (l.length + 1) by omega]
    split <;> simp
theorem wayI_of (p : Nat) : ∀ (i : Nat) (l : List RN), wayI (p : Int) i (l.map RN.i) = wayOf p i l
  | _, [] => rfl
  | i, x :: l => by
    have e : hasI (p : Int) x.i = hasP p x := by simp [hasI, hasP, RN.i]
    simp only [List.map_cons, wayI, wayOf, wayI_of p (i + 1) l, e]
theorem wayI_len (p : Int) : ∀ (i : Nat) (l : List RI), (wayI p i l).length ≤ l.length
  | _, [] => by simp [wayI]
  | i, x :: l => by
    have := wayI_len p (i + 1) l
    rw [wayI]
    split <;> simp only [List.length_cons] <;> omega
/-- where a node's cells are -/
theorem NdR.range {w : World} {B : Nat} {A : Option Addr} {n c : Nat} {ns : List RI} (h : NdR w B A n c ns) {k : Nat} {x : RI} (hk : ns[k]? = some x) :
    ∃ b o Au cu, A = some ⟨b, o, none⟩ ∧ b < B ∧ w.rangeAt b (o + k * 7) (riC x (.slice Au x.kids.length cu)) ∧ x.kids.length ≤ cu ∧ cu ≤ maxLen ∧ Rd w B Au x.kids.length (x.kids.map iv) := by
  obtain ⟨us, h1, h2, h3⟩ := h.told
  have hkn : k < n := by have := (List.getElem?_eq_some_iff.1 hk).1; have := h.len; omega
  have hu : us[k]? = some us[k] := List.getElem?_eq_getElem (by omega)
  obtain ⟨Au, cu, e1, e2, e3, e4⟩ := h3 k x _ hk hu
  obtain ⟨b, o, rfl, hb, hc⟩ := h2.pos (by omega)
  refine ⟨b, o, Au, cu, rfl, hb, fun j u hj => ?_, e2, e3, e4⟩
  rw [← e1] at hj
  have hj7 : j < 7 := (List.getElem?_eq_some_iff.1 hj).1
  rw [Nat.add_assoc]
  refine hc (k * 7 + j) u ?_
  rw [cellsI_at ns us k j x _ (by rw [h1, h.len]) hk hu hj7]
  exact hj
def pathE (kind : Int) (ids : List Int) (ll : List (List Int)) (id : Int) : Int := if mayB kind ids ll = true then (if isT ids id = true then 0 else 6) else 1
def pathI (kind : Int) (ids : List Int) (ll : List (List Int)) (id : Int) : List Nat := if mayB kind ids ll = true ∧ isT ids id = true then wayI (belT ids id : Nat) 0 (nodesI kind ids ll) else []
def Path11Post (w : World) (kind : Int) (ids : List Int) (ll : List (List Int)) (id : Int) (e : Ending) (w' : World) : Prop :=
  Below w.heap.size w w' ∧ ∃ A n c, e = .returned (.tuple #[.slice A n c, .int .i64 (pathE kind ids ll id)]) ∧ n ≤ c ∧ c ≤ maxLen ∧ Rd w' w'.heap.size A n (kidV (pathI kind ids ll id))
def zN : Array Value := #[.int .i64 0, .int .i64 0, .bool false, .int .i64 0, .int .i64 0, .slice none 0 0, .int .i64 0]
theorem nodesU_len (kind : Int) (ids : List Int) (ll : List (List Int)) : (nodesI kind ids ll).length ≤ 2000 := by
  rw [nodesI]
  split
  · rename_i h
    rw [mayB, Bool.and_eq_true] at h
    obtain ⟨h1, _, h3, _⟩ := chkT_lv h.2
    have hs := lvOK_sum _ _ h3
    rw [List.length_map, nodesU]
    split
    · simp
    · rename_i h0
      rw [RT.flat_len]
      have := treeOf_size (kind := kind) hs (Nat.le_refl _) (wideN_pos hs (by omega) _ (Nat.le_refl _))
      omega
  · simp

end Go.Proofs.Ytmganbdbihjbmaa

/-
  CONTRACT of the document's High (coterieref11).
-/
set_option linter.unusedVariables false
namespace Go.Proofs.Ytmganbdbihjbmaa
open Go.RowKit

/-- the longest way's length, less one -/
def highT (f : Int → Nat) (ids : List Int) : Int := ids.foldl (fun h id => max h ((f id : Int) - 1)) 0
theorem highT_snoc (f : Int → Nat) (ids : List Int) (id : Int) : highT f (ids ++ [id]) = max (highT f ids) ((f id : Int) - 1) := by rw [highT, List.foldl_append]; rfl
theorem highT_range (f : Int → Nat) (m : Nat) (hf : ∀ id, f id ≤ m) : ∀ ids : List Int, 0 ≤ highT f ids ∧ highT f ids ≤ m := by
  have aux : ∀ (ids : List Int) (h : Int), 0 ≤ h → h ≤ m → 0 ≤ ids.foldl (fun h id => max h ((f id : Int) - 1)) h ∧ ids.foldl (fun h id => max h ((f id : Int) - 1)) h ≤ m := by
    intro ids
    induction ids with
    | nil => intro h h0 h1; exact ⟨h0, h1⟩
    | cons id ids ih =>
      intro h h0 h1
      have := hf id
      exact ih _ (by simp only; omega) (by simp only; omega)
  exact fun ids => aux ids 0 (by omega) (by omega)
def highI (kind : Int) (ids : List Int) (ll : List (List Int)) : Int := if mayB kind ids ll = true then highT (fun id => (pathI kind ids ll id).length) ids else 0
def HighPost (w : World) (kind : Int) (ids : List Int) (ll : List (List Int)) (e : Ending) (w' : World) : Prop :=
  Below w.heap.size w w' ∧ e = .returned (.tuple #[.int .i64 (highI kind ids ll), .int .i64 (mayE kind ids ll)])
theorem pathI_len (kind : Int) (ids : List Int) (ll : List (List Int)) (id : Int) : (pathI kind ids ll id).length ≤ 2000 := by
  rw [pathI]
  split
  · exact Nat.le_trans (wayI_len _ _ _) (nodesU_len _ _ _)
  · simp

end Go.Proofs.Ytmganbdbihjbmaa

/-
  CONTRACT of the document's Beside (coterieref11).
-/
set_option linter.unusedVariables false
namespace Go.Proofs.Ytmganbdbihjbmaa
open Go.RowKit

def inT (path : List Nat) (k : Int) : Bool := path.any fun q => ((q : Nat) : Int) == k
def sideT (path : List Nat) (ks : List Int) : List Int := ks.filter fun k => !inT path k
def kidsAt (ns : List RI) (p : Nat) : List Int := (ns[p]?.map RI.kids).getD []
def besT (path : List Nat) (ns : List RI) (ps : List Nat) : List Int := (ps.map fun p => sideT path (kidsAt ns p)).flatten
theorem inT_snoc (l : List Nat) (q : Nat) (k : Int) : inT (l ++ [q]) k = (inT l k || ((q : Int) == k)) := by simp [inT]
theorem sideT_snoc (path : List Nat) (ks : List Int) (k : Int) : sideT path (ks ++ [k]) = sideT path ks ++ (if inT path k = true then [] else [k]) := by
  rw [sideT, sideT, List.filter_append]
  cases h : inT path k <;> simp [h]
theorem besT_snoc (path : List Nat) (ns : List RI) (ps : List Nat) (p : Nat) : besT path ns (ps ++ [p]) = besT path ns ps ++ sideT path (kidsAt ns p) := by simp [besT]
theorem wayI_lt (p : Int) : ∀ (i : Nat) (l : List RI), ∀ k ∈ wayI p i l, k < i + l.length
  | _, [] => by simp [wayI]
  | i, x :: l => fun k hk => by
    have ih := wayI_lt p (i + 1) l
    rw [wayI] at hk
    rw [List.length_cons]
    split at hk
    · rcases List.mem_cons.1 hk with rfl | hk
      · omega
      · have := ih k hk; omega
    · have := ih k hk; omega
theorem RT.kids3 : ∀ (T : RT) (off : Nat) (up : Int), ∀ x ∈ T.flat off up, x.kids.length ≤ 3
  | .leaf a, off, up => fun x hx => by
    simp only [RT.flat, List.mem_singleton] at hx
    subst hx
    simp
  | .two lev a red l r, off, up => fun x hx => by
    simp only [RT.flat, List.mem_append, List.mem_singleton] at hx
    rcases hx with (hx | hx) | hx
    · exact RT.kids3 l _ _ x hx
    · exact RT.kids3 r _ _ x hx
    · subst hx; simp
  | .three lev a l m r, off, up => fun x hx => by
    simp only [RT.flat, List.mem_append, List.mem_singleton] at hx
    rcases hx with ((hx | hx) | hx) | hx
    · exact RT.kids3 l _ _ x hx
    · exact RT.kids3 m _ _ x hx
    · exact RT.kids3 r _ _ x hx
    · subst hx; simp
theorem nodesI_kids (kind : Int) (ids : List Int) (ll : List (List Int)) : ∀ x ∈ nodesI kind ids ll, x.kids.length ≤ 3 := by
  intro x hx
  rw [nodesI] at hx
  split at hx
  · obtain ⟨y, hy, rfl⟩ := List.mem_map.1 hx
    rw [nodesU] at hy
    split at hy
    · simp at hy
    · have := RT.kids3 _ _ _ y hy
      simpa [RN.i, castL_len] using this
  · simp at hx
def besI (kind : Int) (ids : List Int) (ll : List (List Int)) (id : Int) : List Int := besT (pathI kind ids ll id) (nodesI kind ids ll) (pathI kind ids ll id)
def BesPost (w : World) (kind : Int) (ids : List Int) (ll : List (List Int)) (id : Int) (e : Ending) (w' : World) : Prop :=
  Below w.heap.size w w' ∧ ∃ A n c, e = .returned (.tuple #[.slice A n c, .int .i64 (pathE kind ids ll id)]) ∧ n ≤ c ∧ c ≤ maxLen ∧ Rd w' w'.heap.size A n ((besI kind ids ll id).map iv)
theorem pathI_lt (kind : Int) (ids : List Int) (ll : List (List Int)) (id : Int) : ∀ k ∈ pathI kind ids ll id, k < (nodesI kind ids ll).length := by
  intro k hk
  rw [pathI] at hk
  split at hk
  · have := wayI_lt _ _ _ k hk
    omega
  · simp at hk
theorem pathE_ne {kind : Int} {ids : List Int} {ll : List (List Int)} {id : Int} (h : ¬ pathE kind ids ll id = 0) : pathI kind ids ll id = [] := by
  rw [pathE] at h
  rw [pathI]
  split at h
  · split at h
    · simp at h
    · rename_i h2
      rw [if_neg (fun e => h2 e.2)]
  · rename_i h1
    rw [if_neg (fun e => h1 e.1)]

end Go.Proofs.Ytmganbdbihjbmaa

/-
  NODES OF A TREE (layer 11): what the document's answers are of a tree that may be: pure facts.
-/
set_option linter.unusedVariables false
namespace Go.Proofs.Ytmganbdbihjbmaa

theorem castL_iv (l : List Nat) : (castL l).map iv = kidV l := by simp [castL, kidV]
theorem wideN_top : ∀ (lv : List (List Nat)) (many : Nat), lvOK many lv → wideN many lv lv.length ≤ 1
  | [], many, h => h
  | [l], many, ⟨_, _, _, h⟩ => by simpa [wideN, lvOK] using h
  | l :: m :: ls, many, ⟨_, _, _, h⟩ => by
    have := wideN_top (m :: ls) l.length h
    simpa [wideN] using this
theorem leafS_zero (lv : List (List Nat)) : ∀ k, leafS lv k 0 = 0
  | 0 => rfl
  | k + 1 => by rw [leafS, startT_zero, leafS_zero lv k]
theorem leafS_all {many : Nat} {lv : List (List Nat)} (hs : lvSum many lv) : ∀ k, k ≤ lv.length → leafS lv k (wideN many lv k) = many
  | 0, _ => rfl
  | k + 1, hk => by
    have hl : lv[k]? = some lv[k] := List.getElem?_eq_getElem (by omega)
    rw [leafS, wideN, getD_at hl, startT_all, wideN_sum hs hl]
    exact leafS_all hs k (by omega)
/-- a tree that may be, and has members -/
structure TopF (kind : Int) (ids : List Int) (ll : List (List Int)) (T : RT) : Prop where
  k12 : kind = 1 ∨ kind = 2
  ok : T.ok
  good : T.good kind
  fr : T.fr = 0
  to_ : T.to = ids.length
  nodes : nodesI kind ids ll = (T.flat 0 (-1)).map RN.i
  size : T.size + 1 ≤ 2 * ids.length
  n : ids.length ≤ 1000
  high : T.high ≤ if kind = 2 then 2 * (lvN ll).length else (lvN ll).length
  pow : 2 ^ (lvN ll).length ≤ ids.length
  rise : ids.Pairwise (· < ·)
theorem top_facts {kind : Int} {ids : List Int} {ll : List (List Int)} (hm : mayB kind ids ll = true) (h0 : 0 < ids.length) : TopF kind ids ll (treeOf kind (lvN ll) (lvN ll).length 0) := by
  have hm' := hm
  rw [mayB, Bool.and_eq_true] at hm'
  have hk : kind = 1 ∨ kind = 2 := by simpa using hm'.1
  obtain ⟨h1, h2, h3, _⟩ := chkT_lv hm'.2
  have hs := lvOK_sum _ _ h3
  have hw0 := wideN_pos hs h0 _ (Nat.le_refl _)
  have hw1 := wideN_top _ _ h3
  obtain ⟨o1, o2, o3⟩ := treeOf_ok (kind := kind) hs _ 0 (Nat.le_refl _) hw0
  refine ⟨hk, o1, treeOf_good _ _ _ _, by rw [o2, leafS_zero], ?_, ?_, treeOf_size hs (Nat.le_refl _) hw0, h1, treeOf_high _ _ _ _, lvOK_high _ _ h3 h0, okI_rise _ h2⟩
  · rw [o3, show 0 + 1 = wideN ids.length (lvN ll) (lvN ll).length by omega]
    exact leafS_all hs _ (Nat.le_refl _)
  · rw [nodesI, if_pos hm, nodesU, if_neg (by omega)]
theorem path_top {kind : Int} {ids : List Int} {ll : List (List Int)} {id : Int} {T : RT} (hT : TopF kind ids ll T) (hm : mayB kind ids ll = true) (hi : isT ids id = true) : pathI kind ids ll id = T.path 0 (belT ids id) ∧ belT ids id < ids.length := by
  obtain ⟨hb, _⟩ := rise_bel ids id hT.rise hi
  refine ⟨?_, hb⟩
  rw [pathI, if_pos ⟨hm, hi⟩, hT.nodes, wayI_of]
  exact RT.way T 0 (-1) _ hT.ok (by rw [hT.fr]; omega) (by rw [hT.to_]; exact hb)
theorem bel_get {ids : List Int} (hr : ids.Pairwise (· < ·)) {p : Nat} (hp : p < ids.length) : isT ids ids[p] = true ∧ belT ids ids[p] = p := by
  have hi : isT ids ids[p] = true := by
    rw [isT, List.any_eq_true]
    exact ⟨_, List.getElem_mem hp, by simp⟩
  obtain ⟨hb, e⟩ := rise_bel ids ids[p] hr hi
  refine ⟨hi, ?_⟩
  rw [List.pairwise_iff_getElem] at hr
  rcases Nat.lt_trichotomy (belT ids ids[p]) p with h | h | h
  · have := hr _ _ hb hp h; omega
  · exact h
  · have := hr _ _ hp hb h; omega
/-- a way up: its leaf is the first one, and each has the next one above -/
structure WayF (ns : List RN) (p : Nat) (P : List Nat) : Prop where
  chain : chainP ns P (-1)
  first : ∃ a t x, P = a :: t ∧ ns[a]? = some x ∧ x.lev = 0 ∧ x.at_ = p ∧ x.kids = [] ∧ ∀ (i : Nat) (y : RN), i < a → ns[i]? = some y → ¬ (y.lev = 0 ∧ y.at_ = p)
  rise : P.Pairwise (· < ·)
  last : P.getLast? = some (ns.length - 1)
  has : ∀ k ∈ P, ∃ y, ns[k]? = some y ∧ hasP p y = true
theorem way_top {kind : Int} {ids : List Int} {ll : List (List Int)} {T : RT} (hT : TopF kind ids ll T) {p : Nat} (hp : p < ids.length) : WayF (T.flat 0 (-1)) p (T.path 0 p) := by
  have h1 : T.fr ≤ p := by rw [hT.fr]; omega
  have h2 : p < T.to := by rw [hT.to_]; exact hp
  have hw := RT.way T 0 (-1) p hT.ok h1 h2
  have hc := RT.chain T [] [] (-1) p hT.ok h1 h2
  obtain ⟨a, t, x, e1, e2, e3, e4, e5⟩ := RT.path_leaf T [] [] (-1) p hT.ok h1 h2
  have hk := fun q y => RT.kid_ok T [] [] (-1) hT.good hT.ok q y
  have hl := RT.path_last T 0 p
  simp only [List.length_nil, List.nil_append, List.append_nil, Nat.zero_add] at hc e1 e2 hk hl
  refine ⟨hc, ⟨a, t, x, e1, e2, e3, e4, e5, fun i y hi hy hb => ?_⟩, by rw [← hw]; exact way_rise _ _ _, by rw [RT.flat_len]; exact hl, fun k hk' => ?_⟩
  · have hmin := way_min p 0 _ a t (hw.trans e1) i y hy (by omega)
    have hlt : i < T.size := by rw [← RT.flat_len T 0 (-1)]; exact (List.getElem?_eq_some_iff.1 hy).1
    have h3 := (hk i y (by omega) (by omega) hy).2.2.1 hb.1
    simp only [hasP, Bool.and_eq_false_iff, decide_eq_false_iff_not] at hmin
    omega
  · rw [← hw] at hk'
    obtain ⟨_, y, h3, h4⟩ := way_mem p 0 _ k hk'
    exact ⟨y, by simpa using h3, h4⟩

theorem highT_le (f : Int → Nat) (m : Int) (hm : 0 ≤ m) (ids : List Int) (h : ∀ id ∈ ids, (f id : Int) - 1 ≤ m) : highT f ids ≤ m := by
  have aux : ∀ (ids : List Int) (h0 : Int), h0 ≤ m → (∀ id ∈ ids, (f id : Int) - 1 ≤ m) → ids.foldl (fun h id => max h ((f id : Int) - 1)) h0 ≤ m := by
    intro ids
    induction ids with
    | nil => intro h0 h1 _; exact h1
    | cons id ids ih =>
      intro h0 h1 h2
      exact ih _ (by have := h2 id (by simp); simp only; omega) (fun x hx => h2 x (by simp [hx]))
  exact aux ids 0 hm h
theorem highT_ge (f : Int → Nat) (ids : List Int) {id : Int} (h : id ∈ ids) : (f id : Int) - 1 ≤ highT f ids := by
  have mono : ∀ (ids : List Int) (h0 : Int), h0 ≤ ids.foldl (fun h id => max h ((f id : Int) - 1)) h0 := by
    intro ids
    induction ids with
    | nil => intro h0; exact Int.le_refl _
    | cons id ids ih => intro h0; exact Int.le_trans (by simp only; omega) (ih _)
  have aux : ∀ (ids : List Int) (h0 : Int), id ∈ ids → (f id : Int) - 1 ≤ ids.foldl (fun h id => max h ((f id : Int) - 1)) h0 := by
    intro ids
    induction ids with
    | nil => intro h0 hm; simp at hm
    | cons x ids ih =>
      intro h0 hm
      rcases List.mem_cons.1 hm with rfl | hm
      · exact Int.le_trans (by simp only; omega) (mono ids _)
      · exact ih _ hm
  exact aux ids 0 h
theorem high_top {kind : Int} {ids : List Int} {ll : List (List Int)} {T : RT} (hT : TopF kind ids ll T) (hm : mayB kind ids ll = true) : highI kind ids ll = (T.high : Int) := by
  rw [highI, if_pos hm]
  apply Int.le_antisymm
  · refine highT_le _ _ (by omega) ids fun id hid => ?_
    have hi : isT ids id = true := by
      rw [isT, List.any_eq_true]
      exact ⟨_, hid, by simp⟩
    rw [(path_top hT hm hi).1]
    have := (RT.path_len T 0 (belT ids id)).1
    omega
  · obtain ⟨p, h1, h2, h3⟩ := RT.high_ex T 0 hT.ok
    rw [hT.to_] at h2
    obtain ⟨b1, b2⟩ := bel_get hT.rise h2
    have := highT_ge (fun id => (pathI kind ids ll id).length) ids (List.getElem_mem h2)
    rw [(path_top hT hm b1).1, b2, h3] at this
    omega

theorem sideT_cast (P ks : List Nat) : sideT P (castL ks) = castL (ks.filter fun k => !inT P (k : Int)) := by
  induction ks with
  | nil => rfl
  | cons k ks ih =>
    have e : castL (k :: ks) = (k : Int) :: castL ks := rfl
    rw [e, sideT, List.filter_cons, ← sideT, ih, List.filter_cons]
    cases h : inT P (k : Int)
    · simp only [Bool.not_false, if_true]; rfl
    · simp
theorem inT_mem {P : List Nat} {k : Nat} : inT P (k : Int) = true ↔ k ∈ P := by
  rw [inT, List.any_eq_true]
  constructor
  · rintro ⟨q, h1, h2⟩
    have h3 : (q : Int) = (k : Int) := by simpa using h2
    have : q = k := by omega
    rw [← this]; exact h1
  · exact fun h => ⟨k, h, by simp⟩
theorem kidsAt_i (ns : List RN) (q : Nat) : kidsAt (ns.map RN.i) q = castL (kidsN ns q) := by
  rw [kidsAt, kidsN, List.getElem?_map]
  cases ns[q]? <;> rfl
/-- what is not in the way, of what is below its nodes, is what is beside it -/
theorem bes_tie {ns : List RN} {p : Nat} {P : List Nat} (hW : WayF ns p P) (hk : ∀ (q : Nat) (x : RN), ns[q]? = some x → nodeKid ns q x) : besT P (ns.map RN.i) P = castL (besP ns P) := by
  have hr := hW.rise
  rw [List.pairwise_iff_getElem] at hr
  have key : ∀ (pre : List Nat) (x y : Nat) (l : List Nat), P = pre ++ x :: y :: l → sideT P (kidsAt (ns.map RN.i) y) = castL ((kidsN ns y).filter fun k => k != x) := by
    intro pre x y l hP
    rw [kidsAt_i, sideT_cast]
    congr 1
    apply List.filter_congr
    intro k hkm
    have hxm : x ∈ P := by rw [hP]; simp
    have hym : y ∈ P := by rw [hP]; simp
    obtain ⟨z, hz, _⟩ := hW.has y hym
    rw [kids_at hz] at hkm
    obtain ⟨v, hv1, hv2⟩ := (hk y z hz).2.1 k hkm
    by_cases hkx : k = x
    · subst hkx
      rw [inT_mem.2 hxm]
      simp
    · have : ¬ k ∈ P := by
        intro hkP
        obtain ⟨j, hj, rfl⟩ := List.mem_iff_getElem.1 hkP
        obtain ⟨v', hv3, hv4⟩ := chainP_at ns (-1) P j hW.chain hj
        rw [hv1] at hv3
        have hvv := Option.some.inj hv3
        subst hvv
        rw [hv2] at hv4
        have hj1 : j + 1 < P.length := by
          rcases Nat.lt_or_ge (j + 1) P.length with h | h
          · exact h
          · rw [List.drop_eq_nil_of_le h] at hv4
            simp only [nextU] at hv4
            omega
        rw [List.drop_eq_getElem_cons hj1] at hv4
        simp only [nextU] at hv4
        have e1 : P[j + 1] = y := by omega
        have hpl : pre.length + 1 < P.length := by rw [hP]; simp
        have e2 : P[pre.length + 1] = y := by
          have : P[pre.length + 1]? = some y := by
            rw [hP, List.getElem?_append_right (by omega)]
            simp
          rw [List.getElem?_eq_getElem hpl] at this
          exact Option.some.inj this
        have e3 : j = pre.length := by
          rcases Nat.lt_trichotomy (j + 1) (pre.length + 1) with h | h | h
          · have := hr _ _ hj1 hpl h; omega
          · omega
          · have := hr _ _ hpl hj1 h; omega
        subst e3
        have e4 : P[pre.length]? = some x := by
          rw [hP, List.getElem?_append_right (Nat.le_refl _), Nat.sub_self]
          rfl
        rw [List.getElem?_eq_getElem hj] at e4
        exact hkx (Option.some.inj e4)
      have e : inT P (k : Int) = false := by
        rw [Bool.eq_false_iff]
        exact fun h => this (inT_mem.1 h)
      rw [e]
      simp [hkx]
  have step : ∀ (l pre : List Nat) (x : Nat), P = pre ++ x :: l → (l.map fun q => sideT P (kidsAt (ns.map RN.i) q)).flatten = castL (besP ns (x :: l)) := by
    intro l
    induction l with
    | nil => intro pre x _; rfl
    | cons y l ih =>
      intro pre x hP
      rw [List.map_cons, List.flatten_cons, key pre x y l hP, ih (pre ++ [x]) y (by rw [hP]; simp), besP_two]
      simp [castL]
  obtain ⟨a, t, x, e1, e2, _, _, e5, _⟩ := hW.first
  have h0 : sideT P (kidsAt (ns.map RN.i) a) = [] := by rw [kidsAt_i, kids_at e2, e5]; rfl
  have := step t [] a e1
  unfold besT
  have hh : (P.map fun p => sideT P (kidsAt (ns.map RN.i) p)) = ((a :: t).map fun p => sideT P (kidsAt (ns.map RN.i) p)) := by rw [← e1]
  rw [hh, List.map_cons, List.flatten_cons, h0, List.nil_append, this, ← e1]
theorem kid_top {kind : Int} {ids : List Int} {ll : List (List Int)} {T : RT} (hT : TopF kind ids ll T) : ∀ (q : Nat) (x : RN), (T.flat 0 (-1))[q]? = some x → nodeKid (T.flat 0 (-1)) q x := fun q x hx => by
  have hlt : q < T.size := by rw [← RT.flat_len T 0 (-1)]; exact (List.getElem?_eq_some_iff.1 hx).1
  have := RT.kid_ok T [] [] (-1) hT.good hT.ok q x
  simp only [List.length_nil, List.nil_append, List.append_nil, Nat.zero_add] at this
  exact this (by omega) hlt hx
theorem bes_top {kind : Int} {ids : List Int} {ll : List (List Int)} {id : Int} {T : RT} (hT : TopF kind ids ll T) (hm : mayB kind ids ll = true) (hi : isT ids id = true) : besI kind ids ll id = castL (besP (T.flat 0 (-1)) (T.path 0 (belT ids id))) := by
  obtain ⟨h1, h2⟩ := path_top hT hm hi
  rw [besI, h1, hT.nodes]
  exact bes_tie (way_top hT h2) (kid_top hT)

end Go.Proofs.Ytmganbdbihjbmaa

/-
  WHAT A CHANGE ASKS FOR (layer 12), as functions of lists: what is kept, and the steps.
-/
set_option linter.unusedVariables false
namespace Go.Proofs.Ytmganbdbihjbmaa

def kpA (kp : List Int) (k : Nat) : Int := kp.getD k 0
/-- the old node that one with these below is kept as -/
def asOldT (was : List RN) (red : Bool) (kids : List Nat) (kp : List Int) : Int :=
  match kids with
  | [] => -1
  | k0 :: _ =>
    if kpA kp k0 = -1 then -1 else
    match was[(kpA kp k0).toNat]? with
    | none => -1
    | some z =>
      if z.up = -1 then -1 else
      match was[z.up.toNat]? with
      | none => -1
      | some u => if u.red = red ∧ kids.map (kpA kp) = castL u.kids then z.up else -1
/-- the last leaf of a member; -1: none -/
def leafO (ids : List Int) (id : Int) : Nat → List RN → Int → Int
  | _, [], r => r
  | i, x :: l, r => leafO ids id (i + 1) l (if x.lev = 0 ∧ ids.getD x.at_ 0 = id then (i : Int) else r)
theorem leafO_snoc (ids : List Int) (id : Int) : ∀ (i : Nat) (l : List RN) (x : RN) (r : Int), leafO ids id i (l ++ [x]) r = if x.lev = 0 ∧ ids.getD x.at_ 0 = id then ((i + l.length : Nat) : Int) else leafO ids id i l r
  | i, [], x, r => rfl
  | i, y :: l, x, r => by
    rw [List.cons_append, leafO, leafO_snoc ids id (i + 1) l x, leafO, List.length_cons, show i + 1 + l.length = i + (l.length + 1) by omega]
theorem leafO_take {was : List RN} {j : Nat} {x : RN} (h : was[j]? = some x) (ids : List Int) (id : Int) : leafO ids id 0 (was.take (j + 1)) (-1) = if x.lev = 0 ∧ ids.getD x.at_ 0 = id then (j : Int) else leafO ids id 0 (was.take j) (-1) := by
  obtain ⟨hj, e⟩ := List.getElem?_eq_some_iff.1 h
  rw [List.take_succ_eq_append_getElem hj, leafO_snoc, e, List.length_take, Nat.min_eq_left (Nat.le_of_lt hj), Nat.zero_add]
def goneT (touched : List Int) (by_ id : Int) : Bool := decide (id = by_) || decide (id ∈ touched)
/-- the old leaf that a member's is kept as -/
def lfT (was : List RN) (oids touched : List Int) (by_ id : Int) : Int := if goneT touched by_ id = true then -1 else leafO oids id 0 was (-1)
def keepN (was : List RN) (ids : List Int) (lf : Int → Int) (n : RN) (kp : List Int) : Int := if n.lev = 0 then lf (ids.getD n.at_ 0) else asOldT was n.red n.kids kp
def keepT (was : List RN) (ids : List Int) (lf : Int → Int) (now : List RN) : List Int := now.foldl (fun kp n => kp ++ [keepN was ids lf n kp]) []
section
variable {was : List RN} {ids : List Int} {lf : Int → Int}
theorem keepT_snoc (now : List RN) (n : RN) : keepT was ids lf (now ++ [n]) = keepT was ids lf now ++ [keepN was ids lf n (keepT was ids lf now)] := by
  rw [keepT, List.foldl_append]
  rfl
theorem keepT_take {now : List RN} {j : Nat} {n : RN} (h : now[j]? = some n) : keepT was ids lf (now.take (j + 1)) = keepT was ids lf (now.take j) ++ [keepN was ids lf n (keepT was ids lf (now.take j))] := by
  obtain ⟨hj, e⟩ := List.getElem?_eq_some_iff.1 h
  rw [List.take_succ_eq_append_getElem hj, keepT_snoc, e]
theorem keepT_lenj (now : List RN) : ∀ j, j ≤ now.length → (keepT was ids lf (now.take j)).length = j
  | 0, _ => rfl
  | j + 1, h => by
    rw [keepT_take (List.getElem?_eq_getElem (show j < now.length by omega)), List.length_append, keepT_lenj now j (by omega)]
    rfl
theorem keepT_len (now : List RN) : (keepT was ids lf now).length = now.length := by
  have := keepT_lenj (was := was) (ids := ids) (lf := lf) now now.length (Nat.le_refl _)
  rwa [List.take_length] at this
theorem keepT_pre (now : List RN) : ∀ (m j : Nat), j + m ≤ now.length → (keepT was ids lf (now.take (j + m))).take j = keepT was ids lf (now.take j)
  | 0, j, h => by rw [Nat.add_zero, List.take_of_length_le (by rw [keepT_lenj now j (by omega)]; exact Nat.le_refl _)]
  | m + 1, j, h => by
    rw [← Nat.add_assoc, keepT_take (List.getElem?_eq_getElem (show j + m < now.length by omega)), List.take_append_of_le_length (by rw [keepT_lenj now _ (by omega)]; omega)]
    exact keepT_pre now m j (by omega)
theorem keepT_prefix (now : List RN) {j : Nat} (h : j ≤ now.length) : (keepT was ids lf now).take j = keepT was ids lf (now.take j) := by
  have := keepT_pre (was := was) (ids := ids) (lf := lf) now (now.length - j) j (by omega)
  rwa [show j + (now.length - j) = now.length by omega, List.take_length] at this
theorem kpA_take {kp : List Int} {j k : Nat} (h : k < j) : kpA (kp.take j) k = kpA kp k := by
  rw [kpA, kpA, List.getD_eq_getElem?_getD, List.getD_eq_getElem?_getD, List.getElem?_take, if_pos h]
theorem asOld_congr {red : Bool} {kids : List Nat} {kp kp' : List Int} (h : ∀ k ∈ kids, kpA kp k = kpA kp' k) : asOldT was red kids kp = asOldT was red kids kp' := by
  have hm : kids.map (kpA kp) = kids.map (kpA kp') := List.map_congr_left h
  unfold asOldT
  cases kids with
  | nil => rfl
  | cons k0 ks =>
    have h0 := h k0 (by simp)
    simp only [hm, h0]
theorem keepN_congr {n : RN} {kp kp' : List Int} (h : ∀ k ∈ n.kids, kpA kp k = kpA kp' k) : keepN was ids lf n kp = keepN was ids lf n kp' := by
  rw [keepN, keepN, asOld_congr h]
/-- each node's place, told of all places -/
theorem keepT_at {now : List RN} {q : Nat} {x : RN} (hx : now[q]? = some x) (hk : ∀ k ∈ x.kids, k < q) : kpA (keepT was ids lf now) q = keepN was ids lf x (keepT was ids lf now) := by
  have hq := (List.getElem?_eq_some_iff.1 hx).1
  have h1 := keepT_prefix (was := was) (ids := ids) (lf := lf) now (show q + 1 ≤ now.length from hq)
  rw [keepT_take hx] at h1
  have h2 : kpA (keepT was ids lf now) q = keepN was ids lf x (keepT was ids lf (now.take q)) := by
    rw [← kpA_take (Nat.lt_succ_self q), h1, kpA, List.getD_eq_getElem?_getD, List.getElem?_append_right (by rw [keepT_lenj now q (by omega)]; exact Nat.le_refl _), keepT_lenj now q (by omega), Nat.sub_self]
    rfl
  rw [h2]
  exact keepN_congr fun k hkk => by rw [← keepT_prefix now (show q ≤ now.length by omega), kpA_take (hk k hkk)]
end

/-- is what is below another one, from which a secret may come? -/
def knownB (now : List RN) (kp : List Int) (at_ : Nat) (k : Nat) : Bool := (kpA kp k == -1) && ((now[k]?.map fun x => decide (0 < x.lev) || x.at_ == at_).getD false)
def stK (known : Nat → Bool) (kids : List Nat) : Int × List Nat := kids.foldl (fun p k => if known k = true ∧ p.1 = -1 then ((k : Int), p.2) else (p.1, p.2 ++ [k])) (-1, [])
theorem stK_take {known : Nat → Bool} {kids : List Nat} {j k : Nat} (h : kids[j]? = some k) : stK known (kids.take (j + 1)) = if known k = true ∧ (stK known (kids.take j)).1 = -1 then ((k : Int), (stK known (kids.take j)).2) else ((stK known (kids.take j)).1, (stK known (kids.take j)).2 ++ [k]) := by
  obtain ⟨hj, e⟩ := List.getElem?_eq_some_iff.1 h
  rw [List.take_succ_eq_append_getElem hj, stK, List.foldl_append, ← stK, e]
  rfl
def stepT (now : List RN) (kp : List Int) (at_ : Nat) (i : Nat) (x : RN) : SI := ⟨(i : Int), (stK (knownB now kp at_) x.kids).1, castL (stK (knownB now kp at_) x.kids).2⟩
def isStep (kp : List Int) (i : Nat) (x : RN) : Bool := !(x.lev == 0) && (kpA kp i == -1)
def stepsT (now : List RN) (kp : List Int) (at_ : Nat) : Nat → List RN → List SI
  | _, [] => []
  | i, x :: l => if isStep kp i x = true then stepT now kp at_ i x :: stepsT now kp at_ (i + 1) l else stepsT now kp at_ (i + 1) l
theorem stepsT_snoc (now : List RN) (kp : List Int) (at_ : Nat) : ∀ (i : Nat) (l : List RN) (x : RN), stepsT now kp at_ i (l ++ [x]) = stepsT now kp at_ i l ++ (if isStep kp (i + l.length) x = true then [stepT now kp at_ (i + l.length) x] else [])
  | i, [], x => by simp [stepsT]
  | i, y :: l, x => by
    rw [List.cons_append, stepsT, stepsT_snoc now kp at_ (i + 1) l x, stepsT, List.length_cons, show i + 1 + l.length = i + (l.length + 1) by omega]
    split <;> simp
theorem stepsT_take {now L : List RN} {kp : List Int} {at_ j : Nat} {x : RN} (h : L[j]? = some x) : stepsT now kp at_ 0 (L.take (j + 1)) = stepsT now kp at_ 0 (L.take j) ++ (if isStep kp j x = true then [stepT now kp at_ j x] else []) := by
  obtain ⟨hj, e⟩ := List.getElem?_eq_some_iff.1 h
  rw [List.take_succ_eq_append_getElem hj, stepsT_snoc, e, List.length_take, Nat.min_eq_left (Nat.le_of_lt hj), Nat.zero_add]
theorem stepsT_len (now : List RN) (kp : List Int) (at_ : Nat) : ∀ (i : Nat) (l : List RN), (stepsT now kp at_ i l).length ≤ l.length
  | _, [] => Nat.le_refl _
  | i, x :: l => by
    have := stepsT_len now kp at_ (i + 1) l
    rw [stepsT]
    split <;> simp only [List.length_cons] <;> omega
theorem stK_len (known : Nat → Bool) (kids : List Nat) : (stK known kids).2.length ≤ kids.length := by
  have : ∀ j, j ≤ kids.length → (stK known (kids.take j)).2.length ≤ j := by
    intro j
    induction j with
    | zero => intro _; exact Nat.le_refl _
    | succ j ih =>
      intro hj
      have := ih (by omega)
      rw [stK_take (List.getElem?_eq_getElem (show j < kids.length by omega))]
      split
      · simp only; omega
      · simp only [List.length_append, List.length_cons, List.length_nil]; omega
  have := this kids.length (Nat.le_refl _)
  rwa [List.take_length] at this

end Go.Proofs.Ytmganbdbihjbmaa

