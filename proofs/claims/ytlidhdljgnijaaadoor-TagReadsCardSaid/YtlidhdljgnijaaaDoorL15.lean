import Derived.Test.YtlidhdljgnijaaaDoorL13
import Derived.Test.YtlidhdljgnijaaaDoorL14
/-
  JOINS OF TREES OF NODES (layer 11): what the document's join leaves of two trees, and of three.
-/
set_option linter.unusedVariables false
namespace Go.Proofs.YtlidhdljgnijaaaDoor
open Go.RowKit

theorem upN_mid (A C : List RN) (x : RN) (up : Int) : upN (A ++ x :: C) A.length up = A ++ { x with up := up } :: C := by
  rw [← upN_set (x := x) (by rw [List.getElem?_append_right (Nat.le_refl _), Nat.sub_self]; rfl), List.set_append_right _ _ (Nat.le_refl _), Nat.sub_self]
  rfl
theorem up_flat (A C : List RN) (T : RT) (k : Nat) (up : Int) (hk : k = A.length + T.size - 1) : upN (A ++ T.flat A.length (-1) ++ C) k up = A ++ T.flat A.length up ++ C := by
  have hl := T.init_len A.length
  have e : k = (A ++ T.init A.length).length := by rw [List.length_append]; omega
  rw [T.flat_split, T.flat_split _ up, ← List.append_assoc, ← List.append_assoc, List.append_assoc _ _ C, List.append_assoc _ _ C, List.singleton_append, List.singleton_append, e, upN_mid, T.node_up]
theorem flat_end (A C : List RN) (T : RT) (k : Nat) (up : Int) (hk : k = A.length + T.size - 1) : (A ++ T.flat A.length up ++ C)[k]? = some (T.node A.length up) := by
  have hl := T.init_len A.length
  have e : k = (A ++ T.init A.length).length := by rw [List.length_append]; omega
  rw [T.flat_split, ← List.append_assoc, List.append_assoc _ _ C, List.singleton_append, e, List.getElem?_append_right (Nat.le_refl _), Nat.sub_self]
  rfl
/-- the nodes of some trees, one behind the other; their places -/
def flats : List RT → Nat → List RN
  | [], _ => []
  | T :: Ts, off => T.flat off (-1) ++ flats Ts (off + T.size)
def ends : List RT → Nat → List Nat
  | [], _ => []
  | T :: Ts, off => (off + T.size - 1) :: ends Ts (off + T.size)
def sizes : List RT → Nat
  | [] => 0
  | T :: Ts => T.size + sizes Ts
theorem flats_len : ∀ (Ts : List RT) (off : Nat), (flats Ts off).length = sizes Ts
  | [], _ => rfl
  | T :: Ts, off => by rw [flats, List.length_append, RT.flat_len, flats_len Ts, sizes]
theorem ends_len : ∀ (Ts : List RT) (off : Nat), (ends Ts off).length = Ts.length
  | [], _ => rfl
  | T :: Ts, off => by rw [ends, List.length_cons, ends_len Ts, List.length_cons]
theorem flats_snoc : ∀ (Ts : List RT) (T : RT) (off : Nat), flats (Ts ++ [T]) off = flats Ts off ++ T.flat (off + sizes Ts) (-1)
  | [], T, off => by simp [flats, sizes]
  | U :: Ts, T, off => by simp only [List.cons_append, flats, flats_snoc Ts, sizes, List.append_assoc, Nat.add_assoc]
theorem ends_snoc : ∀ (Ts : List RT) (T : RT) (off : Nat), ends (Ts ++ [T]) off = ends Ts off ++ [off + sizes Ts + T.size - 1]
  | [], T, off => by simp [ends, sizes]
  | U :: Ts, T, off => by simp only [List.cons_append, ends, ends_snoc Ts, sizes, Nat.add_assoc]
theorem sizes_snoc : ∀ (Ts : List RT) (T : RT), sizes (Ts ++ [T]) = sizes Ts + T.size
  | [], T => by simp [sizes]
  | U :: Ts, T => by simp only [List.cons_append, sizes, sizes_snoc Ts, Nat.add_assoc]
theorem join_two (ns : List RN) (lev a : Nat) (red : Bool) (l r : RT) :
    upAll (ns ++ flats [l, r] ns.length ++ [⟨lev, a, red, l.fr, r.to, ends [l, r] ns.length, -1⟩]) (ends [l, r] ns.length) ((ns.length + sizes [l, r] : Nat) : Int) = ns ++ (RT.two lev a red l r).flat ns.length (-1) := by
  simp only [flats, ends, sizes, upAll, List.foldl_cons, List.foldl_nil, RT.flat, List.append_nil, Nat.add_zero, ← Nat.add_assoc]
  have e1 := up_flat ns (r.flat (ns.length + l.size) (-1) ++ [⟨lev, a, red, l.fr, r.to, [ns.length + l.size - 1, ns.length + l.size + r.size - 1], -1⟩]) l (ns.length + l.size - 1) ((ns.length + l.size + r.size : Nat) : Int) rfl
  have hA : (ns ++ l.flat ns.length ((ns.length + l.size + r.size : Nat) : Int)).length = ns.length + l.size := by rw [List.length_append, RT.flat_len]
  have e2 := up_flat (ns ++ l.flat ns.length ((ns.length + l.size + r.size : Nat) : Int)) [⟨lev, a, red, l.fr, r.to, [ns.length + l.size - 1, ns.length + l.size + r.size - 1], -1⟩] r (ns.length + l.size + r.size - 1) ((ns.length + l.size + r.size : Nat) : Int) (by rw [hA])
  rw [hA] at e2
  simp only [List.append_assoc] at e1 e2 ⊢
  rw [e1, e2]
theorem join_three (ns : List RN) (lev a : Nat) (l m r : RT) :
    upAll (ns ++ flats [l, m, r] ns.length ++ [⟨lev, a, false, l.fr, r.to, ends [l, m, r] ns.length, -1⟩]) (ends [l, m, r] ns.length) ((ns.length + sizes [l, m, r] : Nat) : Int) = ns ++ (RT.three lev a l m r).flat ns.length (-1) := by
  simp only [flats, ends, sizes, upAll, List.foldl_cons, List.foldl_nil, RT.flat, List.append_nil, Nat.add_zero, ← Nat.add_assoc]
  generalize hU : ((ns.length + l.size + m.size + r.size : Nat) : Int) = U
  generalize hX : (⟨lev, a, false, l.fr, r.to, [ns.length + l.size - 1, ns.length + l.size + m.size - 1, ns.length + l.size + m.size + r.size - 1], -1⟩ : RN) = X
  have e1 := up_flat ns (m.flat (ns.length + l.size) (-1) ++ (r.flat (ns.length + l.size + m.size) (-1) ++ [X])) l (ns.length + l.size - 1) U rfl
  have hA : (ns ++ l.flat ns.length U).length = ns.length + l.size := by rw [List.length_append, RT.flat_len]
  have e2 := up_flat (ns ++ l.flat ns.length U) (r.flat (ns.length + l.size + m.size) (-1) ++ [X]) m (ns.length + l.size + m.size - 1) U (by rw [hA])
  have hB : (ns ++ l.flat ns.length U ++ m.flat (ns.length + l.size) U).length = ns.length + l.size + m.size := by rw [List.length_append, RT.flat_len, hA]
  have e3 := up_flat (ns ++ l.flat ns.length U ++ m.flat (ns.length + l.size) U) [X] r (ns.length + l.size + m.size + r.size - 1) U (by rw [hB])
  rw [hA] at e2
  rw [hB] at e3
  simp only [List.append_assoc] at e1 e2 e3 ⊢
  rw [e1, e2, e3]
/-- what a call leaves that adds a tree of nodes -/
def AddPost (base : Nat) (w : World) (v : Value) (ns : List RN) (us : List Value) (K : Value → Prop) (T : RT) (n : Nat) (e : Ending) (w' : World) : Prop :=
  ∃ v' us', e = .returned (.tuple #[v', .int .i64 (n : Nat)]) ∧ OwR base w' v' (ns ++ T.flat ns.length (-1)) us' ∧ w.grownBy w' v.ownBlock ∧ (v'.ownBlock = v.ownBlock ∨ ∃ y, v'.ownBlock = some y ∧ w.heap.size ≤ y) ∧ ∀ u ∈ us', u ∈ us ∨ K u
/-- a tree whose last nodes' kids are these trees -/
def joinT (lev a : Nat) (red : Bool) : List RT → RT
  | [l, r] => .two lev a red l r
  | [l, m, r] => .three lev a l m r
  | _ => .leaf a
theorem JoinT_any (base : Nat) (v : Value) (ns : List RN) (us : List Value) (lev a : Nat) (red : Bool) (gk ck : Nat) (Ts : List RT) (w : World) (hT : (∃ l r, Ts = [l, r]) ∨ (red = false ∧ ∃ l m r, Ts = [l, m, r])) (hb : base ≤ w.heap.size) (h : OwR base w v (ns ++ flats Ts ns.length) us)
    (hk : w.ownsRow base 3 1 (.slice (some ⟨gk, 0, none⟩) Ts.length ck) Ts.length (kidV (ends Ts ns.length))) (hn : ns.length + sizes Ts ≤ 100000) :
    Calls Tryd.prog 91 #[v, .agg (ndZ lev a red), .slice (some ⟨gk, 0, none⟩) Ts.length ck] w (AddPost base w v ns us (fun u => u = .slice (some ⟨gk, 0, none⟩) Ts.length ck) (joinT lev a red Ts) (ns.length + sizes Ts)) := by
  have hll : (ns ++ flats Ts ns.length).length = ns.length + sizes Ts := by rw [List.length_append, flats_len]
  have hel := ends_len Ts ns.length
  rcases hT with ⟨l, r, rfl⟩ | ⟨rfl, l, m, r, rfl⟩
  · have p1 := l.size_pos
    have p2 := r.size_pos
    have hA : (ns ++ l.flat ns.length (-1)).length = ns.length + l.size := by rw [List.length_append, RT.flat_len]
    have x1 : (ns ++ flats [l, r] ns.length)[(ends [l, r] ns.length)[0]'(by simp [ends])]? = some (l.node ns.length (-1)) := by
      have := flat_end ns (r.flat (ns.length + l.size) (-1)) l (ns.length + l.size - 1) (-1) rfl
      simpa [flats, ends] using this
    have x2 : (ns ++ flats [l, r] ns.length)[(ends [l, r] ns.length)[(ends [l, r] ns.length).length - 1]'(by simp [ends])]? = some (r.node (ns.length + l.size) (-1)) := by
      have := flat_end (ns ++ l.flat ns.length (-1)) [] r (ns.length + l.size + r.size - 1) (-1) (by rw [hA])
      rw [hA] at this
      simpa [flats, ends] using this
    rw [← hel] at hk ⊢
    refine (Join_any base v _ us lev a red gk ck (ends [l, r] ns.length) _ _ w hb h hk (fun k hk => ?_) (by rw [hel]; simp) (by rw [hel]; simp) (by rw [hll]; exact hn) x1 x2).mono ?_
    · rw [hll]
      simp only [ends, List.mem_cons, List.not_mem_nil, or_false] at hk
      simp only [sizes]
      omega
    · rintro e w' ⟨v', rfl, q1, q2, q3⟩
      rw [RT.node_fr, RT.node_to, hll, join_two] at q1
      rw [hll]
      exact ⟨v', _, rfl, q1, q2, q3, fun u hu => by simpa using hu⟩
  · have p1 := l.size_pos
    have p2 := m.size_pos
    have p3 := r.size_pos
    have hA : (ns ++ l.flat ns.length (-1) ++ m.flat (ns.length + l.size) (-1)).length = ns.length + l.size + m.size := by rw [List.length_append, List.length_append, RT.flat_len, RT.flat_len]
    have x1 : (ns ++ flats [l, m, r] ns.length)[(ends [l, m, r] ns.length)[0]'(by simp [ends])]? = some (l.node ns.length (-1)) := by
      have := flat_end ns (m.flat (ns.length + l.size) (-1) ++ r.flat (ns.length + l.size + m.size) (-1)) l (ns.length + l.size - 1) (-1) rfl
      simpa [flats, ends] using this
    have x2 : (ns ++ flats [l, m, r] ns.length)[(ends [l, m, r] ns.length)[(ends [l, m, r] ns.length).length - 1]'(by simp [ends])]? = some (r.node (ns.length + l.size + m.size) (-1)) := by
      have := flat_end (ns ++ l.flat ns.length (-1) ++ m.flat (ns.length + l.size) (-1)) [] r (ns.length + l.size + m.size + r.size - 1) (-1) (by rw [hA])
      rw [hA] at this
      simpa [flats, ends] using this
    rw [← hel] at hk ⊢
    refine (Join_any base v _ us lev a false gk ck (ends [l, m, r] ns.length) _ _ w hb h hk (fun k hk => ?_) (by rw [hel]; simp) (by rw [hel]; simp) (by rw [hll]; exact hn) x1 x2).mono ?_
    · rw [hll]
      simp only [ends, List.mem_cons, List.not_mem_nil, or_false] at hk
      simp only [sizes]
      omega
    · rintro e w' ⟨v', rfl, q1, q2, q3⟩
      rw [RT.node_fr, RT.node_to, hll, join_three] at q1
      rw [hll]
      exact ⟨v', _, rfl, q1, q2, q3, fun u hu => by simpa using hu⟩

end Go.Proofs.YtlidhdljgnijaaaDoor

/-
  CONTRACT of the document's below (coterieref11): a level's group with all below, by the level.
-/
set_option linter.unusedVariables false
namespace Go.Proofs.YtlidhdljgnijaaaDoor
open Go.RowKit

theorem own_lower {w : World} {base base' size : Nat} {e : TypeId} {v : Value} {n : Nat} {xs : List Value} (h : w.ownsRow base' e size v n xs) (hb : base ≤ base') : w.ownsRow base e size v n xs := by
  obtain ⟨h1, h | ⟨g, cap, cur, e1, e2, r⟩⟩ := h
  · exact ⟨h1, .inl h⟩
  · exact ⟨h1, .inr ⟨g, cap, cur, e1, by omega, r⟩⟩
/-- what a call has added: a block that is new, or no block -/
def newV (B : Nat) (u : Value) : Prop := ∀ g, u.ownBlock = some g → B ≤ g
section
variable {base : Nat} {w w' : World} {v : Value} {ns : List RN} {us : List Value}
/-- rows of numbers beside -/
theorem OwR.nums (h : OwR base w v ns us) (hg : w.grownBy w' v.ownBlock) {b n : Nat} {q : Value} {xs : List Value} (hq : w.ownsRow b 3 1 q n xs) : w'.ownsRow b 3 1 q n xs := by
  cases hv : v.ownBlock with
  | none => rw [hv] at hg; exact hq.kept hg (by cases q.ownBlock <;> simp)
  | some g =>
    rw [hv] at hg
    obtain ⟨cs, hr⟩ := own_tyT h.row hv
    exact own_farT hq hg hr nd_ne
theorem sh_ndR : (25 : TypeId) ≠ 68 := by decide
theorem OwR.box (h : OwR base w v ns us) (hg : w.grownBy w' v.ownBlock) {b : Nat} {cs : Array Value} (hq : RowC w b 25 cs) : RowC w' b 25 cs :=
  hq.grownT hg fun k hk e => by
    subst e
    obtain ⟨cs', hr⟩ := own_tyT h.row hk
    exact sh_ndR (ty_neT hq hr)
theorem OwR.belowR (h : OwR base w v ns us) (hg : w.grownBy w' v.ownBlock) (hb : base ≤ w.heap.size) : Below base w w' := (Below.refl _ _).grown hg hb (own_blockT h.row)
end
/-- trees that are done, and not yet joined -/
def redT (r3 : Bool) (lev a : Nat) (sub : Nat → RT) : Nat → List RT
  | 0 => []
  | i + 1 => if r3 = true ∧ i = 1 then [.two lev a true (sub 0) (sub 1)] else redT r3 lev a sub i ++ [sub i]
theorem BelowLeaf_any (base : Nat) (kind : Int) (Ai : Option Addr) (ni ci : Nat) (Al : Option Addr) (nl cl a : Nat) (v : Value) (ns : List RN) (us : List Value) (w : World) (ha : a ≤ 100000) (hb : base ≤ w.heap.size) (h : OwR base w v ns us) (hn : ns.length + 1 ≤ 100000) :
    Calls Tryd.prog 62 #[.int .i64 kind, .agg (shV Ai ni ci Al nl cl), v, .int .i64 0, .int .i64 (a : Nat)] w (AddPost base w v ns us (newV w.heap.size) (.leaf a) ns.length) := by
  obtain ⟨Av, cv, rfl, hcv, hmv⟩ := own_formT h.row
  have hB1 := d_al w (.cells (shV Ai ni ci Al nl cl) 25)
  have hr1 := (h.quiet hB1)
  have hs1 : (w.alloc (.cells (shV Ai ni ci Al nl cl) 25)).heap.size = w.heap.size + 1 := by simp
  have hg1 : w.grownBy (w.alloc (.cells (shV Ai ni ci Al nl cl) 25)) (Value.slice Av ns.length cv).ownBlock := World.grownBy_alloc w _ _
  have Hpost := Lib.hid (show ∀ v' us' w', OwR base w' v' (ns ++ (RT.leaf a).flat ns.length (-1)) us' → w.grownBy w' (Value.slice Av ns.length cv).ownBlock → (v'.ownBlock = (Value.slice Av ns.length cv).ownBlock ∨ ∃ y, v'.ownBlock = some y ∧ w.heap.size ≤ y) → (∀ u ∈ us', u ∈ us ∨ newV w.heap.size u) → AddPost base w (.slice Av ns.length cv) ns us (newV w.heap.size) (.leaf a) ns.length (.returned (.tuple #[v', .int .i64 (ns.length : Nat)])) w' from fun v' us' w' q1 q2 q3 q4 => ⟨v', us', rfl, q1, q2, q3, q4⟩)
  generalize AddPost base w (.slice Av ns.length cv) ns us (newV w.heap.size) (.leaf a) ns.length = PO at *
  obtain ⟨i0, hi0, hz0, hz1, hz2⟩ := info_parts nodeInfoR
  have ea : IntKind.i64.wrap ((a : Int) + 1) = (a : Int) + 1 := by rw [IntKind.wrap_i64]; omega
  have en : IntKind.i64.wrap (((ns.length + 1 : Nat) : Int) - 1) = (ns.length : Int) := by rw [IntKind.wrap_i64]; omega
  have en2 : IntKind.i64.wrap ((ns.length : Int) + 1 - 1) = (ns.length : Int) := by rw [IntKind.wrap_i64]; omega
  clear h
  go_enter Tryd.func62, Tryd.ntmps62
  go_upto_region 1 with fail
  try simp only [Act.put]
  generalize (w.alloc (.cells (shV Ai ni ci Al nl cl) 25)) = w1 at *
  have hal := d_al w1 (.cells #[.int .i64 0, .int .i64 (a : Nat), .bool false, .int .i64 (a : Nat), .int .i64 ((a : Int) + 1), .slice none 0 0, .int .i64 (-1)] 68)
  have hr6 := hr1.quiet hal
  have hrw : RowC (w1.alloc (.cells #[.int .i64 0, .int .i64 (a : Nat), .bool false, .int .i64 (a : Nat), .int .i64 ((a : Int) + 1), .slice none 0 0, .int .i64 (-1)] 68)) (w.heap.size + 1) 68 #[.int .i64 0, .int .i64 (a : Nat), .bool false, .int .i64 (a : Nat), .int .i64 ((a : Int) + 1), .slice none 0 0, .int .i64 (-1)] := by rw [← hs1]; exact RowC.new _ _ _
  have hs6 : (w1.alloc (.cells #[.int .i64 0, .int .i64 (a : Nat), .bool false, .int .i64 (a : Nat), .int .i64 ((a : Int) + 1), .slice none 0 0, .int .i64 (-1)] 68)).heap.size = w.heap.size + 1 + 1 := by rw [World.size_alloc, hs1]
  have hg6 : w.grownBy (w1.alloc (.cells #[.int .i64 0, .int .i64 (a : Nat), .bool false, .int .i64 (a : Nat), .int .i64 ((a : Int) + 1), .slice none 0 0, .int .i64 (-1)] 68)) (Value.slice Av ns.length cv).ownBlock := hg1.andThen (World.grownBy_alloc w1 _ none) (by simp)
  go_upto_region 3 with (at_builtin; refine wpList_append_node (by kernel_rfl) (.tmp 22) (.tmp 28) 64 rfl base 68 i0 _ 7 72 Tryd.underlying64 hi0 hz0 hz1 hz2 rfl (by omega) (.slice Av ns.length cv) ns.length (cellsR ns us) rfl hr6.row ⟨w.heap.size + 1, 0, none⟩ 1 [.int .i64 0, .int .i64 (a : Nat), .bool false, .int .i64 (a : Nat), .int .i64 ((a : Int) + 1), .slice none 0 0, .int .i64 (-1)] rfl rfl (fun j u hu => by rw [add_zeroR]; exact hrw.cell (by simpa using hu)) (by simp [Value.oneCell']) (by unfold maxLen; omega) (by omega) (by omega) ?_; intro v6 w6 hown6 hgr6 hat6)
  try simp only [Act.put]
  have hCL : ([.int .i64 0, .int .i64 (a : Nat), .bool false, .int .i64 (a : Nat), .int .i64 ((a : Int) + 1), .slice none 0 0, .int .i64 (-1)] : List Value) = rnC ⟨0, a, false, a, a + 1, [], -1⟩ (.slice none 0 0) := by simp [rnC]
  rw [hCL] at hown6
  clear hCL
  have hn6 := hr6.snoc (x := ⟨0, a, false, a, a + 1, [], -1⟩) (World.ownsRow_nil _ _ _ _) hgr6 hown6
  have hg7 := hg6.trans hgr6
  obtain ⟨A6, c6, rfl, hc6, hm6⟩ := own_formT hown6
  rw [hs6] at hat6
  have hat : (Value.slice A6 (ns.length + 1) c6).ownBlock = (Value.slice Av ns.length cv).ownBlock ∨ ∃ y, (Value.slice A6 (ns.length + 1) c6).ownBlock = some y ∧ w.heap.size ≤ y := by
    rcases hat6 with h | h
    · exact .inl h
    · exact .inr ⟨_, h, by omega⟩
  have Hat := Lib.hid hat
  clear hat hat6 hgr6 hg6 hs6 hrw hr6 hal hr1 hB1 hown6
  unfold maxLen at hm6
  go_wp2_with fail
  (first | refine Hpost.out _ _ _ hn6 hg7 Hat.out ?_ | refine bodyPost_ret (results_tmp2 rfl _ _ _) rfl (Hpost.out _ _ _ hn6 hg7 Hat.out ?_))
  intro u hu
  rcases List.mem_append.1 hu with hu | hu
  · exact .inl hu
  · simp only [List.mem_singleton] at hu
    subst hu
    exact .inr fun g hg => by simp [Value.ownBlock] at hg

end Go.Proofs.YtlidhdljgnijaaaDoor

/-
  CONTRACT of the document's below (coterieref11) at a level above the leaves, by those below.
-/
set_option linter.unusedVariables false
namespace Go.Proofs.YtlidhdljgnijaaaDoor
open Go.RowKit

section
variable {base : Nat} {w w' : World} {v : Value} {ns : List RN} {us : List Value}
/-- a row of numbers is turned -/
theorem OwR.numTurn (h : OwR base w v ns us) {b n : Nat} {q : Value} {xs : List Value} (hq : w.ownsRow b 3 1 q n xs) (hg : w.grownBy w' q.ownBlock) (hu : ∀ u ∈ us, u.ownBlock = none ∨ u.ownBlock ≠ q.ownBlock) : OwR base w' v ns us := by
  refine h.kept hg ?_ hu
  cases hv : v.ownBlock with
  | none => exact .inl rfl
  | some g =>
    refine .inr fun e => ?_
    obtain ⟨cs, hr⟩ := own_tyT h.row hv
    obtain ⟨cs', hr'⟩ := own_tyT hq e.symm
    exact nd_ne (ty_neT hr hr')
theorem sh_intR : (25 : TypeId) ≠ 3 := by decide
theorem box_numTurn {g : Nat} {cs : Array Value} (h : RowC w g 25 cs) {b n : Nat} {q : Value} {xs : List Value} (hq : w.ownsRow b 3 1 q n xs) (hg : w.grownBy w' q.ownBlock) : RowC w' g 25 cs :=
  h.grownT hg fun k hk e => by
    subst e
    obtain ⟨cs', hr⟩ := own_tyT hq hk
    exact sh_intR (ty_neT h hr)
end
theorem redT_len (r3 : Bool) (lev a : Nat) (sub : Nat → RT) : ∀ j, (redT r3 lev a sub j).length ≤ j
  | 0 => by simp [redT]
  | j + 1 => by
    rw [redT]
    split
    · simp
    · rw [List.length_append]
      have := redT_len r3 lev a sub j
      simp only [List.length_singleton]
      omega
theorem redT_size (r3 : Bool) (lev a : Nat) (sub : Nat → RT) {m j : Nat} (hm : m = 2 ∨ m = 3) (hr : r3 = true → m = 3) (hj : j < m) : sizes (redT r3 lev a sub j) + (sub j).size ≤ sizes (redT r3 lev a sub m) := by
  have hr' : r3 = false ∨ (r3 = true ∧ m = 3) := by cases r3 <;> simp_all
  rcases hr' with rfl | ⟨rfl, rfl⟩
  · rcases hm with rfl | rfl
    · have : j = 0 ∨ j = 1 := by omega
      rcases this with rfl | rfl <;> simp [redT, sizes]
    · have : j = 0 ∨ j = 1 ∨ j = 2 := by omega
      rcases this with rfl | rfl | rfl <;> simp [redT, sizes] <;> omega
  · have : j = 0 ∨ j = 1 ∨ j = 2 := by omega
    rcases this with rfl | rfl | rfl <;> simp [redT, sizes, RT.size] <;> omega
theorem treeOf_join {kind : Int} {lv : List (List Nat)} {k a : Nat} {l : List Nat} (hl : lv[k]? = some l) (h23 : two3 l) (ha : a < l.length) :
    treeOf kind lv (k + 1) a = joinT (k + 1) a false (redT (decide (kind = 2 ∧ l[a] = 3)) (k + 1) a (fun i => treeOf kind lv k (startT l a + i)) l[a]) ∧
    (treeOf kind lv (k + 1) a).size = sizes (redT (decide (kind = 2 ∧ l[a] = 3)) (k + 1) a (fun i => treeOf kind lv k (startT l a + i)) l[a]) + 1 := by
  have hx : l.getD a 0 = l[a] := getD_at (List.getElem?_eq_getElem ha)
  rw [treeOf, getD_at hl, hx]
  rcases two3_get h23 ha with h | h
  · rw [h]
    simp [redT, joinT, sizes, RT.size]
  · rw [h]
    by_cases hk : kind = 2
    · simp [redT, joinT, sizes, RT.size, hk]
    · simp [redT, joinT, sizes, RT.size, hk]
      omega
theorem redT_form (r3 : Bool) (lev a : Nat) (sub : Nat → RT) {m : Nat} (hm : m = 2 ∨ m = 3) (hr : r3 = true → m = 3) :
    (∃ l r, redT r3 lev a sub m = [l, r]) ∨ ((false : Bool) = false ∧ ∃ l x r, redT r3 lev a sub m = [l, x, r]) := by
  have hr' : r3 = false ∨ (r3 = true ∧ m = 3) := by cases r3 <;> simp_all
  rcases hr' with rfl | ⟨rfl, rfl⟩
  · rcases hm with rfl | rfl
    · exact .inl ⟨sub 0, sub 1, by simp [redT]⟩
    · exact .inr ⟨rfl, sub 0, sub 1, sub 2, by simp [redT]⟩
  · exact .inl ⟨.two lev a true (sub 0) (sub 1), sub 2, by simp [redT]⟩

set_option maxRecDepth 100000 in
set_option maxHeartbeats 4000000 in
theorem BelowStep_any (base : Nat) (kind : Int) (Ai : Option Addr) (ni ci : Nat) (Al : Option Addr) (nl cl : Nat) (ids : List Int) (lv : List (List Nat)) (L k a : Nat) (hL : L = k + 1) (l : List Nat) (hl : lv[k]? = some l) (h23 : two3 l) (ha : a < l.length) (hsum : l.sum ≤ 1000) (hlen : l.length ≤ 1000) (hk : k ≤ 1000)
    (IH : ∀ b, b < l.sum → ∀ (v : Value) (ns : List RN) (us : List Value) (w : World), base ≤ w.heap.size → ShR w base Ai ni ci Al nl cl ids (levI lv) → OwR base w v ns us → ns.length + (treeOf kind lv k b).size ≤ 100000 →
      Calls Tryd.prog 62 #[.int .i64 kind, .agg (shV Ai ni ci Al nl cl), v, .int .i64 (k : Nat), .int .i64 (b : Nat)] w (AddPost base w v ns us (newV w.heap.size) (treeOf kind lv k b) (ns.length + (treeOf kind lv k b).size - 1)))
    (v : Value) (ns : List RN) (us : List Value) (w : World) (hb : base ≤ w.heap.size) (hS : ShR w base Ai ni ci Al nl cl ids (levI lv)) (h : OwR base w v ns us) (hn : ns.length + (treeOf kind lv (k + 1) a).size ≤ 100000) :
    Calls Tryd.prog 62 #[.int .i64 kind, .agg (shV Ai ni ci Al nl cl), v, .int .i64 (L : Nat), .int .i64 (a : Nat)] w (AddPost base w v ns us (newV w.heap.size) (treeOf kind lv (k + 1) a) (ns.length + (treeOf kind lv (k + 1) a).size - 1)) := by
  have Hpost := Lib.hid (show ∀ v' us' w' T n, T = treeOf kind lv (k + 1) a → n = ns.length + (treeOf kind lv (k + 1) a).size - 1 → OwR base w' v' (ns ++ T.flat ns.length (-1)) us' → w.grownBy w' v.ownBlock → (v'.ownBlock = v.ownBlock ∨ ∃ y, v'.ownBlock = some y ∧ w.heap.size ≤ y) → (∀ u ∈ us', u ∈ us ∨ newV w.heap.size u) → AddPost base w v ns us (newV w.heap.size) (treeOf kind lv (k + 1) a) (ns.length + (treeOf kind lv (k + 1) a).size - 1) (.returned (.tuple #[v', .int .i64 (n : Nat)])) w' from fun v' us' w' T n e1 e2 q1 q2 q3 q4 => by rw [e1] at q1; rw [e2]; exact ⟨v', us', rfl, q1, q2, q3, q4⟩)
  generalize AddPost base w v ns us (newV w.heap.size) (treeOf kind lv (k + 1) a) (ns.length + (treeOf kind lv (k + 1) a).size - 1) = PO at *
  have hll : k < (levI lv).length := by rw [levI_lenX]; exact (List.getElem?_eq_some_iff.1 hl).1
  have hlk : (levI lv)[k] = castL l := by have := levI_get hl; rw [List.getElem?_eq_getElem hll] at this; exact Option.some.inj this
  have hkn : k < nl := by rw [← hS.hnl]; exact hll
  have hcl := hS.hcl
  have hml := hS.hml
  obtain ⟨vs, hv, hlv⟩ := hS.lvs
  obtain ⟨A0, c0, hv0, hc0, hm0, hr0⟩ := hlv.get hll
  rw [hlk, castL_len] at hv0 hc0 hr0
  have hm23 := two3_get h23 ha
  have hsa := startT_succ l ha
  have hca : ((castL l).map iv)[a]? = some (.int .i64 ((l[a] : Nat) : Int)) := by rw [castL, List.getElem?_map, List.getElem?_map, List.getElem?_eq_getElem ha]; rfl
  have hle := startT_le l (a + 1)
  obtain ⟨hT, hTs⟩ := treeOf_join (kind := kind) hl h23 ha
  obtain ⟨r3, hr3⟩ : ∃ r3, r3 = decide (kind = 2 ∧ l[a] = 3) := ⟨_, rfl⟩
  rw [← hr3] at hT hTs
  obtain ⟨m, hm⟩ : ∃ m, m = l[a] := ⟨_, rfl⟩
  rw [← hm] at hT hTs hr3 hm23 hsa hca
  have Hca := Lib.hid hca
  have HT := Lib.hid hT
  have HTs := Lib.hid hTs
  have Hr3 := Lib.hid hr3
  have HIH := Lib.hid IH
  have HS := Lib.hid hS
  have Hh := Lib.hid h
  have hM := (Ms.nil w).box 25 (shV Ai ni ci Al nl cl)
  have hB1 := d_al w (.cells (shV Ai ni ci Al nl cl) 25)
  have hr1 := h.quiet hB1
  have hs1 : (w.alloc (.cells (shV Ai ni ci Al nl cl) 25)).heap.size = w.heap.size + 1 := by simp
  have hg1 : w.grownBy (w.alloc (.cells (shV Ai ni ci Al nl cl) 25)) v.ownBlock := World.grownBy_alloc w _ _
  obtain ⟨b, o, rfl, hbb, hcell⟩ := (hv.below (hB1.mono hb)).pos (by omega)
  have d0 := hcell k _ hv0
  have hrl := hr0.below (hB1.mono hb)
  have hbox := hM.get 0 rfl
  clear hm hca hT hTs hr3 IH hS h hl h23 hlv hv hv0 hr0 hcell hlk hll hM hB1
  have k1 := hbox.cell (i := 1) (v := .slice (some ⟨b, o, none⟩) nl cl) rfl
  have zL : ¬ (L : Int) = 0 := by omega
  have hL0 : ((L : Int) == 0) = false := by simp only [beq_eq_false_iff_ne]; exact zL
  have zk : IntKind.i64.wrap ((L : Int) - 1) = (k : Int) := by rw [IntKind.wrap_i64]; omega
  have zk2 : (k : Int) < (nl : Int) := by omega
  have za : (a : Int) < (l.length : Int) := by omega
  have za2 : (a : Int) ≤ (c0 : Int) := by omega
  have za3 : a ≤ c0 := by omega
  unfold maxLen at hml hm0
  have HL := Lib.hid hL
  clear hL
  generalize hgB : w.heap.size = gB at *
  have HgB := Lib.hid hgB
  clear hgB
  go_enter Tryd.func62, Tryd.ntmps62
  go_upto_region 5 with fail
  try simp only [Act.put]
  rw [HgB.out]
  generalize w.alloc (.cells (shV Ai ni ci (some ⟨b, o, none⟩) nl cl) 25) = w1 at *
  go_wp2_with fail
  go_loopw [12, 14, 43] (fun v12 v14 v43 wr => ∃ j : Nat, j ≤ a ∧ v43 = .int .i64 (j : Int) ∧ v12 = .int .i64 (startT l j : Nat) ∧ wr = w1) (fun _ _ v43 _ => a - (intOf v43).toNat)
  case atStart => exact ⟨0, by omega, rfl, by rw [startT_zero]; rfl, rfl⟩
  case round =>
    obtain ⟨j, hj, rfl, rfl, rfl⟩ := hrel
    by_cases hja : j < a
    · obtain ⟨ga, oa, rfl, hga, hcell⟩ := hrl.pos (by omega)
      have hjl : j < l.length := by omega
      have c1 := hcell j (.int .i64 (l[j] : Nat)) (by rw [castL, List.getElem?_map, List.getElem?_map, List.getElem?_eq_getElem hjl]; rfl)
      have hst := startT_succ l hjl
      have hle2 := startT_le l (j + 1)
      have z1 : (j : Int) < (a : Int) := by omega
      have z2 : IntKind.i64.wrap ((startT l j : Int) + (l[j] : Nat)) = (startT l (j + 1) : Nat) := by rw [IntKind.wrap_i64]; omega
      clear hcell
      go_wp2_with fail
      go_roundw
      case rel => exact ⟨j + 1, by omega, by go_num, by rw [hst]; rfl, trivial⟩
      case measure => simp [intOf]; omega
    · obtain rfl : a = j := by omega
      obtain ⟨ga, oa, rfl, hga, hcell⟩ := hrl.pos (by omega)
      have c1 := hcell a _ Hca.out
      generalize startT l a = f at *
      obtain ⟨sub, hsub⟩ : ∃ sub : Nat → RT, sub = fun i => treeOf kind lv k (f + i) := ⟨_, rfl⟩
      rw [← hsub] at HT HTs
      have Hsub := Lib.hid (show ∀ i, treeOf kind lv k (f + i) = sub i from fun i => by rw [hsub])
      have Hm3 := Lib.hid (show r3 = true → m = 3 from fun h => by have := Hr3.out; rw [h] at this; exact (of_decide_eq_true this.symm).2)
      have Hsz := Lib.hid (show ∀ j, j < m → ns.length + sizes (redT r3 (k + 1) a sub j) + (sub j).size + 1 ≤ 100000 from fun j hj => by
        have h1 := redT_size r3 (k + 1) a sub hm23 Hm3.out hj
        have h2 := HTs.out
        omega)
      have Hm := Lib.hid hm23
      have hm3 : m ≤ 3 := by omega
      have Hfm := Lib.hid (show f + m ≤ l.sum by omega)
      obtain ⟨i0, hi0, hz0, hz1, hz2⟩ := info_parts intInfo
      clear hsub hcell hm23 hsa hle hrl Hca
      go_wp2_with fail
      go_loopw [2, 16, 61] (fun v2 v16 v61 wx => ∃ (j : Nat) (us2 : List Value), j ≤ m ∧ v61 = .int .i64 (j : Int) ∧ OwR base wx v2 (ns ++ flats (redT r3 (k + 1) a sub j) ns.length) us2 ∧
        wx.ownsRow gB 3 1 v16 (redT r3 (k + 1) a sub j).length (kidV (ends (redT r3 (k + 1) a sub j) ns.length)) ∧ RowC wx gB 25 (shV Ai ni ci (some ⟨b, o, none⟩) nl cl) ∧ w.grownBy wx v.ownBlock ∧
        (v2.ownBlock = v.ownBlock ∨ ∃ y, v2.ownBlock = some y ∧ gB ≤ y) ∧ (∀ u ∈ us2, u ∈ us ∨ newV gB u) ∧ (∀ u ∈ us2, u.ownBlock = none ∨ u.ownBlock ≠ v16.ownBlock)) (fun _ _ v61 _ => m - (intOf v61).toNat)
      case atStart =>
        exact ⟨0, us, by omega, rfl, by rw [redT, flats, List.append_nil]; exact hr1, World.ownsRow_nil _ _ _ _, hbox, hg1, .inl rfl, fun u hu => .inl hu, fun u hu => by cases e : u.ownBlock <;> simp [Value.ownBlock]⟩
      case round =>
        clear hr1 hbox hg1 d0 k1 c1 hs1
        obtain ⟨j, us2, hj, rfl, hr, hq, hbox, hg, hat, hnew, hun⟩ := hrel
        by_cases hjm : j < m
        · have hsz := Hsz.out j hjm
          have hbw : base ≤ wr.heap.size := by have := hg.size; have := HgB.out; omega
          have hSx := HS.out.below (Hh.out.belowR hg (by rw [HgB.out]; exact hb))
          have hlx : (ns ++ flats (redT r3 (k + 1) a sub j) ns.length).length = ns.length + sizes (redT r3 (k + 1) a sub j) := by rw [List.length_append, flats_len]
          have hih := HIH.out (f + j) (by have := Hfm.out; omega) _ _ us2 wr hbw hSx hr (by rw [hlx, Hsub.out]; omega)
          rw [Hsub.out, hlx] at hih
          obtain ⟨p, hp⟩ : ∃ p, p = ns.length + sizes (redT r3 (k + 1) a sub j) + (sub j).size - 1 := ⟨_, rfl⟩
          rw [← hp] at hih
          have Hp := Lib.hid hp
          have hih' : Calls Tryd.prog 62 #[.int .i64 kind, .agg (shV Ai ni ci (some ⟨b, o, none⟩) nl cl), u2, .int .i64 (k : Nat), .int .i64 ((f : Int) + (j : Int))] wr (AddPost base wr u2 (ns ++ flats (redT r3 (k + 1) a sub j) ns.length) us2 (newV wr.heap.size) (sub j) p) := hih
          have zj : (j : Int) < (m : Int) := by omega
          have hfb : f + m ≤ 1000 := by have := Hfm.out; omega
          have zf : IntKind.i64.wrap ((f : Int) + (j : Int)) = (f : Int) + (j : Int) := by rw [IntKind.wrap_i64]; omega
          clear hih hp
          go_wp2_with ((with_reducible show wpList _ _ _ (⟨some 66, _, _, _, _, _⟩ :: _) _ _); refine wpList_loadC (by kernel_rfl) 25 (.tmp 6) rfl gB rfl 25 (shV Ai ni ci (some ⟨b, o, none⟩) nl cl) _ hbox Tryd.underlying25 rfl shapeInfo2 ?_)
          refine hih'.mono ?_
          rintro e w2 ⟨v3, us3, rfl, hr3, hg3, hat3, hnew3⟩
          have hq3 := hr.nums hg3 hq
          have hbox3 := hr.box hg3 hbox
          have hws := hg3.size
          have hBw := hg.size
          rw [HgB.out] at hBw
          have hgw := hg.andThen hg3 (fun y hy => by
            rcases hat with h | ⟨z, h, hz⟩
            · exact .inr (by rw [← h]; exact hy)
            · rw [h] at hy
              injection hy with hy
              exact .inl (by rw [HgB.out]; omega))
          have hatw : v3.ownBlock = v.ownBlock ∨ ∃ y, v3.ownBlock = some y ∧ gB ≤ y := by
            rcases hat3 with h | ⟨z, h, hz⟩
            · rw [h]; exact hat
            · exact .inr ⟨z, h, by omega⟩
          have hneww : ∀ u ∈ us3, u ∈ us ∨ newV gB u := fun u hu => by
            rcases hnew3 u hu with h | h
            · exact hnew u h
            · exact .inr fun y hy => by have := h y hy; omega
          have hunw : ∀ u ∈ us3, u.ownBlock = none ∨ u.ownBlock ≠ u16.ownBlock := fun u hu => by
            rcases hnew3 u hu with h | h
            · exact hun u h
            · cases e : u.ownBlock with
              | none => exact .inl rfl
              | some y =>
                refine .inr fun e2 => ?_
                have h1 := h y e
                have h2 := own_ltT hq y e2.symm
                omega
          rw [hlx, List.append_assoc, ← flats_snoc] at hr3
          have hel := ends_snoc (redT r3 (k + 1) a sub j) (sub j) ns.length
          rw [← Hp.out] at hel
          have hpb : p ≤ 100000 := by have := Hp.out; omega
          have Hw2 := Lib.hid (show gB ≤ w2.heap.size ∧ base ≤ w2.heap.size by omega)
          have hal := d_al w2 (.cells #[.int .i64 (p : Nat)] 3)
          have hqa := own_below hq3 hal
          have hra := hr3.quiet hal
          have hza : (w2.alloc (.cells #[.int .i64 (p : Nat)] 3)).heap.size = w2.heap.size + 1 := by simp
          have hga1 := hgw.trans (World.grownBy_alloc w2 (.cells #[.int .i64 (p : Nat)] 3) _)
          have hboxa := hbox3.call hal
          have hTl : (redT r3 (k + 1) a sub j).length ≤ 1000 := by
            have h1 := redT_len r3 (k + 1) a sub j
            omega
          clear hr hq hbox hg hat hnew hun hih' hg3 hat3 hnew3 hq3 hbox3 hgw hSx hlx hbw
          go_upto_region 18 with (at_builtin; refine wpList_append_rd _ rfl (.tmp 76) (.tmp 78) _ rfl gB 3 i0 _ 8 Tryd.underlying22 hi0 hz0 hz1 hz2 rfl u16 (redT r3 (k + 1) a sub j).length _ rfl hqa (w2.heap.size + 1) (some ⟨w2.heap.size, 0, none⟩) 1 1 [iv (p : Nat)] rfl (Rd.mk_ _ _ _ rfl (by omega) rfl rfl) (one_ivn [p]) (by simp only [maxLen]; omega) (by omega) (by rw [hza]; have := Hw2.out; omega) ?_; intro v4 w4 hown4 hgr4 hat4)
          try simp only [Act.put]
          have hr4 := hra.numTurn hqa hgr4 hunw
          have hbox4 := box_numTurn hboxa hqa hgr4
          have hg4 := hga1.andThen hgr4 (fun y hy => .inl (by rw [HgB.out]; exact own_blockT hqa y hy))
          rw [show kidV (ends (redT r3 (k + 1) a sub j) ns.length) ++ [iv (p : Nat)] = kidV (ends (redT r3 (k + 1) a sub j ++ [sub j]) ns.length) by rw [hel, kidV, kidV, List.map_append]; rfl, show (redT r3 (k + 1) a sub j).length + 1 = (redT r3 (k + 1) a sub j ++ [sub j]).length by simp] at hown4
          have hun4 : ∀ u ∈ us3, u.ownBlock = none ∨ u.ownBlock ≠ v4.ownBlock := fun u hu => by
            rcases hat4 with h | h
            · rw [h]; exact hunw u hu
            · rw [h, hza]
              cases e : u.ownBlock with
              | none => exact .inl rfl
              | some y =>
                refine .inr fun e2 => ?_
                have h1 := (hr3.ltK hu e).2
                injection e2 with e2
                omega
          have hb4 : base ≤ w4.heap.size := by have := hgr4.size; have := Hw2.out; omega
          have hgb4 : gB ≤ w4.heap.size := by have := hgr4.size; have := Hw2.out; omega
          clear hra hqa hboxa hga1 hgr4 hza hat4 hunw hal hr3
          by_cases hred : r3 = true ∧ j = 1
          · obtain ⟨hr3t, rfl⟩ := hred
            have hm3e := Hm3.out hr3t
            have hk2 : kind = 2 := by
              have := Hr3.out
              rw [hr3t] at this
              exact (of_decide_eq_true this.symm).1
            subst hm3e hk2
            have ers : redT r3 (k + 1) a sub 1 ++ [sub 1] = [sub 0, sub 1] := by simp [redT]
            have er2 : redT r3 (k + 1) a sub 2 = [.two (k + 1) a true (sub 0) (sub 1)] := by simp [redT, hr3t]
            rw [ers] at hr4 hown4
            have hs2 : ns.length + sizes [sub 0, sub 1] + 1 ≤ 100000 := by
              have e1 : redT r3 (k + 1) a sub 1 = [sub 0] := by simp [redT]
              rw [e1] at hsz
              simp only [sizes] at hsz ⊢
              omega
            obtain ⟨_, c4, rfl, _, _⟩ := own_formT hown4
            obtain ⟨g4, rfl⟩ := own_someZ hown4 (by simp)
            have hjn := JoinT_any base v3 ns us3 L a true g4 c4 [sub 0, sub 1] w4 (.inl ⟨_, _, rfl⟩) hb4 hr4 (own_lower hown4 hb) (by omega)
            obtain ⟨p5, hp5⟩ : ∃ p5, p5 = ns.length + sizes [sub 0, sub 1] := ⟨_, rfl⟩
            rw [← hp5] at hjn
            have Hp5 := Lib.hid hp5
            have Hr4 := Lib.hid hr4
            have Hneww := Lib.hid hneww
            have Hatw := Lib.hid hatw
            have Hg4 := Lib.hid hg4
            have hg4b := own_blockT hown4 g4 rfl
            have Er2 := Lib.hid er2
            have hpb5 : p5 ≤ 100000 := by omega
            clear hp5 er2 ers hr4 hown4 hneww hatw hg4 hun4
            go_wp2_with fail
            refine hjn.mono ?_
            rintro e w5 ⟨v5, us5, rfl, hr5, hg5, hat5, hnew5⟩
            have hbox5 := Hr4.out.box hg5 hbox4
            have hg6 := Hg4.out.andThen hg5 (fun y hy => by
              rcases Hatw.out with h | ⟨z, h, hz⟩
              · exact .inr (by rw [← h]; exact hy)
              · rw [h] at hy
                injection hy with hy
                exact .inl (by rw [HgB.out]; omega))
            have hws5 := hg5.size
            have hat6 : v5.ownBlock = v.ownBlock ∨ ∃ y, v5.ownBlock = some y ∧ gB ≤ y := by
              rcases hat5 with h | ⟨z, h, hz⟩
              · rw [h]; exact Hatw.out
              · exact .inr ⟨z, h, by omega⟩
            have hnew6 : ∀ u ∈ us5, u ∈ us ∨ newV gB u := fun u hu => by
              rcases hnew5 u hu with h | h
              · exact Hneww.out u h
              · exact .inr fun y hy => by
                  rw [h] at hy
                  have hy2 : g4 = y := Option.some.inj hy
                  omega
            have hal5 := d_al w5 (.cells #[.int .i64 (p5 : Nat)] 3)
            have hg7 := hg6.trans (World.grownBy_alloc w5 (.cells #[.int .i64 (p5 : Nat)] 3) _)
            have hr7 := hr5.quiet hal5
            have hbox7 := hbox5.call hal5
            have hown7 : (w5.alloc (.cells #[.int .i64 (p5 : Nat)] 3)).ownsRow gB 3 1 (.slice (some ⟨w5.heap.size, 0, none⟩) 1 1) 1 [.int .i64 (p5 : Nat)] :=
              own_ofT (RowC.new w5 _ _) (by omega) (Nat.le_refl _) (by decide) rfl rfl
            have hun7 : ∀ u ∈ us5, u.ownBlock = none ∨ ¬ u.ownBlock = some w5.heap.size := fun u hu => by
              cases e : u.ownBlock with
              | none => exact .inl rfl
              | some y =>
                refine .inr fun e2 => ?_
                have h1 := (hr5.ltK hu e).2
                injection e2 with e2
                omega
            have Hpp := Lib.hid (show p5 = ns.length + (RT.two (k + 1) a true (sub 0) (sub 1)).size - 1 by
              rw [Hp5.out]
              simp only [sizes, RT.size]
              omega)
            rw [show joinT L a true [sub 0, sub 1] = RT.two (k + 1) a true (sub 0) (sub 1) by rw [joinT, HL.out]] at hr7
            have hr8 : OwR base (w5.alloc (.cells #[.int .i64 (p5 : Nat)] 3)) v5 (ns ++ flats (redT r3 (k + 1) a sub 2) ns.length) us5 := by rw [Er2.out, flats, flats, List.append_nil]; exact hr7
            have hown8 : (w5.alloc (.cells #[.int .i64 (p5 : Nat)] 3)).ownsRow gB 3 1 (.slice (some ⟨w5.heap.size, 0, none⟩) 1 1) (redT r3 (k + 1) a sub 2).length (kidV (ends (redT r3 (k + 1) a sub 2) ns.length)) := by rw [Er2.out, ends, ends, ← Hpp.out]; exact hown7
            clear hg5 hat5 hnew5 hjn hr5 hbox5 hg6 hbox4 hal5 hr7 hown7
            go_wp2_with fail
            go_roundw
            case rel =>
              repeat apply Exists.intro
              refine ⟨⟨2, us5, by omega, rfl, hr8, hown8, hbox7, hg7, hat6, hnew6, hun7⟩, ?_⟩
              rfl
            case measure => simp [intOf]
          · have hr4' : OwR base w4 v3 (ns ++ flats (redT r3 (k + 1) a sub (j + 1)) ns.length) us3 := by rw [redT, if_neg hred]; exact hr4
            have hown4' : w4.ownsRow gB 3 1 v4 (redT r3 (k + 1) a sub (j + 1)).length (kidV (ends (redT r3 (k + 1) a sub (j + 1)) ns.length)) := by rw [redT, if_neg hred]; exact hown4
            clear hr4 hown4
            by_cases hk2 : kind = 2
            · subst hk2
              rcases Hm.out with hm2 | hm2
              · subst hm2
                go_wp2_with fail
                go_roundw
                case rel =>
                  exact ⟨j + 1, us3, by omega, by go_num, hr4', hown4', hbox4, hg4, hatw, hneww, hun4⟩
                case measure => simp [intOf]; omega
              · subst hm2
                have hj1 : ¬ (j : Int) = 1 := fun e => hred ⟨by rw [Hr3.out]; rfl, by omega⟩
                go_wp2_with fail
                go_roundw
                case rel =>
                  exact ⟨j + 1, us3, by omega, by go_num, hr4', hown4', hbox4, hg4, hatw, hneww, hun4⟩
                case measure => simp [intOf]; omega
            · go_wp2_with fail
              go_roundw
              case rel =>
                exact ⟨j + 1, us3, by omega, by go_num, hr4', hown4', hbox4, hg4, hatw, hneww, hun4⟩
              case measure => simp [intOf]; omega
        · obtain rfl : m = j := by omega
          have hfm := redT_form r3 (k + 1) a sub Hm.out Hm3.out
          have hlen2 : 0 < (redT r3 (k + 1) a sub m).length := by rcases hfm with ⟨_, _, e⟩ | ⟨_, _, _, _, e⟩ <;> rw [e] <;> simp
          obtain ⟨_, c4, rfl, _, _⟩ := own_formT hq
          obtain ⟨g4, rfl⟩ := own_someZ hq hlen2
          have hbw : base ≤ wr.heap.size := by have := hg.size; have := HgB.out; omega
          have hjn := JoinT_any base u2 ns us2 L a false g4 c4 _ wr hfm hbw hr (own_lower hq hb) (by have := HTs.out; omega)
          have Hhr := Lib.hid hr
          have Hhg := Lib.hid hg
          have Hhat := Lib.hid hat
          have Hhnew := Lib.hid hnew
          have hg4 := own_blockT hq g4 rfl
          clear hr hg hat hnew hq hun hbox
          go_wp2_with fail
          refine hjn.mono ?_
          rintro e w5 ⟨v5, us5, rfl, hr5, hg5, hat5, hnew5⟩
          have hws := Hhg.out.size
          rw [HgB.out] at hws
          have hg6 := Hhg.out.andThen hg5 (fun y hy => by
            rcases Hhat.out with h | ⟨z, h, hz⟩
            · exact .inr (by rw [← h]; exact hy)
            · rw [h] at hy
              injection hy with hy
              exact .inl (by rw [HgB.out]; omega))
          have hat6 : v5.ownBlock = v.ownBlock ∨ ∃ y, v5.ownBlock = some y ∧ gB ≤ y := by
            rcases hat5 with h | ⟨z, h, hz⟩
            · rw [h]; exact Hhat.out
            · exact .inr ⟨z, h, by omega⟩
          have hnew6 : ∀ u ∈ us5, u ∈ us ∨ newV gB u := fun u hu => by
            rcases hnew5 u hu with h | h
            · exact Hhnew.out u h
            · exact .inr fun y hy => by
                rw [h] at hy
                have hy2 : g4 = y := Option.some.inj hy
                omega
          clear hg5 hat5 hnew5 hjn
          go_wp2_with fail
          (first | refine Hpost.out _ _ _ _ _ ?_ ?_ hr5 hg6 hat6 hnew6 | refine bodyPost_ret (results_tmp2 rfl _ _ _) rfl (Hpost.out _ _ _ _ _ ?_ ?_ hr5 hg6 hat6 hnew6))
          · rw [HL.out, HT.out]
          · have := HTs.out
            omega

end Go.Proofs.YtlidhdljgnijaaaDoor

/-
  NODES AS THEY ARE TOLD (layer 11), read from memory; what the document's Nodes answers.
-/
set_option linter.unusedVariables false
namespace Go.Proofs.YtlidhdljgnijaaaDoor
open Go.RowKit

/-- a node as it is read: any numbers -/
structure RI where
  lev : Int
  at_ : Int
  red : Bool
  fr : Int
  to_ : Int
  kids : List Int
  up : Int
def RN.i (x : RN) : RI := ⟨x.lev, x.at_, x.red, x.fr, x.to, castL x.kids, x.up⟩
def riC (x : RI) (u : Value) : List Value := [.int .i64 x.lev, .int .i64 x.at_, .bool x.red, .int .i64 x.fr, .int .i64 x.to_, u, .int .i64 x.up]
def cellsI : List RI → List Value → List Value
  | x :: ns, u :: us => riC x u ++ cellsI ns us
  | _, _ => []
theorem cellsI_len : ∀ (ns : List RI) (us : List Value), us.length = ns.length → (cellsI ns us).length = ns.length * 7
  | [], [], _ => rfl
  | x :: ns, u :: us, h => by
    rw [cellsI, List.length_append, cellsI_len ns us (by simpa using h), List.length_cons, riC]
    simp only [List.length_cons, List.length_nil]
    omega
  | [], u :: us, h => by simp at h
  | x :: ns, [], h => by simp at h
theorem cellsI_at : ∀ (ns : List RI) (us : List Value) (k j : Nat) (x : RI) (u : Value), us.length = ns.length → ns[k]? = some x → us[k]? = some u → j < 7 → (cellsI ns us)[k * 7 + j]? = (riC x u)[j]?
  | [], _, k, j, x, u, _, h, _, _ => by simp at h
  | y :: ns, [], k, j, x, u, h, _, _, _ => by simp at h
  | y :: ns, v :: us, 0, j, x, u, _, hx, hu, hj => by
    simp at hx hu
    subst hx hu
    rw [cellsI, List.getElem?_append_left (by simp only [riC, List.length_cons, List.length_nil]; omega), Nat.zero_mul, Nat.zero_add]
  | y :: ns, v :: us, k + 1, j, x, u, h, hx, hu, hj => by
    rw [cellsI, List.getElem?_append_right (by simp only [riC, List.length_cons, List.length_nil]; omega), show (riC y v).length = 7 from rfl, show (k + 1) * 7 + j - 7 = k * 7 + j by omega]
    exact cellsI_at ns us k j x u (by simpa using h) (by simpa using hx) (by simpa using hu) hj
theorem cells_i : ∀ (ns : List RN) (us : List Value), cellsR ns us = cellsI (ns.map RN.i) us
  | [], _ => rfl
  | x :: ns, [] => rfl
  | x :: ns, u :: us => by rw [List.map_cons, cellsR, cellsI, cells_i ns us]; rfl
/-- a slice of nodes is read; their Kids are read -/
structure NdR (w : World) (B : Nat) (A : Option Addr) (n c : Nat) (ns : List RI) : Prop where
  len : ns.length = n
  cap : n ≤ c ∧ c ≤ maxLen
  told : ∃ us, us.length = n ∧ Rd w B A (n * 7) (cellsI ns us) ∧ ∀ (k : Nat) (x : RI) (u : Value), ns[k]? = some x → us[k]? = some u → ∃ Au cu, u = .slice Au x.kids.length cu ∧ x.kids.length ≤ cu ∧ cu ≤ maxLen ∧ Rd w B Au x.kids.length (x.kids.map iv)
theorem NdR.keep {w w' : World} {B B' : Nat} (hk : ∀ (A : Option Addr) (n : Nat) (xs : List Value), Rd w B A n xs → Rd w' B' A n xs) {A : Option Addr} {n c : Nat} {ns : List RI} (h : NdR w B A n c ns) : NdR w' B' A n c ns := by
  obtain ⟨us, h1, h2, h3⟩ := h.told
  refine ⟨h.len, h.cap, us, h1, hk _ _ _ h2, fun k x u hx hu => ?_⟩
  obtain ⟨Au, cu, e1, e2, e3, e4⟩ := h3 k x u hx hu
  exact ⟨Au, cu, e1, e2, e3, hk _ _ _ e4⟩
theorem NdR.below {w w' : World} {B : Nat} {A : Option Addr} {n c : Nat} {ns : List RI} (h : NdR w B A n c ns) (hb : Below B w w') : NdR w' B A n c ns := h.keep fun _ _ _ hr => hr.below hb
theorem NdR.more {w : World} {B B' : Nat} {A : Option Addr} {n c : Nat} {ns : List RI} (h : NdR w B A n c ns) (hb : B ≤ B') : NdR w B' A n c ns := h.keep fun _ _ _ hr => hr.more hb
theorem NdR.zero (w : World) (B : Nat) : NdR w B none 0 0 [] := ⟨rfl, ⟨Nat.le_refl _, by simp [maxLen]⟩, [], rfl, Rd.zero _ _ _, fun k x u h => by simp at h⟩
theorem Rd.of_ownZ {w : World} {base size : Nat} {e : TypeId} {A : Option Addr} {n c : Nat} {xs : List Value} (h : w.ownsRow base e size (.slice A n c) n xs) : Rd w w.heap.size A (n * size) xs := by
  refine ⟨h.1, fun hn => ?_⟩
  have hn0 : 0 < n := Nat.pos_of_ne_zero fun e => by subst e; omega
  obtain ⟨g, rfl⟩ := own_someZ h hn0
  refine ⟨g, 0, rfl, own_ltT h g rfl, fun j u hu => ?_⟩
  have hj : j < n * size := by rw [← h.1]; exact (List.getElem?_eq_some_iff.1 hu).1
  rw [Nat.zero_add, h.cellAt j hj]
  exact hu
/-- nodes of the call's own are told -/
theorem OwR.told {base : Nat} {w : World} {A : Option Addr} {c : Nat} {ns : List RN} {us : List Value} (h : OwR base w (.slice A ns.length c) ns us) : NdR w w.heap.size A ns.length c (ns.map RN.i) := by
  obtain ⟨_, _, e, hc, hm⟩ := own_formT h.row
  injection e with e1 e2 e3
  subst e1 e3
  refine ⟨by simp, ⟨hc, hm⟩, us, h.len, by rw [← cells_i]; exact Rd.of_ownZ h.row, fun k x u hx hu => ?_⟩
  rw [List.getElem?_map] at hx
  obtain ⟨y, hy, rfl⟩ := Option.map_eq_some_iff.1 hx
  have ho := h.kids k y u hy hu
  obtain ⟨Au, cu, rfl, h1, h2⟩ := own_formT ho
  refine ⟨Au, cu, by simp [RN.i, castL_len], by simpa [RN.i, castL_len] using h1, h2, ?_⟩
  have e1 : (RN.i y).kids.length = y.kids.length := castL_len _
  have e2 : (RN.i y).kids.map iv = kidV y.kids := by simp [RN.i, castL, kidV]
  rw [e1, e2]
  exact Rd.of_own ho

theorem wideN_sum {many : Nat} {lv : List (List Nat)} (hs : lvSum many lv) {k : Nat} {l : List Nat} (hl : lv[k]? = some l) : l.sum = wideN many lv k := by
  rw [(hs k l hl).2]
  cases k with
  | zero => rfl
  | succ k => simp [wideN]
theorem len_sum : ∀ {l : List Nat}, two3 l → l.length ≤ l.sum
  | [], _ => by simp
  | n :: l, h => by
    have h1 := h n (by simp)
    have h2 := len_sum (l := l) (fun x hx => h x (by simp [hx]))
    rw [List.length_cons, List.sum_cons]
    omega
theorem sum_pos {l : List Nat} (h : 0 < l.sum) : 0 < l.length := by
  cases l with
  | nil => simp at h
  | cons x l => simp
theorem wideN_le {many : Nat} {lv : List (List Nat)} (hs : lvSum many lv) : ∀ k, k ≤ lv.length → wideN many lv k ≤ many
  | 0, _ => Nat.le_refl _
  | k + 1, h => by
    have hl : lv[k]? = some lv[k] := List.getElem?_eq_getElem (by omega)
    have h1 := wideN_le hs k (by omega)
    have h2 := len_sum (hs k _ hl).1
    have h3 := wideN_sum hs hl
    rw [wideN, getD_at hl]
    omega
theorem wideN_pos {many : Nat} {lv : List (List Nat)} (hs : lvSum many lv) (hm : 0 < many) : ∀ k, k ≤ lv.length → 0 < wideN many lv k
  | 0, _ => hm
  | k + 1, h => by
    have hl : lv[k]? = some lv[k] := List.getElem?_eq_getElem (by omega)
    have h1 := wideN_pos hs hm k (by omega)
    have h3 := wideN_sum hs hl
    rw [wideN, getD_at hl]
    exact sum_pos (by omega)
theorem leafS_le {many : Nat} {lv : List (List Nat)} (hs : lvSum many lv) : ∀ k a, k ≤ lv.length → a ≤ wideN many lv k → leafS lv k a ≤ many
  | 0, a, _, h => h
  | k + 1, a, hk, h => by
    have hl : lv[k]? = some lv[k] := List.getElem?_eq_getElem (by omega)
    rw [leafS]
    refine leafS_le hs k _ (by omega) ?_
    have h3 := wideN_sum hs hl
    rw [getD_at hl]
    have := startT_le lv[k] a
    omega
theorem treeOf_size {kind : Int} {many : Nat} {lv : List (List Nat)} (hs : lvSum many lv) {k a : Nat} (hk : k ≤ lv.length) (ha : a < wideN many lv k) : (treeOf kind lv k a).size + 1 ≤ 2 * many := by
  obtain ⟨h1, h2, h3⟩ := treeOf_ok (kind := kind) hs k a hk ha
  have h4 := RT.size_lt (treeOf kind lv k a)
  have h5 := RT.lvs_ok _ h1
  have h6 := leafS_le hs k (a + 1) hk (by omega)
  omega

theorem Below_any (base : Nat) (kind : Int) (Ai : Option Addr) (ni ci : Nat) (Al : Option Addr) (nl cl : Nat) (ids : List Int) (lv : List (List Nat)) (many : Nat) (hs : lvSum many lv) (hmany : many ≤ 1000) (hlv : lv.length ≤ 1000) : ∀ (k a : Nat), k ≤ lv.length → a < wideN many lv k →
    ∀ (v : Value) (ns : List RN) (us : List Value) (w : World), base ≤ w.heap.size → ShR w base Ai ni ci Al nl cl ids (levI lv) → OwR base w v ns us → ns.length + (treeOf kind lv k a).size ≤ 100000 →
      Calls Tryd.prog 62 #[.int .i64 kind, .agg (shV Ai ni ci Al nl cl), v, .int .i64 (k : Nat), .int .i64 (a : Nat)] w (AddPost base w v ns us (newV w.heap.size) (treeOf kind lv k a) (ns.length + (treeOf kind lv k a).size - 1))
  | 0, a, _, ha, v, ns, us, w, hb, hS, h, hn => by
    have ha' : a < many := ha
    exact BelowLeaf_any base kind Ai ni ci Al nl cl a v ns us w (by omega) hb h (by simpa [treeOf, RT.size] using hn)
  | k + 1, a, hk, ha, v, ns, us, w, hb, hS, h, hn => by
    have hl : lv[k]? = some lv[k] := List.getElem?_eq_getElem (by omega)
    have hsum := wideN_sum hs hl
    have hw := wideN_le hs k (by omega)
    have hw1 := wideN_le hs (k + 1) hk
    have hal : a < lv[k].length := by rw [wideN, getD_at hl] at ha; exact ha
    have hle := len_sum (hs k _ hl).1
    exact BelowStep_any base kind Ai ni ci Al nl cl ids lv (k + 1) k a rfl lv[k] hl (hs k _ hl).1 hal (by omega) (by omega) (by omega)
      (fun b hb' v ns us w h1 h2 h3 h4 => Below_any base kind Ai ni ci Al nl cl ids lv many hs hmany hlv k b (by omega) (by omega) v ns us w h1 h2 h3 h4) v ns us w hb hS h hn

end Go.Proofs.YtlidhdljgnijaaaDoor

/-
  CONTRACTS of the document's may and Nodes (coterieref11).
-/
set_option linter.unusedVariables false
namespace Go.Proofs.YtlidhdljgnijaaaDoor
open Go.RowKit

def mayB (kind : Int) (ids : List Int) (ll : List (List Int)) : Bool := (decide (kind = 1) || decide (kind = 2)) && chkT ids ll
def nodesI (kind : Int) (ids : List Int) (ll : List (List Int)) : List RI := if mayB kind ids ll = true then (nodesU kind ids.length (lvN ll)).map RN.i else []
def mayE (kind : Int) (ids : List Int) (ll : List (List Int)) : Int := if mayB kind ids ll = true then 0 else 1
def NodesPost (w : World) (kind : Int) (ids : List Int) (ll : List (List Int)) (e : Ending) (w' : World) : Prop :=
  Below w.heap.size w w' ∧ ∃ A n c, e = .returned (.tuple #[.slice A n c, .int .i64 (mayE kind ids ll)]) ∧ NdR w' w'.heap.size A n c (nodesI kind ids ll)
theorem chkE_iff {ids : List Int} {ll : List (List Int)} : chkE ids ll = 0 ↔ chkT ids ll = true := by
  rw [chkE]
  split <;> simp_all

set_option maxRecDepth 100000 in
set_option maxHeartbeats 4000000 in
theorem May_any (kind : Int) (Ai : Option Addr) (ni ci : Nat) (Al : Option Addr) (nl cl : Nat) (ids : List Int) (ll : List (List Int)) (w : World) (h : ShR w w.heap.size Ai ni ci Al nl cl ids ll) (hf : fewT ids ll = true) :
    Calls Tryd.prog 61 #[.int .i64 kind, .agg (shV Ai ni ci Al nl cl)] w fun e w' => e = .returned (.bool (mayB kind ids ll)) ∧ Below w.heap.size w w' := by
  have hM := (Ms.nil w).box 25 (shV Ai ni ci Al nl cl)
  have hck := CheckT_any Ai ni ci Al nl cl ids ll _ ((h.below hM.old).more hM.old.size) (few_million hf)
  have Hpost := Lib.hid (show ∀ b w', b = mayB kind ids ll → Below w.heap.size w w' → (fun e w' => e = Ending.returned (Value.bool (mayB kind ids ll)) ∧ Below w.heap.size w w') (.returned (.bool b)) w' from fun b w' h1 h2 => ⟨by rw [h1], h2⟩)
  generalize (fun e w' => e = Ending.returned (Value.bool (mayB kind ids ll)) ∧ Below w.heap.size w w') = PO at *
  have hold := hM.old
  by_cases h1 : kind = 1
  · subst h1
    go_enter Tryd.func61, Tryd.ntmps61
    go_wp2_with ((with_reducible show wpList _ _ _ (⟨some 12, _, _, _, _, _⟩ :: _) _ _); refine wpList_loadC (by kernel_rfl) 25 (.tmp 3) rfl w.heap.size rfl 25 (shV Ai ni ci Al nl cl) _ (hM.get 0 rfl) Tryd.underlying25 rfl shapeInfo2 ?_)
    refine hck.mono ?_
    rintro e w1 ⟨rfl, hb1⟩
    have hold1 := hM.call hb1
    have hfin := hold1.old
    obtain ⟨er, her⟩ : ∃ er, er = chkE ids ll := ⟨_, rfl⟩
    rw [← her]
    by_cases hc : er = 0
    · subst hc
      have Hc := Lib.hid (show true = mayB 1 ids ll by rw [mayB, chkE_iff.1 her.symm]; rfl)
      clear hck hM hb1 hold1 her
      go_wp2_with fail
      (first | exact Hpost.out _ _ Hc.out hfin | exact bodyPost_ret (results_tmp rfl _ _ _) rfl (Hpost.out _ _ Hc.out hfin))
    · have Hc := Lib.hid (show false = mayB 1 ids ll by
        have h2 : ¬ chkT ids ll = true := fun e => hc (by rw [her]; exact chkE_iff.2 e)
        rw [mayB, Bool.eq_false_iff.2 h2, Bool.and_false])
      have hcb : (er == 0) = false := by simpa using hc
      clear hck hM hb1 hold1 her
      go_wp2_with fail
      (first | exact Hpost.out _ _ Hc.out hfin | exact bodyPost_ret (results_tmp rfl _ _ _) rfl (Hpost.out _ _ Hc.out hfin))
  by_cases h2 : kind = 2
  · subst h2
    go_enter Tryd.func61, Tryd.ntmps61
    go_wp2_with ((with_reducible show wpList _ _ _ (⟨some 12, _, _, _, _, _⟩ :: _) _ _); refine wpList_loadC (by kernel_rfl) 25 (.tmp 3) rfl w.heap.size rfl 25 (shV Ai ni ci Al nl cl) _ (hM.get 0 rfl) Tryd.underlying25 rfl shapeInfo2 ?_)
    refine hck.mono ?_
    rintro e w1 ⟨rfl, hb1⟩
    have hold1 := hM.call hb1
    have hfin := hold1.old
    obtain ⟨er, her⟩ : ∃ er, er = chkE ids ll := ⟨_, rfl⟩
    rw [← her]
    by_cases hc : er = 0
    · subst hc
      have Hc := Lib.hid (show true = mayB 2 ids ll by rw [mayB, chkE_iff.1 her.symm]; rfl)
      clear hck hM hb1 hold1 her
      go_wp2_with fail
      (first | exact Hpost.out _ _ Hc.out hfin | exact bodyPost_ret (results_tmp rfl _ _ _) rfl (Hpost.out _ _ Hc.out hfin))
    · have Hc := Lib.hid (show false = mayB 2 ids ll by
        have h2 : ¬ chkT ids ll = true := fun e => hc (by rw [her]; exact chkE_iff.2 e)
        rw [mayB, Bool.eq_false_iff.2 h2, Bool.and_false])
      have hcb : (er == 0) = false := by simpa using hc
      clear hck hM hb1 hold1 her
      go_wp2_with fail
      (first | exact Hpost.out _ _ Hc.out hfin | exact bodyPost_ret (results_tmp rfl _ _ _) rfl (Hpost.out _ _ Hc.out hfin))
  have Hc := Lib.hid (show false = mayB kind ids ll by rw [mayB, decide_eq_false h1, decide_eq_false h2]; rfl)
  have hfin := hM.old
  clear hck hM
  go_enter Tryd.func61, Tryd.ntmps61
  go_wp2_with fail
  (first | exact Hpost.out _ _ Hc.out hfin | exact bodyPost_ret (results_tmp rfl _ _ _) rfl (Hpost.out _ _ Hc.out hfin))

end Go.Proofs.YtlidhdljgnijaaaDoor

