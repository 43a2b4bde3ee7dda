import Derived.Test.YtlidhdljgnijaaaDoorN10
import Derived.Test.YtlidhdljgnijaaaDoorN12
import Derived.Test.YtlidhdljgnijaaaDoorN01
/-
  TREES OF THE CALL'S OWN: members and levels in rows that it owns, no two in one block; what is told of them as told trees.
-/
set_option linter.unusedVariables false
namespace Go.Proofs.YtlidhdljgnijaaaDoor
open Go.RowKit

theorem own_tyT {w : World} {base : Nat} {e : TypeId} {size : Nat} {v : Value} {n : Nat} {xs : List Value} (h : w.ownsRow base e size v n xs) {g : Nat} (hg : v.ownBlock = some g) : ∃ cs, RowC w g e cs := by
  rcases h.2 with ⟨rfl, _⟩ | ⟨g', cap, cur, rfl, _, hc, _⟩
  · cases hg
  · have : g' = g := by simpa [Value.ownBlock] using hg
    subst this
    exact ⟨cur, hc⟩
theorem ty_neT {w : World} {g : Nat} {t t' : TypeId} {cs cs' : Array Value} (h : RowC w g t cs) (h' : RowC w g t' cs') : t = t' := by
  unfold RowC at h h'
  rw [h] at h'
  injection h' with h'
  injection h'
theorem own_farT {w w' : World} {base : Nat} {e : TypeId} {size : Nat} {v : Value} {n : Nat} {xs : List Value} {g : Nat} {t : TypeId} {cs : Array Value} (h : w.ownsRow base e size v n xs) (hg : w.grownBy w' (some g)) (hr : RowC w g t cs) (hne : t ≠ e) : w'.ownsRow base e size v n xs :=
  h.kept hg (.inr fun e' => by
    obtain ⟨cs', h'⟩ := own_tyT h e'
    exact hne (ty_neT hr h'))
theorem int_list_ne : (3 : TypeId) ≠ 22 := by decide

/-- a tree in rows of the call's own: the levels' row holds vs, the levels themselves lie in us -/
structure OwW (base : Nat) (w : World) (vI vL : Value) (vs us : List Value) (ids : List Int) (ll : List (List Int)) : Prop where
  i : w.ownsRow base 3 1 vI ids.length (ids.map iv)
  l : w.ownsRow base 22 1 vL ll.length vs
  n : us.length = ll.length
  r : ∀ (k : Nat) (u : Value) (l : List Int), us[k]? = some u → ll[k]? = some l → w.ownsRow base 3 1 u l.length (l.map iv)
  ai : ∀ (k : Nat) (u : Value) (g : Nat), us[k]? = some u → u.ownBlock = some g → vI.ownBlock ≠ some g
  al : ∀ (j k : Nat) (u v : Value) (g : Nat), us[j]? = some u → us[k]? = some v → u.ownBlock = some g → v.ownBlock = some g → j = k

section
variable {base : Nat} {w w' : World} {vI vL : Value} {vs us : List Value} {ids : List Int} {ll : List (List Int)}
theorem OwW.m (h : OwW base w vI vL vs us ids ll) : vs.length = ll.length := by have := h.l.1; omega
theorem OwW.at_ (h : OwW base w vI vL vs us ids ll) {k : Nat} {u : Value} (hk : us[k]? = some u) : ∃ l, ll[k]? = some l ∧ w.ownsRow base 3 1 u l.length (l.map iv) := by
  obtain ⟨h1, _⟩ := List.getElem?_eq_some_iff.1 hk
  have h2 : ll[k]? = some (ll[k]'(by rw [← h.n]; exact h1)) := List.getElem?_eq_getElem _
  exact ⟨_, h2, h.r k u _ hk h2⟩
/-- what turns one block that is none of the tree's, or none that was there -/
theorem OwW.kept {row : Option Nat} (h : OwW base w vI vL vs us ids ll) (hg : w.grownBy w' row) (h1 : vI.ownBlock = none ∨ vI.ownBlock ≠ row) (h2 : vL.ownBlock = none ∨ vL.ownBlock ≠ row) (h3 : ∀ (k : Nat) (u : Value), us[k]? = some u → u.ownBlock = none ∨ u.ownBlock ≠ row) : OwW base w' vI vL vs us ids ll :=
  ⟨h.i.kept hg h1, h.l.kept hg h2, h.n, fun k u l hk hl => (h.r k u l hk hl).kept hg (h3 k u hk), h.ai, h.al⟩
theorem OwW.quiet (h : OwW base w vI vL vs us ids ll) (hb : Below w.heap.size w w') : OwW base w' vI vL vs us ids ll :=
  ⟨own_below h.i hb, own_below h.l hb, h.n, fun k u l hk hl => own_below (h.r k u l hk hl) hb, h.ai, h.al⟩
theorem OwW.far {g : Nat} {t : TypeId} {cs : Array Value} (h : OwW base w vI vL vs us ids ll) (hg : w.grownBy w' (some g)) (hr : RowC w g t cs) (h1 : t ≠ 3) (h2 : t ≠ 22) : OwW base w' vI vL vs us ids ll :=
  ⟨own_farT h.i hg hr h1, own_farT h.l hg hr h2, h.n, fun k u l hk hl => own_farT (h.r k u l hk hl) hg hr h1, h.ai, h.al⟩
theorem get_setT {α : Type} {xs : List α} {k j : Nat} {x y : α} (h : (xs.set k x)[j]? = some y) : (j = k ∧ y = x ∧ k < xs.length) ∨ (j ≠ k ∧ xs[j]? = some y) := by
  rw [List.getElem?_set] at h
  by_cases hjk : k = j
  · rw [if_pos hjk] at h
    split at h
    · exact .inl ⟨hjk.symm, (Option.some.inj h).symm, by omega⟩
    · cases h
  · rw [if_neg hjk] at h
    exact .inr ⟨Ne.symm hjk, h⟩
/-- the levels' row turns in one place -/
theorem OwW.store {gl cl k : Nat} {u : Value} (h : OwW base w vI (.slice (some ⟨gl, 0, none⟩) ll.length cl) vs us ids ll) : OwW base (w.setCell ⟨gl, k, none⟩ u) vI (.slice (some ⟨gl, 0, none⟩) ll.length cl) (vs.set k u) us ids ll := by
  obtain ⟨s1, s2⟩ := h.l.stored k u
  obtain ⟨cs, hr⟩ := own_tyT h.l (g := gl) rfl
  exact ⟨own_farT h.i s2 hr int_list_ne.symm, s1, h.n, fun j v l hj hl => own_farT (h.r j v l hj hl) s2 hr int_list_ne.symm, h.ai, h.al⟩
/-- a level more -/
theorem OwW.snoc (h : OwW base w vI vL vs us ids ll) {w1 : World} {u vL' : Value} {l : List Int} (hb : Below w.heap.size w w1) (hu : w1.ownsRow base 3 1 u l.length (l.map iv)) (hf : ∀ q, u.ownBlock = some q → w.heap.size ≤ q)
    (hg : w1.grownBy w' vL.ownBlock) (hn : w'.ownsRow base 22 1 vL' (ll.length + 1) (vs ++ [u])) : OwW base w' vI vL' (vs ++ [u]) (us ++ [u]) ids (ll ++ [l]) := by
  have h1 := h.quiet hb
  have hk : ∀ {v : Value} {n : Nat} {xs : List Value}, w1.ownsRow base 3 1 v n xs → w'.ownsRow base 3 1 v n xs := by
    intro v n xs hv
    cases hl : vL.ownBlock with
    | none => rw [hl] at hg; exact hv.kept hg (by cases v.ownBlock <;> simp)
    | some g =>
      rw [hl] at hg
      obtain ⟨cs, hr⟩ := own_tyT h1.l hl
      exact own_farT hv hg hr int_list_ne.symm
  have hcase : ∀ {j : Nat} {v : Value}, (us ++ [u])[j]? = some v → us[j]? = some v ∨ (j = us.length ∧ v = u) := by
    intro j v hj
    rcases Nat.lt_or_ge j us.length with hlt | hge
    · rw [List.getElem?_append_left hlt] at hj; exact .inl hj
    · rw [List.getElem?_append_right hge] at hj
      have h2 := (List.getElem?_eq_some_iff.1 hj).1
      simp only [List.length_cons, List.length_nil] at h2
      have : j = us.length := by omega
      subst this
      simp at hj
      exact .inr ⟨rfl, hj.symm⟩
  refine ⟨hk h1.i, by rw [List.length_append]; exact hn, by simp [h.n], fun j v m hj hm => ?_, fun j v q hj hv e => ?_, fun i j v v' q hi hj hv hv' => ?_⟩
  · rcases hcase hj with hj | ⟨rfl, rfl⟩
    · have hlt := (List.getElem?_eq_some_iff.1 hj).1
      rw [List.getElem?_append_left (by rw [← h.n]; exact hlt)] at hm
      exact hk (h1.r j v m hj hm)
    · rw [h.n, List.getElem?_append_right (Nat.le_refl _)] at hm
      simp at hm
      subst hm
      exact hk hu
  · rcases hcase hj with hj | ⟨rfl, rfl⟩
    · exact h.ai j v q hj hv e
    · have h2 := hf q hv
      have h3 := (h.i.lt q e).2
      omega
  · rcases hcase hi with hi2 | ⟨rfl, rfl⟩
    · rcases hcase hj with hj2 | ⟨rfl, rfl⟩
      · exact h.al i j v v' q hi2 hj2 hv hv'
      · obtain ⟨_, _, h2⟩ := h.at_ hi2
        have h3 := (h2.lt q hv).2
        have h4 := hf q hv'
        omega
    · rcases hcase hj with hj | ⟨rfl, rfl⟩
      · obtain ⟨_, _, h2⟩ := h.at_ hj
        have h3 := (h2.lt q hv').2
        have h4 := hf q hv
        omega
      · rfl
end

end Go.Proofs.YtlidhdljgnijaaaDoor

/-
  TREES OF THE CALL'S OWN, level by level: what a level's row holds, a number written, a number put in; boxes kept beside.
-/
set_option linter.unusedVariables false
namespace Go.Proofs.YtlidhdljgnijaaaDoor
open Go.RowKit

/-- boxes that lie beside rows from B on -/
structure MsB (B : Nat) (w0 w : World) (L : List (Nat × TypeId × Array Value)) : Prop where
  old : Below B w0 w
  rows : ∀ p ∈ L, RowC w p.1 p.2.1 p.2.2
section
variable {B : Nat} {w0 w w' : World} {L : List (Nat × TypeId × Array Value)}
theorem MsB.of (h : Ms w0 w L) (hB : B ≤ w0.heap.size) : MsB B w0 w L := ⟨h.old.mono hB, h.rows⟩
theorem MsB.get (h : MsB B w0 w L) (i : Nat) {g : Nat} {t : TypeId} {cs : Array Value} (hi : L[i]? = some (g, t, cs)) : RowC w g t cs := h.rows _ (List.mem_of_getElem? hi)
theorem MsB.call (h : MsB B w0 w L) (hb : Below w.heap.size w w') (hB : B ≤ w.heap.size) : MsB B w0 w' L := ⟨h.old.trans (hb.mono hB), fun p hp => (h.rows p hp).call hb⟩
theorem MsB.turn (h : MsB B w0 w L) {row : Option Nat} (hg : w.grownBy w' row) (hs : B ≤ w.heap.size) (hr : ∀ g, row = some g → B ≤ g ∧ ∃ t cs, RowC w g t cs ∧ ∀ p ∈ L, t ≠ p.2.1) : MsB B w0 w' L :=
  ⟨h.old.grown hg hs (fun g e => (hr g e).1), fun p hp => (h.rows p hp).grownT hg (fun g e => by
    obtain ⟨_, t, cs, h1, h2⟩ := hr g e
    rintro rfl
    exact h2 p hp (ty_neT h1 (h.rows p hp)))⟩
theorem MsB.set {g : Nat} {t : TypeId} {cs : Array Value} (h : MsB B w0 w ((g, t, cs) :: L)) (hg : B ≤ g) (hne : ∀ p ∈ L, p.1 ≠ g) (i : Nat) (v : Value) : MsB B w0 (w.setCell ⟨g, i, none⟩ v) ((g, t, cs.setIfInBounds i v) :: L) :=
  ⟨h.old.setCell hg _, fun p hp => by
    rcases List.mem_cons.1 hp with rfl | hp
    · exact (h.rows (g, t, cs) (by simp)).set_ i v
    · exact (h.rows p (by simp [hp])).far (hne p hp) v⟩
theorem grown_setCell (w : World) (g i : Nat) (v : Value) : w.grownBy (w.setCell ⟨g, i, none⟩ v) (some g) :=
  ⟨rfl, rfl, rfl, by simp, fun k _ hk => heap_setCell_other w ⟨g, i, none⟩ k v (fun e => hk (by simp [e]))⟩
end

def castL (l : List Nat) : List Int := l.map fun n : Nat => (n : Int)
theorem castL_len (l : List Nat) : (castL l).length = l.length := by simp [castL]
theorem levI_cast (lv : List (List Nat)) : levI lv = lv.map castL := rfl
theorem levI_get {X : List (List Nat)} {k : Nat} {l : List Nat} (h : X[k]? = some l) : (levI X)[k]? = some (castL l) := by rw [levI_cast, List.getElem?_map, h]; rfl
theorem levI_lenX (X : List (List Nat)) : (levI X).length = X.length := by simp [levI]
section
variable {base : Nat} {w w' : World} {vI : Value} {Al : Option Addr} {nl cl : Nat} {vs us : List Value} {ids : List Int} {X : List (List Nat)}
end

section
variable {base : Nat} {w w' : World} {vI vL : Value} {vs us : List Value} {ids : List Int} {ll : List (List Int)}
theorem own_two (w : World) (base : Nat) (hb : base ≤ w.heap.size) : (w.alloc (.cells #[.int .i64 2] 3)).ownsRow base 3 1 (.slice (some ⟨w.heap.size, 0, none⟩) 1 1) ([2] : List Int).length (([2] : List Int).map iv) := own_new w base 3 #[.int .i64 2] hb (by simp [maxLen])
/-- the first level -/
theorem OwW.first (h : OwW base w vI vL vs us ids []) (hb : base ≤ w.heap.size) : OwW base ((w.alloc (.cells #[.int .i64 2] 3)).alloc (.cells #[.slice (some ⟨w.heap.size, 0, none⟩) 1 1] 22)) vI (.slice (some ⟨w.heap.size + 1, 0, none⟩) 1 1)
    [.slice (some ⟨w.heap.size, 0, none⟩) 1 1] [.slice (some ⟨w.heap.size, 0, none⟩) 1 1] ids [[2]] := by
  have b1 := d_al w (.cells #[.int .i64 2] 3)
  have o1 := own_two w base hb
  have z1 : (w.alloc (.cells #[.int .i64 2] 3)).heap.size = w.heap.size + 1 := by simp
  have h1 := h.quiet b1
  generalize w.alloc (.cells #[.int .i64 2] 3) = w1 at *
  have b2 := d_al w1 (.cells #[.slice (some ⟨w.heap.size, 0, none⟩) 1 1] 22)
  have o2 := own_new w1 base 22 #[.slice (some ⟨w.heap.size, 0, none⟩) 1 1] (by omega) (by simp [maxLen])
  rw [z1] at o2
  refine ⟨own_below h1.i b2, o2, rfl, fun k u l hk hl => ?_, fun k u g hk hu e => ?_, fun j k u v g hj hk _ _ => ?_⟩
  · have hk0 : k = 0 := by have := (List.getElem?_eq_some_iff.1 hk).1; simpa using this
    subst hk0
    simp at hk hl
    subst hk hl
    exact own_below o1 b2
  · have hk0 : k = 0 := by have := (List.getElem?_eq_some_iff.1 hk).1; simpa using this
    subst hk0
    simp at hk
    subst hk
    have : g = w.heap.size := by simpa [Value.ownBlock] using hu.symm
    subst this
    have := (h.i.lt _ e).2
    omega
  · have hj0 : j = 0 := by have := (List.getElem?_eq_some_iff.1 hj).1; simpa using this
    have hk0 : k = 0 := by have := (List.getElem?_eq_some_iff.1 hk).1; simpa using this
    omega
end

end Go.Proofs.YtlidhdljgnijaaaDoor

/-
  NODES IN MEMORY (layer 11): a node's cells; nodes in a row of the call's own, their Kids beside; appended, their Up written; told nodes as lists that are read.
-/
set_option linter.unusedVariables false
namespace Go.Proofs.YtlidhdljgnijaaaDoor
open Go.RowKit

/-- a node's cells: its Kids are slice u -/
def rnC (x : RN) (u : Value) : List Value := [.int .i64 (x.lev : Nat), .int .i64 (x.at_ : Nat), .bool x.red, .int .i64 (x.fr : Nat), .int .i64 (x.to : Nat), u, .int .i64 x.up]
theorem rnC_len (x : RN) (u : Value) : (rnC x u).length = 7 := rfl
theorem nodeInfoR : (Tryd.prog.info? 68).map (fun i => (i.zero, i.size, i.bytes)) = some (some (.agg #[.int .i64 0, .int .i64 0, .bool false, .int .i64 0, .int .i64 0, .slice none 0 0, .int .i64 0]), 7, 72) := by kernel_rfl
theorem nd_ne : (68 : TypeId) ≠ 3 := by decide
def kidV (l : List Nat) : List Value := l.map fun n : Nat => iv (n : Int)
/-- the cells of some nodes, one behind the other -/
def cellsR : List RN → List Value → List Value
  | x :: ns, u :: us => rnC x u ++ cellsR ns us
  | _, _ => []
theorem cellsR_append : ∀ (ns : List RN) (us : List Value) (ns' : List RN) (us' : List Value), us.length = ns.length → cellsR (ns ++ ns') (us ++ us') = cellsR ns us ++ cellsR ns' us'
  | [], [], _, _, _ => rfl
  | x :: ns, u :: us, ns', us', h => by
    rw [List.cons_append, List.cons_append, cellsR, cellsR, cellsR_append ns us ns' us' (by simpa using h), List.append_assoc]
  | [], u :: us, _, _, h => by simp at h
  | x :: ns, [], _, _, h => by simp at h
theorem cellsR_at : ∀ (ns : List RN) (us : List Value) (k j : Nat) (x : RN) (u : Value), us.length = ns.length → ns[k]? = some x → us[k]? = some u → j < 7 → (cellsR ns us)[k * 7 + j]? = (rnC x u)[j]?
  | [], _, k, j, x, u, _, h, _, _ => by simp at h
  | y :: ns, [], k, j, x, u, h, _, _, _ => by simp at h
  | y :: ns, v :: us, 0, j, x, u, _, hx, hu, hj => by
    simp at hx hu
    subst hx hu
    rw [cellsR, List.getElem?_append_left (by rw [rnC_len]; omega), Nat.zero_mul, Nat.zero_add]
  | y :: ns, v :: us, k + 1, j, x, u, h, hx, hu, hj => by
    rw [cellsR, List.getElem?_append_right (by rw [rnC_len]; omega), rnC_len, show (k + 1) * 7 + j - 7 = k * 7 + j by omega]
    exact cellsR_at ns us k j x u (by simpa using h) (by simpa using hx) (by simpa using hu) hj
theorem cellsR_up : ∀ (ns : List RN) (us : List Value) (k : Nat) (x : RN) (up : Int), us.length = ns.length → ns[k]? = some x → (cellsR ns us).set (k * 7 + 6) (.int .i64 up) = cellsR (ns.set k { x with up := up }) us
  | [], _, k, x, up, _, h => by simp at h
  | y :: ns, [], k, x, up, h, _ => by simp at h
  | y :: ns, v :: us, 0, x, up, _, hx => by
    simp at hx
    subst hx
    rw [cellsR, List.set_cons_zero, cellsR]
    rfl
  | y :: ns, v :: us, k + 1, x, up, h, hx => by
    rw [cellsR, List.set_cons_succ, cellsR, List.set_append_right _ _ (by rw [rnC_len]; omega), rnC_len, show (k + 1) * 7 + 6 - 7 = k * 7 + 6 by omega,
      cellsR_up ns us k x up (by simpa using h) (by simpa using hx)]

/-- nodes in a row of the call's own; us: the heads of their Kids -/
structure OwR (base : Nat) (w : World) (v : Value) (ns : List RN) (us : List Value) : Prop where
  len : us.length = ns.length
  row : w.ownsRow base 68 7 v ns.length (cellsR ns us)
  kids : ∀ (k : Nat) (x : RN) (u : Value), ns[k]? = some x → us[k]? = some u → w.ownsRow base 3 1 u x.kids.length (kidV x.kids)
section
variable {base : Nat} {w w' : World} {v : Value} {ns : List RN} {us : List Value}
theorem OwR.nil (base : Nat) (w : World) : OwR base w (.slice none 0 0) [] [] := ⟨rfl, World.ownsRow_nil _ _ _ _, fun k x u h => by simp at h⟩
theorem OwR.quiet (h : OwR base w v ns us) (hb : Below w.heap.size w w') : OwR base w' v ns us := ⟨h.len, own_below h.row hb, fun k x u hx hu => own_below (h.kids k x u hx hu) hb⟩
theorem OwR.far {g : Nat} {t : TypeId} {cs : Array Value} (h : OwR base w v ns us) (hg : w.grownBy w' (some g)) (hr : RowC w g t cs) (h1 : t ≠ 68) (h2 : t ≠ 3) : OwR base w' v ns us :=
  ⟨h.len, own_farT h.row hg hr h1, fun k x u hx hu => own_farT (h.kids k x u hx hu) hg hr h2⟩
/-- what turns one block that is none of these -/
theorem OwR.kept {row : Option Nat} (h : OwR base w v ns us) (hg : w.grownBy w' row) (h1 : v.ownBlock = none ∨ v.ownBlock ≠ row) (h2 : ∀ u ∈ us, u.ownBlock = none ∨ u.ownBlock ≠ row) : OwR base w' v ns us :=
  ⟨h.len, h.row.kept hg h1, fun k x u hx hu => (h.kids k x u hx hu).kept hg (h2 u (List.mem_of_getElem? hu))⟩
theorem OwR.ltK (h : OwR base w v ns us) {u : Value} (hu : u ∈ us) {g : Nat} (hg : u.ownBlock = some g) : base ≤ g ∧ g < w.heap.size := by
  obtain ⟨k, hk⟩ := List.mem_iff_getElem?.1 hu
  have h1 := (List.getElem?_eq_some_iff.1 hk).1
  exact (h.kids k _ u (List.getElem?_eq_getElem (show k < ns.length by rw [← h.len]; exact h1)) hk).lt g hg
/-- a node more -/
theorem OwR.snoc (h : OwR base w v ns us) {x : RN} {u v' : Value} (hu : w.ownsRow base 3 1 u x.kids.length (kidV x.kids)) (hg : w.grownBy w' v.ownBlock) (hn : w'.ownsRow base 68 7 v' (ns.length + 1) (cellsR ns us ++ rnC x u)) : OwR base w' v' (ns ++ [x]) (us ++ [u]) := by
  have hk : ∀ {q : Value} {n : Nat} {xs : List Value}, w.ownsRow base 3 1 q n xs → w'.ownsRow base 3 1 q n xs := by
    intro q n xs hq
    cases hv : v.ownBlock with
    | none => rw [hv] at hg; exact hq.kept hg (by cases q.ownBlock <;> simp)
    | some g =>
      rw [hv] at hg
      obtain ⟨cs, hr⟩ := own_tyT h.row hv
      exact own_farT hq hg hr nd_ne
  refine ⟨by simp [h.len], by rw [List.length_append, cellsR_append _ _ _ _ h.len]; simpa [cellsR] using hn, fun k y q hy hq => ?_⟩
  rcases Nat.lt_or_ge k ns.length with hlt | hge
  · rw [List.getElem?_append_left hlt] at hy
    rw [List.getElem?_append_left (by rw [h.len]; exact hlt)] at hq
    exact hk (h.kids k y q hy hq)
  · have hke : k = ns.length := by
      have := (List.getElem?_eq_some_iff.1 hy).1
      simp at this
      omega
    subst hke
    rw [List.getElem?_append_right (Nat.le_refl _), Nat.sub_self] at hy
    rw [← h.len, List.getElem?_append_right (Nat.le_refl _), Nat.sub_self] at hq
    simp at hy hq
    subst hy hq
    exact hk hu
/-- an Up is written -/
theorem OwR.up {g c : Nat} (h : OwR base w (.slice (some ⟨g, 0, none⟩) ns.length c) ns us) {k : Nat} {x : RN} (hx : ns[k]? = some x) (up : Int) : OwR base (w.setCell ⟨g, k * 7 + 6, none⟩ (.int .i64 up)) (.slice (some ⟨g, 0, none⟩) ns.length c) (ns.set k { x with up := up }) us := by
  obtain ⟨s1, s2⟩ := h.row.stored (k * 7 + 6) (.int .i64 up)
  rw [cellsR_up _ _ _ _ _ h.len hx] at s1
  obtain ⟨cs, hr⟩ := own_tyT h.row (g := g) rfl
  refine ⟨by rw [List.length_set]; exact h.len, by rw [List.length_set]; exact s1, fun i y u hy hu => ?_⟩
  rcases get_setT hy with ⟨rfl, rfl, hlt⟩ | ⟨hne, hy⟩
  · exact own_farT (h.kids i x u hx hu) s2 hr nd_ne
  · exact own_farT (h.kids i y u hy hu) s2 hr nd_ne
/-- a node's cells are read -/
theorem OwR.cell {g c : Nat} (h : OwR base w (.slice (some ⟨g, 0, none⟩) ns.length c) ns us) {k j : Nat} {x : RN} {u : Value} (hx : ns[k]? = some x) (hu : us[k]? = some u) (hj : j < 7) : w.cell? ⟨g, k * 7 + j, none⟩ = (rnC x u)[j]? := by
  have hk := (List.getElem?_eq_some_iff.1 hx).1
  rw [h.row.cellAt (k * 7 + j) (by omega), cellsR_at _ _ _ _ _ _ h.len hx hu hj]
theorem OwR.get_u (h : OwR base w v ns us) {k : Nat} (hk : k < ns.length) : ∃ u, us[k]? = some u := ⟨_, List.getElem?_eq_getElem (by rw [h.len]; exact hk)⟩
end

/-- append of one struct onto a row of the call's own, in a region -/
theorem wpList_append_node {P : Program} {w : World} {ops : Array Oper} {rest : List Oper} {o : Oper} {a : Act} {Q : Exit → Act → World → Prop} (hgd : Region.wanted o (yielded ops a.tmps) = true) (s x : Operand) (t : TypeId)
    (ho : o.op = .call { callee := .builtin .append, args := #[s, x], argTypes := #[t, t] })
    (base : Nat) (e : TypeId) (i : TypeInfo) (z : Value) (size bytes : Nat) (ht : P.underlying t = some (.slice e)) (hi : P.info? e = some i) (hz : i.zero = some z)
    (hsize : i.size = size) (hby : i.bytes = bytes) (hzs : z.cells.size = size) (hsz : 0 < size)
    (v : Value) (n : Nat) (xs : List Value) (hs : a.eval s = v) (hown : w.ownsRow base e size v n xs)
    (ad : Addr) (c : Nat) (news : List Value) (hx : a.eval x = .slice (some ad) 1 c) (hl : news.length = size) (hnews : ∀ j u, news[j]? = some u → w.cell? (ad.add j) = some u) (h1 : ∀ u ∈ news, u.oneCell' = true)
    (h63 : n + 1 ≤ maxLen) (hbytes : (n + 1) * bytes ≤ 140737488355328) (hbase : base ≤ w.heap.size)
    (h : ∀ v' w', w'.ownsRow base e size v' (n + 1) (xs ++ news) → w.grownBy w' v.ownBlock → (v'.ownBlock = v.ownBlock ∨ v'.ownBlock = some w.heap.size) → wpList P ops Q rest (a.put o.dst v') w') : wpList P ops Q (o :: rest) a w := by
  obtain ⟨v', w', hrun, h2, h3, _, h5⟩ := run_append_own_at (P := P) w base t o.type e i z size bytes ht hi hz hsize hby hzs hsz v n xs hown ad 1 c news (by omega) hnews h1 h63 hbytes hbase
  exact wpList_appendT hgd s x t t ho _ _ hs hx hrun (h v' w' h2 h3 h5)

end Go.Proofs.YtlidhdljgnijaaaDoor

/-
  CONTRACT of the document's join (coterieref11): a node more, its kids' Up written.
-/
set_option linter.unusedVariables false
namespace Go.Proofs.YtlidhdljgnijaaaDoor
open Go.RowKit

theorem own_someZ {w : World} {base size : Nat} {e : TypeId} {A : Option Addr} {n c : Nat} {xs : List Value} (h : w.ownsRow base e size (.slice A n c) n xs) (hn : 0 < n) : ∃ g, A = some ⟨g, 0, none⟩ := by
  obtain ⟨_, ⟨h, _⟩ | ⟨g, c2, cur, h, _⟩⟩ := h
  · injection h with _ h
    omega
  · injection h with h
    exact ⟨g, h⟩
def upN (l : List RN) (k : Nat) (up : Int) : List RN := l.modify k fun x => { x with up := up }
def upAll (l : List RN) (ks : List Nat) (up : Int) : List RN := ks.foldl (fun l k => upN l k up) l
theorem upN_len (l : List RN) (k : Nat) (up : Int) : (upN l k up).length = l.length := by simp [upN]
theorem upN_set {l : List RN} {k : Nat} {x : RN} (h : l[k]? = some x) (up : Int) : l.set k { x with up := up } = upN l k up := by
  apply List.ext_getElem?
  intro i
  rw [upN, List.getElem?_modify, List.getElem?_set]
  by_cases hi : k = i
  · subst hi
    rw [h]
    have := (List.getElem?_eq_some_iff.1 h).1
    simp [this]
  · simp [hi]
theorem upAll_succ (l : List RN) (ks : List Nat) (up : Int) {j : Nat} (h : j < ks.length) : upAll l (ks.take (j + 1)) up = upN (upAll l (ks.take j) up) ks[j] up := by
  rw [List.take_succ_eq_append_getElem h, upAll, upAll, List.foldl_append]
  rfl
theorem upAll_len (ks : List Nat) (up : Int) : ∀ l : List RN, (upAll l ks up).length = l.length := by
  induction ks with
  | nil => intro l; rfl
  | cons k ks ih => intro l; rw [upAll, List.foldl_cons, ← upAll, ih, upN_len]
def ndZ (lev a : Nat) (red : Bool) : Array Value := #[.int .i64 (lev : Nat), .int .i64 (a : Nat), .bool red, .int .i64 0, .int .i64 0, .slice none 0 0, .int .i64 0]
theorem add_zeroR (g j : Nat) : (⟨g, 0, none⟩ : Addr).add j = ⟨g, j, none⟩ := by
  simp only [Addr.add]
  split <;> simp_all
theorem rnInfo2 : (Tryd.prog.info? 68).map (·.size) = some 7 := by kernel_rfl
/-- what is carried while a node is made in a box -/
structure JS (base : Nat) (w wx : World) (gB : Nat) (cs : Array Value) (v : Value) (ns : List RN) (us : List Value) (q : Value) (ks : List Nat) : Prop where
  m : MsB base w wx [(gB, 68, cs)]
  r : OwR base wx v ns us
  k : wx.ownsRow base 3 1 q ks.length (kidV ks)
  g : w.grownBy wx v.ownBlock
  s : wx.heap.size = gB + 1
  e : gB = w.heap.size
  v : ∀ x, v.ownBlock = some x → x < gB
  u : ∀ y ∈ us, ∀ x, y.ownBlock = some x → x < gB
theorem JS.set {base : Nat} {w wx : World} {gB : Nat} {cs : Array Value} {v : Value} {ns : List RN} {us : List Value} {q : Value} {ks : List Nat} (h : JS base w wx gB cs v ns us q ks) (hb : base ≤ gB) (i : Nat) (y : Value) :
    JS base w (wx.setCell ⟨gB, i, none⟩ y) gB (cs.setIfInBounds i y) v ns us q ks := by
  have hg := grown_setCell wx gB i y
  refine ⟨h.m.set hb (by simp) i y, h.r.kept hg ?_ fun z hz => ?_, own_farT h.k hg (h.m.get 0 rfl) nd_ne, h.g.andThen hg (fun j hj => ?_), by simpa using h.s, h.e, h.v, h.u⟩
  · cases e : v.ownBlock with
    | none => exact .inl rfl
    | some x => exact .inr (fun hh => by injection hh with hh; have := h.v x e; omega)
  · cases e : z.ownBlock with
    | none => exact .inl rfl
    | some x => exact .inr (fun hh => by injection hh with hh; have := h.u z hz x e; omega)
  · injection hj with hj
    have := h.e
    exact .inl (by omega)

end Go.Proofs.YtlidhdljgnijaaaDoor

