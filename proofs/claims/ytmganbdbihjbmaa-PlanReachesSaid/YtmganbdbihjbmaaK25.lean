import Derived.Test.YtmganbdbihjbmaaK24
import Derived.Test.YtmganbdbihjbmaaK22
/-
  NODES IN MEMORY (layer 11): a node's cells; nodes in a row of the call's own, their Kids beside; appended, their Up written; told nodes as lists that are read.
-/
set_option linter.unusedVariables false
namespace Go.Proofs.Ytmganbdbihjbmaa
open Go.RowKit

/-- a node's cells: its Kids are slice u -/
def rnC (x : RN) (u : Value) : List Value := [.int .i64 (x.lev : Nat), .int .i64 (x.at_ : Nat), .bool x.red, .int .i64 (x.fr : Nat), .int .i64 (x.to : Nat), u, .int .i64 x.up]
theorem rnC_len (x : RN) (u : Value) : (rnC x u).length = 7 := rfl
theorem nodeInfoR : (Try.prog.info? 57).map (fun i => (i.zero, i.size, i.bytes)) = some (some (.agg #[.int .i64 0, .int .i64 0, .bool false, .int .i64 0, .int .i64 0, .slice none 0 0, .int .i64 0]), 7, 72) := by kernel_rfl
theorem nd_ne : (57 : TypeId) ≠ 3 := by decide
def kidV (l : List Nat) : List Value := l.map fun n : Nat => iv (n : Int)
/-- the cells of some nodes, one behind the other -/
def cellsR : List RN → List Value → List Value
  | x :: ns, u :: us => rnC x u ++ cellsR ns us
  | _, _ => []
theorem cellsR_len : ∀ (ns : List RN) (us : List Value), us.length = ns.length → (cellsR ns us).length = ns.length * 7
  | [], [], _ => rfl
  | x :: ns, u :: us, h => by
    rw [cellsR, List.length_append, cellsR_len ns us (by simpa using h), rnC_len, List.length_cons]
    omega
  | [], u :: us, h => by simp at h
  | x :: ns, [], h => by simp at h
theorem cellsR_append : ∀ (ns : List RN) (us : List Value) (ns' : List RN) (us' : List Value), us.length = ns.length → cellsR (ns ++ ns') (us ++ us') = cellsR ns us ++ cellsR ns' us'
  | [], [], _, _, _ => rfl
  | x :: ns, u :: us, ns', us', h => by
    rw [List.cons_append, List.cons_append, cellsR, cellsR, cellsR_append ns us ns' us' (by simpa using h), List.append_assoc]
  | [], u :: us, _, _, h => by simp at h
  | x :: ns, [], _, _, h => by simp at h
theorem cellsR_at : ∀ (ns : List RN) (us : List Value) (k j : Nat) (x : RN) (u : Value), us.length = ns.length → ns[k]? = some x → us[k]? = some u → j < 7 → (cellsR ns us)[k * 7 + j]? = (rnC x u)[j]?
  | [], _, k, j, x, u, _, h, _, _ => by simp at h
  | y :: ns, [], k, j, x, u, h, _, _, _ => by simp at h
  | y :: ns, v :: us, 0, j, x, u, _, hx, hu, hj => by
    simp at hx hu
    subst hx hu
    rw [cellsR, List.getElem?_append_left (by rw [rnC_len]; omega), Nat.zero_mul, Nat.zero_add]
  | y :: ns, v :: us, k + 1, j, x, u, h, hx, hu, hj => by
    rw [cellsR, List.getElem?_append_right (by rw [rnC_len]; omega), rnC_len, show (k + 1) * 7 + j - 7 = k * 7 + j by omega]
    exact cellsR_at ns us k j x u (by simpa using h) (by simpa using hx) (by simpa using hu) hj
theorem cellsR_up : ∀ (ns : List RN) (us : List Value) (k : Nat) (x : RN) (up : Int), us.length = ns.length → ns[k]? = some x → (cellsR ns us).set (k * 7 + 6) (.int .i64 up) = cellsR (ns.set k { x with up := up }) us
  | [], _, k, x, up, _, h => by simp at h
  | y :: ns, [], k, x, up, h, _ => by simp at h
  | y :: ns, v :: us, 0, x, up, _, hx => by
    simp at hx
    subst hx
    rw [cellsR, List.set_cons_zero, cellsR]
    rfl
  | y :: ns, v :: us, k + 1, x, up, h, hx => by
    rw [cellsR, List.set_cons_succ, cellsR, List.set_append_right _ _ (by rw [rnC_len]; omega), rnC_len, show (k + 1) * 7 + 6 - 7 = k * 7 + 6 by omega,
      cellsR_up ns us k x up (by simpa using h) (by simpa using hx)]

/-- nodes in a row of the call's own; us: the heads of their Kids -/
structure OwR (base : Nat) (w : World) (v : Value) (ns : List RN) (us : List Value) : Prop where
  len : us.length = ns.length
  row : w.ownsRow base 57 7 v ns.length (cellsR ns us)
  kids : ∀ (k : Nat) (x : RN) (u : Value), ns[k]? = some x → us[k]? = some u → w.ownsRow base 3 1 u x.kids.length (kidV x.kids)
section
variable {base : Nat} {w w' : World} {v : Value} {ns : List RN} {us : List Value}
theorem OwR.nil (base : Nat) (w : World) : OwR base w (.slice none 0 0) [] [] := ⟨rfl, World.ownsRow_nil _ _ _ _, fun k x u h => by simp at h⟩
theorem OwR.quiet (h : OwR base w v ns us) (hb : Below w.heap.size w w') : OwR base w' v ns us := ⟨h.len, own_below h.row hb, fun k x u hx hu => own_below (h.kids k x u hx hu) hb⟩
theorem OwR.far {g : Nat} {t : TypeId} {cs : Array Value} (h : OwR base w v ns us) (hg : w.grownBy w' (some g)) (hr : RowC w g t cs) (h1 : t ≠ 57) (h2 : t ≠ 3) : OwR base w' v ns us :=
  ⟨h.len, own_farT h.row hg hr h1, fun k x u hx hu => own_farT (h.kids k x u hx hu) hg hr h2⟩
/-- what turns one block that is none of these -/
theorem OwR.kept {row : Option Nat} (h : OwR base w v ns us) (hg : w.grownBy w' row) (h1 : v.ownBlock = none ∨ v.ownBlock ≠ row) (h2 : ∀ u ∈ us, u.ownBlock = none ∨ u.ownBlock ≠ row) : OwR base w' v ns us :=
  ⟨h.len, h.row.kept hg h1, fun k x u hx hu => (h.kids k x u hx hu).kept hg (h2 u (List.mem_of_getElem? hu))⟩
theorem OwR.ltK (h : OwR base w v ns us) {u : Value} (hu : u ∈ us) {g : Nat} (hg : u.ownBlock = some g) : base ≤ g ∧ g < w.heap.size := by
  obtain ⟨k, hk⟩ := List.mem_iff_getElem?.1 hu
  have h1 := (List.getElem?_eq_some_iff.1 hk).1
  exact (h.kids k _ u (List.getElem?_eq_getElem (show k < ns.length by rw [← h.len]; exact h1)) hk).lt g hg
/-- a node more -/
theorem OwR.snoc (h : OwR base w v ns us) {x : RN} {u v' : Value} (hu : w.ownsRow base 3 1 u x.kids.length (kidV x.kids)) (hg : w.grownBy w' v.ownBlock) (hn : w'.ownsRow base 57 7 v' (ns.length + 1) (cellsR ns us ++ rnC x u)) : OwR base w' v' (ns ++ [x]) (us ++ [u]) := by
  have hk : ∀ {q : Value} {n : Nat} {xs : List Value}, w.ownsRow base 3 1 q n xs → w'.ownsRow base 3 1 q n xs := by
    intro q n xs hq
    cases hv : v.ownBlock with
    | none => rw [hv] at hg; exact hq.kept hg (by cases q.ownBlock <;> simp)
    | some g =>
      rw [hv] at hg
      obtain ⟨cs, hr⟩ := own_tyT h.row hv
      exact own_farT hq hg hr nd_ne
  refine ⟨by simp [h.len], by rw [List.length_append, cellsR_append _ _ _ _ h.len]; simpa [cellsR] using hn, fun k y q hy hq => ?_⟩
  rcases Nat.lt_or_ge k ns.length with hlt | hge
  · rw [List.getElem?_append_left hlt] at hy
    rw [List.getElem?_append_left (by rw [h.len]; exact hlt)] at hq
    exact hk (h.kids k y q hy hq)
  · have hke : k = ns.length := by
      have := (List.getElem?_eq_some_iff.1 hy).1
      simp at this
      omega
    subst hke
    rw [List.getElem?_append_right (Nat.le_refl _), Nat.sub_self] at hy
    rw [← h.len, List.getElem?_append_right (Nat.le_refl _), Nat.sub_self] at hq
    simp at hy hq
    subst hy hq
    exact hk hu
/-- an Up is written -/
theorem OwR.up {g c : Nat} (h : OwR base w (.slice (some ⟨g, 0, none⟩) ns.length c) ns us) {k : Nat} {x : RN} (hx : ns[k]? = some x) (up : Int) : OwR base (w.setCell ⟨g, k * 7 + 6, none⟩ (.int .i64 up)) (.slice (some ⟨g, 0, none⟩) ns.length c) (ns.set k { x with up := up }) us := by
  obtain ⟨s1, s2⟩ := h.row.stored (k * 7 + 6) (.int .i64 up)
  rw [cellsR_up _ _ _ _ _ h.len hx] at s1
  obtain ⟨cs, hr⟩ := own_tyT h.row (g := g) rfl
  refine ⟨by rw [List.length_set]; exact h.len, by rw [List.length_set]; exact s1, fun i y u hy hu => ?_⟩
  rcases get_setT hy with ⟨rfl, rfl, hlt⟩ | ⟨hne, hy⟩
  · exact own_farT (h.kids i x u hx hu) s2 hr nd_ne
  · exact own_farT (h.kids i y u hy hu) s2 hr nd_ne
/-- a node's cells are read -/
theorem OwR.cell {g c : Nat} (h : OwR base w (.slice (some ⟨g, 0, none⟩) ns.length c) ns us) {k j : Nat} {x : RN} {u : Value} (hx : ns[k]? = some x) (hu : us[k]? = some u) (hj : j < 7) : w.cell? ⟨g, k * 7 + j, none⟩ = (rnC x u)[j]? := by
  have hk := (List.getElem?_eq_some_iff.1 hx).1
  rw [h.row.cellAt (k * 7 + j) (by omega), cellsR_at _ _ _ _ _ _ h.len hx hu hj]
theorem OwR.get_u (h : OwR base w v ns us) {k : Nat} (hk : k < ns.length) : ∃ u, us[k]? = some u := ⟨_, List.getElem?_eq_getElem (by rw [h.len]; exact hk)⟩
end

/-- append of one struct onto a row of the call's own, in a region -/
theorem wpList_append_node {P : Program} {w : World} {ops : Array Oper} {rest : List Oper} {o : Oper} {a : Act} {Q : Exit → Act → World → Prop} (hgd : Region.wanted o (yielded ops a.tmps) = true) (s x : Operand) (t : TypeId)
    (ho : o.op = .call { callee := .builtin .append, args := #[s, x], argTypes := #[t, t] })
    (base : Nat) (e : TypeId) (i : TypeInfo) (z : Value) (size bytes : Nat) (ht : P.underlying t = some (.slice e)) (hi : P.info? e = some i) (hz : i.zero = some z)
    (hsize : i.size = size) (hby : i.bytes = bytes) (hzs : z.cells.size = size) (hsz : 0 < size)
    (v : Value) (n : Nat) (xs : List Value) (hs : a.eval s = v) (hown : w.ownsRow base e size v n xs)
    (ad : Addr) (c : Nat) (news : List Value) (hx : a.eval x = .slice (some ad) 1 c) (hl : news.length = size) (hnews : ∀ j u, news[j]? = some u → w.cell? (ad.add j) = some u) (h1 : ∀ u ∈ news, u.oneCell' = true)
    (h63 : n + 1 ≤ maxLen) (hbytes : (n + 1) * bytes ≤ 140737488355328) (hbase : base ≤ w.heap.size)
    (h : ∀ v' w', w'.ownsRow base e size v' (n + 1) (xs ++ news) → w.grownBy w' v.ownBlock → (v'.ownBlock = v.ownBlock ∨ v'.ownBlock = some w.heap.size) → wpList P ops Q rest (a.put o.dst v') w') : wpList P ops Q (o :: rest) a w := by
  obtain ⟨v', w', hrun, h2, h3, _, h5⟩ := run_append_own_at (P := P) w base t o.type e i z size bytes ht hi hz hsize hby hzs hsz v n xs hown ad 1 c news (by omega) hnews h1 h63 hbytes hbase
  exact wpList_appendT hgd s x t t ho _ _ hs hx hrun (h v' w' h2 h3 h5)

end Go.Proofs.Ytmganbdbihjbmaa

/-
  CONTRACT of the document's join (coterieref11): a node more, its kids' Up written.
-/
set_option linter.unusedVariables false
namespace Go.Proofs.Ytmganbdbihjbmaa
open Go.RowKit

theorem own_someZ {w : World} {base size : Nat} {e : TypeId} {A : Option Addr} {n c : Nat} {xs : List Value} (h : w.ownsRow base e size (.slice A n c) n xs) (hn : 0 < n) : ∃ g, A = some ⟨g, 0, none⟩ := by
  obtain ⟨_, ⟨h, _⟩ | ⟨g, c2, cur, h, _⟩⟩ := h
  · injection h with _ h
    omega
  · injection h with h
    exact ⟨g, h⟩
def upN (l : List RN) (k : Nat) (up : Int) : List RN := l.modify k fun x => { x with up := up }
def upAll (l : List RN) (ks : List Nat) (up : Int) : List RN := ks.foldl (fun l k => upN l k up) l
theorem upN_len (l : List RN) (k : Nat) (up : Int) : (upN l k up).length = l.length := by simp [upN]
theorem upN_set {l : List RN} {k : Nat} {x : RN} (h : l[k]? = some x) (up : Int) : l.set k { x with up := up } = upN l k up := by
  apply List.ext_getElem?
  intro i
  rw [upN, List.getElem?_modify, List.getElem?_set]
  by_cases hi : k = i
  · subst hi
    rw [h]
    have := (List.getElem?_eq_some_iff.1 h).1
    simp [this]
  · simp [hi]
theorem upAll_succ (l : List RN) (ks : List Nat) (up : Int) {j : Nat} (h : j < ks.length) : upAll l (ks.take (j + 1)) up = upN (upAll l (ks.take j) up) ks[j] up := by
  rw [List.take_succ_eq_append_getElem h, upAll, upAll, List.foldl_append]
  rfl
theorem upAll_len (ks : List Nat) (up : Int) : ∀ l : List RN, (upAll l ks up).length = l.length := by
  induction ks with
  | nil => intro l; rfl
  | cons k ks ih => intro l; rw [upAll, List.foldl_cons, ← upAll, ih, upN_len]
def ndZ (lev a : Nat) (red : Bool) : Array Value := #[.int .i64 (lev : Nat), .int .i64 (a : Nat), .bool red, .int .i64 0, .int .i64 0, .slice none 0 0, .int .i64 0]
def JoinPost (base : Nat) (w : World) (v : Value) (ns : List RN) (us : List Value) (q : Value) (x : RN) (e : Ending) (w' : World) : Prop :=
  ∃ v', e = .returned (.tuple #[v', .int .i64 (ns.length : Nat)]) ∧ OwR base w' v' (upAll (ns ++ [x]) x.kids (ns.length : Nat)) (us ++ [q]) ∧ w.grownBy w' v.ownBlock ∧ (v'.ownBlock = v.ownBlock ∨ ∃ y, v'.ownBlock = some y ∧ w.heap.size ≤ y)

theorem add_zeroR (g j : Nat) : (⟨g, 0, none⟩ : Addr).add j = ⟨g, j, none⟩ := by
  simp only [Addr.add]
  split <;> simp_all
theorem rnInfo2 : (Try.prog.info? 57).map (·.size) = some 7 := by kernel_rfl
/-- what is carried while a node is made in a box -/
structure JS (base : Nat) (w wx : World) (gB : Nat) (cs : Array Value) (v : Value) (ns : List RN) (us : List Value) (q : Value) (ks : List Nat) : Prop where
  m : MsB base w wx [(gB, 57, cs)]
  r : OwR base wx v ns us
  k : wx.ownsRow base 3 1 q ks.length (kidV ks)
  g : w.grownBy wx v.ownBlock
  s : wx.heap.size = gB + 1
  e : gB = w.heap.size
  v : ∀ x, v.ownBlock = some x → x < gB
  u : ∀ y ∈ us, ∀ x, y.ownBlock = some x → x < gB
theorem JS.set {base : Nat} {w wx : World} {gB : Nat} {cs : Array Value} {v : Value} {ns : List RN} {us : List Value} {q : Value} {ks : List Nat} (h : JS base w wx gB cs v ns us q ks) (hb : base ≤ gB) (i : Nat) (y : Value) :
    JS base w (wx.setCell ⟨gB, i, none⟩ y) gB (cs.setIfInBounds i y) v ns us q ks := by
  have hg := grown_setCell wx gB i y
  refine ⟨h.m.set hb (by simp) i y, h.r.kept hg ?_ fun z hz => ?_, own_farT h.k hg (h.m.get 0 rfl) nd_ne, h.g.andThen hg (fun j hj => ?_), by simpa using h.s, h.e, h.v, h.u⟩
  · cases e : v.ownBlock with
    | none => exact .inl rfl
    | some x => exact .inr (fun hh => by injection hh with hh; have := h.v x e; omega)
  · cases e : z.ownBlock with
    | none => exact .inl rfl
    | some x => exact .inr (fun hh => by injection hh with hh; have := h.u z hz x e; omega)
  · injection hj with hj
    have := h.e
    exact .inl (by omega)

end Go.Proofs.Ytmganbdbihjbmaa

