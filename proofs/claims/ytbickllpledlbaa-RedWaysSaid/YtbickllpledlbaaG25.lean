import Derived.Test.YtbickllpledlbaaG01
import Derived.Test.YtbickllpledlbaaG24
/-
  NODES IN MEMORY (layer 11): a node's cells; nodes in a row of the call's own, their Kids beside; appended, their Up written; told nodes as lists that are read.
-/
set_option linter.unusedVariables false
namespace Go.Proofs.Ytbickllpledlbaa
open Go.RowKit

/-- a node's cells: its Kids are slice u -/
def rnC (x : RN) (u : Value) : List Value := [.int .i64 (x.lev : Nat), .int .i64 (x.at_ : Nat), .bool x.red, .int .i64 (x.fr : Nat), .int .i64 (x.to : Nat), u, .int .i64 x.up]
theorem rnC_len (x : RN) (u : Value) : (rnC x u).length = 7 := rfl
theorem nodeInfoR : (Try.prog.info? 42).map (fun i => (i.zero, i.size, i.bytes)) = some (some (.agg #[.int .i64 0, .int .i64 0, .bool false, .int .i64 0, .int .i64 0, .slice none 0 0, .int .i64 0]), 7, 72) := by kernel_rfl
theorem nd_ne : (42 : TypeId) ≠ 3 := by decide
def kidV (l : List Nat) : List Value := l.map fun n : Nat => iv (n : Int)
/-- the cells of some nodes, one behind the other -/
def cellsR : List RN → List Value → List Value
  | x :: ns, u :: us => rnC x u ++ cellsR ns us
  | _, _ => []
theorem cellsR_len : ∀ (ns : List RN) (us : List Value), us.length = ns.length → (cellsR ns us).length = ns.length * 7
  | [], [], _ => rfl
  | x :: ns, u :: us, h => by
    rw [cellsR, List.length_append, cellsR_len ns us (by simpa using h), rnC_len, List.length_cons]
    omega
  | [], u :: us, h => by simp at h
  | x :: ns, [], h => by simp at h
theorem cellsR_append : ∀ (ns : List RN) (us : List Value) (ns' : List RN) (us' : List Value), us.length = ns.length → cellsR (ns ++ ns') (us ++ us') = cellsR ns us ++ cellsR ns' us'
  | [], [], _, _, _ => rfl
  | x :: ns, u :: us, ns', us', h => by
    rw [List.cons_append, List.cons_append, cellsR, cellsR, cellsR_append ns us ns' us' (by simpa using h), List.append_assoc]
  | [], u :: us, _, _, h => by simp at h
  | x :: ns, [], _, _, h => by simp at h
theorem cellsR_at : ∀ (ns : List RN) (us : List Value) (k j : Nat) (x : RN) (u : Value), us.length = ns.length → ns[k]? = some x → us[k]? = some u → j < 7 → (cellsR ns us)[k * 7 + j]? = (rnC x u)[j]?
  | [], _, k, j, x, u, _, h, _, _ => by simp at h
  | y :: ns, [], k, j, x, u, h, _, _, _ => by simp at h
  | y :: ns, v :: us, 0, j, x, u, _, hx, hu, hj => by
    simp at hx hu
    subst hx hu
    rw [cellsR, List.getElem?_append_left (by rw [rnC_len]; omega), Nat.zero_mul, Nat.zero_add]
  | y :: ns, v :: us, k + 1, j, x, u, h, hx, hu, hj => by
    rw [cellsR, List.getElem?_append_right (by rw [rnC_len]; omega), rnC_len, show (k + 1) * 7 + j - 7 = k * 7 + j by omega]
    exact cellsR_at ns us k j x u (by simpa using h) (by simpa using hx) (by simpa using hu) hj
theorem cellsR_up : ∀ (ns : List RN) (us : List Value) (k : Nat) (x : RN) (up : Int), us.length = ns.length → ns[k]? = some x → (cellsR ns us).set (k * 7 + 6) (.int .i64 up) = cellsR (ns.set k { x with up := up }) us
  | [], _, k, x, up, _, h => by simp at h
  | y :: ns, [], k, x, up, h, _ => by simp at h
  | y :: ns, v :: us, 0, x, up, _, hx => by
    simp at hx
    subst hx
    rw [cellsR, List.set_cons_zero, cellsR]
    rfl
  | y :: ns, v :: us, k + 1, x, up, h, hx => by
    rw [cellsR, List.set_cons_succ, cellsR, List.set_append_right _ _ (by rw [rnC_len]; omega), rnC_len, show (k + 1) * 7 + 6 - 7 = k * 7 + 6 by omega,
      cellsR_up ns us k x up (by simpa using h) (by simpa using hx)]

/-- nodes in a row of the call's own; us: the heads of their Kids -/
structure OwR (base : Nat) (w : World) (v : Value) (ns : List RN) (us : List Value) : Prop where
  len : us.length = ns.length
  row : w.ownsRow base 42 7 v ns.length (cellsR ns us)
  kids : ∀ (k : Nat) (x : RN) (u : Value), ns[k]? = some x → us[k]? = some u → w.ownsRow base 3 1 u x.kids.length (kidV x.kids)
section
variable {base : Nat} {w w' : World} {v : Value} {ns : List RN} {us : List Value}
theorem OwR.nil (base : Nat) (w : World) : OwR base w (.slice none 0 0) [] [] := ⟨rfl, World.ownsRow_nil _ _ _ _, fun k x u h => by simp at h⟩
theorem OwR.quiet (h : OwR base w v ns us) (hb : Below w.heap.size w w') : OwR base w' v ns us := ⟨h.len, own_below h.row hb, fun k x u hx hu => own_below (h.kids k x u hx hu) hb⟩
theorem OwR.far {g : Nat} {t : TypeId} {cs : Array Value} (h : OwR base w v ns us) (hg : w.grownBy w' (some g)) (hr : RowC w g t cs) (h1 : t ≠ 42) (h2 : t ≠ 3) : OwR base w' v ns us :=
  ⟨h.len, own_farT h.row hg hr h1, fun k x u hx hu => own_farT (h.kids k x u hx hu) hg hr h2⟩
/-- what turns one block that is none of these -/
theorem OwR.kept {row : Option Nat} (h : OwR base w v ns us) (hg : w.grownBy w' row) (h1 : v.ownBlock = none ∨ v.ownBlock ≠ row) (h2 : ∀ u ∈ us, u.ownBlock = none ∨ u.ownBlock ≠ row) : OwR base w' v ns us :=
  ⟨h.len, h.row.kept hg h1, fun k x u hx hu => (h.kids k x u hx hu).kept hg (h2 u (List.mem_of_getElem? hu))⟩
theorem OwR.ltK (h : OwR base w v ns us) {u : Value} (hu : u ∈ us) {g : Nat} (hg : u.ownBlock = some g) : base ≤ g ∧ g < w.heap.size := by
  obtain ⟨k, hk⟩ := List.mem_iff_getElem?.1 hu
  have h1 := (List.getElem?_eq_some_iff.1 hk).1
  exact (h.kids k _ u (List.getElem?_eq_getElem (show k < ns.length by rw [← h.len]; exact h1)) hk).lt g hg
/-- a node more -/
theorem OwR.snoc (h : OwR base w v ns us) {x : RN} {u v' : Value} (hu : w.ownsRow base 3 1 u x.kids.length (kidV x.kids)) (hg : w.grownBy w' v.ownBlock) (hn : w'.ownsRow base 42 7 v' (ns.length + 1) (cellsR ns us ++ rnC x u)) : OwR base w' v' (ns ++ [x]) (us ++ [u]) := by
  have hk : ∀ {q : Value} {n : Nat} {xs : List Value}, w.ownsRow base 3 1 q n xs → w'.ownsRow base 3 1 q n xs := by
    intro q n xs hq
    cases hv : v.ownBlock with
    | none => rw [hv] at hg; exact hq.kept hg (by cases q.ownBlock <;> simp)
    | some g =>
      rw [hv] at hg
      obtain ⟨cs, hr⟩ := own_tyT h.row hv
      exact own_farT hq hg hr nd_ne
  refine ⟨by simp [h.len], by rw [List.length_append, cellsR_append _ _ _ _ h.len]; simpa [cellsR] using hn, fun k y q hy hq => ?_⟩
  rcases Nat.lt_or_ge k ns.length with hlt | hge
  · rw [List.getElem?_append_left hlt] at hy
    rw [List.getElem?_append_left (by rw [h.len]; exact hlt)] at hq
    exact hk (h.kids k y q hy hq)
  · have hke : k = ns.length := by
      have := (List.getElem?_eq_some_iff.1 hy).1
      simp at this
      omega
    subst hke
    rw [List.getElem?_append_right (Nat.le_refl _), Nat.sub_self] at hy
    rw [← h.len, List.getElem?_append_right (Nat.le_refl _), Nat.sub_self] at hq
    simp at hy hq
    subst hy hq
    exact hk hu
/-- an Up is written -/
theorem OwR.up {g c : Nat} (h : OwR base w (.slice (some ⟨g, 0, none⟩) ns.length c) ns us) {k : Nat} {x : RN} (hx : ns[k]? = some x) (up : Int) : OwR base (w.setCell ⟨g, k * 7 + 6, none⟩ (.int .i64 up)) (.slice (some ⟨g, 0, none⟩) ns.length c) (ns.set k { x with up := up }) us := by
  obtain ⟨s1, s2⟩ := h.row.stored (k * 7 + 6) (.int .i64 up)
  rw [cellsR_up _ _ _ _ _ h.len hx] at s1
  obtain ⟨cs, hr⟩ := own_tyT h.row (g := g) rfl
  refine ⟨by rw [List.length_set]; exact h.len, by rw [List.length_set]; exact s1, fun i y u hy hu => ?_⟩
  rcases get_setT hy with ⟨rfl, rfl, hlt⟩ | ⟨hne, hy⟩
  · exact own_farT (h.kids i x u hx hu) s2 hr nd_ne
  · exact own_farT (h.kids i y u hy hu) s2 hr nd_ne
/-- a node's cells are read -/
theorem OwR.cell {g c : Nat} (h : OwR base w (.slice (some ⟨g, 0, none⟩) ns.length c) ns us) {k j : Nat} {x : RN} {u : Value} (hx : ns[k]? = some x) (hu : us[k]? = some u) (hj : j < 7) : w.cell? ⟨g, k * 7 + j, none⟩ = (rnC x u)[j]? := by
  have hk := (List.getElem?_eq_some_iff.1 hx).1
  rw [h.row.cellAt (k * 7 + j) (by omega), cellsR_at _ _ _ _ _ _ h.len hx hu hj]
theorem OwR.get_u (h : OwR base w v ns us) {k : Nat} (hk : k < ns.length) : ∃ u, us[k]? = some u := ⟨_, List.getElem?_eq_getElem (by rw [h.len]; exact hk)⟩
end

/-- append of one struct onto a row of the call's own, in a region -/
theorem wpList_append_node {P : Program} {w : World} {ops : Array Oper} {rest : List Oper} {o : Oper} {a : Act} {Q : Exit → Act → World → Prop} (hgd : Region.wanted o (yielded ops a.tmps) = true) (s x : Operand) (t : TypeId)
    (ho : o.op = .call { callee := .builtin .append, args := #[s, x], argTypes := #[t, t] })
    (base : Nat) (e : TypeId) (i : TypeInfo) (z : Value) (size bytes : Nat) (ht : P.underlying t = some (.slice e)) (hi : P.info? e = some i) (hz : i.zero = some z)
    (hsize : i.size = size) (hby : i.bytes = bytes) (hzs : z.cells.size = size) (hsz : 0 < size)
    (v : Value) (n : Nat) (xs : List Value) (hs : a.eval s = v) (hown : w.ownsRow base e size v n xs)
    (ad : Addr) (c : Nat) (news : List Value) (hx : a.eval x = .slice (some ad) 1 c) (hl : news.length = size) (hnews : ∀ j u, news[j]? = some u → w.cell? (ad.add j) = some u) (h1 : ∀ u ∈ news, u.oneCell' = true)
    (h63 : n + 1 ≤ maxLen) (hbytes : (n + 1) * bytes ≤ 140737488355328) (hbase : base ≤ w.heap.size)
    (h : ∀ v' w', w'.ownsRow base e size v' (n + 1) (xs ++ news) → w.grownBy w' v.ownBlock → (v'.ownBlock = v.ownBlock ∨ v'.ownBlock = some w.heap.size) → wpList P ops Q rest (a.put o.dst v') w') : wpList P ops Q (o :: rest) a w := by
  obtain ⟨v', w', hrun, h2, h3, _, h5⟩ := run_append_own_at (P := P) w base t o.type e i z size bytes ht hi hz hsize hby hzs hsz v n xs hown ad 1 c news (by omega) hnews h1 h63 hbytes hbase
  exact wpList_appendT hgd s x t t ho _ _ hs hx hrun (h v' w' h2 h3 h5)

end Go.Proofs.Ytbickllpledlbaa

/-
  CONTRACT of the document's join (coterieref11): a node more, its kids' Up written.
-/
set_option linter.unusedVariables false
namespace Go.Proofs.Ytbickllpledlbaa
open Go.RowKit

theorem own_someZ {w : World} {base size : Nat} {e : TypeId} {A : Option Addr} {n c : Nat} {xs : List Value} (h : w.ownsRow base e size (.slice A n c) n xs) (hn : 0 < n) : ∃ g, A = some ⟨g, 0, none⟩ := by
  obtain ⟨_, ⟨h, _⟩ | ⟨g, c2, cur, h, _⟩⟩ := h
  · injection h with _ h
    omega
  · injection h with h
    exact ⟨g, h⟩
def upN (l : List RN) (k : Nat) (up : Int) : List RN := l.modify k fun x => { x with up := up }
def upAll (l : List RN) (ks : List Nat) (up : Int) : List RN := ks.foldl (fun l k => upN l k up) l
theorem upN_len (l : List RN) (k : Nat) (up : Int) : (upN l k up).length = l.length := by simp [upN]
theorem upN_set {l : List RN} {k : Nat} {x : RN} (h : l[k]? = some x) (up : Int) : l.set k { x with up := up } = upN l k up := by
  apply List.ext_getElem?
  intro i
  rw [upN, List.getElem?_modify, List.getElem?_set]
  by_cases hi : k = i
  · subst hi
    rw [h]
    have := (List.getElem?_eq_some_iff.1 h).1
    simp [this]
  · simp [hi]
theorem upAll_succ (l : List RN) (ks : List Nat) (up : Int) {j : Nat} (h : j < ks.length) : upAll l (ks.take (j + 1)) up = upN (upAll l (ks.take j) up) ks[j] up := by
  rw [List.take_succ_eq_append_getElem h, upAll, upAll, List.foldl_append]
  rfl
theorem upAll_len (ks : List Nat) (up : Int) : ∀ l : List RN, (upAll l ks up).length = l.length := by
  induction ks with
  | nil => intro l; rfl
  | cons k ks ih => intro l; rw [upAll, List.foldl_cons, ← upAll, ih, upN_len]
def ndZ (lev a : Nat) (red : Bool) : Array Value := #[.int .i64 (lev : Nat), .int .i64 (a : Nat), .bool red, .int .i64 0, .int .i64 0, .slice none 0 0, .int .i64 0]
def JoinPost (base : Nat) (w : World) (v : Value) (ns : List RN) (us : List Value) (q : Value) (x : RN) (e : Ending) (w' : World) : Prop :=
  ∃ v', e = .returned (.tuple #[v', .int .i64 (ns.length : Nat)]) ∧ OwR base w' v' (upAll (ns ++ [x]) x.kids (ns.length : Nat)) (us ++ [q]) ∧ w.grownBy w' v.ownBlock ∧ (v'.ownBlock = v.ownBlock ∨ ∃ y, v'.ownBlock = some y ∧ w.heap.size ≤ y)

theorem add_zeroR (g j : Nat) : (⟨g, 0, none⟩ : Addr).add j = ⟨g, j, none⟩ := by
  simp only [Addr.add]
  split <;> simp_all
theorem rnInfo2 : (Try.prog.info? 42).map (·.size) = some 7 := by kernel_rfl
/-- what is carried while a node is made in a box -/
structure JS (base : Nat) (w wx : World) (gB : Nat) (cs : Array Value) (v : Value) (ns : List RN) (us : List Value) (q : Value) (ks : List Nat) : Prop where
  m : MsB base w wx [(gB, 42, cs)]
  r : OwR base wx v ns us
  k : wx.ownsRow base 3 1 q ks.length (kidV ks)
  g : w.grownBy wx v.ownBlock
  s : wx.heap.size = gB + 1
  e : gB = w.heap.size
  v : ∀ x, v.ownBlock = some x → x < gB
  u : ∀ y ∈ us, ∀ x, y.ownBlock = some x → x < gB
theorem JS.set {base : Nat} {w wx : World} {gB : Nat} {cs : Array Value} {v : Value} {ns : List RN} {us : List Value} {q : Value} {ks : List Nat} (h : JS base w wx gB cs v ns us q ks) (hb : base ≤ gB) (i : Nat) (y : Value) :
    JS base w (wx.setCell ⟨gB, i, none⟩ y) gB (cs.setIfInBounds i y) v ns us q ks := by
  have hg := grown_setCell wx gB i y
  refine ⟨h.m.set hb (by simp) i y, h.r.kept hg ?_ fun z hz => ?_, own_farT h.k hg (h.m.get 0 rfl) nd_ne, h.g.andThen hg (fun j hj => ?_), by simpa using h.s, h.e, h.v, h.u⟩
  · cases e : v.ownBlock with
    | none => exact .inl rfl
    | some x => exact .inr (fun hh => by injection hh with hh; have := h.v x e; omega)
  · cases e : z.ownBlock with
    | none => exact .inl rfl
    | some x => exact .inr (fun hh => by injection hh with hh; have := h.u z hz x e; omega)
  · injection hj with hj
    have := h.e
    exact .inl (by omega)

set_option maxRecDepth 100000 in
set_option maxHeartbeats 4000000 in
theorem Join_any (base : Nat) (v : Value) (ns : List RN) (us : List Value) (lev a : Nat) (red : Bool) (gk ck : Nat) (ks : List Nat) (xf xt : RN) (w : World) (hb : base ≤ w.heap.size) (h : OwR base w v ns us)
    (hk : w.ownsRow base 3 1 (.slice (some ⟨gk, 0, none⟩) ks.length ck) ks.length (kidV ks)) (hlt : ∀ k ∈ ks, k < ns.length) (h0 : 0 < ks.length) (h3 : ks.length ≤ 3) (hn : ns.length ≤ 100000) (hf : ns[ks[0]]? = some xf) (ht : ns[ks[ks.length - 1]]? = some xt) :
    Calls Try.prog 42 #[v, .agg (ndZ lev a red), .slice (some ⟨gk, 0, none⟩) ks.length ck] w (JoinPost base w v ns us (.slice (some ⟨gk, 0, none⟩) ks.length ck) ⟨lev, a, red, xf.fr, xt.to, ks, -1⟩) := by
  obtain ⟨Av, cv, rfl, hcv, hmv⟩ := own_formT h.row
  have hn0 : 0 < ns.length := by have := hlt _ (List.getElem_mem h0); omega
  obtain ⟨g, rfl⟩ := own_someZ h.row hn0
  obtain ⟨uf, huf⟩ := h.get_u (k := ks[0]) (hlt _ (List.getElem_mem h0))
  obtain ⟨ut, hut⟩ := h.get_u (k := ks[ks.length - 1]) (hlt _ (List.getElem_mem _))
  have hJ0 : JS base w (w.alloc (.cells (ndZ lev a red) 42)) w.heap.size (ndZ lev a red) (.slice (some ⟨g, 0, none⟩) ns.length cv) ns us (.slice (some ⟨gk, 0, none⟩) ks.length ck) ks :=
    ⟨MsB.of ((Ms.nil w).box 42 (ndZ lev a red)) hb, h.quiet (d_al w _), own_below hk (d_al w _), World.grownBy_alloc w _ _, by simp, rfl, fun x hx => own_ltT h.row x hx, fun y hy x hx => (h.ltK hy hx).2⟩
  obtain ⟨k0, hk0⟩ : ∃ k0, k0 = ks[0] := ⟨_, rfl⟩
  obtain ⟨k1, hk1⟩ : ∃ k1, k1 = ks[ks.length - 1] := ⟨_, rfl⟩
  have hlt0 := hlt _ (List.getElem_mem h0)
  have hlt1 := hlt _ (List.getElem_mem (show ks.length - 1 < ks.length by omega))
  have e0 : (kidV ks)[0]? = some (.int .i64 (k0 : Nat)) := by rw [kidV, List.getElem?_map, List.getElem?_eq_getElem h0, hk0]; rfl
  have e1 : (kidV ks)[ks.length - 1]? = some (.int .i64 (k1 : Nat)) := by rw [kidV, List.getElem?_map, List.getElem?_eq_getElem (show ks.length - 1 < ks.length by omega), hk1]; rfl
  rw [← hk0] at hf huf hlt0
  rw [← hk1] at ht hut hlt1
  clear hk0 hk1
  obtain ⟨gB, hgB⟩ : ∃ gB, gB = w.heap.size := ⟨_, rfl⟩
  have Hpost := Lib.hid (show ∀ v' w', OwR base w' v' (upAll (ns ++ [⟨lev, a, red, xf.fr, xt.to, ks, -1⟩]) ks (ns.length : Nat)) (us ++ [.slice (some ⟨gk, 0, none⟩) ks.length ck]) → w.grownBy w' (some g) → (v'.ownBlock = some g ∨ ∃ y, v'.ownBlock = some y ∧ w.heap.size ≤ y) → JoinPost base w (.slice (some ⟨g, 0, none⟩) ns.length cv) ns us (.slice (some ⟨gk, 0, none⟩) ks.length ck) ⟨lev, a, red, xf.fr, xt.to, ks, -1⟩ (.returned (.tuple #[v', .int .i64 (ns.length : Nat)])) w' from fun v' w' q1 q2 q3 => ⟨v', rfl, q1, q2, q3⟩)
  generalize JoinPost base w (.slice (some ⟨g, 0, none⟩) ns.length cv) ns us (.slice (some ⟨gk, 0, none⟩) ks.length ck) ⟨lev, a, red, xf.fr, xt.to, ks, -1⟩ = PO at *
  rw [← hgB] at hJ0 hb
  have Hlt := Lib.hid hlt
  clear hlt h hk
  unfold maxLen at hmv
  go_enter Try.func42, Try.ntmps42
  go_upto_region 1 with fail
  try simp only [Act.put]
  rw [← hgB]
  have HgB := Lib.hid hgB
  clear hgB
  refine wp_gen (fun wx => JS base w wx gB (ndZ lev a red) (.slice (some ⟨g, 0, none⟩) ns.length cv) ns us (.slice (some ⟨gk, 0, none⟩) ks.length ck) ks) hJ0 ?_
  clear hJ0
  rintro w1 hJ
  have c5 := (hJ.m.get 0 rfl).cell (i := 5) (v := .slice none 0 0) rfl
  have f5 := (hJ.m.get 0 rfl).frozen 5
  go_upto_region 2 with fail
  try simp only [Act.put]
  refine wp_gen (fun wx => JS base w wx gB #[.int .i64 (lev : Nat), .int .i64 (a : Nat), .bool red, .int .i64 0, .int .i64 0, .slice (some ⟨gk, 0, none⟩) ks.length ck, .int .i64 0] (.slice (some ⟨g, 0, none⟩) ns.length cv) ns us (.slice (some ⟨gk, 0, none⟩) ks.length ck) ks) (hJ.set hb 5 _) ?_
  clear hJ c5 f5
  rintro w2 hJ
  have c3 := (hJ.m.get 0 rfl).cell (i := 3) (v := .int .i64 0) rfl
  have f3 := (hJ.m.get 0 rfl).frozen 3
  have d0 := hJ.k.cellAt 0 (by omega)
  rw [e0] at d0
  have dn := hJ.r.cell hf huf (j := 3) (by omega)
  rw [show (rnC xf uf)[3]? = some (.int .i64 (xf.fr : Nat)) from rfl] at dn
  have z0 : (k0 : Int) < (ns.length : Int) := by omega
  have z1 : (0 : Int) < (ks.length : Int) := by omega
  go_upto_region 3 with fail
  try simp only [Act.put]
  refine wp_gen (fun wx => JS base w wx gB #[.int .i64 (lev : Nat), .int .i64 (a : Nat), .bool red, .int .i64 (xf.fr : Nat), .int .i64 0, .slice (some ⟨gk, 0, none⟩) ks.length ck, .int .i64 0] (.slice (some ⟨g, 0, none⟩) ns.length cv) ns us (.slice (some ⟨gk, 0, none⟩) ks.length ck) ks) (hJ.set hb 3 _) ?_
  clear hJ c3 f3 d0 dn z0 z1
  rintro w3 hJ
  have c4 := (hJ.m.get 0 rfl).cell (i := 4) (v := .int .i64 0) rfl
  have f4 := (hJ.m.get 0 rfl).frozen 4
  have d1 := hJ.k.cellAt (ks.length - 1) (by omega)
  rw [e1] at d1
  have dn := hJ.r.cell ht hut (j := 4) (by omega)
  rw [show (rnC xt ut)[4]? = some (.int .i64 (xt.to : Nat)) from rfl] at dn
  have z0 : (k1 : Int) < (ns.length : Int) := by omega
  have z1 : ((ks.length - 1 : Nat) : Int) < (ks.length : Int) := by omega
  have z2 : IntKind.i64.wrap ((ks.length : Int) - 1) = ((ks.length - 1 : Nat) : Int) := by rw [IntKind.wrap_i64]; omega
  go_upto_region 4 with fail
  try simp only [Act.put]
  refine wp_gen (fun wx => JS base w wx gB #[.int .i64 (lev : Nat), .int .i64 (a : Nat), .bool red, .int .i64 (xf.fr : Nat), .int .i64 (xt.to : Nat), .slice (some ⟨gk, 0, none⟩) ks.length ck, .int .i64 0] (.slice (some ⟨g, 0, none⟩) ns.length cv) ns us (.slice (some ⟨gk, 0, none⟩) ks.length ck) ks) (hJ.set hb 4 _) ?_
  clear hJ c4 f4 d1 dn z0 z1 z2
  rintro w4 hJ
  have c6 := (hJ.m.get 0 rfl).cell (i := 6) (v := .int .i64 0) rfl
  have f6 := (hJ.m.get 0 rfl).frozen 6
  go_upto_region 5 with fail
  try simp only [Act.put]
  refine wp_gen (fun wx => JS base w wx gB #[.int .i64 (lev : Nat), .int .i64 (a : Nat), .bool red, .int .i64 (xf.fr : Nat), .int .i64 (xt.to : Nat), .slice (some ⟨gk, 0, none⟩) ks.length ck, .int .i64 (-1)] (.slice (some ⟨g, 0, none⟩) ns.length cv) ns us (.slice (some ⟨gk, 0, none⟩) ks.length ck) ks) (hJ.set hb 6 _) ?_
  clear hJ c6 f6
  rintro w5 hJ
  go_upto_region 6 with fail
  try simp only [Act.put]
  have hal := d_al w5 (.cells #[.int .i64 (lev : Nat), .int .i64 (a : Nat), .bool red, .int .i64 (xf.fr : Nat), .int .i64 (xt.to : Nat), .slice (some ⟨gk, 0, none⟩) ks.length ck, .int .i64 (-1)] 42)
  have hr6 := hJ.r.quiet hal
  have hk6 := own_below hJ.k hal
  have hrw : RowC (w5.alloc (.cells #[.int .i64 (lev : Nat), .int .i64 (a : Nat), .bool red, .int .i64 (xf.fr : Nat), .int .i64 (xt.to : Nat), .slice (some ⟨gk, 0, none⟩) ks.length ck, .int .i64 (-1)] 42)) w5.heap.size 42 #[.int .i64 (lev : Nat), .int .i64 (a : Nat), .bool red, .int .i64 (xf.fr : Nat), .int .i64 (xt.to : Nat), .slice (some ⟨gk, 0, none⟩) ks.length ck, .int .i64 (-1)] := RowC.new _ _ _
  have hs6 : (w5.alloc (.cells #[.int .i64 (lev : Nat), .int .i64 (a : Nat), .bool red, .int .i64 (xf.fr : Nat), .int .i64 (xt.to : Nat), .slice (some ⟨gk, 0, none⟩) ks.length ck, .int .i64 (-1)] 42)).heap.size = gB + 1 + 1 := by rw [World.size_alloc, hJ.s]
  have hg6 : w.grownBy (w5.alloc (.cells #[.int .i64 (lev : Nat), .int .i64 (a : Nat), .bool red, .int .i64 (xf.fr : Nat), .int .i64 (xt.to : Nat), .slice (some ⟨gk, 0, none⟩) ks.length ck, .int .i64 (-1)] 42)) (some g) := hJ.g.andThen (World.grownBy_alloc w5 _ none) (by simp)
  obtain ⟨i0, hi0, hz0, hz1, hz2⟩ := info_parts nodeInfoR
  go_upto_region 7 with (first
    | ((with_reducible show wpList _ _ _ (⟨some 36, _, _, _, _, _⟩ :: _) _ _); refine wpList_loadC (by kernel_rfl) 42 (.tmp 4) rfl gB rfl 42 #[.int .i64 (lev : Nat), .int .i64 (a : Nat), .bool red, .int .i64 (xf.fr : Nat), .int .i64 (xt.to : Nat), .slice (some ⟨gk, 0, none⟩) ks.length ck, .int .i64 (-1)] _ (hJ.m.get 0 rfl) Try.underlying42 rfl rnInfo2 ?_)
    | (at_builtin; refine wpList_append_node (by kernel_rfl) (.tmp 35) (.tmp 37) 28 rfl base 42 i0 _ 7 72 Try.underlying28 hi0 hz0 hz1 hz2 rfl (by omega) (.slice (some ⟨g, 0, none⟩) ns.length cv) ns.length (cellsR ns us) rfl hr6.row ⟨w5.heap.size, 0, none⟩ 1 [.int .i64 (lev : Nat), .int .i64 (a : Nat), .bool red, .int .i64 (xf.fr : Nat), .int .i64 (xt.to : Nat), .slice (some ⟨gk, 0, none⟩) ks.length ck, .int .i64 (-1)] rfl rfl (fun j u hu => by rw [add_zeroR]; exact hrw.cell (by simpa using hu)) (by simp [Value.oneCell']) (by unfold maxLen; omega) (by omega) (by omega) ?_; intro v6 w6 hown6 hgr6 hat6))
  try simp only [Act.put]
  have hn6 := hr6.snoc (x := ⟨lev, a, red, xf.fr, xt.to, ks, -1⟩) hk6 hgr6 hown6
  obtain ⟨cur, hcur⟩ := own_tyT hr6.row (g := g) rfl
  have hk7 := own_farT hk6 hgr6 hcur nd_ne
  have hg7 : w.grownBy w6 (some g) := hg6.trans hgr6
  obtain ⟨A6, c6, rfl, hc6, hm6⟩ := own_formT hown6
  obtain ⟨g6, rfl⟩ := own_someZ hown6 (by omega)
  rw [hs6] at hat6
  have hat : g6 = g ∨ w.heap.size ≤ g6 := by
    rcases hat6 with h | h
    · exact .inl (Option.some.inj h)
    · have h : g6 = gB + 1 + 1 := Option.some.inj h
      have := HgB.out
      exact .inr (by omega)
  have hsn : (ns ++ [(⟨lev, a, red, xf.fr, xt.to, ks, -1⟩ : RN)]).length = ns.length + 1 := by simp
  generalize us ++ [.slice (some ⟨gk, 0, none⟩) ks.length ck] = us6 at *
  have Hold := Lib.hid (show ∀ k ∈ ks, ∃ x, (ns ++ [(⟨lev, a, red, xf.fr, xt.to, ks, -1⟩ : RN)])[k]? = some x from fun k hk => ⟨_, List.getElem?_eq_getElem (by rw [hsn]; have := Hlt.out k hk; omega)⟩)
  generalize hNS : ns ++ [(⟨lev, a, red, xf.fr, xt.to, ks, -1⟩ : RN)] = NS at *
  have Hsn := Lib.hid hsn
  clear hNS hsn hown6 hgr6 hat6 hg6 hr6 hk6 hrw hs6 hal hJ hf ht huf hut e0 e1 hlt0 hlt1 hcur hi0 hz0 hz1 hz2
  unfold maxLen at hm6
  go_wp2_with fail
  go_loopw [10, 41] (fun v10 v41 wr => ∃ j : Nat, j ≤ ks.length ∧ v41 = .int .i64 (j : Int) ∧ OwR base wr (.slice (some ⟨g6, 0, none⟩) (ns.length + 1) c6) (upAll NS (ks.take j) (ns.length : Nat)) us6 ∧
    wr.ownsRow base 3 1 (.slice (some ⟨gk, 0, none⟩) ks.length ck) ks.length (kidV ks) ∧ w.grownBy wr (some g)) (fun _ v41 _ => ks.length - (intOf v41).toNat)
  case atStart => exact ⟨0, by omega, rfl, hn6, hk7, hg7⟩
  case round =>
    clear hn6 hk7 hg7
    obtain ⟨j, hj, rfl, hr, hk, hg⟩ := hrel
    by_cases hjn : j < ks.length
    · obtain ⟨kj, hkj⟩ : ∃ kj, kj = ks[j] := ⟨_, rfl⟩
      have hmem : kj ∈ ks := by rw [hkj]; exact List.getElem_mem hjn
      have hltj := Hlt.out kj hmem
      have d0 := hk.cellAt j (by omega)
      rw [kidV, List.getElem?_map, List.getElem?_eq_getElem hjn, ← hkj] at d0
      change wr.cell? ⟨gk, j, none⟩ = some (.int .i64 (kj : Nat)) at d0
      obtain ⟨L, hL⟩ : ∃ L, L = upAll NS (ks.take j) (ns.length : Nat) := ⟨_, rfl⟩
      have hLl : L.length = ns.length + 1 := by rw [hL, upAll_len]; exact Hsn.out
      have hL2 : upAll NS (ks.take (j + 1)) (ns.length : Nat) = upN L kj (ns.length : Nat) := by rw [upAll_succ _ _ _ hjn, ← hL, ← hkj]
      rw [← hL] at hr
      have HL2 := Lib.hid hL2
      clear hL hL2
      obtain ⟨x, hx⟩ : ∃ x, L[kj]? = some x := ⟨_, List.getElem?_eq_getElem (by omega)⟩
      rw [← hLl] at hr
      obtain ⟨u, hu⟩ := hr.get_u (k := kj) (by omega)
      have c6' := hr.cell hx hu (j := 6) (by omega)
      rw [show (rnC x u)[6]? = some (.int .i64 x.up) from rfl] at c6'
      have f6 := hr.row.frozenAt (kj * 7 + 6)
      have hr2 := hr.up hx (ns.length : Nat)
      rw [upN_set hx, hLl, ← HL2.out] at hr2
      obtain ⟨_, s2⟩ := hr.row.stored (kj * 7 + 6) (.int .i64 (ns.length : Nat))
      obtain ⟨cur, hcur⟩ := own_tyT hr.row (g := g6) rfl
      have hk2 := own_farT hk s2 hcur nd_ne
      have hg2 := hg.andThen s2 (fun y hy => by
        injection hy with hy
        rcases hat with h | h
        · exact .inr (by rw [← h, hy])
        · exact .inl (by omega))
      have z0 : (kj : Int) < (ns.length : Int) + 1 := by omega
      have z1 : (j : Int) < (ks.length : Int) := by omega
      clear hr hk hg hkj hx hu s2 hcur
      go_wp2_with fail
      go_roundw
      case rel => exact ⟨j + 1, by omega, by go_num, hr2, hk2, hg2⟩
      case measure => simp [intOf]; omega
    · obtain rfl : j = ks.length := by omega
      rw [List.take_length] at hr
      go_wp2_with fail
      (first | refine Hpost.out _ _ hr hg ?_ | refine bodyPost_ret (results_tmp2 rfl _ _ _) rfl (Hpost.out _ _ hr hg ?_))
      rcases hat with h | h
      · exact .inl (by rw [h]; rfl)
      · exact .inr ⟨g6, rfl, by have := HgB.out; omega⟩

end Go.Proofs.Ytbickllpledlbaa

