import Derived.Test.YtmganbdbihjbmaaK04
import Derived.Test.YtmganbdbihjbmaaK09
import Derived.Maps.AppendAt
import Derived.Test.YtmganbdbihjbmaaK08
/-
  NODES IN MEMORY: what a node's kids read, lists of nodes, and appending nodes.
-/
set_option linter.unusedVariables false
namespace Go.Proofs.Ytmganbdbihjbmaa
open Go.RowKit

/-- nodes' cells: of each its number, and what is below -/
def flatV : List Nd → List Value → List Value
  | x :: F, v :: vs => iv x.id :: v :: flatV F vs
  | _, _ => []
/-- what a node has below, as a value -/
def NdV (w : World) (B : Nat) : Nd → Value → Prop
  | .leaf _, v => v = .slice none 0 0
  | .one a, v => ∃ A c x, v = .slice A 1 c ∧ 1 ≤ c ∧ c ≤ maxLen ∧ Rd w B A 2 (flatV [a] [x]) ∧ NdV w B a x
  | .two a b, v => ∃ A c x y, v = .slice A 2 c ∧ 2 ≤ c ∧ c ≤ maxLen ∧ Rd w B A 4 (flatV [a, b] [x, y]) ∧ NdV w B a x ∧ NdV w B b y
  | .three a b d, v => ∃ A c x y z, v = .slice A 3 c ∧ 3 ≤ c ∧ c ≤ maxLen ∧ Rd w B A 6 (flatV [a, b, d] [x, y, z]) ∧ NdV w B a x ∧ NdV w B b y ∧ NdV w B d z
def NdL (w : World) (B : Nat) : List Nd → List Value → Prop
  | [], [] => True
  | x :: F, v :: vs => NdV w B x v ∧ NdL w B F vs
  | _, _ => False
/-- a slice of nodes -/
def SlN (w : World) (B : Nat) (A : Option Addr) (n c : Nat) (F : List Nd) : Prop :=
  F.length = n ∧ n ≤ c ∧ c ≤ maxLen ∧ ∃ vs, NdL w B F vs ∧ Rd w B A (2 * n) (flatV F vs)

theorem NdV.keep {w w' : World} {B B' : Nat} (hk : ∀ (A : Option Addr) (n : Nat) (xs : List Value), Rd w B A n xs → Rd w' B' A n xs) : ∀ (x : Nd) (v : Value), NdV w B x v → NdV w' B' x v
  | .leaf _, v, h => h
  | .one a, v, ⟨A, c, x, h1, h2, h3, h4, h5⟩ => ⟨A, c, x, h1, h2, h3, hk _ _ _ h4, NdV.keep hk a x h5⟩
  | .two a b, v, ⟨A, c, x, y, h1, h2, h3, h4, h5, h6⟩ => ⟨A, c, x, y, h1, h2, h3, hk _ _ _ h4, NdV.keep hk a x h5, NdV.keep hk b y h6⟩
  | .three a b d, v, ⟨A, c, x, y, z, h1, h2, h3, h4, h5, h6, h7⟩ => ⟨A, c, x, y, z, h1, h2, h3, hk _ _ _ h4, NdV.keep hk a x h5, NdV.keep hk b y h6, NdV.keep hk d z h7⟩
theorem NdL.keep {w w' : World} {B B' : Nat} (hk : ∀ (A : Option Addr) (n : Nat) (xs : List Value), Rd w B A n xs → Rd w' B' A n xs) : ∀ (F : List Nd) (vs : List Value), NdL w B F vs → NdL w' B' F vs
  | [], [], _ => trivial
  | x :: F, v :: vs, ⟨h1, h2⟩ => ⟨NdV.keep hk x v h1, NdL.keep hk F vs h2⟩
theorem SlN.keep {w w' : World} {B B' : Nat} (hk : ∀ (A : Option Addr) (n : Nat) (xs : List Value), Rd w B A n xs → Rd w' B' A n xs) {A : Option Addr} {n c : Nat} {F : List Nd} (h : SlN w B A n c F) : SlN w' B' A n c F := by
  obtain ⟨h1, h2, h3, vs, h4, h5⟩ := h
  exact ⟨h1, h2, h3, vs, NdL.keep hk F vs h4, hk _ _ _ h5⟩
theorem SlN.below {w w' : World} {B : Nat} {A : Option Addr} {n c : Nat} {F : List Nd} (h : SlN w B A n c F) (hb : Below B w w') : SlN w' B A n c F := h.keep fun _ _ _ hr => hr.below hb
theorem SlN.more {w : World} {B B' : Nat} {A : Option Addr} {n c : Nat} {F : List Nd} (h : SlN w B A n c F) (hb : B ≤ B') : SlN w B' A n c F := h.keep fun _ _ _ hr => hr.more hb
theorem SlN.alloc {w : World} {B : Nat} {A : Option Addr} {n c : Nat} {F : List Nd} (h : SlN w B A n c F) (hB : B ≤ w.heap.size) (o : Obj) : SlN (w.alloc o) B A n c F := h.keep fun _ _ _ hr => hr.alloc hB o
theorem SlN.grown {w w' : World} {B : Nat} {A : Option Addr} {n c : Nat} {F : List Nd} {row : Option Nat} (h : SlN w B A n c F) (hg : w.grownBy w' row) (hB : B ≤ w.heap.size) (hr : ∀ g, row = some g → B ≤ g) : SlN w' B A n c F := h.keep fun _ _ _ h => h.grown hg hB hr
theorem SlN.drew {w : World} {B : Nat} {A : Option Addr} {n c : Nat} {F : List Nd} (h : SlN w B A n c F) : SlN w.drew B A n c F := h.keep fun _ _ _ hr => hr.drew
theorem SlN.zero (w : World) (B : Nat) : SlN w B none 0 0 [] := ⟨rfl, Nat.le_refl _, by simp [maxLen], [], trivial, Rd.zero _ _ _⟩
theorem NdV.below {w w' : World} {B : Nat} {x : Nd} {v : Value} (h : NdV w B x v) (hb : Below B w w') : NdV w' B x v := NdV.keep (fun _ _ _ hr => hr.below hb) x v h
theorem NdV.more {w : World} {B B' : Nat} {x : Nd} {v : Value} (h : NdV w B x v) (hb : B ≤ B') : NdV w B' x v := NdV.keep (fun _ _ _ hr => hr.more hb) x v h
theorem NdV.alloc {w : World} {B : Nat} {x : Nd} {v : Value} (h : NdV w B x v) (hB : B ≤ w.heap.size) (o : Obj) : NdV (w.alloc o) B x v := NdV.keep (fun _ _ _ hr => hr.alloc hB o) x v h

theorem NdL.len {w : World} {B : Nat} : ∀ {F : List Nd} {vs : List Value}, NdL w B F vs → vs.length = F.length
  | [], [], _ => rfl
  | x :: F, v :: vs, ⟨_, h⟩ => by rw [List.length_cons, List.length_cons, NdL.len h]
theorem flatV_len : ∀ {F : List Nd} {vs : List Value}, vs.length = F.length → (flatV F vs).length = 2 * F.length
  | [], [], _ => rfl
  | x :: F, v :: vs, h => by
    rw [flatV, List.length_cons, List.length_cons, flatV_len (by simpa using h), List.length_cons]
    omega
theorem flatV_app : ∀ {F G : List Nd} {vs us : List Value}, vs.length = F.length → flatV (F ++ G) (vs ++ us) = flatV F vs ++ flatV G us
  | [], G, [], us, _ => rfl
  | x :: F, G, v :: vs, us, h => by
    rw [List.cons_append, List.cons_append, flatV, flatV_app (by simpa using h), flatV]
    rfl
theorem NdL.app {w : World} {B : Nat} : ∀ {F G : List Nd} {vs us : List Value}, NdL w B F vs → NdL w B G us → NdL w B (F ++ G) (vs ++ us)
  | [], G, [], us, _, h => h
  | x :: F, G, v :: vs, us, ⟨h1, h2⟩, h => ⟨h1, NdL.app h2 h⟩
theorem NdL.split {w : World} {B : Nat} : ∀ {F G : List Nd} {vs : List Value}, NdL w B (F ++ G) vs → NdL w B F (vs.take F.length) ∧ NdL w B G (vs.drop F.length)
  | [], G, vs, h => ⟨by simp [NdL], by simpa using h⟩
  | x :: F, G, v :: vs, ⟨h1, h2⟩ => by
    obtain ⟨r1, r2⟩ := NdL.split h2
    exact ⟨⟨h1, r1⟩, r2⟩
theorem flatV_take : ∀ {F : List Nd} {vs : List Value} (k : Nat), vs.length = F.length → (flatV F vs).take (2 * k) = flatV (F.take k) (vs.take k)
  | [], [], k, _ => by simp [flatV]
  | x :: F, v :: vs, 0, h => by simp [flatV]
  | x :: F, v :: vs, k + 1, h => by
    rw [show 2 * (k + 1) = 2 * k + 1 + 1 by omega, flatV, List.take_succ_cons, List.take_succ_cons, flatV_take k (by simpa using h)]
    rfl
theorem flatV_drop : ∀ {F : List Nd} {vs : List Value} (k : Nat), vs.length = F.length → (flatV F vs).drop (2 * k) = flatV (F.drop k) (vs.drop k)
  | [], [], k, _ => by simp [flatV]
  | x :: F, v :: vs, 0, h => by simp
  | x :: F, v :: vs, k + 1, h => by
    rw [show 2 * (k + 1) = 2 * k + 1 + 1 by omega, flatV, List.drop_succ_cons, List.drop_succ_cons, flatV_drop k (by simpa using h)]
    rfl
theorem NdL.get {w : World} {B : Nat} : ∀ {F : List Nd} {vs : List Value} {i : Nat} (hi : i < F.length), NdL w B F vs → ∃ v, vs[i]? = some v ∧ NdV w B F[i] v ∧ (flatV F vs)[2 * i]? = some (iv F[i].id) ∧ (flatV F vs)[2 * i + 1]? = some v
  | x :: F, v :: vs, 0, _, ⟨h1, _⟩ => ⟨v, rfl, h1, rfl, rfl⟩
  | x :: F, v :: vs, i + 1, hi, ⟨_, h2⟩ => by
    obtain ⟨u, r1, r2, r3, r4⟩ := NdL.get (i := i) (by simpa using hi) h2
    refine ⟨u, r1, r2, ?_, ?_⟩
    · rw [show 2 * (i + 1) = 2 * i + 1 + 1 by omega, flatV]; simpa using r3
    · rw [show 2 * (i + 1) + 1 = 2 * i + 1 + 1 + 1 by omega, flatV]; simpa using r4
/-- what a node of a slice is -/
theorem SlN.get {w : World} {B : Nat} {A : Option Addr} {n c : Nat} {F : List Nd} (h : SlN w B A n c F) {i : Nat} (hi : i < F.length) :
    ∃ b o v, A = some ⟨b, o, none⟩ ∧ b < B ∧ NdV w B F[i] v ∧ w.cell? ⟨b, o + 2 * i, none⟩ = some (iv F[i].id) ∧ w.cell? ⟨b, o + 2 * i + 1, none⟩ = some v := by
  obtain ⟨h1, h2, h3, vs, h4, h5⟩ := h
  obtain ⟨b, o, e, hb, hc⟩ := h5.pos (by omega)
  obtain ⟨v, r1, r2, r3, r4⟩ := h4.get hi
  exact ⟨b, o, v, e, hb, r2, hc _ _ r3, by rw [Nat.add_assoc]; exact hc _ _ r4⟩
theorem SlN.take {w : World} {B : Nat} {A : Option Addr} {n c : Nat} {F : List Nd} (h : SlN w B A n c F) {k c' : Nat} (hk : k ≤ n) (hc1 : k ≤ c') (hc2 : c' ≤ c) : SlN w B A k c' (F.take k) := by
  obtain ⟨h1, h2, h3, vs, h4, h5⟩ := h
  have hl := h4.len
  rw [← List.take_append_drop k F] at h4
  obtain ⟨r1, _⟩ := h4.split
  rw [List.length_take, Nat.min_eq_left (by omega)] at r1
  refine ⟨by rw [List.length_take]; omega, hc1, Nat.le_trans hc2 h3, vs.take k, r1, ?_⟩
  rw [← flatV_take k hl]
  exact h5.take (by omega)
theorem SlN.cut {w : World} {B : Nat} {A : Option Addr} {n c : Nat} {F : List Nd} (h : SlN w B A n c F) {k : Nat} (hk : k ≤ n) : SlN w B (if c = k then A else A.map (·.add (k * 2))) (n - k) (c - k) (F.drop k) := by
  obtain ⟨h1, h2, h3, vs, h4, h5⟩ := h
  have hl := h4.len
  rw [← List.take_append_drop k F] at h4
  obtain ⟨_, r1⟩ := h4.split
  rw [List.length_take, Nat.min_eq_left (by omega)] at r1
  refine ⟨by rw [List.length_drop]; omega, by omega, by omega, vs.drop k, r1, ?_⟩
  rw [← flatV_drop k hl]
  by_cases hck : c = k
  · rw [if_pos hck, List.drop_of_length_le (by rw [flatV_len hl]; omega), show 2 * (n - k) = 0 by omega]
    exact Rd.zero _ _ _
  · have := h5.cut (k := 2 * k) (cap := 2 * c) (by omega) (by omega)
    rw [if_neg (by omega)] at this
    rw [if_neg hck, show 2 * (n - k) = 2 * n - 2 * k by omega, Nat.mul_comm k 2]
    exact this
/-- a node's kids are a slice of nodes -/
theorem NdV.kids {w : World} {B : Nat} : ∀ {x : Nd} {v : Value}, NdV w B x v → ∃ A c, v = .slice A x.kids.length c ∧ SlN w B A x.kids.length c x.kids
  | .leaf _, v, h => ⟨none, 0, h, SlN.zero _ _⟩
  | .one a, v, ⟨A, c, x, h1, h2, h3, h4, h5⟩ => ⟨A, c, h1, rfl, h2, h3, [x], ⟨h5, trivial⟩, h4⟩
  | .two a b, v, ⟨A, c, x, y, h1, h2, h3, h4, h5, h6⟩ => ⟨A, c, h1, rfl, h2, h3, [x, y], ⟨h5, h6, trivial⟩, h4⟩
  | .three a b d, v, ⟨A, c, x, y, z, h1, h2, h3, h4, h5, h6, h7⟩ => ⟨A, c, h1, rfl, h2, h3, [x, y, z], ⟨h5, h6, h7, trivial⟩, h4⟩
theorem SlN.node {w : World} {B : Nat} {A : Option Addr} {n c : Nat} {F : List Nd} (h : SlN w B A n c F) (hn : n = 1 ∨ n = 2 ∨ n = 3) : NdV w B (ofKids F) (.slice A n c) := by
  obtain ⟨h1, h2, h3, vs, h4, h5⟩ := h
  match F, vs, h1, h4, h5 with
  | [a], [x], h1, ⟨k1, _⟩, h5 =>
    have : n = 1 := h1.symm
    subst this
    exact ⟨A, c, x, rfl, h2, h3, h5, k1⟩
  | [a, b], [x, y], h1, ⟨k1, k2, _⟩, h5 =>
    have : n = 2 := h1.symm
    subst this
    exact ⟨A, c, x, y, rfl, h2, h3, h5, k1, k2⟩
  | [a, b, d], [x, y, z], h1, ⟨k1, k2, k3, _⟩, h5 =>
    have : n = 3 := h1.symm
    subst this
    exact ⟨A, c, x, y, z, rfl, h2, h3, h5, k1, k2, k3⟩
  | [], _, h1, _, _ => simp at h1; omega
  | _ :: _ :: _ :: _ :: _, _, h1, _, _ => simp at h1; omega
theorem ofKids_id {F : List Nd} (h : F.length = 1 ∨ F.length = 2 ∨ F.length = 3) : (ofKids F).id = 0 := by
  match F, h with
  | [a], _ => rfl
  | [a, b], _ => rfl
  | [a, b, c], _ => rfl

theorem nodeInfo : (Try.prog.info? 85).map (fun i => (i.zero, i.size, i.bytes)) = some (some (.agg #[.int .i64 0, .slice none 0 0]), 2, 32) := by kernel_rfl
theorem node_parts : ∃ i, Try.prog.info? 85 = some i ∧ i.zero = some (.agg #[.int .i64 0, .slice none 0 0]) ∧ i.size = 2 ∧ i.bytes = 32 := by
  have h := nodeInfo
  cases hi : Try.prog.info? 85 with
  | none => rw [hi] at h; cases h
  | some i =>
    rw [hi] at h
    simp only [Option.map_some, Option.some.injEq, Prod.mk.injEq] at h
    exact ⟨i, rfl, h.1, h.2.1, h.2.2⟩
theorem sizeNd : (Try.prog.info? 85).map (·.size) = some 2 := by kernel_rfl
/-- a node's two cells -/
def ndC (x : Nd) (v : Value) : Array Value := #[iv x.id, v]
theorem SlN.range {w : World} {B : Nat} {A : Option Addr} {n c : Nat} {F : List Nd} (h : SlN w B A n c F) {i : Nat} (hi : i < F.length) :
    ∃ b o v, A = some ⟨b, o, none⟩ ∧ b < B ∧ NdV w B F[i] v ∧ w.rangeAt b (o + i * 2) [iv F[i].id, v] ∧ w.cell? ⟨b, o + i * 2 + 1, none⟩ = some v := by
  obtain ⟨b, o, v, h1, h2, h3, h4, h5⟩ := h.get hi
  rw [Nat.mul_comm] at h4 h5
  refine ⟨b, o, v, h1, h2, h3, fun j u hu => ?_, h5⟩
  match j, hu with
  | 0, hu =>
    injection hu with hu
    subst hu
    exact h4
  | 1, hu =>
    injection hu with hu
    subst hu
    exact h5
  | j + 2, hu => simp at hu
theorem NdV.one2 {w : World} {B : Nat} {x : Nd} {v : Value} (h : NdV w B x v) : (ndC x v).all (·.oneCell') = true := by
  obtain ⟨A, c, rfl, _⟩ := h.kids
  simp [ndC, Value.oneCell', iv]

theorem NdV.cell1 {w : World} {B : Nat} {x : Nd} {v : Value} (h : NdV w B x v) : v.oneCell' = true := by
  obtain ⟨A, c, rfl, _⟩ := h.kids
  rfl
theorem flat_one {w : World} {B : Nat} : ∀ {F : List Nd} {vs : List Value}, NdL w B F vs → ∀ u ∈ flatV F vs, u.oneCell' = true
  | [], [], _, u, hu => by simp [flatV] at hu
  | x :: F, v :: vs, ⟨h1, h2⟩, u, hu => by
    rw [flatV] at hu
    rcases List.mem_cons.1 hu with rfl | hu
    · rfl
    · rcases List.mem_cons.1 hu with rfl | hu
      · exact h1.cell1
      · exact flat_one h2 u hu

section
variable {P : Program} (w : World)
/-- append of what reads as 'news' (nil let in), cells of any number each, onto a row of the call's own -/
theorem run_append_rdZ (base : Nat) (t ty e : TypeId) (i : TypeInfo) (z : Value) (size bytes : Nat) (ht : P.underlying t = some (.slice e)) (hi : P.info? e = some i) (hz : i.zero = some z)
    (hsize : i.size = size) (hby : i.bytes = bytes) (hzs : z.cells.size = size) (hsz : 0 < size)
    (v : Value) (n : Nat) (xs : List Value) (hown : w.ownsRow base e size v n xs)
    (B : Nat) (A : Option Addr) (m c : Nat) (news : List Value) (hr : Rd w B A (m * size) news) (h1 : ∀ u ∈ news, u.oneCell' = true)
    (h63 : n + m ≤ maxLen) (hbytes : (n + m) * bytes ≤ 140737488355328) (hbase : base ≤ w.heap.size) :
    ∃ v' w', (Builtin.append_ #[t, t] ty #[v, .slice A m c]).run P w = .ok v' w' ∧ w'.ownsRow base e size v' (n + m) (xs ++ news) ∧ w.grownBy w' v.ownBlock ∧
      (v'.ownBlock = v.ownBlock ∨ v'.ownBlock = some w.heap.size) := by
  rcases A with _ | ad
  · have hm : m = 0 := by
      rcases Nat.eq_zero_or_pos m with h0 | h0
      · exact h0
      · obtain ⟨b, o, h, _⟩ := hr.pos (Nat.mul_pos h0 hsz)
        cases h
    subst hm
    have hn : news = [] := List.eq_nil_of_length_eq_zero (by rw [hr.len, Nat.zero_mul])
    subst hn
    refine ⟨v, w, ?_, by simpa using hown, World.grownBy.refl w _, .inl rfl⟩
    rcases hown.2 with ⟨rfl, rfl⟩ | ⟨g, cap, cur, rfl, _, _, hnc, _⟩
    · simp [Builtin.append_, run_underlying ht, sizeOf, typeInfo, hi, Builtin.lenOf, Builtin.firstCells]
    · simp [Builtin.append_, run_underlying ht, sizeOf, typeInfo, hi, Builtin.lenOf, Builtin.firstCells, hnc, storeCells]
  · have hcells : ∀ j u, news[j]? = some u → w.cell? (ad.add j) = some u := by
      intro j u hu
      rcases Nat.eq_zero_or_pos m with h0 | h0
      · subst h0
        have hn : news = [] := List.eq_nil_of_length_eq_zero (by rw [hr.len, Nat.zero_mul])
        subst hn
        simp at hu
      · obtain ⟨b, o, h, _, hc⟩ := hr.pos (Nat.mul_pos h0 hsz)
        injection h with h
        subst h
        rw [Addr.add_lit]
        exact hc j u hu
    obtain ⟨v', w', hrun, h2, h3, _, h5⟩ := run_append_own_at (P := P) w base t ty e i z size bytes ht hi hz hsize hby hzs hsz v n xs hown ad m c news hr.len hcells h1 h63 hbytes hbase
    exact ⟨v', w', hrun, h2, h3, h5⟩
end
/-- nodes are appended onto nodes of the call's own -/
theorem wpList_append_nd {ops : Array Oper} {rest : List Oper} {o : Oper} {a : Act} {w : World} {Q : Exit → Act → World → Prop} (hgd : Region.wanted o (yielded ops a.tmps) = true) (s x : Operand)
    (ho : o.op = .call { callee := .builtin .append, args := #[s, x], argTypes := #[83, 83] })
    (base : Nat) (A : Option Addr) (n c : Nat) (F : List Nd) (vs : List Value) (hs : a.eval s = .slice A n c) (hown : w.ownsRow base 85 2 (.slice A n c) n (flatV F vs))
    (B : Nat) (A' : Option Addr) (m c' : Nat) (G : List Nd) (us : List Value) (hx : a.eval x = .slice A' m c') (hG : NdL w B G us) (hr : Rd w B A' (2 * m) (flatV G us))
    (h63 : n + m ≤ 1000000000) (hbase : base ≤ w.heap.size) (hvl : vs.length = F.length)
    (h : ∀ A2 c2 w', w'.ownsRow base 85 2 (.slice A2 (n + m) c2) (n + m) (flatV (F ++ G) (vs ++ us)) → w.grownBy w' (Value.slice A n c).ownBlock → ((Value.slice A2 (n + m) c2).ownBlock = (Value.slice A n c).ownBlock ∨ (Value.slice A2 (n + m) c2).ownBlock = some w.heap.size) → wpList Try.prog ops Q rest (a.put o.dst (.slice A2 (n + m) c2)) w') : wpList Try.prog ops Q (o :: rest) a w := by
  obtain ⟨i, hi, hz, hsz, hby⟩ := node_parts
  refine wpList_step fun _ hK => ?_
  rw [if_pos hgd]
  obtain ⟨v', w', hrun, h2, h3, h4⟩ := run_append_rdZ (P := Try.prog) w base 83 o.type 85 i _ 2 32 Try.underlying83 hi hz hsz hby rfl (by omega) _ n _ hown B A' m c' (flatV G us) (by rw [Nat.mul_comm]; exact hr) (flat_one hG) (by simp only [maxLen]; omega) (by omega) hbase
  obtain ⟨A2, c2, rfl, _, _⟩ := own_formT h2
  unfold Oper.wp execOp
  simp only [ho, resolve, invoke, builtin, Sem.run_bind, Sem.run_pure, Result.andThen_ok, List.map_toArray, List.map_cons, List.map_nil, hs, hx, hrun]
  refine hK _ _ (h A2 c2 w' ?_ h3 h4)
  rw [flatV_app hvl]
  exact h2
/-- an own row of nodes reads as its nodes -/
theorem SlN.of_own {w : World} {base : Nat} {A : Option Addr} {n c : Nat} {F : List Nd} {vs : List Value} (h : w.ownsRow base 85 2 (.slice A n c) n (flatV F vs)) (hF : NdL w w.heap.size F vs) : SlN w w.heap.size A n c F := by
  have hl := h.1
  rw [flatV_len hF.len] at hl
  obtain ⟨A1, c1, e, h1, h2⟩ := own_formT h
  injection e with e1 e2 e3
  subst e1 e3
  refine ⟨by omega, h1, h2, vs, hF, by rw [flatV_len hF.len]; omega, fun hn => ?_⟩
  obtain ⟨g, cap, hv, _, hlt⟩ := h.form (by omega)
  have hA : A = some ⟨g, 0, none⟩ := by injection hv
  subst hA
  refine ⟨g, 0, rfl, hlt, fun j u hu => ?_⟩
  have := h.cells (g := g) rfl j u hu
  rw [Addr.add_lit] at this
  exact this

end Go.Proofs.Ytmganbdbihjbmaa

/-
  CONTRACTS of the document's Nodes and first (coterieref10).
-/
set_option linter.unusedVariables false
namespace Go.Proofs.Ytmganbdbihjbmaa
open Go.RowKit

def nilV : Value := .slice none 0 0
theorem nilV_def : nilV = .slice none 0 0 := rfl
theorem NdL.leaves (w : World) (B : Nat) : ∀ (ids : List Int), NdL w B (leavesF ids) (List.replicate ids.length nilV)
  | [] => trivial
  | i :: ids => ⟨rfl, NdL.leaves w B ids⟩
theorem group_part : ∀ (l : List Nat) (F : List Nd) (k : Nat) (hk : k < l.length), groupF (l.take (k + 1)) F = groupF (l.take k) F ++ [ofKids ((F.drop (startT l k)).take l[k])]
  | [], F, k, hk => by simp at hk
  | n :: l, F, 0, hk => by simp [groupF, startT]
  | n :: l, F, k + 1, hk => by
    rw [List.take_succ_cons, List.take_succ_cons, groupF, groupF, group_part l (F.drop n) k (by simpa using hk), startT_cons, List.drop_drop, List.getElem_cons_succ]
    rfl
theorem nodesF_snoc : ∀ (lv : List (List Nat)) (F : List Nd) (l : List Nat), nodesF F (lv ++ [l]) = groupF l (nodesF F lv)
  | [], F, l => rfl
  | x :: lv, F, l => by rw [List.cons_append, nodesF, nodesF_snoc lv]; rfl

set_option maxRecDepth 100000 in
set_option maxHeartbeats 8000000 in
theorem Nodes_any (Ai : Option Addr) (ni ci : Nat) (Al : Option Addr) (nl cl : Nat) (ids : List Int) (ll : List (List Int)) (w : World) (h : ShR w w.heap.size Ai ni ci Al nl cl ids ll) (hf : ∀ l ∈ ll, l.length ≤ 1000000) (hc : chkT ids ll = true) :
    Calls Try.prog 54 #[.agg (shV Ai ni ci Al nl cl)] w fun e w' => Below w.heap.size w w' ∧ ∃ A n c, e = .returned (.slice A n c) ∧ SlN w' w'.heap.size A n c (nodesF (leavesF ids) (lvN ll)) := by
  have Hnl := Lib.hid h.hnl
  have Hni := Lib.hid h.hni
  have hml := h.hml
  have hcl := h.hcl
  have hmi := Nat.le_trans h.hci h.hmi
  have hM := (Ms.nil w).box 25 #[.slice Ai ni ci, .slice Al nl cl]
  obtain ⟨vs, hv, hlv⟩ := h.lvs
  have hids := h.hids
  obtain ⟨hn1000, _, hlo, hin⟩ := chkT_lv hc
  have hni1000 : ni ≤ 1000 := by rw [← Hni.out]; exact hn1000
  clear h hc
  rw [maxLen] at hml hmi
  rw [shV]
  have hlt1 := (hM.get 0 rfl).lt
  go_enter Try.func54, Try.ntmps54
  go_wp2_with fail
  go_loopw [3, 14] (fun v i wr => ∃ (j : Nat) (A : Option Addr) (c : Nat), j ≤ ni ∧ i = .int .i64 (j : Int) ∧ v = .slice A j c ∧ wr.ownsRow (w.heap.size + 1) 85 2 (.slice A j c) j (flatV (leavesF (ids.take j)) (List.replicate j nilV)) ∧ Ms w wr [(w.heap.size, 25, #[.slice Ai ni ci, .slice Al nl cl])]) (fun _ i _ => ni - (intOf i).toNat)
  case atStart => exact ⟨0, none, 0, by omega, rfl, rfl, World.ownsRow_nil _ _ _ _, hM⟩
  case round =>
    clear hM hlt1
    obtain ⟨j, A, c, hj, rfl, rfl, hown, hM⟩ := hrel
    have hb := hM.old
    have hlt1 := (hM.get 0 rfl).lt
    have hjl : (ids.take j).length = j := by rw [List.length_take, Hni.out]; omega
    by_cases hlt : j < ni
    · obtain ⟨x, hx⟩ : ∃ x, ids[j]? = some x := ⟨_, List.getElem?_eq_getElem (by rw [Hni.out]; exact hlt)⟩
      obtain ⟨g, o, rfl, hgl, hcell⟩ := (hids.below hb).pos (by omega)
      have c1 := hcell j (iv x) (by rw [List.getElem?_map, hx]; rfl)
      rw [iv_def] at c1
      have Ht := Lib.hid (show leavesF (ids.take (j + 1)) = leavesF (ids.take j) ++ [Nd.leaf x] by rw [take_one hx, leavesF, List.map_append]; rfl)
      clear hcell hx
      have hrd : Rd (wr.alloc (.cells #[.int .i64 x, .slice none 0 0] 85)) (wr.heap.size + 1) (some ⟨wr.heap.size, 0, none⟩) (2 * 1) (flatV [Nd.leaf x] [nilV]) := Rd.mk_ _ _ _ rfl (by omega) rfl rfl
      go_wp2_with (at_builtin; refine wpList_append_nd rfl (.tmp 18) (.tmp 21) rfl (w.heap.size + 1) A j c (leavesF (ids.take j)) (List.replicate j nilV) rfl (own_below hown ((Below.refl _ _).alloc (Nat.le_refl _) _)) _ (some ⟨wr.heap.size, 0, none⟩) 1 1 [Nd.leaf x] [nilV] rfl ⟨rfl, trivial⟩ hrd (by omega) (by simp; omega) (by rw [List.length_replicate, leavesF, List.length_map, hjl]) ?_; intro A3 c3 w3 hown3 hgr3 _)
      have hM3 := (hM.allocT (.cells #[.int .i64 x, .slice none 0 0] 85)).grownT hgr3 (fun k hk => by have := own_blockT hown k hk; omega) (fun p hp k hk => by have := own_blockT hown k hk; simp at hp; subst hp; simp; omega)
      rw [← Ht.out, show List.replicate j nilV ++ [nilV] = List.replicate (j + 1) nilV from List.replicate_succ'.symm] at hown3
      go_roundw
      case rel => exact ⟨j + 1, A3, c3, by omega, by go_num, rfl, hown3, hM3⟩
      case measure => simp [intOf]; omega
    · obtain rfl : j = ni := by omega
      rw [List.take_of_length_le (by rw [Hni.out]; exact Nat.le_refl _)] at hown hjl
      have k1 := (hM.get 0 rfl).cell (i := 1) (v := .slice Al nl cl) rfl
      have hS0 : SlN wr wr.heap.size A j c (leavesF ids) := SlN.of_own hown (by have := NdL.leaves wr wr.heap.size ids; rw [Hni.out] at this; exact this)
      have HS0 := Lib.hid hS0
      clear hS0 hown
      go_wp2_with fail
      go_loopw [3, 27] (fun v i wr => ∃ (q n6 : Nat) (F : List Nd) (A6 : Option Addr) (c6 : Nat), q ≤ nl ∧ i = .int .i64 (q : Int) ∧ v = .slice A6 n6 c6 ∧ F = nodesF (leavesF ids) ((lvN ll).take q) ∧ n6 ≤ 1000 ∧ lvOK n6 ((lvN ll).drop q) ∧
        SlN wr wr.heap.size A6 n6 c6 F ∧ Ms w wr [(w.heap.size, 25, #[.slice Ai j ci, .slice Al nl cl])]) (fun _ i _ => nl - (intOf i).toNat)
      case atStart => exact ⟨0, j, leavesF ids, A, c, by omega, rfl, rfl, rfl, hni1000, by rw [← Hni.out]; exact hlo, HS0.out, hM⟩
      case round =>
        clear hM k1 HS0 hb hlt1
        obtain ⟨q, n6, F, A6, c6, hq, rfl, rfl, hF, hn6, hlv2, hS, hM⟩ := hrel
        have hb := hM.old
        have hlt1 := (hM.get 0 rfl).lt
        obtain ⟨hFl, hnc, hcm, _⟩ := id hS
        rw [maxLen] at hcm
        by_cases hqv : q < nl
        · have hql : q < ll.length := by rw [Hnl.out]; omega
          obtain ⟨A1, c1, hvj, hc1, hm1, hrj⟩ := hlv.get hql
          obtain ⟨g, o, rfl, hgl, hcell⟩ := (hv.below hb).pos (by omega)
          have d1 := hcell q _ hvj
          have hlm := hf _ (List.getElem_mem hql)
          obtain ⟨n1, n2, n3⟩ := in23_nat _ (hin _ (List.getElem_mem hql))
          have hd : (lvN ll).drop q = natL ll[q] :: (lvN ll).drop (q + 1) := by
            have hql' : q < (lvN ll).length := by rw [lvN, List.length_map]; exact hql
            rw [List.drop_eq_getElem_cons hql']
            simp [lvN]
          have htk : (lvN ll).take (q + 1) = (lvN ll).take q ++ [natL ll[q]] := by
            have hql' : q < (lvN ll).length := by rw [lvN, List.length_map]; exact hql
            rw [List.take_succ_eq_append_getElem hql']
            simp [lvN]
          rw [hd] at hlv2
          obtain ⟨o1, o2, o3, o4⟩ := hlv2
          have HFn := Lib.hid (show nodesF (leavesF ids) ((lvN ll).take (q + 1)) = groupF (natL ll[q]) F by rw [htk, nodesF_snoc, ← hF])
          clear hcell hvj hd htk hF
          generalize ll[q] = l at *
          rw [maxLen] at hm1
          have hnl : (natL l).length = l.length := by rw [natL, List.length_map]
          have hnn := two3_len n1
          have Ho4 := Lib.hid o4
          clear o1 o2 o4
          obtain ⟨b0, hb0⟩ : ∃ b0, b0 = wr.heap.size := ⟨_, rfl⟩
          have hSb : SlN wr b0 A6 n6 c6 F := by rw [hb0]; exact hS
          have hb0w : b0 ≤ wr.heap.size := by omega
          have hb0l : w.heap.size + 1 ≤ b0 := by omega
          clear hS hb0
          go_wp2_with fail
          go_loopw [3, 8, 33] (fun v u i wz => ∃ (k nn : Nat) (Aw : Option Addr) (cw : Nat) (A : Option Addr) (c : Nat) (us : List Value), k ≤ l.length ∧ i = .int .i64 (k : Int) ∧ v = .slice Aw nn cw ∧ nn + startT (natL l) k = n6 ∧ SlN wz b0 Aw nn cw (F.drop (startT (natL l) k)) ∧
            u = .slice A k c ∧ wz.ownsRow b0 85 2 (.slice A k c) k (flatV (groupF ((natL l).take k) F) us) ∧ NdL wz b0 (groupF ((natL l).take k) F) us ∧ b0 ≤ wz.heap.size ∧ Ms w wz [(w.heap.size, 25, #[.slice Ai j ci, .slice (some ⟨g, o, none⟩) nl cl])]) (fun _ _ i _ => l.length - (intOf i).toNat)
          case atStart => exact ⟨0, n6, A6, c6, none, 0, [], by omega, rfl, rfl, by rw [startT_zero]; omega, by rw [startT_zero]; exact hSb, rfl, World.ownsRow_nil _ _ _ _, trivial, hb0w, hM⟩
          case round =>
            clear hM hSb hb hb0w hnc hcm hlt1 hFl
            obtain ⟨k, nn, Aw, cw, A, c, us, hk, rfl, rfl, hnk, hS, rfl, hown, hNd, hbz, hM⟩ := hrel
            have hb := hM.old
            obtain ⟨hFl, hnc, hcm, _⟩ := id hS
            rw [maxLen] at hcm
            by_cases hkl : k < l.length
            · have hkn : k < (natL l).length := by omega
              obtain ⟨gg, oo, rfl, hgg, hcell2⟩ := (hrj.below hb).pos (by omega)
              have d2 := hcell2 k (iv l[k]) (by rw [List.getElem?_map, List.getElem?_eq_getElem hkl]; rfl)
              have hny := n3 k hkl
              have hss := startT_succ (natL l) hkn
              have h23 := two3_get n1 hkn
              have hsl := startT_le (natL l) (k + 1)
              have Hck := Lib.hid (group_part (natL l) F k hkn)
              rw [iv_def, hny] at d2
              generalize (natL l)[k] = n at *
              clear hcell2 hny
              have hnn2 : n ≤ nn := by omega
              have z1 : (n : Int) ≤ (nn : Int) := by omega
              have z2 : (n : Int) ≤ (cw : Int) := by omega
              have z3 : (0 : Int) ≤ (n : Int) := by omega
              have z4 : (nn : Int) ≤ (cw : Int) := by omega
              obtain ⟨Gk, hGk⟩ : ∃ Gk, Gk = (F.drop (startT (natL l) k)).take n := ⟨_, rfl⟩
              have hSk := hS.take (k := n) (c' := n) hnn2 (Nat.le_refl _) (by omega)
              rw [← hGk] at hSk Hck
              have hGl : Gk.length = n := hSk.1
              have hNk := (hSk.node (by omega)).alloc hbz (.cells #[.int .i64 0, .slice Aw n n] 85)
              have hidk : (ofKids Gk).id = 0 := ofKids_id (by omega)
              have hrd : Rd (wr.alloc (.cells #[.int .i64 0, .slice Aw n n] 85)) (wr.heap.size + 1) (some ⟨wr.heap.size, 0, none⟩) (2 * 1) (flatV [ofKids Gk] [.slice Aw n n]) := Rd.mk_ _ _ _ rfl (by omega) rfl (by rw [flatV, hidk]; rfl)
              have hcut := hS.cut (k := n) hnn2
              rw [List.drop_drop, ← hss] at hcut
              have hgl := group_len ((natL l).take k) F
              rw [List.length_take, Nat.min_eq_left (by omega)] at hgl
              have hul := hNd.len
              have Hs3 := Lib.hid hss
              clear hGk hSk hidk hss
              have Hnd := Lib.hid (hNd.keep (fun _ _ _ hr => hr.alloc hbz (.cells #[.int .i64 0, .slice Aw n n] 85)))
              by_cases hcx : cw = n
              · rw [if_pos hcx] at hcut
                have hx0 : nn - n = 0 := by omega
                have hx1 : cw - n = 0 := by omega
                have zz : nn = n := by omega
                rw [hx0, hx1] at hcut
                go_wp2_with (at_builtin; refine wpList_append_nd rfl (.tmp 37) (.tmp 43) rfl b0 A k c (groupF ((natL l).take k) F) us rfl (own_below hown ((Below.refl _ _).alloc (Nat.le_refl _) _)) (wr.heap.size + 1) (some ⟨wr.heap.size, 0, none⟩) 1 1 [ofKids Gk] [.slice Aw n n] rfl ⟨hNk.more (by omega), trivial⟩ hrd (by omega) (by simp; omega) (by omega) ?_; intro A3 c3 w3 hown3 hgr3 _)
                have hM3 := (hM.allocT (.cells #[.int .i64 0, .slice Aw n n] 85)).grownT hgr3 (fun y hy => by have := own_blockT hown y hy; omega) (fun p hp y hy => by have := own_blockT hown y hy; simp at hp; subst hp; simp; omega)
                have hS3 := (hcut.alloc hbz (.cells #[.int .i64 0, .slice Aw n n] 85)).grown hgr3 (by simp; omega) (own_blockT hown)
                have hN3 := (Hnd.out.app (G := [ofKids Gk]) (us := [.slice Aw n n]) ⟨hNk, trivial⟩).keep (fun _ _ _ hr => hr.grown hgr3 (by simp; omega) (own_blockT hown))
                have hs3 : wr.heap.size + 1 ≤ w3.heap.size := by
                  have := hgr3.size
                  simpa using this
                rw [← Hck.out] at hown3 hN3
                go_roundw
                case rel => exact ⟨k + 1, 0, Aw, 0, A3, c3, us ++ [.slice Aw n n], by omega, by go_num, rfl, by rw [Hs3.out]; omega, hS3, rfl, hown3, hN3, by omega, hM3⟩
                case measure => simp [intOf]; omega
              · rw [if_neg hcx] at hcut
                go_wp2_with (at_builtin; refine wpList_append_nd rfl (.tmp 37) (.tmp 43) rfl b0 A k c (groupF ((natL l).take k) F) us rfl (own_below hown ((Below.refl _ _).alloc (Nat.le_refl _) _)) (wr.heap.size + 1) (some ⟨wr.heap.size, 0, none⟩) 1 1 [ofKids Gk] [.slice Aw n n] rfl ⟨hNk.more (by omega), trivial⟩ hrd (by omega) (by simp; omega) (by omega) ?_; intro A3 c3 w3 hown3 hgr3 _)
                have hM3 := (hM.allocT (.cells #[.int .i64 0, .slice Aw n n] 85)).grownT hgr3 (fun y hy => by have := own_blockT hown y hy; omega) (fun p hp y hy => by have := own_blockT hown y hy; simp at hp; subst hp; simp; omega)
                have hS3 := (hcut.alloc hbz (.cells #[.int .i64 0, .slice Aw n n] 85)).grown hgr3 (by simp; omega) (own_blockT hown)
                have hN3 := (Hnd.out.app (G := [ofKids Gk]) (us := [.slice Aw n n]) ⟨hNk, trivial⟩).keep (fun _ _ _ hr => hr.grown hgr3 (by simp; omega) (own_blockT hown))
                have hs3 : wr.heap.size + 1 ≤ w3.heap.size := by
                  have := hgr3.size
                  simpa using this
                rw [← Hck.out] at hown3 hN3
                go_roundw
                case rel => exact ⟨k + 1, nn - n, Aw.map (·.add (n * 2)), cw - n, A3, c3, us ++ [.slice Aw n n], by omega, by go_num, rfl, by rw [Hs3.out]; omega, hS3, rfl, hown3, hN3, by omega, hM3⟩
                case measure => simp [intOf]; omega
            · obtain rfl : k = l.length := by omega
              rw [List.take_of_length_le (by omega)] at hown hNd
              have HS := Lib.hid (SlN.of_own hown (hNd.keep (fun _ _ _ hr => hr.more hbz)))
              have hlq : l.length ≤ 1000 := by omega
              go_wp2_with fail
              go_roundw
              case rel => exact ⟨q + 1, l.length, groupF (natL l) F, A, c, by omega, by go_num, rfl, HFn.out.symm, hlq, by rw [← hnl]; exact Ho4.out, HS.out, hM⟩
              case measure => simp [intOf]; omega
        · obtain rfl : q = nl := by omega
          have HF := Lib.hid (show F = nodesF (leavesF ids) (lvN ll) by rw [hF, List.take_of_length_le (by rw [lvN, List.length_map, Hnl.out]; exact Nat.le_refl _)])
          clear hF
          go_wp2_with fail
          go_ret
          exact ⟨hM.old, A6, n6, c6, rfl, by rw [← HF.out]; exact hS⟩

end Go.Proofs.Ytmganbdbihjbmaa

