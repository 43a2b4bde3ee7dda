import Derived.Test.YtmganbdbihjbmaaG03
import Derived.Test.YtmganbdbihjbmaaG06
import Derived.Maps.AppendAt
/-
  NODES IN MEMORY: what a node's kids read, lists of nodes, and appending nodes.
-/
set_option linter.unusedVariables false
namespace Go.Proofs.Ytmganbdbihjbmaa
open Go.RowKit

/-- nodes' cells: of each its number, and what is below -/
def flatV : List Nd → List Value → List Value
  | x :: F, v :: vs => iv x.id :: v :: flatV F vs
  | _, _ => []
/-- what a node has below, as a value -/
def NdV (w : World) (B : Nat) : Nd → Value → Prop
  | .leaf _, v => v = .slice none 0 0
  | .one a, v => ∃ A c x, v = .slice A 1 c ∧ 1 ≤ c ∧ c ≤ maxLen ∧ Rd w B A 2 (flatV [a] [x]) ∧ NdV w B a x
  | .two a b, v => ∃ A c x y, v = .slice A 2 c ∧ 2 ≤ c ∧ c ≤ maxLen ∧ Rd w B A 4 (flatV [a, b] [x, y]) ∧ NdV w B a x ∧ NdV w B b y
  | .three a b d, v => ∃ A c x y z, v = .slice A 3 c ∧ 3 ≤ c ∧ c ≤ maxLen ∧ Rd w B A 6 (flatV [a, b, d] [x, y, z]) ∧ NdV w B a x ∧ NdV w B b y ∧ NdV w B d z
def NdL (w : World) (B : Nat) : List Nd → List Value → Prop
  | [], [] => True
  | x :: F, v :: vs => NdV w B x v ∧ NdL w B F vs
  | _, _ => False
/-- a slice of nodes -/
def SlN (w : World) (B : Nat) (A : Option Addr) (n c : Nat) (F : List Nd) : Prop :=
  F.length = n ∧ n ≤ c ∧ c ≤ maxLen ∧ ∃ vs, NdL w B F vs ∧ Rd w B A (2 * n) (flatV F vs)

theorem NdV.keep {w w' : World} {B B' : Nat} (hk : ∀ (A : Option Addr) (n : Nat) (xs : List Value), Rd w B A n xs → Rd w' B' A n xs) : ∀ (x : Nd) (v : Value), NdV w B x v → NdV w' B' x v
  | .leaf _, v, h => h
  | .one a, v, ⟨A, c, x, h1, h2, h3, h4, h5⟩ => ⟨A, c, x, h1, h2, h3, hk _ _ _ h4, NdV.keep hk a x h5⟩
  | .two a b, v, ⟨A, c, x, y, h1, h2, h3, h4, h5, h6⟩ => ⟨A, c, x, y, h1, h2, h3, hk _ _ _ h4, NdV.keep hk a x h5, NdV.keep hk b y h6⟩
  | .three a b d, v, ⟨A, c, x, y, z, h1, h2, h3, h4, h5, h6, h7⟩ => ⟨A, c, x, y, z, h1, h2, h3, hk _ _ _ h4, NdV.keep hk a x h5, NdV.keep hk b y h6, NdV.keep hk d z h7⟩
theorem NdL.keep {w w' : World} {B B' : Nat} (hk : ∀ (A : Option Addr) (n : Nat) (xs : List Value), Rd w B A n xs → Rd w' B' A n xs) : ∀ (F : List Nd) (vs : List Value), NdL w B F vs → NdL w' B' F vs
  | [], [], _ => trivial
  | x :: F, v :: vs, ⟨h1, h2⟩ => ⟨NdV.keep hk x v h1, NdL.keep hk F vs h2⟩
theorem SlN.keep {w w' : World} {B B' : Nat} (hk : ∀ (A : Option Addr) (n : Nat) (xs : List Value), Rd w B A n xs → Rd w' B' A n xs) {A : Option Addr} {n c : Nat} {F : List Nd} (h : SlN w B A n c F) : SlN w' B' A n c F := by
  obtain ⟨h1, h2, h3, vs, h4, h5⟩ := h
  exact ⟨h1, h2, h3, vs, NdL.keep hk F vs h4, hk _ _ _ h5⟩
theorem SlN.below {w w' : World} {B : Nat} {A : Option Addr} {n c : Nat} {F : List Nd} (h : SlN w B A n c F) (hb : Below B w w') : SlN w' B A n c F := h.keep fun _ _ _ hr => hr.below hb
theorem SlN.more {w : World} {B B' : Nat} {A : Option Addr} {n c : Nat} {F : List Nd} (h : SlN w B A n c F) (hb : B ≤ B') : SlN w B' A n c F := h.keep fun _ _ _ hr => hr.more hb
theorem SlN.alloc {w : World} {B : Nat} {A : Option Addr} {n c : Nat} {F : List Nd} (h : SlN w B A n c F) (hB : B ≤ w.heap.size) (o : Obj) : SlN (w.alloc o) B A n c F := h.keep fun _ _ _ hr => hr.alloc hB o
theorem SlN.grown {w w' : World} {B : Nat} {A : Option Addr} {n c : Nat} {F : List Nd} {row : Option Nat} (h : SlN w B A n c F) (hg : w.grownBy w' row) (hB : B ≤ w.heap.size) (hr : ∀ g, row = some g → B ≤ g) : SlN w' B A n c F := h.keep fun _ _ _ h => h.grown hg hB hr
theorem SlN.drew {w : World} {B : Nat} {A : Option Addr} {n c : Nat} {F : List Nd} (h : SlN w B A n c F) : SlN w.drew B A n c F := h.keep fun _ _ _ hr => hr.drew
theorem SlN.zero (w : World) (B : Nat) : SlN w B none 0 0 [] := ⟨rfl, Nat.le_refl _, by simp [maxLen], [], trivial, Rd.zero _ _ _⟩
theorem NdV.below {w w' : World} {B : Nat} {x : Nd} {v : Value} (h : NdV w B x v) (hb : Below B w w') : NdV w' B x v := NdV.keep (fun _ _ _ hr => hr.below hb) x v h
theorem NdV.more {w : World} {B B' : Nat} {x : Nd} {v : Value} (h : NdV w B x v) (hb : B ≤ B') : NdV w B' x v := NdV.keep (fun _ _ _ hr => hr.more hb) x v h
theorem NdV.alloc {w : World} {B : Nat} {x : Nd} {v : Value} (h : NdV w B x v) (hB : B ≤ w.heap.size) (o : Obj) : NdV (w.alloc o) B x v := NdV.keep (fun _ _ _ hr => hr.alloc hB o) x v h

theorem NdL.len {w : World} {B : Nat} : ∀ {F : List Nd} {vs : List Value}, NdL w B F vs → vs.length = F.length
  | [], [], _ => rfl
  | x :: F, v :: vs, ⟨_, h⟩ => by rw [List.length_cons, List.length_cons, NdL.len h]
theorem flatV_len : ∀ {F : List Nd} {vs : List Value}, vs.length = F.length → (flatV F vs).length = 2 * F.length
  | [], [], _ => rfl
  | x :: F, v :: vs, h => by
    rw [flatV, List.length_cons, List.length_cons, flatV_len (by simpa using h), List.length_cons]
    omega
theorem flatV_app : ∀ {F G : List Nd} {vs us : List Value}, vs.length = F.length → flatV (F ++ G) (vs ++ us) = flatV F vs ++ flatV G us
  | [], G, [], us, _ => rfl
  | x :: F, G, v :: vs, us, h => by
    rw [List.cons_append, List.cons_append, flatV, flatV_app (by simpa using h), flatV]
    rfl
theorem NdL.app {w : World} {B : Nat} : ∀ {F G : List Nd} {vs us : List Value}, NdL w B F vs → NdL w B G us → NdL w B (F ++ G) (vs ++ us)
  | [], G, [], us, _, h => h
  | x :: F, G, v :: vs, us, ⟨h1, h2⟩, h => ⟨h1, NdL.app h2 h⟩
theorem NdL.split {w : World} {B : Nat} : ∀ {F G : List Nd} {vs : List Value}, NdL w B (F ++ G) vs → NdL w B F (vs.take F.length) ∧ NdL w B G (vs.drop F.length)
  | [], G, vs, h => ⟨by simp [NdL], by simpa using h⟩
  | x :: F, G, v :: vs, ⟨h1, h2⟩ => by
    obtain ⟨r1, r2⟩ := NdL.split h2
    exact ⟨⟨h1, r1⟩, r2⟩
theorem flatV_take : ∀ {F : List Nd} {vs : List Value} (k : Nat), vs.length = F.length → (flatV F vs).take (2 * k) = flatV (F.take k) (vs.take k)
  | [], [], k, _ => by simp [flatV]
  | x :: F, v :: vs, 0, h => by simp [flatV]
  | x :: F, v :: vs, k + 1, h => by
    rw [show 2 * (k + 1) = 2 * k + 1 + 1 by omega, flatV, List.take_succ_cons, List.take_succ_cons, flatV_take k (by simpa using h)]
    rfl
theorem flatV_drop : ∀ {F : List Nd} {vs : List Value} (k : Nat), vs.length = F.length → (flatV F vs).drop (2 * k) = flatV (F.drop k) (vs.drop k)
  | [], [], k, _ => by simp [flatV]
  | x :: F, v :: vs, 0, h => by simp
  | x :: F, v :: vs, k + 1, h => by
    rw [show 2 * (k + 1) = 2 * k + 1 + 1 by omega, flatV, List.drop_succ_cons, List.drop_succ_cons, flatV_drop k (by simpa using h)]
    rfl
theorem NdL.get {w : World} {B : Nat} : ∀ {F : List Nd} {vs : List Value} {i : Nat} (hi : i < F.length), NdL w B F vs → ∃ v, vs[i]? = some v ∧ NdV w B F[i] v ∧ (flatV F vs)[2 * i]? = some (iv F[i].id) ∧ (flatV F vs)[2 * i + 1]? = some v
  | x :: F, v :: vs, 0, _, ⟨h1, _⟩ => ⟨v, rfl, h1, rfl, rfl⟩
  | x :: F, v :: vs, i + 1, hi, ⟨_, h2⟩ => by
    obtain ⟨u, r1, r2, r3, r4⟩ := NdL.get (i := i) (by simpa using hi) h2
    refine ⟨u, r1, r2, ?_, ?_⟩
    · rw [show 2 * (i + 1) = 2 * i + 1 + 1 by omega, flatV]; simpa using r3
    · rw [show 2 * (i + 1) + 1 = 2 * i + 1 + 1 + 1 by omega, flatV]; simpa using r4
/-- what a node of a slice is -/
theorem SlN.get {w : World} {B : Nat} {A : Option Addr} {n c : Nat} {F : List Nd} (h : SlN w B A n c F) {i : Nat} (hi : i < F.length) :
    ∃ b o v, A = some ⟨b, o, none⟩ ∧ b < B ∧ NdV w B F[i] v ∧ w.cell? ⟨b, o + 2 * i, none⟩ = some (iv F[i].id) ∧ w.cell? ⟨b, o + 2 * i + 1, none⟩ = some v := by
  obtain ⟨h1, h2, h3, vs, h4, h5⟩ := h
  obtain ⟨b, o, e, hb, hc⟩ := h5.pos (by omega)
  obtain ⟨v, r1, r2, r3, r4⟩ := h4.get hi
  exact ⟨b, o, v, e, hb, r2, hc _ _ r3, by rw [Nat.add_assoc]; exact hc _ _ r4⟩
theorem SlN.take {w : World} {B : Nat} {A : Option Addr} {n c : Nat} {F : List Nd} (h : SlN w B A n c F) {k c' : Nat} (hk : k ≤ n) (hc1 : k ≤ c') (hc2 : c' ≤ c) : SlN w B A k c' (F.take k) := by
  obtain ⟨h1, h2, h3, vs, h4, h5⟩ := h
  have hl := h4.len
  rw [← List.take_append_drop k F] at h4
  obtain ⟨r1, _⟩ := h4.split
  rw [List.length_take, Nat.min_eq_left (by omega)] at r1
  refine ⟨by rw [List.length_take]; omega, hc1, Nat.le_trans hc2 h3, vs.take k, r1, ?_⟩
  rw [← flatV_take k hl]
  exact h5.take (by omega)
theorem SlN.cut {w : World} {B : Nat} {A : Option Addr} {n c : Nat} {F : List Nd} (h : SlN w B A n c F) {k : Nat} (hk : k ≤ n) : SlN w B (if c = k then A else A.map (·.add (k * 2))) (n - k) (c - k) (F.drop k) := by
  obtain ⟨h1, h2, h3, vs, h4, h5⟩ := h
  have hl := h4.len
  rw [← List.take_append_drop k F] at h4
  obtain ⟨_, r1⟩ := h4.split
  rw [List.length_take, Nat.min_eq_left (by omega)] at r1
  refine ⟨by rw [List.length_drop]; omega, by omega, by omega, vs.drop k, r1, ?_⟩
  rw [← flatV_drop k hl]
  by_cases hck : c = k
  · rw [if_pos hck, List.drop_of_length_le (by rw [flatV_len hl]; omega), show 2 * (n - k) = 0 by omega]
    exact Rd.zero _ _ _
  · have := h5.cut (k := 2 * k) (cap := 2 * c) (by omega) (by omega)
    rw [if_neg (by omega)] at this
    rw [if_neg hck, show 2 * (n - k) = 2 * n - 2 * k by omega, Nat.mul_comm k 2]
    exact this
/-- a node's kids are a slice of nodes -/
theorem NdV.kids {w : World} {B : Nat} : ∀ {x : Nd} {v : Value}, NdV w B x v → ∃ A c, v = .slice A x.kids.length c ∧ SlN w B A x.kids.length c x.kids
  | .leaf _, v, h => ⟨none, 0, h, SlN.zero _ _⟩
  | .one a, v, ⟨A, c, x, h1, h2, h3, h4, h5⟩ => ⟨A, c, h1, rfl, h2, h3, [x], ⟨h5, trivial⟩, h4⟩
  | .two a b, v, ⟨A, c, x, y, h1, h2, h3, h4, h5, h6⟩ => ⟨A, c, h1, rfl, h2, h3, [x, y], ⟨h5, h6, trivial⟩, h4⟩
  | .three a b d, v, ⟨A, c, x, y, z, h1, h2, h3, h4, h5, h6, h7⟩ => ⟨A, c, h1, rfl, h2, h3, [x, y, z], ⟨h5, h6, h7, trivial⟩, h4⟩
theorem SlN.node {w : World} {B : Nat} {A : Option Addr} {n c : Nat} {F : List Nd} (h : SlN w B A n c F) (hn : n = 1 ∨ n = 2 ∨ n = 3) : NdV w B (ofKids F) (.slice A n c) := by
  obtain ⟨h1, h2, h3, vs, h4, h5⟩ := h
  match F, vs, h1, h4, h5 with
  | [a], [x], h1, ⟨k1, _⟩, h5 =>
    have : n = 1 := h1.symm
    subst this
    exact ⟨A, c, x, rfl, h2, h3, h5, k1⟩
  | [a, b], [x, y], h1, ⟨k1, k2, _⟩, h5 =>
    have : n = 2 := h1.symm
    subst this
    exact ⟨A, c, x, y, rfl, h2, h3, h5, k1, k2⟩
  | [a, b, d], [x, y, z], h1, ⟨k1, k2, k3, _⟩, h5 =>
    have : n = 3 := h1.symm
    subst this
    exact ⟨A, c, x, y, z, rfl, h2, h3, h5, k1, k2, k3⟩
  | [], _, h1, _, _ => simp at h1; omega
  | _ :: _ :: _ :: _ :: _, _, h1, _, _ => simp at h1; omega
theorem ofKids_id {F : List Nd} (h : F.length = 1 ∨ F.length = 2 ∨ F.length = 3) : (ofKids F).id = 0 := by
  match F, h with
  | [a], _ => rfl
  | [a, b], _ => rfl
  | [a, b, c], _ => rfl

theorem nodeInfo : (Try.prog.info? 85).map (fun i => (i.zero, i.size, i.bytes)) = some (some (.agg #[.int .i64 0, .slice none 0 0]), 2, 32) := by kernel_rfl
theorem node_parts : ∃ i, Try.prog.info? 85 = some i ∧ i.zero = some (.agg #[.int .i64 0, .slice none 0 0]) ∧ i.size = 2 ∧ i.bytes = 32 := by
  have h := nodeInfo
  cases hi : Try.prog.info? 85 with
  | none => rw [hi] at h; cases h
  | some i =>
    rw [hi] at h
    simp only [Option.map_some, Option.some.injEq, Prod.mk.injEq] at h
    exact ⟨i, rfl, h.1, h.2.1, h.2.2⟩
theorem sizeNd : (Try.prog.info? 85).map (·.size) = some 2 := by kernel_rfl
/-- a node's two cells -/
def ndC (x : Nd) (v : Value) : Array Value := #[iv x.id, v]
theorem SlN.range {w : World} {B : Nat} {A : Option Addr} {n c : Nat} {F : List Nd} (h : SlN w B A n c F) {i : Nat} (hi : i < F.length) :
    ∃ b o v, A = some ⟨b, o, none⟩ ∧ b < B ∧ NdV w B F[i] v ∧ w.rangeAt b (o + i * 2) [iv F[i].id, v] ∧ w.cell? ⟨b, o + i * 2 + 1, none⟩ = some v := by
  obtain ⟨b, o, v, h1, h2, h3, h4, h5⟩ := h.get hi
  rw [Nat.mul_comm] at h4 h5
  refine ⟨b, o, v, h1, h2, h3, fun j u hu => ?_, h5⟩
  match j, hu with
  | 0, hu =>
    injection hu with hu
    subst hu
    exact h4
  | 1, hu =>
    injection hu with hu
    subst hu
    exact h5
  | j + 2, hu => simp at hu
theorem NdV.one2 {w : World} {B : Nat} {x : Nd} {v : Value} (h : NdV w B x v) : (ndC x v).all (·.oneCell') = true := by
  obtain ⟨A, c, rfl, _⟩ := h.kids
  simp [ndC, Value.oneCell', iv]

theorem NdV.cell1 {w : World} {B : Nat} {x : Nd} {v : Value} (h : NdV w B x v) : v.oneCell' = true := by
  obtain ⟨A, c, rfl, _⟩ := h.kids
  rfl
theorem flat_one {w : World} {B : Nat} : ∀ {F : List Nd} {vs : List Value}, NdL w B F vs → ∀ u ∈ flatV F vs, u.oneCell' = true
  | [], [], _, u, hu => by simp [flatV] at hu
  | x :: F, v :: vs, ⟨h1, h2⟩, u, hu => by
    rw [flatV] at hu
    rcases List.mem_cons.1 hu with rfl | hu
    · rfl
    · rcases List.mem_cons.1 hu with rfl | hu
      · exact h1.cell1
      · exact flat_one h2 u hu

section
variable {P : Program} (w : World)
/-- append of what reads as 'news' (nil let in), cells of any number each, onto a row of the call's own -/
theorem run_append_rdZ (base : Nat) (t ty e : TypeId) (i : TypeInfo) (z : Value) (size bytes : Nat) (ht : P.underlying t = some (.slice e)) (hi : P.info? e = some i) (hz : i.zero = some z)
    (hsize : i.size = size) (hby : i.bytes = bytes) (hzs : z.cells.size = size) (hsz : 0 < size)
    (v : Value) (n : Nat) (xs : List Value) (hown : w.ownsRow base e size v n xs)
    (B : Nat) (A : Option Addr) (m c : Nat) (news : List Value) (hr : Rd w B A (m * size) news) (h1 : ∀ u ∈ news, u.oneCell' = true)
    (h63 : n + m ≤ maxLen) (hbytes : (n + m) * bytes ≤ 140737488355328) (hbase : base ≤ w.heap.size) :
    ∃ v' w', (Builtin.append_ #[t, t] ty #[v, .slice A m c]).run P w = .ok v' w' ∧ w'.ownsRow base e size v' (n + m) (xs ++ news) ∧ w.grownBy w' v.ownBlock ∧
      (v'.ownBlock = v.ownBlock ∨ v'.ownBlock = some w.heap.size) := by
  rcases A with _ | ad
  · have hm : m = 0 := by
      rcases Nat.eq_zero_or_pos m with h0 | h0
      · exact h0
      · obtain ⟨b, o, h, _⟩ := hr.pos (Nat.mul_pos h0 hsz)
        cases h
    subst hm
    have hn : news = [] := List.eq_nil_of_length_eq_zero (by rw [hr.len, Nat.zero_mul])
    subst hn
    refine ⟨v, w, ?_, by simpa using hown, World.grownBy.refl w _, .inl rfl⟩
    rcases hown.2 with ⟨rfl, rfl⟩ | ⟨g, cap, cur, rfl, _, _, hnc, _⟩
    · simp [Builtin.append_, run_underlying ht, sizeOf, typeInfo, hi, Builtin.lenOf, Builtin.firstCells]
    · simp [Builtin.append_, run_underlying ht, sizeOf, typeInfo, hi, Builtin.lenOf, Builtin.firstCells, hnc, storeCells]
  · have hcells : ∀ j u, news[j]? = some u → w.cell? (ad.add j) = some u := by
      intro j u hu
      rcases Nat.eq_zero_or_pos m with h0 | h0
      · subst h0
        have hn : news = [] := List.eq_nil_of_length_eq_zero (by rw [hr.len, Nat.zero_mul])
        subst hn
        simp at hu
      · obtain ⟨b, o, h, _, hc⟩ := hr.pos (Nat.mul_pos h0 hsz)
        injection h with h
        subst h
        rw [Addr.add_lit]
        exact hc j u hu
    obtain ⟨v', w', hrun, h2, h3, _, h5⟩ := run_append_own_at (P := P) w base t ty e i z size bytes ht hi hz hsize hby hzs hsz v n xs hown ad m c news hr.len hcells h1 h63 hbytes hbase
    exact ⟨v', w', hrun, h2, h3, h5⟩
end
/-- nodes are appended onto nodes of the call's own -/
theorem wpList_append_nd {ops : Array Oper} {rest : List Oper} {o : Oper} {a : Act} {w : World} {Q : Exit → Act → World → Prop} (hgd : Region.wanted o (yielded ops a.tmps) = true) (s x : Operand)
    (ho : o.op = .call { callee := .builtin .append, args := #[s, x], argTypes := #[83, 83] })
    (base : Nat) (A : Option Addr) (n c : Nat) (F : List Nd) (vs : List Value) (hs : a.eval s = .slice A n c) (hown : w.ownsRow base 85 2 (.slice A n c) n (flatV F vs))
    (B : Nat) (A' : Option Addr) (m c' : Nat) (G : List Nd) (us : List Value) (hx : a.eval x = .slice A' m c') (hG : NdL w B G us) (hr : Rd w B A' (2 * m) (flatV G us))
    (h63 : n + m ≤ 1000000000) (hbase : base ≤ w.heap.size) (hvl : vs.length = F.length)
    (h : ∀ A2 c2 w', w'.ownsRow base 85 2 (.slice A2 (n + m) c2) (n + m) (flatV (F ++ G) (vs ++ us)) → w.grownBy w' (Value.slice A n c).ownBlock → ((Value.slice A2 (n + m) c2).ownBlock = (Value.slice A n c).ownBlock ∨ (Value.slice A2 (n + m) c2).ownBlock = some w.heap.size) → wpList Try.prog ops Q rest (a.put o.dst (.slice A2 (n + m) c2)) w') : wpList Try.prog ops Q (o :: rest) a w := by
  obtain ⟨i, hi, hz, hsz, hby⟩ := node_parts
  refine wpList_step fun _ hK => ?_
  rw [if_pos hgd]
  obtain ⟨v', w', hrun, h2, h3, h4⟩ := run_append_rdZ (P := Try.prog) w base 83 o.type 85 i _ 2 32 Try.underlying83 hi hz hsz hby rfl (by omega) _ n _ hown B A' m c' (flatV G us) (by rw [Nat.mul_comm]; exact hr) (flat_one hG) (by simp only [maxLen]; omega) (by omega) hbase
  obtain ⟨A2, c2, rfl, _, _⟩ := own_formT h2
  unfold Oper.wp execOp
  simp only [ho, resolve, invoke, builtin, Sem.run_bind, Sem.run_pure, Result.andThen_ok, List.map_toArray, List.map_cons, List.map_nil, hs, hx, hrun]
  refine hK _ _ (h A2 c2 w' ?_ h3 h4)
  rw [flatV_app hvl]
  exact h2
/-- an own row of nodes reads as its nodes -/
theorem SlN.of_own {w : World} {base : Nat} {A : Option Addr} {n c : Nat} {F : List Nd} {vs : List Value} (h : w.ownsRow base 85 2 (.slice A n c) n (flatV F vs)) (hF : NdL w w.heap.size F vs) : SlN w w.heap.size A n c F := by
  have hl := h.1
  rw [flatV_len hF.len] at hl
  obtain ⟨A1, c1, e, h1, h2⟩ := own_formT h
  injection e with e1 e2 e3
  subst e1 e3
  refine ⟨by omega, h1, h2, vs, hF, by rw [flatV_len hF.len]; omega, fun hn => ?_⟩
  obtain ⟨g, cap, hv, _, hlt⟩ := h.form (by omega)
  have hA : A = some ⟨g, 0, none⟩ := by injection hv
  subst hA
  refine ⟨g, 0, rfl, hlt, fun j u hu => ?_⟩
  have := h.cells (g := g) rfl j u hu
  rw [Addr.add_lit] at this
  exact this

end Go.Proofs.Ytmganbdbihjbmaa

/-
  A BOX OUT OF SIGHT: what reads in a world one of whose boxes is empty lies in other blocks; a store into that box leaves it.
-/
set_option linter.unusedVariables false
namespace Go.Proofs.Ytmganbdbihjbmaa
open Go.RowKit

/-- the world without what one box holds -/
def hid1 (w : World) (g : Nat) : World := w.setRow g #[]
theorem hid1_size (w : World) (g : Nat) : (hid1 w g).heap.size = w.heap.size := by simp [hid1, World.setRow]
theorem hid1_setCell (w : World) (g i : Nat) (v : Value) : hid1 (w.setCell ⟨g, i, none⟩ v) g = hid1 w g := by
  unfold hid1 World.setRow World.setCell
  congr 1
  apply Array.ext_getElem?
  intro k
  simp only [Array.getElem?_modify]
  by_cases h : g = k
  · simp only [h, if_true]
    cases w.heap[k]? with
    | none => rfl
    | some o => cases o <;> rfl
  · simp [h]
theorem Rd.unhide1 {w : World} {g : Nat} {t : TypeId} {cs : Array Value} (hg : RowC w g t cs) {B n : Nat} {A : Option Addr} {xs : List Value} (h : Rd (hid1 w g) B A n xs) : Rd w B A n xs ∧ (0 < n → ∀ ad, A = some ad → ad.block ≠ g) := by
  have hrow : (hid1 w g).heap[g]? = some (.cells #[] t (0, 0)) := setRow_heap w g cs #[] t (0, 0) hg
  have hne : 0 < n → ∀ ad, A = some ad → ad.block ≠ g := by
    intro hn ad had e
    obtain ⟨b, o, h1, h2, h3⟩ := h.pos hn
    rw [h1] at had
    injection had with had
    subst had
    have hb : b = g := e
    subst hb
    obtain ⟨u, hu⟩ : ∃ u, xs[0]? = some u := ⟨_, List.getElem?_eq_getElem (by rw [h.len]; exact hn)⟩
    have := h3 0 u hu
    rw [cell_of_row _ b (o + 0) #[] t (0, 0) hrow] at this
    simp at this
  refine ⟨⟨h.len, fun hn => ?_⟩, hne⟩
  obtain ⟨b, o, h1, h2, h3⟩ := h.pos hn
  refine ⟨b, o, h1, h2, fun j u hu => ?_⟩
  rw [← h3 j u hu]
  exact (cell_setRow_other w g #[] ⟨b, o + j, none⟩ (show b ≠ g from hne hn ⟨b, o, none⟩ h1)).symm
theorem Rd.hide1 {w : World} {g : Nat} {B n : Nat} {A : Option Addr} {xs : List Value} (h : Rd w B A n xs) (hne : 0 < n → ∀ ad, A = some ad → ad.block ≠ g) : Rd (hid1 w g) B A n xs := by
  refine ⟨h.len, fun hn => ?_⟩
  obtain ⟨b, o, h1, h2, h3⟩ := h.pos hn
  refine ⟨b, o, h1, h2, fun j u hu => ?_⟩
  rw [← h3 j u hu]
  exact cell_setRow_other w g #[] ⟨b, o + j, none⟩ (show b ≠ g from hne hn ⟨b, o, none⟩ h1)
theorem hid_keep1 {w w' : World} {g : Nat} {t : TypeId} {cs : Array Value} (hg : RowC w g t cs) {B B' : Nat} (hk : ∀ (A : Option Addr) (n : Nat) (xs : List Value), Rd w B A n xs → Rd w' B' A n xs) :
    ∀ (A : Option Addr) (n : Nat) (xs : List Value), Rd (hid1 w g) B A n xs → Rd (hid1 w' g) B' A n xs := fun A n xs h =>
  have h1 := h.unhide1 hg
  (hk _ _ _ h1.1).hide1 h1.2
theorem hid_low1 {w : World} {g : Nat} {B : Nat} (hB : B ≤ g) : ∀ (A : Option Addr) (n : Nat) (xs : List Value), Rd w B A n xs → Rd (hid1 w g) B A n xs := fun A n xs h =>
  h.hide1 fun hn ad had => by
    obtain ⟨b, o, h1, h2, _⟩ := h.pos hn
    rw [h1] at had
    injection had with had
    subst had
    show b ≠ g
    omega
theorem unhid1 {w : World} {g : Nat} {t : TypeId} {cs : Array Value} (hg : RowC w g t cs) {B : Nat} : ∀ (A : Option Addr) (n : Nat) (xs : List Value), Rd (hid1 w g) B A n xs → Rd w B A n xs := fun A n xs h => (h.unhide1 hg).1
theorem own_hide1 {w : World} {g base : Nat} {e : TypeId} {size : Nat} {v : Value} {n : Nat} {xs : List Value} (h : w.ownsRow base e size v n xs) (hg : g < base) : (hid1 w g).ownsRow base e size v n xs := by
  refine ⟨h.1, ?_⟩
  rcases h.2 with hn | ⟨k, cap, cur, hv, hb, hc, rest⟩
  · exact .inl hn
  · exact .inr ⟨k, cap, cur, hv, hb, by rw [hid1, setRow_other w g k #[] (by omega)]; exact hc, rest⟩
/-- two boxes -/
structure Bx (w : World) (g g' : Nat) : Prop where
  ne : g' ≠ g
  one : ∃ t cs, RowC w g t cs
  two : ∃ t cs, RowC w g' t cs
theorem Bx.inner {w : World} {g g' : Nat} (h : Bx w g g') : ∃ t cs, RowC (hid1 w g) g' t cs := by
  obtain ⟨t, cs, hr⟩ := h.two
  exact ⟨t, cs, hr.rowFar h.ne #[]⟩
/-- the world without what two boxes hold -/
def hidB (w : World) (g g' : Nat) : World := hid1 (hid1 w g) g'
theorem hidB_size (w : World) (g g' : Nat) : (hidB w g g').heap.size = w.heap.size := by rw [hidB, hid1_size, hid1_size]
theorem hidB_setCell (w : World) (g g' i : Nat) (v : Value) : hidB (w.setCell ⟨g, i, none⟩ v) g g' = hidB w g g' := by rw [hidB, hid1_setCell]; rfl
theorem Rd.unhide {w : World} {g g' : Nat} (hg : Bx w g g') {B n : Nat} {A : Option Addr} {xs : List Value} (h : Rd (hidB w g g') B A n xs) : Rd w B A n xs ∧ (0 < n → ∀ ad, A = some ad → ad.block ≠ g ∧ ad.block ≠ g') := by
  obtain ⟨t, cs, hr⟩ := hg.inner
  obtain ⟨t2, cs2, hr2⟩ := hg.one
  have h1 := Rd.unhide1 hr h
  have h2 := Rd.unhide1 hr2 h1.1
  exact ⟨h2.1, fun hn ad had => ⟨h2.2 hn ad had, h1.2 hn ad had⟩⟩
theorem Rd.hide {w : World} {g g' : Nat} {B n : Nat} {A : Option Addr} {xs : List Value} (h : Rd w B A n xs) (hne : 0 < n → ∀ ad, A = some ad → ad.block ≠ g ∧ ad.block ≠ g') : Rd (hidB w g g') B A n xs :=
  (h.hide1 fun hn ad had => (hne hn ad had).1).hide1 fun hn ad had => (hne hn ad had).2
theorem hid_keep {w w' : World} {g g' : Nat} (hg : Bx w g g') {B B' : Nat} (hk : ∀ (A : Option Addr) (n : Nat) (xs : List Value), Rd w B A n xs → Rd w' B' A n xs) :
    ∀ (A : Option Addr) (n : Nat) (xs : List Value), Rd (hidB w g g') B A n xs → Rd (hidB w' g g') B' A n xs := fun A n xs h =>
  have h1 := h.unhide hg
  (hk _ _ _ h1.1).hide h1.2
theorem hid_low {w : World} {g g' : Nat} {B : Nat} (hB : B ≤ g) (hB' : B ≤ g') : ∀ (A : Option Addr) (n : Nat) (xs : List Value), Rd w B A n xs → Rd (hidB w g g') B A n xs := fun A n xs h =>
  hid_low1 hB' _ _ _ (hid_low1 hB _ _ _ h)
theorem unhid {w : World} {g g' : Nat} (hg : Bx w g g') {B : Nat} : ∀ (A : Option Addr) (n : Nat) (xs : List Value), Rd (hidB w g g') B A n xs → Rd w B A n xs := fun A n xs h => (h.unhide hg).1
theorem own_hide {w : World} {g g' base : Nat} {e : TypeId} {size : Nat} {v : Value} {n : Nat} {xs : List Value} (h : w.ownsRow base e size v n xs) (hg : g < base) (hg' : g' < base) : (hidB w g g').ownsRow base e size v n xs := own_hide1 (own_hide1 h hg) hg'
/-- what reads with the boxes out of sight reads after the second one has been written -/
theorem hid_row {w : World} {g g' : Nat} (hg : Bx w g g') (cs : Array Value) {B : Nat} : ∀ (A : Option Addr) (n : Nat) (xs : List Value), Rd (hidB w g g') B A n xs → Rd (w.setRow g' cs) B A n xs := fun A n xs h => by
  have h1 := h.unhide hg
  refine ⟨h1.1.len, fun hn => ?_⟩
  obtain ⟨b, o, e1, e2, e3⟩ := h1.1.pos hn
  refine ⟨b, o, e1, e2, fun j u hu => ?_⟩
  rw [cell_setRow_other w g' cs ⟨b, o + j, none⟩ (show b ≠ g' from (h1.2 hn ⟨b, o, none⟩ e1).2)]
  exact e3 j u hu
theorem Ms.setCellT {w0 w : World} {g : Nat} {t : TypeId} {cs : Array Value} {L : List (Nat × TypeId × Array Value)} (h : Ms w0 w ((g, t, cs) :: L)) (hg : w0.heap.size ≤ g) (hne : ∀ p ∈ L, p.1 ≠ g) (i : Nat) (v : Value) :
    Ms w0 (w.setCell ⟨g, i, none⟩ v) ((g, t, cs.setIfInBounds i v) :: L) :=
  ⟨h.old.setCell hg _, fun p hp => by
    rcases List.mem_cons.1 hp with rfl | hp
    · exact (h.rows (g, t, cs) (by simp)).set_ i v
    · exact (h.rows p (by simp [hp])).far (hne p hp) v⟩

/-- a node of a slice, read in the world itself -/
theorem SlN.rangeH {w : World} {g g' : Nat} (hg : Bx w g g') {B : Nat} {A : Option Addr} {n c : Nat} {F : List Nd} (h : SlN (hidB w g g') B A n c F) {i : Nat} (hi : i < F.length) :
    ∃ b o v, A = some ⟨b, o, none⟩ ∧ b < B ∧ NdV (hidB w g g') B F[i] v ∧ w.rangeAt b (o + i * 2) [iv F[i].id, v] ∧ w.cell? ⟨b, o + i * 2 + 1, none⟩ = some v := by
  obtain ⟨h1, h2, h3, vs, h4, h5⟩ := h
  have h6 := (h5.unhide hg).1
  obtain ⟨b, o, e, hb, hc⟩ := h6.pos (by omega)
  obtain ⟨v, r1, r2, r3, r4⟩ := h4.get hi
  have c1 := hc _ _ r3
  have c2 := hc _ _ r4
  rw [show o + (2 * i + 1) = o + i * 2 + 1 by omega] at c2
  rw [show o + 2 * i = o + i * 2 by omega] at c1
  refine ⟨b, o, v, e, hb, r2, fun j u hu => ?_, c2⟩
  match j, hu with
  | 0, hu =>
    injection hu with hu
    subst hu
    exact c1
  | 1, hu =>
    injection hu with hu
    subst hu
    exact c2
  | j + 2, hu => simp at hu

/-- the world without what some blocks hold -/
def vw : List Nat → World → World
  | [], w => w
  | g :: gs, w => vw gs (hid1 w g)
/-- these are blocks of cells -/
def Cells (gs : List Nat) (w : World) : Prop := ∀ g ∈ gs, ∃ t cs, RowC w g t cs
theorem Cells.hid {gs : List Nat} {w : World} (h : Cells gs w) (g : Nat) : Cells gs (hid1 w g) := by
  intro k hk
  obtain ⟨t, cs, hr⟩ := h k hk
  by_cases e : k = g
  · subst e
    exact ⟨t, #[], setRow_heap w k cs #[] t (0, 0) hr⟩
  · exact ⟨t, cs, hr.rowFar e #[]⟩
theorem Cells.below {gs : List Nat} {w w' : World} (h : Cells gs w) (hb : Below w.heap.size w w') : Cells gs w' := fun g hg => by
  obtain ⟨t, cs, hr⟩ := h g hg
  exact ⟨t, cs, hr.call hb⟩
theorem vw_iff : ∀ {gs : List Nat} {w : World}, Cells gs w → ∀ {B n : Nat} {A : Option Addr} {xs : List Value}, Rd (vw gs w) B A n xs ↔ Rd w B A n xs ∧ (0 < n → ∀ ad, A = some ad → ad.block ∉ gs)
  | [], w, _, B, n, A, xs => ⟨fun h => ⟨h, fun _ _ _ => by simp⟩, fun h => h.1⟩
  | g :: gs, w, hc, B, n, A, xs => by
    have hc2 : Cells gs (hid1 w g) := Cells.hid (fun k hk => hc k (by simp [hk])) g
    obtain ⟨t, cs, hr⟩ := hc g (by simp)
    rw [vw, vw_iff hc2]
    constructor
    · rintro ⟨h1, h2⟩
      obtain ⟨h3, h4⟩ := Rd.unhide1 hr h1
      exact ⟨h3, fun hn ad had hm => by
        rcases List.mem_cons.1 hm with e | hm
        · exact h4 hn ad had e
        · exact h2 hn ad had hm⟩
    · rintro ⟨h1, h2⟩
      exact ⟨h1.hide1 fun hn ad had e => h2 hn ad had (by simp [e]), fun hn ad had hm => h2 hn ad had (by simp [hm])⟩
theorem vw_keep {gs : List Nat} {w w' : World} (hc : Cells gs w) (hc' : Cells gs w') {B B' : Nat} (hk : ∀ (A : Option Addr) (n : Nat) (xs : List Value), Rd w B A n xs → Rd w' B' A n xs) :
    ∀ (A : Option Addr) (n : Nat) (xs : List Value), Rd (vw gs w) B A n xs → Rd (vw gs w') B' A n xs := fun A n xs h =>
  have h1 := (vw_iff hc).1 h
  (vw_iff hc').2 ⟨hk _ _ _ h1.1, h1.2⟩
theorem vw_un {gs : List Nat} {w : World} (hc : Cells gs w) {B : Nat} : ∀ (A : Option Addr) (n : Nat) (xs : List Value), Rd (vw gs w) B A n xs → Rd w B A n xs := fun _ _ _ h => ((vw_iff hc).1 h).1
/-- what lies in other blocks is kept where a block out of sight, or a later one, grows -/
theorem vw_grown {gs : List Nat} {w w' : World} {row : Option Nat} (hc : Cells gs w) (hc' : Cells gs w') (hg : w.grownBy w' row) {B : Nat} (hr : ∀ k, row = some k → k ∈ gs ∨ B ≤ k) (hB : B ≤ w.heap.size) :
    ∀ (A : Option Addr) (n : Nat) (xs : List Value), Rd (vw gs w) B A n xs → Rd (vw gs w') B A n xs := fun A n xs h => by
  have h1 := (vw_iff hc).1 h
  refine (vw_iff hc').2 ⟨⟨h1.1.len, fun hn => ?_⟩, h1.2⟩
  obtain ⟨b, o, e1, e2, e3⟩ := h1.1.pos hn
  have hne : b ∉ gs := fun e => h1.2 hn _ e1 e
  refine ⟨b, o, e1, e2, fun j u hu => ?_⟩
  rw [← e3 j u hu]
  exact World.cell?_of_block (hg.block b (by omega) (fun e => by
    rcases hr b e.symm with h2 | h2
    · exact hne h2
    · omega))
/-- what lies in other blocks than an own row is kept, and lies so still, where that row grows -/
theorem vw_step {gs : List Nat} {w w' : World} {v v' : Value} (hc : Cells (v.ownBlock.toList ++ gs) w) (hcg : Cells gs w') (hc' : Cells (v'.ownBlock.toList ++ gs) w')
    (hg : w.grownBy w' v.ownBlock) (hat : v'.ownBlock = v.ownBlock ∨ v'.ownBlock = some w.heap.size) {B : Nat} (hB : B ≤ w.heap.size) :
    ∀ (A : Option Addr) (n : Nat) (xs : List Value), Rd (vw (v.ownBlock.toList ++ gs) w) B A n xs → Rd (vw (v'.ownBlock.toList ++ gs) w') B A n xs := fun A n xs h => by
  have h1 := (vw_iff hc).1 h
  refine (vw_iff hc').2 ⟨⟨h1.1.len, fun hn => ?_⟩, fun hn ad had hm => ?_⟩
  · obtain ⟨b, o, e1, e2, e3⟩ := h1.1.pos hn
    have hne : b ∉ v.ownBlock.toList ++ gs := fun e => h1.2 hn _ e1 e
    refine ⟨b, o, e1, e2, fun j u hu => ?_⟩
    rw [← e3 j u hu]
    exact World.cell?_of_block (hg.block b (by omega) (fun e => hne (by rw [← e]; simp)))
  · obtain ⟨b, o, e1, e2, _⟩ := h1.1.pos hn
    rw [e1] at had
    injection had with had
    subst had
    have hne : b ∉ v.ownBlock.toList ++ gs := fun e => h1.2 hn _ e1 e
    have hm' : b ∈ v'.ownBlock.toList ++ gs := hm
    rcases hat with h2 | h2
    · rw [h2] at hm'
      exact hne hm'
    · rw [h2] at hm'
      rcases List.mem_append.1 hm' with h3 | h3
      · simp at h3
        omega
      · exact hne (by simp [h3])
theorem vw_less {l gs : List Nat} {w : World} (hc : Cells (l ++ gs) w) {B : Nat} : ∀ (A : Option Addr) (n : Nat) (xs : List Value), Rd (vw (l ++ gs) w) B A n xs → Rd (vw gs w) B A n xs := fun A n xs h => by
  have h1 := (vw_iff hc).1 h
  exact (vw_iff (fun g hg => hc g (by simp [hg]))).2 ⟨h1.1, fun hn ad had hm => h1.2 hn ad had (by simp [hm])⟩
theorem vw_more {l gs : List Nat} {w : World} (hc : Cells (l ++ gs) w) {B B' : Nat} (hl : ∀ k ∈ l, B ≤ k) (hB : B ≤ B') : ∀ (A : Option Addr) (n : Nat) (xs : List Value), Rd (vw gs w) B A n xs → Rd (vw (l ++ gs) w) B' A n xs := fun A n xs h => by
  have h1 := (vw_iff (fun g hg => hc g (by simp [hg]))).1 h
  refine (vw_iff hc).2 ⟨h1.1.more hB, fun hn ad had hm => ?_⟩
  rcases List.mem_append.1 hm with hm | hm
  · obtain ⟨b, o, e1, e2, _⟩ := h1.1.pos hn
    rw [e1] at had
    injection had with had
    subst had
    have h3 : B ≤ b := hl _ hm
    omega
  · exact h1.2 hn ad had hm
theorem vw_new {gs : List Nat} {w : World} (hc : Cells gs w) {B n lo : Nat} {A : Option Addr} {xs : List Value} (h : Rd w B A n xs) (hlo : ∀ ad, A = some ad → lo ≤ ad.block) (hg : ∀ g ∈ gs, g < lo) : Rd (vw gs w) B A n xs :=
  (vw_iff hc).2 ⟨h, fun hn ad had hm => by
    have h1 := hlo ad had
    have h2 := hg _ hm
    omega⟩
theorem own_vw : ∀ {gs : List Nat} {w : World} {base : Nat} {e : TypeId} {size : Nat} {v : Value} {n : Nat} {xs : List Value}, w.ownsRow base e size v n xs → (∀ g ∈ gs, g < base) → (vw gs w).ownsRow base e size v n xs
  | [], w, base, e, size, v, n, xs, h, _ => h
  | g :: gs, w, base, e, size, v, n, xs, h, hg => own_vw (gs := gs) (w := hid1 w g) (own_hide1 h (hg g (by simp))) (fun k hk => hg k (by simp [hk]))
theorem vw_size : ∀ (gs : List Nat) (w : World), (vw gs w).heap.size = w.heap.size
  | [], w => rfl
  | g :: gs, w => by rw [vw, vw_size gs, hid1_size]
theorem Cells.lt {gs : List Nat} {w : World} (h : Cells gs w) : ∀ g ∈ gs, g < w.heap.size := fun g hg => by
  obtain ⟨t, cs, hr⟩ := h g hg
  exact hr.lt
theorem Cells.own {gs : List Nat} {w : World} (h : Cells gs w) {base : Nat} {e : TypeId} {size : Nat} {v : Value} {n : Nat} {xs : List Value} (ho : w.ownsRow base e size v n xs) : Cells (v.ownBlock.toList ++ gs) w := by
  intro g hg
  rcases List.mem_append.1 hg with hg | hg
  · rcases ho.2 with ⟨h1, _⟩ | ⟨k, cap, cur, h1, h2, h3, _⟩
    · subst h1; simp [Value.ownBlock] at hg
    · subst h1
      have : k = g := by simpa [Value.ownBlock, eq_comm] using hg
      subst this
      exact ⟨e, cur, h3⟩
  · exact h g hg

/-- a node of a slice, read in the world itself -/
theorem SlN.rangeV {gs : List Nat} {w : World} (hg : Cells gs w) {B : Nat} {A : Option Addr} {n c : Nat} {F : List Nd} (h : SlN (vw gs w) B A n c F) {i : Nat} (hi : i < F.length) :
    ∃ b o v, A = some ⟨b, o, none⟩ ∧ b < B ∧ NdV (vw gs w) B F[i] v ∧ w.rangeAt b (o + i * 2) [iv F[i].id, v] ∧ w.cell? ⟨b, o + i * 2 + 1, none⟩ = some v := by
  obtain ⟨h1, h2, h3, vs, h4, h5⟩ := h
  have h6 := vw_un hg _ _ _ h5
  obtain ⟨b, o, e, hb, hc⟩ := h6.pos (by omega)
  obtain ⟨v, r1, r2, r3, r4⟩ := h4.get hi
  have c1 := hc _ _ r3
  have c2 := hc _ _ r4
  rw [show o + (2 * i + 1) = o + i * 2 + 1 by omega] at c2
  rw [show o + 2 * i = o + i * 2 by omega] at c1
  refine ⟨b, o, v, e, hb, r2, fun j u hu => ?_, c2⟩
  match j, hu with
  | 0, hu =>
    injection hu with hu
    subst hu
    exact c1
  | 1, hu =>
    injection hu with hu
    subst hu
    exact c2
  | j + 2, hu => simp at hu

end Go.Proofs.Ytmganbdbihjbmaa

/-
  CONTRACTS of the document's SameInts and Find (coterieref10).
-/
set_option linter.unusedVariables false
namespace Go.Proofs.Ytmganbdbihjbmaa
open Go.RowKit

theorem SameInts_any (A A' : Option Addr) (k c k' c' : Nat) (l l' : List Int) (w : World) (hk : k ≤ maxLen) (hr : Rd w w.heap.size A k (l.map iv)) (hr' : Rd w w.heap.size A' k' (l'.map iv)) :
    Calls Try.prog 34 #[.slice A k c, .slice A' k' c'] w fun e w' => e = .returned (.bool (l == l')) ∧ Below w.heap.size w w' := by
  have hl : l.length = k := by simpa using hr.len
  have hl' : l'.length = k' := by simpa using hr'.len
  rw [maxLen] at hk
  go_enter Try.func34, Try.ntmps34
  by_cases hkk : k = k'
  rotate_left
  · have e1 : (l == l') = false := by rw [beq_eq_false_iff_ne]; intro e; subst e; omega
    have hne : ¬ (k : Int) = (k' : Int) := by omega
    go_wp2_with fail
    go_ret
    exact ⟨by rw [e1]; rfl, Below.refl _ _⟩
  subst hkk
  go_wp2_with fail
  go_loopw [13] (fun i wr => ∃ j : Nat, j ≤ k ∧ i = .int .i64 (j : Int) ∧ l.take j = l'.take j ∧ Below w.heap.size w wr) (fun i _ => k - (intOf i).toNat)
  case atStart => exact ⟨0, by omega, rfl, rfl, Below.refl _ _⟩
  case round =>
    obtain ⟨j, hj, rfl, ht, hb⟩ := hrel
    by_cases hlt : j < k
    · obtain ⟨x, hx⟩ : ∃ x, l[j]? = some x := ⟨_, List.getElem?_eq_getElem (by omega)⟩
      obtain ⟨y, hy⟩ : ∃ y, l'[j]? = some y := ⟨_, List.getElem?_eq_getElem (by omega)⟩
      have hrw := hr.below hb
      have hrw' := hr'.below hb
      obtain ⟨g, o, rfl, hg, hc⟩ := hrw.pos (by omega)
      obtain ⟨g', o', rfl, hg', hc'⟩ := hrw'.pos (by omega)
      have c1 := hc j (iv x) (by rw [List.getElem?_map, hx]; rfl)
      have c2 := hc' j (iv y) (by rw [List.getElem?_map, hy]; rfl)
      rw [iv_def] at c1 c2
      clear hc hc'
      by_cases hxy : x = y
      · have hn : (x != y) = false := by rw [bne_eq_false_iff_eq]; exact hxy
        have Hs := Lib.hid (show l.take (j + 1) = l'.take (j + 1) by
          rw [List.take_add_one, List.take_add_one, ht, hx, hy, hxy])
        clear hxy hx hy ht
        go_wp2_with fail
        go_quiet (fail)
        go_wp2_with fail
        go_roundw
        case rel => exact ⟨j + 1, by omega, by go_num, Hs.out, below_drewN hb _⟩
        case measure => simp [intOf]; omega
      · have hn : (x != y) = true := by rw [bne_iff_ne]; exact hxy
        have Hs := Lib.hid (show (l == l') = false by
          rw [beq_eq_false_iff_ne]
          rintro rfl
          rw [hx] at hy
          exact hxy (Option.some.inj hy))
        clear hxy hx hy ht
        go_wp2_with fail
        go_quiet (fail)
        go_wp2_with fail
        go_ret
        exact ⟨by rw [Hs.out]; rfl, below_drewN hb _⟩
    · obtain rfl : j = k := by omega
      go_wp2_with fail
      go_ret
      rw [List.take_of_length_le (by omega), List.take_of_length_le (by omega)] at ht
      exact ⟨by rw [ht]; simp, hb⟩

def fewT (ids : List Int) (ll : List (List Int)) : Bool := ll.all (fun l => decide (l.length ≤ 1100)) && (decide (ids.length ≤ 1100) && decide (ll.length ≤ 20))
theorem all_take {α : Type} (p : α → Bool) {l : List α} {j : Nat} {x : α} (h : (l.take j).all p = true) (hx : l[j]? = some x) (hp : p x = true) : (l.take (j + 1)).all p = true := by
  rw [List.take_add_one, hx, List.all_append, h]
  simp [hp]
theorem all_not {α : Type} (p : α → Bool) {l : List α} {j : Nat} {x : α} (hx : l[j]? = some x) (hp : p x = false) : l.all p = false := by
  rw [List.all_eq_false]
  exact ⟨x, List.mem_of_getElem? hx, by simp [hp]⟩
theorem FewT_any (Ai : Option Addr) (ni ci : Nat) (Al : Option Addr) (nl cl : Nat) (ids : List Int) (ll : List (List Int)) (w : World) (h : ShR w w.heap.size Ai ni ci Al nl cl ids ll) :
    Calls Try.prog 25 #[.agg (shV Ai ni ci Al nl cl)] w fun e w' => e = .returned (.bool (fewT ids ll)) ∧ Below w.heap.size w w' := by
  have Hni := Lib.hid h.hni
  have Hnl := Lib.hid h.hnl
  have hml := h.hml
  have hcl := h.hcl
  obtain ⟨vs, hv, hlv⟩ := h.lvs
  rw [maxLen] at hml
  rw [shV]
  go_enter Try.func25, Try.ntmps25
  go_wp2_with fail
  go_loopw [8] (fun i wr => ∃ j : Nat, j ≤ nl ∧ i = .int .i64 (j : Int) ∧ (ll.take j).all (fun l => decide (l.length ≤ 1100)) = true ∧ RowC wr w.heap.size 25 #[.slice Ai ni ci, .slice Al nl cl] ∧ Below w.heap.size w wr) (fun i _ => nl - (intOf i).toNat)
  case atStart => exact ⟨0, by omega, rfl, rfl, RowC.new _ _ _, (Below.refl _ _).alloc (Nat.le_refl _) _⟩
  case round =>
    obtain ⟨j, hj, rfl, ht, hR, hb⟩ := hrel
    by_cases hlt : j < nl
    · obtain ⟨A, c, hvj, hc, hm, hrj⟩ := hlv.get (show j < ll.length by rw [Hnl.out]; exact hlt)
      obtain ⟨g, o, rfl, hg, hcell⟩ := (hv.below hb).pos (by omega)
      have c1 := hcell j _ hvj
      have Hlj := Lib.hid (List.getElem?_eq_getElem (show j < ll.length by rw [Hnl.out]; exact hlt))
      clear hcell hvj hrj
      generalize ll[j]'(by rw [Hnl.out]; exact hlt) = l at *
      rw [maxLen] at hm
      by_cases hbig : l.length ≤ 1100
      · have hbig' : ¬ (1100 : Int) < (l.length : Int) := by omega
        have Ht := Lib.hid (all_take _ ht Hlj.out (decide_eq_true hbig))
        clear ht
        go_wp2_with fail
        go_roundw
        case rel => exact ⟨j + 1, by omega, by go_num, Ht.out, hR, hb⟩
        case measure => simp [intOf]; omega
      · have hbig' : (1100 : Int) < (l.length : Int) := by omega
        have Hf := Lib.hid (show fewT ids ll = false by rw [fewT, all_not _ Hlj.out (decide_eq_false hbig)]; rfl)
        clear ht
        go_wp2_with fail
        go_ret
        exact ⟨by rw [Hf.out]; rfl, hb⟩
    · obtain rfl : j = nl := by omega
      rw [List.take_of_length_le (by rw [Hnl.out]; exact Nat.le_refl _)] at ht
      have hc0 := hR.cell (i := 0) (v := .slice Ai ni ci) rfl
      have hc1 := hR.cell (i := 1) (v := .slice Al j cl) rfl
      by_cases hi : ni ≤ 1100
      · have e1 : (ni : Int) ≤ 1100 := by omega
        have Hf := Lib.hid (show fewT ids ll = decide ((j : Int) ≤ 20) by rw [fewT, ht, Hni.out, Hnl.out]; simp [hi]; omega)
        clear ht
        go_wp2_with fail
        go_ret
        exact ⟨by rw [Hf.out]; rfl, hb⟩
      · have e1 : ¬ (ni : Int) ≤ 1100 := by omega
        have Hf := Lib.hid (show fewT ids ll = false by rw [fewT, Hni.out, decide_eq_false hi]; simp)
        clear ht
        go_wp2_with fail
        go_ret
        exact ⟨by rw [Hf.out]; rfl, hb⟩

end Go.Proofs.Ytmganbdbihjbmaa

