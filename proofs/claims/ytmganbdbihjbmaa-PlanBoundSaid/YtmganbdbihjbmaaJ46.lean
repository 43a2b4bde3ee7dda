import Derived.Test.YtmganbdbihjbmaaJ45
import Derived.Test.YtmganbdbihjbmaaJ42
import Derived.Test.YtmganbdbihjbmaaJ38
import Derived.Test.YtmganbdbihjbmaaJ44
import Derived.Test.YtmganbdbihjbmaaJ29
/-
  HOW MANY ARE SENT TO (layer 12): what stands in the old tree too and is untouched is kept; the rest is counted by levels: pure facts.
-/
set_option linter.unusedVariables false
namespace Go.Proofs.Ytmganbdbihjbmaa

/-- a told tree of nodes is that of a tree of members -/
def RtN (kind : Int) (ids : List Int) : Nd → RT → Prop
  | .leaf id, T => ∃ a, T = .leaf a ∧ ids.getD a 0 = id
  | .one _, _ => False
  | .two x y, T => ∃ lev a l r, T = .two lev a false l r ∧ 0 < lev ∧ RtN kind ids x l ∧ RtN kind ids y r
  | .three x y z, T => ∃ lev a l m r, T = (if kind = 2 then .two lev a false (.two lev a true l m) r else .three lev a l m r) ∧ 0 < lev ∧ RtN kind ids x l ∧ RtN kind ids y m ∧ RtN kind ids z r
/-- a tree's nodes stand at a place of a list of nodes -/
def AtT (L : List RN) (T : RT) (b : Nat) (up : Int) : Prop := ∃ A B, L = A ++ T.flat b up ++ B ∧ A.length = b
theorem AtT.get {L : List RN} {T : RT} {b : Nat} {up : Int} (h : AtT L T b up) {j : Nat} (hj : j < T.size) : L[b + j]? = (T.flat b up)[j]? := by
  obtain ⟨A, B, rfl, hA⟩ := h
  rw [List.append_assoc, List.getElem?_append_right (by omega), List.getElem?_append_left (by rw [RT.flat_len]; omega)]
  congr 1
  omega
theorem AtT.last {L : List RN} {T : RT} {b : Nat} {up : Int} (h : AtT L T b up) : L[b + T.size - 1]? = some (T.node b up) := by
  have h1 := T.size_pos
  have h2 := T.init_len b
  have := h.get (j := T.size - 1) (by omega)
  rw [show b + T.size - 1 = b + (T.size - 1) by omega, this, RT.flat_split, List.getElem?_append_right (by omega), show T.size - 1 - (T.init b).length = 0 by omega]
  rfl
theorem AtT.two {L : List RN} {lev a : Nat} {red : Bool} {l r : RT} {b : Nat} {up : Int} (h : AtT L (.two lev a red l r) b up) :
    AtT L l b ((b + l.size + r.size : Nat) : Int) ∧ AtT L r (b + l.size) ((b + l.size + r.size : Nat) : Int) ∧ L[b + l.size + r.size]? = some ⟨lev, a, red, l.fr, r.to, [b + l.size - 1, b + l.size + r.size - 1], up⟩ := by
  have hl := h.last
  rw [RT.size, show b + (l.size + r.size + 1) - 1 = b + l.size + r.size by omega] at hl
  obtain ⟨A, B, rfl, hA⟩ := h
  refine ⟨⟨A, r.flat (b + l.size) ((b + l.size + r.size : Nat) : Int) ++ [⟨lev, a, red, l.fr, r.to, [b + l.size - 1, b + l.size + r.size - 1], up⟩] ++ B, ?_, hA⟩, ⟨A ++ l.flat b ((b + l.size + r.size : Nat) : Int), [⟨lev, a, red, l.fr, r.to, [b + l.size - 1, b + l.size + r.size - 1], up⟩] ++ B, ?_, ?_⟩, hl⟩
  · rw [RT.flat]; simp only [List.append_assoc]
  · rw [RT.flat]; simp only [List.append_assoc]
  · rw [List.length_append, RT.flat_len, hA]
theorem AtT.three {L : List RN} {lev a : Nat} {l m r : RT} {b : Nat} {up : Int} (h : AtT L (.three lev a l m r) b up) :
    AtT L l b ((b + l.size + m.size + r.size : Nat) : Int) ∧ AtT L m (b + l.size) ((b + l.size + m.size + r.size : Nat) : Int) ∧ AtT L r (b + l.size + m.size) ((b + l.size + m.size + r.size : Nat) : Int) ∧
      L[b + l.size + m.size + r.size]? = some ⟨lev, a, false, l.fr, r.to, [b + l.size - 1, b + l.size + m.size - 1, b + l.size + m.size + r.size - 1], up⟩ := by
  have hl := h.last
  rw [RT.size, show b + (l.size + m.size + r.size + 1) - 1 = b + l.size + m.size + r.size by omega] at hl
  obtain ⟨A, B, rfl, hA⟩ := h
  refine ⟨⟨A, m.flat (b + l.size) ((b + l.size + m.size + r.size : Nat) : Int) ++ (r.flat (b + l.size + m.size) ((b + l.size + m.size + r.size : Nat) : Int) ++ ([⟨lev, a, false, l.fr, r.to, [b + l.size - 1, b + l.size + m.size - 1, b + l.size + m.size + r.size - 1], up⟩] ++ B)), ?_, hA⟩,
    ⟨A ++ l.flat b ((b + l.size + m.size + r.size : Nat) : Int), r.flat (b + l.size + m.size) ((b + l.size + m.size + r.size : Nat) : Int) ++ ([⟨lev, a, false, l.fr, r.to, [b + l.size - 1, b + l.size + m.size - 1, b + l.size + m.size + r.size - 1], up⟩] ++ B), ?_, ?_⟩,
    ⟨A ++ (l.flat b ((b + l.size + m.size + r.size : Nat) : Int) ++ m.flat (b + l.size) ((b + l.size + m.size + r.size : Nat) : Int)), [⟨lev, a, false, l.fr, r.to, [b + l.size - 1, b + l.size + m.size - 1, b + l.size + m.size + r.size - 1], up⟩] ++ B, ?_, ?_⟩, hl⟩
  · rw [RT.flat]; simp only [List.append_assoc]
  · rw [RT.flat]; simp only [List.append_assoc]
  · rw [List.length_append, RT.flat_len, hA]
  · rw [RT.flat]; simp only [List.append_assoc]
  · rw [List.length_append, List.length_append, RT.flat_len, RT.flat_len, hA]; omega

section
variable {kind : Int} {oids ids tl : List Int} {by_ : Int} {was now : List RN}
/-- a node whose own ones are kept as those of an old node is kept as that -/
theorem two_kept {lf : Int → Int} (hn : NF kind ids now) {lev a lev' a' b c : Nat} {red : Bool} {l r l' r' : RT} {up up' : Int} (h : AtT now (.two lev a red l r) b up) (h' : AtT was (.two lev' a' red l' r') c up') (hv : 0 < lev) (el : l.size = l'.size) (er : r.size = r'.size)
    (kl : ∀ j, j < l.size → kpA (keepT was ids lf now) (b + j) = ((c + j : Nat) : Int)) (kr : ∀ j, j < r.size → kpA (keepT was ids lf now) (b + l.size + j) = ((c + l'.size + j : Nat) : Int)) :
    ∀ j, j < (RT.two lev a red l r).size → kpA (keepT was ids lf now) (b + j) = ((c + j : Nat) : Int) := by
  obtain ⟨n1, n2, n3⟩ := h.two
  obtain ⟨w1, w2, w3⟩ := h'.two
  have pl := l.size_pos
  have pr := r.size_pos
  intro j hj
  rw [RT.size] at hj
  rcases Nat.lt_or_ge j l.size with h1 | h1
  · exact kl j h1
  · rcases Nat.lt_or_ge j (l.size + r.size) with h2 | h2
    · have := kr (j - l.size) (by omega)
      rw [show b + l.size + (j - l.size) = b + j by omega, show c + l'.size + (j - l.size) = c + j by omega] at this
      exact this
    · rw [show b + j = b + l.size + r.size by omega, keep_node hn n3 (by simp only; omega)]
      have k1 := kl (l.size - 1) (by omega)
      have k2 := kr (r.size - 1) (by omega)
      rw [show b + (l.size - 1) = b + l.size - 1 by omega] at k1
      rw [show b + l.size + (r.size - 1) = b + l.size + r.size - 1 by omega] at k2
      have hz := w1.last
      rw [show c + l'.size - 1 = c + (l.size - 1) by omega] at hz
      simp only
      rw [asOld_up k1 hz (RT.node_upv _ _ _) w3, if_pos ⟨rfl, by
        simp only [List.map_cons, List.map_nil, castL, k1, k2, List.cons.injEq, and_true]
        exact ⟨by omega, by omega⟩⟩]
      omega
theorem three_kept {lf : Int → Int} (hn : NF kind ids now) {lev a lev' a' b c : Nat} {l m r l' m' r' : RT} {up up' : Int} (h : AtT now (.three lev a l m r) b up) (h' : AtT was (.three lev' a' l' m' r') c up') (hv : 0 < lev) (el : l.size = l'.size) (em : m.size = m'.size) (er : r.size = r'.size)
    (kl : ∀ j, j < l.size → kpA (keepT was ids lf now) (b + j) = ((c + j : Nat) : Int)) (km : ∀ j, j < m.size → kpA (keepT was ids lf now) (b + l.size + j) = ((c + l'.size + j : Nat) : Int)) (kr : ∀ j, j < r.size → kpA (keepT was ids lf now) (b + l.size + m.size + j) = ((c + l'.size + m'.size + j : Nat) : Int)) :
    ∀ j, j < (RT.three lev a l m r).size → kpA (keepT was ids lf now) (b + j) = ((c + j : Nat) : Int) := by
  obtain ⟨n1, n2, n3, n4⟩ := h.three
  obtain ⟨w1, w2, w3, w4⟩ := h'.three
  have pl := l.size_pos
  have pm := m.size_pos
  have pr := r.size_pos
  intro j hj
  rw [RT.size] at hj
  rcases Nat.lt_or_ge j l.size with h1 | h1
  · exact kl j h1
  · rcases Nat.lt_or_ge j (l.size + m.size) with h2 | h2
    · have := km (j - l.size) (by omega)
      rw [show b + l.size + (j - l.size) = b + j by omega, show c + l'.size + (j - l.size) = c + j by omega] at this
      exact this
    · rcases Nat.lt_or_ge j (l.size + m.size + r.size) with h3 | h3
      · have := kr (j - l.size - m.size) (by omega)
        rw [show b + l.size + m.size + (j - l.size - m.size) = b + j by omega, show c + l'.size + m'.size + (j - l.size - m.size) = c + j by omega] at this
        exact this
      · rw [show b + j = b + l.size + m.size + r.size by omega, keep_node hn n4 (by simp only; omega)]
        have k1 := kl (l.size - 1) (by omega)
        have k2 := km (m.size - 1) (by omega)
        have k3 := kr (r.size - 1) (by omega)
        rw [show b + (l.size - 1) = b + l.size - 1 by omega] at k1
        rw [show b + l.size + (m.size - 1) = b + l.size + m.size - 1 by omega] at k2
        rw [show b + l.size + m.size + (r.size - 1) = b + l.size + m.size + r.size - 1 by omega] at k3
        have hz := w1.last
        rw [show c + l'.size - 1 = c + (l.size - 1) by omega] at hz
        simp only
        rw [asOld_up k1 hz (RT.node_upv _ _ _) w4, if_pos ⟨rfl, by
          simp only [List.map_cons, List.map_nil, castL, k1, k2, k3, List.cons.injEq, and_true]
          exact ⟨by omega, by omega, by omega⟩⟩]
        omega
/-- what stands in both trees, untouched, is kept, with all below -/
theorem same_kept (hw : NF kind oids was) (hn : NF kind ids now) : ∀ (x : Nd) (T U : RT) (b c : Nat) (up up' : Int), RtN kind ids x T → RtN kind oids x U → AtT now T b up → AtT was U c up' → (∀ id ∈ x.ids, goneT tl by_ id = false) →
    T.size = U.size ∧ ∀ j, j < T.size → kpA (keepT was ids (lfT was oids tl by_) now) (b + j) = ((c + j : Nat) : Int)
  | .leaf id, T, U, b, c, up, up', hT, hU, hb, hc, hg => by
    obtain ⟨a, rfl, e1⟩ := hT
    obtain ⟨a', rfl, e2⟩ := hU
    refine ⟨rfl, fun j hj => ?_⟩
    have h0 : j = 0 := by simp only [RT.size] at hj; omega
    subst h0
    have n1 := hb.last
    have w1 := hc.last
    simp only [RT.size, RT.node, Nat.add_sub_cancel] at n1 w1
    rw [Nat.add_zero, Nat.add_zero, keep_leaf hn n1 rfl]
    simp only [e1]
    rw [← e2]
    exact lfT_leaf hw w1 rfl (by simp only [e2]; exact hg id (by simp [Nd.ids]))
  | .one _, T, U, b, c, up, up', hT, hU, hb, hc, hg => absurd hT (by simp [RtN])
  | .two x y, T, U, b, c, up, up', hT, hU, hb, hc, hg => by
    obtain ⟨lev, a, l, r, rfl, hv, t1, t2⟩ := hT
    obtain ⟨lev', a', l', r', rfl, hv', u1, u2⟩ := hU
    obtain ⟨n1, n2, _⟩ := hb.two
    obtain ⟨w1, w2, _⟩ := hc.two
    obtain ⟨s1, k1⟩ := same_kept hw hn x _ _ _ _ _ _ t1 u1 n1 w1 (fun id h => hg id (by simp [Nd.ids, h]))
    obtain ⟨s2, k2⟩ := same_kept hw hn y _ _ _ _ _ _ t2 u2 n2 w2 (fun id h => hg id (by simp [Nd.ids, h]))
    exact ⟨by rw [RT.size, RT.size, s1, s2], two_kept hn hb hc hv s1 s2 k1 k2⟩
  | .three x y z, T, U, b, c, up, up', hT, hU, hb, hc, hg => by
    obtain ⟨lev, a, l, m, r, eT, hv, t1, t2, t3⟩ := hT
    obtain ⟨lev', a', l', m', r', eU, hv', u1, u2, u3⟩ := hU
    by_cases hk : kind = 2
    · rw [if_pos hk] at eT eU
      subst eT eU
      obtain ⟨n0, n3, _⟩ := hb.two
      obtain ⟨w0, w3, _⟩ := hc.two
      obtain ⟨n1, n2, _⟩ := n0.two
      obtain ⟨w1, w2, _⟩ := w0.two
      obtain ⟨s1, k1⟩ := same_kept hw hn x _ _ _ _ _ _ t1 u1 n1 w1 (fun id h => hg id (by simp [Nd.ids, h]))
      obtain ⟨s2, k2⟩ := same_kept hw hn y _ _ _ _ _ _ t2 u2 n2 w2 (fun id h => hg id (by simp [Nd.ids, h]))
      obtain ⟨s3, k3⟩ := same_kept hw hn z _ _ _ _ _ _ t3 u3 n3 w3 (fun id h => hg id (by simp [Nd.ids, h]))
      have s0 : (RT.two lev a true l m).size = (RT.two lev' a' true l' m').size := by rw [RT.size, RT.size, s1, s2]
      exact ⟨by simp only [RT.size]; omega, two_kept hn hb hc hv s0 s3 (two_kept hn n0 w0 hv s1 s2 k1 k2) k3⟩
    · rw [if_neg hk] at eT eU
      subst eT eU
      obtain ⟨n1, n2, n3, _⟩ := hb.three
      obtain ⟨w1, w2, w3, _⟩ := hc.three
      obtain ⟨s1, k1⟩ := same_kept hw hn x _ _ _ _ _ _ t1 u1 n1 w1 (fun id h => hg id (by simp [Nd.ids, h]))
      obtain ⟨s2, k2⟩ := same_kept hw hn y _ _ _ _ _ _ t2 u2 n2 w2 (fun id h => hg id (by simp [Nd.ids, h]))
      obtain ⟨s3, k3⟩ := same_kept hw hn z _ _ _ _ _ _ t3 u3 n3 w3 (fun id h => hg id (by simp [Nd.ids, h]))
      exact ⟨by rw [RT.size, RT.size, s1, s2, s3], three_kept hn hb hc hv s1 s2 s3 k1 k2 k3⟩
end
/-- so many are sent to at most, of a stretch of nodes -/
def costF (kp : List Int) : Nat → List RN → Nat
  | _, [] => 0
  | i, x :: l => (if isStep kp i x = true then x.kids.length else 0) + costF kp (i + 1) l
theorem costF_app (kp : List Int) : ∀ (i : Nat) (L M : List RN), costF kp i (L ++ M) = costF kp i L + costF kp (i + L.length) M
  | i, [], M => by simp [costF]
  | i, x :: L, M => by
    rw [List.cons_append, costF, costF_app kp (i + 1) L M, costF, List.length_cons, show i + 1 + L.length = i + (L.length + 1) by omega]
    omega
theorem sends_cost (now : List RN) (kp : List Int) (at_ : Nat) : ∀ (i : Nat) (L : List RN), sendsT (stepsT now kp at_ i L) ≤ costF kp i L
  | i, [] => Nat.le_refl _
  | i, x :: L => by
    have h1 := sends_cost now kp at_ (i + 1) L
    have h2 := stK_len (knownB now kp at_) x.kids
    rw [stepsT, costF]
    split
    · rw [show sendsT (stepT now kp at_ i x :: stepsT now kp at_ (i + 1) L) = (stepT now kp at_ i x).send.length + sendsT (stepsT now kp at_ (i + 1) L) from by simp [sendsT]]
      have : (stepT now kp at_ i x).send.length ≤ x.kids.length := by simpa [stepT, castL] using h2
      omega
    · omega
theorem cost_one (kp : List Int) (i : Nat) (x : RN) : costF kp i [x] ≤ x.kids.length ∧ (kpA kp i ≠ -1 → costF kp i [x] = 0) := by
  rw [costF, costF, isStep]
  refine ⟨by split <;> omega, fun h => ?_⟩
  have : (kpA kp i == -1) = false := by rw [beq_eq_false_iff_ne]; exact h
  rw [this, Bool.and_false]
  rfl
theorem dirt_is {S : Nd → Prop} {x : Nd} : (S x → dirt S [x] = 0) ∧ (¬ S x → dirt S [x] = 1) := by
  unfold dirt
  refine ⟨fun h => ?_, fun h => ?_⟩
  · simp [h]
  · simp [h]
theorem dirt_cons {S : Nd → Prop} (x : Nd) (F : List Nd) : dirt S (x :: F) = dirt S [x] + dirt S F := by
  unfold dirt
  rw [show x :: F = [x] ++ F from rfl, List.countP_append]
/-- four for each node that is not so, of a node with all below -/
noncomputable def dirtN (S : Nd → Prop) : Nd → Nat
  | .leaf _ => 0
  | .one x => 4 * dirt S [.one x] + dirtN S x
  | .two x y => 4 * dirt S [.two x y] + (dirtN S x + dirtN S y)
  | .three x y z => 4 * dirt S [.three x y z] + (dirtN S x + dirtN S y + dirtN S z)
noncomputable def dirtF (S : Nd → Prop) : List Nd → Nat
  | [] => 0
  | x :: F => dirtN S x + dirtF S F
theorem dirtF_app (S : Nd → Prop) : ∀ (F G : List Nd), dirtF S (F ++ G) = dirtF S F + dirtF S G
  | [], G => by simp [dirtF]
  | x :: F, G => by rw [List.cons_append, dirtF, dirtF_app S F G, dirtF]; omega
theorem dirtN_kids {S : Nd → Prop} {h : Nat} {x : Nd} (hx : Nd.hi (h + 1) x) : dirtN S x = 4 * dirt S [x] + dirtF S x.kids := by
  cases x with
  | leaf i => exact absurd hx (by simp [Nd.hi])
  | one a => exact absurd hx (by simp [Nd.hi])
  | two a b => simp only [dirtN, Nd.kids, dirtF]; omega
  | three a b c => simp only [dirtN, Nd.kids, dirtF]; omega
theorem dirtF_kids {S : Nd → Prop} {h : Nat} : ∀ {F : List Nd}, allH (h + 1) F → dirtF S F = 4 * dirt S F + dirtF S (kidsF F)
  | [], _ => by simp [dirtF, kidsF, dirt]
  | x :: F, ha => by
    rw [dirtF, dirtN_kids (ha x (by simp)), dirtF_kids (F := F) (fun y hy => ha y (by simp [hy])), dirt_cons x F, kidsF_cons, dirtF_app]
    omega
theorem dirtF_zero {S : Nd → Prop} : ∀ {F : List Nd}, allH 0 F → dirtF S F = 0
  | [], _ => rfl
  | x :: F, ha => by
    obtain ⟨i, rfl⟩ := hi_zero (ha x (by simp))
    rw [dirtF, dirtF_zero (F := F) (fun y hy => ha y (by simp [hy]))]
    rfl
theorem dirtF_le {S : Nd → Prop} {M : Nat} : ∀ (h : Nat) (F : List Nd), allH h F → (∀ d, d < h → dirt S (under d F) ≤ M) → dirtF S F ≤ 4 * (h * M)
  | 0, F, ha, _ => by rw [dirtF_zero ha]; omega
  | h + 1, F, ha, hd => by
    have h1 := dirtF_le (S := S) (M := M) h (kidsF F) (allH_kids ha) (fun d hd' => hd (d + 1) (by omega))
    have h2 : dirt S F ≤ M := hd 0 (by omega)
    rw [dirtF_kids ha, show (h + 1) * M = h * M + M from Nat.succ_mul h M]
    omega
/-- what is sent to is counted by what is not kept -/
theorem cost_dirt {kind : Int} {ids : List Int} {now : List RN} {kp : List Int} {S : Nd → Prop}
    (hS : ∀ (y : Nd) (T : RT) (b : Nat) (up : Int), S y → RtN kind ids y T → AtT now T b up → ∀ j, j < T.size → kpA kp (b + j) ≠ -1) :
    ∀ (x : Nd) (T : RT) (b : Nat) (up : Int), RtN kind ids x T → AtT now T b up → costF kp b (T.flat b up) ≤ dirtN S x
  | .leaf id, T, b, up, hT, hb => by
    obtain ⟨a, rfl, _⟩ := hT
    have := (cost_one kp b ⟨0, a, false, a, a + 1, [], up⟩).1
    rw [RT.flat, dirtN]
    exact this
  | .one _, T, b, up, hT, hb => absurd hT (by simp [RtN])
  | .two x y, T, b, up, hT, hb => by
    have h0 := hS (.two x y) T b up
    obtain ⟨lev, a, l, r, rfl, hv, t1, t2⟩ := hT
    obtain ⟨n1, n2, _⟩ := hb.two
    have c1 := cost_dirt hS x _ _ _ t1 n1
    have c2 := cost_dirt hS y _ _ _ t2 n2
    have h0 := fun s => h0 s ⟨lev, a, l, r, rfl, hv, t1, t2⟩ hb
    rw [RT.flat, costF_app, costF_app, RT.flat_len, List.length_append, RT.flat_len, RT.flat_len, dirtN]
    obtain ⟨o1, o2⟩ := cost_one kp (b + (l.size + r.size)) ⟨lev, a, false, l.fr, r.to, [b + l.size - 1, b + l.size + r.size - 1], up⟩
    simp only [List.length_cons, List.length_nil] at o1
    by_cases hs : S (.two x y)
    · have := o2 (h0 hs (l.size + r.size) (by simp only [RT.size]; omega))
      omega
    · have := (dirt_is (S := S) (x := .two x y)).2 hs
      omega
  | .three x y z, T, b, up, hT, hb => by
    have h0 := fun s => hS (.three x y z) T b up s hT hb
    obtain ⟨lev, a, l, m, r, eT, hv, t1, t2, t3⟩ := hT
    by_cases hk : kind = 2
    · rw [if_pos hk] at eT
      subst eT
      obtain ⟨n0, n3, _⟩ := hb.two
      obtain ⟨n1, n2, _⟩ := n0.two
      have c1 := cost_dirt hS x _ _ _ t1 n1
      have c2 := cost_dirt hS y _ _ _ t2 n2
      have c3 := cost_dirt hS z _ _ _ t3 n3
      rw [RT.flat, costF_app, costF_app, RT.flat_len, List.length_append, RT.flat_len, RT.flat_len, RT.flat, costF_app, costF_app, RT.flat_len, List.length_append, RT.flat_len, RT.flat_len, dirtN]
      obtain ⟨o1, o2⟩ := cost_one kp (b + ((RT.two lev a true l m).size + r.size)) ⟨lev, a, false, (RT.two lev a true l m).fr, r.to, [b + (RT.two lev a true l m).size - 1, b + (RT.two lev a true l m).size + r.size - 1], up⟩
      obtain ⟨q1, q2⟩ := cost_one kp (b + (l.size + m.size)) ⟨lev, a, true, l.fr, m.to, [b + l.size - 1, b + l.size + m.size - 1], ((b + (RT.two lev a true l m).size + r.size : Nat) : Int)⟩
      simp only [List.length_cons, List.length_nil] at o1 q1
      by_cases hs : S (.three x y z)
      · have k1 := o2 (h0 hs ((RT.two lev a true l m).size + r.size) (by simp only [RT.size]; omega))
        have k2 := q2 (h0 hs (l.size + m.size) (by simp only [RT.size]; omega))
        omega
      · have := (dirt_is (S := S) (x := .three x y z)).2 hs
        omega
    · rw [if_neg hk] at eT
      subst eT
      obtain ⟨n1, n2, n3, _⟩ := hb.three
      have c1 := cost_dirt hS x _ _ _ t1 n1
      have c2 := cost_dirt hS y _ _ _ t2 n2
      have c3 := cost_dirt hS z _ _ _ t3 n3
      rw [RT.flat, costF_app, costF_app, costF_app, dirtN]
      simp only [List.length_append, RT.flat_len]
      obtain ⟨o1, o2⟩ := cost_one kp (b + (l.size + m.size + r.size)) ⟨lev, a, false, l.fr, r.to, [b + l.size - 1, b + l.size + m.size - 1, b + l.size + m.size + r.size - 1], up⟩
      simp only [List.length_cons, List.length_nil] at o1
      rw [show b + (l.size + m.size) = b + l.size + m.size by omega]
      by_cases hs : S (.three x y z)
      · have := o2 (h0 hs (l.size + m.size + r.size) (by simp only [RT.size]; omega))
        omega
      · have := (dirt_is (S := S) (x := .three x y z)).2 hs
        omega
/-- each node below one that stands there stands there -/
theorem rt_kids {kind : Int} {ids : List Int} {L : List RN} {x : Nd} {T : RT} {b : Nat} {up : Int} (h : RtN kind ids x T) (hb : AtT L T b up) : ∀ y ∈ x.kids, ∃ U c up', RtN kind ids y U ∧ AtT L U c up' := by
  cases x with
  | leaf id => intro y hy; simp [Nd.kids] at hy
  | one x => exact absurd h (by simp [RtN])
  | two x z =>
    obtain ⟨lev, a, l, r, rfl, hv, t1, t2⟩ := h
    obtain ⟨n1, n2, _⟩ := hb.two
    intro y hy
    simp only [Nd.kids, List.mem_cons, List.not_mem_nil, or_false] at hy
    rcases hy with rfl | rfl
    · exact ⟨_, _, _, t1, n1⟩
    · exact ⟨_, _, _, t2, n2⟩
  | three x z v =>
    obtain ⟨lev, a, l, m, r, eT, hv, t1, t2, t3⟩ := h
    have : ∃ b1 u1 b2 u2 b3 u3, AtT L l b1 u1 ∧ AtT L m b2 u2 ∧ AtT L r b3 u3 := by
      by_cases hk : kind = 2
      · rw [if_pos hk] at eT
        subst eT
        obtain ⟨n0, n3, _⟩ := hb.two
        obtain ⟨n1, n2, _⟩ := n0.two
        exact ⟨_, _, _, _, _, _, n1, n2, n3⟩
      · rw [if_neg hk] at eT
        subst eT
        obtain ⟨n1, n2, n3, _⟩ := hb.three
        exact ⟨_, _, _, _, _, _, n1, n2, n3⟩
    obtain ⟨b1, u1, b2, u2, b3, u3, n1, n2, n3⟩ := this
    intro y hy
    simp only [Nd.kids, List.mem_cons, List.not_mem_nil, or_false] at hy
    rcases hy with rfl | rfl | rfl
    · exact ⟨_, _, _, t1, n1⟩
    · exact ⟨_, _, _, t2, n2⟩
    · exact ⟨_, _, _, t3, n3⟩
theorem rt_under {kind : Int} {ids : List Int} {L : List RN} : ∀ (d : Nat) (F : List Nd), (∀ x ∈ F, ∃ U c up', RtN kind ids x U ∧ AtT L U c up') → ∀ y ∈ under d F, ∃ U c up', RtN kind ids y U ∧ AtT L U c up'
  | 0, F, h => h
  | d + 1, F, h => by
    rw [under]
    refine rt_under d (kidsF F) fun x hx => ?_
    obtain ⟨y, hy, hxy⟩ := List.mem_flatMap.1 hx
    obtain ⟨U, c, up', h1, h2⟩ := h y hy
    exact rt_kids h1 h2 x hxy
/-- a level's nodes by the level above -/
theorem kids_atF : ∀ (F : List Nd) (a : Nat) (y : Nd), F[a]? = some y → ∀ i, i < y.kids.length → (kidsF F)[startT (lensF F) a + i]? = y.kids[i]?
  | [], a, y, h, i, hi => by simp at h
  | x :: F, 0, y, h, i, hi => by
    simp at h
    subst h
    rw [kidsF_cons, startT, List.take_zero, List.sum_nil, Nat.zero_add, List.getElem?_append_left hi]
  | x :: F, a + 1, y, h, i, hi => by
    have := kids_atF F a y (by simpa using h) i hi
    rw [kidsF_cons, lensF_cons, startT, List.take_succ_cons, List.sum_cons, List.getElem?_append_right (by omega), ← this, startT]
    congr 1
    omega
theorem ids_leaves : ∀ {F : List Nd}, allH 0 F → ∀ (a : Nat) (y : Nd), F[a]? = some y → ∃ id, y = .leaf id ∧ (idsF F)[a]? = some id
  | [], _, a, y, h => by simp at h
  | x :: F, ha, 0, y, h => by
    obtain ⟨i, rfl⟩ := hi_zero (ha x (by simp))
    simp at h
    exact ⟨i, h.symm, rfl⟩
  | x :: F, ha, a + 1, y, h => by
    obtain ⟨i, rfl⟩ := hi_zero (ha x (by simp))
    obtain ⟨id, e, h2⟩ := ids_leaves (F := F) (fun z hz => ha z (by simp [hz])) a y (by simpa using h)
    exact ⟨id, e, by rw [idsF_cons]; simpa [Nd.ids] using h2⟩
/-- the told tree of levels is that of the nodes that have these levels -/
theorem rt_tree {kind : Int} {ids : List Int} {lv : List (List Nat)} : ∀ (k : Nat) (F : List Nd), k ≤ lv.length → allH k F → levF k F = lv.take k → idsF F = ids → ∀ (a : Nat) (y : Nd), F[a]? = some y → RtN kind ids y (treeOf kind lv k a)
  | 0, F, _, ha, _, hi => fun a y hy => by
    obtain ⟨id, rfl, h2⟩ := ids_leaves ha a y hy
    rw [hi] at h2
    exact ⟨a, rfl, getD_at h2⟩
  | k + 1, F, hk, ha, hl, hi => fun a y hy => by
    have hk' : lv[k]? = some lv[k] := List.getElem?_eq_getElem (by omega)
    rw [levF, List.take_succ_eq_append_getElem (show k < lv.length by omega)] at hl
    obtain ⟨e1, e2⟩ := List.append_inj' hl rfl
    injection e2 with e2
    have ih := rt_tree (kind := kind) (ids := ids) (lv := lv) k (kidsF F) (by omega) (allH_kids ha) e1 (by rw [idsF_kids ha, hi])
    have hka := kids_atF F a y hy
    have hln : (lv.getD k []).getD a 0 = y.kids.length := by
      rw [getD_at hk', ← e2]
      exact getD_at (by rw [lensF, List.getElem?_map, hy]; rfl)
    rw [treeOf, hln, getD_at hk', ← e2]
    have hy1 := ha y (List.mem_of_getElem? hy)
    cases y with
    | leaf i => exact absurd hy1 (by simp [Nd.hi])
    | one b => exact absurd hy1 (by simp [Nd.hi])
    | two p q =>
      have g0 := ih _ p (by have := hka 0 (by simp [Nd.kids]); rw [Nat.add_zero] at this; rw [this]; rfl)
      have g1 := ih _ q (by have := hka 1 (by simp [Nd.kids]); rw [this]; rfl)
      rw [if_neg (by simp [Nd.kids])]
      exact ⟨_, _, _, _, rfl, by omega, g0, g1⟩
    | three p q r =>
      have g0 := ih _ p (by have := hka 0 (by simp [Nd.kids]); rw [Nat.add_zero] at this; rw [this]; rfl)
      have g1 := ih _ q (by have := hka 1 (by simp [Nd.kids]); rw [this]; rfl)
      have g2 := ih _ r (by have := hka 2 (by simp [Nd.kids]); rw [this]; rfl)
      rw [if_pos (by simp [Nd.kids])]
      exact ⟨_, _, _, _, _, rfl, by omega, g0, g1, g2⟩
theorem rt_root {kind : Int} {ids : List Int} {lv : List (List Nat)} {x : Nd} (hx : Nd.hi lv.length x) (hl : levF lv.length [x] = lv) (hi : x.ids = ids) : RtN kind ids x (treeOf kind lv lv.length 0) :=
  rt_tree lv.length [x] (Nat.le_refl _) (by intro y hy; simp at hy; rw [hy]; exact hx) (by rw [hl, List.take_length]) (by simp [idsF, hi]) 0 x rfl

end Go.Proofs.Ytmganbdbihjbmaa

/-
  PLANS (layer 12): the steps of a way up, one behind the other, and what is beside it: pure facts.
-/
set_option linter.unusedVariables false
namespace Go.Proofs.Ytmganbdbihjbmaa

def wsteps (L : List RN) : List Nat → List SI
  | a :: b :: l => ⟨(b : Int), (a : Int), castL ((kidsN L b).filter fun k => k != a)⟩ :: wsteps L (b :: l)
  | _ => []
theorem wsteps_len (L : List RN) : ∀ P : List Nat, P ≠ [] → (wsteps L P).length + 1 = P.length
  | [], h => absurd rfl h
  | [a], _ => rfl
  | a :: b :: l, _ => by rw [wsteps, List.length_cons, wsteps_len L (b :: l) (by simp), List.length_cons (a := a)]
theorem wsteps_at (L : List RN) : ∀ (P : List Nat) (i : Nat) (hi : i + 1 < P.length), (wsteps L P)[i]? = some ⟨(P[i + 1] : Nat), (P[i] : Nat), castL ((kidsN L P[i + 1]).filter fun k => k != P[i])⟩
  | [], i, hi => by simp at hi
  | [a], i, hi => by simp at hi
  | a :: b :: l, 0, hi => rfl
  | a :: b :: l, i + 1, hi => by
    have := wsteps_at L (b :: l) i (by simpa using hi)
    rw [wsteps, List.getElem?_cons_succ, this]
    rfl
theorem wsteps_flat (L : List RN) : ∀ P : List Nat, ((wsteps L P).map SI.send).flatten = castL (besP L P)
  | [] => rfl
  | [a] => rfl
  | a :: b :: l => by
    rw [wsteps, List.map_cons, List.flatten_cons, wsteps_flat L (b :: l), besP_two]
    simp [castL]
theorem sendsT_cons (x : SI) (ss : List SI) : sendsT (x :: ss) = x.send.length + sendsT ss := by simp [sendsT]
theorem flat_len : ∀ ss : List SI, ((ss.map SI.send).flatten).length = sendsT ss
  | [] => rfl
  | x :: ss => by rw [List.map_cons, List.flatten_cons, List.length_append, flat_len ss, sendsT_cons]
theorem flat_at : ∀ (ss : List SI) (i : Nat) (x : SI) (t : Nat) (k : Int), ss[i]? = some x → x.send[t]? = some k → ((ss.map SI.send).flatten)[sendsT (ss.take i) + t]? = some k
  | [], i, x, t, k, h, _ => by simp at h
  | y :: ss, 0, x, t, k, h, hk => by
    have h := Option.some.inj h
    subst h
    have ht := (List.getElem?_eq_some_iff.1 hk).1
    rw [List.take_zero, show sendsT [] = 0 from rfl, Nat.zero_add, List.map_cons, List.flatten_cons, List.getElem?_append_left ht]
    exact hk
  | y :: ss, i + 1, x, t, k, h, hk => by
    have ih := flat_at ss i x t k (by simpa using h) hk
    rw [List.take_succ_cons, sendsT_cons, List.map_cons, List.flatten_cons, List.getElem?_append_right (by omega), show y.send.length + sendsT (ss.take i) + t - y.send.length = sendsT (ss.take i) + t by omega]
    exact ih
theorem sends_small : ∀ (ss : List SI), (∀ x ∈ ss, x.send.length ≤ 3) → sendsT ss ≤ 3 * ss.length
  | [], _ => Nat.le_refl _
  | x :: ss, h => by
    have := sends_small ss (fun y hy => h y (by simp [hy]))
    have := h x (by simp)
    rw [sendsT_cons, List.length_cons]
    omega
theorem steps_three {now : List RN} {kp : List Int} {at_ : Nat} (hk3 : ∀ x ∈ now, x.kids.length ≤ 3) : ∀ (i : Nat) (l : List RN), (∀ x ∈ l, x ∈ now) → ∀ s ∈ stepsT now kp at_ i l, s.send.length ≤ 3
  | i, [], _ => fun s hs => by simp [stepsT] at hs
  | i, x :: l, h => fun s hs => by
    have ih := steps_three (kp := kp) (at_ := at_) hk3 (i + 1) l (fun y hy => h y (by simp [hy])) s
    rw [stepsT] at hs
    split at hs
    · rcases List.mem_cons.1 hs with e | hs
      · subst e
        have h1 := stK_len (knownB now kp at_) x.kids
        have h2 := hk3 x (h x (by simp))
        simp only [stepT, castL_len]
        omega
      · exact ih hs
    · exact ih hs
theorem nf_three {kind : Int} {ids : List Int} {L : List RN} (hn : NF kind ids L) (hk : 1 ≤ kind) : ∀ x ∈ L, x.kids.length ≤ 3 := fun x hx => by
  have h1 := (hn.ok x hx).2.1
  omega
theorem way_wsteps {kind : Int} {ids : List Int} {L : List RN} {p : Nat} {P : List Nat} (hn : NF kind ids L) (hW : WayF L p P) (hp : p < ids.length) : stepsT L (keepT L ids (lfT L ids [] (ids.getD p 0)) L) p 0 L = wsteps L P := by
  obtain ⟨h1, h2⟩ := way_steps hn hW hp
  obtain ⟨a, t, x, e, _⟩ := hW.first
  have hP : P ≠ [] := by rw [e]; simp
  have h3 := wsteps_len L P hP
  apply List.ext_getElem?
  intro i
  rcases Nat.lt_or_ge (i + 1) P.length with hi | hi
  · rw [h2 i hi, wsteps_at L P i hi]
  · rw [List.getElem?_eq_none (by omega), List.getElem?_eq_none (by omega)]

end Go.Proofs.Ytmganbdbihjbmaa

/-
  HOW MANY ARE SENT TO (layer 12): the levels of a tree that others go from, and come to; and the bound: pure facts.
-/
set_option linter.unusedVariables false
namespace Go.Proofs.Ytmganbdbihjbmaa

theorem hi_uniq : ∀ (h h' : Nat) (x : Nd), Nd.hi h x → Nd.hi h' x → h = h'
  | 0, 0, _, _, _ => rfl
  | 0, h' + 1, x, h1, h2 => by
    obtain ⟨i, rfl⟩ := hi_zero h1
    exact absurd h2 (by simp [Nd.hi])
  | h + 1, 0, x, h1, h2 => by
    obtain ⟨i, rfl⟩ := hi_zero h2
    exact absurd h1 (by simp [Nd.hi])
  | h + 1, h' + 1, x, h1, h2 => by
    obtain ⟨k1, k2, _, _⟩ := hi_succ h1
    obtain ⟨_, k3, _, _⟩ := hi_succ h2
    match hk : x.kids with
    | [] => rw [hk] at k1; simp at k1
    | y :: l => rw [hi_uniq h h' y (k2 y (by rw [hk]; simp)) (k3 y (by rw [hk]; simp))]
/-- the one above all -/
structure RootOf (ids : List Int) (lv : List (List Nat)) (x : Nd) : Prop where
  hi : Nd.hi lv.length x
  lev : levF lv.length [x] = lv
  ids : x.ids = ids
/-- a tree's nodes of each height -/
def StN (s : List Int × List (List Int)) (cur : Nat → List Nd) : Prop := (s.1 = [] ∧ ∀ k, cur k = []) ∨ (s.1 ≠ [] ∧ ∃ x, RootOf s.1 (lvN s.2) x ∧ cur = atH (lvN s.2).length [x])
theorem under_ids {h : Nat} : ∀ (d : Nat) (F : List Nd), d ≤ h → allH h F → idsF (under d F) = idsF F
  | 0, F, _, _ => rfl
  | d + 1, F, hd, ha => by
    obtain ⟨h', rfl⟩ : ∃ h', h = h' + 1 := ⟨h - 1, by omega⟩
    rw [under, under_ids (h := h') d (kidsF F) (by omega) (allH_kids ha), idsF_kids ha]
theorem mem_ids {F : List Nd} {x : Nd} (h : x ∈ F) : ∀ i ∈ x.ids, i ∈ idsF F := fun i hi => List.mem_flatMap.2 ⟨x, h, hi⟩
theorem one_all {h : Nat} {x : Nd} (hx : Nd.hi h x) : allH h [x] := fun y hy => by rw [List.mem_singleton] at hy; rw [hy]; exact hx
theorem RootOf.at_ids {ids : List Int} {lv : List (List Nat)} {x : Nd} (h : RootOf ids lv x) (k : Nat) : idsF (atH lv.length [x] k) = ids ∨ atH lv.length [x] k = [] := by
  rw [atH]
  split
  · rw [under_ids (h := lv.length) _ _ (by omega) (one_all h.hi)]
    exact .inl (by simp [idsF, h.ids])
  · exact .inr rfl
theorem StN.mem {s : List Int × List (List Int)} {cur : Nat → List Nd} (h : StN s cur) (k : Nat) {x : Nd} (hx : x ∈ cur k) : ∀ i ∈ x.ids, i ∈ s.1 := by
  rcases h with ⟨_, h⟩ | ⟨_, r, hr, rfl⟩
  · rw [h] at hx; simp at hx
  · rcases hr.at_ids k with e | e
    · intro i hi
      rw [← e]
      exact mem_ids hx i hi
    · rw [e] at hx; simp at hx
theorem StN.rise {s : List Int × List (List Int)} {cur : Nat → List Nd} (h : StN s cur) (hs : s.1.Pairwise (· < ·)) (k : Nat) : (idsF (cur k)).Pairwise (· < ·) := by
  rcases h with ⟨_, h⟩ | ⟨_, r, hr, rfl⟩
  · rw [h]; simp [idsF]
  · rcases hr.at_ids k with e | e
    · rw [e]; exact hs
    · rw [e]; simp [idsF]
theorem StN.start {s : List Int × List (List Int)} (hc : chkT s.1 s.2 = true) : ∃ cur, StN s cur := by
  by_cases he : s.1 = []
  · exact ⟨fun _ => [], .inl ⟨he, fun _ => rfl⟩⟩
  · obtain ⟨x, _, h1, h2, h3⟩ := root_of (chkT_lv hc).2.2.1 (List.length_pos_iff.2 he)
    exact ⟨_, .inr ⟨he, x, ⟨h1, h2, h3⟩, rfl⟩⟩
theorem StN.ins {s : List Int × List (List Int)} {cur : Nat → List Nd} {id : Int} (h : StN s cur) (c : insE s.1 s.2 id = 0) :
    ∃ nxt, StN ((insS s.1 (lvN s.2) id).1, levI (insS s.1 (lvN s.2) id).2) nxt ∧ (∀ k, near (cur k) (nxt k)) := by
  obtain ⟨hc, _, _, hn, _⟩ := insE_zero c
  obtain ⟨_, c2, c3, _⟩ := chkT_lv hc
  have hr := okI_rise _ c2
  rcases h with ⟨he, h⟩ | ⟨he, x, ⟨h1, h2, h3⟩, rfl⟩
  · rw [insS, if_pos he]
    refine ⟨atH 0 [.leaf id], .inr ⟨by simp, .leaf id, ⟨trivial, rfl, rfl⟩, rfl⟩, fun k => ?_⟩
    rw [h]
    refine near_all ?_
    rw [atH]
    split
    · rw [show 0 - k = 0 by omega, under]; simp
    · simp
  · rw [insS, if_neg he]
    obtain ⟨h', q1, q2, q3, q4, q5⟩ := ins_shape (id := id) h1 h2 h3 hr
    have hnear := near_ins h1 id
    have hl := levF_len h' (if (withN x id).length = 2 then [ofKids (withN x id)] else withN x id)
    rw [q2] at hl
    have hne : insI s.1 id ≠ [] := by
      intro e
      have := insI_len s.1 id
      rw [e] at this
      simp at this
    by_cases hw : (withN x id).length = 2
    · rw [if_pos hw] at q1 q2 q3
      have g := (ofKids_hi (.inl hw) q5).1
      have e := hi_uniq _ _ _ g (q1 _ (by simp))
      refine ⟨_, .inr ⟨hne, ofKids (withN x id), ⟨?_, ?_, ?_⟩, rfl⟩, fun k => ?_⟩
      · simp only [lvN_levI]; rw [hl]; exact q1 _ (by simp)
      · simp only [lvN_levI]; rw [hl]; exact q2
      · simpa [idsF] using q3
      · simp only [lvN_levI]
        rw [hl, ← e]
        have := hnear k
        rw [if_pos hw] at this
        exact this
    · rw [if_neg hw] at q1 q2 q3
      match hz : withN x id, q4.resolve_right hw with
      | [z], _ =>
        rw [hz] at q1 q2 q3 q5
        have e := hi_uniq _ _ _ (q5 z (by simp)) (q1 z (by simp))
        refine ⟨_, .inr ⟨hne, z, ⟨?_, ?_, ?_⟩, rfl⟩, fun k => ?_⟩
        · simp only [lvN_levI]; rw [hl]; exact q1 _ (by simp)
        · simp only [lvN_levI]; rw [hl]; exact q2
        · simpa [idsF] using q3
        · simp only [lvN_levI]
          rw [hl, ← e]
          have := hnear k
          rw [if_neg hw, hz] at this
          exact this
theorem StN.del {s : List Int × List (List Int)} {cur : Nat → List Nd} {id : Int} (h : StN s cur) (c : delE s.1 s.2 id = 0) :
    ∃ nxt, StN ((delS s.1 (lvN s.2) id).1, levI (delS s.1 (lvN s.2) id).2) nxt ∧ (∀ k, near (cur k) (nxt k)) := by
  obtain ⟨hc, hi⟩ := delE_zero c
  obtain ⟨_, c2, c3, _⟩ := chkT_lv hc
  have hr := okI_rise _ c2
  have hpos := List.length_pos_of_mem hi
  rcases h with ⟨he, h⟩ | ⟨he, x, ⟨h1, h2, h3⟩, rfl⟩
  · rw [he] at hpos; simp at hpos
  · by_cases hl1 : s.1.length = 1
    · rw [delS, if_pos hl1]
      exact ⟨fun _ => [], .inl ⟨rfl, fun _ => rfl⟩, fun k => near_all (by simp)⟩
    · rw [delS, if_neg hl1]
      have hlen : (s.1.eraseIdx (belT s.1 id)).length + 1 = s.1.length := by
        have := (rise_bel s.1 id hr (isT_mem.2 hi)).1
        rw [List.length_eraseIdx, if_pos this]
        omega
      have hne : s.1.eraseIdx (belT s.1 id) ≠ [] := by
        intro e
        rw [e] at hlen
        simp at hlen
        omega
      obtain ⟨h', ys, d1, d2, d3, d4⟩ := del_shape (id := id) c3 (by omega) h1 h2 h3 hr hi
      obtain ⟨H, hH⟩ : ∃ H, (lvN s.2).length = H + 1 := by
        refine ⟨(lvN s.2).length - 1, ?_⟩
        have : (lvN s.2).length ≠ 0 := by
          intro e
          rw [e] at h1
          obtain ⟨i, rfl⟩ := hi_zero h1
          rw [Nd.ids] at h3
          rw [← h3] at hl1
          simp at hl1
        omega
      rw [hH] at h1
      obtain ⟨ys', n1, n2, n3, n4⟩ := del_near H x id h1
      have hys : ys' = ys := by rw [← ofKids_kids n2, ← n1, d1, ofKids_kids d2]
      subst hys
      have hnear := near_del d2 n4
      rw [hH]
      by_cases hy1 : ys'.length = 1
      · obtain ⟨a1, a2, a3⟩ := d3 hy1
        have hl := levF_len h' ys'
        rw [a2] at hl
        match ys', hy1 with
        | [z], _ =>
          have e := hi_uniq _ _ _ (n3 z (by simp)) (a1 z (by simp))
          refine ⟨_, .inr ⟨hne, z, ⟨?_, ?_, ?_⟩, rfl⟩, fun k => ?_⟩
          · simp only [lvN_levI]; rw [hl]; exact a1 _ (by simp)
          · simp only [lvN_levI]; rw [hl]; exact a2
          · simpa [idsF] using a3
          · simp only [lvN_levI]
            rw [hl, ← e]
            have := hnear k
            rw [if_pos (show [z].length = 1 from rfl)] at this
            exact this
      · obtain ⟨a1, a2, a3⟩ := d4 hy1
        have hl := levF_len h' [ofKids ys']
        rw [a2] at hl
        have g := (ofKids_hi (l := ys') (by omega) n3).1
        have e := hi_uniq _ _ _ g (a1 _ (by simp))
        refine ⟨_, .inr ⟨hne, ofKids ys', ⟨?_, ?_, ?_⟩, rfl⟩, fun k => ?_⟩
        · simp only [lvN_levI]; rw [hl]; exact a1 _ (by simp)
        · simp only [lvN_levI]; rw [hl]; exact a2
        · simpa [idsF] using a3
        · simp only [lvN_levI]
          rw [hl, ← e]
          have := hnear k
          rw [if_neg hy1] at this
          exact this
theorem out_seq {old : Nat → List Nd} : ∀ (l : List Int) (s : (List Int × List (List Int)) × List Int) (cur : Nat → List Nd), StN s.1 cur → Seq old cur s.2 → ∃ nxt, StN (outAll l s).1 nxt ∧ Seq old nxt (outAll l s).2
  | [], s, cur, h, hs => ⟨cur, h, hs⟩
  | id :: l, s, cur, h, hs => by
    rw [outAll]
    by_cases c : delE s.1.1 s.1.2 id = 0
    · rw [if_pos c]
      obtain ⟨nxt, g1, g2⟩ := h.del c
      refine out_seq l _ nxt g1 (hs.step g2 id (.inr fun k x hx hm => ?_))
      have h5 := g1.mem k hx id hm
      obtain ⟨hc, hi⟩ := delE_zero c
      have hr := okI_rise _ (chkT_lv hc).2.1
      rw [(del_chk c).1] at h5
      obtain ⟨E, L, e1, e2, e3, _, e5⟩ := erase_form hr hi
      rw [e5] at h5
      rw [e1, List.pairwise_append] at hr
      obtain ⟨_, r2, r3⟩ := hr
      rcases List.mem_append.1 h5 with h5 | h5
      · have := r3 id h5 id (by simp)
        omega
      · have := (List.pairwise_cons.1 r2).1 id h5
        omega
    · rw [if_neg c]
      exact out_seq l s cur h hs
theorem in_seq {old : Nat → List Nd} : ∀ (l : List Int) (s : (List Int × List (List Int)) × List Int) (cur : Nat → List Nd), StN s.1 cur → Seq old cur s.2 → ∃ nxt, StN (inAll l s).1 nxt ∧ Seq old nxt (inAll l s).2
  | [], s, cur, h, hs => ⟨cur, h, hs⟩
  | id :: l, s, cur, h, hs => by
    rw [inAll]
    by_cases c : insE s.1.1 s.1.2 id = 0
    · rw [if_pos c]
      obtain ⟨nxt, g1, g2⟩ := h.ins c
      refine in_seq l _ nxt g1 (hs.step g2 id (.inl fun k x hx hm => ?_))
      exact (insE_zero c).2.2.2.1 (h.mem k hx id hm)
    · rw [if_neg c]
      exact in_seq l s cur h hs
theorem chg_seq (xs out inn : List Int) : ∃ old cur, StN (oldS xs) old ∧ StN (chgT xs out inn).1 cur ∧ Seq old cur (chgT xs out inn).2 := by
  obtain ⟨old, h0⟩ := StN.start (old_chk xs)
  obtain ⟨n1, a1, a2⟩ := out_seq out (oldS xs, []) old h0 (Seq.start old)
  obtain ⟨n2, b1, b2⟩ := in_seq inn _ n1 a1 a2
  exact ⟨old, n2, h0, b1, b2⟩
/-- a tree's told nodes are those of its one above all -/
theorem root_at {kind : Int} {ids : List Int} {ll : List (List Int)} {x : Nd} (hne : ids ≠ []) (h : RootOf ids (lvN ll) x) : wasU kind ids ll = (treeOf kind (lvN ll) (lvN ll).length 0).flat 0 (-1) ∧ RtN kind ids x (treeOf kind (lvN ll) (lvN ll).length 0) ∧ AtT (wasU kind ids ll) (treeOf kind (lvN ll) (lvN ll).length 0) 0 (-1) := by
  have hl := List.length_pos_iff.2 hne
  have e : wasU kind ids ll = (treeOf kind (lvN ll) (lvN ll).length 0).flat 0 (-1) := by rw [wasU, nodesU, if_neg (by omega)]
  exact ⟨e, rt_root h.hi h.lev h.ids, [], [], by rw [e]; simp, rfl⟩
/-- THE BOUND: no more are sent to than four for each level, for each change twice, each other who was touched, and who changes it -/
theorem sends_bound {kind : Int} {xs out inn : List Int} (more : List Int) {by_ : Int} (hmo : mayB kind (oldS xs).1 (oldS xs).2 = true) (hms : mayB kind (chgT xs out inn).1.1 (chgT xs out inn).1.2 = true) (hb : by_ ∈ (chgT xs out inn).1.1) :
    sendsT (stepsT (wasU kind (chgT xs out inn).1.1 (chgT xs out inn).1.2) (keepU kind (oldS xs).1 (oldS xs).2 (chgT xs out inn).1.1 (chgT xs out inn).1.2 ((chgT xs out inn).2 ++ more) by_) (belT (chgT xs out inn).1.1 by_) 0 (wasU kind (chgT xs out inn).1.1 (chgT xs out inn).1.2)) ≤
      4 * ((lvN (chgT xs out inn).1.2).length * (2 * ((chgT xs out inn).2 ++ more).length + 1)) := by
  obtain ⟨old, cur, h0, h1, hS⟩ := chg_seq xs out inn
  have hchk := chg_chk xs out inn
  generalize (chgT xs out inn).2 = ts at *
  generalize (chgT xs out inn).1 = s at *
  generalize oldS xs = o at *
  obtain ⟨ids, ll⟩ := s
  obtain ⟨oids, oll⟩ := o
  simp only at *
  have NFw := (nf_was hmo).2
  have NFs := (nf_was hms).2
  have hrise := okI_rise _ (chkT_lv hchk).2.1
  have hne : ids ≠ [] := by intro e; rw [e] at hb; simp at hb
  refine Nat.le_trans (sends_cost _ _ _ _ _) ?_
  have hr1 := h1.rise hrise
  rcases h1 with ⟨e, _⟩ | ⟨_, r, hr, rfl⟩
  · exact absurd e hne
  obtain ⟨e1, e2, e3⟩ := root_at (kind := kind) hne hr
  let K : Nd → Prop := fun x => (∃ U c up', RtN kind oids x U ∧ AtT (wasU kind oids oll) U c up') ∧ ∀ id ∈ x.ids, goneT (ts ++ more) by_ id = false
  have hK : ∀ (y : Nd) (T : RT) (b : Nat) (up : Int), K y → RtN kind ids y T → AtT (wasU kind ids ll) T b up → ∀ j, j < T.size → kpA (keepU kind oids oll ids ll (ts ++ more) by_) (b + j) ≠ -1 := by
    rintro y T b up ⟨⟨U, c, up', g1, g2⟩, g3⟩ hy hb2 j hj
    have := (same_kept (tl := ts ++ more) (by_ := by_) NFw NFs y T U b c up up' hy g1 hb2 g2 g3).2 j hj
    rw [keepU, this]
    omega
  have hcost := cost_dirt hK r _ _ _ e2 e3
  rw [← e1] at hcost
  refine Nat.le_trans hcost ?_
  have hF : dirtF K [r] = dirtN K r := by simp [dirtF]
  rw [← hF]
  refine dirtF_le _ _ (one_all hr.hi) fun d hd => ?_
  have hd' : under d [r] = atH (lvN ll).length [r] ((lvN ll).length - d) := by
    rw [atH, if_pos (by omega), show (lvN ll).length - ((lvN ll).length - d) = d by omega]
  rw [hd']
  have := hS.fin (more ++ [by_]) ((lvN ll).length - d) (hr1 _) K (fun x hx hx0 ht hm => ⟨?_, fun id hid => ?_⟩)
  · simp only [List.length_append, List.length_cons, List.length_nil] at this ⊢
    omega
  · rcases h0 with ⟨_, h0⟩ | ⟨hne0, r0, hr0, rfl⟩
    · rw [h0] at hx0; simp at hx0
    · obtain ⟨_, g2, g3⟩ := root_at (kind := kind) hne0 hr0
      rw [atH] at hx0
      split at hx0
      · exact rt_under _ [r0] (fun x hx => by rw [List.mem_singleton] at hx; subst hx; exact ⟨_, _, _, g2, g3⟩) x hx0
      · simp at hx0
  · rw [goneT, Bool.or_eq_false_iff, decide_eq_false_iff_not, decide_eq_false_iff_not]
    refine ⟨fun e => hm by_ (by simp) (by rw [← e]; exact hid), fun hmem => ?_⟩
    rcases List.mem_append.1 hmem with h | h
    · exact ht id h hid
    · exact hm id (by simp [h]) hid
end Go.Proofs.Ytmganbdbihjbmaa

