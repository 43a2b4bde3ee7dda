import Derived.Test.YtbickllpledlbaaG46
import Derived.Test.YtbickllpledlbaaG28
import Derived.Test.YtbickllpledlbaaG47
import Derived.Test.YtbickllpledlbaaG35
/-
  NODES OF A TREE (layer 11): where a group's leaves begin, as tree.Spans tells it: a pure fact.
-/
set_option linter.unusedVariables false
namespace Go.Proofs.Ytbickllpledlbaa

theorem start_ones (m a : Nat) (h : a ≤ m) : startT (List.replicate m 1) a = a := by
  rw [startT, List.take_replicate, Nat.min_eq_left h]
  simp
theorem wide_lenN {many : Nat} {lv : List (List Nat)} (hs : lvSum many lv) : ∀ k, k ≤ lv.length → (wideL (List.replicate many 1) (lv.take k)).length = wideN many lv k
  | 0, _ => by simp [wideL, wideN]
  | k + 1, h => by
    have hl : lv[k]? = some lv[k] := List.getElem?_eq_getElem (by omega)
    rw [wide_len hl, wideN, getD_at hl]
theorem leafS_start {many : Nat} {lv : List (List Nat)} (hs : lvSum many lv) : ∀ (k a : Nat), k ≤ lv.length → a ≤ wideN many lv k → leafS lv k a = startT (wideL (List.replicate many 1) (lv.take k)) a
  | 0, a, _, h => by
    rw [leafS, List.take_zero, wideL, start_ones many a h]
  | k + 1, a, hk, h => by
    have hl : lv[k]? = some lv[k] := List.getElem?_eq_getElem (by omega)
    have hsum := wideN_sum hs hl
    have hle := startT_le lv[k] a
    rw [wideN, getD_at hl] at h
    rw [leafS, getD_at hl, leafS_start hs k _ (by omega) (by omega), wide_next hl, chunkT_start lv[k] _ a h (by rw [wide_lenN hs k (by omega), hsum]; exact Nat.le_refl _)]

end Go.Proofs.Ytbickllpledlbaa

/-
  NODES OF A TREE (layer 11): how many are red; which leaves a group has; a list of nodes that may be: pure facts for the laws.
-/
set_option linter.unusedVariables false
namespace Go.Proofs.Ytbickllpledlbaa

def RT.reds : RT → Nat
  | .leaf _ => 0
  | .two _ _ red l r => l.reds + r.reds + (if red then 1 else 0)
  | .three _ _ l m r => l.reds + m.reds + r.reds
theorem RT.reds_flat : ∀ (T : RT) (off : Nat) (up : Int), (T.flat off up).countP (fun x => x.red) = T.reds
  | .leaf a, off, up => by simp [RT.flat, RT.reds]
  | .two lev a red l r, off, up => by
    simp only [RT.flat, List.countP_append, RT.reds_flat l, RT.reds_flat r, RT.reds, List.countP_cons, List.countP_nil]
    cases red <;> simp
  | .three lev a l m r, off, up => by
    simp only [RT.flat, List.countP_append, RT.reds_flat l, RT.reds_flat m, RT.reds_flat r, RT.reds, List.countP_cons, List.countP_nil]
    simp
def sumTo (g : Nat → Nat) (n : Nat) : Nat := ((List.range n).map g).sum
theorem sumTo_succ (g : Nat → Nat) (n : Nat) : sumTo g (n + 1) = sumTo g n + g n := by
  rw [sumTo, List.range_succ, List.map_append, List.sum_append]
  simp [sumTo]
def three (n : Nat) : Bool := n == 3
def thrN (lv : List (List Nat)) : Nat := (lv.map fun l => l.countP three).sum
theorem reds_row {lv : List (List Nat)} {k : Nat} {l : List Nat} (hl : lv[k]? = some l) (h23 : two3 l) : ∀ A, A ≤ l.length → sumTo (fun a => (treeOf 2 lv (k + 1) a).reds) A = sumTo (fun a => (treeOf 2 lv k a).reds) (startT l A) + (l.take A).countP three
  | 0, _ => by rw [startT_zero]; rfl
  | A + 1, h => by
    have hA : A < l.length := h
    have hx : l.getD A 0 = l[A] := getD_at (List.getElem?_eq_getElem hA)
    rw [sumTo_succ, reds_row hl h23 A (by omega), startT_succ l hA, List.take_succ_eq_append_getElem hA, List.countP_append, List.countP_cons, List.countP_nil, treeOf, getD_at hl, hx]
    rcases two3_get h23 hA with e | e
    · rw [e, if_neg (by decide), show startT l A + 2 = startT l A + 1 + 1 from rfl, sumTo_succ, sumTo_succ, RT.reds, if_neg (by simp), if_neg (by simp [three])]
      omega
    · rw [e, if_pos rfl, if_pos rfl, show startT l A + 3 = startT l A + 1 + 1 + 1 from rfl, sumTo_succ, sumTo_succ, sumTo_succ, RT.reds, RT.reds, if_pos rfl, if_neg (by simp), if_pos (by simp [three])]
      omega
theorem reds_level {many : Nat} {lv : List (List Nat)} (hs : lvSum many lv) : ∀ k, k ≤ lv.length → sumTo (fun a => (treeOf 2 lv k a).reds) (wideN many lv k) = thrN (lv.take k)
  | 0, _ => by
    have : ∀ n, sumTo (fun a => (treeOf 2 lv 0 a).reds) n = 0 := fun n => by
      induction n with
      | zero => rfl
      | succ n ih => rw [sumTo_succ, ih]; rfl
    rw [this]
    rfl
  | k + 1, hk => by
    have hl : lv[k]? = some lv[k] := List.getElem?_eq_getElem (by omega)
    rw [wideN, getD_at hl, reds_row hl (hs k _ hl).1 _ (Nat.le_refl _), startT_all, wideN_sum hs hl, reds_level hs k (by omega), List.take_length, List.take_succ_eq_append_getElem (by omega), thrN, thrN, List.map_append, List.sum_append]
    simp
def thrI (ll : List (List Int)) : Nat := (ll.map fun l => l.countP (fun x => x == 3)).sum
theorem thr_cast (lv : List (List Nat)) : thrI (levI lv) = thrN lv := by
  have e : ∀ l : List Nat, (castL l).countP (fun x => x == 3) = l.countP three := fun l => by
    rw [castL, List.countP_map]
    apply List.countP_congr
    intro n _
    simp only [Function.comp, three, beq_iff_eq]
    omega
  rw [thrI, thrN, levI, List.map_map]
  congr 1
  apply List.map_congr_left
  intro l _
  exact e l
theorem treeOf_nodes {kind : Int} {many : Nat} {lv : List (List Nat)} (hs : lvSum many lv) : ∀ (k a : Nat), k ≤ lv.length → a < wideN many lv k → ∀ (off : Nat) (up : Int), ∀ x ∈ (treeOf kind lv k a).flat off up,
    x.red = true ∨ (x.lev ≤ lv.length ∧ x.at_ < wideN many lv x.lev ∧ x.fr = leafS lv x.lev x.at_ ∧ x.to = leafS lv x.lev (x.at_ + 1))
  | 0, a, hk, ha, off, up => fun x hx => by
    simp only [treeOf, RT.flat, List.mem_singleton] at hx
    subst hx
    exact .inr ⟨Nat.zero_le _, ha, rfl, rfl⟩
  | k + 1, a, hk, ha, off, up => fun x hx => by
    have hl : lv[k]? = some lv[k] := List.getElem?_eq_getElem (by omega)
    have hsum := wideN_sum hs hl
    have hal : a < lv[k].length := by rw [wideN, getD_at hl] at ha; exact ha
    have hst := startT_succ lv[k] hal
    have hle := startT_le lv[k] (a + 1)
    have h23 := two3_get (hs k _ hl).1 hal
    have hg : lv.getD k [] = lv[k] := getD_at hl
    have hx0 : lv[k].getD a 0 = lv[k][a] := getD_at (List.getElem?_eq_getElem hal)
    have ih := fun b (hb : b < lv[k].sum) => treeOf_nodes (kind := kind) hs k b (by omega) (by omega)
    obtain ⟨o1, o2, o3⟩ := treeOf_ok (kind := kind) hs (k + 1) a hk ha
    have key : ∀ y : RN, y.lev = k + 1 → y.at_ = a → y.fr = (treeOf kind lv (k + 1) a).fr → y.to = (treeOf kind lv (k + 1) a).to → y.red = true ∨ (y.lev ≤ lv.length ∧ y.at_ < wideN many lv y.lev ∧ y.fr = leafS lv y.lev y.at_ ∧ y.to = leafS lv y.lev (y.at_ + 1)) := fun y e1 e2 e3 e4 => by
      rw [e1, e2, e3, e4, o2, o3]
      exact .inr ⟨hk, ha, rfl, rfl⟩
    have hroot := key ((treeOf kind lv (k + 1) a).node off up)
    rw [RT.flat_split, List.mem_append, List.mem_singleton] at hx
    rcases hx with hx | hx
    · clear hroot key o1 o2 o3
      rw [treeOf, hg, hx0] at hx
      rcases h23 with e | e
      · rw [e, if_neg (by decide)] at hx
        simp only [RT.init, List.mem_append] at hx
        rcases hx with hx | hx
        · exact ih _ (by omega) _ _ x hx
        · exact ih _ (by omega) _ _ x hx
      · rw [e, if_pos rfl] at hx
        by_cases hk2 : kind = 2
        · rw [if_pos hk2] at hx
          simp only [RT.init, RT.flat, List.mem_append, List.mem_singleton] at hx
          rcases hx with ((hx | hx) | hx) | hx
          · exact ih _ (by omega) _ _ x hx
          · exact ih _ (by omega) _ _ x hx
          · subst hx; exact .inl rfl
          · exact ih _ (by omega) _ _ x hx
        · rw [if_neg hk2] at hx
          simp only [RT.init, List.mem_append] at hx
          rcases hx with (hx | hx) | hx
          · exact ih _ (by omega) _ _ x hx
          · exact ih _ (by omega) _ _ x hx
          · exact ih _ (by omega) _ _ x hx
    · subst hx
      refine hroot ?_ ?_ (RT.node_fr _ _ _) (RT.node_to _ _ _)
      · rw [treeOf]; split
        · split <;> rfl
        · rfl
      · rw [treeOf]; split
        · split <;> rfl
        · rfl
/-- the nodes of a tree that may be -/
structure LstF (kind : Int) (ids : List Int) (ll : List (List Int)) (L : List RN) : Prop where
  nodes : nodesI kind ids ll = L.map RN.i
  kid : ∀ (q : Nat) (x : RN), L[q]? = some x → nodeKid L q x
  ok : ∀ x ∈ L, nodeOK kind L x
  grp : ∀ x ∈ L, x.red = true ∨ (x.lev ≤ (lvN ll).length ∧ x.at_ < wideN ids.length (lvN ll) x.lev ∧ x.fr = leafS (lvN ll) x.lev x.at_ ∧ x.to = leafS (lvN ll) x.lev (x.at_ + 1))
  leaves : L.countP (fun x => x.lev == 0) = ids.length
  len : (ids.length = 0 → L = []) ∧ (0 < ids.length → L.length < 2 * ids.length)
  small : L.length ≤ 2000
theorem lst_facts {kind : Int} {ids : List Int} {ll : List (List Int)} (hm : mayB kind ids ll = true) : ∃ L, LstF kind ids ll L := by
  have hl2 := nodesU_len kind ids ll
  rcases Nat.eq_zero_or_pos ids.length with h0 | h0
  · have hn : nodesI kind ids ll = [] := by simp [nodesI, nodesU, h0]
    exact ⟨[], by rw [hn]; rfl, fun q x h => by simp at h, fun x h => by simp at h, fun x h => by simp at h, by rw [h0]; rfl, ⟨fun _ => rfl, fun h => by omega⟩, by simp⟩
  · have hT := top_facts hm h0
    have hm' := hm
    rw [mayB, Bool.and_eq_true] at hm'
    obtain ⟨_, _, h3, _⟩ := chkT_lv hm'.2
    have hs := lvOK_sum _ _ h3
    have hw0 := wideN_pos hs h0 _ (Nat.le_refl _)
    have hg := treeOf_nodes (kind := kind) hs _ 0 (Nat.le_refl _) hw0 0 (-1)
    refine ⟨_, hT.nodes, kid_top hT, fun x hx => ?_, hg, ?_, ⟨fun h => by omega, fun _ => ?_⟩, ?_⟩
    · have := RT.nodes_ok hT.k12 _ [] [] (-1) hT.good x hx
      simpa using this
    · rw [RT.leaves _ _ _ hT.good]
      have := RT.lvs_ok _ hT.ok
      rw [hT.fr, hT.to_] at this
      omega
    · rw [RT.flat_len]
      have := hT.size
      omega
    · rw [hT.nodes, List.length_map] at hl2
      exact hl2
/-- both kinds of a tree -/
theorem kinds_facts {ids : List Int} {ll : List (List Int)} (hc : chkT ids ll = true) : ∃ L1 L2, LstF 1 ids ll L1 ∧ LstF 2 ids ll L2 ∧ (L2.filter fun x => !x.red).map coreR = L1.map coreR ∧ L2.countP (fun x => x.red) = thrI ll := by
  have m1 : mayB 1 ids ll = true := by rw [mayB, hc]; rfl
  have m2 : mayB 2 ids ll = true := by rw [mayB, hc]; rfl
  obtain ⟨_, _, h3, hin⟩ := chkT_lv hc
  have hs := lvOK_sum _ _ h3
  have hthr : thrI ll = thrN (lvN ll) := by rw [← thr_cast, levI_lvN hin]
  obtain ⟨L1, f1⟩ := lst_facts m1
  obtain ⟨L2, f2⟩ := lst_facts m2
  refine ⟨L1, L2, f1, f2, ?_⟩
  have inj : ∀ a b : List RN, a.map RN.i = b.map RN.i → a = b := by
    intro a
    induction a with
    | nil => intro b h; cases b with
      | nil => rfl
      | cons y b => simp at h
    | cons x a ih => intro b h; cases b with
      | nil => simp at h
      | cons y b =>
        simp only [List.map_cons, List.cons.injEq] at h
        rw [ih b h.2]
        congr 1
        have hxy := h.1
        cases x with | mk l1 a1 r1 f1 t1 k1 u1 =>
        cases y with | mk l2 a2 r2 f2 t2 k2 u2 =>
        simp only [RN.i, RI.mk.injEq, Int.natCast_inj] at hxy
        obtain ⟨e1, e2, e3, e4, e5, e6, e7⟩ := hxy
        have e6' : k1 = k2 := by
          have g : ∀ l : List Nat, (castL l).map Int.toNat = l := fun l => by
            induction l with
            | nil => rfl
            | cons n l ih =>
              show Int.toNat (n : Int) :: (castL l).map Int.toNat = n :: l
              rw [ih, Int.toNat_natCast]
          rw [← g k1, ← g k2, e6]
        subst e1 e2 e3 e4 e5 e6' e7
        rfl
  rcases Nat.eq_zero_or_pos ids.length with h0 | h0
  · have n1 := f1.len.1 h0
    have n2 := f2.len.1 h0
    subst n1 n2
    refine ⟨rfl, ?_⟩
    rw [hthr]
    cases hlv : lvN ll with
    | nil => rfl
    | cons l ls =>
      rw [hlv, h0] at h3
      exact absurd h3.1 (by omega)
  · have t1 := top_facts m1 h0
    have t2 := top_facts m2 h0
    have e1 := inj _ _ (f1.nodes.symm.trans t1.nodes)
    have e2 := inj _ _ (f2.nodes.symm.trans t2.nodes)
    rw [e1, e2]
    refine ⟨kinds_core _ _ _ _ _ _ _, ?_⟩
    rw [RT.reds_flat, hthr]
    have hr := reds_level hs _ (Nat.le_refl _)
    have hw0 := wideN_pos hs h0 _ (Nat.le_refl _)
    have hw1 := wideN_top _ _ h3
    rw [show wideN ids.length (lvN ll) (lvN ll).length = 0 + 1 by omega, sumTo_succ, List.take_length] at hr
    rw [← hr]
    simp [sumTo]

end Go.Proofs.Ytbickllpledlbaa

