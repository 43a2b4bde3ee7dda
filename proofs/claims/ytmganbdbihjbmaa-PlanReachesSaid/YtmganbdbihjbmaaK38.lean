import Derived.Test.YtmganbdbihjbmaaK33
import Derived.Test.YtmganbdbihjbmaaK06
import Derived.Test.YtmganbdbihjbmaaK21
import Derived.Test.YtmganbdbihjbmaaK07
import Derived.Test.YtmganbdbihjbmaaK27
import Derived.Test.YtmganbdbihjbmaaK29
import Derived.Deep.RegionHeld3
/-
  NODES OF A TREE (layer 11): both kinds have the same nodes but the red ones, as a pure fact.
-/
set_option linter.unusedVariables false
namespace Go.Proofs.Ytmganbdbihjbmaa

/-- what both kinds say alike of a node -/
def coreR (x : RN) : Nat × Nat × Nat × Nat := (x.lev, x.at_, x.fr, x.to)
theorem treeOf_fr (kind : Int) (lv : List (List Nat)) : ∀ k a, (treeOf kind lv k a).fr = leafS lv k a
  | 0, a => rfl
  | k + 1, a => by
    rw [treeOf, leafS]
    split
    · split
      · exact treeOf_fr kind lv k _
      · exact treeOf_fr kind lv k _
    · exact treeOf_fr kind lv k _
theorem treeOf_to (lv : List (List Nat)) : ∀ k a, (treeOf 2 lv k a).to = (treeOf 1 lv k a).to
  | 0, a => rfl
  | k + 1, a => by
    rw [treeOf, treeOf]
    split
    · rw [if_pos rfl, if_neg (by decide)]
      exact treeOf_to lv k _
    · exact treeOf_to lv k _
theorem kinds_core (lv : List (List Nat)) : ∀ (k a off off' : Nat) (up up' : Int), (((treeOf 2 lv k a).flat off up).filter (fun x => !x.red)).map coreR = ((treeOf 1 lv k a).flat off' up').map coreR
  | 0, a, off, off', up, up' => by simp [treeOf, RT.flat, coreR]
  | k + 1, a, off, off', up, up' => by
    have ih := kinds_core lv k
    have hf := treeOf_fr 2 lv k
    have hf1 := treeOf_fr 1 lv k
    have ht := treeOf_to lv k
    rw [treeOf, treeOf]
    split
    · rw [if_pos rfl, if_neg (by decide)]
      simp only [RT.flat, RT.fr, List.filter_append, List.map_append]
      rw [ih _ _ off' _ ((off' + (treeOf 1 lv k (startT (lv.getD k []) a)).size + (treeOf 1 lv k (startT (lv.getD k []) a + 1)).size + (treeOf 1 lv k (startT (lv.getD k []) a + 2)).size : Nat) : Int), ih _ _ (off' + (treeOf 1 lv k (startT (lv.getD k []) a)).size) _ ((off' + (treeOf 1 lv k (startT (lv.getD k []) a)).size + (treeOf 1 lv k (startT (lv.getD k []) a + 1)).size + (treeOf 1 lv k (startT (lv.getD k []) a + 2)).size : Nat) : Int), ih _ _ (off' + (treeOf 1 lv k (startT (lv.getD k []) a)).size + (treeOf 1 lv k (startT (lv.getD k []) a + 1)).size) _ ((off' + (treeOf 1 lv k (startT (lv.getD k []) a)).size + (treeOf 1 lv k (startT (lv.getD k []) a + 1)).size + (treeOf 1 lv k (startT (lv.getD k []) a + 2)).size : Nat) : Int)]
      simp [coreR, hf, hf1, ht]
    · simp only [RT.flat, List.filter_append, List.map_append]
      rw [ih _ _ off' _ ((off' + (treeOf 1 lv k (startT (lv.getD k []) a)).size + (treeOf 1 lv k (startT (lv.getD k []) a + 1)).size : Nat) : Int), ih _ _ (off' + (treeOf 1 lv k (startT (lv.getD k []) a)).size) _ ((off' + (treeOf 1 lv k (startT (lv.getD k []) a)).size + (treeOf 1 lv k (startT (lv.getD k []) a + 1)).size : Nat) : Int)]
      simp [coreR, hf, hf1, ht]

end Go.Proofs.Ytmganbdbihjbmaa

/-
  CONTRACTS of the program's Path and ahead (tree). Printed by gen_treepk.py.
-/
set_option linter.unusedVariables false
namespace Go.Proofs.Ytmganbdbihjbmaa
open Go.RowKit

theorem wpList_makeT {P : Program} {ops : Array Oper} {rest : List Oper} {o : Oper} {a : Act} {w : World} {Q : Exit → Act → World → Prop} (hgd : Region.wanted o (yielded ops a.tmps) = true) (l c : Operand) (t : TypeId)
    (ho : o.op = .makeSlice t l c) (v u : Value) (hl : a.eval l = v) (hc : a.eval c = u) {v' : Value} {w' : World}
    (hr : (Instr.makeSlice t v u).run P w = .ok v' w') (h : wpList P ops Q rest (a.put o.dst v') w') : wpList P ops Q (o :: rest) a w := by
  refine wpList_step fun _ hK => ?_
  rw [if_pos hgd]
  unfold Oper.wp
  simp [execOp, ho, hl, hc, hr, Result.andThen]
  exact hK _ _ h
theorem own_madeT (w : World) (base : Nat) (e : TypeId) (z : Value) (cap : Nat) (hb : base ≤ w.heap.size) (hm : cap ≤ maxLen) (h1 : 1 ≤ cap) : (w.alloc (.cells (madeCells #[z] cap) e)).ownsRow base e 1 (.slice (some ⟨w.heap.size, 0, none⟩) 1 cap) 1 [z] := by
  refine ⟨rfl, .inr ⟨w.heap.size, cap, madeCells #[z] cap, rfl, hb, heap_alloc_new w _, h1, hm, by rw [size_madeCells]; omega, ?_⟩⟩
  rw [toList_madeCells_one, Nat.mul_one, List.take_replicate, Nat.min_eq_left h1]
  rfl
theorem scan_succ (l : List Nat) {k : Nat} (hk : k < l.length) : scanTo l (k + 1) = scanTo l k ++ [startT l k + l[k]] := by
  rw [scanTo, List.range_succ, List.map_append, ← scanTo, List.map_cons, List.map_nil, startT_succ l hk]

end Go.Proofs.Ytmganbdbihjbmaa

/-
  CONTRACT of the program's Spans (tree). Printed by gen_treepl.py.
-/
set_option linter.unusedVariables false
namespace Go.Proofs.Ytmganbdbihjbmaa
open Go.RowKit

theorem chunk_ones : ∀ (l : List Nat) (m : Nat), l.sum ≤ m → chunkT l (List.replicate m 1) = l
  | [], _, _ => rfl
  | n :: l, m, h => by
    rw [List.sum_cons] at h
    rw [chunkT, List.take_replicate, Nat.min_eq_left (by omega), List.drop_replicate, chunk_ones l (m - n) (by omega)]
    simp
theorem scan_len (l : List Nat) : (scanT l).length = l.length + 1 := by simp [scanT, scanTo]
theorem scan_upto (l : List Nat) (f : Nat → Nat) : scanT l = uptoN f (startT l) (l.length + 1) 0 := by rw [uptoN_zero]; rfl
theorem scan_done (l W : List Nat) (g : Nat → Nat) (hs : l.sum ≤ W.length) : uptoN (fun k => startT W (startT l k)) g (l.length + 1) (l.length + 1) = scanT (chunkT l W) := by
  rw [uptoN_all, scanT, scanTo, chunkT_len]
  apply List.map_congr_left
  intro k hk
  rw [chunkT_start l W k (by have := List.mem_range.1 hk; omega) hs]

theorem lvOK_next : ∀ (lv : List (List Nat)) (many q : Nat), lvOK many lv → ∀ (h : q + 1 < lv.length), lv[q + 1].sum = lv[q].length
  | [], many, q, _, h => by simp at h
  | [l], many, q, _, h => by simp at h
  | l :: l2 :: ls, many, 0, ⟨h1, h2, h3, h4⟩, h => h4.2.2.1
  | l :: l2 :: ls, many, q + 1, ⟨h1, h2, h3, h4⟩, h => by
    have := lvOK_next (l2 :: ls) l.length q h4 (by simpa using h)
    simpa using this
theorem wide_next {lv : List (List Nat)} {W : List Nat} {q : Nat} {l : List Nat} (h : lv[q]? = some l) : wideL W (lv.take (q + 1)) = chunkT l (wideL W (lv.take q)) := by
  rw [List.take_add_one, h]
  exact wideL_snoc _ _ _
theorem wide_len {lv : List (List Nat)} {W : List Nat} {q : Nat} {l : List Nat} (h : lv[q]? = some l) : (wideL W (lv.take (q + 1))).length = l.length := by rw [wide_next h, chunkT_len]
theorem scanTo_getT (W : List Nat) (i : Nat) (h : i ≤ W.length) : (scanTo W W.length)[i]? = some (startT W i) := by
  rw [scanTo, List.getElem?_map, List.getElem?_range (by omega)]
  rfl
theorem upto_get {f g : Nat → Nat} {m i : Nat} (h : i < m) : ((uptoN f g m i).map ivn)[i]? = some (.int .i64 (g i : Nat)) := by
  rw [List.getElem?_map, uptoN_old f g h (Nat.le_refl _)]
  rfl

end Go.Proofs.Ytmganbdbihjbmaa

/-
  NODES OF A TREE (layer 11): where a group's leaves begin, as tree.Spans tells it: a pure fact.
-/
set_option linter.unusedVariables false
namespace Go.Proofs.Ytmganbdbihjbmaa

theorem start_ones (m a : Nat) (h : a ≤ m) : startT (List.replicate m 1) a = a := by
  rw [startT, List.take_replicate, Nat.min_eq_left h]
  simp
theorem wide_lenN {many : Nat} {lv : List (List Nat)} (hs : lvSum many lv) : ∀ k, k ≤ lv.length → (wideL (List.replicate many 1) (lv.take k)).length = wideN many lv k
  | 0, _ => by simp [wideL, wideN]
  | k + 1, h => by
    have hl : lv[k]? = some lv[k] := List.getElem?_eq_getElem (by omega)
    rw [wide_len hl, wideN, getD_at hl]
theorem leafS_start {many : Nat} {lv : List (List Nat)} (hs : lvSum many lv) : ∀ (k a : Nat), k ≤ lv.length → a ≤ wideN many lv k → leafS lv k a = startT (wideL (List.replicate many 1) (lv.take k)) a
  | 0, a, _, h => by
    rw [leafS, List.take_zero, wideL, start_ones many a h]
  | k + 1, a, hk, h => by
    have hl : lv[k]? = some lv[k] := List.getElem?_eq_getElem (by omega)
    have hsum := wideN_sum hs hl
    have hle := startT_le lv[k] a
    rw [wideN, getD_at hl] at h
    rw [leafS, getD_at hl, leafS_start hs k _ (by omega) (by omega), wide_next hl, chunkT_start lv[k] _ a h (by rw [wide_lenN hs k (by omega), hsum]; exact Nat.le_refl _)]

end Go.Proofs.Ytmganbdbihjbmaa

/-
  NODES OF A TREE (layer 11): how many are red; which leaves a group has; a list of nodes that may be: pure facts for the laws.
-/
set_option linter.unusedVariables false
namespace Go.Proofs.Ytmganbdbihjbmaa

def RT.reds : RT → Nat
  | .leaf _ => 0
  | .two _ _ red l r => l.reds + r.reds + (if red then 1 else 0)
  | .three _ _ l m r => l.reds + m.reds + r.reds
theorem RT.reds_flat : ∀ (T : RT) (off : Nat) (up : Int), (T.flat off up).countP (fun x => x.red) = T.reds
  | .leaf a, off, up => by simp [RT.flat, RT.reds]
  | .two lev a red l r, off, up => by
    simp only [RT.flat, List.countP_append, RT.reds_flat l, RT.reds_flat r, RT.reds, List.countP_cons, List.countP_nil]
    cases red <;> simp
  | .three lev a l m r, off, up => by
    simp only [RT.flat, List.countP_append, RT.reds_flat l, RT.reds_flat m, RT.reds_flat r, RT.reds, List.countP_cons, List.countP_nil]
    simp
def sumTo (g : Nat → Nat) (n : Nat) : Nat := ((List.range n).map g).sum
theorem sumTo_succ (g : Nat → Nat) (n : Nat) : sumTo g (n + 1) = sumTo g n + g n := by
  rw [sumTo, List.range_succ, List.map_append, List.sum_append]
  simp [sumTo]
def three (n : Nat) : Bool := n == 3
def thrN (lv : List (List Nat)) : Nat := (lv.map fun l => l.countP three).sum
theorem reds_row {lv : List (List Nat)} {k : Nat} {l : List Nat} (hl : lv[k]? = some l) (h23 : two3 l) : ∀ A, A ≤ l.length → sumTo (fun a => (treeOf 2 lv (k + 1) a).reds) A = sumTo (fun a => (treeOf 2 lv k a).reds) (startT l A) + (l.take A).countP three
  | 0, _ => by rw [startT_zero]; rfl
  | A + 1, h => by
    have hA : A < l.length := h
    have hx : l.getD A 0 = l[A] := getD_at (List.getElem?_eq_getElem hA)
    rw [sumTo_succ, reds_row hl h23 A (by omega), startT_succ l hA, List.take_succ_eq_append_getElem hA, List.countP_append, List.countP_cons, List.countP_nil, treeOf, getD_at hl, hx]
    rcases two3_get h23 hA with e | e
    · rw [e, if_neg (by decide), show startT l A + 2 = startT l A + 1 + 1 from rfl, sumTo_succ, sumTo_succ, RT.reds, if_neg (by simp), if_neg (by simp [three])]
      omega
    · rw [e, if_pos rfl, if_pos rfl, show startT l A + 3 = startT l A + 1 + 1 + 1 from rfl, sumTo_succ, sumTo_succ, sumTo_succ, RT.reds, RT.reds, if_pos rfl, if_neg (by simp), if_pos (by simp [three])]
      omega
theorem reds_level {many : Nat} {lv : List (List Nat)} (hs : lvSum many lv) : ∀ k, k ≤ lv.length → sumTo (fun a => (treeOf 2 lv k a).reds) (wideN many lv k) = thrN (lv.take k)
  | 0, _ => by
    have : ∀ n, sumTo (fun a => (treeOf 2 lv 0 a).reds) n = 0 := fun n => by
      induction n with
      | zero => rfl
      | succ n ih => rw [sumTo_succ, ih]; rfl
    rw [this]
    rfl
  | k + 1, hk => by
    have hl : lv[k]? = some lv[k] := List.getElem?_eq_getElem (by omega)
    rw [wideN, getD_at hl, reds_row hl (hs k _ hl).1 _ (Nat.le_refl _), startT_all, wideN_sum hs hl, reds_level hs k (by omega), List.take_length, List.take_succ_eq_append_getElem (by omega), thrN, thrN, List.map_append, List.sum_append]
    simp
def thrI (ll : List (List Int)) : Nat := (ll.map fun l => l.countP (fun x => x == 3)).sum
theorem thr_cast (lv : List (List Nat)) : thrI (levI lv) = thrN lv := by
  have e : ∀ l : List Nat, (castL l).countP (fun x => x == 3) = l.countP three := fun l => by
    rw [castL, List.countP_map]
    apply List.countP_congr
    intro n _
    simp only [Function.comp, three, beq_iff_eq]
    omega
  rw [thrI, thrN, levI, List.map_map]
  congr 1
  apply List.map_congr_left
  intro l _
  exact e l
theorem treeOf_nodes {kind : Int} {many : Nat} {lv : List (List Nat)} (hs : lvSum many lv) : ∀ (k a : Nat), k ≤ lv.length → a < wideN many lv k → ∀ (off : Nat) (up : Int), ∀ x ∈ (treeOf kind lv k a).flat off up,
    x.red = true ∨ (x.lev ≤ lv.length ∧ x.at_ < wideN many lv x.lev ∧ x.fr = leafS lv x.lev x.at_ ∧ x.to = leafS lv x.lev (x.at_ + 1))
  | 0, a, hk, ha, off, up => fun x hx => by
    simp only [treeOf, RT.flat, List.mem_singleton] at hx
    subst hx
    exact .inr ⟨Nat.zero_le _, ha, rfl, rfl⟩
  | k + 1, a, hk, ha, off, up => fun x hx => by
    have hl : lv[k]? = some lv[k] := List.getElem?_eq_getElem (by omega)
    have hsum := wideN_sum hs hl
    have hal : a < lv[k].length := by rw [wideN, getD_at hl] at ha; exact ha
    have hst := startT_succ lv[k] hal
    have hle := startT_le lv[k] (a + 1)
    have h23 := two3_get (hs k _ hl).1 hal
    have hg : lv.getD k [] = lv[k] := getD_at hl
    have hx0 : lv[k].getD a 0 = lv[k][a] := getD_at (List.getElem?_eq_getElem hal)
    have ih := fun b (hb : b < lv[k].sum) => treeOf_nodes (kind := kind) hs k b (by omega) (by omega)
    obtain ⟨o1, o2, o3⟩ := treeOf_ok (kind := kind) hs (k + 1) a hk ha
    have key : ∀ y : RN, y.lev = k + 1 → y.at_ = a → y.fr = (treeOf kind lv (k + 1) a).fr → y.to = (treeOf kind lv (k + 1) a).to → y.red = true ∨ (y.lev ≤ lv.length ∧ y.at_ < wideN many lv y.lev ∧ y.fr = leafS lv y.lev y.at_ ∧ y.to = leafS lv y.lev (y.at_ + 1)) := fun y e1 e2 e3 e4 => by
      rw [e1, e2, e3, e4, o2, o3]
      exact .inr ⟨hk, ha, rfl, rfl⟩
    have hroot := key ((treeOf kind lv (k + 1) a).node off up)
    rw [RT.flat_split, List.mem_append, List.mem_singleton] at hx
    rcases hx with hx | hx
    · clear hroot key o1 o2 o3
      rw [treeOf, hg, hx0] at hx
      rcases h23 with e | e
      · rw [e, if_neg (by decide)] at hx
        simp only [RT.init, List.mem_append] at hx
        rcases hx with hx | hx
        · exact ih _ (by omega) _ _ x hx
        · exact ih _ (by omega) _ _ x hx
      · rw [e, if_pos rfl] at hx
        by_cases hk2 : kind = 2
        · rw [if_pos hk2] at hx
          simp only [RT.init, RT.flat, List.mem_append, List.mem_singleton] at hx
          rcases hx with ((hx | hx) | hx) | hx
          · exact ih _ (by omega) _ _ x hx
          · exact ih _ (by omega) _ _ x hx
          · subst hx; exact .inl rfl
          · exact ih _ (by omega) _ _ x hx
        · rw [if_neg hk2] at hx
          simp only [RT.init, List.mem_append] at hx
          rcases hx with (hx | hx) | hx
          · exact ih _ (by omega) _ _ x hx
          · exact ih _ (by omega) _ _ x hx
          · exact ih _ (by omega) _ _ x hx
    · subst hx
      refine hroot ?_ ?_ (RT.node_fr _ _ _) (RT.node_to _ _ _)
      · rw [treeOf]; split
        · split <;> rfl
        · rfl
      · rw [treeOf]; split
        · split <;> rfl
        · rfl
/-- the nodes of a tree that may be -/
structure LstF (kind : Int) (ids : List Int) (ll : List (List Int)) (L : List RN) : Prop where
  nodes : nodesI kind ids ll = L.map RN.i
  kid : ∀ (q : Nat) (x : RN), L[q]? = some x → nodeKid L q x
  ok : ∀ x ∈ L, nodeOK kind L x
  grp : ∀ x ∈ L, x.red = true ∨ (x.lev ≤ (lvN ll).length ∧ x.at_ < wideN ids.length (lvN ll) x.lev ∧ x.fr = leafS (lvN ll) x.lev x.at_ ∧ x.to = leafS (lvN ll) x.lev (x.at_ + 1))
  leaves : L.countP (fun x => x.lev == 0) = ids.length
  len : (ids.length = 0 → L = []) ∧ (0 < ids.length → L.length < 2 * ids.length)
  small : L.length ≤ 2000
theorem lst_facts {kind : Int} {ids : List Int} {ll : List (List Int)} (hm : mayB kind ids ll = true) : ∃ L, LstF kind ids ll L := by
  have hl2 := nodesU_len kind ids ll
  rcases Nat.eq_zero_or_pos ids.length with h0 | h0
  · have hn : nodesI kind ids ll = [] := by simp [nodesI, nodesU, h0]
    exact ⟨[], by rw [hn]; rfl, fun q x h => by simp at h, fun x h => by simp at h, fun x h => by simp at h, by rw [h0]; rfl, ⟨fun _ => rfl, fun h => by omega⟩, by simp⟩
  · have hT := top_facts hm h0
    have hm' := hm
    rw [mayB, Bool.and_eq_true] at hm'
    obtain ⟨_, _, h3, _⟩ := chkT_lv hm'.2
    have hs := lvOK_sum _ _ h3
    have hw0 := wideN_pos hs h0 _ (Nat.le_refl _)
    have hg := treeOf_nodes (kind := kind) hs _ 0 (Nat.le_refl _) hw0 0 (-1)
    refine ⟨_, hT.nodes, kid_top hT, fun x hx => ?_, hg, ?_, ⟨fun h => by omega, fun _ => ?_⟩, ?_⟩
    · have := RT.nodes_ok hT.k12 _ [] [] (-1) hT.good x hx
      simpa using this
    · rw [RT.leaves _ _ _ hT.good]
      have := RT.lvs_ok _ hT.ok
      rw [hT.fr, hT.to_] at this
      omega
    · rw [RT.flat_len]
      have := hT.size
      omega
    · rw [hT.nodes, List.length_map] at hl2
      exact hl2
/-- both kinds of a tree -/
theorem kinds_facts {ids : List Int} {ll : List (List Int)} (hc : chkT ids ll = true) : ∃ L1 L2, LstF 1 ids ll L1 ∧ LstF 2 ids ll L2 ∧ (L2.filter fun x => !x.red).map coreR = L1.map coreR ∧ L2.countP (fun x => x.red) = thrI ll := by
  have m1 : mayB 1 ids ll = true := by rw [mayB, hc]; rfl
  have m2 : mayB 2 ids ll = true := by rw [mayB, hc]; rfl
  obtain ⟨_, _, h3, hin⟩ := chkT_lv hc
  have hs := lvOK_sum _ _ h3
  have hthr : thrI ll = thrN (lvN ll) := by rw [← thr_cast, levI_lvN hin]
  obtain ⟨L1, f1⟩ := lst_facts m1
  obtain ⟨L2, f2⟩ := lst_facts m2
  refine ⟨L1, L2, f1, f2, ?_⟩
  have inj : ∀ a b : List RN, a.map RN.i = b.map RN.i → a = b := by
    intro a
    induction a with
    | nil => intro b h; cases b with
      | nil => rfl
      | cons y b => simp at h
    | cons x a ih => intro b h; cases b with
      | nil => simp at h
      | cons y b =>
        simp only [List.map_cons, List.cons.injEq] at h
        rw [ih b h.2]
        congr 1
        have hxy := h.1
        cases x with | mk l1 a1 r1 f1 t1 k1 u1 =>
        cases y with | mk l2 a2 r2 f2 t2 k2 u2 =>
        simp only [RN.i, RI.mk.injEq, Int.natCast_inj] at hxy
        obtain ⟨e1, e2, e3, e4, e5, e6, e7⟩ := hxy
        have e6' : k1 = k2 := by
          have g : ∀ l : List Nat, (castL l).map Int.toNat = l := fun l => by
            induction l with
            | nil => rfl
            | cons n l ih =>
              show Int.toNat (n : Int) :: (castL l).map Int.toNat = n :: l
              rw [ih, Int.toNat_natCast]
          rw [← g k1, ← g k2, e6]
        subst e1 e2 e3 e4 e5 e6' e7
        rfl
  rcases Nat.eq_zero_or_pos ids.length with h0 | h0
  · have n1 := f1.len.1 h0
    have n2 := f2.len.1 h0
    subst n1 n2
    refine ⟨rfl, ?_⟩
    rw [hthr]
    cases hlv : lvN ll with
    | nil => rfl
    | cons l ls =>
      rw [hlv, h0] at h3
      exact absurd h3.1 (by omega)
  · have t1 := top_facts m1 h0
    have t2 := top_facts m2 h0
    have e1 := inj _ _ (f1.nodes.symm.trans t1.nodes)
    have e2 := inj _ _ (f2.nodes.symm.trans t2.nodes)
    rw [e1, e2]
    refine ⟨kinds_core _ _ _ _ _ _ _, ?_⟩
    rw [RT.reds_flat, hthr]
    have hr := reds_level hs _ (Nat.le_refl _)
    have hw0 := wideN_pos hs h0 _ (Nat.le_refl _)
    have hw1 := wideN_top _ _ h3
    rw [show wideN ids.length (lvN ll) (lvN ll).length = 0 + 1 by omega, sumTo_succ, List.take_length] at hr
    rw [← hr]
    simp [sumTo]

end Go.Proofs.Ytmganbdbihjbmaa

/-
  NODES OF A TREE (layers 11, 12): all that is asked of them for a plan: pure facts.
-/
set_option linter.unusedVariables false
namespace Go.Proofs.Ytmganbdbihjbmaa

theorem RT.leaf_at {kind : Int} : ∀ (T : RT) (off : Nat) (up : Int), T.good kind → ∀ x ∈ T.flat off up, x.lev = 0 → x.fr = x.at_ ∧ x.to = x.at_ + 1
  | .leaf a, off, up, _ => fun x hx _ => by
    simp only [RT.flat, List.mem_singleton] at hx
    subst hx
    exact ⟨rfl, rfl⟩
  | .two lev a red l r, off, up, ⟨h1, h2, h3, _⟩ => fun x hx h0 => by
    simp only [RT.flat, List.mem_append, List.mem_singleton] at hx
    rcases hx with (hx | hx) | hx
    · exact RT.leaf_at l _ _ h1 x hx h0
    · exact RT.leaf_at r _ _ h2 x hx h0
    · subst hx; simp only at h0; omega
  | .three lev a l m r, off, up, ⟨h1, h2, h3, h4, _⟩ => fun x hx h0 => by
    simp only [RT.flat, List.mem_append, List.mem_singleton] at hx
    rcases hx with ((hx | hx) | hx) | hx
    · exact RT.leaf_at l _ _ h1 x hx h0
    · exact RT.leaf_at m _ _ h2 x hx h0
    · exact RT.leaf_at r _ _ h3 x hx h0
    · subst hx; simp only at h0; omega
def leafLt (x y : RN) : Prop := x.lev = 0 → y.lev = 0 → x.at_ < y.at_
theorem leafLt_of {kind : Int} {l r : RT} {o1 o2 : Nat} {u1 u2 : Int} (g1 : l.good kind) (g2 : r.good kind) (k1 : l.ok) (k2 : r.ok) (h : l.to ≤ r.fr) : ∀ x ∈ l.flat o1 u1, ∀ y ∈ r.flat o2 u2, leafLt x y := fun x hx y hy h1 h2 => by
  have := l.span o1 u1 k1 x hx
  have := r.span o2 u2 k2 y hy
  have := RT.leaf_at l o1 u1 g1 x hx h1
  have := RT.leaf_at r o2 u2 g2 y hy h2
  omega
theorem RT.leafs {kind : Int} : ∀ (T : RT) (off : Nat) (up : Int), T.good kind → T.ok → (T.flat off up).Pairwise leafLt
  | .leaf a, off, up, _, _ => by simp [RT.flat]
  | .two lev a red l r, off, up, ⟨h1, h2, h3, _⟩, ⟨k1, k2, k3⟩ => by
    rw [RT.flat, List.pairwise_append, List.pairwise_append]
    refine ⟨⟨RT.leafs l _ _ h1 k1, RT.leafs r _ _ h2 k2, leafLt_of h1 h2 k1 k2 (by omega)⟩, List.pairwise_singleton _ _, fun x _ y hy _ h0 => ?_⟩
    rw [List.mem_singleton] at hy
    subst hy
    simp only at h0
    omega
  | .three lev a l m r, off, up, ⟨h1, h2, h3, h4, _⟩, ⟨k1, k2, k3, k4, k5⟩ => by
    have f2 := RT.fr_lt m k2
    rw [RT.flat, List.pairwise_append, List.pairwise_append, List.pairwise_append]
    refine ⟨⟨⟨RT.leafs l _ _ h1 k1, RT.leafs m _ _ h2 k2, leafLt_of h1 h2 k1 k2 (by omega)⟩, RT.leafs r _ _ h3 k3, fun x hx y hy => ?_⟩, List.pairwise_singleton _ _, fun x _ y hy _ h0 => ?_⟩
    · rcases List.mem_append.1 hx with hx | hx
      · exact leafLt_of h1 h3 k1 k3 (by omega) x hx y hy
      · exact leafLt_of h2 h3 k2 k3 (by omega) x hx y hy
    · rw [List.mem_singleton] at hy
      subst hy
      simp only at h0
      omega
/-- each node is the last one, or below another one -/
def upOK (L : List RN) (up : Int) (e q : Nat) (x : RN) : Prop := (x.up = up ∧ q + 1 = e) ∨ ∃ (u : Nat) (z : RN), x.up = (u : Int) ∧ L[u]? = some z ∧ q ∈ z.kids
theorem RT.up_ok : ∀ (T : RT) (pre post : List RN) (up : Int) (q : Nat) (x : RN), pre.length ≤ q → q < pre.length + T.size → (pre ++ T.flat pre.length up ++ post)[q]? = some x → upOK (pre ++ T.flat pre.length up ++ post) up (pre.length + T.size) q x
  | .leaf a, pre, post, up, q, x, h1, h2, hx => by
    have e := flat_end pre post (.leaf a) q up (by simp only [RT.size] at h2 ⊢; omega)
    rw [e] at hx
    have hx := Option.some.inj hx
    subst hx
    exact .inl ⟨RT.node_upv _ _ _, by simp only [RT.size] at h2 ⊢; omega⟩
  | .two lev a red l r, pre, post, up, q, x, h1, h2, hx => by
    have p1 := l.size_pos
    have p2 := r.size_pos
    have hA : (pre ++ l.flat pre.length ((pre.length + l.size + r.size : Nat) : Int)).length = pre.length + l.size := by rw [List.length_append, RT.flat_len]
    have hroot := flat_end pre post (.two lev a red l r) (pre.length + l.size + r.size) up (by simp only [RT.size]; omega)
    simp only [RT.size] at h2 ⊢
    by_cases c1 : q < pre.length + l.size
    · have ih := RT.up_ok l pre (r.flat (pre.length + l.size) ((pre.length + l.size + r.size : Nat) : Int) ++ [⟨lev, a, red, l.fr, r.to, [pre.length + l.size - 1, pre.length + l.size + r.size - 1], up⟩] ++ post) ((pre.length + l.size + r.size : Nat) : Int) q x h1 c1 (by simpa only [RT.flat, List.append_assoc] using hx)
      rcases ih with ⟨e1, e2⟩ | ⟨u, z, e1, e2, e3⟩
      · exact .inr ⟨_, _, e1, hroot, by simp only [RT.node, List.mem_cons]; left; omega⟩
      · exact .inr ⟨u, z, e1, by simpa only [RT.flat, List.append_assoc] using e2, e3⟩
    · by_cases c2 : q < pre.length + l.size + r.size
      · have ih := RT.up_ok r (pre ++ l.flat pre.length ((pre.length + l.size + r.size : Nat) : Int)) ([⟨lev, a, red, l.fr, r.to, [pre.length + l.size - 1, pre.length + l.size + r.size - 1], up⟩] ++ post) ((pre.length + l.size + r.size : Nat) : Int) q x (by omega) (by omega) (by rw [hA]; simpa only [RT.flat, List.append_assoc] using hx)
        rw [hA] at ih
        rcases ih with ⟨e1, e2⟩ | ⟨u, z, e1, e2, e3⟩
        · exact .inr ⟨_, _, e1, hroot, by simp only [RT.node, List.mem_cons]; right; left; omega⟩
        · exact .inr ⟨u, z, e1, by simpa only [RT.flat, List.append_assoc] using e2, e3⟩
      · have hq : q = pre.length + l.size + r.size := by omega
        rw [hq, hroot] at hx
        have hx := Option.some.inj hx
        subst hx
        exact .inl ⟨RT.node_upv _ _ _, by omega⟩
  | .three lev a l m r, pre, post, up, q, x, h1, h2, hx => by
    have p1 := l.size_pos
    have p2 := m.size_pos
    have p3 := r.size_pos
    have hroot := flat_end pre post (.three lev a l m r) (pre.length + l.size + m.size + r.size) up (by simp only [RT.size]; omega)
    obtain ⟨U, hU⟩ : ∃ U : Int, U = ((pre.length + l.size + m.size + r.size : Nat) : Int) := ⟨_, rfl⟩
    have hA : (pre ++ l.flat pre.length U).length = pre.length + l.size := by rw [List.length_append, RT.flat_len]
    have hB : (pre ++ l.flat pre.length U ++ m.flat (pre.length + l.size) U).length = pre.length + l.size + m.size := by rw [List.length_append, RT.flat_len, hA]
    obtain ⟨X, hX⟩ : ∃ X : RN, X = ⟨lev, a, false, l.fr, r.to, [pre.length + l.size - 1, pre.length + l.size + m.size - 1, pre.length + l.size + m.size + r.size - 1], up⟩ := ⟨_, rfl⟩
    have hfl : (RT.three lev a l m r).flat pre.length up = l.flat pre.length U ++ m.flat (pre.length + l.size) U ++ r.flat (pre.length + l.size + m.size) U ++ [X] := by rw [RT.flat, hU, hX]
    have hXn : (RT.three lev a l m r).node pre.length up = X := hX.symm
    have hXk : X.kids = [pre.length + l.size - 1, pre.length + l.size + m.size - 1, pre.length + l.size + m.size + r.size - 1] := by rw [hX]
    rw [hXn] at hroot
    rw [hfl] at hx hroot ⊢
    simp only [RT.size] at h2 ⊢
    by_cases c1 : q < pre.length + l.size
    · have ih := RT.up_ok l pre (m.flat (pre.length + l.size) U ++ r.flat (pre.length + l.size + m.size) U ++ [X] ++ post) U q x h1 c1 (by simpa only [List.append_assoc] using hx)
      rcases ih with ⟨e1, e2⟩ | ⟨u, z, e1, e2, e3⟩
      · exact .inr ⟨_, _, e1.trans hU, hroot, by simp only [hXk, List.mem_cons]; left; omega⟩
      · exact .inr ⟨u, z, e1, by simpa only [List.append_assoc] using e2, e3⟩
    · by_cases c2 : q < pre.length + l.size + m.size
      · have ih := RT.up_ok m (pre ++ l.flat pre.length U) (r.flat (pre.length + l.size + m.size) U ++ [X] ++ post) U q x (by omega) (by omega) (by rw [hA]; simpa only [List.append_assoc] using hx)
        rw [hA] at ih
        rcases ih with ⟨e1, e2⟩ | ⟨u, z, e1, e2, e3⟩
        · exact .inr ⟨_, _, e1.trans hU, hroot, by simp only [hXk, List.mem_cons]; right; left; omega⟩
        · exact .inr ⟨u, z, e1, by simpa only [List.append_assoc] using e2, e3⟩
      · by_cases c3 : q < pre.length + l.size + m.size + r.size
        · have ih := RT.up_ok r (pre ++ l.flat pre.length U ++ m.flat (pre.length + l.size) U) ([X] ++ post) U q x (by omega) (by omega) (by rw [hB]; simpa only [List.append_assoc] using hx)
          rw [hB] at ih
          rcases ih with ⟨e1, e2⟩ | ⟨u, z, e1, e2, e3⟩
          · exact .inr ⟨_, _, e1.trans hU, hroot, by simp only [hXk, List.mem_cons]; right; right; left; omega⟩
          · exact .inr ⟨u, z, e1, by simpa only [List.append_assoc] using e2, e3⟩
        · have hq : q = pre.length + l.size + m.size + r.size := by omega
          rw [hq, hroot] at hx
          have hx := Option.some.inj hx
          subst hx
          exact .inl ⟨by rw [hX], by omega⟩
/-- the nodes of a tree that may be -/
structure NF (kind : Int) (ids : List Int) (L : List RN) : Prop where
  kid : ∀ (q : Nat) (x : RN), L[q]? = some x → nodeKid L q x
  ok : ∀ x ∈ L, nodeOK kind L x
  span : ∀ x ∈ L, x.fr < x.to ∧ x.to ≤ ids.length
  leafs : L.Pairwise leafLt
  up : ∀ (q : Nat) (x : RN), L[q]? = some x → upOK L (-1) L.length q x
  rise : ids.Pairwise (· < ·)
theorem top_nf {kind : Int} {ids : List Int} {ll : List (List Int)} {T : RT} (hT : TopF kind ids ll T) : NF kind ids (T.flat 0 (-1)) where
  kid := kid_top hT
  ok := fun x hx => by
    have := RT.nodes_ok hT.k12 T [] [] (-1) hT.good x hx
    simpa using this
  span := fun x hx => by
    have := T.span 0 (-1) hT.ok x hx
    have := hT.to_
    omega
  leafs := RT.leafs T 0 (-1) hT.good hT.ok
  up := fun q x hx => by
    have hlt : q < T.size := by rw [← RT.flat_len T 0 (-1)]; exact (List.getElem?_eq_some_iff.1 hx).1
    have := RT.up_ok T [] [] (-1) q x
    simp only [List.length_nil, List.nil_append, List.append_nil, Nat.zero_add] at this
    rw [RT.flat_len]
    exact this (by omega) hlt hx
  rise := hT.rise
theorem nf_nil (kind : Int) : NF kind [] [] where
  kid := fun q x h => by simp at h
  ok := fun x h => by simp at h
  span := fun x h => by simp at h
  leafs := List.Pairwise.nil
  up := fun q x h => by simp at h
  rise := List.Pairwise.nil
theorem nf_facts {kind : Int} {ids : List Int} {ll : List (List Int)} (hm : mayB kind ids ll = true) : ∃ L, nodesI kind ids ll = L.map RN.i ∧ NF kind ids L ∧ (0 < ids.length → TopF kind ids ll (treeOf kind (lvN ll) (lvN ll).length 0) ∧ L = (treeOf kind (lvN ll) (lvN ll).length 0).flat 0 (-1)) := by
  rcases Nat.eq_zero_or_pos ids.length with h0 | h0
  · have hn : nodesI kind ids ll = [] := by simp [nodesI, nodesU, h0]
    have hi : ids = [] := List.eq_nil_of_length_eq_zero h0
    subst hi
    exact ⟨[], by rw [hn]; rfl, nf_nil kind, fun h => absurd h (by simp)⟩
  · have hT := top_facts hm h0
    exact ⟨_, hT.nodes, top_nf hT, fun _ => ⟨hT, rfl⟩⟩
section
variable {kind : Int} {ids : List Int} {L : List RN}
theorem leaf_one (h : NF kind ids L) {i j : Nat} {x y : RN} (hx : L[i]? = some x) (hy : L[j]? = some y) (h1 : x.lev = 0) (h2 : y.lev = 0) (h3 : x.at_ = y.at_) : i = j := by
  obtain ⟨hi, e1⟩ := List.getElem?_eq_some_iff.1 hx
  obtain ⟨hj, e2⟩ := List.getElem?_eq_some_iff.1 hy
  have hp := List.pairwise_iff_getElem.1 h.leafs
  rcases Nat.lt_trichotomy i j with hlt | he | hlt
  · have := hp i j hi hj hlt (by rw [e1]; exact h1) (by rw [e2]; exact h2)
    rw [e1, e2] at this
    omega
  · exact he
  · have := hp j i hj hi hlt (by rw [e2]; exact h2) (by rw [e1]; exact h1)
    rw [e1, e2] at this
    omega
theorem NF.leafAt (h : NF kind ids L) {q : Nat} {x : RN} (hx : L[q]? = some x) (h0 : x.lev = 0) : x.fr = x.at_ ∧ x.to = x.at_ + 1 ∧ x.at_ < ids.length := by
  have h1 := (h.kid q x hx).2.2.1 h0
  have h2 := h.span x (List.mem_of_getElem? hx)
  omega
theorem NF.kids0 (h : NF kind ids L) {q : Nat} {x : RN} (hx : L[q]? = some x) : x.kids = [] ↔ x.lev = 0 := by
  have := (h.ok x (List.mem_of_getElem? hx)).2.2.1
  rw [← List.length_eq_zero_iff]
  exact this
/-- a kid's place has its own node, which has that one above -/
theorem NF.kidUp (h : NF kind ids L) {q k : Nat} {x : RN} (hx : L[q]? = some x) (hk : k ∈ x.kids) : ∃ y, L[k]? = some y ∧ y.up = (q : Int) ∧ k < q := by
  obtain ⟨_, h2, _, h4⟩ := h.kid q x hx
  obtain ⟨y, e1, e2⟩ := h2 k hk
  exact ⟨y, e1, e2, h4 k hk⟩
theorem span_lo {L : List RN} (hs : ∀ x ∈ L, x.fr < x.to) : ∀ (ks : List Nat) (a z : Nat), spanK L a ks z → (∀ k ∈ ks, ∃ y, L[k]? = some y ∧ a ≤ y.fr) ∧ ks.Nodup
  | [], a, z, _ => ⟨fun k h => by simp at h, List.nodup_nil⟩
  | k :: ks, a, z, ⟨y, h1, h2, h3⟩ => by
    have hy := hs y (List.mem_of_getElem? h1)
    obtain ⟨g1, g2⟩ := span_lo hs ks y.to z h3
    refine ⟨fun c hc => ?_, List.nodup_cons.2 ⟨fun hm => ?_, g2⟩⟩
    · rcases List.mem_cons.1 hc with rfl | hc
      · exact ⟨y, h1, by omega⟩
      · obtain ⟨u, e1, e2⟩ := g1 c hc
        exact ⟨u, e1, by omega⟩
    · obtain ⟨u, e1, e2⟩ := g1 k hm
      rw [h1] at e1
      have e1 := Option.some.inj e1
      subst e1
      omega
theorem NF.nodup (h : NF kind ids L) {q : Nat} {x : RN} (hx : L[q]? = some x) : x.kids.Nodup := by
  by_cases h0 : x.kids = []
  · rw [h0]; exact List.nodup_nil
  · exact (span_lo (fun y hy => (h.span y hy).1) _ _ _ ((h.kid q x hx).1 h0)).2
end

end Go.Proofs.Ytmganbdbihjbmaa

/-
  CONTRACT of the closure of the program's red.told at a leaf.
-/
set_option linter.unusedVariables false
namespace Go.Proofs.Ytmganbdbihjbmaa
open Go.RowKit

def TellPost (base b0 bN gN bO bT bS bK : Nat) (kind : Int) (sv : Array Value) (m : Nat) (w0 w : World) (f : Nat → Nat) (v : Value) (ns : List RN) (T : RT) (q : Nat) (e : Ending) (w' : World) : Prop :=
  ∃ v' us', e = .returned (.int .i64 (q : Int)) ∧ TS base b0 bN gN bO bT bS bK kind sv m w0 w' f v' v' (ns ++ T.flat ns.length (-1)) us' ∧ MV gN bO v w v' w'

set_option maxRecDepth 100000 in
set_option maxHeartbeats 4000000 in
theorem PTellLeaf_any (base b0 bN gN bO bT bS bK : Nat) (kind : Int) (sv : Array Value) (m : Nat) (w0 w : World) (lv : List (List Nat)) (a : Nat) (f : Nat → Nat) (v : Value) (ns : List RN) (us : List Value) (hm : 0 < m) (hmm : m ≤ 2000) (ha : a < 100000) (hn : ns.length + 1 ≤ 100000)
    (h : TS base b0 bN gN bO bT bS bK kind sv m w0 w (stepF lv 0 a f) v v ns us) :
    Calls Try.prog 59 #[.int .i64 0, .pointer (some ⟨bN, 0, none⟩), .pointer (some ⟨bO, 0, none⟩), .pointer (some ⟨bT, 0, none⟩), .pointer (some ⟨bS, 0, none⟩), .pointer (some ⟨bK, 0, none⟩)] w
      (TellPost base b0 bN gN bO bT bS bK kind sv m w0 w (stepF lv 0 (a + 1) f) v ns (.leaf a) ns.length) := by
  have Hpost := Lib.hid (show ∀ v' us' w' n, TS base b0 bN gN bO bT bS bK kind sv m w0 w' (stepF lv 0 (a + 1) f) v' v' (ns ++ (RT.leaf a).flat ns.length (-1)) us' → MV gN bO v w v' w' → n = ((ns.length : Nat) : Int) → TellPost base b0 bN gN bO bT bS bK kind sv m w0 w (stepF lv 0 (a + 1) f) v ns (.leaf a) ns.length (.returned (.int .i64 n)) w' from fun v' us' w' n q1 q2 e => ⟨v', us', by rw [e], q1, q2⟩)
  generalize TellPost base b0 bN gN bO bT bS bK kind sv m w0 w (stepF lv 0 (a + 1) f) v ns (.leaf a) ns.length = PO at *
  have h1 := h.count 0 (a + 1)
  rw [stepF_zero] at h1
  have hlen : (ns ++ (RT.leaf a).flat ns.length (-1)).length = ns.length + 1 := by rw [List.length_append, RT.flat_len, RT.size]
  have hm1 : MV gN bO v w v (w.setCell ⟨gN, 0, none⟩ (.int .i64 ((a + 1 : Nat) : Int))) := MV.count
  have c1 := h.rN.cell (i := 0) (v := .slice (some ⟨gN, 0, none⟩) m m) rfl
  have c2 := h.rG.cell (cntC_at _ hm)
  rw [stepF_top] at c2
  have f2 := h.rG.frozen 0
  have c3 := h.rO.cell (i := 0) (v := v) rfl
  have z0 : (0 : Int) < (m : Int) := by omega
  have z1 : IntKind.i64.wrap ((a : Int) + 1) = (a : Int) + 1 := by rw [IntKind.wrap_i64]; omega
  have hm0 : ¬ m = 0 := by omega
  clear h
  go_enter Try.func59, Try.ntmps59
  go_upto_region 3 with fail
  try simp only [Act.put]
  refine wp_gen (fun wx => TS base b0 bN gN bO bT bS bK kind sv m w0 wx (stepF lv 0 (a + 1) f) v v ns us ∧ MV gN bO v w v wx) ⟨h1, hm1⟩ ?_
  clear h1 hm1 c1 c2 f2 c3 z0
  rintro w1 ⟨h1, hm1⟩
  have c3 := h1.rO.cell (i := 0) (v := v) rfl
  have had := h1.addLeaf (a := a) (by omega) hn
  go_wp2_with fail
  refine had.mono ?_
  rintro e w2 ⟨v2, us2, rfl, h2, hm2⟩
  have c4 := h2.rO.cell (i := 0) (v := v) rfl
  have f4 := h2.rO.frozen 0
  obtain ⟨A2, d2, hv2⟩ := h2.form
  rw [hlen] at hv2
  subst hv2
  have h3 := h2.store (.slice A2 (ns.length + 1) d2)
  have hm3 := (hm1.trans hm2).trans (MV.store (gN := gN) (w := w2) (bO := bO) (v := .slice A2 (ns.length + 1) d2) (x := .slice A2 (ns.length + 1) d2))
  have c5 := h3.rO.cell (i := 0) (v := .slice A2 (ns.length + 1) d2) rfl
  have zn : IntKind.i64.wrap (((ns.length + 1 : Nat) : Int) - 1) = (ns.length : Int) := by rw [IntKind.wrap_i64]; omega
  have zn2 : IntKind.i64.wrap ((ns.length : Int) + 1 - 1) = (ns.length : Int) := by rw [IntKind.wrap_i64]; omega
  clear had h1 hm1 c3 h2 hm2
  go_wp2_with fail
  (first | exact Hpost.out _ _ _ _ h3 hm3 rfl | exact bodyPost_ret (results_tmp rfl _ _ _) rfl (Hpost.out _ _ _ _ h3 hm3 rfl))

end Go.Proofs.Ytmganbdbihjbmaa

/-
  CONTRACT of the closure of the program's red.told at a level above the leaves, by those below. Printed by gen_redpd.py.
-/
set_option linter.unusedVariables false
namespace Go.Proofs.Ytmganbdbihjbmaa
open Go.RowKit

theorem flats_two (ns : List RN) (A B : RT) : (ns ++ A.flat ns.length (-1)) ++ B.flat (ns ++ A.flat ns.length (-1)).length (-1) = ns ++ flats [A, B] ns.length := by
  rw [List.length_append, RT.flat_len]
  simp [flats, List.append_assoc]
theorem flats_three (ns : List RN) (A B C : RT) : (ns ++ flats [A, B] ns.length) ++ C.flat (ns ++ flats [A, B] ns.length).length (-1) = ns ++ flats [A, B, C] ns.length := by
  rw [List.length_append, flats_len]
  simp [flats, sizes, List.append_assoc, Nat.add_assoc]

set_option maxRecDepth 100000 in
set_option maxHeartbeats 4000000 in
theorem PTellStep_any (base b0 bN gN bO bT bS bK : Nat) (kind : Int) (hk12 : kind = 1 ∨ kind = 2) (Ai : Option Addr) (ni ci : Nat) (Al : Option Addr) (nl cl : Nat) (ids : List Int) (lv : List (List Nat)) (L k a m : Nat) (hL : L = k + 1) (l : List Nat) (hl : lv[k]? = some l) (h23 : two3 l) (ha : a < l.length) (hsum : l.sum ≤ 1000) (hlen : l.length ≤ 1000) (hk : k ≤ 1000) (hkm : k + 1 < m) (hmm : m ≤ 2000) (w0 : World)
    (hS0 : ShR w0 base Ai ni ci Al nl cl ids (levI lv))
    (IH : ∀ b, b < l.sum → ∀ (f : Nat → Nat) (v : Value) (ns : List RN) (us : List Value) (w : World) (q : Nat), TS base b0 bN gN bO bT bS bK kind (shV Ai ni ci Al nl cl) m w0 w (stepF lv k b f) v v ns us → q + 1 = ns.length + (treeOf kind lv k b).size → q < 100000 →
      Calls Try.prog 59 #[.int .i64 (k : Nat), .pointer (some ⟨bN, 0, none⟩), .pointer (some ⟨bO, 0, none⟩), .pointer (some ⟨bT, 0, none⟩), .pointer (some ⟨bS, 0, none⟩), .pointer (some ⟨bK, 0, none⟩)] w (TellPost base b0 bN gN bO bT bS bK kind (shV Ai ni ci Al nl cl) m w0 w (stepF lv k (b + 1) f) v ns (treeOf kind lv k b) q))
    (f : Nat → Nat) (v : Value) (ns : List RN) (us : List Value) (w : World) (q : Nat) (h : TS base b0 bN gN bO bT bS bK kind (shV Ai ni ci Al nl cl) m w0 w (stepF lv (k + 1) a f) v v ns us) (hq : q + 1 = ns.length + (treeOf kind lv (k + 1) a).size) (hqq : q < 100000) :
    Calls Try.prog 59 #[.int .i64 (L : Nat), .pointer (some ⟨bN, 0, none⟩), .pointer (some ⟨bO, 0, none⟩), .pointer (some ⟨bT, 0, none⟩), .pointer (some ⟨bS, 0, none⟩), .pointer (some ⟨bK, 0, none⟩)] w (TellPost base b0 bN gN bO bT bS bK kind (shV Ai ni ci Al nl cl) m w0 w (stepF lv (k + 1) (a + 1) f) v ns (treeOf kind lv (k + 1) a) q) := by
  have hll : k < (levI lv).length := by rw [levI_lenX]; exact (List.getElem?_eq_some_iff.1 hl).1
  have hlk : (levI lv)[k] = castL l := by have := levI_get hl; rw [List.getElem?_eq_getElem hll] at this; exact Option.some.inj this
  have hkn : k < nl := by rw [← hS0.hnl]; exact hll
  have hcl := hS0.hcl
  have hml := hS0.hml
  obtain ⟨vs, hv, hlv⟩ := hS0.lvs
  obtain ⟨A0, c0, hv0, hc0, hm0, hr0⟩ := hlv.get hll
  rw [hlk, castL_len] at hv0 hc0 hr0
  have hm23 := two3_get h23 ha
  have hsa := startT_succ l ha
  have hca : ((castL l).map iv)[a]? = some (.int .i64 ((l[a] : Nat) : Int)) := by rw [castL, List.getElem?_map, List.getElem?_map, List.getElem?_eq_getElem ha]; rfl
  have hle := startT_le l (a + 1)
  have hg : lv.getD k [] = l := getD_at hl
  have hx : l.getD a 0 = l[a] := getD_at (List.getElem?_eq_getElem ha)
  have hTT := treeOf.eq_2 kind lv a k
  rw [hg, hx] at hTT
  obtain ⟨T, hT⟩ : ∃ T, T = treeOf kind lv (k + 1) a := ⟨_, rfl⟩
  rw [← hT] at hq hTT ⊢
  obtain ⟨st, hst⟩ : ∃ st, st = startT l a := ⟨_, rfl⟩
  have hgo : startT (lv.getD k []) (a + 1) = st + l[a] := by rw [hg, hst, hsa]
  have Hout := Lib.hid (stepF_out lv k a f)
  rw [hgo] at Hout
  have h1 := h.count (k + 1) (a + 1)
  rw [stepF_in, hg, ← hst] at h1
  rw [← hst] at hTT hsa
  rw [hsa] at hle
  have hm1 : MV gN bO v w v (w.setCell ⟨gN, k + 1, none⟩ (.int .i64 ((a + 1 : Nat) : Int))) := MV.count
  obtain ⟨T0, hT0⟩ : ∃ T0, T0 = treeOf kind lv k st := ⟨_, rfl⟩
  obtain ⟨T1, hT1⟩ : ∃ T1, T1 = treeOf kind lv k (st + 1) := ⟨_, rfl⟩
  obtain ⟨T2, hT2⟩ : ∃ T2, T2 = treeOf kind lv k (st + 2) := ⟨_, rfl⟩
  obtain ⟨g, hgg⟩ : ∃ g, g = stepF lv (k + 1) (a + 1) f := ⟨_, rfl⟩
  rw [← hT0, ← hT1, ← hT2] at hTT
  rw [← hgg] at h1 Hout ⊢
  obtain ⟨n2, hn2⟩ : ∃ n2, n2 = l[a] := ⟨_, rfl⟩
  rw [← hn2] at hTT hm23 hle hca Hout
  have hsz : T0.size + T1.size + 1 ≤ T.size := by
    rcases hm23 with e | e
    · rw [hTT, if_neg (by omega)]; simp [RT.size]
    · rw [hTT, if_pos e]
      split <;> simp only [RT.size] <;> omega
  have hst1000 : st + n2 ≤ l.sum := hle
  have IH0 := IH st (by omega)
  have IH1 := IH (st + 1) (by omega)
  have HIH2 := Lib.hid (fun (h3 : n2 = 3) => IH (st + 2) (by omega))
  rw [← hT0] at IH0
  rw [← hT1] at IH1
  rw [← hT2] at HIH2
  have p0' := T0.size_pos
  have p1' := T1.size_pos
  obtain ⟨p0, hp0⟩ : ∃ p0, p0 + 1 = ns.length + T0.size := ⟨ns.length + T0.size - 1, by omega⟩
  obtain ⟨p1, hp1⟩ : ∃ p1, p1 + 1 = ns.length + T0.size + T1.size := ⟨ns.length + T0.size + T1.size - 1, by omega⟩
  have c1 := h.rN.cell (i := 0) (v := .slice (some ⟨gN, 0, none⟩) m m) rfl
  have c2 := h.rG.cell (cntC_at _ hkm)
  rw [stepF_top] at c2
  have f2 := h.rG.frozen (k + 1)
  have z0 : ((k + 1 : Nat) : Int) < (m : Int) := by omega
  have z0' : (k : Int) + 1 < (m : Int) := by omega
  have z1 : IntKind.i64.wrap ((a : Int) + 1) = (a : Int) + 1 := by rw [IntKind.wrap_i64]; omega
  have zm : ¬ m = 0 := by omega
  have Hpost := Lib.hid (show ∀ v' us' w' F T' n, F = g → T' = T → n = (q : Int) → TS base b0 bN gN bO bT bS bK kind (shV Ai ni ci Al nl cl) m w0 w' F v' v' (ns ++ T'.flat ns.length (-1)) us' → MV gN bO v w v' w' → TellPost base b0 bN gN bO bT bS bK kind (shV Ai ni ci Al nl cl) m w0 w g v ns T q (.returned (.int .i64 n)) w' from fun v' us' w' F T' n e1 e2 e3 q1 q2 => ⟨v', us', by rw [e3], by rw [← e1, ← e2]; exact q1, q2⟩)
  generalize TellPost base b0 bN gN bO bT bS bK kind (shV Ai ni ci Al nl cl) m w0 w g v ns T q = PO at *
  have HTT := Lib.hid hTT
  have HT := Lib.hid hT
  have Hhv := Lib.hid hv
  have Hhr0 := Lib.hid hr0
  have Hca := Lib.hid hca
  have hf1 := h.form
  obtain ⟨Av, dv, rfl⟩ := hf1
  subst hL
  clear h IH hT hTT hT0 hT1 hT2 hS0 hlv hl h23 hst hgo hgg hn2 hlk hll hg hx hsa hv hr0 hca
  have zk : ¬ ((k + 1 : Nat) : Int) = 0 := by omega
  have zk' : ¬ (k : Int) + 1 = 0 := by omega
  have zk0 : (((k + 1 : Nat) : Int) == 0) = false := by simp only [beq_eq_false_iff_ne]; exact zk
  have zk2 : IntKind.i64.wrap (((k + 1 : Nat) : Int) - 1) = (k : Int) := by rw [IntKind.wrap_i64]; omega
  have zk3 : IntKind.i64.wrap ((k : Int) + 1 - 1) = (k : Int) := by rw [IntKind.wrap_i64]; omega
  have zk5 : IntKind.i64.wrap (k : Int) = (k : Int) := by rw [IntKind.wrap_i64]; omega
  go_enter Try.func59, Try.ntmps59
  go_upto_region 3 with fail
  try simp only [Act.put]
  refine wp_gen (fun wx => TS base b0 bN gN bO bT bS bK kind (shV Ai ni ci Al nl cl) m w0 wx (stepF lv k st g) (.slice Av ns.length dv) (.slice Av ns.length dv) ns us ∧ MV gN bO (.slice Av ns.length dv) w (.slice Av ns.length dv) wx) ⟨h1, hm1⟩ ?_
  clear h1 hm1 c1 c2 f2 z0 z0' z1
  rintro w1 ⟨h1, hm1⟩
  go_upto_region 6 with fail
  try simp only [Act.put]
  have hb2 : Below w1.heap.size w1 ((w1.alloc (.cells zN 57)).setRow w1.heap.size (ndZ (k + 1) a false)) := below_setRow ((Below.refl w1.heap.size w1).alloc (Nat.le_refl _) (.cells zN 57)) (Nat.le_refl _) (ndZ (k + 1) a false)
  have h2 := h1.quiet hb2
  have hm2 := hm1.trans (MV.quiet (gN := gN) (bO := bO) (v := .slice Av ns.length dv) hb2)
  have hbx : RowC ((w1.alloc (.cells zN 57)).setRow w1.heap.size (ndZ (k + 1) a false)) w1.heap.size 57 (ndZ (k + 1) a false) := (RowC.new w1 57 zN).row _
  have hbv : (Value.slice Av ns.length dv).ownBlock ≠ some w1.heap.size := fun e => by have := own_ltT h1.nd.row _ e; omega
  obtain ⟨bn, hbn⟩ : ∃ bn, bn = w1.heap.size := ⟨_, rfl⟩
  have hbn0 : b0 ≤ bn := by have := h1.lt; omega
  have hlt1 := h1.lt
  have hbnN : bn ≠ gN := by omega
  have hbnO : bn ≠ bO := by omega
  go_upto_region 7 with ((with_reducible show wpList _ _ _ (⟨none, Op.store 57 _ _, _, _, _, _⟩ :: _) _ _); refine wpList_store_row rfl 57 (.tmp 9) (.tmp 39) rfl w1.heap.size (ndZ (k + 1) a false) rfl rfl 57 zN (RowC.new _ _ _) rnInfo2 rfl (by simp [ndZ, Value.oneCell']) ?_)
  try simp only [Act.put]
  rw [← hbn] at hbx hbv h2 hm2 ⊢
  refine wp_gen (fun wx => TS base b0 bN gN bO bT bS bK kind (shV Ai ni ci Al nl cl) m w0 wx (stepF lv k st g) (.slice Av ns.length dv) (.slice Av ns.length dv) ns us ∧ MV gN bO (.slice Av ns.length dv) w (.slice Av ns.length dv) wx ∧ RowC wx bn 57 (ndZ (k + 1) a false)) ⟨h2, hm2, hbx⟩ ?_
  clear h1 hm1 h2 hm2 hbx hb2 hbn hlt1
  rintro w2 ⟨h2, hm2, hbx2⟩
  have hbd := c_drew (c_refl w2)
  have h2d := h2.quiet hbd
  have hmd := hm2.trans (MV.quiet (gN := gN) (bO := bO) (v := .slice Av ns.length dv) hbd)
  have hbd2 := hbx2.drew
  have hc0 := IH0 g _ ns us w2.drew p0 h2d hp0 (by omega)
  have cT2 := h2.rT.cell (i := 0) (v := cloV bN bO bT bS bK) rfl
  have cT2d := h2d.rT.cell (i := 0) (v := cloV bN bO bT bS bK) rfl
  simp only [cloV] at cT2 cT2d
  clear h2 hm2 hbx2 IH0
  go_region_held3 (fun wx : World => wx.cell? ⟨bT, 0, none⟩ = some (.func (.func 59) #[] #[.pointer (some ⟨bN, 0, none⟩), .pointer (some ⟨bO, 0, none⟩), .pointer (some ⟨bT, 0, none⟩), .pointer (some ⟨bS, 0, none⟩), .pointer (some ⟨bK, 0, none⟩)]))
    (first | exact cT2d | exact cT2 | exact cT4 | exact cT3)
    (first
      | (go_at_call 59; (with_reducible refine hc0.mono ?_); rintro e w3 ⟨v3, us3, rfl, h3, hm3⟩; have cT3 := h3.rT.cell (i := 0) (v := cloV bN bO bT bS bK) rfl; have hbx3 := hm3.box hbd2 hbnN hbnO hbv; have hc1 := IH1 g _ _ us3 w3 p1 h3 (hp1.trans (by rw [List.length_append, RT.flat_len])) (by omega))
      | (go_at_call 59; (with_reducible refine hc1.mono ?_); rintro e w4 ⟨v4, us4, rfl, h4, hm4⟩; have cT4 := h4.rT.cell (i := 0) (v := cloV bN bO bT bS bK) rfl; have hbx4 := hm4.box hbx3.1 hbnN hbnO hbx3.2))
  go_upto_region 12 with fail
  try simp only [Act.put]
  rw [flats_two] at h4
  rw [show st + 1 + 1 = st + 2 from rfl] at h4
  have hme := hmd.trans (hm3.trans hm4)
  obtain ⟨hbx, hbv4⟩ := hbx4
  obtain ⟨b, o, rfl, hbb, hcell⟩ := (Hhv.out.below h4.old).pos (by omega)
  have d0 := hcell k _ hv0
  obtain ⟨b', o', rfl, hbb', hcell'⟩ := (Hhr0.out.below h4.old).pos (by omega)
  have d1 := hcell' a _ Hca.out
  have k1 := h4.rS.cell (i := 1) (v := .slice (some ⟨b, o, none⟩) nl cl) rfl
  have zk6 : (k : Int) < (nl : Int) := by omega
  have za : (a : Int) < (l.length : Int) := by omega
  clear h2d hmd hbd2 hbd h3 hm3 hbx3 hm4 cT2 cT2d cT3 cT4 hc0 hc1 hcell hcell' hv0 Hhv Hhr0 Hca
  replace hp0 := hp0.symm
  replace hp1 := hp1.symm
  rcases hm23 with rfl | rfl
  · have hTe : joinT (k + 1) a false [T0, T1] = T := by rw [HTT.out, if_neg (by decide)]; rfl
    rw [HTT.out, if_neg (by decide)] at hq
    simp only [RT.size] at hq
    replace hq := hq.symm
    have zq : IntKind.i64.wrap (((q + 1 : Nat) : Int) - 1) = (q : Int) := by rw [IntKind.wrap_i64]; omega
    have zq2 : IntKind.i64.wrap ((q : Int) + 1 - 1) = (q : Int) := by rw [IntKind.wrap_i64]; omega
    have had1 := h4.addT' (k + 1) a false (Ts := [T0, T1]) (.inl ⟨_, _, rfl⟩) (by simp only [sizes]; omega) (ndZ (k + 1) a false) rfl #[.int .i64 (p0 : Nat), .int .i64 (p1 : Nat)] (by
      rw [show ends [T0, T1] ns.length = [p0, p1] by
        simp only [ends, List.cons.injEq, and_true]
        omega]
      rfl) 2 rfl
    have cO1 := h4.rO.cell (i := 0) (v := v4) rfl
    go_wp2_with ((with_reducible show wpList _ _ _ (⟨some 81, _, _, _, _, _⟩ :: _) _ _); refine wpList_loadC (by kernel_rfl) 57 (.tmp 9) rfl bn rfl 57 (ndZ (k + 1) a false) _ hbx Try.underlying57 rfl rnInfo2 ?_)
    refine had1.mono ?_
    rintro e wa1 ⟨va1, ua1, rfl, ha1, hma1⟩
    obtain ⟨Aa1, da1, hva1⟩ := ha1.form
    rw [show (ns ++ (joinT (k + 1) a false [T0, T1]).flat ns.length (-1)).length = q + 1 by rw [List.length_append, RT.flat_len]; simp only [joinT, RT.size]; omega] at hva1
    subst hva1
    have cP1 := ha1.rO.cell (i := 0) (v := v4) rfl
    have fP1 := ha1.rO.frozen 0
    have hb1 := ha1.store (.slice Aa1 (q + 1) da1)
    have hmb1 := hma1.trans (MV.store (gN := gN) (w := wa1) (bO := bO) (v := .slice Aa1 (q + 1) da1) (x := .slice Aa1 (q + 1) da1))
    have cQ1 := hb1.rO.cell (i := 0) (v := .slice Aa1 (q + 1) da1) rfl
    clear had1 cO1
    clear h4 ha1 k1 d0 d1
    go_wp2_with fail
    (first | exact Hpost.out _ _ _ _ _ _ Hout.out hTe rfl hb1 (hme.trans hmb1) | exact bodyPost_ret (results_tmp rfl _ _ _) rfl (Hpost.out _ _ _ _ _ _ Hout.out hTe rfl hb1 (hme.trans hmb1)))
  · have hIH2 := HIH2.out rfl
    have p2' := T2.size_pos
    rcases hk12 with rfl | rfl
    · have hTe : joinT (k + 1) a false [T0, T1, T2] = T := by rw [HTT.out, if_pos rfl, if_neg (by decide)]; rfl
      rw [HTT.out, if_pos rfl, if_neg (by decide)] at hq
      simp only [RT.size] at hq
      replace hq := hq.symm
      have zq : IntKind.i64.wrap (((q + 1 : Nat) : Int) - 1) = (q : Int) := by rw [IntKind.wrap_i64]; omega
      have zq2 : IntKind.i64.wrap ((q : Int) + 1 - 1) = (q : Int) := by rw [IntKind.wrap_i64]; omega
      obtain ⟨p2, hp2⟩ : ∃ p2, ns.length + T0.size + T1.size + T2.size = p2 + 1 := ⟨ns.length + T0.size + T1.size + T2.size - 1, by omega⟩
      have cK := h4.rK.cell (i := 0) (v := .int .i64 1) rfl
      have cT := h4.rT.cell (i := 0) (v := cloV bN bO bT bS bK) rfl
      simp only [cloV] at cT
      have hc2 := hIH2 g _ _ us4 w4 p2 h4 (by rw [List.length_append, flats_len]; simp only [sizes]; omega) (by omega)
      go_wp2_with fail
      refine hc2.mono ?_
      rintro e w5 ⟨v5, us5, rfl, h5, hm5⟩
      rw [flats_three] at h5
      have hbx5 := hm5.box hbx hbnN hbnO hbv4
      clear h4 k1 d0 d1 cK cT hc2
      have had1 := h5.addT' (k + 1) a false (Ts := [T0, T1, T2]) (.inr ⟨rfl, _, _, _, rfl⟩) (by simp only [sizes]; omega) (ndZ (k + 1) a false) rfl #[.int .i64 (p0 : Nat), .int .i64 (p1 : Nat), .int .i64 (p2 : Nat)] (by
        rw [show ends [T0, T1, T2] ns.length = [p0, p1, p2] by
          simp only [ends, List.cons.injEq, and_true]
          omega]
        rfl) 3 rfl
      have cO1 := h5.rO.cell (i := 0) (v := v5) rfl
      go_wp2_with ((with_reducible show wpList _ _ _ (⟨some 94, _, _, _, _, _⟩ :: _) _ _); refine wpList_loadC (by kernel_rfl) 57 (.tmp 9) rfl bn rfl 57 (ndZ (k + 1) a false) _ hbx5.1 Try.underlying57 rfl rnInfo2 ?_)
      refine had1.mono ?_
      rintro e wa1 ⟨va1, ua1, rfl, ha1, hma1⟩
      obtain ⟨Aa1, da1, hva1⟩ := ha1.form
      rw [show (ns ++ (joinT (k + 1) a false [T0, T1, T2]).flat ns.length (-1)).length = q + 1 by rw [List.length_append, RT.flat_len]; simp only [joinT, RT.size]; omega] at hva1
      subst hva1
      have cP1 := ha1.rO.cell (i := 0) (v := v5) rfl
      have fP1 := ha1.rO.frozen 0
      have hb1 := ha1.store (.slice Aa1 (q + 1) da1)
      have hmb1 := hma1.trans (MV.store (gN := gN) (w := wa1) (bO := bO) (v := .slice Aa1 (q + 1) da1) (x := .slice Aa1 (q + 1) da1))
      have cQ1 := hb1.rO.cell (i := 0) (v := .slice Aa1 (q + 1) da1) rfl
      clear had1 cO1
      clear h5 ha1
      go_wp2_with fail
      (first | exact Hpost.out _ _ _ _ _ _ Hout.out hTe rfl hb1 ((hme.trans hm5).trans hmb1) | exact bodyPost_ret (results_tmp rfl _ _ _) rfl (Hpost.out _ _ _ _ _ _ Hout.out hTe rfl hb1 ((hme.trans hm5).trans hmb1)))
    · have hTe : joinT (k + 1) a false [(RT.two (k + 1) a true T0 T1), T2] = T := by rw [HTT.out, if_pos rfl, if_pos rfl]; rfl
      rw [HTT.out, if_pos rfl, if_pos rfl] at hq
      simp only [RT.size] at hq
      replace hq := hq.symm
      have zq : IntKind.i64.wrap (((q + 1 : Nat) : Int) - 1) = (q : Int) := by rw [IntKind.wrap_i64]; omega
      have zq2 : IntKind.i64.wrap ((q : Int) + 1 - 1) = (q : Int) := by rw [IntKind.wrap_i64]; omega
      have zp : IntKind.i64.wrap (((p1 + 1 + 1 : Nat) : Int) - 1) = ((p1 + 1 : Nat) : Int) := by rw [IntKind.wrap_i64]; omega
      have zp2 : IntKind.i64.wrap ((p1 : Int) + 1 + 1 - 1) = ((p1 + 1 : Nat) : Int) := by rw [IntKind.wrap_i64]; omega
      have zp3 : IntKind.i64.wrap ((p1 : Int) + 1) = ((p1 + 1 : Nat) : Int) := by rw [IntKind.wrap_i64]; omega
      obtain ⟨p2, hp2⟩ : ∃ p2, ns.length + T0.size + T1.size + 1 + T2.size = p2 + 1 := ⟨ns.length + T0.size + T1.size + 1 + T2.size - 1, by omega⟩
      have cK := h4.rK.cell (i := 0) (v := .int .i64 2) rfl
      have had1 := h4.addT' (k + 1) a true (Ts := [T0, T1]) (.inl ⟨_, _, rfl⟩) (by simp only [sizes]; omega) #[.int .i64 ((k : Int) + 1), .int .i64 (a : Nat), .bool true, .int .i64 0, .int .i64 0, .slice none 0 0, .int .i64 0] rfl #[.int .i64 (p0 : Nat), .int .i64 (p1 : Nat)] (by
        rw [show ends [T0, T1] ns.length = [p0, p1] by
          simp only [ends, List.cons.injEq, and_true]
          omega]
        rfl) 2 rfl
      have cO1 := h4.rO.cell (i := 0) (v := v4) rfl
      go_wp2_with fail
      refine had1.mono ?_
      rintro e wa1 ⟨va1, ua1, rfl, ha1, hma1⟩
      obtain ⟨Aa1, da1, hva1⟩ := ha1.form
      rw [show (ns ++ (joinT (k + 1) a true [T0, T1]).flat ns.length (-1)).length = p1 + 1 + 1 by rw [List.length_append, RT.flat_len]; simp only [joinT, RT.size]; omega] at hva1
      subst hva1
      have cP1 := ha1.rO.cell (i := 0) (v := v4) rfl
      have fP1 := ha1.rO.frozen 0
      have hb1 := ha1.store (.slice Aa1 (p1 + 1 + 1) da1)
      have hmb1 := hma1.trans (MV.store (gN := gN) (w := wa1) (bO := bO) (v := .slice Aa1 (p1 + 1 + 1) da1) (x := .slice Aa1 (p1 + 1 + 1) da1))
      have cQ1 := hb1.rO.cell (i := 0) (v := .slice Aa1 (p1 + 1 + 1) da1) rfl
      clear had1 cO1
      have hbx5 := hmb1.box hbx hbnN hbnO hbv4
      have cT := hb1.rT.cell (i := 0) (v := cloV bN bO bT bS bK) rfl
      simp only [cloV] at cT
      have cT' := ha1.rT.cell (i := 0) (v := cloV bN bO bT bS bK) rfl
      simp only [cloV] at cT'
      have hc2 := hIH2 g _ _ ua1 _ p2 hb1 (by rw [List.length_append, RT.flat_len]; simp only [joinT, RT.size]; omega) (by omega)
      clear h4 k1 d0 d1 cK
      go_wp2_with fail
      refine hc2.mono ?_
      rintro e w5 ⟨v5, us5, rfl, h5, hm5⟩
      rw [flats_two, show joinT (k + 1) a true [T0, T1] = (RT.two (k + 1) a true T0 T1) from rfl] at h5
      have hbx6 := hm5.box hbx5.1 hbnN hbnO hbx5.2
      clear hb1 ha1 cT cT' hc2 cP1 fP1 cQ1
      have had2 := h5.addT' (k + 1) a false (Ts := [(RT.two (k + 1) a true T0 T1), T2]) (.inl ⟨_, _, rfl⟩) (by simp only [sizes, RT.size]; omega) (ndZ (k + 1) a false) rfl #[.int .i64 ((p1 + 1) : Nat), .int .i64 (p2 : Nat)] (by
        rw [show ends [(RT.two (k + 1) a true T0 T1), T2] ns.length = [(p1 + 1), p2] by
          simp only [ends, RT.size, List.cons.injEq, and_true]
          omega]
        rfl) 2 rfl
      have cO2 := h5.rO.cell (i := 0) (v := v5) rfl
      go_wp2_with ((with_reducible show wpList _ _ _ (⟨some 64, _, _, _, _, _⟩ :: _) _ _); refine wpList_loadC (by kernel_rfl) 57 (.tmp 9) rfl bn rfl 57 (ndZ (k + 1) a false) _ hbx6.1 Try.underlying57 rfl rnInfo2 ?_)
      refine had2.mono ?_
      rintro e wa2 ⟨va2, ua2, rfl, ha2, hma2⟩
      obtain ⟨Aa2, da2, hva2⟩ := ha2.form
      rw [show (ns ++ (joinT (k + 1) a false [(RT.two (k + 1) a true T0 T1), T2]).flat ns.length (-1)).length = q + 1 by rw [List.length_append, RT.flat_len]; simp only [joinT, RT.size]; omega] at hva2
      subst hva2
      have cP2 := ha2.rO.cell (i := 0) (v := v5) rfl
      have fP2 := ha2.rO.frozen 0
      have hb2 := ha2.store (.slice Aa2 (q + 1) da2)
      have hmb2 := hma2.trans (MV.store (gN := gN) (w := wa2) (bO := bO) (v := .slice Aa2 (q + 1) da2) (x := .slice Aa2 (q + 1) da2))
      have cQ2 := hb2.rO.cell (i := 0) (v := .slice Aa2 (q + 1) da2) rfl
      clear had2 cO2
      clear h5 ha2
      go_wp2_with fail
      (first | exact Hpost.out _ _ _ _ _ _ Hout.out hTe rfl hb2 (((hme.trans hmb1).trans hm5).trans hmb2) | exact bodyPost_ret (results_tmp rfl _ _ _) rfl (Hpost.out _ _ _ _ _ _ Hout.out hTe rfl hb2 (((hme.trans hmb1).trans hm5).trans hmb2)))

end Go.Proofs.Ytmganbdbihjbmaa

/-
  CONTRACTS of the program's red.told (its closure at every level) and Nodes.
-/
set_option linter.unusedVariables false
namespace Go.Proofs.Ytmganbdbihjbmaa
open Go.RowKit

theorem PTell_any (base b0 bN gN bO bT bS bK : Nat) (kind : Int) (hk12 : kind = 1 ∨ kind = 2) (Ai : Option Addr) (ni ci : Nat) (Al : Option Addr) (nl cl : Nat) (ids : List Int) (lv : List (List Nat)) (many : Nat) (hs : lvSum many lv) (hmany : many ≤ 1000) (hlv : lv.length ≤ 1000) (w0 : World)
    (hS0 : ShR w0 base Ai ni ci Al nl cl ids (levI lv)) : ∀ (k a : Nat), k ≤ lv.length → a < wideN many lv k →
    ∀ (f : Nat → Nat) (v : Value) (ns : List RN) (us : List Value) (w : World) (q : Nat), TS base b0 bN gN bO bT bS bK kind (shV Ai ni ci Al nl cl) (lv.length + 1) w0 w (stepF lv k a f) v v ns us → q + 1 = ns.length + (treeOf kind lv k a).size → q < 100000 →
      Calls Try.prog 59 #[.int .i64 (k : Nat), .pointer (some ⟨bN, 0, none⟩), .pointer (some ⟨bO, 0, none⟩), .pointer (some ⟨bT, 0, none⟩), .pointer (some ⟨bS, 0, none⟩), .pointer (some ⟨bK, 0, none⟩)] w
        (TellPost base b0 bN gN bO bT bS bK kind (shV Ai ni ci Al nl cl) (lv.length + 1) w0 w (stepF lv k (a + 1) f) v ns (treeOf kind lv k a) q)
  | 0, a, _, ha, f, v, ns, us, w, q, h, hq, hqq => by
    have ha' : a < many := ha
    have hq' : q = ns.length := by simpa [treeOf, RT.size] using hq
    subst hq'
    exact PTellLeaf_any base b0 bN gN bO bT bS bK kind _ _ w0 w lv a f v ns us (by omega) (by omega) (by omega) (by omega) h
  | k + 1, a, hk, ha, f, v, ns, us, w, q, h, hq, hqq => by
    have hl : lv[k]? = some lv[k] := List.getElem?_eq_getElem (by omega)
    have hsum := wideN_sum hs hl
    have hw := wideN_le hs k (by omega)
    have hw1 := wideN_le hs (k + 1) hk
    have hal : a < lv[k].length := by rw [wideN, getD_at hl] at ha; exact ha
    have hle := len_sum (hs k _ hl).1
    exact PTellStep_any base b0 bN gN bO bT bS bK kind hk12 Ai ni ci Al nl cl ids lv (k + 1) k a (lv.length + 1) rfl lv[k] hl (hs k _ hl).1 hal (by omega) (by omega) (by omega) (by omega) (by omega) w0 hS0
      (fun b hb' f v ns us w q h1 h2 h3 => PTell_any base b0 bN gN bO bT bS bK kind hk12 Ai ni ci Al nl cl ids lv many hs hmany hlv w0 hS0 k b (by omega) (by omega) f v ns us w q h1 h2 h3) f v ns us w q h hq hqq

theorem cnt_made (n : Nat) (f : Nat → Nat) (hf : ∀ j, j < n → f j = 0) : madeCells #[Value.int .i64 0] n = cntC n f := by
  apply Array.ext'
  rw [toList_madeCells_one, cntC]
  apply List.ext_getElem
  · simp
  · intro i h1 h2
    simp at h1
    simp [hf i h1]
theorem downS_zero (lv : List (List Nat)) : ∀ k j, downS lv k 0 j = 0
  | 0, j => rfl
  | k + 1, j => by
    rw [downS, startT_zero, downS_zero lv k j]
    split <;> rfl
theorem stepF_none (lv : List (List Nat)) (k j : Nat) (h : j < k + 1) : stepF lv k 0 (fun _ => 0) j = 0 := by
  rw [stepF]
  split
  · exact downS_zero lv k j
  · rfl

set_option maxRecDepth 100000 in
set_option maxHeartbeats 4000000 in
theorem PTold_any (kind : Int) (hk12 : kind = 1 ∨ kind = 2) (Ai : Option Addr) (ni ci : Nat) (Al : Option Addr) (nl cl : Nat) (ids : List Int) (lv : List (List Nat)) (w : World) (h : ShR w w.heap.size Ai ni ci Al nl cl ids (levI lv)) (hs : lvSum ids.length lv) (hmany : ids.length ≤ 1000) (hpos : 0 < ids.length) (hlv : lv.length ≤ 1000) :
    Calls Try.prog 42 #[.int .i64 kind, .agg (shV Ai ni ci Al nl cl)] w fun e w' => Below w.heap.size w w' ∧ ∃ A n c, e = .returned (.slice A n c) ∧ NdR w' w'.heap.size A n c (((treeOf kind lv lv.length 0).flat 0 (-1)).map RN.i) := by
  have hw := wideN_pos hs hpos _ (Nat.le_refl _)
  have hts := treeOf_size (kind := kind) hs (Nat.le_refl _) hw
  obtain ⟨NS, hNS⟩ : ∃ NS, NS = (treeOf kind lv lv.length 0).flat 0 (-1) := ⟨_, rfl⟩
  rw [← hNS]
  have HNS := Lib.hid hNS
  clear hNS
  have Hni := Lib.hid h.hni
  have hnl : lv.length = nl := by have := h.hnl; rwa [levI_lenX] at this
  have hci := h.hci
  have hcl := h.hcl
  have hmi := h.hmi
  have hml := h.hml
  have hM := ((Ms.nil w).box 3 #[.int .i64 kind]).box 25 (shV Ai ni ci Al nl cl)
  simp only [World.size_alloc] at hM
  have Hpost := Lib.hid (show ∀ A n c w', Below w.heap.size w w' → NdR w' w'.heap.size A n c (NS.map RN.i) → (fun e w' => Below w.heap.size w w' ∧ ∃ A n c, e = Ending.returned (.slice A n c) ∧ NdR w' w'.heap.size A n c (NS.map RN.i)) (.returned (.slice A n c)) w' from fun A n c w' h1 h2 => ⟨h1, A, n, c, rfl, h2⟩)
  generalize (fun e w' => Below w.heap.size w w' ∧ ∃ A n c, e = Ending.returned (.slice A n c) ∧ NdR w' w'.heap.size A n c (NS.map RN.i)) = PO at *
  have hn1000 : ni ≤ 1000 := by rw [← Hni.out]; exact hmany
  have hmf : ∀ (fn : Fn) (first cap : Array Value) (w : World), (Instr.makeFunc fn first cap).run Try.prog w = .ok (.func fn first cap) w := fun _ _ _ _ => rfl
  have hsf : ∀ (a : Addr) (fn : Fn) (first cap : Array Value) (w : World), (store a (.func fn first cap)).run Try.prog w = stored Try.prog w a (.func fn first cap) .plain := fun a fn first cap w => run_store Try.prog w a _ .plain rfl
  obtain ⟨i0, hi0, hz0, hz1, hz2⟩ := info_parts nodeInfoR
  obtain ⟨i1, hi1, hy0, hy1, hy2⟩ := info_parts intInfo
  obtain ⟨bK, hbK⟩ : ∃ bK, bK = w.heap.size := ⟨_, rfl⟩
  obtain ⟨bS, hbS⟩ : ∃ bS, bS = w.heap.size + 1 := ⟨_, rfl⟩
  go_enter Try.func42, Try.ntmps42
  go_upto_region 1 with fail
  try simp only [Act.put]
  rw [← hbS, ← hbK] at hM ⊢
  have HbS := Lib.hid hbS
  have HbK := Lib.hid hbK
  clear hbS hbK
  refine wp_gen (fun wx => Ms w wx [(bS, 25, shV Ai ni ci Al nl cl), (bK, 3, #[.int .i64 kind])]) hM ?_
  clear hM
  rintro w1 hM1
  have k0 := (hM1.get 0 rfl).cell (i := 0) (v := .slice Ai ni ci) rfl
  have z0 : IntKind.i64.wrap (2 * (ni : Int)) = 2 * (ni : Int) := by rw [IntKind.wrap_i64]; omega
  go_upto_region 2 with (at_make; refine wpList_make_own _ rfl _ _ 46 rfl w.heap.size 57 i0 _ 7 Try.underlying46 hi0 hz0 hz1 _ _ _ (2 * ni) rfl rfl (by simp) (by rw [hz2]; omega) (by simp only [maxLen]; omega) hM1.old.size ?_; intro w2 hown hgr)
  try simp only [Act.put]
  have hM2 := (hM1.call ((Below.refl _ _).grown hgr (Nat.le_refl _) (by simp))).box 46 #[.slice (some ⟨w1.heap.size, 0, none⟩) 0 (2 * ni)]
  have hown2 := own_below hown (d_al w2 (.cells #[.slice (some ⟨w1.heap.size, 0, none⟩) 0 (2 * ni)] 46))
  obtain ⟨bO, hbO⟩ : ∃ bO, bO = w2.heap.size := ⟨_, rfl⟩
  rw [← hbO] at hM2 ⊢
  have hbO1 : w.heap.size ≤ bO := by rw [hbO]; have := hM1.old.size; have := hgr.size; omega
  refine wp_gen (fun wx => Ms w wx [(bO, 46, #[.slice (some ⟨w1.heap.size, 0, none⟩) 0 (2 * ni)]), (bS, 25, shV Ai ni ci Al nl cl), (bK, 3, #[.int .i64 kind])] ∧ wx.ownsRow w.heap.size 57 7 (.slice (some ⟨w1.heap.size, 0, none⟩) 0 (2 * ni)) 0 []) ⟨hM2, hown2⟩ ?_
  clear hM1 hM2 hown hown2 hgr k0 z0 hbO
  rintro w3 ⟨hM3, hown3⟩
  generalize (.slice (some ⟨w1.heap.size, 0, none⟩) 0 (2 * ni) : Value) = vO at *
  have k1 := (hM3.get 1 rfl).cell (i := 1) (v := .slice Al nl cl) rfl
  have z1 : IntKind.i64.wrap ((nl : Int) + 1) = (nl : Int) + 1 := by rw [IntKind.wrap_i64]; omega
  have hmk := run_make (P := Try.prog) w3 22 3 i1 (.int .i64 0) Try.underlying22 hi1 hy0 .i64 .i64 ((nl : Int) + 1) ((nl : Int) + 1) (by omega) (by omega) (by rw [hy2]; omega) (by omega)
  rw [show ((nl : Int) + 1).toNat = nl + 1 by omega, hy1, Nat.mul_one, show (Value.int .i64 0).cells = #[Value.int .i64 0] from rfl, cnt_made (nl + 1) (stepF lv nl 0 (fun _ => 0)) (fun j hj => stepF_none lv nl j hj)] at hmk
  have Hmk := Lib.hid hmk
  clear hmk
  have hM4 := (hM3.box 3 (cntC (nl + 1) (stepF lv nl 0 fun _ => 0))).box 22 #[.slice (some ⟨w3.heap.size, 0, none⟩) (nl + 1) (nl + 1)]
  have hal := (d_al w3 (.cells (cntC (nl + 1) (stepF lv nl 0 fun _ => 0)) 3))
  have hal2 := d_al (w3.alloc (.cells (cntC (nl + 1) (stepF lv nl 0 fun _ => 0)) 3)) (.cells #[.slice (some ⟨w3.heap.size, 0, none⟩) (nl + 1) (nl + 1)] 22)
  have hown4 := own_below (own_below hown3 hal) hal2
  simp only [World.size_alloc] at hM4
  go_upto_region 3 with (at_make; refine wpList_makeT (by kernel_rfl) _ _ 22 rfl _ _ rfl rfl Hmk.out ?_)
  try simp only [Act.put]
  obtain ⟨gN, hgN⟩ : ∃ gN, gN = w3.heap.size := ⟨_, rfl⟩
  obtain ⟨bN, hbN⟩ : ∃ bN, bN = w3.heap.size + 1 := ⟨_, rfl⟩
  rw [← hbN, ← hgN] at hM4
  rw [← hgN] at hown4
  rw [← hbN, ← hgN]
  have hgN0 : w.heap.size ≤ gN := by rw [hgN]; exact hM3.old.size
  have hbKg : ¬ gN = bK := by have := (hM3.get 2 rfl).lt; omega
  refine wp_gen (fun wx => Ms w wx [(bN, 22, #[.slice (some ⟨gN, 0, none⟩) (nl + 1) (nl + 1)]), (gN, 3, cntC (nl + 1) (stepF lv nl 0 fun _ => 0)), (bO, 46, #[vO]), (bS, 25, shV Ai ni ci Al nl cl), (bK, 3, #[.int .i64 kind])] ∧ wx.ownsRow w.heap.size 57 7 vO 0 []) ⟨hM4, hown4⟩ ?_
  clear hM3 hown3 hal hal2 hM4 hown4 Hmk z1 k1 hbN hgN
  rintro w4 ⟨hM4, hown4⟩
  go_upto_region 4 with fail
  try simp only [Act.put]
  have hM5 := hM4.box 92 #[.nilFunc]
  have hown5 := own_below hown4 (d_al w4 (.cells #[.nilFunc] 92))
  obtain ⟨bT, hbT⟩ : ∃ bT, bT = w4.heap.size := ⟨_, rfl⟩
  have hbT0 : w.heap.size ≤ bT := by rw [hbT]; exact hM4.old.size
  rw [← hbT] at hM5 ⊢
  refine wp_gen (fun wx => Ms w wx [(bT, 92, #[.nilFunc]), (bN, 22, #[.slice (some ⟨gN, 0, none⟩) (nl + 1) (nl + 1)]), (gN, 3, cntC (nl + 1) (stepF lv nl 0 fun _ => 0)), (bO, 46, #[vO]), (bS, 25, shV Ai ni ci Al nl cl), (bK, 3, #[.int .i64 kind])] ∧ wx.ownsRow w.heap.size 57 7 vO 0 []) ⟨hM5, hown5⟩ ?_
  clear hM4 hown4 hM5 hown5 hbT
  rintro w5 ⟨hM5, hown5⟩
  have cT := (hM5.get 0 rfl).cell (i := 0) (v := .nilFunc) rfl
  have fT := (hM5.get 0 rfl).frozen 0
  have hrT := hM5.get 0 rfl
  have hrN := hM5.get 1 rfl
  have hrG := hM5.get 2 rfl
  have hrO := hM5.get 3 rfl
  have hrS := hM5.get 4 rfl
  have hrK := hM5.get 5 rfl
  have hT5 : TS w.heap.size w5.heap.size bN gN bO bT bS bK kind (shV Ai ni ci Al nl cl) (lv.length + 1) w (w5.setCell ⟨bT, 0, none⟩ (cloV bN bO bT bS bK)) (stepF lv lv.length 0 fun _ => 0) vO vO [] [] := by
    have hg := grown_setCell w5 bT 0 (cloV bN bO bT bS bK)
    have hne : ∀ {g : Nat} {t : TypeId} {cs : Array Value}, RowC w5 g t cs → t ≠ 92 → RowC (w5.setCell ⟨bT, 0, none⟩ (cloV bN bO bT bS bK)) g t cs := fun hr ht => hr.far (ty_apart hr hrT ht) _
    rw [hnl]
    refine ⟨hM5.old.grown hg hM5.old.size (fun g e => by injection e with e; omega), ⟨hgN0, hbO1⟩, ⟨hrG.lt, hrO.lt, hM5.old.size, hg.size⟩, hbKg, hne hrN (by decide), hne hrG (by decide), hne hrO (by decide), hrT.set_ 0 _, hne hrS (by decide), hne hrK (by decide), ⟨rfl, ?_, fun k x u hk => by simp at hk⟩, fun u hu => by simp at hu⟩
    refine hown5.kept hg ?_
    cases e : vO.ownBlock with
    | none => exact .inl rfl
    | some y =>
      refine .inr fun e2 => ?_
      injection e2 with e2
      subst e2
      obtain ⟨cs', hr'⟩ := own_tyT hown5 e
      exact absurd (ty_neT hrT hr') (by decide)
  simp only [cloV] at hT5
  have k1 := hrS.cell (i := 1) (v := .slice Al nl cl) rfl
  have k1' := hT5.rS.cell (i := 1) (v := .slice Al nl cl) rfl
  have cT5 := hT5.rT.cell (i := 0) (v := cloV bN bO bT bS bK) rfl
  simp only [cloV] at cT5
  go_upto_region 5 with fail
  try simp only [Act.put]
  refine wp_gen (fun wx => TS w.heap.size w5.heap.size bN gN bO bT bS bK kind (shV Ai ni ci Al nl cl) (lv.length + 1) w wx (stepF lv lv.length 0 fun _ => 0) vO vO [] []) hT5 ?_
  clear cT fT hrT hrN hrG hrO hrS hrK k1 k1' cT5 hT5 hM5 hown5
  rintro w6 hT6
  have k1 := hT6.rS.cell (i := 1) (v := .slice Al nl cl) rfl
  have cT6 := hT6.rT.cell (i := 0) (v := cloV bN bO bT bS bK) rfl
  simp only [cloV] at cT6
  have ht := PTell_any w.heap.size w5.heap.size bN gN bO bT bS bK kind hk12 Ai ni ci Al nl cl ids lv ids.length hs hmany hlv w h lv.length 0 (Nat.le_refl _) hw _ _ _ _ w6 ((treeOf kind lv lv.length 0).size - 1) hT6 (by have := (treeOf kind lv lv.length 0).size_pos; rw [List.length_nil]; omega) (by omega)
  rw [hnl] at ht
  go_wp2_with fail
  refine ht.mono ?_
  rintro e w7 ⟨v7, us7, rfl, hT7, _⟩
  rw [List.nil_append, List.length_nil, show (treeOf kind lv nl 0).flat 0 (-1) = NS by rw [HNS.out, hnl]] at hT7
  obtain ⟨A7, c7, hv7, _, _⟩ := own_formT hT7.nd.row
  have hnd := hT7.nd
  have hold := hT7.old
  have cO := hT7.rO.cell (i := 0) (v := v7) rfl
  subst hv7
  have htold := hnd.told
  clear ht hT6 hT7 hnd k1 cT6
  go_wp2_with fail
  (first | exact Hpost.out _ _ _ _ hold htold | exact bodyPost_ret (results_tmp rfl _ _ _) rfl (Hpost.out _ _ _ _ hold htold))

end Go.Proofs.Ytmganbdbihjbmaa

/-
  CONTRACT of the program's red.Nodes.
-/
set_option linter.unusedVariables false
namespace Go.Proofs.Ytmganbdbihjbmaa
open Go.RowKit

set_option maxRecDepth 100000 in
set_option maxHeartbeats 4000000 in
theorem PNodes_any (kind : Int) (Ai : Option Addr) (ni ci : Nat) (Al : Option Addr) (nl cl : Nat) (ids : List Int) (ll : List (List Int)) (w : World) (h : ShR w w.heap.size Ai ni ci Al nl cl ids ll) (hf : fewT ids ll = true) :
    Calls Try.prog 21 #[.int .i64 kind, .agg (shV Ai ni ci Al nl cl)] w (NodesPost w kind ids ll) := by
  have Hni := Lib.hid h.hni
  have Hnl := Lib.hid h.hnl
  have hM := (Ms.nil w).box 25 (shV Ai ni ci Al nl cl)
  have hS1 := (h.below hM.old)
  have hni6 : ni ≤ 1000000 := by have := (few_len hf).2.1; have := h.hni; omega
  have hck := PCheck_any Ai ni ci Al nl cl ids ll _ (hS1.more hM.old.size) (few_million hf) hni6
  have Hpost := Lib.hid (show ∀ A n c er w', Below w.heap.size w w' → er = mayE kind ids ll → NdR w' w'.heap.size A n c (nodesI kind ids ll) → NodesPost w kind ids ll (.returned (.tuple #[.slice A n c, .int .i64 er])) w' from fun A n c er w' h1 h2 h3 => ⟨h1, A, n, c, by rw [h2], h3⟩)
  generalize NodesPost w kind ids ll = PO at *
  by_cases hk : kind = 1 ∨ kind = 2
  · have hkB : (decide (kind = 1) || decide (kind = 2)) = true := by rcases hk with e | e <;> simp [e]
    have Hmb := Lib.hid (show mayB kind ids ll = chkT ids ll by rw [mayB, hkB, Bool.true_and])
    obtain ⟨er, her⟩ : ∃ er, er = chkE ids ll := ⟨_, rfl⟩
    rw [← her] at hck
    have Her := Lib.hid her
    clear her
    have hfinish : ∀ w1, Below (w.heap.size + 1) (w.alloc (.cells (shV Ai ni ci Al nl cl) 25)) w1 → Below w.heap.size (w.alloc (.cells (shV Ai ni ci Al nl cl) 25)) w1 := fun w1 h => h.mono (by omega)
    have hchk : er = 0 ∨ er = 1 := by
      have := Her.out
      rw [chkE] at this
      split at this <;> omega
    have Htold := Lib.hid (fun (h0 : er = 0) (hn0 : ¬ ni = 0) (w1 : World) (hS2 : ShR w1 w1.heap.size Ai ni ci Al nl cl ids ll) => by
      have hch : chkT ids ll = true := chkE_iff.1 (Her.out.symm.trans h0)
      obtain ⟨hn1000, _, hlo, hin⟩ := chkT_lv hch
      have hs := lvOK_sum _ _ hlo
      have hhi := lv_high hch
      have hlen : (lvN ll).length = nl := by rw [lvN, List.length_map]; exact Hnl.out
      rw [← levI_lvN hin] at hS2
      exact PTold_any kind hk Ai ni ci Al nl cl ids (lvN ll) w1 hS2 hs hn1000 (by rw [Hni.out]; omega) (by omega))
    have Hnd := Lib.hid (show er = 0 → ¬ ni = 0 → nodesI kind ids ll = ((treeOf kind (lvN ll) (lvN ll).length 0).flat 0 (-1)).map RN.i from fun h0 hn0 => by
      rw [nodesI, Hmb.out, if_pos (chkE_iff.1 (Her.out.symm.trans h0)), nodesU, if_neg (by rw [Hni.out]; exact hn0)])
    have Hn0 := Lib.hid (show ni = 0 → nodesI kind ids ll = [] from fun hn0 => by
      have h0 : ids.length = 0 := by rw [Hni.out]; exact hn0
      simp [nodesI, nodesU, h0])
    have Hn1 := Lib.hid (show er = 1 → nodesI kind ids ll = [] from fun h1 => by
      have h2 : ¬ chkT ids ll = true := fun e => by
        have := chkE_iff.2 e
        have := Her.out
        omega
      rw [nodesI, Hmb.out, if_neg h2])
    have Hmay := Lib.hid (show er = mayE kind ids ll by
      have := Her.out
      rw [chkE] at this
      rw [mayE, Hmb.out, this])
    generalize (((treeOf kind (lvN ll) (lvN ll).length 0).flat 0 (-1)).map RN.i) = NS at *
    clear hkB hfinish
    rcases hk with rfl | rfl
    all_goals
      have hold := hM.old
      go_enter Try.func21, Try.ntmps21
      go_upto_region 3 with fail
      go_wp2_with ((with_reducible show wpList _ _ _ (⟨some 13, _, _, _, _, _⟩ :: _) _ _); refine wpList_loadC (by kernel_rfl) 25 (.tmp 3) rfl w.heap.size rfl 25 (shV Ai ni ci Al nl cl) _ (hM.get 0 rfl) Try.underlying25 rfl shapeInfo2 ?_)
      refine hck.mono ?_
      rintro e w1 ⟨rfl, hb1⟩
      have hM1 := hM.call hb1
      have hold1 := hM1.old
      have hS2 := hS1.below (hb1.mono hM.old.size)
      clear hck hM hS1 h hb1 hold
      rcases hchk with h1 | h1
      rotate_left
      · subst h1
        have Hz := Lib.hid (Hn1.out rfl)
        have hz := NdR.zero w1 w1.heap.size
        rw [← Hz.out] at hz
        clear hM1 hS2
        go_wp2_with fail
        (first | exact Hpost.out _ _ _ _ _ hold1 Hmay.out hz | exact bodyPost_ret (results_tmp2 rfl _ _ _) rfl (Hpost.out _ _ _ _ _ hold1 Hmay.out hz))
      · subst h1
        have k0 := (hM1.get 0 rfl).cell (i := 0) (v := .slice Ai ni ci) rfl
        by_cases hn0 : ni = 0
        · have Hz := Lib.hid (Hn0.out hn0)
          have hz := NdR.zero w1 w1.heap.size
          rw [← Hz.out] at hz
          have hn0i : (ni : Int) = 0 := by omega
          clear hM1 hS2
          go_wp2_with fail
          (first | exact Hpost.out _ _ _ _ _ hold1 Hmay.out hz | exact bodyPost_ret (results_tmp2 rfl _ _ _) rfl (Hpost.out _ _ _ _ _ hold1 Hmay.out hz))
        · have hn0i : ¬ (ni : Int) = 0 := by omega
          have hto := Htold.out rfl hn0 w1 (hS2.more hold1.size)
          have hbx := hM1.get 0 rfl
          clear hS2 hM1
          go_wp2_with ((with_reducible show wpList _ _ _ (⟨some 23, _, _, _, _, _⟩ :: _) _ _); refine wpList_loadC (by kernel_rfl) 25 (.tmp 3) rfl w.heap.size rfl 25 (shV Ai ni ci Al nl cl) _ hbx Try.underlying25 rfl shapeInfo2 ?_)
          refine hto.mono ?_
          rintro e w2 ⟨hb2, A2, n2, c2, rfl, hnd⟩
          have hold2 := hold1.trans (hb2.mono hold1.size)
          rw [← Hnd.out (by first | rfl | trivial) (by first | exact hn0 | trivial)] at hnd
          clear hto hbx k0
          go_wp2_with fail
          (first | exact Hpost.out _ _ _ _ _ hold2 Hmay.out hnd | exact bodyPost_ret (results_tmp2 rfl _ _ _) rfl (Hpost.out _ _ _ _ _ hold2 Hmay.out hnd))
  · have hk1 : ¬ kind = 1 := fun e => hk (.inl e)
    have hk2 : ¬ kind = 2 := fun e => hk (.inr e)
    have hkB : (decide (kind = 1) || decide (kind = 2)) = false := by simp [hk1, hk2]
    have Hc := Lib.hid (show (1 : Int) = mayE kind ids ll by rw [mayE, mayB, hkB]; rfl)
    have Hz := Lib.hid (show nodesI kind ids ll = [] by rw [nodesI, mayB, hkB]; rfl)
    have hn1 : (kind != 1) = true := by simpa using hk1
    have hn2 : (kind != 2) = true := by simpa using hk2
    have hkk : (kind != 1 && kind != 2) = true := by simp [hk1, hk2]
    have hz := NdR.zero (w.alloc (.cells (shV Ai ni ci Al nl cl) 25)) (w.alloc (.cells (shV Ai ni ci Al nl cl) 25)).heap.size
    rw [← Hz.out] at hz
    have hold := hM.old
    clear hck hM hS1 h hk
    go_enter Try.func21, Try.ntmps21
    go_wp2_with fail
    (first | exact Hpost.out _ _ _ _ _ hold Hc.out hz | exact bodyPost_ret (results_tmp2 rfl _ _ _) rfl (Hpost.out _ _ _ _ _ hold Hc.out hz))

end Go.Proofs.Ytmganbdbihjbmaa

