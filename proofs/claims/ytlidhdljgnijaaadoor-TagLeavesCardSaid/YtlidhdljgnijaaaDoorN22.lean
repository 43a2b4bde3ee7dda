import Derived.Test.YtlidhdljgnijaaaDoorN20
import Derived.Test.YtlidhdljgnijaaaDoorN21
import Derived.Test.YtlidhdljgnijaaaDoorN04
import Derived.Test.YtlidhdljgnijaaaDoorN17
import Derived.Test.YtlidhdljgnijaaaDoorN12
import Derived.Deep.RegionHeld3
import Derived.Test.YtlidhdljgnijaaaDoorN11
import Derived.Test.YtlidhdljgnijaaaDoorN18
import Derived.StillTailTactics
import Derived.Test.YtlidhdljgnijaaaDoorN05
import Derived.Test.YtlidhdljgnijaaaDoorN15
import Derived.Test.YtlidhdljgnijaaaDoorN08
/-
  CONTRACTS of coterieref13's Few and Leaf.
-/
set_option linter.unusedVariables false
namespace Go.Proofs.YtlidhdljgnijaaaDoor
open Go.RowKit

set_option maxRecDepth 100000 in
set_option maxHeartbeats 4000000 in
theorem RFew13 (kind : Int) (Ai : Option Addr) (ni ci : Nat) (Al : Option Addr) (nl cl : Nat) (ids : List Int) (ll : List (List Int)) (Ap : Option Addr) (np cp : Nat) (ps : List UInt8) (w : World) (h : TgR w w.heap.size Ai ni ci Al nl cl ids ll Ap np cp ps) :
    Calls Tryd.prog 9 #[.agg (tgV kind Ai ni ci Al nl cl Ap np cp)] w fun e w' => e = .returned (.bool (fewG ids ll np)) ∧ Below w.heap.size w w' := by
  have hM := (Ms.nil w).box 28 (tgV kind Ai ni ci Al nl cl Ap np cp)
  have hfw := fun wx (hb : Below w.heap.size w wx) => FewT_any Ai ni ci Al nl cl ids ll wx ((h.sh.below hb).more hb.size)
  have Hni := Lib.hid h.sh.hni
  clear h
  go_enter Tryd.func9, Tryd.ntmps9
  go_upto_region 1 with fail
  try simp only [Act.put]
  obtain ⟨g, hg⟩ : ∃ g, g = w.heap.size := ⟨_, rfl⟩
  rw [← hg] at hM ⊢
  refine wp_gen (fun wx => Ms w wx [(g, 28, tgV kind Ai ni ci Al nl cl Ap np cp)]) hM ?_
  clear hM hg
  rintro w0 hM0
  have hr1 := tg_sh (hM0.get 0 rfl)
  go_wp2_with ((with_reducible show wpList _ _ _ (⟨some 4, _, _, _, _, _⟩ :: _) _ _); refine wpList_load_midG (by kernel_rfl) 25 (.tmp 3) rfl g 1 rfl (shV Ai ni ci Al nl cl).toList _ hr1 Tryd.underlying25 rfl shapeInfo2 ?_)
  refine (hfw _ hM0.old).mono ?_
  rintro e w1 ⟨he, hb1⟩
  subst he
  have hM1 := hM0.call hb1
  have hold := hM1.old
  have c1 := (hM1.get 0 rfl).cell (i := 1) (v := .slice Ai ni ci) rfl
  have c3 := (hM1.get 0 rfl).cell (i := 3) (v := .slice Ap np cp) rfl
  have Hf := Lib.hid (show fewG ids ll np = (fewT ids ll && (decide (ni ≤ 100) && decide (np ≤ 400))) by rw [fewG, Hni.out])
  generalize fewT ids ll = fb at *
  clear hM0 hM1 hb1 hfw hr1
  cases fb
  · go_wp2_with fail
    go_ret
    exact ⟨by rw [Hf.out]; rfl, hold⟩
  · by_cases h1 : ni ≤ 100
    · by_cases h2 : np ≤ 400
      · have z1 : (ni : Int) ≤ 100 := by omega
        have z2 : (np : Int) ≤ 400 := by omega
        have HF := Lib.hid (show fewG ids ll np = true by rw [Hf.out, decide_eq_true h1, decide_eq_true h2]; rfl)
        clear Hf h1 h2
        go_wp2_with fail
        go_ret
        exact ⟨by rw [HF.out]; rfl, hold⟩
      · have z1 : (ni : Int) ≤ 100 := by omega
        have z2 : decide ((np : Int) ≤ 400) = false := decide_eq_false (by omega)
        have HF := Lib.hid (show fewG ids ll np = false by rw [Hf.out, decide_eq_true h1, decide_eq_false h2]; rfl)
        clear Hf h1 h2
        go_wp2_with fail
        go_ret
        exact ⟨by rw [HF.out]; rfl, hold⟩
    · have z1 : decide ((ni : Int) ≤ 100) = false := decide_eq_false (by omega)
      have HF := Lib.hid (show fewG ids ll np = false by rw [Hf.out, decide_eq_false h1]; rfl)
      clear Hf h1
      go_wp2_with fail
      go_ret
      exact ⟨by rw [HF.out]; rfl, hold⟩

/-- a member's leaf's place; why there is none -/
def leafG (kind : Int) (ids : List Int) (ll : List (List Int)) (np : Nat) (ps : List UInt8) (id : Int) : Int := if okG kind ids ll np ps = true ∧ id ∈ ids then (((pathI kind ids ll id).getD 0 0 : Nat) : Int) else 0
def leafE (kind : Int) (ids : List Int) (ll : List (List Int)) (np : Nat) (ps : List UInt8) (id : Int) : Int := if okG kind ids ll np ps = true then (if id ∈ ids then 0 else 6) else 1
theorem okG_may {kind : Int} {ids : List Int} {ll : List (List Int)} {np : Nat} {ps : List UInt8} (h : okG kind ids ll np ps = true) : mayB kind ids ll = true := by
  rw [okG, Bool.and_eq_true] at h
  exact h.1
end Go.Proofs.YtlidhdljgnijaaaDoor

/-
  CONTRACTS of the document's Same of keys (coterieref09) that stand anywhere, and of coterieref13's Same.
-/
set_option linter.unusedVariables false
namespace Go.Proofs.YtlidhdljgnijaaaDoor
open Go.RowKit

theorem neq_keyK (w : World) (a b : List UInt8) (ha : a.length = 32) (hb : b.length = 32) :
    (binOp .neq 36 (.agg (keyC a)) (.agg (keyC b))).run Tryd.prog w = .ok (.bool (!(a == b))) w := by
  obtain ⟨i, hi⟩ := byte_info
  rw [run_neq_struct, keyC, keyC, run_eqlRow w false Tryd.underlying36 Tryd.underlying5 hi byteCells bv (fun x => (x.toNat : Int)) (fun _ => rfl) bv_inj 0 a b ha hb]
  rfl
end Go.Proofs.YtlidhdljgnijaaaDoor

/-
  CONTRACT of coterieref13's Write.
-/
set_option linter.unusedVariables false
namespace Go.Proofs.YtlidhdljgnijaaaDoor
open Go.RowKit

def byteU (n : Int) : UInt8 := UInt8.ofNat n.toNat
def idB (id : Int) : List UInt8 := be 4 id.toNat
def lvB (l : List Int) : List UInt8 := be 2 l.length ++ l.map byteU
/-- a tree's text -/
def writeT (kind : Int) (ids : List Int) (ll : List (List Int)) (ps : List UInt8) : List UInt8 := (byteU kind :: be 2 ids.length) ++ ids.flatMap idB ++ (UInt8.ofNat ll.length :: ll.flatMap lvB) ++ ps
def WritePost (w : World) (ok : Bool) (l : List UInt8) (e : Ending) (w' : World) : Prop :=
  Below w.heap.size w w' ∧ ((ok = false ∧ e = .returned (.tuple #[.slice none 0 0, .int .i64 1])) ∨ (ok = true ∧ ∃ A n c, e = .returned (.tuple #[.slice A n c, .int .i64 0]) ∧ w'.ownsRow w.heap.size 5 1 (.slice A n c) n (l.map bv)))

theorem okG_mayD {kind : Int} {ids : List Int} {ll : List (List Int)} {np : Nat} {ps : List UInt8} (h : okG kind ids ll np ps = true) : (kind = 1 ∨ kind = 2) ∧ chkT ids ll = true ∧ 0 < ids.length := by
  rw [okG, Bool.and_eq_true, Bool.and_eq_true, decide_eq_true_eq] at h
  obtain ⟨h1, h2, _⟩ := h
  rw [nodesI, if_pos h1, List.length_map, nodesU] at h2
  rw [mayB, Bool.and_eq_true] at h1
  refine ⟨by simpa using h1.1, h1.2, ?_⟩
  rcases Nat.eq_zero_or_pos ids.length with e | e
  · rw [if_pos e] at h2; simp at h2
  · exact e

end Go.Proofs.YtlidhdljgnijaaaDoor

/-
  CONTRACTS of the document's First and Sum (coterieref02).
-/
set_option linter.unusedVariables false
namespace Go.Proofs.YtlidhdljgnijaaaDoor
open Go.RowKit

def chunk (b : List UInt8) (q : Nat) : List UInt8 := (b.drop (64 * q)).take 64
def blocksTo (h : List UInt32) (b : List UInt8) : Nat → List UInt32
  | 0 => h
  | q + 1 => blockW (blocksTo h b q) (wordsU (chunk b q))
theorem blocksTo_len {h : List UInt32} (hh : h.length = 8) (b : List UInt8) : ∀ q, (blocksTo h b q).length = 8
  | 0 => hh
  | _ + 1 => addTo_len _ _ _
def sumU (l : List UInt8) : List UInt8 := bytesU (blocksTo firstU (padU l) ((padU l).length / 64))

end Go.Proofs.YtlidhdljgnijaaaDoor

/-
  NODES OF A TREE (layer 11): both kinds have the same nodes but the red ones, as a pure fact.
-/
set_option linter.unusedVariables false
namespace Go.Proofs.YtlidhdljgnijaaaDoor

end Go.Proofs.YtlidhdljgnijaaaDoor

/-
  CONTRACTS of the program's Path and ahead (tree). Printed by gen_treepk.py.
-/
set_option linter.unusedVariables false
namespace Go.Proofs.YtlidhdljgnijaaaDoor
open Go.RowKit

theorem wpList_makeT {P : Program} {ops : Array Oper} {rest : List Oper} {o : Oper} {a : Act} {w : World} {Q : Exit → Act → World → Prop} (hgd : Region.wanted o (yielded ops a.tmps) = true) (l c : Operand) (t : TypeId)
    (ho : o.op = .makeSlice t l c) (v u : Value) (hl : a.eval l = v) (hc : a.eval c = u) {v' : Value} {w' : World}
    (hr : (Instr.makeSlice t v u).run P w = .ok v' w') (h : wpList P ops Q rest (a.put o.dst v') w') : wpList P ops Q (o :: rest) a w := by
  refine wpList_step fun _ hK => ?_
  rw [if_pos hgd]
  unfold Oper.wp
  simp [execOp, ho, hl, hc, hr, Result.andThen]
  exact hK _ _ h
end Go.Proofs.YtlidhdljgnijaaaDoor

/-
  CONTRACT of the program's Spans (tree). Printed by gen_treepl.py.
-/
set_option linter.unusedVariables false
namespace Go.Proofs.YtlidhdljgnijaaaDoor
open Go.RowKit

end Go.Proofs.YtlidhdljgnijaaaDoor

/-
  NODES OF A TREE (layer 11): where a group's leaves begin, as tree.Spans tells it: a pure fact.
-/
set_option linter.unusedVariables false
namespace Go.Proofs.YtlidhdljgnijaaaDoor

end Go.Proofs.YtlidhdljgnijaaaDoor

/-
  NODES OF A TREE (layer 11): how many are red; which leaves a group has; a list of nodes that may be: pure facts for the laws.
-/
set_option linter.unusedVariables false
namespace Go.Proofs.YtlidhdljgnijaaaDoor

def three (n : Nat) : Bool := n == 3
end Go.Proofs.YtlidhdljgnijaaaDoor

/-
  NODES OF A TREE (layers 11, 12): all that is asked of them for a plan: pure facts.
-/
set_option linter.unusedVariables false
namespace Go.Proofs.YtlidhdljgnijaaaDoor

theorem RT.leaf_at {kind : Int} : ∀ (T : RT) (off : Nat) (up : Int), T.good kind → ∀ x ∈ T.flat off up, x.lev = 0 → x.fr = x.at_ ∧ x.to = x.at_ + 1
  | .leaf a, off, up, _ => fun x hx _ => by
    simp only [RT.flat, List.mem_singleton] at hx
    subst hx
    exact ⟨rfl, rfl⟩
  | .two lev a red l r, off, up, ⟨h1, h2, h3, _⟩ => fun x hx h0 => by
    simp only [RT.flat, List.mem_append, List.mem_singleton] at hx
    rcases hx with (hx | hx) | hx
    · exact RT.leaf_at l _ _ h1 x hx h0
    · exact RT.leaf_at r _ _ h2 x hx h0
    · subst hx; simp only at h0; omega
  | .three lev a l m r, off, up, ⟨h1, h2, h3, h4, _⟩ => fun x hx h0 => by
    simp only [RT.flat, List.mem_append, List.mem_singleton] at hx
    rcases hx with ((hx | hx) | hx) | hx
    · exact RT.leaf_at l _ _ h1 x hx h0
    · exact RT.leaf_at m _ _ h2 x hx h0
    · exact RT.leaf_at r _ _ h3 x hx h0
    · subst hx; simp only at h0; omega
def leafLt (x y : RN) : Prop := x.lev = 0 → y.lev = 0 → x.at_ < y.at_
theorem leafLt_of {kind : Int} {l r : RT} {o1 o2 : Nat} {u1 u2 : Int} (g1 : l.good kind) (g2 : r.good kind) (k1 : l.ok) (k2 : r.ok) (h : l.to ≤ r.fr) : ∀ x ∈ l.flat o1 u1, ∀ y ∈ r.flat o2 u2, leafLt x y := fun x hx y hy h1 h2 => by
  have := l.span o1 u1 k1 x hx
  have := r.span o2 u2 k2 y hy
  have := RT.leaf_at l o1 u1 g1 x hx h1
  have := RT.leaf_at r o2 u2 g2 y hy h2
  omega
theorem RT.leafs {kind : Int} : ∀ (T : RT) (off : Nat) (up : Int), T.good kind → T.ok → (T.flat off up).Pairwise leafLt
  | .leaf a, off, up, _, _ => by simp [RT.flat]
  | .two lev a red l r, off, up, ⟨h1, h2, h3, _⟩, ⟨k1, k2, k3⟩ => by
    rw [RT.flat, List.pairwise_append, List.pairwise_append]
    refine ⟨⟨RT.leafs l _ _ h1 k1, RT.leafs r _ _ h2 k2, leafLt_of h1 h2 k1 k2 (by omega)⟩, List.pairwise_singleton _ _, fun x _ y hy _ h0 => ?_⟩
    rw [List.mem_singleton] at hy
    subst hy
    simp only at h0
    omega
  | .three lev a l m r, off, up, ⟨h1, h2, h3, h4, _⟩, ⟨k1, k2, k3, k4, k5⟩ => by
    have f2 := RT.fr_lt m k2
    rw [RT.flat, List.pairwise_append, List.pairwise_append, List.pairwise_append]
    refine ⟨⟨⟨RT.leafs l _ _ h1 k1, RT.leafs m _ _ h2 k2, leafLt_of h1 h2 k1 k2 (by omega)⟩, RT.leafs r _ _ h3 k3, fun x hx y hy => ?_⟩, List.pairwise_singleton _ _, fun x _ y hy _ h0 => ?_⟩
    · rcases List.mem_append.1 hx with hx | hx
      · exact leafLt_of h1 h3 k1 k3 (by omega) x hx y hy
      · exact leafLt_of h2 h3 k2 k3 (by omega) x hx y hy
    · rw [List.mem_singleton] at hy
      subst hy
      simp only at h0
      omega
/-- each node is the last one, or below another one -/
def upOK (L : List RN) (up : Int) (e q : Nat) (x : RN) : Prop := (x.up = up ∧ q + 1 = e) ∨ ∃ (u : Nat) (z : RN), x.up = (u : Int) ∧ L[u]? = some z ∧ q ∈ z.kids
theorem RT.up_ok : ∀ (T : RT) (pre post : List RN) (up : Int) (q : Nat) (x : RN), pre.length ≤ q → q < pre.length + T.size → (pre ++ T.flat pre.length up ++ post)[q]? = some x → upOK (pre ++ T.flat pre.length up ++ post) up (pre.length + T.size) q x
  | .leaf a, pre, post, up, q, x, h1, h2, hx => by
    have e := flat_end pre post (.leaf a) q up (by simp only [RT.size] at h2 ⊢; omega)
    rw [e] at hx
    have hx := Option.some.inj hx
    subst hx
    exact .inl ⟨RT.node_upv _ _ _, by simp only [RT.size] at h2 ⊢; omega⟩
  | .two lev a red l r, pre, post, up, q, x, h1, h2, hx => by
    have p1 := l.size_pos
    have p2 := r.size_pos
    have hA : (pre ++ l.flat pre.length ((pre.length + l.size + r.size : Nat) : Int)).length = pre.length + l.size := by rw [List.length_append, RT.flat_len]
    have hroot := flat_end pre post (.two lev a red l r) (pre.length + l.size + r.size) up (by simp only [RT.size]; omega)
    simp only [RT.size] at h2 ⊢
    by_cases c1 : q < pre.length + l.size
    · have ih := RT.up_ok l pre (r.flat (pre.length + l.size) ((pre.length + l.size + r.size : Nat) : Int) ++ [⟨lev, a, red, l.fr, r.to, [pre.length + l.size - 1, pre.length + l.size + r.size - 1], up⟩] ++ post) ((pre.length + l.size + r.size : Nat) : Int) q x h1 c1 (by simpa only [RT.flat, List.append_assoc] using hx)
      rcases ih with ⟨e1, e2⟩ | ⟨u, z, e1, e2, e3⟩
      · exact .inr ⟨_, _, e1, hroot, by simp only [RT.node, List.mem_cons]; left; omega⟩
      · exact .inr ⟨u, z, e1, by simpa only [RT.flat, List.append_assoc] using e2, e3⟩
    · by_cases c2 : q < pre.length + l.size + r.size
      · have ih := RT.up_ok r (pre ++ l.flat pre.length ((pre.length + l.size + r.size : Nat) : Int)) ([⟨lev, a, red, l.fr, r.to, [pre.length + l.size - 1, pre.length + l.size + r.size - 1], up⟩] ++ post) ((pre.length + l.size + r.size : Nat) : Int) q x (by omega) (by omega) (by rw [hA]; simpa only [RT.flat, List.append_assoc] using hx)
        rw [hA] at ih
        rcases ih with ⟨e1, e2⟩ | ⟨u, z, e1, e2, e3⟩
        · exact .inr ⟨_, _, e1, hroot, by simp only [RT.node, List.mem_cons]; right; left; omega⟩
        · exact .inr ⟨u, z, e1, by simpa only [RT.flat, List.append_assoc] using e2, e3⟩
      · have hq : q = pre.length + l.size + r.size := by omega
        rw [hq, hroot] at hx
        have hx := Option.some.inj hx
        subst hx
        exact .inl ⟨RT.node_upv _ _ _, by omega⟩
  | .three lev a l m r, pre, post, up, q, x, h1, h2, hx => by
    have p1 := l.size_pos
    have p2 := m.size_pos
    have p3 := r.size_pos
    have hroot := flat_end pre post (.three lev a l m r) (pre.length + l.size + m.size + r.size) up (by simp only [RT.size]; omega)
    obtain ⟨U, hU⟩ : ∃ U : Int, U = ((pre.length + l.size + m.size + r.size : Nat) : Int) := ⟨_, rfl⟩
    have hA : (pre ++ l.flat pre.length U).length = pre.length + l.size := by rw [List.length_append, RT.flat_len]
    have hB : (pre ++ l.flat pre.length U ++ m.flat (pre.length + l.size) U).length = pre.length + l.size + m.size := by rw [List.length_append, RT.flat_len, hA]
    obtain ⟨X, hX⟩ : ∃ X : RN, X = ⟨lev, a, false, l.fr, r.to, [pre.length + l.size - 1, pre.length + l.size + m.size - 1, pre.length + l.size + m.size + r.size - 1], up⟩ := ⟨_, rfl⟩
    have hfl : (RT.three lev a l m r).flat pre.length up = l.flat pre.length U ++ m.flat (pre.length + l.size) U ++ r.flat (pre.length + l.size + m.size) U ++ [X] := by rw [RT.flat, hU, hX]
    have hXn : (RT.three lev a l m r).node pre.length up = X := hX.symm
    have hXk : X.kids = [pre.length + l.size - 1, pre.length + l.size + m.size - 1, pre.length + l.size + m.size + r.size - 1] := by rw [hX]
    rw [hXn] at hroot
    rw [hfl] at hx hroot ⊢
    simp only [RT.size] at h2 ⊢
    by_cases c1 : q < pre.length + l.size
    · have ih := RT.up_ok l pre (m.flat (pre.length + l.size) U ++ r.flat (pre.length + l.size + m.size) U ++ [X] ++ post) U q x h1 c1 (by simpa only [List.append_assoc] using hx)
      rcases ih with ⟨e1, e2⟩ | ⟨u, z, e1, e2, e3⟩
      · exact .inr ⟨_, _, e1.trans hU, hroot, by simp only [hXk, List.mem_cons]; left; omega⟩
      · exact .inr ⟨u, z, e1, by simpa only [List.append_assoc] using e2, e3⟩
    · by_cases c2 : q < pre.length + l.size + m.size
      · have ih := RT.up_ok m (pre ++ l.flat pre.length U) (r.flat (pre.length + l.size + m.size) U ++ [X] ++ post) U q x (by omega) (by omega) (by rw [hA]; simpa only [List.append_assoc] using hx)
        rw [hA] at ih
        rcases ih with ⟨e1, e2⟩ | ⟨u, z, e1, e2, e3⟩
        · exact .inr ⟨_, _, e1.trans hU, hroot, by simp only [hXk, List.mem_cons]; right; left; omega⟩
        · exact .inr ⟨u, z, e1, by simpa only [List.append_assoc] using e2, e3⟩
      · by_cases c3 : q < pre.length + l.size + m.size + r.size
        · have ih := RT.up_ok r (pre ++ l.flat pre.length U ++ m.flat (pre.length + l.size) U) ([X] ++ post) U q x (by omega) (by omega) (by rw [hB]; simpa only [List.append_assoc] using hx)
          rw [hB] at ih
          rcases ih with ⟨e1, e2⟩ | ⟨u, z, e1, e2, e3⟩
          · exact .inr ⟨_, _, e1.trans hU, hroot, by simp only [hXk, List.mem_cons]; right; right; left; omega⟩
          · exact .inr ⟨u, z, e1, by simpa only [List.append_assoc] using e2, e3⟩
        · have hq : q = pre.length + l.size + m.size + r.size := by omega
          rw [hq, hroot] at hx
          have hx := Option.some.inj hx
          subst hx
          exact .inl ⟨by rw [hX], by omega⟩
/-- the nodes of a tree that may be -/
structure NF (kind : Int) (ids : List Int) (L : List RN) : Prop where
  kid : ∀ (q : Nat) (x : RN), L[q]? = some x → nodeKid L q x
  ok : ∀ x ∈ L, nodeOK kind L x
  span : ∀ x ∈ L, x.fr < x.to ∧ x.to ≤ ids.length
  leafs : L.Pairwise leafLt
  up : ∀ (q : Nat) (x : RN), L[q]? = some x → upOK L (-1) L.length q x
  rise : ids.Pairwise (· < ·)
theorem top_nf {kind : Int} {ids : List Int} {ll : List (List Int)} {T : RT} (hT : TopF kind ids ll T) : NF kind ids (T.flat 0 (-1)) where
  kid := kid_top hT
  ok := fun x hx => by
    have := RT.nodes_ok hT.k12 T [] [] (-1) hT.good x hx
    simpa using this
  span := fun x hx => by
    have := T.span 0 (-1) hT.ok x hx
    have := hT.to_
    omega
  leafs := RT.leafs T 0 (-1) hT.good hT.ok
  up := fun q x hx => by
    have hlt : q < T.size := by rw [← RT.flat_len T 0 (-1)]; exact (List.getElem?_eq_some_iff.1 hx).1
    have := RT.up_ok T [] [] (-1) q x
    simp only [List.length_nil, List.nil_append, List.append_nil, Nat.zero_add] at this
    rw [RT.flat_len]
    exact this (by omega) hlt hx
  rise := hT.rise
theorem nf_nil (kind : Int) : NF kind [] [] where
  kid := fun q x h => by simp at h
  ok := fun x h => by simp at h
  span := fun x h => by simp at h
  leafs := List.Pairwise.nil
  up := fun q x h => by simp at h
  rise := List.Pairwise.nil
section
variable {kind : Int} {ids : List Int} {L : List RN}
theorem NF.leafAt (h : NF kind ids L) {q : Nat} {x : RN} (hx : L[q]? = some x) (h0 : x.lev = 0) : x.fr = x.at_ ∧ x.to = x.at_ + 1 ∧ x.at_ < ids.length := by
  have h1 := (h.kid q x hx).2.2.1 h0
  have h2 := h.span x (List.mem_of_getElem? hx)
  omega
/-- a kid's place has its own node, which has that one above -/
theorem NF.kidUp (h : NF kind ids L) {q k : Nat} {x : RN} (hx : L[q]? = some x) (hk : k ∈ x.kids) : ∃ y, L[k]? = some y ∧ y.up = (q : Int) ∧ k < q := by
  obtain ⟨_, h2, _, h4⟩ := h.kid q x hx
  obtain ⟨y, e1, e2⟩ := h2 k hk
  exact ⟨y, e1, e2, h4 k hk⟩
end

end Go.Proofs.YtlidhdljgnijaaaDoor

/-
  THE SUMS OF A TREE'S NODES (layer 13), as functions of lists.
-/
set_option linter.unusedVariables false
namespace Go.Proofs.YtlidhdljgnijaaaDoor
open Go.RowKit

def leafTag : List UInt8 := [108, 101, 97, 102]
def nodeTag : List UInt8 := [110, 111, 100, 101]
def redTag : List UInt8 := [114, 101, 100]
/-- what a node's sum is of -/
def partsN (outs : List UInt8) (ids : List Int) (ps : List UInt8) (i : Nat) (x : RN) : List (List UInt8) :=
  if x.lev = 0 then [leafTag, be 4 (ids.getD x.at_ 0).toNat, keyI ps i] else (if x.red = true then redTag else nodeTag) :: keyI ps i :: x.kids.map (keyI outs)
/-- the first so many sums, one behind the other -/
def sumsJ (L : List RN) (ids : List Int) (ps : List UInt8) : Nat → List UInt8
  | 0 => []
  | j + 1 => sumsJ L ids ps j ++ (match L[j]? with | some x => sumU (txs (partsN (sumsJ L ids ps j) ids ps j x)) | none => [])
theorem sumU_len (l : List UInt8) : (sumU l).length = 32 := by
  rw [sumU, bytesU_len, blocksTo_len (by rfl)]
theorem sumsJ_succ {L : List RN} {j : Nat} {x : RN} (h : L[j]? = some x) (ids : List Int) (ps : List UInt8) : sumsJ L ids ps (j + 1) = sumsJ L ids ps j ++ sumU (txs (partsN (sumsJ L ids ps j) ids ps j x)) := by
  rw [sumsJ, h]
theorem sumsJ_len (L : List RN) (ids : List Int) (ps : List UInt8) : ∀ j, j ≤ L.length → (sumsJ L ids ps j).length = j * 32
  | 0, _ => rfl
  | j + 1, h => by
    rw [sumsJ_succ (List.getElem?_eq_getElem (show j < L.length by omega)), List.length_append, sumsJ_len L ids ps j (by omega), sumU_len]
    omega
/-- the nodes that a tree with points has -/
def nodesG (kind : Int) (ids : List Int) (ll : List (List Int)) : List RN := nodesU kind ids.length (lvN ll)
def sumsT (kind : Int) (ids : List Int) (ll : List (List Int)) (ps : List UInt8) (np : Nat) : List UInt8 := sumsJ (nodesG kind ids ll) ids ps np
theorem nodesG_nf {kind : Int} {ids : List Int} {ll : List (List Int)} (hm : mayB kind ids ll = true) : nodesI kind ids ll = (nodesG kind ids ll).map RN.i ∧ NF kind ids (nodesG kind ids ll) := by
  refine ⟨by rw [nodesI, if_pos hm]; rfl, ?_⟩
  rcases Nat.eq_zero_or_pos ids.length with h0 | h0
  · have hi : ids = [] := List.eq_nil_of_length_eq_zero h0
    subst hi
    exact nf_nil kind
  · have hT := top_facts hm h0
    rw [nodesG, nodesU, if_neg (by omega)]
    exact top_nf hT

/-- a new row that bears a mark reads as it is -/
theorem rd_marked (w : World) (t : TypeId) (xs : Array Value) (m : Nat × Nat) {n : Nat} (hn : xs.size = n) : Rd (w.alloc (.cells xs t m)) (w.heap.size + 1) (some ⟨w.heap.size, 0, none⟩) n xs.toList := by
  subst hn
  refine ⟨by simp, fun _ => ⟨w.heap.size, 0, rfl, by omega, fun j u hu => ?_⟩⟩
  rw [Nat.zero_add, cell_of_row _ w.heap.size j xs t m (heap_alloc_new w _), ← Array.getElem?_toList]
  exact hu
theorem txs_le32 : ∀ (ts : List (List UInt8)), (∀ t ∈ ts, t.length ≤ 32) → (txs ts).length ≤ 34 * ts.length ∧ GoodT ts
  | [], _ => ⟨by simp [txs], fun i t h => by simp at h⟩
  | t :: ts, h => by
    obtain ⟨h1, h2⟩ := txs_le32 ts (fun u hu => h u (by simp [hu]))
    have h3 := h t (by simp)
    refine ⟨?_, fun i u hu => ?_⟩
    · have e : (txs (t :: ts)).length = 2 + t.length + (txs ts).length := by
        simp only [txs, List.map_cons, List.flatten_cons, List.length_append, be_length]
      rw [e, List.length_cons]
      omega
    · cases i with
      | zero => simp at hu; subst hu; omega
      | succ i => exact h2 i u (by simpa using hu)
theorem keyI_le (xs : List UInt8) (i : Nat) : (keyI xs i).length ≤ 32 := by rw [keyI, List.length_take]; omega
theorem parts_short (outs : List UInt8) (ids : List Int) (ps : List UInt8) (i : Nat) (x : RN) (h3 : x.kids.length ≤ 3) : (∀ t ∈ partsN outs ids ps i x, t.length ≤ 32) ∧ (partsN outs ids ps i x).length ≤ 5 := by
  rw [partsN]
  split
  · refine ⟨fun t ht => ?_, by simp⟩
    simp only [List.mem_cons, List.not_mem_nil, or_false] at ht
    rcases ht with rfl | rfl | rfl
    · decide
    · rw [be_length]; omega
    · exact keyI_le _ _
  · refine ⟨fun t ht => ?_, by simp only [List.length_cons, List.length_map]; omega⟩
    simp only [List.mem_cons, List.mem_map] at ht
    rcases ht with rfl | rfl | ⟨k, _, rfl⟩
    · split <;> decide
    · exact keyI_le _ _
    · exact keyI_le _ _
/-- texts in a row of the call's own, whose block no text's is -/
def TxP (w : World) (own : Option Nat) (vs : List Value) (ts : List (List UInt8)) : Prop :=
  vs.length = ts.length ∧ ∀ (i : Nat) (v : Value) (t : List UInt8), vs[i]? = some v → ts[i]? = some t → ∃ A c, v = .slice A t.length c ∧ t.length ≤ c ∧ Rd w w.heap.size A t.length (t.map bv) ∧ ∀ b o, A = some ⟨b, o, none⟩ → own ≠ some b ∧ b < w.heap.size
section
variable {w w' : World} {own own' : Option Nat} {vs : List Value} {ts : List (List UInt8)}
theorem TxP.txs (h : TxP w own vs ts) : Txs w w.heap.size vs ts := ⟨h.1, fun i v t hv ht => by
  obtain ⟨A, c, h1, h2, h3, _⟩ := h.2 i v t hv ht
  exact ⟨A, c, h1, h2, h3⟩⟩
theorem TxP.below (h : TxP w own vs ts) (hb : Below w.heap.size w w') : TxP w' own vs ts := ⟨h.1, fun i v t hv ht => by
  obtain ⟨A, c, h1, h2, h3, h4⟩ := h.2 i v t hv ht
  exact ⟨A, c, h1, h2, (h3.below hb).more hb.size, fun b o e => ⟨(h4 b o e).1, Nat.lt_of_lt_of_le (h4 b o e).2 hb.size⟩⟩⟩
theorem TxP.snoc (h : TxP w own vs ts) {A : Option Addr} {c : Nat} {t : List UInt8} (hc : t.length ≤ c) (hr : Rd w w.heap.size A t.length (t.map bv)) (hn : ∀ b o, A = some ⟨b, o, none⟩ → own ≠ some b ∧ b < w.heap.size) : TxP w own (vs ++ [.slice A t.length c]) (ts ++ [t]) := by
  refine ⟨by simp [h.1], fun i v u hv hu => ?_⟩
  rcases Nat.lt_or_ge i vs.length with hi | hi
  · rw [List.getElem?_append_left hi] at hv
    rw [List.getElem?_append_left (by rw [← h.1]; exact hi)] at hu
    exact h.2 i v u hv hu
  · have hi' : i = vs.length := by
      have := (List.getElem?_eq_some_iff.1 hv).1
      simp at this
      omega
    subst hi'
    rw [List.getElem?_append_right (Nat.le_refl _), Nat.sub_self] at hv
    rw [h.1, List.getElem?_append_right (Nat.le_refl _), Nat.sub_self] at hu
    simp at hv hu
    subst hv hu
    exact ⟨A, c, rfl, hc, hr, hn⟩
theorem TxP.grown (h : TxP w own vs ts) (hg : w.grownBy w' own) (hat : own' = own ∨ own' = some w.heap.size) : TxP w' own' vs ts := ⟨h.1, fun i v t hv ht => by
  obtain ⟨A, c, h1, h2, h3, h4⟩ := h.2 i v t hv ht
  refine ⟨A, c, h1, h2, ⟨h3.len, fun h0 => ?_⟩, fun b o e => ?_⟩
  · obtain ⟨b, o, e, hb, hc⟩ := h3.pos h0
    refine ⟨b, o, e, Nat.lt_of_lt_of_le hb hg.size, fun j u hu => ?_⟩
    rw [← hc j u hu]
    exact World.cell?_of_block (hg.block b hb (fun x => (h4 b o e).1 x.symm))
  · refine ⟨?_, Nat.lt_of_lt_of_le (h4 b o e).2 hg.size⟩
    rcases hat with rfl | rfl
    · exact (h4 b o e).1
    · intro x
      injection x with x
      have := (h4 b o e).2
      omega⟩
end

end Go.Proofs.YtlidhdljgnijaaaDoor

