import Derived.Test.YtlidhdljgnijaaaDoorL09
import Derived.Deep.DeepCutAuto
import Derived.Deep.MidRow
import Derived.OrdersHeld
/-
  CONTRACT of the document's with (coterieref10).
-/
set_option linter.unusedVariables false
namespace Go.Proofs.YtlidhdljgnijaaaDoor
open Go.RowKit

theorem joinN_len (l m r : List Nd) : (joinN l m r).length = 1 ∨ (joinN l m r).length = 2 := by
  unfold joinN
  split
  · exact .inr rfl
  · exact .inl rfl
theorem withN_len (x : Nd) (id : Int) : (withN x id).length = 1 ∨ (withN x id).length = 2 := by
  cases x with
  | leaf i => rw [withN]; split <;> exact .inr rfl
  | one a => rw [withN]; exact joinN_len _ _ _
  | two a b => rw [withN]; split <;> exact joinN_len _ _ _
  | three a b c => rw [withN]; split; exact joinN_len _ _ _; split <;> exact joinN_len _ _ _

end Go.Proofs.YtlidhdljgnijaaaDoor

/-
  CONTRACT of the document's with (coterieref10), of a node that has some below.
-/
set_option linter.unusedVariables false
namespace Go.Proofs.YtlidhdljgnijaaaDoor
open Go.RowKit

theorem NdL.more {w : World} {B B' : Nat} {F : List Nd} {vs : List Value} (h : NdL w B F vs) (hb : B ≤ B') : NdL w B' F vs := NdL.keep (fun _ _ _ hr => hr.more hb) F vs h
theorem SlN.drewV {gs : List Nat} {w : World} {B : Nat} {A : Option Addr} {n c : Nat} {K : List Nd} (h : SlN (vw gs w) B A n c K) (hc : Cells gs w) : SlN (vw gs w.drew) B A n c K :=
  h.keep (vw_keep (w := w) (w' := w.drew) hc (fun g hg => hc g hg) (fun _ _ _ hr => hr.drew))
end Go.Proofs.YtlidhdljgnijaaaDoor

/-
  AN OWN ROW OF NODES: what it reads, a node stored into it.
-/
set_option linter.unusedVariables false
namespace Go.Proofs.YtlidhdljgnijaaaDoor
open Go.RowKit

theorem hid1_setCells (g : Nat) : ∀ (vs : List Value) (o : Nat) (w : World), hid1 (w.setCells g o vs) g = hid1 w g
  | [], _, _ => rfl
  | v :: r, o, w => by rw [World.setCells, hid1_setCells g r, hid1_setCell]
theorem vw_setCells (g : Nat) (gs : List Nat) (vs : List Value) (o : Nat) (w : World) : vw (g :: gs) (w.setCells g o vs) = vw (g :: gs) w := by rw [vw, vw, hid1_setCells]
theorem size_setCellsT (g : Nat) : ∀ (vs : List Value) (o : Nat) (w : World), (w.setCells g o vs).heap.size = w.heap.size
  | [], _, _ => rfl
  | v :: r, o, w => by rw [World.setCells, size_setCellsT g r]; simp
theorem flatV_set : ∀ {F : List Nd} {vs : List Value} (i : Nat) (x : Nd) (v : Value), vs.length = F.length → i < F.length → ((flatV F vs).set (i * 2) (iv x.id)).set (i * 2 + 1) v = flatV (F.set i x) (vs.set i v)
  | [], _, i, _, _, _, hi => by simp at hi
  | y :: F, u :: vs, 0, x, v, _, _ => by simp [flatV]
  | y :: F, u :: vs, i + 1, x, v, h, hi => by
    rw [flatV, List.set_cons_succ, List.set_cons_succ, flatV, ← flatV_set i x v (by simpa using h) (by simpa using hi), show (i + 1) * 2 = i * 2 + 1 + 1 by omega, List.set_cons_succ, List.set_cons_succ, List.set_cons_succ, List.set_cons_succ]
theorem NdL.set {w : World} {B : Nat} : ∀ {F : List Nd} {vs : List Value} (i : Nat) {x : Nd} {v : Value}, NdL w B F vs → NdV w B x v → NdL w B (F.set i x) (vs.set i v)
  | [], [], _, _, _, h, _ => h
  | y :: F, u :: vs, 0, _, _, ⟨_, h2⟩, hx => ⟨hx, h2⟩
  | y :: F, u :: vs, i + 1, _, _, ⟨h1, h2⟩, hx => ⟨h1, NdL.set i h2 hx⟩

/-- a node is stored into a row: one step of a region that draws its order -/
theorem step_store_midT {P : Program} {ops : Array Oper} {o : Oper} {a : Act} {w : World} {K : Act → World → Prop} {Q : Exit → Act → World → Prop} {E : Prop} (hgd : o.guard = none) (hd : o.dst = none) (ty : TypeId) (x y : Operand) (ho : o.op = .store ty x y)
    (b off : Nat) (cells : Array Value) (hx : a.eval x = .pointer (some ⟨b, off, none⟩)) (hy : a.eval y = .agg cells)
    (ht : w.there b off cells.size) (hi : (P.info? ty).map (·.size) = some cells.size) (h1 : cells.all (·.oneCell') = true)
    (h : K a (w.setCells b off cells.toList)) : if Region.wanted o (yielded ops a.tmps) = true then Oper.wp P o a w K Q else E := by
  rw [if_pos (by simp [Region.wanted, hgd])]
  refine wp_store_mid ty x y ho b off cells hx hy ht hi h1 ?_
  rw [hd]
  exact h

end Go.Proofs.YtlidhdljgnijaaaDoor

/-
  A REGION THAT DRAWS ITS ORDER, WALKED BY HAND: what only reads is taken first under a condition S on the world, and S need not be shown behind the last operation (L), for which all that is taken first must come up ahead of it: so the last one may write what was read. In the make of the kit's own law (Derived/OrdersHeld), which asks S behind the last one too.
-/
set_option linter.unusedVariables false
namespace Go.Proofs.YtlidhdljgnijaaaDoor
open Go.RowKit

section
variable {P : Program} {ops : Array Oper} {Q : Exit → Act → World → Prop} {md : Region.Mode} {S : World → Prop} {L : Nat}

/-- whatever order is picked from here on, and S holds behind every operation but L -/
def wpAnyT (P : Program) (md : Region.Mode) (ops : Array Oper) (Q : Exit → Act → World → Prop) (S : World → Prop) (L : Nat) : Nat → Array Bool → Act → World → Prop
  | 0, listed, a, w => Region.ready md ops listed = [] ∧ Q .normal a w
  | fuel + 1, listed, a, w =>
    (Region.ready md ops listed = [] → Q .normal a w) ∧
    ∀ i ∈ Region.ready md ops listed, wpOp P ops Q i (fun a' w' => (i ≠ L → S w') ∧ wpAnyT P md ops Q S L fuel (listed.setIfInBounds i true) a' w') a w

theorem wpAny_of_T : ∀ (fuel : Nat) (listed : Array Bool) (a : Act) (w : World), wpAnyT P md ops Q S L fuel listed a w → wpAny P md ops Q fuel listed a w
  | 0, _, _, _, h => h
  | fuel + 1, _, _, _, h => ⟨h.1, fun i hi => wpOp_mono (fun a' w' h' => wpAny_of_T fuel _ a' w' h'.2) (h.2 i hi)⟩

/-- operation L waits for operation i (or there is none: then S is kept behind all) -/
def waitsFor (md : Region.Mode) (ops : Array Oper) (L i : Nat) : Bool := match ops[L]? with
  | some o => o.after.any fun e => Region.binds md e && e.on == i
  | none => true

theorem waits_spec {i : Nat} {listed : Array Bool} (h : waitsFor md ops L i = true) (hi : listed.getD i true = false) : L ∉ Region.ready md ops listed := by
  intro hL
  obtain ⟨_, o, ho, hall⟩ := mem_ready.1 hL
  unfold waitsFor at h
  rw [ho] at h
  obtain ⟨e, he, hb⟩ := Array.any_eq_true'.1 h
  rw [Bool.and_eq_true, beq_iff_eq] at hb
  have h1 := hall e he hb.1
  rw [hb.2] at h1
  rcases Nat.lt_or_ge i listed.size with h' | h'
  · simp [h'] at hi h1; rw [hi] at h1; cases h1
  · simp [Array.getElem?_eq_none h'] at h1

theorem wpAnyT_first {i : Nat} {oi : Oper} {v : Value} (hi : ops[i]? = some oi) (hsel : ∀ (j : Nat) (o : Oper) cs b, ops[j]? = some o → o.op ≠ .select cs b)
    (hQ : ∀ c a w, Q (.panic c) (a.put oi.dst v) w → Q (.panic c) a w) (hL : waitsFor md ops L i = true) :
    ∀ (fuel : Nat) (listed : Array Bool) (a : Act) (w : World),
      (∀ j oj, ops[j]? = some oj → j ≠ i → listed.getD j true = false → (∀ e ∈ oj.after, Region.binds md e = true → e.on ≠ i) → oi.apart ops oj = true) →
      i ∈ Region.ready md ops listed → YieldsIf P ops S oi v a → S w →
      wpAnyT P md ops Q S L fuel (listed.setIfInBounds i true) (a.put oi.dst v) w → wpAnyT P md ops Q S L (fuel + 1) listed a w := by
  intro fuel
  induction fuel with
  | zero =>
    intro listed a w _ hr hy hS H
    refine ⟨fun h => (by rw [h] at hr; cases hr), fun j hj => ?_⟩
    by_cases hji : j = i
    · subst hji; exact hy.wpOp hi hS ⟨fun _ => hS, H⟩
    · have := ready_mono hj hji
      rw [H.1] at this
      cases this
  | succ fuel ih =>
    intro listed a w hfree hr hy hS H
    refine ⟨fun h => (by rw [h] at hr; cases hr), fun j hj => ?_⟩
    by_cases hji : j = i
    · subst hji; exact hy.wpOp hi hS ⟨fun _ => hS, H⟩
    · have hjL : j ≠ L := fun e => waits_spec hL (mem_ready.1 hr).1 (e ▸ hj)
      have h1 := H.2 j (ready_mono hj hji)
      obtain ⟨hjun, oj, hoj, hall⟩ := mem_ready.1 hj
      have hnot : ∀ e ∈ oj.after, Region.binds md e = true → e.on ≠ i := fun e he hb heq => by
        have h1 := hall e he hb
        have h0 := (mem_ready.1 hr).1
        rw [heq] at h1
        rcases Nat.lt_or_ge i listed.size with h' | h'
        · simp [h'] at h0 h1; rw [h0] at h1; cases h1
        · simp [Array.getElem?_eq_none h'] at h1
      have h2 := wpOp_putIf hoj (hfree j oj hoj hji hjun hnot) (fun cs b => hsel i oi cs b hi) (fun cs b => hsel j oj cs b hoj) hQ hy h1
      have hfree' : ∀ k ok, ops[k]? = some ok → k ≠ i → (listed.setIfInBounds j true).getD k true = false →
          (∀ e ∈ ok.after, Region.binds md e = true → e.on ≠ i) → oi.apart ops ok = true := fun k ok hk hki hun hno => by
        refine hfree k ok hk hki ?_ hno
        by_cases hjk : j = k
        · subst hjk; exact hjun
        · rw [getD_set_ne true hjk] at hun; exact hun
      refine wpOp_mono (fun a' w' h3 => ⟨h3.2.1, ih (listed.setIfInBounds j true) a' w' hfree' (ready_mono hr (Ne.symm hji)) h3.1 (h3.2.1 hjL) ?_⟩) h2
      rw [Array.setIfInBounds_comm _ _ hji]
      exact h3.2.2

theorem takeT (i : Nat) {oi : Oper} (v : Value) {fuel : Nat} {listed : Array Bool} {a : Act} {w : World} (hi : ops[i]? = some oi)
    (hs : Region.noSelect ops = true) (hf : Region.free md ops listed i = true) (hr : (Region.ready md ops listed).contains i = true) (hL : waitsFor md ops L i = true)
    (hQ : ∀ c a w, Q (.panic c) (a.put oi.dst v) w → Q (.panic c) a w) (hy : YieldsIf P ops S oi v a) (hS : S w)
    (h : wpAnyT P md ops Q S L fuel (listed.setIfInBounds i true) (a.put oi.dst v) w) : wpAnyT P md ops Q S L (fuel + 1) listed a w :=
  wpAnyT_first hi (Region.noSelect_spec hs) hQ hL fuel listed a w (Region.free_spec hi hf) (by simpa using hr) hy hS h

/-- each of the operations 'rs' comes up next -/
def AllReadyT (P : Program) (md : Region.Mode) (ops : Array Oper) (Q : Exit → Act → World → Prop) (S : World → Prop) (L : Nat) (fuel : Nat) (listed : Array Bool) (a : Act) (w : World) (rs : List Nat) : Prop :=
  ∀ i ∈ rs, wpOp P ops Q i (fun a' w' => (i ≠ L → S w') ∧ wpAnyT P md ops Q S L fuel (listed.setIfInBounds i true) a' w') a w

theorem AllReadyT.nil {fuel : Nat} {listed : Array Bool} {a : Act} {w : World} : AllReadyT P md ops Q S L fuel listed a w [] := fun _ h => by cases h
theorem AllReadyT.cons {fuel : Nat} {listed : Array Bool} {a : Act} {w : World} {i : Nat} {o : Oper} {rs : List Nat} (ho : ops[i]? = some o)
    (h : ∀ K' : Act → World → Prop, Shut (∀ a w, (i ≠ L → S w) → wpAnyT P md ops Q S L fuel (listed.setIfInBounds i true) a w → K' a w) → if Region.wanted o (yielded ops a.tmps) = true then Oper.wp P o a w K' Q else K' (a.put o.dst undef) w)
    (hs : AllReadyT P md ops Q S L fuel listed a w rs) : AllReadyT P md ops Q S L fuel listed a w (i :: rs) := fun j hj => by
  rcases List.mem_cons.1 hj with rfl | hj
  · exact wpOp_step ho (fun K' hK => h K' (fun a w hS hW => hK a w ⟨hS, hW⟩))
  · exact hs j hj
theorem readyT (rs : List Nat) {fuel : Nat} {listed : Array Bool} {a : Act} {w : World} (hr : Region.ready md ops listed = rs) (hne : rs ≠ [])
    (h : AllReadyT P md ops Q S L fuel listed a w rs) : wpAnyT P md ops Q S L (fuel + 1) listed a w :=
  ⟨fun h0 => absurd (hr ▸ h0) hne, hr ▸ h⟩
/-- one alone may come up -/
theorem oneT (i : Nat) {o : Oper} {fuel : Nat} {listed : Array Bool} {a : Act} {w : World} (hr : Region.ready md ops listed = [i]) (ho : ops[i]? = some o)
    (h : ∀ K' : Act → World → Prop, Shut (∀ a w, (i ≠ L → S w) → wpAnyT P md ops Q S L fuel (listed.setIfInBounds i true) a w → K' a w) → if Region.wanted o (yielded ops a.tmps) = true then Oper.wp P o a w K' Q else K' (a.put o.dst undef) w) :
    wpAnyT P md ops Q S L (fuel + 1) listed a w :=
  readyT [i] hr (by simp) (AllReadyT.cons ho h AllReadyT.nil)
theorem doneT {listed : Array Bool} {a : Act} {w : World} (hr : Region.ready md ops listed = []) (h : Q .normal a w) :
    ∀ fuel, wpAnyT P md ops Q S L fuel listed a w
  | 0 => ⟨hr, h⟩
  | _ + 1 => ⟨fun _ => h, by rw [hr]; simp⟩
theorem beginT (S : World → Prop) (L : Nat) {id : Nat} {a : Act} {w : World} (hm : P.follows .mixedOrders = true)
    (h : wpAnyT P .any ops Q S L ops.size (Array.replicate ops.size false) a w.drew) : (Code.region id ops true).wp P Q a w :=
  wp_region_any hm (wpAny_of_T _ _ _ _ h)
/-- taken first, where the result goes written out -/
theorem takeD (i : Nat) (dst : Option Tmp) {oi : Oper} (v : Value) {fuel : Nat} {listed : Array Bool} {a : Act} {w : World} (hi : ops[i]? = some oi) (hd : oi.dst = dst)
    (hs : Region.noSelect ops = true) (hf : Region.free md ops listed i = true) (hr : (Region.ready md ops listed).contains i = true) (hL : waitsFor md ops L i = true)
    (hQ : ∀ c a w, Q (.panic c) (a.put dst v) w → Q (.panic c) a w) (hy : YieldsIf P ops S oi v a) (hS : S w)
    (h : wpAnyT P md ops Q S L fuel (listed.setIfInBounds i true) (a.put dst v) w) : wpAnyT P md ops Q S L (fuel + 1) listed a w := by
  subst hd
  exact takeT i v hi hs hf hr hL hQ hy hS h
/-- a load of several cells, taken first -/
theorem loadT (i : Nat) (dst : Option Tmp) (ty : TypeId) (x : Operand) (b o : Nat) (cs : List Value) {oi : Oper} {fuel : Nat} {listed : Array Bool} {a : Act} {w : World} (hi : ops[i]? = some oi) (hdst : oi.dst = dst)
    (hs : Region.noSelect ops = true) (hf : Region.free md ops listed i = true) (hr : (Region.ready md ops listed).contains i = true) (hL : waitsFor md ops L i = true)
    (ho : oi.op = .load ty x) (hw : Region.wanted oi (yielded ops a.tmps) = true)
    (hx : a.eval x = .pointer (some ⟨b, o, none⟩)) {d : TypeDesc} (hS : ∀ w, S w → w.rangeAt b o cs)
    (hu : P.underlying ty = some d) (hd : d.isRow = true) (hin : (P.info? ty).map (·.size) = some cs.length)
    (hQ : ∀ c a w, Q (.panic c) (a.put dst (.agg cs.toArray)) w → Q (.panic c) a w) (hSw : S w)
    (h : wpAnyT P md ops Q S L fuel (listed.setIfInBounds i true) (a.put dst (.agg cs.toArray)) w) : wpAnyT P md ops Q S L (fuel + 1) listed a w :=
  takeD i dst _ hi hdst hs hf hr hL hQ (yieldsIf_load_mid hw ty x ho b o hx cs d hS hu hd hin) hSw h
end

end Go.Proofs.YtlidhdljgnijaaaDoor

/-
  CONTRACT of the document's mend (coterieref10).
-/
set_option linter.unusedVariables false
namespace Go.Proofs.YtlidhdljgnijaaaDoor
open Go.RowKit

theorem SlN.at0 {gs : List Nat} {w : World} {B : Nat} {b o n c : Nat} {F : List Nd} (hc : Cells gs w) (h : SlN (vw gs w) B (some ⟨b, o, none⟩) n c F) {i : Nat} (hi : i < F.length) :
    ∃ v, NdV (vw gs w) B F[i] v ∧ w.rangeAt b (o + i * 2) [iv F[i].id, v] ∧ w.cell? ⟨b, o + i * 2 + 1, none⟩ = some v ∧ b < B := by
  obtain ⟨b', o', v, e, hlt, h1, h2, h3⟩ := h.rangeV hc hi
  injection e with e
  injection e with e1 e2
  subst e1 e2
  exact ⟨v, h1, h2, h3, hlt⟩
theorem rk {w w' : World} {b o : Nat} {cs : List Value} (hb : Below w.heap.size w w') (h : w.rangeAt b o cs) (hlt : b < w.heap.size) : w'.rangeAt b o cs := fun j u hu => by
  rw [← h j u hu]
  exact hb.cell (p := ⟨b, o + j, none⟩) hlt
theorem SlN.ad {w : World} {B : Nat} {A : Option Addr} {n c : Nat} {F : List Nd} (h : SlN w B A n c F) (hn : 0 < n) : ∃ b o, A = some ⟨b, o, none⟩ := by
  obtain ⟨_, _, _, us, _, hR⟩ := h
  obtain ⟨b, o, e, _⟩ := hR.pos (by omega)
  exact ⟨b, o, e⟩
theorem mend_pos3 {p1 : List Nd} {q y : Nd} {s : List Nd} (h : q.kids.length = 3) : mendN (p1 ++ [q]) y s = p1 ++ ofKids (q.kids.take 2) :: ofKids (q.kids.drop 2 ++ y.kids) :: s := by simp [mendN, h]
theorem mend_pos2 {p1 : List Nd} {q y : Nd} {s : List Nd} (h : q.kids.length ≠ 3) : mendN (p1 ++ [q]) y s = p1 ++ ofKids (q.kids ++ y.kids) :: s := by simp [mendN, h]
theorem mend_zero3 {q y : Nd} {s : List Nd} (h : q.kids.length = 3) : mendN [] y (q :: s) = ofKids (y.kids ++ q.kids.take 1) :: ofKids (q.kids.drop 1) :: s := by simp [mendN, h]
theorem mend_zero2 {q y : Nd} {s : List Nd} (h : q.kids.length ≠ 3) : mendN [] y (q :: s) = ofKids (y.kids ++ q.kids) :: s := by simp [mendN, h]
theorem set_two (p1 : List Nd) (q y x z : Nd) (s : List Nd) : ((p1 ++ [q] ++ y :: s).set p1.length x).set (p1.length + 1) z = p1 ++ x :: z :: s := by
  rw [List.append_assoc, List.singleton_append, set_mid, List.set_append_right _ _ (by omega), show p1.length + 1 - p1.length = 1 by omega]
  rfl
theorem one_of {w : World} {B : Nat} {F : List Nd} {vs : List Value} (h : NdL w B F vs) : ∀ u ∈ flatV F vs, u.oneCell' = true := flat_one h
theorem two_list {l : List Nd} (h : l.length = 2) (h0 : 0 < l.length) (h1 : 1 < l.length) : l = [l[0], l[1]] := by
  match l, h with
  | [x, y], _ => rfl
theorem cut_two (p1 : List Nd) (q y x : Nd) (s : List Nd) : ((p1 ++ [q] ++ y :: s).set p1.length x).take (p1.length + 1) ++ ((p1 ++ [q] ++ y :: s).set p1.length x).drop (p1.length + 1 + 1) = p1 ++ x :: s := by
  rw [List.append_assoc, List.singleton_append, set_mid]
  have e1 : (p1 ++ x :: y :: s).take (p1.length + 1) = p1 ++ [x] := by
    rw [show p1 ++ x :: y :: s = (p1 ++ [x]) ++ y :: s by simp]
    exact List.take_left' (by simp)
  have e2 : (p1 ++ x :: y :: s).drop (p1.length + 1 + 1) = s := by
    rw [show p1 ++ x :: y :: s = (p1 ++ [x, y]) ++ s by simp]
    exact List.drop_left' (by simp)
  rw [e1, e2]
  simp
theorem kids_ne {x : Nd} : x.kids.length ≤ 3 := by cases x <;> simp [Nd.kids]

end Go.Proofs.YtlidhdljgnijaaaDoor

/-
  CONTRACT of the document's without (coterieref10).
-/
set_option linter.unusedVariables false
namespace Go.Proofs.YtlidhdljgnijaaaDoor
open Go.RowKit

theorem mendN_len {p : List Nd} {y : Nd} {s : List Nd} (h : 0 < p.length + s.length) : (mendN p y s).length = p.length + s.length ∨ (mendN p y s).length = p.length + s.length + 1 := by
  unfold mendN
  rcases hp : p.reverse with _ | ⟨o, p'⟩
  · have hp0 : p = [] := by simpa using hp
    subst hp0
    match s, h with
    | o :: s', _ =>
      simp only []
      split <;> simp
  · have hpl : p.length = p'.length + 1 := by rw [← List.length_reverse, hp]; rfl
    simp only []
    split <;> simp <;> omega
theorem nil_ofKids {L : List Nd} (h : L.length = 1 ∨ L.length = 2 ∨ L.length = 3) : (ofKids L).id = 0 ∧ ((ofKids L).kids.length = 1 ∨ (ofKids L).kids.length = 2 ∨ (ofKids L).kids.length = 3) := ⟨ofKids_id h, by rw [ofKids_kids h]; exact h⟩

theorem one_nd {v : Value} (h : v.oneCell' = true) : (#[Value.int .i64 0, v] : Array Value).all (·.oneCell') = true := by simp [h, show (Value.int IntKind.i64 0).oneCell' = true from rfl]
theorem hid1_setRow (w : World) (g : Nat) (cs : Array Value) : hid1 (w.setRow g cs) g = hid1 w g := by
  unfold hid1 World.setRow
  congr 1
  apply Array.ext_getElem?
  intro k
  simp only [Array.getElem?_modify]
  by_cases h : g = k
  · simp only [h, if_true]
    cases w.heap[k]? with
    | none => rfl
    | some o => cases o <;> rfl
  · simp [h]
theorem NdV.unbox {gs : List Nat} {w : World} {g B : Nat} {cs : Array Value} (hc : Cells (g :: gs) (w.setRow g cs)) {x : Nd} {v : Value} (h : NdV (vw (g :: gs) w) B x v) : NdV (vw gs (w.setRow g cs)) B x v := by
  have e : vw (g :: gs) (w.setRow g cs) = vw (g :: gs) w := by rw [vw, vw, hid1_setRow]
  rw [← e] at h
  exact NdV.keep (vw_less (l := [g]) hc) x v h
theorem Cells.setRow {gs : List Nat} {w : World} (h : Cells gs w) (g : Nat) (cs : Array Value) : Cells gs (w.setRow g cs) := by
  intro k hk
  obtain ⟨t, cs', hr⟩ := h k hk
  by_cases e : k = g
  · subst e
    exact ⟨t, cs, hr.row cs⟩
  · exact ⟨t, cs', hr.rowFar e cs⟩
end Go.Proofs.YtlidhdljgnijaaaDoor

/-
  CONTRACTS of the document's Insert and Delete (coterieref10).
-/
set_option linter.unusedVariables false
namespace Go.Proofs.YtlidhdljgnijaaaDoor
open Go.RowKit

theorem cells_nil (w : World) : Cells [] w := fun g hg => by cases hg
/-- why no member is put in; the members and levels with it -/
def insE (ids : List Int) (ll : List (List Int)) (id : Int) : Int := if chkT ids ll = false ∨ id < 0 ∨ 1048576 < id then 1 else if isT ids id = true then 7 else if ids.length = 1000 then 8 else 0
def insS (ids : List Int) (lv : List (List Nat)) (id : Int) : List Int × List (List Nat) := if ids = [] then ([id], []) else (insI ids id, insL lv (belT ids id - 1))
def InsPost (w : World) (ids : List Int) (ll : List (List Int)) (id : Int) (e : Ending) (w' : World) : Prop :=
  Below w.heap.size w w' ∧ ((insE ids ll id ≠ 0 ∧ e = .returned (.tuple #[.agg sh0, .int .i64 (insE ids ll id)])) ∨
    (insE ids ll id = 0 ∧ ∃ Ai ni ci Al nl cl, e = .returned (.tuple #[.agg (shV Ai ni ci Al nl cl), .int .i64 0]) ∧ ShN w.heap.size w' w'.heap.size Ai ni ci Al nl cl (insS ids (lvN ll) id).1 (levI (insS ids (lvN ll) id).2)))
/-- why no member is taken out; the members and levels without it -/
def delE (ids : List Int) (ll : List (List Int)) (id : Int) : Int := if chkT ids ll = false then 1 else if isT ids id = false then 6 else 0
def delS (ids : List Int) (lv : List (List Nat)) (id : Int) : List Int × List (List Nat) := if ids.length = 1 then ([], []) else (ids.eraseIdx (belT ids id), delL lv (belT ids id))
def DelPost (w : World) (ids : List Int) (ll : List (List Int)) (id : Int) (e : Ending) (w' : World) : Prop :=
  Below w.heap.size w w' ∧ ((delE ids ll id ≠ 0 ∧ e = .returned (.tuple #[.agg sh0, .int .i64 (delE ids ll id)])) ∨
    (delE ids ll id = 0 ∧ ∃ Ai ni ci Al nl cl, e = .returned (.tuple #[.agg (shV Ai ni ci Al nl cl), .int .i64 0]) ∧ ShN w.heap.size w' w'.heap.size Ai ni ci Al nl cl (delS ids (lvN ll) id).1 (levI (delS ids (lvN ll) id).2)))

theorem sizeSh (Ai : Option Addr) (ni ci : Nat) (Al : Option Addr) (nl cl : Nat) : (Tryd.prog.info? 25).map (·.size) = some (shV Ai ni ci Al nl cl).size := shapeInfo2
theorem one_sh (Ai : Option Addr) (ni ci : Nat) (Al : Option Addr) (nl cl : Nat) : (shV Ai ni ci Al nl cl).all (·.oneCell') = true := by simp [shV, Value.oneCell']
theorem ShR.nil (w : World) (B : Nat) : ShR w B none 0 0 none 0 0 [] [] := ⟨rfl, rfl, Nat.le_refl _, Nat.le_refl _, by simp [maxLen], by simp [maxLen], Rd.zero _ _ _, [], Rd.zero _ _ _, Lvs.nil _ _⟩
theorem lv_high {ids : List Int} {ll : List (List Int)} (hc : chkT ids ll = true) : (lvN ll).length ≤ 10 := by
  obtain ⟨h1, _, h3, _⟩ := chkT_lv hc
  rcases Nat.eq_zero_or_pos ids.length with h0 | h0
  · rw [h0] at h3
    match hl : lvN ll, h3 with
    | [], _ => simp
    | l :: ls, h3 =>
      have := h3.1
      omega
  · have h := lvOK_high _ _ h3 h0
    rcases Nat.lt_or_ge 10 (lvN ll).length with h2 | h2
    · have := Nat.pow_le_pow_right (show 0 < 2 by omega) h2
      omega
    · exact h2
theorem levF_len : ∀ (h : Nat) (F : List Nd), (levF h F).length = h
  | 0, _ => rfl
  | h + 1, F => by rw [levF, List.length_append, levF_len h]; rfl

theorem size_setRowT (w : World) (g : Nat) (cs : Array Value) : (w.setRow g cs).heap.size = w.heap.size := by simp [World.setRow]
theorem insI_len (l : List Int) (id : Int) : (insI l id).length = l.length + 1 := by
  have := List.countP_le_length (p := fun x => decide (x < id)) (l := l)
  rw [insI, List.length_append, List.length_cons, List.length_take, List.length_drop, belT]
  omega
theorem belT_le (ids : List Int) (id : Int) : belT ids id ≤ ids.length := List.countP_le_length
theorem lvOK_pos : ∀ (lv : List (List Nat)) (many : Nat), lvOK many lv → ∀ l ∈ lv, 0 < l.length
  | [], _, _, l, hl => by simp at hl
  | x :: ls, many, ⟨h1, h2, h3, h4⟩, l, hl => by
    rcases List.mem_cons.1 hl with rfl | hl
    · rcases Nat.eq_zero_or_pos l.length with h0 | h0
      · rw [List.length_eq_zero_iff.1 h0] at h3
        simp at h3
        omega
      · exact h0
    · exact lvOK_pos ls _ h4 l hl
theorem levI_pos {lv : List (List Nat)} (h : ∀ l ∈ lv, 0 < l.length) : ∀ l ∈ levI lv, 0 < l.length := by
  intro l hl
  obtain ⟨x, hx, rfl⟩ := List.mem_map.1 hl
  rw [List.length_map]
  exact h x hx
end Go.Proofs.YtlidhdljgnijaaaDoor

/-
  CONTRACT of the document's Delete (coterieref10).
-/
set_option linter.unusedVariables false
namespace Go.Proofs.YtlidhdljgnijaaaDoor
open Go.RowKit

end Go.Proofs.YtlidhdljgnijaaaDoor

/-
  TREES THAT MAY BE: what is inserted into one, and deleted from one, makes one; members that rise.
-/
set_option linter.unusedVariables false
namespace Go.Proofs.YtlidhdljgnijaaaDoor

theorem lvN_levI (lv : List (List Nat)) : lvN (levI lv) = lv := by
  rw [lvN, levI, List.map_map]
  conv => rhs; rw [← List.map_id lv]
  apply List.map_congr_left
  intro l _
  simp only [Function.comp, natL, List.map_map]
  conv => rhs; rw [id, ← List.map_id l]
  apply List.map_congr_left
  intro n _
  simp
theorem levI_lvN {ll : List (List Int)} (h : ∀ l ∈ ll, in23 l = true) : levI (lvN ll) = ll := by
  rw [lvN, levI, List.map_map]
  conv => rhs; rw [← List.map_id ll]
  apply List.map_congr_left
  intro l hl
  have h1 := h l hl
  simp only [Function.comp, natL, List.map_map]
  conv => rhs; rw [id, ← List.map_id l]
  apply List.map_congr_left
  intro n hn
  rw [in23, List.all_eq_true] at h1
  have := h1 n hn
  simp only [Bool.or_eq_true, decide_eq_true_eq] at this
  simp only [Function.comp, id]
  omega
theorem in23_mk {l : List Nat} (h : two3 l) : in23 (l.map (fun n : Nat => (n : Int))) = true := by
  rw [in23, List.all_eq_true]
  intro x hx
  obtain ⟨n, hn, rfl⟩ := List.mem_map.1 hx
  have := h n hn
  simp only [Bool.or_eq_true, decide_eq_true_eq]
  omega
theorem sum_cast : ∀ (l : List Nat), (l.map (fun n : Nat => (n : Int))).sum = ((l.sum : Nat) : Int)
  | [] => rfl
  | x :: l => by
    rw [List.map_cons, List.sum_cons, sum_cast l, List.sum_cons]
    omega
theorem chkL_mk : ∀ (lv : List (List Nat)) (many : Nat), lvOK many lv → chkL (many : Int) (levI lv) = true
  | [], many, h => by
    have h' : many ≤ 1 := h
    show decide ((many : Int) ≤ 1) = true
    rw [decide_eq_true_eq]
    omega
  | l :: ls, many, ⟨h1, h2, h3, h4⟩ => by
    show (in23 (l.map (fun n : Nat => (n : Int))) && (decide ((l.map (fun n : Nat => (n : Int))).sum = (many : Int)) && decide (2 ≤ (many : Int))) && chkL ((l.map (fun n : Nat => (n : Int))).length : Nat) (levI ls)) = true
    rw [List.length_map, chkL_mk ls l.length h4, in23_mk h2, sum_cast, h3]
    simp
    omega
theorem okI_mk {ids : List Int} (h : ∀ x ∈ ids, 0 ≤ x ∧ x ≤ 1048576) (hr : ids.Pairwise (· < ·)) : okI ids = true := by
  rw [okI, List.all_eq_true]
  intro i hi
  have hi' : i < ids.length := List.mem_range.1 hi
  have e : ids.getD i 0 = ids[i] := by rw [List.getD_eq_getElem?_getD, List.getElem?_eq_getElem hi']; rfl
  have hb := h ids[i] (List.getElem_mem hi')
  rw [badAt, e]
  simp only [Bool.not_eq_true', Bool.or_eq_false_iff, Bool.and_eq_false_iff, decide_eq_false_iff_not]
  refine ⟨⟨by omega, by omega⟩, ?_⟩
  rcases Nat.eq_zero_or_pos i with h0 | h0
  · left; omega
  · right
    have e2 : ids.getD (i - 1) 0 = ids[i - 1] := by rw [List.getD_eq_getElem?_getD, List.getElem?_eq_getElem (by omega)]; rfl
    rw [List.pairwise_iff_getElem] at hr
    have := hr (i - 1) i (by omega) hi' (by omega)
    rw [e2]
    omega
theorem chkT_mk {ids : List Int} {lv : List (List Nat)} (h1 : ids.length ≤ 1000) (h2 : ∀ x ∈ ids, 0 ≤ x ∧ x ≤ 1048576) (hr : ids.Pairwise (· < ·)) (hl : lvOK ids.length lv) : chkT ids (levI lv) = true := by
  rw [chkT, okI_mk h2 hr, chkL_mk lv _ hl]
  simpa using h1
theorem okI_mem {ids : List Int} (h : okI ids = true) : ∀ x ∈ ids, 0 ≤ x ∧ x ≤ 1048576 := by
  intro x hx
  obtain ⟨i, hi, rfl⟩ := List.mem_iff_getElem.1 hx
  exact ⟨(okI_at h hi).1, (okI_at h hi).2.1⟩
/-- members that rise, about a number -/
theorem split_rise : ∀ (l : List Int) (id : Int), l.Pairwise (· < ·) → ∃ E L, l = E ++ L ∧ (∀ v ∈ E, v < id) ∧ (∀ v ∈ L, ¬ v < id) ∧ belT l id = E.length
  | [], id, _ => ⟨[], [], rfl, by simp, by simp, rfl⟩
  | x :: l, id, h => by
    rw [List.pairwise_cons] at h
    by_cases hx : x < id
    · obtain ⟨E, L, h1, h2, h3, h4⟩ := split_rise l id h.2
      refine ⟨x :: E, L, by rw [h1]; rfl, fun v hv => ?_, h3, ?_⟩
      · rcases List.mem_cons.1 hv with rfl | hv
        · exact hx
        · exact h2 v hv
      · rw [belT, List.countP_cons, List.length_cons, if_pos (by simpa using hx)]
        rw [belT] at h4
        omega
    · refine ⟨[], x :: l, rfl, by simp, fun v hv => ?_, ?_⟩
      · rcases List.mem_cons.1 hv with rfl | hv
        · exact hx
        · have := h.1 v hv; omega
      · exact bel_none fun v hv => by
          rcases List.mem_cons.1 hv with rfl | hv
          · exact hx
          · have := h.1 v hv; omega
theorem mem_insI {l : List Int} {id v : Int} : v ∈ insI l id ↔ v = id ∨ v ∈ l := by
  rw [insI]
  conv => rhs; rw [← List.take_append_drop (belT l id) l]
  simp only [List.mem_append, List.mem_cons]
  constructor
  · rintro (h | h | h)
    · exact .inr (.inl h)
    · exact .inl h
    · exact .inr (.inr h)
  · rintro (h | h | h)
    · exact .inr (.inl h)
    · exact .inl h
    · exact .inr (.inr h)
theorem isT_mem {ids : List Int} {id : Int} : isT ids id = true ↔ id ∈ ids := by
  rw [isT, List.any_eq_true]
  constructor
  · rintro ⟨z, h1, h2⟩
    have : z = id := by simpa using h2
    exact this ▸ h1
  · exact fun h => ⟨id, h, by simp⟩
theorem insI_rise {l : List Int} {id : Int} (h : l.Pairwise (· < ·)) (hn : id ∉ l) : (insI l id).Pairwise (· < ·) := by
  obtain ⟨E, L, rfl, h2, h3, _⟩ := split_rise l id h
  rw [insI_mid h2 h3]
  rw [List.pairwise_append] at h ⊢
  refine ⟨h.1, List.pairwise_cons.2 ⟨fun v hv => ?_, h.2.1⟩, fun a ha b hb => ?_⟩
  · have h4 := h3 v hv
    have h5 : v ≠ id := fun e => hn (by rw [← e]; simp [hv])
    omega
  · rcases List.mem_cons.1 hb with rfl | hb
    · exact h2 a ha
    · exact h.2.2 a ha b hb
/-- a member taken out -/
theorem erase_form {l : List Int} {id : Int} (h : l.Pairwise (· < ·)) (hi : id ∈ l) : ∃ E L, l = E ++ id :: L ∧ (∀ v ∈ E, v < id) ∧ (∀ v ∈ L, ¬ v < id) ∧ belT l id = E.length ∧ l.eraseIdx (belT l id) = E ++ L := by
  obtain ⟨E, L, h1, h2, h3, h4⟩ := split_rise l id h
  match L, h1, h3 with
  | [], h1, h3 =>
    rw [h1, List.append_nil] at hi
    have := h2 id hi
    omega
  | x :: L, h1, h3 =>
    have hx : x = id := by
      rw [h1] at hi h
      rcases List.mem_append.1 hi with hi | hi
      · have := h2 id hi; omega
      · rcases List.mem_cons.1 hi with e | hi
        · exact e.symm
        · rw [List.pairwise_append, List.pairwise_cons] at h
          have := h.2.1.1 id hi
          have := h3 x (by simp)
          omega
    subst hx
    refine ⟨E, L, h1, h2, fun v hv => h3 v (by simp [hv]), h4, ?_⟩
    rw [h4, h1]
    exact erase_mid _ _ _
theorem mem_erase {l : List Int} {id v : Int} (h : l.Pairwise (· < ·)) (hi : id ∈ l) : v ∈ l.eraseIdx (belT l id) ↔ v ∈ l ∧ v ≠ id := by
  obtain ⟨E, L, rfl, h2, h3, _, h5⟩ := erase_form h hi
  rw [h5]
  rw [List.pairwise_append, List.pairwise_cons] at h
  simp only [List.mem_append, List.mem_cons]
  constructor
  · rintro (hv | hv)
    · exact ⟨.inl hv, by have := h2 v hv; omega⟩
    · exact ⟨.inr (.inr hv), by have := h.2.1.1 v hv; omega⟩
  · rintro ⟨hv | rfl | hv, hne⟩
    · exact .inl hv
    · exact absurd rfl hne
    · exact .inr hv
theorem erase_rise {l : List Int} {id : Int} (h : l.Pairwise (· < ·)) (hi : id ∈ l) : (l.eraseIdx (belT l id)).Pairwise (· < ·) := h.sublist (List.eraseIdx_sublist _ _)
theorem erase_ins {l : List Int} {id : Int} (h : l.Pairwise (· < ·)) (hn : id ∉ l) : (insI l id).eraseIdx (belT (insI l id) id) = l := by
  obtain ⟨E, L, rfl, h2, h3, _⟩ := split_rise l id h
  rw [insI_mid h2 h3]
  exact (erase_ids h2 h3).2
theorem ins_erase {l : List Int} {id : Int} (h : l.Pairwise (· < ·)) (hi : id ∈ l) : insI (l.eraseIdx (belT l id)) id = l := by
  obtain ⟨E, L, rfl, h2, h3, _, h5⟩ := erase_form h hi
  rw [h5]
  exact insI_mid h2 h3
theorem insE_zero {ids : List Int} {ll : List (List Int)} {id : Int} (h : insE ids ll id = 0) : chkT ids ll = true ∧ 0 ≤ id ∧ id ≤ 1048576 ∧ id ∉ ids ∧ ids.length < 1000 := by
  rw [insE] at h
  split at h
  · cases h
  rename_i h1
  split at h
  · cases h
  rename_i h2
  split at h
  · cases h
  rename_i h3
  have hc : chkT ids ll = true := by
    cases hc : chkT ids ll with
    | true => rfl
    | false => exact absurd (.inl hc) h1
  refine ⟨hc, ?_, ?_, fun hm => h2 (isT_mem.2 hm), by have := (chkT_lv hc).1; omega⟩
  · rcases Int.lt_or_le id 0 with h4 | h4
    · exact absurd (.inr (.inl h4)) h1
    · exact h4
  · rcases Int.lt_or_le 1048576 id with h4 | h4
    · exact absurd (.inr (.inr h4)) h1
    · exact h4
theorem delE_zero {ids : List Int} {ll : List (List Int)} {id : Int} (h : delE ids ll id = 0) : chkT ids ll = true ∧ id ∈ ids := by
  rw [delE] at h
  split at h
  · cases h
  rename_i h1
  split at h
  · cases h
  rename_i h2
  exact ⟨by simpa using h1, isT_mem.1 (by simpa using h2)⟩
theorem ins_chk {ids : List Int} {ll : List (List Int)} {id : Int} (h : insE ids ll id = 0) : (insS ids (lvN ll) id).1 = insI ids id ∧ lvOK (ids.length + 1) (insS ids (lvN ll) id).2 ∧ chkT (insS ids (lvN ll) id).1 (levI (insS ids (lvN ll) id).2) = true := by
  obtain ⟨hc, h1, h2, h3, h4⟩ := insE_zero h
  obtain ⟨c1, c2, c3, c4⟩ := chkT_lv hc
  have hr := okI_rise _ c2
  have key : (insS ids (lvN ll) id).1 = insI ids id ∧ lvOK (ids.length + 1) (insS ids (lvN ll) id).2 := by
    by_cases he : ids = []
    · subst he
      rw [insS, if_pos rfl]
      exact ⟨rfl, show 0 + 1 ≤ 1 by omega⟩
    · rw [insS, if_neg he]
      have := List.length_pos_iff.2 he
      exact ⟨rfl, insL_ok _ _ _ c3 (by have := belT_le ids id; omega)⟩
  refine ⟨key.1, key.2, ?_⟩
  rw [key.1]
  refine chkT_mk (by rw [insI_len]; omega) (fun x hx => ?_) (insI_rise hr h3) (by rw [insI_len]; exact key.2)
  rcases mem_insI.1 hx with rfl | hx
  · exact ⟨h1, h2⟩
  · exact okI_mem c2 x hx
theorem del_chk {ids : List Int} {ll : List (List Int)} {id : Int} (h : delE ids ll id = 0) : (delS ids (lvN ll) id).1 = ids.eraseIdx (belT ids id) ∧ lvOK (ids.length - 1) (delS ids (lvN ll) id).2 ∧ chkT (delS ids (lvN ll) id).1 (levI (delS ids (lvN ll) id).2) = true := by
  obtain ⟨hc, h3⟩ := delE_zero h
  obtain ⟨c1, c2, c3, c4⟩ := chkT_lv hc
  have hr := okI_rise _ c2
  have hbl : belT ids id < ids.length := (rise_bel ids id hr (isT_mem.2 h3)).1
  have key : (delS ids (lvN ll) id).1 = ids.eraseIdx (belT ids id) ∧ lvOK (ids.length - 1) (delS ids (lvN ll) id).2 := by
    by_cases he : ids.length = 1
    · rw [delS, if_pos he]
      refine ⟨?_, show ids.length - 1 ≤ 1 by omega⟩
      match ids, he with
      | [x], _ =>
        have : belT [x] id = 0 := by simp at hbl; exact hbl
        rw [this]; rfl
    · rw [delS, if_neg he]
      exact ⟨rfl, delL_ok _ _ _ c3 hbl⟩
  have hl : (ids.eraseIdx (belT ids id)).length = ids.length - 1 := by rw [List.length_eraseIdx, if_pos hbl]
  refine ⟨key.1, key.2, ?_⟩
  rw [key.1]
  refine chkT_mk (by omega) (fun x hx => okI_mem c2 x ((mem_erase hr h3).1 hx).1) (erase_rise hr h3) (by rw [hl]; exact key.2)
theorem lvOK_len : ∀ (lv : List (List Nat)) (many : Nat), lvOK many lv → ∀ l ∈ lv, l.length ≤ many
  | [], _, _, l, hl => by simp at hl
  | x :: ls, many, ⟨h1, h2, h3, h4⟩, l, hl => by
    have h5 := two3_len h2
    rcases List.mem_cons.1 hl with rfl | hl
    · omega
    · have := lvOK_len ls _ h4 l hl
      omega
theorem few_of_chk {ids : List Int} {ll : List (List Int)} (h : chkT ids ll = true) : fewT ids ll = true := by
  obtain ⟨c1, c2, c3, c4⟩ := chkT_lv h
  have h10 := lv_high h
  rw [lvN, List.length_map] at h10
  rw [fewT, Bool.and_eq_true, Bool.and_eq_true, List.all_eq_true, decide_eq_true_eq, decide_eq_true_eq]
  refine ⟨fun l hl => ?_, by omega, by omega⟩
  rw [decide_eq_true_eq]
  have := lvOK_len _ _ c3 (natL l) (List.mem_map.2 ⟨l, hl, rfl⟩)
  rw [natL, List.length_map] at this
  omega
theorem few_len {ids : List Int} {ll : List (List Int)} (h : fewT ids ll = true) : (∀ l ∈ ll, l.length ≤ 1100) ∧ ids.length ≤ 1100 ∧ ll.length ≤ 20 := by
  rw [fewT, Bool.and_eq_true, Bool.and_eq_true, List.all_eq_true, decide_eq_true_eq, decide_eq_true_eq] at h
  exact ⟨fun l hl => by have := h.1 l hl; rwa [decide_eq_true_eq] at this, h.2.1, h.2.2⟩

end Go.Proofs.YtlidhdljgnijaaaDoor

/-
  CONTRACT of the document's Build (coterieref10).
-/
set_option linter.unusedVariables false
namespace Go.Proofs.YtlidhdljgnijaaaDoor
open Go.RowKit

/-- members put in one by one: the first error, members, levels -/
def bldS : List Int → List Int → List (List Nat) → Int × List Int × List (List Nat)
  | [], ids, lv => (0, ids, lv)
  | id :: r, ids, lv => if insE ids (levI lv) id = 0 then bldS r (insS ids lv id).1 (insS ids lv id).2 else (insE ids (levI lv) id, [], [])
def BuildPost (w : World) (xs : List Int) (e : Ending) (w' : World) : Prop :=
  Below w.heap.size w w' ∧ ∃ Ai ni ci Al nl cl, e = .returned (.tuple #[.agg (shV Ai ni ci Al nl cl), .int .i64 (bldS xs [] []).1]) ∧ ShN w.heap.size w' w'.heap.size Ai ni ci Al nl cl (bldS xs [] []).2.1 (levI (bldS xs [] []).2.2)
theorem Ms.subT {w0 w : World} {L L' : List (Nat × TypeId × Array Value)} (h : Ms w0 w L) (hs : ∀ p ∈ L', p ∈ L) : Ms w0 w L' := ⟨h.old, fun p hp => h.rows p (hs p hp)⟩
theorem few_million {ids : List Int} {ll : List (List Int)} (h : fewT ids ll = true) : ∀ l ∈ ll, l.length ≤ 1000000 := fun l hl => by
  have := (few_len h).1 l hl
  omega

end Go.Proofs.YtlidhdljgnijaaaDoor

