import Derived.Test.YtlidhdljgnijaaaDoorN30
import Derived.Test.YtlidhdljgnijaaaDoorN32
import Derived.Test.YtlidhdljgnijaaaDoorN22
import Derived.Test.YtlidhdljgnijaaaDoorN04
import Derived.Test.YtlidhdljgnijaaaDoorN23
import Derived.Test.YtlidhdljgnijaaaDoorN17
import Derived.Test.YtlidhdljgnijaaaDoorN26
/-
  WHAT IS READ, told of one kind: a tree, or none; what the program's Read is asked to do.
-/
set_option linter.unusedVariables false
namespace Go.Proofs.YtlidhdljgnijaaaDoor
open Go.RowKit

def HGR : Prop := ∀ (Ab : Option Addr) (nb cb : Nat) (l : List UInt8) (d : Int) (w : World), Rd w w.heap.size Ab nb (l.map bv) → nb ≤ cb → cb ≤ maxLen → nb ≤ 1000000 → -9223372036854775808 ≤ d → d ≤ 9223372036854775807 →
  Calls Tryd.prog 25 #[.slice Ab nb cb, .int .i64 d] w (ReadPost w l d)

def kindU (l : List UInt8) (d : Int) : Int := if readE l d = 0 then kindR l d.toNat else 0
def idsU (l : List UInt8) (d : Int) : List Int := if readE l d = 0 then (idsR l d.toNat).1 else []
def lvsU (l : List UInt8) (d : Int) : List (List Int) := if readE l d = 0 then (lvsR l d.toNat).1 else []
def manyU (l : List UInt8) (d : Int) : Nat := if readE l d = 0 then manyR l d.toNat else 0
def ptsU (l : List UInt8) (d : Int) : List UInt8 := if readE l d = 0 then ptsR l d.toNat else []
def readM (l : List UInt8) (d : Int) : Int := if readE l d = 0 then readN l d else 0
theorem ReadPost.gen {w w' : World} {l : List UInt8} {d : Int} {e : Ending} (h : ReadPost w l d e w') :
    Below w.heap.size w w' ∧ ∃ Ai ni ci Al nl cl Ap cp, e = .returned (.tuple #[.agg (tgV (kindU l d) Ai ni ci Al nl cl Ap (manyU l d) cp), .int .i64 (readM l d), .int .i64 (readE l d)]) ∧ TgR w' w'.heap.size Ai ni ci Al nl cl (idsU l d) (lvsU l d) Ap (manyU l d) cp (ptsU l d) := by
  obtain ⟨hb, ⟨h1, h2⟩ | ⟨h1, Ai, ni, ci, Al, nl, cl, Ap, cp, h2, h3⟩⟩ := h
  · refine ⟨hb, none, 0, 0, none, 0, 0, none, 0, ?_, ?_⟩
    · rw [h2, kindU, manyU, readM, if_neg h1, if_neg h1, if_neg h1]
    · rw [idsU, lvsU, manyU, ptsU, if_neg h1, if_neg h1, if_neg h1, if_neg h1]
      exact ⟨⟨rfl, rfl, Nat.le_refl _, Nat.le_refl _, by simp [maxLen], by simp [maxLen], Rd.zero _ _ _, [], Rd.zero _ _ _, Lvs.nil _ _⟩, ⟨Rd.zero _ _ _, Nat.le_refl _, by simp [maxLen]⟩⟩
  · refine ⟨hb, Ai, ni, ci, Al, nl, cl, Ap, cp, ?_, ?_⟩
    · rw [h2, kindU, manyU, readM, if_pos h1, if_pos h1, if_pos h1, h1]
    · rw [idsU, lvsU, manyU, ptsU, if_pos h1, if_pos h1, if_pos h1, if_pos h1]
      exact h3
end Go.Proofs.YtlidhdljgnijaaaDoor

/-
  WHAT IS WRITTEN IS READ, as facts of lists (layer 13).
-/
set_option linter.unusedVariables false
namespace Go.Proofs.YtlidhdljgnijaaaDoor
open Go.RowKit

theorem num_of {l : List UInt8} {p wd x : Nat} {t : List UInt8} (h : l.drop p = be wd x ++ t) (hp : p ≤ l.length) (hx : x < 256 ^ wd) :
    numV l p wd = x ∧ numP l p wd false = p + wd ∧ numS l p wd false = false ∧ l.drop (p + wd) = t ∧ p + wd ≤ l.length := by
  have hl : l.length - p = wd + t.length := by rw [← List.length_drop, h, List.length_append, be_length]
  have hle : p + wd ≤ l.length := by omega
  refine ⟨?_, by rw [numP, if_pos ⟨hle, rfl⟩], by rw [numS, Bool.false_or]; exact decide_eq_false (by omega), ?_, hle⟩
  · rw [numV, if_pos hle, h, List.take_append_of_le_length (by rw [be_length]; exact Nat.le_refl _), List.take_of_length_le (by rw [be_length]; exact Nat.le_refl _), val_be, Nat.mod_eq_of_lt hx]
  · rw [← List.drop_drop, h, List.drop_append_of_le_length (by rw [be_length]; exact Nat.le_refl _), List.drop_of_length_le (by rw [be_length]; exact Nat.le_refl _), List.nil_append]
theorem nums_of {l : List UInt8} {wd : Nat} : ∀ (xs : List Int) (p : Nat) (t : List UInt8), l.drop p = xs.flatMap (fun x => be wd x.toNat) ++ t → p ≤ l.length → (∀ x ∈ xs, 0 ≤ x ∧ x.toNat < 256 ^ wd) →
    numsL l wd xs.length p false = (xs, (p + wd * xs.length, false)) ∧ l.drop (p + wd * xs.length) = t ∧ p + wd * xs.length ≤ l.length
  | [], p, t, h, hp, _ => ⟨by rw [List.length_nil, numsL, Nat.mul_zero, Nat.add_zero], by simpa using h, by simpa using hp⟩
  | x :: xs, p, t, h, hp, hx => by
    rw [List.flatMap_cons, List.append_assoc] at h
    obtain ⟨h1, h2, h3, h4, h5⟩ := num_of h hp (hx x (by simp)).2
    obtain ⟨i1, i2, i3⟩ := nums_of xs (p + wd) t h4 h5 (fun y hy => hx y (by simp [hy]))
    have e : p + wd + wd * xs.length = p + wd * (x :: xs).length := by rw [List.length_cons, Nat.mul_succ]; omega
    rw [e] at i1 i2 i3
    refine ⟨?_, i2, i3⟩
    rw [List.length_cons, numsL, if_neg (by simp), h1, h2, h3, i1, Int.toNat_of_nonneg (hx x (by simp)).1]
    rfl
theorem map_byteU (l : List Int) : l.map byteU = l.flatMap (fun x => be 1 x.toNat) := by
  induction l with
  | nil => rfl
  | cons x l ih => rw [List.map_cons, List.flatMap_cons, ← ih]; rfl
theorem lvs_of {l : List UInt8} : ∀ (ll : List (List Int)) (p : Nat) (t : List UInt8), l.drop p = ll.flatMap lvB ++ t → p ≤ l.length → (∀ y ∈ ll, y.length < 65536 ∧ ∀ x ∈ y, 0 ≤ x ∧ x < 256) →
    lvsL l ll.length p false = (ll, (p + (ll.flatMap lvB).length, false)) ∧ l.drop (p + (ll.flatMap lvB).length) = t ∧ p + (ll.flatMap lvB).length ≤ l.length
  | [], p, t, h, hp, _ => ⟨by rw [List.length_nil, lvsL]; simp, by simpa using h, by simpa using hp⟩
  | y :: ll, p, t, h, hp, hy => by
    rw [List.flatMap_cons, lvB, map_byteU, List.append_assoc, List.append_assoc] at h
    obtain ⟨h1, h2, h3, h4, h5⟩ := num_of h hp (by have := (hy y (by simp)).1; omega)
    obtain ⟨j1, j2, j3⟩ := nums_of y (p + 2) _ h4 h5 (fun x hx => by have := (hy y (by simp)).2 x hx; exact ⟨this.1, by omega⟩)
    obtain ⟨i1, i2, i3⟩ := lvs_of ll (p + 2 + 1 * y.length) t j2 j3 (fun z hz => hy z (by simp [hz]))
    have e : p + 2 + 1 * y.length + (ll.flatMap lvB).length = p + ((y :: ll).flatMap lvB).length := by
      rw [List.flatMap_cons, List.length_append, lvB, List.length_append, be_length, List.length_map]; omega
    rw [e] at i1 i2 i3
    refine ⟨?_, i2, i3⟩
    rw [List.length_cons, lvsL, if_neg (by simp), h1, h2, h3, j1, i1]

/-- a tree's text, but for its points -/
def hdT (kind : Int) (ids : List Int) (ll : List (List Int)) : List UInt8 := (byteU kind :: be 2 ids.length) ++ ids.flatMap idB ++ (UInt8.ofNat ll.length :: ll.flatMap lvB)
theorem writeT_hd (kind : Int) (ids : List Int) (ll : List (List Int)) (ps : List UInt8) : writeT kind ids ll ps = hdT kind ids ll ++ ps := rfl
structure FitT (kind : Int) (ids : List Int) (ll : List (List Int)) : Prop where
  k : 0 ≤ kind ∧ kind < 256
  i : ids.length < 65536 ∧ ∀ x ∈ ids, 0 ≤ x ∧ x < 4294967296
  l : ll.length < 256 ∧ ∀ y ∈ ll, y.length < 65536 ∧ ∀ x ∈ y, 0 ≤ x ∧ x < 256
theorem head_of {l t : List UInt8} {a : Nat} {kind : Int} {ids : List Int} {ll : List (List Int)} (h : l.drop a = hdT kind ids ll ++ t) (ha : a ≤ l.length) (hf : FitT kind ids ll) :
    kindR l a = kind ∧ (idsR l a).1 = ids ∧ (idsR l a).2.2 = false ∧ lvsR l a = (ll, (a + (hdT kind ids ll).length, false)) ∧ l.drop (a + (hdT kind ids ll).length) = t ∧ a + (hdT kind ids ll).length ≤ l.length := by
  have h0 : l.drop a = be 1 kind.toNat ++ (be 2 ids.length ++ (ids.flatMap idB ++ (be 1 ll.length ++ (ll.flatMap lvB ++ t)))) := by
    rw [h, hdT]
    simp only [List.append_assoc, List.cons_append]
    rfl
  obtain ⟨k1, k2, k3, k4, k5⟩ := num_of h0 ha (by have := hf.k; omega)
  obtain ⟨n1, n2, n3, n4, n5⟩ := num_of k4 k5 (by have := hf.i.1; omega)
  obtain ⟨i1, i2, i3⟩ := nums_of (wd := 4) ids (a + 1 + 2) _ n4 n5 (fun x hx => by have := hf.i.2 x hx; exact ⟨this.1, by omega⟩)
  obtain ⟨m1, m2, m3, m4, m5⟩ := num_of i2 i3 (by have := hf.l.1; omega)
  obtain ⟨l1, l2, l3⟩ := lvs_of ll _ t m4 m5 hf.l.2
  have hi : idsR l a = (ids, (a + 1 + 2 + 4 * ids.length, false)) := by rw [idsR, k2, k3, n1, n2, n3, i1]
  have hq : a + 1 + 2 + 4 * ids.length + 1 + (ll.flatMap lvB).length = a + (hdT kind ids ll).length := by
    have e4 : ∀ xs : List Int, (xs.flatMap idB).length = 4 * xs.length := by
      intro xs
      induction xs with
      | nil => rfl
      | cons x xs ih => rw [List.flatMap_cons, List.length_append, ih, idB, be_length, List.length_cons]; omega
    rw [hdT]
    simp only [List.length_append, List.length_cons, be_length, e4]
    omega
  rw [hq] at l1 l2 l3
  refine ⟨by rw [kindR, k1]; exact Int.toNat_of_nonneg hf.k.1, by rw [hi], by rw [hi], ?_, l2, l3⟩
  rw [lvsR, hi, m1, m2, m3, l1]
theorem fit_of {kind : Int} {ids : List Int} {ll : List (List Int)} (h : mayB kind ids ll = true) : FitT kind ids ll := by
  rw [mayB, Bool.and_eq_true] at h
  obtain ⟨hk, hc⟩ := h
  have hf := few_of_chk hc
  rw [fewT, Bool.and_eq_true, Bool.and_eq_true, decide_eq_true_eq, decide_eq_true_eq, List.all_eq_true] at hf
  obtain ⟨f1, f2, f3⟩ := hf
  rw [chkT, Bool.and_eq_true, Bool.and_eq_true] at hc
  have hi := okI_mem hc.1.2
  have hl := (chkL_ok ll ids.length hc.2).2
  refine ⟨?_, ⟨by omega, fun x hx => by have := hi x hx; omega⟩, by omega, fun y hy => ⟨?_, fun x hx => ?_⟩⟩
  · rw [Bool.or_eq_true, decide_eq_true_eq, decide_eq_true_eq] at hk
    omega
  · have := f1 y hy
    rw [decide_eq_true_eq] at this
    omega
  · have h1 := hl y hy
    rw [in23, List.all_eq_true] at h1
    have h2 := h1 x hx
    rw [Bool.or_eq_true, decide_eq_true_eq, decide_eq_true_eq] at h2
    omega
theorem okG_facts {kind : Int} {ids : List Int} {ll : List (List Int)} {np : Nat} {ps : List UInt8} (h : okG kind ids ll np ps = true) : mayB kind ids ll = true ∧ 0 < np ∧ (nodesI kind ids ll).length = np := by
  rw [okG, Bool.and_eq_true, Bool.and_eq_true, Bool.and_eq_true, decide_eq_true_eq, decide_eq_true_eq] at h
  exact ⟨h.1, by omega, h.2.2.1⟩
/-- without its last byte a tree's text is too short -/
theorem short_of {kind : Int} {ids : List Int} {ll : List (List Int)} {np : Nat} {ps : List UInt8} (hok : okG kind ids ll np ps = true) (hps : ps.length = np * 32) {l : List UInt8} (hl : l = (writeT kind ids ll ps).take ((writeT kind ids ll ps).length - 1)) : readE l 0 = 2 := by
  obtain ⟨hm, hn0, hn⟩ := okG_facts hok
  have hlt : l = hdT kind ids ll ++ ps.take (np * 32 - 1) := by
    rw [hl, writeT_hd, List.length_append, List.take_append, List.take_of_length_le (by omega), show (hdT kind ids ll).length + ps.length - 1 - (hdT kind ids ll).length = np * 32 - 1 by omega]
  have hll : l.length = (hdT kind ids ll).length + (np * 32 - 1) := by rw [hlt, List.length_append, List.length_take]; omega
  obtain ⟨h1, h2, h3, h4, h5, h6⟩ := head_of (l := l) (a := 0) (t := ps.take (np * 32 - 1)) (by rw [List.drop_zero]; exact hlt) (by omega) (fit_of hm)
  have hmany : manyR l 0 = np := by rw [manyR, h1, h2, h4]; exact hn
  rw [readE, if_neg (by omega), show (0 : Int).toNat = 0 from rfl, h4, if_neg (by simp), h1, h2, if_neg (by rw [hm]; simp), hmany, if_pos (by show l.length < 0 + (hdT kind ids ll).length + np * 32; omega)]

theorem hdT_le {kind : Int} {ids : List Int} {ll : List (List Int)} (h : fewT ids ll = true) : (hdT kind ids ll).length ≤ 100000 := by
  rw [fewT, Bool.and_eq_true, Bool.and_eq_true, decide_eq_true_eq, decide_eq_true_eq, List.all_eq_true] at h
  obtain ⟨h3, h1, h2⟩ := h
  have e1 := flat_le (f := idB) (m := 4) ids (fun x _ => by rw [idB, be_length]; exact Nat.le_refl _)
  have e2 := flat_le (f := lvB) (m := 1102) ll (fun x hx => by
    have := h3 x hx
    rw [decide_eq_true_eq] at this
    rw [lvB, List.length_append, be_length, List.length_map]
    omega)
  rw [hdT]
  simp only [List.length_append, List.length_cons, be_length]
  omega

end Go.Proofs.YtlidhdljgnijaaaDoor

/-
  ANOTHER POINT AT A LEAF CHANGES THE SUMS OF ITS WAY UP ALONE (layer 13): pure facts.
-/
set_option linter.unusedVariables false
namespace Go.Proofs.YtlidhdljgnijaaaDoor
open Go.RowKit

end Go.Proofs.YtlidhdljgnijaaaDoor

/-
  A MEMBER'S LEAF HAS ITS POINT'S SUM (layer 13): pure facts.
-/
set_option linter.unusedVariables false
namespace Go.Proofs.YtlidhdljgnijaaaDoor
open Go.RowKit

def leafN (kind : Int) (ids : List Int) (ll : List (List Int)) (j : Nat) : Nat := (pathI kind ids ll (ids.getD j 0)).getD 0 0
theorem leaf_sum {ids : List Int} {L : List RN} {ps : List UInt8} {k : Nat} {x : RN} (hx : L[k]? = some x) (h0 : x.lev = 0) : ∀ j, j ≤ L.length → k < j → keyI (sumsJ L ids ps j) k = sumU (txs [leafTag, be 4 (ids.getD x.at_ 0).toNat, keyI ps k])
  | 0, _, h => absurd h (by omega)
  | j + 1, hj, h => by
    have hy := List.getElem?_eq_getElem (show j < L.length by omega)
    rw [sumsJ_succ hy]
    have h1 := sumsJ_len L ids ps j (by omega)
    rcases Nat.lt_or_ge k j with h2 | h2
    · rw [keyI_app_lt h1 h2]
      exact leaf_sum hx h0 j (by omega) h2
    · obtain rfl : k = j := by omega
      rw [keyI_app_eq h1 (sumU_len _)]
      rw [hx] at hy
      have e := Option.some.inj hy
      rw [← e, partsN, if_pos h0]
theorem leaf_node {kind : Int} {ids : List Int} {ll : List (List Int)} {np : Nat} {ps : List UInt8} (hok : okG kind ids ll np ps = true) {j : Nat} (hj : j < ids.length) :
    leafN kind ids ll j < np ∧ ids.getD j 0 ∈ ids ∧ ∃ x, (nodesG kind ids ll)[leafN kind ids ll j]? = some x ∧ x.lev = 0 ∧ x.at_ = j := by
  have hm := okG_may hok
  have h0 : 0 < ids.length := by omega
  have hT := top_facts hm h0
  obtain ⟨en, hn⟩ := nodesG_nf hm
  have hg : ids.getD j 0 = ids[j] := by simp [List.getD, hj]
  obtain ⟨hi, hb⟩ := bel_get hn.rise hj
  obtain ⟨hpa, hpl⟩ := path_top hT hm hi
  have hW := way_top hT hpl
  have hL : nodesG kind ids ll = (treeOf kind (lvN ll) (lvN ll).length 0).flat 0 (-1) := by rw [nodesG, nodesU, if_neg (by omega)]
  rw [← hL, ← hpa, hb] at hW
  obtain ⟨_, _, hnl⟩ := okG_facts hok
  rw [en, List.length_map] at hnl
  obtain ⟨a, t, x, eP, hx, hx0, hxa, _, _⟩ := hW.first
  have hget : leafN kind ids ll j = a := by rw [leafN, hg, eP]; rfl
  rw [hget]
  exact ⟨by rw [← hnl]; exact (List.getElem?_eq_some_iff.1 hx).1, by rw [hg]; exact List.getElem_mem hj, x, hx, hx0, hxa⟩
theorem leaf_fact {kind : Int} {ids : List Int} {ll : List (List Int)} {np : Nat} {ps : List UInt8} (hok : okG kind ids ll np ps = true) {j : Nat} (hj : j < ids.length) :
    leafN kind ids ll j < np ∧ leafE kind ids ll np ps (ids.getD j 0) = 0 ∧ leafG kind ids ll np ps (ids.getD j 0) = ((leafN kind ids ll j : Nat) : Int) ∧ keyI (sumsT kind ids ll ps np) (leafN kind ids ll j) = sumU (txs [leafTag, be 4 (ids.getD j 0).toNat, keyI ps (leafN kind ids ll j)]) := by
  obtain ⟨h1, h2, x, hx, hx0, hxa⟩ := leaf_node hok hj
  refine ⟨h1, by rw [leafE, if_pos hok, if_pos h2], by rw [leafG, if_pos ⟨hok, h2⟩]; rfl, ?_⟩
  obtain ⟨_, _, hnl⟩ := okG_facts hok
  rw [(nodesG_nf (okG_may hok)).1, List.length_map] at hnl
  rw [sumsT, leaf_sum hx hx0 np (by omega) h1, hxa]
theorem leaf_lt {kind : Int} {ids : List Int} {ll : List (List Int)} {np : Nat} {ps : List UInt8} (hok : okG kind ids ll np ps = true) {i j : Nat} (hij : i < j) (hj : j < ids.length) : leafN kind ids ll i < leafN kind ids ll j := by
  obtain ⟨_, _, x, hx, hx0, hxa⟩ := leaf_node hok hj
  obtain ⟨_, _, y, hy, hy0, hya⟩ := leaf_node hok (show i < ids.length by omega)
  have hn := (nodesG_nf (okG_may hok)).2.leafs
  rcases Nat.lt_trichotomy (leafN kind ids ll i) (leafN kind ids ll j) with h | h | h
  · exact h
  · rw [h, hx] at hy
    have e := Option.some.inj hy
    rw [e] at hxa
    omega
  · exfalso
    obtain ⟨l1, e1⟩ := List.getElem?_eq_some_iff.1 hx
    obtain ⟨l2, e2⟩ := List.getElem?_eq_some_iff.1 hy
    have := List.pairwise_iff_getElem.1 hn _ _ l1 l2 h
    rw [e1, e2] at this
    have := this hx0 hy0
    omega
theorem leaf_no {kind : Int} {ids : List Int} {ll : List (List Int)} {np : Nat} {ps : List UInt8} (hok : okG kind ids ll np ps = true) : leafE kind ids ll np ps (-1) = 6 := by
  rw [leafE, if_pos hok, if_neg]
  intro h
  have := ((fit_of (okG_may hok)).i.2 (-1) h).1
  omega

end Go.Proofs.YtlidhdljgnijaaaDoor

/-
  THE WALK of coterielaw13.TagLeaves over what the program's functions are asked to do.
-/
set_option linter.unusedVariables false
namespace Go.Proofs.YtlidhdljgnijaaaDoor
open Go.RowKit


theorem cell_freeze (w : World) (p : Addr) (n : Nat) (a : Addr) : (w.freeze p n).cell? a = w.cell? a := by
  unfold World.freeze
  split
  · rfl
  · unfold World.cell?
    by_cases h : p.block = a.block
    · rw [← h]
      simp only [Array.getElem?_modify, if_true]
      cases hw : w.heap[p.block]? with
      | none => rfl
      | some o => cases o <;> rfl
    · simp only [Array.getElem?_modify, if_neg h]
theorem size_freeze (w : World) (p : Addr) (n : Nat) : (w.freeze p n).heap.size = w.heap.size := by
  unfold World.freeze
  split
  · rfl
  · simp
theorem bel_freeze {B : Nat} {a w : World} (h : Below B a w) {p : Addr} (hp : B ≤ p.block) (n : Nat) : Below B a (w.freeze p n) := by
  have e : ∀ k, k ≠ p.block → (w.freeze p n).heap[k]? = w.heap[k]? := fun k hk => by
    unfold World.freeze
    split
    · rfl
    · simp only [Array.getElem?_modify, if_neg (Ne.symm hk)]
  refine ⟨?_, ?_, ?_, by rw [size_freeze]; exact h.size, fun k hk => (e k (by omega)).trans (h.block k hk)⟩
  · unfold World.freeze; split <;> exact h.os
  · unfold World.freeze; split <;> exact h.tape
  · unfold World.freeze; split <;> exact h.output
theorem rd_freeze {w : World} {B n : Nat} {A : Option Addr} {xs : List Value} (h : Rd w B A n xs) (hB : B ≤ w.heap.size) (p : Addr) (k : Nat) : Rd (w.freeze p k) B A n xs := ⟨h.len, fun h0 => by
  obtain ⟨b, o, e, hb, hc⟩ := h.pos h0
  exact ⟨b, o, e, hb, fun j u hu => (cell_freeze _ _ _ _).trans (hc j u hu)⟩⟩
theorem conv_at {P : Program} (w : World) (t e : TypeId) (b : Nat) (C : Array Value) (n c : Nat) (mk : Nat × Nat) (ht : P.underlying t = some (.slice e)) (he : P.underlying e = some (.int .u8)) (hb : w.heap[b]? = some (.cells C e mk)) :
    (convert t t (.slice (some ⟨b, 0, none⟩) n c)).run P w = .ok (.slice (some ⟨b, 0, none⟩) n c) (w.freeze ⟨b, C.size, none⟩ 1) := by
  have hsh : w.shape? b = some (e, C.size) := by
    unfold World.shape?
    rw [hb]
  simp [convert, run_underlying ht, run_underlying he, markStringish, hsh]

theorem txs_consU {w : World} {B : Nat} {A : Option Addr} {n c : Nat} {t : List UInt8} {vs : List Value} {ts : List (List UInt8)} (ht : t.length = n) (hc : n ≤ c) (hr : Rd w B A n (t.map bv)) (h : Txs w B vs ts) : Txs w B (.slice A n c :: vs) (t :: ts) := by
  subst ht
  exact (Txs.one hr hc).append h

set_option maxRecDepth 100000 in
set_option maxHeartbeats 16000000 in
theorem walkH_TagLeaves (hC : HGC) (hS : HGS) (hU : HGU) (hL : HGL) (hW : HGW) (hR : HGR) (kind : Int) (Ai : Option Addr) (ni ci : Nat) (Al : Option Addr) (nl cl : Nat) (ids : List Int) (ll : List (List Int)) (Ap : Option Addr) (np cp : Nat) (ps : List UInt8) (w : World)
    (h : TgR w w.heap.size Ai ni ci Al nl cl ids ll Ap np cp ps) (hT : CTab w) :
    Calls Tryd.prog 6 #[.agg (tgV kind Ai ni ci Al nl cl Ap np cp)] w fun e w' => e = .returned (.bool true) ∧ Below w.heap.size w w' := by
  have hM0 := (Ms.nil w).box 28 (tgV kind Ai ni ci Al nl cl Ap np cp)
  go_enter Tryd.func6, Tryd.ntmps6
  go_upto_region 1 with fail
  try simp only [Act.put]
  obtain ⟨g, hg⟩ : ∃ g, g = w.heap.size := ⟨_, rfl⟩
  rw [← hg] at hM0 ⊢
  refine wp_gen (fun wx => Ms w wx [(g, 28, (tgV kind Ai ni ci Al nl cl Ap np cp))]) hM0 ?_
  have Hg := Lib.hid hg
  clear hM0 hg
  rintro w0 hM0
  go_wp2_with fail
  refine (live13 hC hS hU _ (hT.below hM0.old)).mono ?_
  rintro e w1 ⟨he, hb1⟩
  subst he
  have hM1 := hM0.call hb1
  clear hM0 hb1
  have hr1 := hM1.get 0 rfl
  have hf1 := RFew13 kind Ai ni ci Al nl cl ids ll Ap np cp ps w1 ((h.below hM1.old).more hM1.old.size)
  go_wp2_with ((with_reducible show wpList _ _ _ (⟨some 24, _, _, _, _, _⟩ :: _) _ _); refine wpList_loadC (by kernel_rfl) 28 (.tmp 1) rfl g rfl 28 (tgV kind Ai ni ci Al nl cl Ap np cp) _ hr1 Tryd.underlying28 rfl tgInfo2 ?_)
  refine hf1.mono ?_
  rintro e w2 ⟨he, hb2⟩
  subst he
  have hM2 := hM1.call hb2
  clear hM1 hb2 hr1 hf1
  by_cases hfw : fewG ids ll np = true
  rotate_left
  · rw [Bool.eq_false_iff.2 hfw]
    have hold := hM2.old
    clear hM2
    go_wp2_with fail
    go_ret
    exact ⟨rfl, hold⟩
  rw [hfw]
  rw [fewG, Bool.and_eq_true, Bool.and_eq_true, decide_eq_true_eq, decide_eq_true_eq] at hfw
  obtain ⟨hf, hni, hnp⟩ := hfw
  have HB := Lib.hid (fun wx (hb : Below w.heap.size w wx) => (h.below hb).more hb.size)
  have hlps := h.pts.len
  have hnic := h.sh.hni
  have Hids := Lib.hid (show Rd w w.heap.size Ai ni (ids.map iv) from h.sh.hids)
  have Hpts := Lib.hid h.pts
  clear h
  have hs4 := hS kind Ai ni ci Al nl cl ids ll Ap np cp ps w2 (HB.out w2 hM2.old) hf (hT.below hM2.old)
  have hr2 := hM2.get 0 rfl
  go_wp2_with ((with_reducible show wpList _ _ _ (⟨some 29, _, _, _, _, _⟩ :: _) _ _); refine wpList_loadC (by kernel_rfl) 28 (.tmp 1) rfl g rfl 28 (tgV kind Ai ni ci Al nl cl Ap np cp) _ hr2 Tryd.underlying28 rfl tgInfo2 ?_)
  refine hs4.mono ?_
  rintro e w3 ⟨hb3, ⟨hno, he⟩ | ⟨hok, Aa, ca, he, howna⟩⟩
  · subst he
    have hM3 := hM2.call hb3
    have hlf := hL kind Ai ni ci Al nl cl ids ll Ap np cp ps 0 w3 (HB.out w3 hM3.old) hf
    rw [show leafE kind ids ll np ps 0 = 1 by rw [leafE, if_neg (by rw [hno]; simp)]] at hlf
    have hr3 := hM3.get 0 rfl
    clear hs4 hr2 hM2 hb3
    go_wp2_with ((with_reducible show wpList _ _ _ (⟨some 36, _, _, _, _, _⟩ :: _) _ _); refine wpList_loadC (by kernel_rfl) 28 (.tmp 1) rfl g rfl 28 (tgV kind Ai ni ci Al nl cl Ap np cp) _ hr3 Tryd.underlying28 rfl tgInfo2 ?_)
    refine hlf.mono ?_
    rintro e w4 ⟨he, hb4⟩
    subst he
    have hfin := c_call hM3.old hb4
    clear hlf hM3 hr3 hb4
    go_wp2_with fail
    go_ret
    exact ⟨rfl, hfin⟩
  subst he
  have hM3 := hM2.call hb3
  have hka := KyR.of_own howna
  have Hok := Lib.hid hok
  clear hs4 hr2 hM2 hb3 howna
  have hck := PCheck_any Ai ni ci Al nl cl ids ll w3 (HB.out w3 hM3.old).sh (few_million hf) (by omega)
  rw [show chkE ids ll = 0 by
    have h1 := okG_may Hok.out
    rw [mayB, Bool.and_eq_true] at h1
    rw [chkE, if_pos h1.2]] at hck
  have hr3 := tg_sh (hM3.get 0 rfl)
  go_wp2_with ((with_reducible show wpList _ _ _ (⟨some 46, _, _, _, _, _⟩ :: _) _ _); refine wpList_load_midG (by kernel_rfl) 25 (.tmp 45) rfl g 1 rfl (shV Ai ni ci Al nl cl).toList _ hr3 Tryd.underlying25 rfl shapeInfo2 ?_)
  refine hck.mono ?_
  rintro e w4 ⟨he, hb4⟩
  subst he
  have hM4 := hM3.call hb4
  have hka4 := (hka.below hb4).more hb4.size
  have c3 := (hM4.get 0 rfl).cell (i := 3) (v := .slice Ap np cp) rfl
  have c1 := (hM4.get 0 rfl).cell (i := 1) (v := .slice Ai ni ci) rfl
  have Hka := Lib.hid hka4
  have HM4 := Lib.hid hM4
  clear hck hr3 hM3 hb4 hka hok hka4 hM4
  go_upto_region 10 with fail
  go_wp2_with fail
  go_loopw [8, 61] (fun v8 v61 wr => ∃ (k : Nat), k ≤ ni ∧ v61 = .int .i64 (k : Int) ∧ v8 = .int .i64 (if k = 0 then -1 else ((leafN kind ids ll (k - 1) : Nat) : Int)) ∧ Below w4.heap.size w4 wr) (fun _ v61 _ => ni - (intOf v61).toNat)
  case atStart => exact ⟨0, by omega, rfl, rfl, Below.refl _ _⟩
  case round =>
    obtain ⟨k, hk, rfl, rfl, hb⟩ := hrel
    clear c3 c1
    have hMr := HM4.out.call hb
    by_cases hkn : k < ni
    · have hkl : k < ids.length := by omega
      obtain ⟨f1, f2, f3, f4⟩ := leaf_fact Hok.out hkl
      have hlst : ¬ ((leafN kind ids ll k : Nat) : Int) ≤ (if k = 0 then -1 else ((leafN kind ids ll (k - 1) : Nat) : Int)) := by
        split
        · omega
        · have := leaf_lt Hok.out (show k - 1 < k by omega) hkl
          omega
      have Hlast := Lib.hid (show ((leafN kind ids ll k : Nat) : Int) = (if k + 1 = 0 then -1 else ((leafN kind ids ll (k + 1 - 1) : Nat) : Int)) by rw [if_neg (by omega), Nat.add_sub_cancel])
      obtain ⟨bi, oi, y, rfl, hbi, hy, hcy⟩ := rdI_num Hids.out (k := k) (by omega)
      have hgd : ids.getD k 0 = y := by rw [List.getD, hy]; rfl
      have hy0 := (fit_of (okG_may Hok.out)).i.2 y (List.mem_of_getElem? hy)
      obtain ⟨m, rfl⟩ : ∃ m : Nat, y = (m : Int) := ⟨y.toNat, by omega⟩
      rw [hgd] at f2 f3 f4
      rw [Int.toNat_natCast] at f4
      have Hsum := Lib.hid f4
      generalize leafN kind ids ll k = i at *
      generalize (if k = 0 then (-1 : Int) else ((leafN kind ids ll (k - 1) : Nat) : Int)) = lst at *
      have cy : wr.cell? ⟨bi, oi + k, none⟩ = some (.int .i64 (m : Int)) := (hMr.old.cell (p := ⟨bi, oi + k, none⟩) hbi).trans hcy
      have hlf := hL kind (some ⟨bi, oi, none⟩) ni ci Al nl cl ids ll Ap np cp ps (m : Int) wr (HB.out wr hMr.old) hf
      rw [f2, f3] at hlf
      have hrr := hMr.get 0 rfl
      have zk : (k : Int) < (ni : Int) := by omega
      have zk0 : (0 : Int) ≤ (k : Int) := by omega
      have zi : ¬ (np : Int) ≤ (i : Int) := by omega
      have Hb := Lib.hid hb
      clear f2 f3 f4 hgd hcy hy hb hkl
      go_wp2_with ((with_reducible show wpList _ _ _ (⟨some 66, _, _, _, _, _⟩ :: _) _ _); refine wpList_loadC (by kernel_rfl) 28 (.tmp 1) rfl g rfl 28 (tgV kind (some ⟨bi, oi, none⟩) ni ci Al nl cl Ap np cp) _ hrr Tryd.underlying28 rfl tgInfo2 ?_)
      refine hlf.mono ?_
      rintro e w5 ⟨he, hb5⟩
      subst he
      have hM5 := hMr.call hb5
      obtain ⟨bp, op, hAp, hbp, hrp⟩ := ((Hpts.out.below hM5.old).more hM5.old.size).range f1
      subst hAp
      obtain ⟨ba, oa, hAa, hba, hra⟩ := Hka.out.range f1
      subst hAa
      have c35 := (hM5.get 0 rfl).cell (i := 3) (v := .slice (some ⟨bp, op, none⟩) np cp) rfl
      have hkyl : (keyI ps i).length = 32 := keyI_len hlps f1
      have Hky := Lib.hid (show keyI ps i = keyI ps i from rfl)
      generalize hkyd : keyI ps i = ky at *
      have hput := hM5.put 36 #[.int .u8 0, .int .u8 0, .int .u8 0, .int .u8 0, .int .u8 0, .int .u8 0, .int .u8 0, .int .u8 0, .int .u8 0, .int .u8 0, .int .u8 0, .int .u8 0, .int .u8 0, .int .u8 0, .int .u8 0, .int .u8 0, .int .u8 0, .int .u8 0, .int .u8 0, .int .u8 0, .int .u8 0, .int .u8 0, .int .u8 0, .int .u8 0, .int .u8 0, .int .u8 0, .int .u8 0, .int .u8 0, .int .u8 0, .int .u8 0, .int .u8 0, .int .u8 0] (keyC ky)
      rw [Hsum.out] at hra
      obtain ⟨s, hs⟩ : ∃ s, s = sumU (txs [leafTag, be 4 m, ky]) := ⟨_, rfl⟩
      rw [← hs] at hra
      have hsl : s.length = 32 := by rw [hs]; exact sumU_len _
      have Hs := Lib.hid hs
      have hskS := sizeKeyL hsl
      have hq := fun wx : World => neq_keyK wx s s hsl hsl
      simp only [beq_self_eq_true, Bool.not_true] at hq
      have hkeepS : ∀ wx : World, Below w4.heap.size w4 wx → wx.rangeAt ba (oa + i * 32) (keyC s).toList := fun wx hbx => rangeW hra hba hbx
      clear hs hra
      have hsa := sizeKey hkyl
      have hone := one_keyF ky
      have z7 : (i : Int) < (np : Int) := by omega
      have z8 : (0 : Int) ≤ (i : Int) := by omega
      have Hb5 := Lib.hid (c_call Hb.out hb5)
      clear hlf hrr hMr hb5 cy
      go_upto_region 18 with fail
      have hsk := sizeKeyL hkyl
      obtain ⟨gp, hgp⟩ : ∃ gp, gp = w5.heap.size := ⟨_, rfl⟩
      go_upto_region 19 with (first
        | ((with_reducible show wpList _ _ _ (⟨some 89, _, _, _, _, _⟩ :: _) _ _); refine wpList_load_midG (by kernel_rfl) 36 (.tmp 88) rfl bp (op + i * 32) rfl (keyC ky).toList _ hrp Tryd.underlying36 rfl hsk ?_)
        | ((with_reducible show wpList _ _ _ (⟨none, Op.store 36 _ _, _, _, _, _⟩ :: _) _ _); refine wpList_store_row rfl 36 (.tmp 13) (.tmp 89) rfl w5.heap.size (keyC ky) rfl rfl 36 _ (RowC.new _ _ _) hsa (by rw [keyC_size, hkyl]; rfl) hone ?_))
      try simp only [Act.put]
      rw [← hgp] at hput ⊢
      refine wp_gen (fun wx => Ms w wx [(gp, 36, keyC ky), (g, 28, (tgV kind (some ⟨bi, oi, none⟩) ni ci Al nl cl (some ⟨bp, op, none⟩) np cp))] ∧ Below w5.heap.size w5 wx) ⟨hput, below_setRow (d_al w5 (.cells #[.int .u8 0, .int .u8 0, .int .u8 0, .int .u8 0, .int .u8 0, .int .u8 0, .int .u8 0, .int .u8 0, .int .u8 0, .int .u8 0, .int .u8 0, .int .u8 0, .int .u8 0, .int .u8 0, .int .u8 0, .int .u8 0, .int .u8 0, .int .u8 0, .int .u8 0, .int .u8 0, .int .u8 0, .int .u8 0, .int .u8 0, .int .u8 0, .int .u8 0, .int .u8 0, .int .u8 0, .int .u8 0, .int .u8 0, .int .u8 0, .int .u8 0, .int .u8 0] 36)) (Nat.le_of_eq hgp.symm) (keyC ky)⟩ ?_
      have hws5 := hM5.old.size
      clear hput hgp hM5 c35
      rintro w6 ⟨hM6, hb6⟩
      have hsz56 := hb6.size
      have zm : IntKind.u64.wrap (m : Int) = (m : Int) := by rw [IntKind.wrap_u64]; omega
      refine beginT (fun _ => True) 13 (by kernel_rfl) ?_
      have hS : True := trivial
      refine takeD 2 (some 93) (.int .i64 (m : Int)) rfl rfl (by kernel_rfl) (by kernel_rfl) (by kernel_rfl) (by kernel_rfl) (fun _ _ _ h => h) (Or.inl ⟨by kernel_rfl, fun wx hSw => by go_simp⟩) hS ?_
      try simp only [Act.put, List.setIfInBounds_toArray, List.set_cons_zero, List.set_cons_succ]
      refine takeD 3 (some 94) (.int .u64 (m : Int)) rfl rfl (by kernel_rfl) (by kernel_rfl) (by kernel_rfl) (by kernel_rfl) (fun _ _ _ h => h) (Or.inl ⟨by kernel_rfl, fun wx hSw => by go_simp⟩) hS ?_
      try simp only [Act.put, List.setIfInBounds_toArray, List.set_cons_zero, List.set_cons_succ]
      refine takeD 5 (some 96) (.slice (some ⟨gp, 0, none⟩) 32 32) rfl rfl (by kernel_rfl) (by kernel_rfl) (by kernel_rfl) (by kernel_rfl) (fun _ _ _ h => h) (Or.inl ⟨by kernel_rfl, fun wx hSw => by go_simp⟩) hS ?_
      try simp only [Act.put, List.setIfInBounds_toArray, List.set_cons_zero, List.set_cons_succ]
      have hdr6 := c_drew (c_refl w6)
      generalize w6.drew = x0 at *
      have hgl := txs_le32 [leafTag, be 4 m, ky] (fun t ht => by simp only [List.mem_cons, List.not_mem_nil, or_false] at ht; rcases ht with rfl | rfl | rfl <;> first | decide | (rw [be_length]; omega) | omega)
      have htl34 := hgl.1
      have hbx0 : Below w6.heap.size w6 x0 := hdr6
      have Hgood := Lib.hid (txs_le32 [leafTag, be 4 m, ky] (fun t ht => by simp only [List.mem_cons, List.not_mem_nil, or_false] at ht; rcases ht with rfl | rfl | rfl <;> first | decide | (rw [be_length]; omega) | omega)).2
      refine readyT [0, 4] (by kernel_rfl) (by simp) (AllReadyT.cons rfl (fun K2 hK2 => ?_) (AllReadyT.cons rfl (fun K2 hK2 => ?_) AllReadyT.nil))
      · go_simp
        obtain ⟨q, hq⟩ : ∃ q, q = x0.heap.size := ⟨_, rfl⟩
        have hbx1 : Below w6.heap.size w6 (x0.alloc (.cells #[.int .u8 108, .int .u8 101, .int .u8 97, .int .u8 102] 5)) := hbx0.trans ((d_al x0 (.cells #[.int .u8 108, .int .u8 101, .int .u8 97, .int .u8 102] 5)).mono hbx0.size)
        have hq6 : w6.heap.size ≤ q := by rw [hq]; exact hbx0.size
        have hqr : (x0.alloc (.cells #[.int .u8 108, .int .u8 101, .int .u8 97, .int .u8 102] 5)).heap[q]? = some (.cells #[.int .u8 108, .int .u8 101, .int .u8 97, .int .u8 102] 5 (0, 0)) := by rw [hq]; exact heap_alloc_new x0 _
        have hqz : q < (x0.alloc (.cells #[.int .u8 108, .int .u8 101, .int .u8 97, .int .u8 102] 5)).heap.size := by rw [World.size_alloc, hq]; omega
        refine hK2.out _ _ (fun _ => hS) ?_
        clear hK2 K2
        try simp only [Act.put, List.setIfInBounds_toArray, List.set_cons_zero, List.set_cons_succ]
        rw [← hq]
        generalize x0.alloc (.cells #[.int .u8 108, .int .u8 101, .int .u8 97, .int .u8 102] 5) = x1 at *
        clear hq
        have hx1L := hqz
        refine readyT [1, 4] (by kernel_rfl) (by simp) (AllReadyT.cons rfl (fun K2 hK2 => ?_) (AllReadyT.cons rfl (fun K2 hK2 => ?_) AllReadyT.nil))
        · have hLz : Rd x1 x1.heap.size (some ⟨q, 0, none⟩) 4 (leafTag.map bv) := ⟨rfl, fun _ => ⟨q, 0, rfl, hqz, fun j u hu => by rw [Nat.zero_add, cell_of_row _ q j _ _ _ hqr, ← Array.getElem?_toList]; exact hu⟩⟩
          have hcv := conv_at (P := Tryd.prog) x1 41 5 q #[.int .u8 108, .int .u8 101, .int .u8 97, .int .u8 102] 4 4 (0, 0) Tryd.underlying41 Tryd.underlying5 hqr
          go_simp
          have hbx2 := bel_freeze hbx1 (p := ⟨q, 4, none⟩) hq6 1
          have hLy := rd_freeze hLz (Nat.le_refl _) ⟨q, 4, none⟩ 1
          rw [← size_freeze x1 ⟨q, 4, none⟩ 1] at hLy
          refine hK2.out _ _ (fun _ => hS) ?_
          clear hK2 K2
          try simp only [Act.put, List.setIfInBounds_toArray, List.set_cons_zero, List.set_cons_succ]
          clear hLz hcv hqr
          have hqz2 := hqz
          rw [← size_freeze x1 ⟨q, 4, none⟩ 1] at hqz2
          generalize x1.freeze ⟨q, 4, none⟩ 1 = x2 at *
          refine oneT 4 (by kernel_rfl) rfl (fun K2 hK2 => ?_)
          go_simp
          refine (Bytes_any 4 m x2 (by omega) (by omega)).mono ?_
          rintro e wz ⟨A3, c3, rfl, hown3, hbel3⟩
          have hbwz := hbx2.trans (hbel3.mono hbx2.size)
          obtain ⟨c31, c32⟩ : 4 ≤ c3 ∧ c3 ≤ maxLen := by
            obtain ⟨Ao, co, ea, h1, h2⟩ := own_formT hown3
            injection ea with e1 e2 e3
            subst e3
            exact ⟨h1, h2⟩
          refine hK2.out _ _ (fun _ => hS) ?_
          clear hK2 K2
          try simp only [Act.put, List.setIfInBounds_toArray, List.set_cons_zero, List.set_cons_succ]
          have hBz := Rd.of_own hown3
          have hLy := (hLy.below hbel3).more hbel3.size
          have hbz := hbwz
          clear hown3 hbel3 hbwz hbx2 hbx1 hx1L
          have hLw := hLy
          have hMz := hM6.call hbz
          have hrk := (hMz.get 0 rfl)
          have hrkR : Rd wz wz.heap.size (some ⟨gp, 0, none⟩) 32 (ky.map bv) := hrk.rdK hkyl
          have hal := d_al wz (.cells #[.slice (some ⟨q, 0, none⟩) 4 4, .slice A3 4 c3, .slice (some ⟨gp, 0, none⟩) 32 32] 41)
          have hzv : (wz.alloc (.cells #[.slice (some ⟨q, 0, none⟩) 4 4, .slice A3 4 c3, .slice (some ⟨gp, 0, none⟩) 32 32] 41)).heap.size = wz.heap.size + 1 := by simp
          have htx : Txs (wz.alloc (.cells #[.slice (some ⟨q, 0, none⟩) 4 4, .slice A3 4 c3, .slice (some ⟨gp, 0, none⟩) 32 32] 41)) (wz.heap.size + 1) [.slice (some ⟨q, 0, none⟩) 4 4, .slice A3 4 c3, .slice (some ⟨gp, 0, none⟩) 32 32] [leafTag, be 4 m, ky] := txs_consU rfl (by omega) ((hLw.below hal).more (by omega)) (txs_consU (be_length _ _) c31 ((hBz.below hal).more (by omega)) (txs_consU hkyl (by omega) ((hrkR.below hal).more (by omega)) (Txs.nil _ _)))
          have hrv : Rd (wz.alloc (.cells #[.slice (some ⟨q, 0, none⟩) 4 4, .slice A3 4 c3, .slice (some ⟨gp, 0, none⟩) 32 32] 41)) (wz.heap.size + 1) (some ⟨wz.heap.size, 0, none⟩) 3 [.slice (some ⟨q, 0, none⟩) 4 4, .slice A3 4 c3, .slice (some ⟨gp, 0, none⟩) 32 32] := Rd.mk_ _ _ _ rfl (by omega) rfl rfl
          have hbv := hbz.trans (hal.mono hbz.size)
          refine oneT 6 (by kernel_rfl) rfl (fun K2 hK2 => ?_)
          go_simp
          refine hK2.out _ _ (fun _ => hS) ?_
          clear hK2 K2
          try simp only [Act.put, List.setIfInBounds_toArray, List.set_cons_zero, List.set_cons_succ]
          have htext := refText_any none 0 0 [] (some ⟨wz.heap.size, 0, none⟩) 3 3 _ [leafTag, be 4 m, ky] (wz.alloc (.cells #[.slice (some ⟨q, 0, none⟩) 4 4, .slice A3 4 c3, .slice (some ⟨gp, 0, none⟩) 32 32] 41)) (by omega) (by omega) (Rd.zero _ _ _) (by rw [hzv]; exact hrv) (by rw [hzv]; exact htx)
          clear hMz hrk hrkR hal htx hrv hLw hLy hBz hqz hqz2 hzv hq6 c31 c32
          generalize wz.alloc (.cells #[.slice (some ⟨q, 0, none⟩) 4 4, .slice A3 4 c3, .slice (some ⟨gp, 0, none⟩) 32 32] 41) = wv at *
          refine oneT 7 (by kernel_rfl) rfl (fun K2 hK2 => ?_)
          go_simp
          refine htext.mono ?_
          intro e wE hp
          obtain ⟨At, nt, ct, he, hot2, hntc, Hnt, hbt⟩ := hp.yes Hgood.out
          subst he
          obtain rfl : nt = (txs [leafTag, be 4 m, ky]).length := by simpa using Hnt.out
          have hbE := hbv.trans (hbt.mono hbv.size)
          refine hK2.out _ _ (fun _ => hS) ?_
          clear hK2 K2
          try simp only [Act.put, List.setIfInBounds_toArray, List.set_cons_zero, List.set_cons_succ]
          refine takeD 8 (some 90) (.tuple #[.slice At (txs [leafTag, be 4 m, ky]).length ct, .int .i64 0]) rfl rfl (by kernel_rfl) (by kernel_rfl) (by kernel_rfl) (by kernel_rfl) (fun _ _ _ h => h) (Or.inl ⟨by kernel_rfl, fun wx hSw => by go_simp⟩) hS ?_
          try simp only [Act.put, List.setIfInBounds_toArray, List.set_cons_zero, List.set_cons_succ]
          refine takeD 9 (some 99) (.slice At (txs [leafTag, be 4 m, ky]).length ct) rfl rfl (by kernel_rfl) (by kernel_rfl) (by kernel_rfl) (by kernel_rfl) (fun _ _ _ h => h) (Or.inl ⟨by kernel_rfl, fun wx hSw => by go_simp⟩) hS ?_
          try simp only [Act.put, List.setIfInBounds_toArray, List.set_cons_zero, List.set_cons_succ]
          refine takeD 10 (some 100) (.int .i64 0) rfl rfl (by kernel_rfl) (by kernel_rfl) (by kernel_rfl) (by kernel_rfl) (fun _ _ _ h => h) (Or.inl ⟨by kernel_rfl, fun wx hSw => by go_simp⟩) hS ?_
          try simp only [Act.put, List.setIfInBounds_toArray, List.set_cons_zero, List.set_cons_succ]
          refine takeD 11 (some 14) (.slice At (txs [leafTag, be 4 m, ky]).length ct) rfl rfl (by kernel_rfl) (by kernel_rfl) (by kernel_rfl) (by kernel_rfl) (fun _ _ _ h => h) (Or.inl ⟨by kernel_rfl, fun wx hSw => by go_simp⟩) hS ?_
          try simp only [Act.put, List.setIfInBounds_toArray, List.set_cons_zero, List.set_cons_succ]
          refine takeD 12 (some 15) (.int .i64 0) rfl rfl (by kernel_rfl) (by kernel_rfl) (by kernel_rfl) (by kernel_rfl) (fun _ _ _ h => h) (Or.inl ⟨by kernel_rfl, fun wx hSw => by go_simp⟩) hS ?_
          try simp only [Act.put, List.setIfInBounds_toArray, List.set_cons_zero, List.set_cons_succ]
          refine doneT (by kernel_rfl) ?_ _
          have hr20 := Rd.of_own hot2
          have hb4E := c_call (c_call Hb5.out hb6) hbE
          clear htext hot2 hbt hp Hnt hbv
          go_upto_region 20 with fail
          try simp only [Act.put]
          refine beginT (fun wx : World => wx.rangeAt ba (oa + i * 32) (keyC s).toList) 12 (by kernel_rfl) ?_
          have hdrE := c_drew hb4E
          have hS0 := hkeepS _ hdrE
          refine takeD 0 (some 101) (.int .i64 0) rfl rfl (by kernel_rfl) (by kernel_rfl) (by kernel_rfl) (by kernel_rfl) (fun _ _ _ h => h) (Or.inl ⟨by kernel_rfl, fun wx hSw => by go_simp⟩) hS0 ?_
          try simp only [Act.put, List.setIfInBounds_toArray, List.set_cons_zero, List.set_cons_succ]
          refine takeD 1 (some 102) (.bool false) rfl rfl (by kernel_rfl) (by kernel_rfl) (by kernel_rfl) (by kernel_rfl) (fun _ _ _ h => h) (Or.inl ⟨by kernel_rfl, fun wx hSw => by go_simp⟩) hS0 ?_
          try simp only [Act.put, List.setIfInBounds_toArray, List.set_cons_zero, List.set_cons_succ]
          refine takeD 2 (some 103) (.bool false) rfl rfl (by kernel_rfl) (by kernel_rfl) (by kernel_rfl) (by kernel_rfl) (fun _ _ _ h => h) (Or.inl ⟨by kernel_rfl, fun wx hSw => by go_simp⟩) hS0 ?_
          try simp only [Act.put, List.setIfInBounds_toArray, List.set_cons_zero, List.set_cons_succ]
          refine takeD 3 (some 104) (.slice (some ⟨ba, oa, none⟩) np ca) rfl rfl (by kernel_rfl) (by kernel_rfl) (by kernel_rfl) (by kernel_rfl) (fun _ _ _ h => h) (Or.inl ⟨by kernel_rfl, fun wx hSw => by go_simp⟩) hS0 ?_
          try simp only [Act.put, List.setIfInBounds_toArray, List.set_cons_zero, List.set_cons_succ]
          refine takeD 4 (some 105) (.int .i64 (i : Int)) rfl rfl (by kernel_rfl) (by kernel_rfl) (by kernel_rfl) (by kernel_rfl) (fun _ _ _ h => h) (Or.inl ⟨by kernel_rfl, fun wx hSw => by go_simp⟩) hS0 ?_
          try simp only [Act.put, List.setIfInBounds_toArray, List.set_cons_zero, List.set_cons_succ]
          refine takeD 5 (some 106) (.pointer (some ⟨ba, oa + i * 32, none⟩)) rfl rfl (by kernel_rfl) (by kernel_rfl) (by kernel_rfl) (by kernel_rfl) (fun _ _ _ h => h) (Or.inl ⟨by kernel_rfl, fun wx hSw => by go_simp⟩) hS0 ?_
          try simp only [Act.put, List.setIfInBounds_toArray, List.set_cons_zero, List.set_cons_succ]
          refine loadT 6 (some 107) 36 (.tmp 106) ba (oa + i * 32) (keyC s).toList rfl rfl (by kernel_rfl) (by kernel_rfl) (by kernel_rfl) (by kernel_rfl) rfl (by kernel_rfl) rfl (fun wx hSw => hSw) Tryd.underlying36 rfl hskS (fun _ _ _ h => h) hS0 ?_
          try simp only [Act.put, List.setIfInBounds_toArray, List.set_cons_zero, List.set_cons_succ, Array.toArray_toList]
          refine takeD 7 (some 108) (.slice At (txs [leafTag, be 4 m, ky]).length ct) rfl rfl (by kernel_rfl) (by kernel_rfl) (by kernel_rfl) (by kernel_rfl) (fun _ _ _ h => h) (Or.inl ⟨by kernel_rfl, fun wx hSw => by go_simp⟩) hS0 ?_
          try simp only [Act.put, List.setIfInBounds_toArray, List.set_cons_zero, List.set_cons_succ]
          have hr21 : Rd wE.drew wE.drew.heap.size At (txs [leafTag, be 4 m, ky]).length ((txs [leafTag, be 4 m, ky]).map bv) := by simpa using hr20.drew
          generalize wE.drew = y0 at *
          have haly := d_al y0 (.cells #[.slice At (txs [leafTag, be 4 m, ky]).length ct] 41)
          have hb4y := c_call hdrE haly
          have hzy : (y0.alloc (.cells #[.slice At (txs [leafTag, be 4 m, ky]).length ct] 41)).heap.size = y0.heap.size + 1 := by simp
          have htE := (Txs.one (w := y0.alloc (.cells #[.slice At (txs [leafTag, be 4 m, ky]).length ct] 41)) (B := y0.heap.size) (hr21.below haly) hntc).more (show y0.heap.size ≤ y0.heap.size + 1 by omega)
          have hrvy : Rd (y0.alloc (.cells #[.slice At (txs [leafTag, be 4 m, ky]).length ct] 41)) (y0.heap.size + 1) (some ⟨y0.heap.size, 0, none⟩) 1 [.slice At (txs [leafTag, be 4 m, ky]).length ct] := Rd.mk_ _ _ _ rfl (by omega) rfl rfl
          have hsum := pSum_any (some ⟨y0.heap.size, 0, none⟩) 1 1 [.slice At (txs [leafTag, be 4 m, ky]).length ct] [txs [leafTag, be 4 m, ky]] (y0.alloc (.cells #[.slice At (txs [leafTag, be 4 m, ky]).length ct] 41)) (by omega) (by simp; exact Nat.le_trans htl34 (by simp)) (by rw [hzy]; exact hrvy) (by rw [hzy]; exact htE) (hT.below (HM4.out.old.trans (hb4y.mono HM4.out.old.size)))
          rw [show sumU [txs [leafTag, be 4 m, ky]].flatten = s by rw [Hs.out]; simp, show (s.map bv).toArray = keyC s from rfl] at hsum
          have hS1 := hkeepS _ hb4y
          refine oneT 8 (by kernel_rfl) rfl (fun K2 hK2 => ?_)
          go_simp
          refine hK2.out _ _ (fun _ => hS1) ?_
          clear hK2 K2
          try simp only [Act.put, List.setIfInBounds_toArray, List.set_cons_zero, List.set_cons_succ]
          refine oneT 9 (by kernel_rfl) rfl (fun K2 hK2 => ?_)
          go_simp
          refine hsum.mono ?_
          rintro e y2 ⟨he, hby⟩
          subst he
          have hb4z := c_call hb4y hby
          have hS2 := hkeepS _ hb4z
          refine hK2.out _ _ (fun _ => hS2) ?_
          clear hK2 K2
          try simp only [Act.put, List.setIfInBounds_toArray, List.set_cons_zero, List.set_cons_succ]
          refine takeD 10 (some 111) (.bool false) rfl rfl (by kernel_rfl) (by kernel_rfl) (by kernel_rfl) (by kernel_rfl) (fun _ _ _ h => h) (Or.inl ⟨by kernel_rfl, fun wx hSw => by go_simp⟩) hS2 ?_
          try simp only [Act.put, List.setIfInBounds_toArray, List.set_cons_zero, List.set_cons_succ]
          refine takeD 11 (some 112) (.bool false) rfl rfl (by kernel_rfl) (by kernel_rfl) (by kernel_rfl) (by kernel_rfl) (fun _ _ _ h => h) (Or.inl ⟨by kernel_rfl, fun wx hSw => by go_simp⟩) hS2 ?_
          try simp only [Act.put, List.setIfInBounds_toArray, List.set_cons_zero, List.set_cons_succ]
          refine doneT (by kernel_rfl) ?_ _
          clear hsum hS0 hS1 hS2 hr20 hr21 haly hzy htE hrvy
          go_wp2_with fail
          go_roundw
          case rel => exact ⟨k + 1, by omega, by go_num, by rw [← Hlast.out], hb4z⟩
          case measure => simp [intOf]; omega
        · go_simp
          refine (Bytes_any 4 m x1 (by omega) (by omega)).mono ?_
          rintro e x2 ⟨A3, c3, rfl, hown3, hbel3⟩
          have hbx2 := hbx1.trans (hbel3.mono hbx1.size)
          obtain ⟨c31, c32⟩ : 4 ≤ c3 ∧ c3 ≤ maxLen := by
            obtain ⟨Ao, co, ea, h1, h2⟩ := own_formT hown3
            injection ea with e1 e2 e3
            subst e3
            exact ⟨h1, h2⟩
          refine hK2.out _ _ (fun _ => hS) ?_
          clear hK2 K2
          try simp only [Act.put, List.setIfInBounds_toArray, List.set_cons_zero, List.set_cons_succ]
          have hBq := Rd.of_own hown3
          have hqr : x2.heap[q]? = some (.cells #[.int .u8 108, .int .u8 101, .int .u8 97, .int .u8 102] 5 (0, 0)) := (hbel3.block q hqz).trans hqr
          have hqz : q < x2.heap.size := Nat.lt_of_lt_of_le hqz hbel3.size
          refine oneT 1 (by kernel_rfl) rfl (fun K2 hK2 => ?_)
          have hLz : Rd x2 x2.heap.size (some ⟨q, 0, none⟩) 4 (leafTag.map bv) := ⟨rfl, fun _ => ⟨q, 0, rfl, hqz, fun j u hu => by rw [Nat.zero_add, cell_of_row _ q j _ _ _ hqr, ← Array.getElem?_toList]; exact hu⟩⟩
          have hcv := conv_at (P := Tryd.prog) x2 41 5 q #[.int .u8 108, .int .u8 101, .int .u8 97, .int .u8 102] 4 4 (0, 0) Tryd.underlying41 Tryd.underlying5 hqr
          go_simp
          have hbwz := bel_freeze hbx2 (p := ⟨q, 4, none⟩) hq6 1
          have hLy := rd_freeze hLz (Nat.le_refl _) ⟨q, 4, none⟩ 1
          rw [← size_freeze x2 ⟨q, 4, none⟩ 1] at hLy
          have hBz := rd_freeze hBq (Nat.le_refl _) ⟨q, 4, none⟩ 1
          rw [← size_freeze x2 ⟨q, 4, none⟩ 1] at hBz
          refine hK2.out _ _ (fun _ => hS) ?_
          clear hK2 K2
          try simp only [Act.put, List.setIfInBounds_toArray, List.set_cons_zero, List.set_cons_succ]
          clear hBq hown3 hbel3
          clear hLz hcv hqr
          have hqz2 := hqz
          rw [← size_freeze x2 ⟨q, 4, none⟩ 1] at hqz2
          generalize x2.freeze ⟨q, 4, none⟩ 1 = wz at *
          have hbz := hbwz
          clear hbwz hbx2 hbx1 hx1L
          have hLw := hLy
          have hMz := hM6.call hbz
          have hrk := (hMz.get 0 rfl)
          have hrkR : Rd wz wz.heap.size (some ⟨gp, 0, none⟩) 32 (ky.map bv) := hrk.rdK hkyl
          have hal := d_al wz (.cells #[.slice (some ⟨q, 0, none⟩) 4 4, .slice A3 4 c3, .slice (some ⟨gp, 0, none⟩) 32 32] 41)
          have hzv : (wz.alloc (.cells #[.slice (some ⟨q, 0, none⟩) 4 4, .slice A3 4 c3, .slice (some ⟨gp, 0, none⟩) 32 32] 41)).heap.size = wz.heap.size + 1 := by simp
          have htx : Txs (wz.alloc (.cells #[.slice (some ⟨q, 0, none⟩) 4 4, .slice A3 4 c3, .slice (some ⟨gp, 0, none⟩) 32 32] 41)) (wz.heap.size + 1) [.slice (some ⟨q, 0, none⟩) 4 4, .slice A3 4 c3, .slice (some ⟨gp, 0, none⟩) 32 32] [leafTag, be 4 m, ky] := txs_consU rfl (by omega) ((hLw.below hal).more (by omega)) (txs_consU (be_length _ _) c31 ((hBz.below hal).more (by omega)) (txs_consU hkyl (by omega) ((hrkR.below hal).more (by omega)) (Txs.nil _ _)))
          have hrv : Rd (wz.alloc (.cells #[.slice (some ⟨q, 0, none⟩) 4 4, .slice A3 4 c3, .slice (some ⟨gp, 0, none⟩) 32 32] 41)) (wz.heap.size + 1) (some ⟨wz.heap.size, 0, none⟩) 3 [.slice (some ⟨q, 0, none⟩) 4 4, .slice A3 4 c3, .slice (some ⟨gp, 0, none⟩) 32 32] := Rd.mk_ _ _ _ rfl (by omega) rfl rfl
          have hbv := hbz.trans (hal.mono hbz.size)
          refine oneT 6 (by kernel_rfl) rfl (fun K2 hK2 => ?_)
          go_simp
          refine hK2.out _ _ (fun _ => hS) ?_
          clear hK2 K2
          try simp only [Act.put, List.setIfInBounds_toArray, List.set_cons_zero, List.set_cons_succ]
          have htext := refText_any none 0 0 [] (some ⟨wz.heap.size, 0, none⟩) 3 3 _ [leafTag, be 4 m, ky] (wz.alloc (.cells #[.slice (some ⟨q, 0, none⟩) 4 4, .slice A3 4 c3, .slice (some ⟨gp, 0, none⟩) 32 32] 41)) (by omega) (by omega) (Rd.zero _ _ _) (by rw [hzv]; exact hrv) (by rw [hzv]; exact htx)
          clear hMz hrk hrkR hal htx hrv hLw hLy hBz hqz hqz2 hzv hq6 c31 c32
          generalize wz.alloc (.cells #[.slice (some ⟨q, 0, none⟩) 4 4, .slice A3 4 c3, .slice (some ⟨gp, 0, none⟩) 32 32] 41) = wv at *
          refine oneT 7 (by kernel_rfl) rfl (fun K2 hK2 => ?_)
          go_simp
          refine htext.mono ?_
          intro e wE hp
          obtain ⟨At, nt, ct, he, hot2, hntc, Hnt, hbt⟩ := hp.yes Hgood.out
          subst he
          obtain rfl : nt = (txs [leafTag, be 4 m, ky]).length := by simpa using Hnt.out
          have hbE := hbv.trans (hbt.mono hbv.size)
          refine hK2.out _ _ (fun _ => hS) ?_
          clear hK2 K2
          try simp only [Act.put, List.setIfInBounds_toArray, List.set_cons_zero, List.set_cons_succ]
          refine takeD 8 (some 90) (.tuple #[.slice At (txs [leafTag, be 4 m, ky]).length ct, .int .i64 0]) rfl rfl (by kernel_rfl) (by kernel_rfl) (by kernel_rfl) (by kernel_rfl) (fun _ _ _ h => h) (Or.inl ⟨by kernel_rfl, fun wx hSw => by go_simp⟩) hS ?_
          try simp only [Act.put, List.setIfInBounds_toArray, List.set_cons_zero, List.set_cons_succ]
          refine takeD 9 (some 99) (.slice At (txs [leafTag, be 4 m, ky]).length ct) rfl rfl (by kernel_rfl) (by kernel_rfl) (by kernel_rfl) (by kernel_rfl) (fun _ _ _ h => h) (Or.inl ⟨by kernel_rfl, fun wx hSw => by go_simp⟩) hS ?_
          try simp only [Act.put, List.setIfInBounds_toArray, List.set_cons_zero, List.set_cons_succ]
          refine takeD 10 (some 100) (.int .i64 0) rfl rfl (by kernel_rfl) (by kernel_rfl) (by kernel_rfl) (by kernel_rfl) (fun _ _ _ h => h) (Or.inl ⟨by kernel_rfl, fun wx hSw => by go_simp⟩) hS ?_
          try simp only [Act.put, List.setIfInBounds_toArray, List.set_cons_zero, List.set_cons_succ]
          refine takeD 11 (some 14) (.slice At (txs [leafTag, be 4 m, ky]).length ct) rfl rfl (by kernel_rfl) (by kernel_rfl) (by kernel_rfl) (by kernel_rfl) (fun _ _ _ h => h) (Or.inl ⟨by kernel_rfl, fun wx hSw => by go_simp⟩) hS ?_
          try simp only [Act.put, List.setIfInBounds_toArray, List.set_cons_zero, List.set_cons_succ]
          refine takeD 12 (some 15) (.int .i64 0) rfl rfl (by kernel_rfl) (by kernel_rfl) (by kernel_rfl) (by kernel_rfl) (fun _ _ _ h => h) (Or.inl ⟨by kernel_rfl, fun wx hSw => by go_simp⟩) hS ?_
          try simp only [Act.put, List.setIfInBounds_toArray, List.set_cons_zero, List.set_cons_succ]
          refine doneT (by kernel_rfl) ?_ _
          have hr20 := Rd.of_own hot2
          have hb4E := c_call (c_call Hb5.out hb6) hbE
          clear htext hot2 hbt hp Hnt hbv
          go_upto_region 20 with fail
          try simp only [Act.put]
          refine beginT (fun wx : World => wx.rangeAt ba (oa + i * 32) (keyC s).toList) 12 (by kernel_rfl) ?_
          have hdrE := c_drew hb4E
          have hS0 := hkeepS _ hdrE
          refine takeD 0 (some 101) (.int .i64 0) rfl rfl (by kernel_rfl) (by kernel_rfl) (by kernel_rfl) (by kernel_rfl) (fun _ _ _ h => h) (Or.inl ⟨by kernel_rfl, fun wx hSw => by go_simp⟩) hS0 ?_
          try simp only [Act.put, List.setIfInBounds_toArray, List.set_cons_zero, List.set_cons_succ]
          refine takeD 1 (some 102) (.bool false) rfl rfl (by kernel_rfl) (by kernel_rfl) (by kernel_rfl) (by kernel_rfl) (fun _ _ _ h => h) (Or.inl ⟨by kernel_rfl, fun wx hSw => by go_simp⟩) hS0 ?_
          try simp only [Act.put, List.setIfInBounds_toArray, List.set_cons_zero, List.set_cons_succ]
          refine takeD 2 (some 103) (.bool false) rfl rfl (by kernel_rfl) (by kernel_rfl) (by kernel_rfl) (by kernel_rfl) (fun _ _ _ h => h) (Or.inl ⟨by kernel_rfl, fun wx hSw => by go_simp⟩) hS0 ?_
          try simp only [Act.put, List.setIfInBounds_toArray, List.set_cons_zero, List.set_cons_succ]
          refine takeD 3 (some 104) (.slice (some ⟨ba, oa, none⟩) np ca) rfl rfl (by kernel_rfl) (by kernel_rfl) (by kernel_rfl) (by kernel_rfl) (fun _ _ _ h => h) (Or.inl ⟨by kernel_rfl, fun wx hSw => by go_simp⟩) hS0 ?_
          try simp only [Act.put, List.setIfInBounds_toArray, List.set_cons_zero, List.set_cons_succ]
          refine takeD 4 (some 105) (.int .i64 (i : Int)) rfl rfl (by kernel_rfl) (by kernel_rfl) (by kernel_rfl) (by kernel_rfl) (fun _ _ _ h => h) (Or.inl ⟨by kernel_rfl, fun wx hSw => by go_simp⟩) hS0 ?_
          try simp only [Act.put, List.setIfInBounds_toArray, List.set_cons_zero, List.set_cons_succ]
          refine takeD 5 (some 106) (.pointer (some ⟨ba, oa + i * 32, none⟩)) rfl rfl (by kernel_rfl) (by kernel_rfl) (by kernel_rfl) (by kernel_rfl) (fun _ _ _ h => h) (Or.inl ⟨by kernel_rfl, fun wx hSw => by go_simp⟩) hS0 ?_
          try simp only [Act.put, List.setIfInBounds_toArray, List.set_cons_zero, List.set_cons_succ]
          refine loadT 6 (some 107) 36 (.tmp 106) ba (oa + i * 32) (keyC s).toList rfl rfl (by kernel_rfl) (by kernel_rfl) (by kernel_rfl) (by kernel_rfl) rfl (by kernel_rfl) rfl (fun wx hSw => hSw) Tryd.underlying36 rfl hskS (fun _ _ _ h => h) hS0 ?_
          try simp only [Act.put, List.setIfInBounds_toArray, List.set_cons_zero, List.set_cons_succ, Array.toArray_toList]
          refine takeD 7 (some 108) (.slice At (txs [leafTag, be 4 m, ky]).length ct) rfl rfl (by kernel_rfl) (by kernel_rfl) (by kernel_rfl) (by kernel_rfl) (fun _ _ _ h => h) (Or.inl ⟨by kernel_rfl, fun wx hSw => by go_simp⟩) hS0 ?_
          try simp only [Act.put, List.setIfInBounds_toArray, List.set_cons_zero, List.set_cons_succ]
          have hr21 : Rd wE.drew wE.drew.heap.size At (txs [leafTag, be 4 m, ky]).length ((txs [leafTag, be 4 m, ky]).map bv) := by simpa using hr20.drew
          generalize wE.drew = y0 at *
          have haly := d_al y0 (.cells #[.slice At (txs [leafTag, be 4 m, ky]).length ct] 41)
          have hb4y := c_call hdrE haly
          have hzy : (y0.alloc (.cells #[.slice At (txs [leafTag, be 4 m, ky]).length ct] 41)).heap.size = y0.heap.size + 1 := by simp
          have htE := (Txs.one (w := y0.alloc (.cells #[.slice At (txs [leafTag, be 4 m, ky]).length ct] 41)) (B := y0.heap.size) (hr21.below haly) hntc).more (show y0.heap.size ≤ y0.heap.size + 1 by omega)
          have hrvy : Rd (y0.alloc (.cells #[.slice At (txs [leafTag, be 4 m, ky]).length ct] 41)) (y0.heap.size + 1) (some ⟨y0.heap.size, 0, none⟩) 1 [.slice At (txs [leafTag, be 4 m, ky]).length ct] := Rd.mk_ _ _ _ rfl (by omega) rfl rfl
          have hsum := pSum_any (some ⟨y0.heap.size, 0, none⟩) 1 1 [.slice At (txs [leafTag, be 4 m, ky]).length ct] [txs [leafTag, be 4 m, ky]] (y0.alloc (.cells #[.slice At (txs [leafTag, be 4 m, ky]).length ct] 41)) (by omega) (by simp; exact Nat.le_trans htl34 (by simp)) (by rw [hzy]; exact hrvy) (by rw [hzy]; exact htE) (hT.below (HM4.out.old.trans (hb4y.mono HM4.out.old.size)))
          rw [show sumU [txs [leafTag, be 4 m, ky]].flatten = s by rw [Hs.out]; simp, show (s.map bv).toArray = keyC s from rfl] at hsum
          have hS1 := hkeepS _ hb4y
          refine oneT 8 (by kernel_rfl) rfl (fun K2 hK2 => ?_)
          go_simp
          refine hK2.out _ _ (fun _ => hS1) ?_
          clear hK2 K2
          try simp only [Act.put, List.setIfInBounds_toArray, List.set_cons_zero, List.set_cons_succ]
          refine oneT 9 (by kernel_rfl) rfl (fun K2 hK2 => ?_)
          go_simp
          refine hsum.mono ?_
          rintro e y2 ⟨he, hby⟩
          subst he
          have hb4z := c_call hb4y hby
          have hS2 := hkeepS _ hb4z
          refine hK2.out _ _ (fun _ => hS2) ?_
          clear hK2 K2
          try simp only [Act.put, List.setIfInBounds_toArray, List.set_cons_zero, List.set_cons_succ]
          refine takeD 10 (some 111) (.bool false) rfl rfl (by kernel_rfl) (by kernel_rfl) (by kernel_rfl) (by kernel_rfl) (fun _ _ _ h => h) (Or.inl ⟨by kernel_rfl, fun wx hSw => by go_simp⟩) hS2 ?_
          try simp only [Act.put, List.setIfInBounds_toArray, List.set_cons_zero, List.set_cons_succ]
          refine takeD 11 (some 112) (.bool false) rfl rfl (by kernel_rfl) (by kernel_rfl) (by kernel_rfl) (by kernel_rfl) (fun _ _ _ h => h) (Or.inl ⟨by kernel_rfl, fun wx hSw => by go_simp⟩) hS2 ?_
          try simp only [Act.put, List.setIfInBounds_toArray, List.set_cons_zero, List.set_cons_succ]
          refine doneT (by kernel_rfl) ?_ _
          clear hsum hS0 hS1 hS2 hr20 hr21 haly hzy htE hrvy
          go_wp2_with fail
          go_roundw
          case rel => exact ⟨k + 1, by omega, by go_num, by rw [← Hlast.out], hb4z⟩
          case measure => simp [intOf]; omega
      · go_simp
        refine (Bytes_any 4 m x0 (by omega) (by omega)).mono ?_
        rintro e x1 ⟨A3, c3, rfl, hown3, hbel3⟩
        have hbx1 := hbx0.trans (hbel3.mono hbx0.size)
        obtain ⟨c31, c32⟩ : 4 ≤ c3 ∧ c3 ≤ maxLen := by
          obtain ⟨Ao, co, ea, h1, h2⟩ := own_formT hown3
          injection ea with e1 e2 e3
          subst e3
          exact ⟨h1, h2⟩
        refine hK2.out _ _ (fun _ => hS) ?_
        clear hK2 K2
        try simp only [Act.put, List.setIfInBounds_toArray, List.set_cons_zero, List.set_cons_succ]
        have hBq := Rd.of_own hown3
        refine oneT 0 (by kernel_rfl) rfl (fun K2 hK2 => ?_)
        go_simp
        obtain ⟨q, hq⟩ : ∃ q, q = x1.heap.size := ⟨_, rfl⟩
        have hbx2 : Below w6.heap.size w6 (x1.alloc (.cells #[.int .u8 108, .int .u8 101, .int .u8 97, .int .u8 102] 5)) := hbx1.trans ((d_al x1 (.cells #[.int .u8 108, .int .u8 101, .int .u8 97, .int .u8 102] 5)).mono hbx1.size)
        have hq6 : w6.heap.size ≤ q := by rw [hq]; exact hbx1.size
        have hqr : (x1.alloc (.cells #[.int .u8 108, .int .u8 101, .int .u8 97, .int .u8 102] 5)).heap[q]? = some (.cells #[.int .u8 108, .int .u8 101, .int .u8 97, .int .u8 102] 5 (0, 0)) := by rw [hq]; exact heap_alloc_new x1 _
        have hqz : q < (x1.alloc (.cells #[.int .u8 108, .int .u8 101, .int .u8 97, .int .u8 102] 5)).heap.size := by rw [World.size_alloc, hq]; omega
        have hBq := (hBq.below (d_al x1 (.cells #[.int .u8 108, .int .u8 101, .int .u8 97, .int .u8 102] 5))).more (d_al x1 (.cells #[.int .u8 108, .int .u8 101, .int .u8 97, .int .u8 102] 5)).size
        refine hK2.out _ _ (fun _ => hS) ?_
        clear hK2 K2
        try simp only [Act.put, List.setIfInBounds_toArray, List.set_cons_zero, List.set_cons_succ]
        clear hown3 hbel3
        rw [← hq]
        generalize x1.alloc (.cells #[.int .u8 108, .int .u8 101, .int .u8 97, .int .u8 102] 5) = x2 at *
        clear hq
        refine oneT 1 (by kernel_rfl) rfl (fun K2 hK2 => ?_)
        have hLz : Rd x2 x2.heap.size (some ⟨q, 0, none⟩) 4 (leafTag.map bv) := ⟨rfl, fun _ => ⟨q, 0, rfl, hqz, fun j u hu => by rw [Nat.zero_add, cell_of_row _ q j _ _ _ hqr, ← Array.getElem?_toList]; exact hu⟩⟩
        have hcv := conv_at (P := Tryd.prog) x2 41 5 q #[.int .u8 108, .int .u8 101, .int .u8 97, .int .u8 102] 4 4 (0, 0) Tryd.underlying41 Tryd.underlying5 hqr
        go_simp
        have hbwz := bel_freeze hbx2 (p := ⟨q, 4, none⟩) hq6 1
        have hLy := rd_freeze hLz (Nat.le_refl _) ⟨q, 4, none⟩ 1
        rw [← size_freeze x2 ⟨q, 4, none⟩ 1] at hLy
        have hBz := rd_freeze hBq (Nat.le_refl _) ⟨q, 4, none⟩ 1
        rw [← size_freeze x2 ⟨q, 4, none⟩ 1] at hBz
        refine hK2.out _ _ (fun _ => hS) ?_
        clear hK2 K2
        try simp only [Act.put, List.setIfInBounds_toArray, List.set_cons_zero, List.set_cons_succ]
        clear hBq
        clear hLz hcv hqr
        have hqz2 := hqz
        rw [← size_freeze x2 ⟨q, 4, none⟩ 1] at hqz2
        generalize x2.freeze ⟨q, 4, none⟩ 1 = wz at *
        have hbz := hbwz
        clear hbwz hbx2 hbx1
        have hLw := hLy
        have hMz := hM6.call hbz
        have hrk := (hMz.get 0 rfl)
        have hrkR : Rd wz wz.heap.size (some ⟨gp, 0, none⟩) 32 (ky.map bv) := hrk.rdK hkyl
        have hal := d_al wz (.cells #[.slice (some ⟨q, 0, none⟩) 4 4, .slice A3 4 c3, .slice (some ⟨gp, 0, none⟩) 32 32] 41)
        have hzv : (wz.alloc (.cells #[.slice (some ⟨q, 0, none⟩) 4 4, .slice A3 4 c3, .slice (some ⟨gp, 0, none⟩) 32 32] 41)).heap.size = wz.heap.size + 1 := by simp
        have htx : Txs (wz.alloc (.cells #[.slice (some ⟨q, 0, none⟩) 4 4, .slice A3 4 c3, .slice (some ⟨gp, 0, none⟩) 32 32] 41)) (wz.heap.size + 1) [.slice (some ⟨q, 0, none⟩) 4 4, .slice A3 4 c3, .slice (some ⟨gp, 0, none⟩) 32 32] [leafTag, be 4 m, ky] := txs_consU rfl (by omega) ((hLw.below hal).more (by omega)) (txs_consU (be_length _ _) c31 ((hBz.below hal).more (by omega)) (txs_consU hkyl (by omega) ((hrkR.below hal).more (by omega)) (Txs.nil _ _)))
        have hrv : Rd (wz.alloc (.cells #[.slice (some ⟨q, 0, none⟩) 4 4, .slice A3 4 c3, .slice (some ⟨gp, 0, none⟩) 32 32] 41)) (wz.heap.size + 1) (some ⟨wz.heap.size, 0, none⟩) 3 [.slice (some ⟨q, 0, none⟩) 4 4, .slice A3 4 c3, .slice (some ⟨gp, 0, none⟩) 32 32] := Rd.mk_ _ _ _ rfl (by omega) rfl rfl
        have hbv := hbz.trans (hal.mono hbz.size)
        refine oneT 6 (by kernel_rfl) rfl (fun K2 hK2 => ?_)
        go_simp
        refine hK2.out _ _ (fun _ => hS) ?_
        clear hK2 K2
        try simp only [Act.put, List.setIfInBounds_toArray, List.set_cons_zero, List.set_cons_succ]
        have htext := refText_any none 0 0 [] (some ⟨wz.heap.size, 0, none⟩) 3 3 _ [leafTag, be 4 m, ky] (wz.alloc (.cells #[.slice (some ⟨q, 0, none⟩) 4 4, .slice A3 4 c3, .slice (some ⟨gp, 0, none⟩) 32 32] 41)) (by omega) (by omega) (Rd.zero _ _ _) (by rw [hzv]; exact hrv) (by rw [hzv]; exact htx)
        clear hMz hrk hrkR hal htx hrv hLw hLy hBz hqz hqz2 hzv hq6 c31 c32
        generalize wz.alloc (.cells #[.slice (some ⟨q, 0, none⟩) 4 4, .slice A3 4 c3, .slice (some ⟨gp, 0, none⟩) 32 32] 41) = wv at *
        refine oneT 7 (by kernel_rfl) rfl (fun K2 hK2 => ?_)
        go_simp
        refine htext.mono ?_
        intro e wE hp
        obtain ⟨At, nt, ct, he, hot2, hntc, Hnt, hbt⟩ := hp.yes Hgood.out
        subst he
        obtain rfl : nt = (txs [leafTag, be 4 m, ky]).length := by simpa using Hnt.out
        have hbE := hbv.trans (hbt.mono hbv.size)
        refine hK2.out _ _ (fun _ => hS) ?_
        clear hK2 K2
        try simp only [Act.put, List.setIfInBounds_toArray, List.set_cons_zero, List.set_cons_succ]
        refine takeD 8 (some 90) (.tuple #[.slice At (txs [leafTag, be 4 m, ky]).length ct, .int .i64 0]) rfl rfl (by kernel_rfl) (by kernel_rfl) (by kernel_rfl) (by kernel_rfl) (fun _ _ _ h => h) (Or.inl ⟨by kernel_rfl, fun wx hSw => by go_simp⟩) hS ?_
        try simp only [Act.put, List.setIfInBounds_toArray, List.set_cons_zero, List.set_cons_succ]
        refine takeD 9 (some 99) (.slice At (txs [leafTag, be 4 m, ky]).length ct) rfl rfl (by kernel_rfl) (by kernel_rfl) (by kernel_rfl) (by kernel_rfl) (fun _ _ _ h => h) (Or.inl ⟨by kernel_rfl, fun wx hSw => by go_simp⟩) hS ?_
        try simp only [Act.put, List.setIfInBounds_toArray, List.set_cons_zero, List.set_cons_succ]
        refine takeD 10 (some 100) (.int .i64 0) rfl rfl (by kernel_rfl) (by kernel_rfl) (by kernel_rfl) (by kernel_rfl) (fun _ _ _ h => h) (Or.inl ⟨by kernel_rfl, fun wx hSw => by go_simp⟩) hS ?_
        try simp only [Act.put, List.setIfInBounds_toArray, List.set_cons_zero, List.set_cons_succ]
        refine takeD 11 (some 14) (.slice At (txs [leafTag, be 4 m, ky]).length ct) rfl rfl (by kernel_rfl) (by kernel_rfl) (by kernel_rfl) (by kernel_rfl) (fun _ _ _ h => h) (Or.inl ⟨by kernel_rfl, fun wx hSw => by go_simp⟩) hS ?_
        try simp only [Act.put, List.setIfInBounds_toArray, List.set_cons_zero, List.set_cons_succ]
        refine takeD 12 (some 15) (.int .i64 0) rfl rfl (by kernel_rfl) (by kernel_rfl) (by kernel_rfl) (by kernel_rfl) (fun _ _ _ h => h) (Or.inl ⟨by kernel_rfl, fun wx hSw => by go_simp⟩) hS ?_
        try simp only [Act.put, List.setIfInBounds_toArray, List.set_cons_zero, List.set_cons_succ]
        refine doneT (by kernel_rfl) ?_ _
        have hr20 := Rd.of_own hot2
        have hb4E := c_call (c_call Hb5.out hb6) hbE
        clear htext hot2 hbt hp Hnt hbv
        go_upto_region 20 with fail
        try simp only [Act.put]
        refine beginT (fun wx : World => wx.rangeAt ba (oa + i * 32) (keyC s).toList) 12 (by kernel_rfl) ?_
        have hdrE := c_drew hb4E
        have hS0 := hkeepS _ hdrE
        refine takeD 0 (some 101) (.int .i64 0) rfl rfl (by kernel_rfl) (by kernel_rfl) (by kernel_rfl) (by kernel_rfl) (fun _ _ _ h => h) (Or.inl ⟨by kernel_rfl, fun wx hSw => by go_simp⟩) hS0 ?_
        try simp only [Act.put, List.setIfInBounds_toArray, List.set_cons_zero, List.set_cons_succ]
        refine takeD 1 (some 102) (.bool false) rfl rfl (by kernel_rfl) (by kernel_rfl) (by kernel_rfl) (by kernel_rfl) (fun _ _ _ h => h) (Or.inl ⟨by kernel_rfl, fun wx hSw => by go_simp⟩) hS0 ?_
        try simp only [Act.put, List.setIfInBounds_toArray, List.set_cons_zero, List.set_cons_succ]
        refine takeD 2 (some 103) (.bool false) rfl rfl (by kernel_rfl) (by kernel_rfl) (by kernel_rfl) (by kernel_rfl) (fun _ _ _ h => h) (Or.inl ⟨by kernel_rfl, fun wx hSw => by go_simp⟩) hS0 ?_
        try simp only [Act.put, List.setIfInBounds_toArray, List.set_cons_zero, List.set_cons_succ]
        refine takeD 3 (some 104) (.slice (some ⟨ba, oa, none⟩) np ca) rfl rfl (by kernel_rfl) (by kernel_rfl) (by kernel_rfl) (by kernel_rfl) (fun _ _ _ h => h) (Or.inl ⟨by kernel_rfl, fun wx hSw => by go_simp⟩) hS0 ?_
        try simp only [Act.put, List.setIfInBounds_toArray, List.set_cons_zero, List.set_cons_succ]
        refine takeD 4 (some 105) (.int .i64 (i : Int)) rfl rfl (by kernel_rfl) (by kernel_rfl) (by kernel_rfl) (by kernel_rfl) (fun _ _ _ h => h) (Or.inl ⟨by kernel_rfl, fun wx hSw => by go_simp⟩) hS0 ?_
        try simp only [Act.put, List.setIfInBounds_toArray, List.set_cons_zero, List.set_cons_succ]
        refine takeD 5 (some 106) (.pointer (some ⟨ba, oa + i * 32, none⟩)) rfl rfl (by kernel_rfl) (by kernel_rfl) (by kernel_rfl) (by kernel_rfl) (fun _ _ _ h => h) (Or.inl ⟨by kernel_rfl, fun wx hSw => by go_simp⟩) hS0 ?_
        try simp only [Act.put, List.setIfInBounds_toArray, List.set_cons_zero, List.set_cons_succ]
        refine loadT 6 (some 107) 36 (.tmp 106) ba (oa + i * 32) (keyC s).toList rfl rfl (by kernel_rfl) (by kernel_rfl) (by kernel_rfl) (by kernel_rfl) rfl (by kernel_rfl) rfl (fun wx hSw => hSw) Tryd.underlying36 rfl hskS (fun _ _ _ h => h) hS0 ?_
        try simp only [Act.put, List.setIfInBounds_toArray, List.set_cons_zero, List.set_cons_succ, Array.toArray_toList]
        refine takeD 7 (some 108) (.slice At (txs [leafTag, be 4 m, ky]).length ct) rfl rfl (by kernel_rfl) (by kernel_rfl) (by kernel_rfl) (by kernel_rfl) (fun _ _ _ h => h) (Or.inl ⟨by kernel_rfl, fun wx hSw => by go_simp⟩) hS0 ?_
        try simp only [Act.put, List.setIfInBounds_toArray, List.set_cons_zero, List.set_cons_succ]
        have hr21 : Rd wE.drew wE.drew.heap.size At (txs [leafTag, be 4 m, ky]).length ((txs [leafTag, be 4 m, ky]).map bv) := by simpa using hr20.drew
        generalize wE.drew = y0 at *
        have haly := d_al y0 (.cells #[.slice At (txs [leafTag, be 4 m, ky]).length ct] 41)
        have hb4y := c_call hdrE haly
        have hzy : (y0.alloc (.cells #[.slice At (txs [leafTag, be 4 m, ky]).length ct] 41)).heap.size = y0.heap.size + 1 := by simp
        have htE := (Txs.one (w := y0.alloc (.cells #[.slice At (txs [leafTag, be 4 m, ky]).length ct] 41)) (B := y0.heap.size) (hr21.below haly) hntc).more (show y0.heap.size ≤ y0.heap.size + 1 by omega)
        have hrvy : Rd (y0.alloc (.cells #[.slice At (txs [leafTag, be 4 m, ky]).length ct] 41)) (y0.heap.size + 1) (some ⟨y0.heap.size, 0, none⟩) 1 [.slice At (txs [leafTag, be 4 m, ky]).length ct] := Rd.mk_ _ _ _ rfl (by omega) rfl rfl
        have hsum := pSum_any (some ⟨y0.heap.size, 0, none⟩) 1 1 [.slice At (txs [leafTag, be 4 m, ky]).length ct] [txs [leafTag, be 4 m, ky]] (y0.alloc (.cells #[.slice At (txs [leafTag, be 4 m, ky]).length ct] 41)) (by omega) (by simp; exact Nat.le_trans htl34 (by simp)) (by rw [hzy]; exact hrvy) (by rw [hzy]; exact htE) (hT.below (HM4.out.old.trans (hb4y.mono HM4.out.old.size)))
        rw [show sumU [txs [leafTag, be 4 m, ky]].flatten = s by rw [Hs.out]; simp, show (s.map bv).toArray = keyC s from rfl] at hsum
        have hS1 := hkeepS _ hb4y
        refine oneT 8 (by kernel_rfl) rfl (fun K2 hK2 => ?_)
        go_simp
        refine hK2.out _ _ (fun _ => hS1) ?_
        clear hK2 K2
        try simp only [Act.put, List.setIfInBounds_toArray, List.set_cons_zero, List.set_cons_succ]
        refine oneT 9 (by kernel_rfl) rfl (fun K2 hK2 => ?_)
        go_simp
        refine hsum.mono ?_
        rintro e y2 ⟨he, hby⟩
        subst he
        have hb4z := c_call hb4y hby
        have hS2 := hkeepS _ hb4z
        refine hK2.out _ _ (fun _ => hS2) ?_
        clear hK2 K2
        try simp only [Act.put, List.setIfInBounds_toArray, List.set_cons_zero, List.set_cons_succ]
        refine takeD 10 (some 111) (.bool false) rfl rfl (by kernel_rfl) (by kernel_rfl) (by kernel_rfl) (by kernel_rfl) (fun _ _ _ h => h) (Or.inl ⟨by kernel_rfl, fun wx hSw => by go_simp⟩) hS2 ?_
        try simp only [Act.put, List.setIfInBounds_toArray, List.set_cons_zero, List.set_cons_succ]
        refine takeD 11 (some 112) (.bool false) rfl rfl (by kernel_rfl) (by kernel_rfl) (by kernel_rfl) (by kernel_rfl) (fun _ _ _ h => h) (Or.inl ⟨by kernel_rfl, fun wx hSw => by go_simp⟩) hS2 ?_
        try simp only [Act.put, List.setIfInBounds_toArray, List.set_cons_zero, List.set_cons_succ]
        refine doneT (by kernel_rfl) ?_ _
        clear hsum hS0 hS1 hS2 hr20 hr21 haly hzy htE hrvy
        go_wp2_with fail
        go_roundw
        case rel => exact ⟨k + 1, by omega, by go_num, by rw [← Hlast.out], hb4z⟩
        case measure => simp [intOf]; omega
    · obtain rfl : k = ni := by omega
      generalize (if k = 0 then (-1 : Int) else ((leafN kind ids ll (k - 1) : Nat) : Int)) = lst at *
      have hw9 := hW kind Ai k ci Al nl cl ids ll Ap np cp ps wr (HB.out wr hMr.old) hf
      rw [Hok.out] at hw9
      have hrr := hMr.get 0 rfl
      clear hb hk hkn
      go_wp2_with ((with_reducible show wpList _ _ _ (⟨some 115, _, _, _, _, _⟩ :: _) _ _); refine wpList_loadC (by kernel_rfl) 28 (.tmp 1) rfl g rfl 28 (tgV kind Ai k ci Al nl cl Ap np cp) _ hrr Tryd.underlying28 rfl tgInfo2 ?_)
      refine hw9.mono ?_
      rintro e w5 ⟨hb5, ⟨hno, _⟩ | ⟨_, A5, n5, c5, he, hown5⟩⟩
      · cases hno
      subst he
      have hM5 := hMr.call hb5
      have hln5 : (writeT kind ids ll ps).length = n5 := by have := (Rd.of_own hown5).len; rwa [List.length_map] at this
      have hn5 : n5 ≤ 200000 := by
        rw [← hln5, writeT_hd, List.length_append, hlps]
        have := hdT_le (kind := kind) hf
        omega
      have hn51 : 1 ≤ n5 := by rw [← hln5, writeT_hd, hdT]; simp only [List.length_append, List.length_cons]; omega
      obtain ⟨c51, c52⟩ : n5 ≤ c5 ∧ c5 ≤ maxLen := by
        obtain ⟨Ao, co, ea, h1, h2⟩ := own_formT hown5
        injection ea with e1 e2 e3
        subst e3
        exact ⟨h1, h2⟩
      have hr5 := Rd.of_own hown5
      obtain ⟨b5, o5, rfl, hb50, hcc⟩ := hr5.pos (show 0 < n5 by omega)
      obtain ⟨m5, hm5⟩ : ∃ m5, n5 = m5 + 1 := ⟨n5 - 1, by omega⟩
      obtain ⟨sl, hsl⟩ : ∃ sl, sl = (writeT kind ids ll ps).take ((writeT kind ids ll ps).length - 1) := ⟨_, rfl⟩
      have hcut : Rd w5 w5.heap.size (some ⟨b5, o5, none⟩) m5 (sl.map bv) := ⟨by rw [List.length_map, hsl, List.length_take]; omega, fun _ => ⟨b5, o5, rfl, hb50, fun j u hu => by
        rw [List.getElem?_map, hsl, List.getElem?_take] at hu
        split at hu
        · exact hcc j u (by rw [List.getElem?_map]; exact hu)
        · cases hu⟩⟩
      have hrd := hR (some ⟨b5, o5, none⟩) m5 c5 sl 0 w5 hcut (by omega) c52 (by omega) (by omega) (by omega)
      have y1 : ¬ n5 = 0 := by omega
      have y2 : IntKind.i64.wrap ((n5 : Int) - 1) = (m5 : Int) := by rw [IntKind.wrap_i64]; omega
      have y3 : (m5 : Int) ≤ (c5 : Int) := by omega
      have y4 : (0 : Int) ≤ (m5 : Int) := by omega
      have y5 : ¬ c5 = 0 := by omega
      have HS := Lib.hid (short_of (l := sl) Hok.out hlps hsl)
      clear hw9 hrr hMr hb5 hown5 hr5 hcut hcc hln5 hm5 hsl
      go_wp2_with fail
      refine hrd.mono ?_
      rintro e w6 h6
      obtain ⟨hb6, Au, nu, cu, Bu, mu, du, Pu, eu, he, hTx⟩ := h6.gen
      rw [HS.out] at he
      subst he
      have hM6 := (hM5.call hb6).put 28 #[.int .i64 0, .slice none 0 0, .slice none 0 0, .slice none 0 0] (tgV (kindU sl 0) Au nu cu Bu mu du Pu (manyU sl 0) eu)
      obtain ⟨gx, hgx⟩ : ∃ gx, gx = w6.heap.size := ⟨_, rfl⟩
      clear hrd h6 hb6 hM5 hTx
      go_upto_region 27 with ((with_reducible show wpList _ _ _ (⟨none, Op.store 28 _ _, _, _, _, _⟩ :: _) _ _); refine wpList_store_row rfl 28 (.tmp 18) _ rfl w6.heap.size (tgV (kindU sl 0) Au nu cu Bu mu du Pu (manyU sl 0) eu) rfl rfl 28 _ (RowC.new _ _ _) tgInfo2 rfl (by simp [tgV, Value.oneCell']) ?_)
      try simp only [Act.put]
      rw [← hgx] at hM6 ⊢
      refine wp_gen (fun wx => Ms w wx [(gx, 28, tgV (kindU sl 0) Au nu cu Bu mu du Pu (manyU sl 0) eu), (g, 28, tgV kind Ai k ci Al nl cl Ap np cp)]) hM6 ?_
      clear hM6 hgx
      clear w6
      rintro w6 hM6
      have hlf := hL kind Ai k ci Al nl cl ids ll Ap np cp ps (-1) w6 (HB.out w6 hM6.old) hf
      rw [leaf_no Hok.out] at hlf
      have hrr := hM6.get 1 rfl
      go_wp2_with ((with_reducible show wpList _ _ _ (⟨some 137, _, _, _, _, _⟩ :: _) _ _); refine wpList_loadC (by kernel_rfl) 28 (.tmp 1) rfl g rfl 28 (tgV kind Ai k ci Al nl cl Ap np cp) _ hrr Tryd.underlying28 rfl tgInfo2 ?_)
      refine hlf.mono ?_
      rintro e w7 ⟨he, hb7⟩
      subst he
      have hfin := c_call hM6.old hb7
      clear hlf hM6 hrr hb7
      go_wp2_with fail
      go_ret
      exact ⟨rfl, hfin⟩

end Go.Proofs.YtlidhdljgnijaaaDoor

