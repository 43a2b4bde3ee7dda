import Derived.Test.YtlidhdljgnijaaaDoorM30
import Derived.Test.YtlidhdljgnijaaaDoorM32
import Derived.Test.YtlidhdljgnijaaaDoorM22
import Derived.Test.YtlidhdljgnijaaaDoorM17
/-
  WHAT IS READ, told of one kind: a tree, or none; what the program's Read is asked to do.
-/
set_option linter.unusedVariables false
namespace Go.Proofs.YtlidhdljgnijaaaDoor
open Go.RowKit

def HGR : Prop := ∀ (Ab : Option Addr) (nb cb : Nat) (l : List UInt8) (d : Int) (w : World), Rd w w.heap.size Ab nb (l.map bv) → nb ≤ cb → cb ≤ maxLen → nb ≤ 1000000 → -9223372036854775808 ≤ d → d ≤ 9223372036854775807 →
  Calls Tryd.prog 25 #[.slice Ab nb cb, .int .i64 d] w (ReadPost w l d)

def kindU (l : List UInt8) (d : Int) : Int := if readE l d = 0 then kindR l d.toNat else 0
def idsU (l : List UInt8) (d : Int) : List Int := if readE l d = 0 then (idsR l d.toNat).1 else []
def lvsU (l : List UInt8) (d : Int) : List (List Int) := if readE l d = 0 then (lvsR l d.toNat).1 else []
def manyU (l : List UInt8) (d : Int) : Nat := if readE l d = 0 then manyR l d.toNat else 0
def ptsU (l : List UInt8) (d : Int) : List UInt8 := if readE l d = 0 then ptsR l d.toNat else []
def readM (l : List UInt8) (d : Int) : Int := if readE l d = 0 then readN l d else 0
theorem ReadPost.gen {w w' : World} {l : List UInt8} {d : Int} {e : Ending} (h : ReadPost w l d e w') :
    Below w.heap.size w w' ∧ ∃ Ai ni ci Al nl cl Ap cp, e = .returned (.tuple #[.agg (tgV (kindU l d) Ai ni ci Al nl cl Ap (manyU l d) cp), .int .i64 (readM l d), .int .i64 (readE l d)]) ∧ TgR w' w'.heap.size Ai ni ci Al nl cl (idsU l d) (lvsU l d) Ap (manyU l d) cp (ptsU l d) := by
  obtain ⟨hb, ⟨h1, h2⟩ | ⟨h1, Ai, ni, ci, Al, nl, cl, Ap, cp, h2, h3⟩⟩ := h
  · refine ⟨hb, none, 0, 0, none, 0, 0, none, 0, ?_, ?_⟩
    · rw [h2, kindU, manyU, readM, if_neg h1, if_neg h1, if_neg h1]
    · rw [idsU, lvsU, manyU, ptsU, if_neg h1, if_neg h1, if_neg h1, if_neg h1]
      exact ⟨⟨rfl, rfl, Nat.le_refl _, Nat.le_refl _, by simp [maxLen], by simp [maxLen], Rd.zero _ _ _, [], Rd.zero _ _ _, Lvs.nil _ _⟩, ⟨Rd.zero _ _ _, Nat.le_refl _, by simp [maxLen]⟩⟩
  · refine ⟨hb, Ai, ni, ci, Al, nl, cl, Ap, cp, ?_, ?_⟩
    · rw [h2, kindU, manyU, readM, if_pos h1, if_pos h1, if_pos h1, h1]
    · rw [idsU, lvsU, manyU, ptsU, if_pos h1, if_pos h1, if_pos h1, if_pos h1]
      exact h3
theorem sameG_self (kind : Int) (ids : List Int) (ll : List (List Int)) (ps : List UInt8) : sameG kind ids ll ps kind ids ll ps = true := by simp [sameG]

end Go.Proofs.YtlidhdljgnijaaaDoor

/-
  WHAT IS WRITTEN IS READ, as facts of lists (layer 13).
-/
set_option linter.unusedVariables false
namespace Go.Proofs.YtlidhdljgnijaaaDoor
open Go.RowKit

theorem num_of {l : List UInt8} {p wd x : Nat} {t : List UInt8} (h : l.drop p = be wd x ++ t) (hp : p ≤ l.length) (hx : x < 256 ^ wd) :
    numV l p wd = x ∧ numP l p wd false = p + wd ∧ numS l p wd false = false ∧ l.drop (p + wd) = t ∧ p + wd ≤ l.length := by
  have hl : l.length - p = wd + t.length := by rw [← List.length_drop, h, List.length_append, be_length]
  have hle : p + wd ≤ l.length := by omega
  refine ⟨?_, by rw [numP, if_pos ⟨hle, rfl⟩], by rw [numS, Bool.false_or]; exact decide_eq_false (by omega), ?_, hle⟩
  · rw [numV, if_pos hle, h, List.take_append_of_le_length (by rw [be_length]; exact Nat.le_refl _), List.take_of_length_le (by rw [be_length]; exact Nat.le_refl _), val_be, Nat.mod_eq_of_lt hx]
  · rw [← List.drop_drop, h, List.drop_append_of_le_length (by rw [be_length]; exact Nat.le_refl _), List.drop_of_length_le (by rw [be_length]; exact Nat.le_refl _), List.nil_append]
theorem nums_of {l : List UInt8} {wd : Nat} : ∀ (xs : List Int) (p : Nat) (t : List UInt8), l.drop p = xs.flatMap (fun x => be wd x.toNat) ++ t → p ≤ l.length → (∀ x ∈ xs, 0 ≤ x ∧ x.toNat < 256 ^ wd) →
    numsL l wd xs.length p false = (xs, (p + wd * xs.length, false)) ∧ l.drop (p + wd * xs.length) = t ∧ p + wd * xs.length ≤ l.length
  | [], p, t, h, hp, _ => ⟨by rw [List.length_nil, numsL, Nat.mul_zero, Nat.add_zero], by simpa using h, by simpa using hp⟩
  | x :: xs, p, t, h, hp, hx => by
    rw [List.flatMap_cons, List.append_assoc] at h
    obtain ⟨h1, h2, h3, h4, h5⟩ := num_of h hp (hx x (by simp)).2
    obtain ⟨i1, i2, i3⟩ := nums_of xs (p + wd) t h4 h5 (fun y hy => hx y (by simp [hy]))
    have e : p + wd + wd * xs.length = p + wd * (x :: xs).length := by rw [List.length_cons, Nat.mul_succ]; omega
    rw [e] at i1 i2 i3
    refine ⟨?_, i2, i3⟩
    rw [List.length_cons, numsL, if_neg (by simp), h1, h2, h3, i1, Int.toNat_of_nonneg (hx x (by simp)).1]
    rfl
theorem map_byteU (l : List Int) : l.map byteU = l.flatMap (fun x => be 1 x.toNat) := by
  induction l with
  | nil => rfl
  | cons x l ih => rw [List.map_cons, List.flatMap_cons, ← ih]; rfl
theorem lvs_of {l : List UInt8} : ∀ (ll : List (List Int)) (p : Nat) (t : List UInt8), l.drop p = ll.flatMap lvB ++ t → p ≤ l.length → (∀ y ∈ ll, y.length < 65536 ∧ ∀ x ∈ y, 0 ≤ x ∧ x < 256) →
    lvsL l ll.length p false = (ll, (p + (ll.flatMap lvB).length, false)) ∧ l.drop (p + (ll.flatMap lvB).length) = t ∧ p + (ll.flatMap lvB).length ≤ l.length
  | [], p, t, h, hp, _ => ⟨by rw [List.length_nil, lvsL]; simp, by simpa using h, by simpa using hp⟩
  | y :: ll, p, t, h, hp, hy => by
    rw [List.flatMap_cons, lvB, map_byteU, List.append_assoc, List.append_assoc] at h
    obtain ⟨h1, h2, h3, h4, h5⟩ := num_of h hp (by have := (hy y (by simp)).1; omega)
    obtain ⟨j1, j2, j3⟩ := nums_of y (p + 2) _ h4 h5 (fun x hx => by have := (hy y (by simp)).2 x hx; exact ⟨this.1, by omega⟩)
    obtain ⟨i1, i2, i3⟩ := lvs_of ll (p + 2 + 1 * y.length) t j2 j3 (fun z hz => hy z (by simp [hz]))
    have e : p + 2 + 1 * y.length + (ll.flatMap lvB).length = p + ((y :: ll).flatMap lvB).length := by
      rw [List.flatMap_cons, List.length_append, lvB, List.length_append, be_length, List.length_map]; omega
    rw [e] at i1 i2 i3
    refine ⟨?_, i2, i3⟩
    rw [List.length_cons, lvsL, if_neg (by simp), h1, h2, h3, j1, i1]

/-- a tree's text, but for its points -/
def hdT (kind : Int) (ids : List Int) (ll : List (List Int)) : List UInt8 := (byteU kind :: be 2 ids.length) ++ ids.flatMap idB ++ (UInt8.ofNat ll.length :: ll.flatMap lvB)
theorem writeT_hd (kind : Int) (ids : List Int) (ll : List (List Int)) (ps : List UInt8) : writeT kind ids ll ps = hdT kind ids ll ++ ps := rfl
structure FitT (kind : Int) (ids : List Int) (ll : List (List Int)) : Prop where
  k : 0 ≤ kind ∧ kind < 256
  i : ids.length < 65536 ∧ ∀ x ∈ ids, 0 ≤ x ∧ x < 4294967296
  l : ll.length < 256 ∧ ∀ y ∈ ll, y.length < 65536 ∧ ∀ x ∈ y, 0 ≤ x ∧ x < 256
theorem head_of {l t : List UInt8} {a : Nat} {kind : Int} {ids : List Int} {ll : List (List Int)} (h : l.drop a = hdT kind ids ll ++ t) (ha : a ≤ l.length) (hf : FitT kind ids ll) :
    kindR l a = kind ∧ (idsR l a).1 = ids ∧ (idsR l a).2.2 = false ∧ lvsR l a = (ll, (a + (hdT kind ids ll).length, false)) ∧ l.drop (a + (hdT kind ids ll).length) = t ∧ a + (hdT kind ids ll).length ≤ l.length := by
  have h0 : l.drop a = be 1 kind.toNat ++ (be 2 ids.length ++ (ids.flatMap idB ++ (be 1 ll.length ++ (ll.flatMap lvB ++ t)))) := by
    rw [h, hdT]
    simp only [List.append_assoc, List.cons_append]
    rfl
  obtain ⟨k1, k2, k3, k4, k5⟩ := num_of h0 ha (by have := hf.k; omega)
  obtain ⟨n1, n2, n3, n4, n5⟩ := num_of k4 k5 (by have := hf.i.1; omega)
  obtain ⟨i1, i2, i3⟩ := nums_of (wd := 4) ids (a + 1 + 2) _ n4 n5 (fun x hx => by have := hf.i.2 x hx; exact ⟨this.1, by omega⟩)
  obtain ⟨m1, m2, m3, m4, m5⟩ := num_of i2 i3 (by have := hf.l.1; omega)
  obtain ⟨l1, l2, l3⟩ := lvs_of ll _ t m4 m5 hf.l.2
  have hi : idsR l a = (ids, (a + 1 + 2 + 4 * ids.length, false)) := by rw [idsR, k2, k3, n1, n2, n3, i1]
  have hq : a + 1 + 2 + 4 * ids.length + 1 + (ll.flatMap lvB).length = a + (hdT kind ids ll).length := by
    have e4 : ∀ xs : List Int, (xs.flatMap idB).length = 4 * xs.length := by
      intro xs
      induction xs with
      | nil => rfl
      | cons x xs ih => rw [List.flatMap_cons, List.length_append, ih, idB, be_length, List.length_cons]; omega
    rw [hdT]
    simp only [List.length_append, List.length_cons, be_length, e4]
    omega
  rw [hq] at l1 l2 l3
  refine ⟨by rw [kindR, k1]; exact Int.toNat_of_nonneg hf.k.1, by rw [hi], by rw [hi], ?_, l2, l3⟩
  rw [lvsR, hi, m1, m2, m3, l1]
theorem fit_of {kind : Int} {ids : List Int} {ll : List (List Int)} (h : mayB kind ids ll = true) : FitT kind ids ll := by
  rw [mayB, Bool.and_eq_true] at h
  obtain ⟨hk, hc⟩ := h
  have hf := few_of_chk hc
  rw [fewT, Bool.and_eq_true, Bool.and_eq_true, decide_eq_true_eq, decide_eq_true_eq, List.all_eq_true] at hf
  obtain ⟨f1, f2, f3⟩ := hf
  rw [chkT, Bool.and_eq_true, Bool.and_eq_true] at hc
  have hi := okI_mem hc.1.2
  have hl := (chkL_ok ll ids.length hc.2).2
  refine ⟨?_, ⟨by omega, fun x hx => by have := hi x hx; omega⟩, by omega, fun y hy => ⟨?_, fun x hx => ?_⟩⟩
  · rw [Bool.or_eq_true, decide_eq_true_eq, decide_eq_true_eq] at hk
    omega
  · have := f1 y hy
    rw [decide_eq_true_eq] at this
    omega
  · have h1 := hl y hy
    rw [in23, List.all_eq_true] at h1
    have h2 := h1 x hx
    rw [Bool.or_eq_true, decide_eq_true_eq, decide_eq_true_eq] at h2
    omega
theorem okG_facts {kind : Int} {ids : List Int} {ll : List (List Int)} {np : Nat} {ps : List UInt8} (h : okG kind ids ll np ps = true) : mayB kind ids ll = true ∧ 0 < np ∧ (nodesI kind ids ll).length = np := by
  rw [okG, Bool.and_eq_true, Bool.and_eq_true, Bool.and_eq_true, decide_eq_true_eq, decide_eq_true_eq] at h
  exact ⟨h.1, by omega, h.2.2.1⟩
/-- what is written is read, whatever stands ahead and behind -/
theorem read_of {l t : List UInt8} {a : Nat} {kind : Int} {ids : List Int} {ll : List (List Int)} {np : Nat} {ps : List UInt8} (h : l.drop a = writeT kind ids ll ps ++ t) (ha : a ≤ l.length) (hok : okG kind ids ll np ps = true) (hps : ps.length = np * 32) :
    readE l (a : Int) = 0 ∧ kindU l (a : Int) = kind ∧ idsU l (a : Int) = ids ∧ lvsU l (a : Int) = ll ∧ manyU l (a : Int) = np ∧ ptsU l (a : Int) = ps ∧ readM l (a : Int) = ((a + (writeT kind ids ll ps).length : Nat) : Int) := by
  obtain ⟨hm, hn0, hn⟩ := okG_facts hok
  rw [writeT_hd, List.append_assoc] at h
  obtain ⟨h1, h2, h3, h4, h5, h6⟩ := head_of h ha (fit_of hm)
  have hmany : manyR l a = np := by rw [manyR, h1, h2, h4]; exact hn
  have hlen : a + (hdT kind ids ll).length + np * 32 ≤ l.length := by
    have : (l.drop (a + (hdT kind ids ll).length)).length = ps.length + t.length := by rw [h5, List.length_append]
    rw [List.length_drop] at this
    omega
  have hpts : ptsR l a = ps := by rw [ptsR, hmany, h4]; show List.take (np * 32) (l.drop (a + (hdT kind ids ll).length)) = ps; rw [h5, List.take_append_of_le_length (by omega), List.take_of_length_le (by omega)]
  have hE : readE l (a : Int) = 0 := by
    rw [readE, if_neg (by omega), Int.toNat_natCast, h4, if_neg (by simp), h1, h2, if_neg (by rw [hm]; simp), hmany, if_neg (by show ¬ l.length < a + (hdT kind ids ll).length + np * 32; omega), hpts, if_neg (by rw [hok]; simp)]
  refine ⟨hE, ?_, ?_, ?_, ?_, ?_, ?_⟩
  · rw [kindU, if_pos hE, Int.toNat_natCast, h1]
  · rw [idsU, if_pos hE, Int.toNat_natCast, h2]
  · rw [lvsU, if_pos hE, Int.toNat_natCast, h4]
  · rw [manyU, if_pos hE, Int.toNat_natCast, hmany]
  · rw [ptsU, if_pos hE, Int.toNat_natCast, hpts]
  · rw [readM, if_pos hE, readN, Int.toNat_natCast, hmany, h4, writeT_hd, List.length_append, hps]
    show ((a + (hdT kind ids ll).length + np * 32 : Nat) : Int) = _
    omega
theorem numsL_tr (l : List UInt8) (wd n p : Nat) : numsL l wd n p true = ([], (p, true)) := by cases n <;> rfl
theorem lvsL_tr (l : List UInt8) (n p : Nat) : lvsL l n p true = ([], (p, true)) := by cases n <;> rfl
theorem num_to {l : List UInt8} {p wd : Nat} (h : numS l p wd false = false) : l.drop p = be wd (numV l p wd) ++ l.drop (p + wd) ∧ numP l p wd false = p + wd ∧ p + wd ≤ l.length ∧ numV l p wd < 256 ^ wd := by
  rw [numS, Bool.false_or, decide_eq_false_iff_not] at h
  have hle : p + wd ≤ l.length := by omega
  have ht : ((l.drop p).take wd).length = wd := by rw [List.length_take, List.length_drop]; omega
  have hv : numV l p wd = val ((l.drop p).take wd) := by rw [numV, if_pos hle]
  refine ⟨?_, by rw [numP, if_pos ⟨hle, rfl⟩], hle, ?_⟩
  · rw [hv, be_val' ht, ← List.drop_drop, List.take_append_drop]
  · rw [hv]
    have := val_lt ((l.drop p).take wd)
    rwa [ht] at this
theorem nums_to {l : List UInt8} {wd : Nat} : ∀ (n p : Nat), p ≤ l.length → (numsL l wd n p false).2.2 = false →
    l.drop p = (numsL l wd n p false).1.flatMap (fun x => be wd x.toNat) ++ l.drop (numsL l wd n p false).2.1 ∧ (numsL l wd n p false).1.length = n ∧ (numsL l wd n p false).2.1 ≤ l.length
  | 0, p, hp, _ => ⟨by simp [numsL], by simp [numsL], by simpa [numsL] using hp⟩
  | n + 1, p, hp, h => by
    rw [numsL, if_neg (by simp)] at h ⊢
    cases hs : numS l p wd false
    · obtain ⟨h1, h2, h3, h4⟩ := num_to hs
      rw [hs] at h
      rw [h2] at h ⊢
      obtain ⟨i1, i2, i3⟩ := nums_to n (p + wd) h3 h
      refine ⟨?_, by simp [i2], i3⟩
      rw [List.flatMap_cons, List.append_assoc, ← i1, Int.toNat_natCast]
      exact h1
    · rw [hs, numsL_tr] at h
      cases h
theorem lvs_to {l : List UInt8} : ∀ (n p : Nat), p ≤ l.length → (lvsL l n p false).2.2 = false →
    l.drop p = (lvsL l n p false).1.flatMap lvB ++ l.drop (lvsL l n p false).2.1 ∧ (lvsL l n p false).1.length = n ∧ (lvsL l n p false).2.1 ≤ l.length
  | 0, p, hp, _ => ⟨by simp [lvsL], by simp [lvsL], by simpa [lvsL] using hp⟩
  | n + 1, p, hp, h => by
    rw [lvsL, if_neg (by simp)] at h ⊢
    cases hs : numS l p 2 false
    · obtain ⟨h1, h2, h3, h4⟩ := num_to hs
      rw [hs] at h
      rw [h2] at h ⊢
      cases hs2 : (numsL l 1 (numV l p 2) (p + 2) false).2.2
      · obtain ⟨j1, j2, j3⟩ := nums_to (numV l p 2) (p + 2) h3 hs2
        rw [hs2] at h
        obtain ⟨i1, i2, i3⟩ := lvs_to n _ j3 h
        refine ⟨?_, by simp [i2], i3⟩
        rw [List.flatMap_cons, lvB, j2, map_byteU, List.append_assoc, List.append_assoc, ← i1, ← j1]
        exact h1
      · rw [hs2, lvsL_tr] at h
        cases h
    · rw [hs, numsL_tr, lvsL_tr] at h
      cases h
/-- what is read is, written, what stood there -/
theorem back_of {l : List UInt8} (h : readE l 0 = 0) : okG (kindU l 0) (idsU l 0) (lvsU l 0) (manyU l 0) (ptsU l 0) = true ∧ (ptsU l 0).length = manyU l 0 * 32 ∧ ∃ n : Nat, readM l 0 = (n : Int) ∧ n ≤ l.length ∧ writeT (kindU l 0) (idsU l 0) (lvsU l 0) (ptsU l 0) = l.take n := by
  rw [kindU, idsU, lvsU, manyU, ptsU, readM, if_pos h, if_pos h, if_pos h, if_pos h, if_pos h, if_pos h]
  rw [readE] at h
  split at h
  · cases h
  split at h
  · cases h
  split at h
  · cases h
  split at h
  · cases h
  split at h
  · cases h
  next h1 h2 h3 h4 h5 =>
  rw [show (0 : Int).toNat = 0 from rfl] at *
  have hok := Bool.of_not_eq_false h5
  have hend : (lvsR l 0).2.1 + manyR l 0 * 32 ≤ l.length := by omega
  have hpl : (ptsR l 0).length = manyR l 0 * 32 := by rw [ptsR, List.length_take, List.length_drop]; omega
  refine ⟨hok, hpl, (lvsR l 0).2.1 + manyR l 0 * 32, rfl, hend, ?_⟩
  rw [writeT_hd]
  have hl2 : (lvsR l 0).2.2 = false := by simpa using h2
  -- the flags one by one
  have f3 : numS l (idsR l 0).2.1 1 (idsR l 0).2.2 = false := by
    cases hc : numS l (idsR l 0).2.1 1 (idsR l 0).2.2
    · rfl
    · rw [lvsR, hc, lvsL_tr] at hl2
      cases hl2
  have f2 : (idsR l 0).2.2 = false := by
    cases hc : (idsR l 0).2.2
    · rfl
    · rw [numS, hc] at f3
      cases f3
  rw [f2] at f3
  have f1 : numS l (numP l 0 1 false) 2 (numS l 0 1 false) = false := by
    cases hc : numS l (numP l 0 1 false) 2 (numS l 0 1 false)
    · rfl
    · rw [idsR, hc, numsL_tr] at f2
      cases f2
  have f0 : numS l 0 1 false = false := by
    cases hc : numS l 0 1 false
    · rfl
    · rw [numS, hc] at f1
      cases f1
  obtain ⟨a1, a2, a3, a4⟩ := num_to f0
  rw [f0, a2] at f1
  obtain ⟨b1, b2, b3, b4⟩ := num_to f1
  have hid : idsR l 0 = numsL l 4 (numV l (0 + 1) 2) (0 + 1 + 2) false := by rw [idsR, f0, a2, f1, b2]
  obtain ⟨c1, c2, c3⟩ := nums_to (wd := 4) (numV l (0 + 1) 2) (0 + 1 + 2) b3 (by rw [← hid]; exact f2)
  rw [← hid] at c1 c2 c3
  obtain ⟨d1, d2, d3, d4⟩ := num_to f3
  have hlv : lvsR l 0 = lvsL l (numV l (idsR l 0).2.1 1) ((idsR l 0).2.1 + 1) false := by rw [lvsR, f2, f3, d2]
  obtain ⟨e1, e2, e3⟩ := lvs_to (numV l (idsR l 0).2.1 1) ((idsR l 0).2.1 + 1) d3 (by rw [← hlv]; exact hl2)
  rw [← hlv] at e1 e2 e3
  have hall : l = hdT (kindR l 0) (idsR l 0).1 (lvsR l 0).1 ++ l.drop (lvsR l 0).2.1 := by
    have hh : hdT (kindR l 0) (idsR l 0).1 (lvsR l 0).1 = be 1 (numV l 0 1) ++ (be 2 (numV l (0 + 1) 2) ++ ((idsR l 0).1.flatMap (fun x => be 4 x.toNat) ++ (be 1 (numV l (idsR l 0).2.1 1) ++ (lvsR l 0).1.flatMap lvB))) := by
      rw [hdT, c2, e2, kindR, byteU, Int.toNat_natCast]
      simp only [List.append_assoc, List.cons_append]
      rfl
    rw [hh, List.append_assoc, List.append_assoc, List.append_assoc, List.append_assoc, ← e1, ← d1, ← c1, ← b1, ← a1, List.drop_zero]
  have hhl : (hdT (kindR l 0) (idsR l 0).1 (lvsR l 0).1).length = (lvsR l 0).2.1 := by
    have := congrArg List.length hall
    rw [List.length_append, List.length_drop] at this
    omega
  rw [List.take_add, ptsR]
  congr 1
  have h9 := congrArg (List.take (lvsR l 0).2.1) hall
  rw [List.take_append_of_le_length (Nat.le_of_eq hhl.symm), List.take_of_length_le (Nat.le_of_eq hhl)] at h9
  exact h9.symm
theorem hdT_le {kind : Int} {ids : List Int} {ll : List (List Int)} (h : fewT ids ll = true) : (hdT kind ids ll).length ≤ 100000 := by
  rw [fewT, Bool.and_eq_true, Bool.and_eq_true, decide_eq_true_eq, decide_eq_true_eq, List.all_eq_true] at h
  obtain ⟨h3, h1, h2⟩ := h
  have e1 := flat_le (f := idB) (m := 4) ids (fun x _ => by rw [idB, be_length]; exact Nat.le_refl _)
  have e2 := flat_le (f := lvB) (m := 1102) ll (fun x hx => by
    have := h3 x hx
    rw [decide_eq_true_eq] at this
    rw [lvB, List.length_append, be_length, List.length_map]
    omega)
  rw [hdT]
  simp only [List.length_append, List.length_cons, be_length]
  omega

end Go.Proofs.YtlidhdljgnijaaaDoor

/-
  THE WALK of coterielaw13.TagBack over what the program's functions are asked to do.
-/
set_option linter.unusedVariables false
namespace Go.Proofs.YtlidhdljgnijaaaDoor
open Go.RowKit

set_option maxRecDepth 100000 in
set_option maxHeartbeats 16000000 in
theorem walkH_TagBack (hC : HGC) (hS : HGS) (hU : HGU) (hW : HGW) (hM : HGM) (hR : HGR) (kind : Int) (Ai : Option Addr) (ni ci : Nat) (Al : Option Addr) (nl cl : Nat) (ids : List Int) (ll : List (List Int)) (Ap : Option Addr) (np cp : Nat) (ps : List UInt8)
    (Aa : Option Addr) (na ca : Nat) (la : List UInt8) (Ae : Option Addr) (ne ce : Nat) (le : List UInt8) (Ab : Option Addr) (nb cb : Nat) (lb : List UInt8) (w : World)
    (h : TgR w w.heap.size Ai ni ci Al nl cl ids ll Ap np cp ps) (hca : na ≤ ca) (hma : ca ≤ maxLen) (hra : Rd w w.heap.size Aa na (la.map bv)) (hce : ne ≤ ce) (hme : ce ≤ maxLen) (hre : Rd w w.heap.size Ae ne (le.map bv))
    (hcb : nb ≤ cb) (hmb : cb ≤ maxLen) (hrb : Rd w w.heap.size Ab nb (lb.map bv)) (hT : CTab w) :
    Calls Tryd.prog 5 #[.agg (tgV kind Ai ni ci Al nl cl Ap np cp), .slice Aa na ca, .slice Ae ne ce, .slice Ab nb cb] w fun e w' => e = .returned (.bool true) ∧ Below w.heap.size w w' := by
  obtain ⟨i0, hi0, hz0, hz1, hz2⟩ := info_parts byteInfo
  have hM0 := (Ms.nil w).box 28 (tgV kind Ai ni ci Al nl cl Ap np cp)
  go_enter Tryd.func5, Tryd.ntmps5
  go_upto_region 1 with fail
  try simp only [Act.put]
  obtain ⟨g, hg⟩ : ∃ g, g = w.heap.size := ⟨_, rfl⟩
  rw [← hg] at hM0 ⊢
  refine wp_gen (fun wx => Ms w wx [(g, 28, (tgV kind Ai ni ci Al nl cl Ap np cp))]) hM0 ?_
  have Hg := Lib.hid hg
  clear hM0 hg
  rintro w0 hM0
  go_wp2_with fail
  refine (live13 hC hS hU _ (hT.below hM0.old)).mono ?_
  rintro e w1 ⟨he, hb1⟩
  subst he
  have hM1 := hM0.call hb1
  clear hM0 hb1
  have hr1 := hM1.get 0 rfl
  have hf1 := RFew13 kind Ai ni ci Al nl cl ids ll Ap np cp ps w1 ((h.below hM1.old).more hM1.old.size)
  go_wp2_with ((with_reducible show wpList _ _ _ (⟨some 25, _, _, _, _, _⟩ :: _) _ _); refine wpList_loadC (by kernel_rfl) 28 (.tmp 4) rfl g rfl 28 (tgV kind Ai ni ci Al nl cl Ap np cp) _ hr1 Tryd.underlying28 rfl tgInfo2 ?_)
  refine hf1.mono ?_
  rintro e w2 ⟨he, hb2⟩
  subst he
  have hM2 := hM1.call hb2
  clear hM1 hb2 hr1 hf1
  by_cases hfw : fewG ids ll np = true
  rotate_left
  · rw [Bool.eq_false_iff.2 hfw]
    have hold := hM2.old
    clear hM2
    go_wp2_with fail
    go_ret
    exact ⟨rfl, hold⟩
  rw [hfw]
  rw [fewG, Bool.and_eq_true, Bool.and_eq_true, decide_eq_true_eq, decide_eq_true_eq] at hfw
  obtain ⟨hf, _, hnp⟩ := hfw
  by_cases hna : 200 < na
  · have z1 : (200 : Int) < (na : Int) := by omega
    have hold := hM2.old
    clear hM2
    go_wp2_with fail
    go_ret
    exact ⟨rfl, hold⟩
  have z1 : ¬ (200 : Int) < (na : Int) := by omega
  by_cases hne : 200 < ne
  · have z2 : (200 : Int) < (ne : Int) := by omega
    have hold := hM2.old
    clear hM2
    go_wp2_with fail
    go_ret
    exact ⟨rfl, hold⟩
  have z2 : ¬ (200 : Int) < (ne : Int) := by omega
  by_cases hnb : 6000 < nb
  · have z3 : (6000 : Int) < (nb : Int) := by omega
    have hold := hM2.old
    clear hM2
    go_wp2_with fail
    go_ret
    exact ⟨rfl, hold⟩
  have z3 : ¬ (6000 : Int) < (nb : Int) := by omega
  have h4 := hR Ab nb cb lb 0 w2 ((hrb.below hM2.old).more hM2.old.size) hcb hmb (by omega) (by omega) (by omega)
  go_upto_region 4 with fail
  rename_i K1 hK1 K2 hK2
  have hall : ∀ (v10 v11 v12 v13 v14 v25 v26 v27 v28 v29 v30 v31 v32 v33 v34 v35 v36 v37 v38 v39 v40 v41 v42 v43 v44 v45 v46 v47 v48 v49 v50 v51 v52 v53 v54 v55 v56 v57 v58 v59 v60 v61 v62 v63 v64 v65 v66 v67 v68 v69 v70 v71 v72 : Value) (wr : World), Ms w wr [(g, 28, tgV kind Ai ni ci Al nl cl Ap np cp)] → K1 ⟨#[.agg (tgV kind Ai ni ci Al nl cl Ap np cp), .slice Aa na ca, .slice Ae ne ce, .slice Ab nb cb, .pointer (some ⟨g, 0, none⟩), undef, undef, undef, .bool false, .bool true, v10, v11, v12, v13, v14, undef, undef, undef, undef, undef, undef, undef, undef, undef, .bool true, v25, v26, v27, v28, v29, v30, v31, v32, v33, v34, v35, v36, v37, v38, v39, v40, v41, v42, v43, v44, v45, v46, v47, v48, v49, v50, v51, v52, v53, v54, v55, v56, v57, v58, v59, v60, v61, v62, v63, v64, v65, v66, v67, v68, v69, v70, v71, v72, undef, undef, undef, undef, undef, undef, undef, undef, undef, undef, undef, undef, undef, undef, undef, undef, undef, undef, undef, undef, undef, undef, undef, undef, undef, undef, undef, undef, undef, undef, undef, undef, undef, undef, undef, undef, undef, undef, undef, undef, undef, undef, undef, undef, undef, undef, undef, undef, undef, undef, undef, undef, undef, undef, undef, undef, undef, undef, undef, undef, undef, undef, undef, undef, undef, undef, undef, undef, undef, undef, undef, undef], []⟩ wr := by
    intro v10 v11 v12 v13 v14 v25 v26 v27 v28 v29 v30 v31 v32 v33 v34 v35 v36 v37 v38 v39 v40 v41 v42 v43 v44 v45 v46 v47 v48 v49 v50 v51 v52 v53 v54 v55 v56 v57 v58 v59 v60 v61 v62 v63 v64 v65 v66 v67 v68 v69 v70 v71 v72 wr hMr
    refine hK1 _ _ ?_
    clear hK1 hK2 h4 hM2
    have h9 := hW kind Ai ni ci Al nl cl ids ll Ap np cp ps wr ((h.below hMr.old).more hMr.old.size) hf
    have hr9 := hMr.get 0 rfl
    go_wp2_with ((with_reducible show wpList _ _ _ (⟨some 74, _, _, _, _, _⟩ :: _) _ _); refine wpList_loadC (by kernel_rfl) 28 (.tmp 4) rfl g rfl 28 (tgV kind Ai ni ci Al nl cl Ap np cp) _ hr9 Tryd.underlying28 rfl tgInfo2 ?_)
    refine h9.mono ?_
    rintro e w1 ⟨hb1, ⟨hno, he⟩ | ⟨hok, A1, n1, c1, he, hown1⟩⟩
    · subst he
      have hM1 := hMr.call hb1
      have hck := hC kind Ai ni ci Al nl cl ids ll Ap np cp ps w1 ((h.below hM1.old).more hM1.old.size) hf
      rw [show chkG kind ids ll np ps = 1 by rw [chkG, if_neg (by rw [hno]; simp)]] at hck
      have hr1 := hM1.get 0 rfl
      clear h9 hMr hr9 hb1
      go_wp2_with ((with_reducible show wpList _ _ _ (⟨some 86, _, _, _, _, _⟩ :: _) _ _); refine wpList_loadC (by kernel_rfl) 28 (.tmp 4) rfl g rfl 28 (tgV kind Ai ni ci Al nl cl Ap np cp) _ hr1 Tryd.underlying28 rfl tgInfo2 ?_)
      refine hck.mono ?_
      rintro e w2 ⟨he, hb2⟩
      subst he
      have hfin := c_call hM1.old hb2
      clear hck hM1 hr1 hb2
      go_wp2_with fail
      go_ret
      exact ⟨rfl, hfin⟩
    subst he
    have hM1 := hMr.call hb1
    have hcp2 := Copy_any Aa na ca la w1 (by omega) ((hra.below hM1.old).more hM1.old.size)
    have hlps := h.pts.len
    have hln1 : (writeT kind ids ll ps).length = n1 := by have := (Rd.of_own hown1).len; rwa [List.length_map] at this
    have hn1 : n1 ≤ 200000 := by
      rw [← hln1, writeT_hd, List.length_append, hlps]
      have := hdT_le (kind := kind) hf
      omega
    have hlna : la.length = na := by have := hra.len; rwa [List.length_map] at this
    have hlne : le.length = ne := by have := hre.len; rwa [List.length_map] at this
    obtain ⟨c11, c12⟩ : n1 ≤ c1 ∧ c1 ≤ maxLen := by
      obtain ⟨Ao, co, ea, h1, h2⟩ := own_formT hown1
      injection ea with e1 e2 e3
      subst e3
      exact ⟨h1, h2⟩
    clear h9 hMr hr9
    go_wp2_with fail
    refine hcp2.mono ?_
    rintro e w2 ⟨A2, c2, he, hown2, hb2⟩
    subst he
    have hM2 := hM1.call hb2
    have hr1 := ((Rd.of_own hown1).below hb2).more hb2.size
    have hsw := hM1.old.size
    have hs12 := hb2.size
    have hg1 := (hM1.get 0 rfl).lt
    clear hcp2 hM1 hown1 hb1
    go_wp2_with (first
      | (at_builtin; refine wpList_append_rd _ rfl (.tmp 92) (.tmp 93) _ rfl w1.heap.size 5 i0 _ 1 Tryd.underlying41 hi0 hz0 hz1 hz2 rfl (.slice A2 na c2) na (la.map bv) rfl hown2 w2.heap.size A1 n1 c1 ((writeT kind ids ll ps).map bv) rfl hr1 (one_bv _) (by simp only [maxLen]; omega) (by omega) (by omega) ?_; intro v3 w3 hown3 hgr3 hat3; rw [← List.map_append] at hown3; obtain ⟨A3, c3, rfl, _, _⟩ := own_formT hown3; have hM3 := hM2.grownT hgr3 (fun q hq => by have := (hown2.lt q hq).1; omega) (fun p hp q hq => by have := (hown2.lt q hq).1; simp only [List.mem_cons, List.not_mem_nil, or_false] at hp; rcases hp with rfl; simp; omega); have hre3 := (hre.below hM3.old).more hM3.old.size; have hs3 := hgr3.size)
      | (at_builtin; refine wpList_append_rd _ rfl (.tmp 94) (.tmp 95) _ rfl w1.heap.size 5 i0 _ 1 Tryd.underlying41 hi0 hz0 hz1 hz2 rfl (.slice A3 (na + n1) c3) (na + n1) ((la ++ writeT kind ids ll ps).map bv) rfl hown3 w3.heap.size Ae ne ce (le.map bv) rfl hre3 (one_bv _) (by simp only [maxLen]; omega) (by omega) (by omega) ?_; intro v4 w4 hown4 hgr4 hat4; rw [← List.map_append] at hown4; obtain ⟨A4, c4, rfl, c41, c42⟩ := own_formT hown4; have hM4 := hM3.grownT hgr4 (fun q hq => by have := (hown3.lt q hq).1; omega) (fun p hp q hq => by have := (hown3.lt q hq).1; simp only [List.mem_cons, List.not_mem_nil, or_false] at hp; rcases hp with rfl; simp; omega)))
    have hL4 : ((la ++ writeT kind ids ll ps) ++ le).drop na = writeT kind ids ll ps ++ le := by
      rw [List.append_assoc, ← hlna, List.drop_append_of_le_length (Nat.le_refl _), List.drop_length, List.nil_append]
    obtain ⟨e1, e2, e3, e4, e5, e6, e7⟩ := read_of (l := (la ++ writeT kind ids ll ps) ++ le) (a := na) hL4 (by simp only [List.length_append]; omega) hok hlps
    have h12 := hR A4 (na + n1 + ne) c4 ((la ++ writeT kind ids ll ps) ++ le) (na : Int) w4 (Rd.of_own hown4) c41 c42 (by omega) (by omega) (by omega)
    refine h12.mono ?_
    rintro e w5 h5
    obtain ⟨hb5, Au, nu, cu, Bu, mu, du, Pu, eu, he, hT5⟩ := h5.gen
    rw [e1, e2, e5, e7, hln1] at he
    rw [e3, e4, e5, e6] at hT5
    subst he
    have hM5 := (hM4.call hb5).put 28 #[.int .i64 0, .slice none 0 0, .slice none 0 0, .slice none 0 0] (tgV kind Au nu cu Bu mu du Pu np eu)
    have hTu := hT5.below (below_setRow (d_al w5 (.cells #[.int .i64 0, .slice none 0 0, .slice none 0 0, .slice none 0 0] 28)) (Nat.le_refl _) (tgV kind Au nu cu Bu mu du Pu np eu))
    obtain ⟨gx, hgx⟩ : ∃ gx, gx = w5.heap.size := ⟨_, rfl⟩
    have Hok := Lib.hid hok
    have HB := Lib.hid (fun wx (hb : Below w.heap.size w wx) => (h.below hb).more hb.size)
    clear h12 h5 hT5 hb5 hM4 hown4 hgr4 hat4 hM3 hown3 hgr3 hat3 hre3 hM2 hown2 hb2 hr1 e1 e2 e3 e4 e5 e6 e7 hL4 c41 c42 hok hs3 hsw hs12 hg1 h
    go_upto_region 13 with ((with_reducible show wpList _ _ _ (⟨none, Op.store 28 _ _, _, _, _, _⟩ :: _) _ _); refine wpList_store_row rfl 28 (.tmp 17) _ rfl w5.heap.size (tgV kind Au nu cu Bu mu du Pu np eu) rfl rfl 28 _ (RowC.new _ _ _) tgInfo2 rfl (by simp [tgV, Value.oneCell']) ?_)
    try simp only [Act.put]
    rw [← hgx] at hM5 hTu ⊢
    refine wp_gen (fun wx => TgR wx gx Au nu cu Bu mu du ids ll Pu np eu ps ∧ Ms w wx [(gx, 28, (tgV kind Au nu cu Bu mu du Pu np eu)), (g, 28, (tgV kind Ai ni ci Al nl cl Ap np cp))]) ⟨hTu, hM5⟩ ?_
    clear hTu hM5 hgx
    clear w5
    rintro w5 ⟨hTu, hM5⟩
    have hkl0 : (sumG kind ids ll np ps).length = 32 := by
      rw [sumG]
      split
      · next hok => exact keyI_len (sumsT_len hok) (by have := okG_np hok; omega)
      · rfl
    have h13 := fun wx (hb : Below w.heap.size w wx) => hU kind Ai ni ci Al nl cl ids ll Ap np cp ps wx (HB.out wx hb) hf (hT.below hb)
    have h14 := fun wx (hb : Below w.heap.size w wx) (ht : TgR wx wx.heap.size Au nu cu Bu mu du ids ll Pu np eu ps) => hU kind Au nu cu Bu mu du ids ll Pu np eu ps wx ht hf (hT.below hb)
    rw [show chkG kind ids ll np ps = 0 by rw [chkG, if_pos Hok.out]] at h13 h14
    generalize sumG kind ids ll np ps = k at *
    have Hkl := Lib.hid hkl0
    have Hsa := Lib.hid (sizeKey hkl0)
    have Hone := Lib.hid (one_keyF k)
    clear hkl0
    have hq13 := h13 w5 hM5.old
    have hrx := hM5.get 1 rfl
    have hg5 := (hM5.get 0 rfl).lt
    go_wp2_with ((with_reducible show wpList _ _ _ (⟨some 104, _, _, _, _, _⟩ :: _) _ _); refine wpList_loadC (by kernel_rfl) 28 (.tmp 4) rfl g rfl 28 (tgV kind Ai ni ci Al nl cl Ap np cp) _ hrx Tryd.underlying28 rfl tgInfo2 ?_)
    refine hq13.mono ?_
    rintro e w6 ⟨he, hb6⟩
    subst he
    have hM6 := (hM5.call hb6).put 36 #[.int .u8 0, .int .u8 0, .int .u8 0, .int .u8 0, .int .u8 0, .int .u8 0, .int .u8 0, .int .u8 0, .int .u8 0, .int .u8 0, .int .u8 0, .int .u8 0, .int .u8 0, .int .u8 0, .int .u8 0, .int .u8 0, .int .u8 0, .int .u8 0, .int .u8 0, .int .u8 0, .int .u8 0, .int .u8 0, .int .u8 0, .int .u8 0, .int .u8 0, .int .u8 0, .int .u8 0, .int .u8 0, .int .u8 0, .int .u8 0, .int .u8 0, .int .u8 0] (keyC k)
    have hTu6 := hTu.below ((c_call hb6 (below_setRow (d_al w6 (.cells #[.int .u8 0, .int .u8 0, .int .u8 0, .int .u8 0, .int .u8 0, .int .u8 0, .int .u8 0, .int .u8 0, .int .u8 0, .int .u8 0, .int .u8 0, .int .u8 0, .int .u8 0, .int .u8 0, .int .u8 0, .int .u8 0, .int .u8 0, .int .u8 0, .int .u8 0, .int .u8 0, .int .u8 0, .int .u8 0, .int .u8 0, .int .u8 0, .int .u8 0, .int .u8 0, .int .u8 0, .int .u8 0, .int .u8 0, .int .u8 0, .int .u8 0, .int .u8 0] 36)) (Nat.le_refl _) (keyC k))).mono (Nat.le_of_lt hg5))
    obtain ⟨gk, hgk⟩ : ∃ gk, gk = w6.heap.size := ⟨_, rfl⟩
    clear hq13 hrx hM5 hTu hg5 hb6
    go_upto_region 14 with ((with_reducible show wpList _ _ _ (⟨none, Op.store 36 _ _, _, _, _, _⟩ :: _) _ _); refine wpList_store_row rfl 36 (.tmp 20) (.tmp 106) rfl w6.heap.size (keyC k) rfl rfl 36 _ (RowC.new _ _ _) Hsa.out (by rw [keyC_size, Hkl.out]; rfl) Hone.out ?_)
    try simp only [Act.put]
    rw [← hgk] at hM6 hTu6 ⊢
    refine wp_gen (fun wx => TgR wx gx Au nu cu Bu mu du ids ll Pu np eu ps ∧ Ms w wx [(gk, 36, (keyC k)), (gx, 28, (tgV kind Au nu cu Bu mu du Pu np eu)), (g, 28, (tgV kind Ai ni ci Al nl cl Ap np cp))]) ⟨hTu6, hM6⟩ ?_
    clear hTu6 hM6 hgk
    clear w6
    rintro w6 ⟨hTu, hM6⟩
    have hg6 := (hM6.get 1 rfl).lt
    have hq14 := h14 w6 hM6.old (hTu.more (Nat.le_of_lt hg6))
    have hrx := hM6.get 1 rfl
    go_wp2_with ((with_reducible show wpList _ _ _ (⟨some 109, _, _, _, _, _⟩ :: _) _ _); refine wpList_loadC (by kernel_rfl) 28 (.tmp 17) rfl gx rfl 28 (tgV kind Au nu cu Bu mu du Pu np eu) _ hrx Tryd.underlying28 rfl tgInfo2 ?_)
    refine hq14.mono ?_
    rintro e w7 ⟨he, hb7⟩
    subst he
    have hM7 := (hM6.call hb7).put 36 #[.int .u8 0, .int .u8 0, .int .u8 0, .int .u8 0, .int .u8 0, .int .u8 0, .int .u8 0, .int .u8 0, .int .u8 0, .int .u8 0, .int .u8 0, .int .u8 0, .int .u8 0, .int .u8 0, .int .u8 0, .int .u8 0, .int .u8 0, .int .u8 0, .int .u8 0, .int .u8 0, .int .u8 0, .int .u8 0, .int .u8 0, .int .u8 0, .int .u8 0, .int .u8 0, .int .u8 0, .int .u8 0, .int .u8 0, .int .u8 0, .int .u8 0, .int .u8 0] (keyC k)
    have hTu7 := hTu.below ((c_call hb7 (below_setRow (d_al w7 (.cells #[.int .u8 0, .int .u8 0, .int .u8 0, .int .u8 0, .int .u8 0, .int .u8 0, .int .u8 0, .int .u8 0, .int .u8 0, .int .u8 0, .int .u8 0, .int .u8 0, .int .u8 0, .int .u8 0, .int .u8 0, .int .u8 0, .int .u8 0, .int .u8 0, .int .u8 0, .int .u8 0, .int .u8 0, .int .u8 0, .int .u8 0, .int .u8 0, .int .u8 0, .int .u8 0, .int .u8 0, .int .u8 0, .int .u8 0, .int .u8 0, .int .u8 0, .int .u8 0] 36)) (Nat.le_refl _) (keyC k))).mono (Nat.le_of_lt hg6))
    obtain ⟨gl, hgl⟩ : ∃ gl, gl = w7.heap.size := ⟨_, rfl⟩
    clear hq14 hrx hM6 hTu hg6 hb7
    go_upto_region 15 with ((with_reducible show wpList _ _ _ (⟨none, Op.store 36 _ _, _, _, _, _⟩ :: _) _ _); refine wpList_store_row rfl 36 (.tmp 22) (.tmp 111) rfl w7.heap.size (keyC k) rfl rfl 36 _ (RowC.new _ _ _) Hsa.out (by rw [keyC_size, Hkl.out]; rfl) Hone.out ?_)
    try simp only [Act.put]
    rw [← hgl] at hM7 hTu7 ⊢
    refine wp_gen (fun wx => TgR wx gx Au nu cu Bu mu du ids ll Pu np eu ps ∧ Ms w wx [(gl, 36, (keyC k)), (gk, 36, (keyC k)), (gx, 28, (tgV kind Au nu cu Bu mu du Pu np eu)), (g, 28, (tgV kind Ai ni ci Al nl cl Ap np cp))]) ⟨hTu7, hM7⟩ ?_
    clear hTu7 hM7 hgl
    clear w7
    rintro w7 ⟨hTu, hM7⟩
    have hsm := hM kind Ai ni ci Al nl cl ids ll Ap np cp ps kind Au nu cu Bu mu du ids ll Pu np eu ps w7 (HB.out w7 hM7.old) (hTu.more (Nat.le_of_lt (hM7.get 2 rfl).lt)) (by omega) (by omega) hf hf
    rw [sameG_self] at hsm
    have r0 := hM7.get 3 rfl
    have r1 := hM7.get 2 rfl
    have zw : IntKind.i64.wrap ((na : Int) + (n1 : Int)) = ((na + n1 : Nat) : Int) := by rw [IntKind.wrap_i64]; omega
    go_wp2_with (first
      | ((with_reducible show wpList _ _ _ (⟨some 119, _, _, _, _, _⟩ :: _) _ _); refine wpList_loadC (by kernel_rfl) 28 (.tmp 4) rfl g rfl 28 (tgV kind Ai ni ci Al nl cl Ap np cp) _ r0 Tryd.underlying28 rfl tgInfo2 ?_)
      | ((with_reducible show wpList _ _ _ (⟨some 120, _, _, _, _, _⟩ :: _) _ _); refine wpList_loadC (by kernel_rfl) 28 (.tmp 17) rfl gx rfl 28 (tgV kind Au nu cu Bu mu du Pu np eu) _ r1 Tryd.underlying28 rfl tgInfo2 ?_))
    refine hsm.mono ?_
    rintro e w8 ⟨he, hb8⟩
    subst he
    have hM8 := hM7.call hb8
    have hfin := hM8.old
    have r2 := hM8.get 1 rfl
    have r3 := hM8.get 0 rfl
    have hq := fun wx : World => eql_keyK wx k k Hkl.out Hkl.out
    simp only [beq_self_eq_true] at hq
    clear hsm hM7 hTu r0 r1 hb8 hM8 h13 h14
    go_wp2_with (first
      | ((with_reducible show wpList _ _ _ (⟨some 141, _, _, _, _, _⟩ :: _) _ _); refine wpList_loadC (by kernel_rfl) 36 (.tmp 20) rfl gk rfl 36 (keyC k) _ r2 Tryd.underlying36 rfl Hsa.out ?_)
      | ((with_reducible show wpList _ _ _ (⟨some 142, _, _, _, _, _⟩ :: _) _ _); refine wpList_loadC (by kernel_rfl) 36 (.tmp 22) rfl gl rfl 36 (keyC k) _ r3 Tryd.underlying36 rfl Hsa.out ?_))
    go_ret
    exact ⟨rfl, hfin⟩
  have Hall := Lib.hid hall
  clear hall hK1
  go_wp2_with fail
  refine h4.mono ?_
  rintro e w3 h3
  obtain ⟨hb3, Au, nu, cu, Bu, mu, du, Pu, eu, he, hT3⟩ := h3.gen
  subst he
  clear h3 h4
  have hM3 := (hM2.call hb3).put 28 #[.int .i64 0, .slice none 0 0, .slice none 0 0, .slice none 0 0] (tgV (kindU lb 0) Au nu cu Bu mu du Pu (manyU lb 0) eu)
  have hTu := hT3.below (below_setRow (d_al w3 (.cells #[.int .i64 0, .slice none 0 0, .slice none 0 0, .slice none 0 0] 28)) (Nat.le_refl _) (tgV (kindU lb 0) Au nu cu Bu mu du Pu (manyU lb 0) eu))
  obtain ⟨gu, hgu⟩ : ∃ gu, gu = w3.heap.size := ⟨_, rfl⟩
  go_upto_region 5 with ((with_reducible show wpList _ _ _ (⟨none, Op.store 28 _ _, _, _, _, _⟩ :: _) _ _); refine wpList_store_row rfl 28 (.tmp 10) _ rfl w3.heap.size (tgV (kindU lb 0) Au nu cu Bu mu du Pu (manyU lb 0) eu) rfl rfl 28 _ (RowC.new _ _ _) tgInfo2 rfl (by simp [tgV, Value.oneCell']) ?_)
  try simp only [Act.put]
  rw [← hgu] at hM3 hTu ⊢
  refine wp_gen (fun wx => TgR wx gu Au nu cu Bu mu du (idsU lb 0) (lvsU lb 0) Pu (manyU lb 0) eu (ptsU lb 0) ∧ Ms w wx [(gu, 28, tgV (kindU lb 0) Au nu cu Bu mu du Pu (manyU lb 0) eu), (g, 28, tgV kind Ai ni ci Al nl cl Ap np cp)]) ⟨hTu, hM3⟩ ?_
  clear hTu hM3 hT3 hM2 hb3 hgu
  clear w3
  rintro w3 ⟨hTu, hM3⟩
  by_cases hE : readE lb 0 = 0
  rotate_left
  · have hM9 := hM3.subT (L' := [(g, 28, tgV kind Ai ni ci Al nl cl Ap np cp)]) (fun p hp => by simp only [List.mem_cons, List.not_mem_nil, or_false] at hp ⊢; exact .inr hp)
    clear hTu hM3
    generalize readE lb 0 = er at *
    go_wp2_with fail
    exact Hall.out _ _ _ _ _ _ _ _ _ _ _ _ _ _ _ _ _ _ _ _ _ _ _ _ _ _ _ _ _ _ _ _ _ _ _ _ _ _ _ _ _ _ _ _ _ _ _ _ _ _ _ _ _ w3 hM9
  obtain ⟨hokb, hplb, n, hn, hnl, hwr⟩ := back_of hE
  rw [hE, hn]
  obtain ⟨hmb2, hn0, _⟩ := okG_facts hokb
  have hfb : fewT (idsU lb 0) (lvsU lb 0) = true := few_of_chk (by rw [mayB, Bool.and_eq_true] at hmb2; exact hmb2.2)
  have hlt := (hM3.get 0 rfl).lt
  have h6 := hW (kindU lb 0) Au nu cu Bu mu du (idsU lb 0) (lvsU lb 0) Pu (manyU lb 0) eu (ptsU lb 0) w3 (hTu.more (by omega)) hfb
  rw [hokb] at h6
  have hru := hM3.get 0 rfl
  go_wp2_with ((with_reducible show wpList _ _ _ (⟨some 53, _, _, _, _, _⟩ :: _) _ _); refine wpList_loadC (by kernel_rfl) 28 (.tmp 10) rfl gu rfl 28 (tgV (kindU lb 0) Au nu cu Bu mu du Pu (manyU lb 0) eu) _ hru Tryd.underlying28 rfl tgInfo2 ?_)
  refine h6.mono ?_
  rintro e w4 ⟨hb4, ⟨hno, _⟩ | ⟨_, A6, n6, c6, he, hown6⟩⟩
  · cases hno
  subst he
  have hM4 := hM3.call hb4
  have hll : lb.length = nb := by have := hrb.len; rwa [List.length_map] at this
  have hwl : (writeT (kindU lb 0) (idsU lb 0) (lvsU lb 0) (ptsU lb 0)).length = n := by rw [hwr, List.length_take]; omega
  have hn1 : 1 ≤ n := by rw [← hwl, writeT_hd, hdT]; simp only [List.length_append, List.length_cons]; omega
  have hrb4 := (hrb.below hM4.old).more hM4.old.size
  obtain ⟨bb, ob, rfl, hbb, hcc⟩ := hrb4.pos (show 0 < nb by omega)
  have hcut : Rd w4 w4.heap.size (some ⟨bb, ob, none⟩) n ((lb.take n).map bv) := ⟨by rw [List.length_map, List.length_take]; omega, fun _ => ⟨bb, ob, rfl, hbb, fun j u hu => by
    rw [List.getElem?_map, List.getElem?_take] at hu
    split at hu
    · exact hcc j u (by rw [List.getElem?_map]; exact hu)
    · cases hu⟩⟩
  have hr6 := Rd.of_own hown6
  rw [hwr] at hr6
  have hn6 : n6 = n := by have := hr6.len; rw [List.length_map, List.length_take] at this; omega
  subst hn6
  have hq := Same_any A6 (some ⟨bb, ob, none⟩) n6 c6 n6 cb (lb.take n6) (lb.take n6) w4 _ _ hr6 hcut
  rw [sameB_refl] at hq
  have hM9 := hM4.subT (L' := [(g, 28, tgV kind Ai ni ci Al nl cl Ap np cp)]) (fun p hp => by simp only [List.mem_cons, List.not_mem_nil, or_false] at hp ⊢; exact .inr hp)
  have y1 : ¬ (nb : Int) < (n6 : Int) := by omega
  have y2 : ¬ cb = 0 := by omega
  have y3 : (n6 : Int) ≤ (cb : Int) := by omega
  clear h6 hru hM3 hTu hM4 hrb4 hcut hr6 hcc hwr hwl hown6 hb4 hn hokb hplb
  go_wp2_with fail
  refine hq.mono ?_
  rintro e w5 ⟨he, rfl⟩
  subst he
  clear hq
  go_wp2_with fail
  exact Hall.out _ _ _ _ _ _ _ _ _ _ _ _ _ _ _ _ _ _ _ _ _ _ _ _ _ _ _ _ _ _ _ _ _ _ _ _ _ _ _ _ _ _ _ _ _ _ _ _ _ _ _ _ _ w4 hM9

end Go.Proofs.YtlidhdljgnijaaaDoor

