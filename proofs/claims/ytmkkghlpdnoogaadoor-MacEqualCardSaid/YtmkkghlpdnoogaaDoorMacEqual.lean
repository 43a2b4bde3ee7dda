/-
  THE WALK of MacEqual (coterielaw03).
-/
import Derived.Test.YtmkkghlpdnoogaaDoorMacLive
set_option linter.unusedVariables false
namespace Go.Proofs.YtmkkghlpdnoogaaDoor
open Go.RowKit

/-- an own row under a store into it -/
theorem own_set {w : World} {base : Nat} {t : TypeId} {n c g : Nat} {xs : List Value} (h : w.ownsRow base t 1 (.slice (some ⟨g, 0, none⟩) n c) n xs) {j : Nat} (hj : j < n) (u : Value) :
    (w.setCell ⟨g, j, none⟩ u).ownsRow base t 1 (.slice (some ⟨g, 0, none⟩) n c) n (xs.set j u) := by
  refine ⟨by rw [List.length_set]; exact h.1, .inr ?_⟩
  rcases h.2 with ⟨h0, _⟩ | ⟨g', cap, cur, hv, hb, hg, hnc, hcm, hcs, ht⟩
  · cases h0
  · injection hv with h1 h2 h3
    injection h1 with h1
    injection h1 with h1
    subst h1 h3
    refine ⟨g, c, cur.setIfInBounds j u, rfl, hb, ?_, hnc, hcm, by simpa using hcs, ?_⟩
    · simp only [World.setCell, Array.getElem?_modify, hg, Option.map_some]
      simp
    · rw [Array.toList_setIfInBounds, List.take_set, ht]
theorem own_free {w : World} {base : Nat} {t : TypeId} {n c g : Nat} {xs : List Value} (h : w.ownsRow base t 1 (.slice (some ⟨g, 0, none⟩) n c) n xs) (j : Nat) : w.frozen? ⟨g, j, none⟩ = false := by
  rcases h.2 with ⟨h0, _⟩ | ⟨g', cap, cur, hv, hb, hg, _⟩
  · cases h0
  · injection hv with h1
    injection h1 with h1
    injection h1 with h1
    subst h1
    exact frozen_of_row w g j _ t hg
theorem zero_same (x : UInt8) : (x == 0) = ((x.toNat : Int) == 0) := by
  by_cases h : x = 0
  · subst h; rfl
  · rw [beq_eq_false_iff_ne.2 h]
    symm
    rw [beq_eq_false_iff_ne]
    intro e
    exact h (UInt8.toNat_inj.1 (by simpa using e))
theorem sameB_comm (a b : List UInt8) : sameB a b = sameB b a := by
  unfold sameB
  by_cases h : a = b
  · rw [h]
  · rw [beq_eq_false_iff_ne.2 h, beq_eq_false_iff_ne.2 (fun e => h e.symm)]
theorem same_set {a : List UInt8} {j : Nat} {y : UInt8} (x : UInt8) (h : a[j]? = some y) : sameB a (a.set j (y ^^^ x)) = (x == 0) := by
  have hj := (List.getElem?_eq_some_iff.1 h).1
  unfold sameB
  by_cases hx : x = 0
  · subst hx
    have e : a.set j (y ^^^ 0) = a := by
      rw [UInt8.xor_zero]
      apply List.ext_getElem?
      intro i
      rw [List.getElem?_set]
      by_cases hi : j = i
      · subst hi; rw [h, if_pos rfl, if_pos hj]
      · simp [hi]
    rw [e]
    simp
  · rw [beq_eq_false_iff_ne.2 hx, beq_eq_false_iff_ne]
    intro e
    have h2 := congrArg (·[j]?) e
    simp only [List.getElem?_set, h, hj, if_true] at h2
    injection h2 with h2
    exact hx (by
      have : y ^^^ y = y ^^^ (y ^^^ x) := by rw [← h2]
      rw [← UInt8.xor_assoc, UInt8.xor_self, UInt8.zero_xor] at this
      exact this.symm)
theorem same_more (a b : List UInt8) (h : a.length = b.length) (z : UInt8) : sameB a (b ++ [z]) = false := by
  unfold sameB
  rw [beq_eq_false_iff_ne]
  intro e
  have := congrArg List.length e
  simp at this
  omega

theorem idx_of (x : Int) (k : Nat) (hk : 0 < k) (hk' : k ≤ 2000) : ∃ j : Nat, j < k ∧ (wrap64 (x.tmod (k : Int) + (k : Int))).tmod (k : Int) = (j : Int) := by
  have h1 := Int.tmod_lt_of_pos x (show (0 : Int) < k by omega)
  have h2 := Int.lt_tmod_of_pos x (show (0 : Int) < k by omega)
  rw [IntWalk.wrap64_in _ ⟨by omega, by omega⟩, Int.tmod_eq_emod_of_nonneg (by omega)]
  have h3 := Int.emod_nonneg (x.tmod k + k) (show (k : Int) ≠ 0 by omega)
  have h4 := Int.emod_lt_of_pos (x.tmod k + k) (show (0 : Int) < k by omega)
  exact ⟨((x.tmod k + k) % k).toNat, by omega, by omega⟩

set_option maxRecDepth 1000000 in
set_option maxHeartbeats 2000000 in
theorem walk_MacEqual (A : Option Addr) (k c : Nat) (a : List UInt8) (A' : Option Addr) (k' c' : Nat) (b : List UInt8) (at_ : Int) (x : UInt8) (w : World) (hkc : k ≤ c) (hcm : c ≤ maxLen) (hr : Rd w w.heap.size A k (a.map bv)) (hkc' : k' ≤ c') (hcm' : c' ≤ maxLen) (hr' : Rd w w.heap.size A' k' (b.map bv))
    (h1 : -9223372036854775808 ≤ at_) (h2 : at_ ≤ 9223372036854775807) (hT : CTab w) :
    Calls Tryd.prog 10 #[.slice A k c, .slice A' k' c', .int .i64 at_, .int .u8 (x.toNat : Int)] w fun e w' => e = .returned (.bool true) ∧ Below w.heap.size w w' := by
  go_enter Tryd.func10, Tryd.ntmps10
  go_wp2_with fail
  refine (live03 _ hT).mono ?_
  rintro e w2 ⟨rfl, hB2⟩
  by_cases hk : k ≤ 2000
  rotate_left
  · go_wp2_with fail
    go_ret
    exact ⟨rfl, hB2⟩
  by_cases hk' : k' ≤ 2000
  rotate_left
  · go_wp2_with fail
    go_ret
    exact ⟨rfl, hB2⟩
  have u1 : k ≤ 1099511627776 := by omega
  have u2 : k' ≤ 1099511627776 := by omega
  go_wp2_with fail
  refine (mEqual_any A A' k c k' c' a b w2 _ _ u1 u2 (hr.below hB2) (hr'.below hB2)).mono ?_
  rintro e w3 ⟨rfl, rfl⟩
  go_wp2_with fail
  refine (Same_any A A' k c k' c' a b w2 _ _ (hr.below hB2) (hr'.below hB2)).mono ?_
  rintro e w3 ⟨rfl, rfl⟩
  have Hc := Lib.hid (sameB_comm b a)
  have Hr := Lib.hid (sameB_refl a)
  generalize hs : sameB a b = s at *
  have Hs := Lib.hid hs
  clear hs
  have hss : (s != s) = false := by cases s <;> rfl
  go_wp2_with fail
  refine (mEqual_any A' A k' c' k c b a w2 _ _ u2 u1 (hr'.below hB2) (hr.below hB2)).mono ?_
  rintro e w3 ⟨rfl, rfl⟩
  rw [Hc.out]
  go_wp2_with fail
  refine (mEqual_any A A' k c k' c' a b w2 _ _ u1 u2 (hr.below hB2) (hr'.below hB2)).mono ?_
  rintro e w3 ⟨rfl, rfl⟩
  rw [Hs.out]
  go_wp2_with fail
  refine (mEqual_any A A k c k c a a w2 _ _ u1 u1 (hr.below hB2) (hr.below hB2)).mono ?_
  rintro e w3 ⟨rfl, rfl⟩
  rw [Hr.out]
  clear hss
  by_cases h0 : k = 0
  · subst h0
    go_wp2_with fail
    go_ret
    exact ⟨rfl, hB2⟩
  have hk0 : 0 < k := by omega
  go_wp2_with fail
  refine (Copy_any A k c a w2 u1 ((hr.below hB2).more hB2.size)).mono ?_
  rintro e w3 ⟨A1, c1, rfl, hown1, hb1⟩
  have Hal := Lib.hid (show a.length = k by simpa using hr.len)
  obtain ⟨g1, o1, rfl, hg1, hcell1⟩ := (Rd.of_own hown1).pos hk0
  obtain rfl : o1 = 0 := by
    obtain ⟨g, cap, hv, _⟩ := hown1.form hk0
    injection hv with hv
    injection hv with hv
    injection hv
  have hB3 : Below w.heap.size w w3 := hB2.trans (hb1.mono hB2.size)
  obtain ⟨j, hj, hidx⟩ := idx_of at_ k hk0 hk
  obtain ⟨y, hy⟩ : ∃ y, a[j]? = some y := ⟨_, List.getElem?_eq_getElem (by have := Hal.out; omega)⟩
  have c0 := hcell1 j (bv y) (by rw [List.getElem?_map, hy]; rfl)
  have Hset := Lib.hid ((same_set x hy).trans (zero_same x))
  have hown2 := own_set hown1 hj (bv (y ^^^ x))
  rw [bv_def, Nat.zero_add] at c0
  have Hset2 := Lib.hid (show (a.map bv).set j (bv (y ^^^ x)) = (a.set j (y ^^^ x)).map bv by rw [List.map_set])
  rw [Hset2.out, bv_def] at hown2
  have e1 := b_xor y x
  have hgb : w.heap.size ≤ g1 := by
    obtain ⟨g, cap, hv, h, _⟩ := hown1.form hk0
    injection hv with hv
    injection hv with hv
    injection hv with hv
    have := hB2.size
    omega
  have hB4 := hB3.setCell (p := ⟨g1, j, none⟩) hgb (.int .u8 ((y ^^^ x).toNat : Int))
  have j0 : (0 : Int) ≤ (j : Int) := by omega
  have j1 : (j : Int) < (k : Int) := by omega
  clear hcell1 hy
  have f0 := own_free hown1 j
  have r4 : Rd (w3.setCell ⟨g1, j, none⟩ (.int .u8 ((y ^^^ x).toNat : Int))) w.heap.size A k (a.map bv) := hr.below hB4
  have hlen2 : (a.set j (y ^^^ x)).length = k := by rw [List.length_set]; exact Hal.out
  go_wp2_with fail
  rw [← UInt8.toNat_xor]
  generalize hq : a.set j (y ^^^ x) = q at *
  clear hq
  refine calls_gen (fun wx => (wx.ownsRow w2.heap.size 5 1 (.slice (some ⟨g1, 0, none⟩) k c1) k (q.map bv) ∧ Rd wx w.heap.size A k (a.map bv)) ∧ Below w.heap.size w wx) ⟨⟨hown2, r4⟩, hB4⟩ ?_
  clear hown1 hown2 r4 hB4 hB3 c0 f0 hb1 hg1 hidx
  rintro wx ⟨⟨hown, hra⟩, hB⟩
  refine (mEqual_any A _ k c k c1 a q wx _ _ u1 u1 hra (Rd.of_own hown)).mono ?_
  rintro e w5 ⟨rfl, rfl⟩
  rw [Hset.out]
  obtain ⟨i0, hi0, hz0, hz1, hz2⟩ := info_parts byteInfo
  have hsz2 := hB2.size
  have hszx : w2.heap.size ≤ wx.heap.size := by have := (hown.lt g1 rfl); omega
  go_wp2_with (at_builtin; refine wpList_append_rd _ (by rfl) (.tmp 78) (.tmp 79) _ (by rfl) w2.heap.size 5 i0 _ 1 Tryd.underlying25 hi0 hz0 hz1 hz2 rfl (.slice (some ⟨g1, 0, none⟩) k c1) k _ (by rfl) (hown.alloc _) (wx.heap.size + 1) _ 1 1 [.int .u8 0] (by rfl) (Rd.new _ _ #[_]) (by simp [Value.oneCell']) (by simp only [maxLen]; omega) (by omega) (Nat.le_trans hszx (al0 _ _)) ?_; intro v5 w5 hown5 hgr5 hat5)
  obtain ⟨A5, c5, rfl, _, _⟩ := own_form hown5
  rw [show q.map bv ++ [.int .u8 0] = (q ++ [(0 : UInt8)]).map bv by simp [bv]] at hown5
  have hB5 : Below w.heap.size w w5 := (hB.alloc hB.size _).grown hgr5 (Nat.le_trans hB.size (al0 _ _)) (fun g hg => by simp [Value.ownBlock] at hg; omega)
  refine (mEqual_any A _ k c (k + 1) c5 a (q ++ [0]) w5 _ _ u1 (by omega) (hr.below hB5) (Rd.of_own hown5)).mono ?_
  rintro e w6 ⟨rfl, rfl⟩
  rw [same_more a q (Hal.out.trans hlen2.symm)]
  go_wp2_with fail
  go_ret
  exact ⟨rfl, hB5⟩

end Go.Proofs.YtmkkghlpdnoogaaDoor
