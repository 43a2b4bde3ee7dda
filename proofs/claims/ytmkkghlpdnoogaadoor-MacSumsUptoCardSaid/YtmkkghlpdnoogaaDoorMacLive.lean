/-
  THE WALK of the laws' live (coterielaw03): the chapter's example; CONTRACTS of Equal and Extract.
-/
import Derived.Test.YtmkkghlpdnoogaaDoorMacB
import Derived.Lib.SmallJoins
set_option linter.unusedVariables false
namespace Go.Proofs.YtmkkghlpdnoogaaDoor
open Go.RowKit

/-- the bits in which the first j differ -/
def diffTo (a b : List UInt8) : Nat → UInt8
  | 0 => 0
  | j + 1 => diffTo a b j ||| (a.getD j 0 ^^^ b.getD j 0)
theorem or_zero (x y : UInt8) : x ||| y = 0 ↔ x = 0 ∧ y = 0 := by
  constructor
  · intro h
    have h1 : x.toNat ||| y.toNat = 0 := by rw [← UInt8.toNat_or, h]; rfl
    have h2 := Nat.or_eq_zero_iff.1 h1
    exact ⟨UInt8.toNat_inj.1 h2.1, UInt8.toNat_inj.1 h2.2⟩
  · rintro ⟨rfl, rfl⟩
    rfl
theorem xor_zero (x y : UInt8) : x ^^^ y = 0 ↔ x = y := UInt8.xor_eq_zero_iff
theorem diffTo_zero (a b : List UInt8) : ∀ j, diffTo a b j = 0 ↔ ∀ i, i < j → a.getD i 0 = b.getD i 0
  | 0 => by simp [diffTo]
  | j + 1 => by
    rw [diffTo, or_zero, diffTo_zero a b j, xor_zero]
    constructor
    · rintro ⟨h1, h2⟩ i hi
      rcases Nat.lt_or_ge i j with h | h
      · exact h1 i h
      · obtain rfl : i = j := by omega
        exact h2
    · exact fun h => ⟨fun i hi => h i (by omega), h j (by omega)⟩
theorem diff_same {a b : List UInt8} {n : Nat} (ha : a.length = n) (hb : b.length = n) : (((diffTo a b n).toNat : Int) == 0) = sameB a b := by
  have h : (diffTo a b n = 0) ↔ a = b := by
    rw [diffTo_zero]
    constructor
    · intro h
      apply List.ext_getElem (by omega)
      intro i h1 h2
      have := h i (by omega)
      simpa [List.getD, h1, h2] using this
    · rintro rfl _ _
      rfl
  unfold sameB
  by_cases e : a = b
  · have h1 := h.2 e
    rw [h1, e]
    simp
  · have h1 : ¬ diffTo a b n = 0 := fun h0 => e (h.1 h0)
    rw [beq_eq_false_iff_ne.2 e]
    simp only [beq_eq_false_iff_ne, ne_eq]
    intro h0
    exact h1 (UInt8.toNat_inj.1 (by simpa using h0))

set_option maxHeartbeats 400000 in
theorem mEqual_any (A A' : Option Addr) (k c k' c' : Nat) (a b : List UInt8) (w : World) (B B' : Nat) (hk : k ≤ 1099511627776) (hk' : k' ≤ 1099511627776) (hr : Rd w B A k (a.map bv)) (hr' : Rd w B' A' k' (b.map bv)) :
    Calls Tryd.prog 30 #[.slice A k c, .slice A' k' c'] w fun e w' => e = .returned (.bool (sameB a b)) ∧ w = w' := by
  have Ha := Lib.hid (show a.length = k by simpa using hr.len)
  have Hb := Lib.hid (show b.length = k' by simpa using hr'.len)
  by_cases hl : k = k'
  · subst hl
    go_enter Tryd.func30, Tryd.ntmps30
    go_wp2_with fail
    go_loop [5, 15] (fun x i => ∃ j : Nat, j ≤ k ∧ i = .int .i64 (j : Int) ∧ x = .int .u8 ((diffTo a b j).toNat : Int)) (fun _ i => k - (intOf i).toNat)
    case atStart => exact ⟨0, by omega, rfl, rfl⟩
    case round =>
      obtain ⟨j, hj, rfl, rfl⟩ := hrel
      by_cases hlt : j < k
      · obtain ⟨x, hx⟩ : ∃ x, a[j]? = some x := ⟨_, List.getElem?_eq_getElem (by have := Ha.out; omega)⟩
        obtain ⟨y, hy⟩ : ∃ y, b[j]? = some y := ⟨_, List.getElem?_eq_getElem (by have := Hb.out; omega)⟩
        obtain ⟨g, o, rfl, hg, hc⟩ := hr.pos (by omega)
        obtain ⟨g', o', rfl, hg', hc'⟩ := hr'.pos (by omega)
        have c1 := hc j (bv x) (by rw [List.getElem?_map, hx]; rfl)
        have c2 := hc' j (bv y) (by rw [List.getElem?_map, hy]; rfl)
        rw [bv_def] at c1 c2
        have e1 := b_xor x y
        have e2 := b_or (diffTo a b j) (x ^^^ y)
        have Hs := Lib.hid (show diffTo a b (j + 1) = diffTo a b j ||| (x ^^^ y) by rw [diffTo, List.getD_eq_getElem?_getD, List.getD_eq_getElem?_getD, hx, hy]; rfl)
        generalize diffTo a b j = d at *
        clear hx hy hc hc'
        go_wp2_with fail
        go_round
        case rel => exact ⟨j + 1, by omega, by go_num, by rw [Hs.out, ← UInt8.toNat_xor, b_or]⟩
        case measure => simp [intOf]; omega
      · obtain rfl : j = k := by omega
        have hd := diff_same Ha.out Hb.out
        go_wp2_with fail
        go_ret
        exact ⟨rfl, rfl⟩
  · have hs : sameB a b = false := by
      unfold sameB
      rw [beq_eq_false_iff_ne]
      rintro rfl
      exact hl (Ha.out.symm.trans Hb.out)
    rw [hs]
    have hn : ((k : Int) != (k' : Int)) = true := by simp; omega
    clear hs
    go_enter Tryd.func30, Tryd.ntmps30
    go_wp2_with fail
    go_ret
    exact ⟨rfl, rfl⟩

set_option maxRecDepth 1000000 in
set_option maxHeartbeats 400000 in
theorem live03 (w : World) (hT : CTab w) :
    Calls Tryd.prog 25 #[] w fun e w' => e = .returned (.bool true) ∧ Below w.heap.size w w' := by
  obtain ⟨e0, e1, e2, e3⟩ := take4 mac_live
  have E0 := Lib.hid e0
  have E1 := Lib.hid e1
  have E2 := Lib.hid e2
  have E3 := Lib.hid e3
  clear e0 e1 e2 e3
  obtain ⟨T1, hT1⟩ : ∃ T1 : List UInt8, T1 = [84, 104, 101, 32, 113, 117, 105, 99, 107, 32, 98, 114, 111, 119, 110, 32, 102, 111, 120, 32] := ⟨_, rfl⟩
  obtain ⟨T2, hT2⟩ : ∃ T2 : List UInt8, T2 = [106, 117, 109, 112, 115, 32, 111, 118, 101, 114, 32, 116, 104, 101, 32, 108, 97, 122, 121, 32, 100, 111, 103] := ⟨_, rfl⟩
  obtain ⟨T0, hT0⟩ : ∃ T0 : List UInt8, T0 = [107, 101, 121] := ⟨_, rfl⟩
  rw [← hT1, ← hT2, ← hT0] at E0 E1 E2 E3
  have K0 := Lib.hid (Go.Joins.run_convert_bytes_const_at (P := Tryd.prog) w 25 5 #[.int .u8 107, .int .u8 101, .int .u8 121] 3 3 w.heap.size (by simp) Tryd.underlying25 Tryd.underlying5)
  have K1 := Lib.hid (Go.Joins.run_convert_bytes_const_at (P := Tryd.prog) (w.alloc (.cells #[.int .u8 107, .int .u8 101, .int .u8 121] 5 (3, 4))) 25 5 #[.int .u8 84, .int .u8 104, .int .u8 101, .int .u8 32, .int .u8 113, .int .u8 117, .int .u8 105, .int .u8 99, .int .u8 107, .int .u8 32, .int .u8 98, .int .u8 114, .int .u8 111, .int .u8 119, .int .u8 110, .int .u8 32, .int .u8 102, .int .u8 111, .int .u8 120, .int .u8 32] 20 20 (w.heap.size + 1) (by simp) Tryd.underlying25 Tryd.underlying5)
  have K2 := Lib.hid (Go.Joins.run_convert_bytes_const_at (P := Tryd.prog) ((w.alloc (.cells #[.int .u8 107, .int .u8 101, .int .u8 121] 5 (3, 4))).alloc (.cells #[.int .u8 84, .int .u8 104, .int .u8 101, .int .u8 32, .int .u8 113, .int .u8 117, .int .u8 105, .int .u8 99, .int .u8 107, .int .u8 32, .int .u8 98, .int .u8 114, .int .u8 111, .int .u8 119, .int .u8 110, .int .u8 32, .int .u8 102, .int .u8 111, .int .u8 120, .int .u8 32] 5 (20, 21))) 25 5 #[.int .u8 106, .int .u8 117, .int .u8 109, .int .u8 112, .int .u8 115, .int .u8 32, .int .u8 111, .int .u8 118, .int .u8 101, .int .u8 114, .int .u8 32, .int .u8 116, .int .u8 104, .int .u8 101, .int .u8 32, .int .u8 108, .int .u8 97, .int .u8 122, .int .u8 121, .int .u8 32, .int .u8 100, .int .u8 111, .int .u8 103] 23 23 (w.heap.size + 1 + 1) (by simp) Tryd.underlying25 Tryd.underlying5)
  go_enter Tryd.func25, Tryd.ntmps25
  go_wp2_with fail
  rw [K0.out]
  go_wp2_with fail
  rw [K1.out]
  go_wp2_with fail
  rw [K2.out]
  go_wp2_with fail
  refine calls_gen (fun wx => ((Rd wx wx.heap.size (some ⟨w.heap.size, 0, none⟩) 3 (T0.map bv) ∧ Rd wx wx.heap.size (some ⟨w.heap.size + 1, 0, none⟩) 20 (T1.map bv) ∧ Rd wx wx.heap.size (some ⟨w.heap.size + 1 + 1, 0, none⟩) 23 (T2.map bv)) ∧ Rd wx wx.heap.size (some ⟨w.heap.size + 1 + 1 + 1, 0, none⟩) 2 [.slice (some ⟨w.heap.size + 1, 0, none⟩) 20 20, .slice (some ⟨w.heap.size + 1 + 1, 0, none⟩) 23 23]) ∧ Below w.heap.size w wx) ?_ ?_
  · have r0 : Rd (w.alloc (.cells #[.int .u8 107, .int .u8 101, .int .u8 121] 5 (3, 4))) (w.heap.size + 1) (some ⟨w.heap.size, 0, none⟩) 3 (T0.map bv) := Rd.mkFr _ _ _ _ rfl (by omega) rfl (by rw [hT0]; rfl)
    have r1 : Rd ((w.alloc (.cells #[.int .u8 107, .int .u8 101, .int .u8 121] 5 (3, 4))).alloc (.cells #[.int .u8 84, .int .u8 104, .int .u8 101, .int .u8 32, .int .u8 113, .int .u8 117, .int .u8 105, .int .u8 99, .int .u8 107, .int .u8 32, .int .u8 98, .int .u8 114, .int .u8 111, .int .u8 119, .int .u8 110, .int .u8 32, .int .u8 102, .int .u8 111, .int .u8 120, .int .u8 32] 5 (20, 21))) (w.heap.size + 1 + 1) (some ⟨w.heap.size + 1, 0, none⟩) 20 (T1.map bv) := Rd.mkFr _ _ _ _ (by simp) (by omega) rfl (by rw [hT1]; rfl)
    have r2 : Rd (((w.alloc (.cells #[.int .u8 107, .int .u8 101, .int .u8 121] 5 (3, 4))).alloc (.cells #[.int .u8 84, .int .u8 104, .int .u8 101, .int .u8 32, .int .u8 113, .int .u8 117, .int .u8 105, .int .u8 99, .int .u8 107, .int .u8 32, .int .u8 98, .int .u8 114, .int .u8 111, .int .u8 119, .int .u8 110, .int .u8 32, .int .u8 102, .int .u8 111, .int .u8 120, .int .u8 32] 5 (20, 21))).alloc (.cells #[.int .u8 106, .int .u8 117, .int .u8 109, .int .u8 112, .int .u8 115, .int .u8 32, .int .u8 111, .int .u8 118, .int .u8 101, .int .u8 114, .int .u8 32, .int .u8 116, .int .u8 104, .int .u8 101, .int .u8 32, .int .u8 108, .int .u8 97, .int .u8 122, .int .u8 121, .int .u8 32, .int .u8 100, .int .u8 111, .int .u8 103] 5 (23, 24))) (w.heap.size + 1 + 1 + 1) (some ⟨w.heap.size + 1 + 1, 0, none⟩) 23 (T2.map bv) := Rd.mkFr _ _ _ _ (by simp) (by omega) rfl (by rw [hT2]; rfl)
    exact ⟨⟨⟨(((r0.alloc (by simp) _).alloc (by first | (simp; done) | (simp; omega)) _).alloc (by first | (simp; done) | (simp; omega)) _).more (by first | (simp; done) | (simp; omega)), ((r1.alloc (by simp) _).alloc (by first | (simp; done) | (simp; omega)) _).more (by first | (simp; done) | (simp; omega)), (r2.alloc (by simp) _).more (by first | (simp; done) | (simp; omega))⟩, Rd.mk_ _ _ _ (by simp) (by simp) rfl rfl⟩, ((((Below.refl _ _).alloc (Nat.le_refl _) _).alloc (by simp) _).alloc (by first | (simp; done) | (simp; omega)) _).alloc (by first | (simp; done) | (simp; omega)) _⟩
  clear K0 K1 K2
  rintro wx ⟨⟨⟨hr0, hr1, hr2⟩, hr3⟩, hbx⟩
  have L0 : T0.length = 3 := by rw [hT0]; rfl
  have L1 : T1.length = 20 := by rw [hT1]; rfl
  have L2 : T2.length = 23 := by rw [hT2]; rfl
  clear hT0 hT1 hT2
  refine (Mac_any _ 3 3 T0 _ 2 2 _ [T1, T2] wx (by omega) (by omega) (by omega) (by omega) (by simp [L1, L2]) hr0 hr3 (Txs.cons (txs_one1 L1 (Nat.le_refl _) hr1) (txs_one1 L2 (Nat.le_refl _) hr2)) (hT.below hbx)).mono ?_
  rintro e w3 ⟨rfl, hb3⟩
  have hb03 : Below w.heap.size w w3 := hbx.trans (hb3.mono hbx.size)
  rw [show [T1, T2].flatten = T1 ++ T2 by simp]
  have Hl2 := Lib.hid (macU_len T0 (T1 ++ T2))
  generalize macU T0 (T1 ++ T2) = s2 at *
  clear L0 L1 L2 hr0 hr1 hr2 hr3 hb3 hbx
  go_wp2_with (
    ((with_reducible show wpList _ _ _ (⟨none, Op.store 36 _ _, _, _, _, _⟩ :: _) _ _)
     refine wpList_store_row rfl 36 (.tmp 1) (.tmp 9) rfl w3.heap.size (s2.map bv).toArray rfl rfl 36 (zeroKey.map bv).toArray (heap_alloc_new _ _) (infoK32 Hl2.out) (sizeK Hl2.out) (one_bvA _) ?_
     rw [World.setRow_alloc_new]
     refine wpList_gen (fun wx => ArrB wx w3.heap.size 36 s2 ∧ Below w.heap.size w wx) ⟨ArrB.mk_ _ _ _ _ rfl rfl, hb03.alloc hb03.size _⟩ ?_
     rintro w4 ⟨hA5, hb4⟩
     have g0 := hA5.cell E0.out
     have g1 := hA5.cell E1.out
     have g2 := hA5.cell E2.out
     have g3 := hA5.cell E3.out))
  go_ret
  exact ⟨rfl, hb4⟩

end Go.Proofs.YtmkkghlpdnoogaaDoor
