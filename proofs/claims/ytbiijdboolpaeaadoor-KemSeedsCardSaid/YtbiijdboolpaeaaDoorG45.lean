import Derived.Test.YtbiijdboolpaeaaDoorG29
import Derived.Lib.SmallJoins
set_option linter.unusedVariables false
namespace Go.Proofs.YtbiijdboolpaeaaDoor
open Go.RowKit
def diffTo (a b : List UInt8) : Nat → UInt8
 | 0 => 0
 | j + 1 => diffTo a b j ||| (a.getD j 0 ^^^ b.getD j 0)
theorem or_zero (x y : UInt8) : x ||| y = 0 ↔ x = 0 ∧ y = 0 := by
 constructor
 ·
  intro h
  have h1 : x.toNat ||| y.toNat = 0 := by rw [← UInt8.toNat_or, h]; rfl
  have h2 := Nat.or_eq_zero_iff.1 h1
  exact ⟨UInt8.toNat_inj.1 h2.1, UInt8.toNat_inj.1 h2.2⟩
 ·
  rintro ⟨rfl, rfl⟩
  rfl
theorem xor_zero (x y : UInt8) : x ^^^ y = 0 ↔ x = y := UInt8.xor_eq_zero_iff
theorem diffTo_zero (a b : List UInt8) : ∀ j, diffTo a b j = 0 ↔ ∀ i, i < j → a.getD i 0 = b.getD i 0
 | 0 => by simp [diffTo]
 | j + 1 => by
  rw [diffTo, or_zero, diffTo_zero a b j, xor_zero]
  constructor
  ·
   rintro ⟨h1, h2⟩ i hi
   rcases Nat.lt_or_ge i j with h | h
   ·
    exact h1 i h
   ·
    obtain rfl : i = j := by omega
    exact h2
  ·
   exact fun h => ⟨fun i hi => h i (by omega), h j (by omega)⟩
theorem diff_same {a b : List UInt8} {n : Nat} (ha : a.length = n) (hb : b.length = n) : (((diffTo a b n).toNat : Int) == 0) = sameB a b := by
 have h : (diffTo a b n = 0) ↔ a = b := by
  rw [diffTo_zero]
  constructor
  ·
   intro h
   apply List.ext_getElem (by omega)
   intro i h1 h2
   have := h i (by omega)
   simpa [List.getD, h1, h2] using this
  ·
   rintro rfl _ _
   rfl
 unfold sameB
 by_cases e : a = b
 ·
  have h1 := h.2 e
  rw [h1, e]
  simp
 ·
  have h1 : ¬ diffTo a b n = 0 := fun h0 => e (h.1 h0)
  rw [beq_eq_false_iff_ne.2 e]
  simp only [beq_eq_false_iff_ne, ne_eq]
  intro h0
  exact h1 (UInt8.toNat_inj.1 (by simpa using h0))
set_option maxHeartbeats 400000 in
theorem mEqual_any (A A' : Option Addr) (k c k' c' : Nat) (a b : List UInt8) (w : World) (B B' : Nat) (hk : k ≤ 1099511627776) (hk' : k' ≤ 1099511627776) (hr : Rd w B A k (a.map bv)) (hr' : Rd w B' A' k' (b.map bv)) :
  Calls Tryd.prog 23 #[.slice A k c, .slice A' k' c'] w fun e w' => e = .returned (.bool (sameB a b)) ∧ w = w' := by
 have Ha := Lib.hid (show a.length = k by simpa using hr.len)
 have Hb := Lib.hid (show b.length = k' by simpa using hr'.len)
 by_cases hl : k = k'
 ·
  subst hl
  go_enter Tryd.func23, Tryd.ntmps23
  go_wp2_with fail
  go_loop [5, 15] (fun x i => ∃ j : Nat, j ≤ k ∧ i = .int .i64 (j : Int) ∧ x = .int .u8 ((diffTo a b j).toNat : Int)) (fun _ i => k - (intOf i).toNat)
  case atStart => exact ⟨0, by omega, rfl, rfl⟩
  case round =>
   obtain ⟨j, hj, rfl, rfl⟩ := hrel
   by_cases hlt : j < k
   ·
    obtain ⟨x, hx⟩ : ∃ x, a[j]? = some x := ⟨_, List.getElem?_eq_getElem (by have := Ha.out; omega)⟩
    obtain ⟨y, hy⟩ : ∃ y, b[j]? = some y := ⟨_, List.getElem?_eq_getElem (by have := Hb.out; omega)⟩
    obtain ⟨g, o, rfl, hg, hc⟩ := hr.pos (by omega)
    obtain ⟨g', o', rfl, hg', hc'⟩ := hr'.pos (by omega)
    have c1 := hc j (bv x) (by rw [List.getElem?_map, hx]; rfl)
    have c2 := hc' j (bv y) (by rw [List.getElem?_map, hy]; rfl)
    rw [bv_def] at c1 c2
    have e1 := b_xor x y
    have e2 := b_or (diffTo a b j) (x ^^^ y)
    have Hs := Lib.hid (show diffTo a b (j + 1) = diffTo a b j ||| (x ^^^ y) by rw [diffTo, List.getD_eq_getElem?_getD, List.getD_eq_getElem?_getD, hx, hy]; rfl)
    generalize diffTo a b j = d at *
    clear hx hy hc hc'
    go_wp2_with fail
    go_round
    case rel => exact ⟨j + 1, by omega, by go_num, by rw [Hs.out, ← UInt8.toNat_xor, b_or]⟩
    case measure => simp [intOf]; omega
   ·
    obtain rfl : j = k := by omega
    have hd := diff_same Ha.out Hb.out
    go_wp2_with fail
    go_ret
    exact ⟨rfl, rfl⟩
 ·
  have hs : sameB a b = false := by
   unfold sameB
   rw [beq_eq_false_iff_ne]
   rintro rfl
   exact hl (Ha.out.symm.trans Hb.out)
  rw [hs]
  have hn : ((k : Int) != (k' : Int)) = true := by simp; omega
  clear hs
  go_enter Tryd.func23, Tryd.ntmps23
  go_wp2_with fail
  go_ret
  exact ⟨rfl, rfl⟩
end Go.Proofs.YtbiijdboolpaeaaDoor
