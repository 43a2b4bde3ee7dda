import Derived.Test.YtmganbdbihjbmaaK06
/-
  CONTRACTS of slices.Equal and EqualFunc (over lists of numbers), and of the program's Same (tree). Printed by gen_treepm.py.
-/
set_option linter.unusedVariables false
namespace Go.Proofs.Ytmganbdbihjbmaa
open Go.RowKit

theorem Equal_any (A A' : Option Addr) (k c k' c' : Nat) (l l' : List Int) (w : World) (hk : k ≤ maxLen) (hr : Rd w w.heap.size A k (l.map iv)) (hr' : Rd w w.heap.size A' k' (l'.map iv)) :
    Calls Try.prog 35 #[.slice A k c, .slice A' k' c'] w fun e w' => e = .returned (.bool (l == l')) ∧ Below w.heap.size w w' := by
  have hl : l.length = k := by simpa using hr.len
  have hl' : l'.length = k' := by simpa using hr'.len
  rw [maxLen] at hk
  go_enter Try.func35, Try.ntmps35
  by_cases hkk : k = k'
  rotate_left
  · have e1 : (l == l') = false := by rw [beq_eq_false_iff_ne]; intro e; subst e; omega
    have hne : ¬ (k : Int) = (k' : Int) := by omega
    go_wp2_with fail
    go_ret
    exact ⟨by rw [e1]; rfl, Below.refl _ _⟩
  subst hkk
  go_wp2_with fail
  go_loopw [13] (fun i wr => ∃ j : Nat, j ≤ k ∧ i = .int .i64 (j : Int) ∧ l.take j = l'.take j ∧ Below w.heap.size w wr) (fun i _ => k - (intOf i).toNat)
  case atStart => exact ⟨0, by omega, rfl, rfl, Below.refl _ _⟩
  case round =>
    obtain ⟨j, hj, rfl, ht, hb⟩ := hrel
    by_cases hlt : j < k
    · obtain ⟨x, hx⟩ : ∃ x, l[j]? = some x := ⟨_, List.getElem?_eq_getElem (by omega)⟩
      obtain ⟨y, hy⟩ : ∃ y, l'[j]? = some y := ⟨_, List.getElem?_eq_getElem (by omega)⟩
      have hrw := hr.below hb
      have hrw' := hr'.below hb
      obtain ⟨g, o, rfl, hg, hc⟩ := hrw.pos (by omega)
      obtain ⟨g', o', rfl, hg', hc'⟩ := hrw'.pos (by omega)
      have c1 := hc j (iv x) (by rw [List.getElem?_map, hx]; rfl)
      have c2 := hc' j (iv y) (by rw [List.getElem?_map, hy]; rfl)
      rw [iv_def] at c1 c2
      clear hc hc'
      by_cases hxy : x = y
      · have hn : (x != y) = false := by rw [bne_eq_false_iff_eq]; exact hxy
        have Hs := Lib.hid (show l.take (j + 1) = l'.take (j + 1) by
          rw [List.take_add_one, List.take_add_one, ht, hx, hy, hxy])
        clear hxy hx hy ht
        go_wp2_with fail
        go_quiet (fail)
        go_wp2_with fail
        go_roundw
        case rel => exact ⟨j + 1, by omega, by go_num, Hs.out, below_drewN hb _⟩
        case measure => simp [intOf]; omega
      · have hn : (x != y) = true := by rw [bne_iff_ne]; exact hxy
        have Hs := Lib.hid (show (l == l') = false by
          rw [beq_eq_false_iff_ne]
          rintro rfl
          rw [hx] at hy
          exact hxy (Option.some.inj hy))
        clear hxy hx hy ht
        go_wp2_with fail
        go_quiet (fail)
        go_wp2_with fail
        go_ret
        exact ⟨by rw [Hs.out]; rfl, below_drewN hb _⟩
    · obtain rfl : j = k := by omega
      go_wp2_with fail
      go_ret
      rw [List.take_of_length_le (by omega), List.take_of_length_le (by omega)] at ht
      exact ⟨by rw [ht]; simp, hb⟩

end Go.Proofs.Ytmganbdbihjbmaa

