import Derived.Test.YtlidhdljgnijaaaDoorN17
import Derived.WalkSpells
/-
  CONTRACT of bytes.Clone, which several layers call.
-/
set_option linter.unusedVariables false
namespace Go.Proofs.YtlidhdljgnijaaaDoor
open Go.RowKit

theorem Clone_any (A : Option Addr) (k c : Nat) (l : List UInt8) (w : World) (hk : k ≤ 1099511627776) (hr : Rd w w.heap.size A k (l.map bv)) :
    Calls Tryd.prog 87 #[.slice A k c] w fun e w' =>
      ∃ A' c', e = .returned (.slice A' k c') ∧ w'.ownsRow w.heap.size 5 1 (.slice A' k c') k (l.map bv) ∧ Below w.heap.size w w' := by
  obtain ⟨i0, hi0, hz0, hz1, hz2⟩ := info_parts byteInfo
  have hnil := fun (W : World) (a : Option Addr) (n c n' c' : Nat) => Lib.run_eql_slice_nil (P := Tryd.prog) W 41 5 a n c n' c' Tryd.underlying41
  rcases A with _ | ad
  · obtain rfl : k = 0 := by
      rcases Nat.eq_zero_or_pos k with h | h
      · exact h
      · obtain ⟨b, o, h, _⟩ := hr.pos h
        cases h
    obtain rfl : l = [] := by have := hr.len; simpa using this
    go_enter Tryd.func87, Tryd.ntmps87
    go_wp2_with fail
    go_ret
    exact ⟨none, 0, rfl, World.ownsRow_nil _ _ _ _, Below.refl _ _⟩
  · go_enter Tryd.func87, Tryd.ntmps87
    go_wp2_with (at_builtin; refine wpList_append_rd _ rfl (.tmp 5) (.tmp 6) _ rfl w.heap.size 5 i0 _ 1 Tryd.underlying41 hi0 hz0 hz1 hz2 rfl (.slice (some ⟨w.heap.size, 0, none⟩) 0 0) 0 [] rfl (own_new _ _ _ #[] (Nat.le_refl _) (by simp [maxLen])) w.heap.size (some ad) k c (l.map bv) rfl (hr.alloc (Nat.le_refl _) _) (one_bv l) (by simp only [maxLen]; omega) (by omega) (by simp) ?_; intro v2 w2 hown2 hgr2 hat2)
    go_ret
    obtain ⟨A', c', rfl, _, _⟩ := own_form hown2
    rw [Nat.zero_add] at hown2 ⊢
    refine ⟨A', c', rfl, by simpa using hown2, ?_⟩
    exact ((Below.refl _ _).alloc (Nat.le_refl _) _).grown hgr2 (by simp) (by simp [Value.ownBlock])

end Go.Proofs.YtlidhdljgnijaaaDoor

