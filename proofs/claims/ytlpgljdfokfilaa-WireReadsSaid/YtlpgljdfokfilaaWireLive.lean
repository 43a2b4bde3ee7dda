/-
  THE CONTRACT of coterielaw01.live: true, and nothing that was there turns.
-/
import Derived.Test.YtlpgljdfokfilaaWireG
set_option linter.unusedVariables false
namespace Go.Proofs.Ytlpgljdfokfilaa
open Go.RowKit

theorem good_one {d : Int} {a : Nat} (h1 : 1 ≤ d) (h2 : d ≤ 8) (h : a < 256 ^ d.toNat) : Good d [a] := ⟨h1, h2, fun i x hx => by
  rcases i with _ | i
  · simp at hx; subst hx; exact h
  · simp at hx⟩
theorem not_good_one {d : Int} {a : Nat} (h : ¬ (1 ≤ d ∧ d ≤ 8 ∧ a < 256 ^ d.toNat)) : ¬ Good d [a] := fun g => h ⟨g.1, g.2.1, g.2.2 0 a rfl⟩

theorem one64 {a : Nat} (ha : a < 18446744073709551616) : ∀ i x : Nat, [a][i]? = some x → x < 18446744073709551616 := by
  intro i x h
  rcases i with _ | i
  · simp at h; omega
  · simp at h

theorem good300 : Good 2 [300] := ⟨by omega, by omega, fun i x h => by
  rcases i with _ | i
  · simp at h; subst h; decide
  · simp at h⟩
theorem goodT78 : GoodT [[7, 8]] := fun i t h => by
  rcases i with _ | i
  · simp at h; subst h; decide
  · simp at h

set_option maxHeartbeats 400000 in
theorem live01 (w : World) : Calls Try.prog 9 #[] w fun e w' => e = .returned (.bool true) ∧ Below w.heap.size w w' := by
  have hs1 : sameB ([] ++ nums (2 : Int).toNat [300]) [1, 44] = true := by decide
  have hs2 : sameB ([] ++ txs [[7, 8]]) [0, 2, 7, 8] = true := by decide
  go_enter Try.func9, Try.ntmps9
  go_wp2_with (first
    | (go_at_call 12; refine (Num_any none 0 0 [] 2 _ 1 1 [300] _ (by omega) (by omega) (Rd.zero _ _ _) (by exact Rd.mk_ _ _ _ rfl (by simp) rfl rfl) (by intro i x h; rcases i with _ | i <;> simp at h; omega)).mono ?_; intro e w1 hp; obtain ⟨A1, n1, c1, rfl, hown1, hc1, hl1, hb1⟩ := hp.yes good300)
    | (go_at_call 14; refine (Text_any none 0 0 [] _ 1 1 [.slice (some ⟨w1.heap.size, 0, none⟩) 2 2] [[7, 8]] _ (by omega) (by omega) (Rd.zero _ _ _) (by exact Rd.mk_ _ _ _ (by simp) (by simp) rfl rfl) (by exact Txs.one (t := [7, 8]) ((Rd.mk_ (B := w1.heap.size + 1) _ _ _ rfl (by simp) rfl rfl).alloc (by simp) _ |>.more (by simp)) (by simp))).mono ?_; intro e w2 hp; obtain ⟨A2, n2, c2, rfl, hown2, hc2, hl2, hb2⟩ := hp.yes goodT78))
  have hr1 : Rd w2 w2.heap.size A1 n1 (([] ++ nums (2 : Int).toNat [300]).map bv) := ((((Rd.of_own hown1).alloc (Nat.le_refl _) _).alloc (al0 _ _) _).more (Nat.le_trans (al0 _ _) (al0 _ _))).below hb2 |>.more hb2.size
  have hr2 := Rd.of_own hown2
  refine (Same_any _ _ _ _ _ _ _ [1, 44] _ _ (w2.heap.size + 1) (hr1.alloc (Nat.le_refl _) _) (by exact Rd.mk_ _ _ _ rfl (by omega) rfl rfl)).mono ?_
  rintro e w3 ⟨rfl, rfl⟩
  go_wp2_with fail
  refine (Same_any _ _ _ _ _ _ _ [0, 2, 7, 8] _ _ (w2.heap.size + 2) ((hr2.alloc (Nat.le_refl _) _).alloc (al0 _ _) _) (by exact Rd.mk_ _ _ _ (by simp) (by omega) rfl rfl)).mono ?_
  rintro e w3 ⟨rfl, rfl⟩
  go_wp2_with fail
  go_ret
  refine ⟨rfl, ?_⟩
  have h1 := ((Below.refl w.heap.size w).alloc (Nat.le_refl _) _).trans (hb1.mono (al0 _ _))
  have h2 := (((h1.alloc h1.size _).alloc (Nat.le_trans h1.size (al0 _ _)) _).trans (hb2.mono (Nat.le_trans h1.size (Nat.le_trans (al0 _ _) (al0 _ _)))))
  exact (h2.alloc h2.size _).alloc (Nat.le_trans h2.size (al0 _ _)) _

end Go.Proofs.Ytlpgljdfokfilaa
