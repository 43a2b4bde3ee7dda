import Derived.Test.YtbickllpledlbaaG07
import Derived.Test.YtbickllpledlbaaG16
/-
  CONTRACTS of slices.Delete at []int and [][]int, over rows of the call's own.
-/
set_option linter.unusedVariables false
namespace Go.Proofs.Ytbickllpledlbaa
open Go.RowKit

end Go.Proofs.Ytbickllpledlbaa

/-
  CONTRACTS of slices.Clone and slices.Insert (of one number) at []int, over rows of the call's own.
-/
set_option linter.unusedVariables false
namespace Go.Proofs.Ytbickllpledlbaa
open Go.RowKit

/-- what an insertion leaves -/
def InsOf (w : World) (base : Nat) (A : Option Addr) (n : Nat) (xs : List Value) (e : Ending) (w' : World) : Prop :=
  ∃ A' c', e = .returned (.slice A' n c') ∧ w'.ownsRow base 3 1 (.slice A' n c') n xs ∧ w.grownBy w' (A.map (·.block)) ∧ (A'.map (·.block) = A.map (·.block) ∨ ∀ ad, A' = some ad → w.heap.size ≤ ad.block)

set_option maxRecDepth 100000 in
theorem InsI_end (base : Nat) (A : Option Addr) (n c vb : Nat) (x : Value) (xs : List Value) (w : World) (hn6 : n ≤ 1000000) (hbase : base ≤ w.heap.size) (h1x : x.oneCell' = true)
    (h : w.ownsRow base 3 1 (.slice A n c) n xs) (hv : RowC w vb 3 #[x]) :
    Calls Try.prog 48 #[.slice A n c, .int .i64 (n : Nat), .slice (some ⟨vb, 0, none⟩) 1 1] w (InsOf w base A (n + 1) (xs ++ [x])) := by
  obtain ⟨i0, hi0, hz0, hz1, hz2⟩ := info_parts intInfo
  obtain ⟨_, _, e0, hc, hm⟩ := own_formT h
  injection e0 with e1 e2 e3
  subst e1 e3
  rw [maxLen] at hm
  have hrd : Rd w w.heap.size (some ⟨vb, 0, none⟩) 1 [x] := ⟨rfl, fun _ => ⟨vb, 0, rfl, hv.lt, fun j u hu => by
    rw [Nat.zero_add]
    exact hv.cell (by simpa using hu)⟩⟩
  have hpost : ∀ v' w', w'.ownsRow base 3 1 v' (n + 1) (xs ++ [x]) → w.grownBy w' (Value.slice A n c).ownBlock → (v'.ownBlock = (Value.slice A n c).ownBlock ∨ v'.ownBlock = some w.heap.size) → InsOf w base A (n + 1) (xs ++ [x]) (.returned v') w' := by
    intro v' w' h1 h2 h3
    obtain ⟨A', c', rfl, _, _⟩ := own_form h1
    have eb : ∀ (A : Option Addr) n c, (Value.slice A n c).ownBlock = A.map (·.block) := fun A n c => by cases A <;> rfl
    rw [eb] at h2 h3
    rw [eb] at h3
    refine ⟨A', c', rfl, h1, h2, ?_⟩
    rcases h3 with h3 | h3
    · exact .inl h3
    · right
      rintro ad rfl
      simp at h3
      omega
  have Hpost := Lib.hid hpost
  clear hpost
  generalize InsOf w base A (n + 1) (xs ++ [x]) = PO at *
  have q1 : (n : Int) ≤ (n : Int) := by omega
  go_enter Try.func48, Try.ntmps48
  by_cases hcn : c = n
  · have hz : ∀ z : Int, (z == z) = true := fun z => by simp
    go_wp2_with (at_builtin; refine wpList_append_rd _ rfl (.tmp 23) (.tmp 24) _ rfl base 3 i0 _ 8 Try.underlying22 hi0 hz0 hz1 hz2 rfl _ n xs rfl h w.heap.size _ 1 1 [x] rfl hrd (by simpa using h1x) (by simp only [maxLen]; omega) (by omega) hbase ?_; intro v3 w3 hown3 hgr3 hat3)
    exact Hpost.out _ _ hown3 hgr3 hat3
  · have hz : ∀ z : Int, (z == z) = true := fun z => by simp
    go_wp2_with (at_builtin; refine wpList_append_rd _ rfl (.tmp 23) (.tmp 24) _ rfl base 3 i0 _ 8 Try.underlying22 hi0 hz0 hz1 hz2 rfl _ n xs rfl h w.heap.size _ 1 1 [x] rfl hrd (by simpa using h1x) (by simp only [maxLen]; omega) (by omega) hbase ?_; intro v3 w3 hown3 hgr3 hat3)
    exact Hpost.out _ _ hown3 hgr3 hat3

end Go.Proofs.Ytbickllpledlbaa

