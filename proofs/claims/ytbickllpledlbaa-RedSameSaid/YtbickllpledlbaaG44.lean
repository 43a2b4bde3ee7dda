import Derived.Test.YtbickllpledlbaaG33
import Derived.Test.YtbickllpledlbaaG38
/-
  THE WALK of RedSame (coterielaw11). Printed by gen_redlaws.py.
-/
set_option linter.unusedVariables false
namespace Go.Proofs.Ytbickllpledlbaa
open Go.RowKit

set_option maxRecDepth 100000 in
set_option maxHeartbeats 4000000 in
theorem walk_RedSame (A B : Option Addr) (n c m d : Nat) (w : World) (hn : n ≤ 300 → ∃ a, NdR w w.heap.size A n c a) (hm : m ≤ 300 → ∃ b, NdR w w.heap.size B m d b) :
    Calls Try.prog 4 #[.slice A n c, .slice B m d] w fun e w' => e = .returned (.bool true) ∧ Below w.heap.size w w' := by
  go_enter Try.func4, Try.ntmps4
  go_wp2_with fail
  refine (live11 _).mono ?_
  rintro e w1 ⟨rfl, hb1⟩
  by_cases h1 : n ≤ 300
  · by_cases h2 : m ≤ 300
    · obtain ⟨a, ha⟩ := hn h1
      obtain ⟨b, hb⟩ := hm h2
      have ha1 := (ha.below hb1).more hb1.size
      have hb1' := (hb.below hb1).more hb1.size
      have s1 := PSame_any11 A B n c m d a b w1 ha1 hb1'
      have z1 : ¬ (300 : Int) < (n : Int) := by omega
      have z2 : ¬ (300 : Int) < (m : Int) := by omega
      have z3 : (n : Int) ≤ 300 := by omega
      have z4 : (m : Int) ≤ 300 := by omega
      clear hn hm ha hb
      generalize hr : sameU a b = r at *
      go_wp2_with fail
      refine s1.mono ?_
      rintro e w2 ⟨rfl, hb2⟩
      have s2 := Same11_any A B n c m d a b w2 ((ha1.below hb2).more hb2.size) ((hb1'.below hb2).more hb2.size)
      rw [hr] at s2
      have hold2 := hb1.trans (hb2.mono hb1.size)
      clear s1 ha1 hb1' hr
      go_wp2_with fail
      refine s2.mono ?_
      rintro e w3 ⟨rfl, hb3⟩
      have hold3 := hold2.trans (hb3.mono hold2.size)
      have hrr : (r == r) = true := by cases r <;> rfl
      clear s2
      go_wp2_with fail
      go_ret
      exact ⟨rfl, hold3⟩
    · have z1 : ¬ (300 : Int) < (n : Int) := by omega
      have z2 : (300 : Int) < (m : Int) := by omega
      clear hn hm
      go_wp2_with fail
      go_ret
      exact ⟨rfl, hb1⟩
  · have z1 : (300 : Int) < (n : Int) := by omega
    clear hn hm
    go_wp2_with fail
    go_ret
    exact ⟨rfl, hb1⟩

end Go.Proofs.Ytbickllpledlbaa

