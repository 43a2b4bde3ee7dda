/-
  CONTRACTS of the program's Ctr where it answers why not: a text too long, a counter too great.
-/
import Derived.Test.YtbkdlmneidboaaaCtrB
set_option linter.unusedVariables false
namespace Go.Proofs.Ytbkdlmneidboaaa
open Go.RowKit

set_option maxRecDepth 100000 in
set_option maxHeartbeats 800000 in
theorem Ctr_long (k n : List UInt8) (f m c : Nat) (A : Option Addr) (w : World) (hm : 1048576 < m) :
    Calls Try.prog 14 #[.agg (k.map bv).toArray, .agg (n.map bv).toArray, .int .u32 (f : Int), .slice A m c] w fun e w' =>
      e = .returned (.tuple #[.slice none 0 0, .int .i64 4]) ∧ Below w.heap.size w w' := by
  have m1 : (1048576 : Int) < (m : Int) := by omega
  clear hm
  go_enter Try.func14, Try.ntmps14
  go_wp2_with fail
  exact bodyPost_ret (results_tmp2 rfl _ _ _) rfl ⟨rfl, ((Below.refl _ _).alloc (Nat.le_refl _) _).alloc (al0 _ _) _⟩

set_option maxRecDepth 100000 in
set_option maxHeartbeats 800000 in
theorem Ctr_arg (k n : List UInt8) (f m c : Nat) (A : Option Addr) (w : World) (hf : f < 4294967296) (hm : m ≤ 1048576) (hfit : 4294967296 < f + nbs m) :
    Calls Try.prog 14 #[.agg (k.map bv).toArray, .agg (n.map bv).toArray, .int .u32 (f : Int), .slice A m c] w fun e w' =>
      e = .returned (.tuple #[.slice none 0 0, .int .i64 1]) ∧ Below w.heap.size w w' := by
  have f0 : (0 : Int) ≤ (f : Int) := by omega
  have m0 : (0 : Int) ≤ (m : Int) := by omega
  have m1 : (m : Int) ≤ 1048576 := by omega
  have q2 : ((m : Int) + 16 - 1).tdiv 16 = ((nbs m : Nat) : Int) := by rw [Int.tdiv_eq_ediv_of_nonneg (by omega)]; unfold nbs; omega
  have q1 : ((m : Int) + 16 - 1) / 16 = ((nbs m : Nat) : Int) := by unfold nbs; omega
  have q3 : 4294967296 < (f : Int) + ((nbs m : Nat) : Int) := by omega
  have hnb : nbs m ≤ 65536 := by unfold nbs; omega
  generalize nbs m = N at *
  go_enter Try.func14, Try.ntmps14
  go_wp2_with fail
  exact bodyPost_ret (results_tmp2 rfl _ _ _) rfl ⟨rfl, ((Below.refl _ _).alloc (Nat.le_refl _) _).alloc (al0 _ _) _⟩

end Go.Proofs.Ytbkdlmneidboaaa
