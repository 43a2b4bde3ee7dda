/-
  live (coterielaw04); blocks compared by value.
-/
import Derived.Test.YtbkdlmneidboaaaAesHz
import Derived.Test.YtbkdlmneidboaaaAesBox
set_option linter.unusedVariables false
namespace Go.Proofs.Ytbkdlmneidboaaa
open Go.RowKit

theorem Box_k (d : Int) (x : UInt8) (hd : d = (x.toNat : Int)) (w : World) :
    Calls Try.prog 37 #[.int .u8 d] w fun e w' => e = .returned (.int .u8 ((boxU x).toNat : Int)) ∧ Below w.heap.size w w' := by
  subst hd
  exact Box_any x w

theorem live04 (w : World) : Calls Try.prog 12 #[] w fun e w' => e = .returned (.bool true) ∧ Below w.heap.size w w' := by
  go_enter Try.func12, Try.ntmps12
  go_wp2_with fail
  refine (Box_k 0 0 rfl _).mono ?_
  rintro e w2 ⟨rfl, hb2⟩
  rw [box_0, show (((99 : UInt8).toNat : Nat) : Int) = 99 from rfl]
  go_wp2_with fail
  refine (Box_k 83 83 rfl _).mono ?_
  rintro e w3 ⟨rfl, hb3⟩
  rw [box_83, show (((237 : UInt8).toNat : Nat) : Int) = 237 from rfl]
  go_wp2_with fail
  go_ret
  exact ⟨rfl, c_call hb2 hb3⟩

theorem eql_block (w : World) (a b : List UInt8) (ha : a.length = 16) (hb : b.length = 16) :
    (Op.equalIn 10000 23 (.agg (a.map bv).toArray) (.agg (b.map bv).toArray)).run Try.prog w = .ok (a == b) w := by
  obtain ⟨i, hi⟩ := byte_info
  exact run_eqlRow w false Try.underlying23 Try.underlying5 hi byteCells bv (fun x => (x.toNat : Int)) (fun _ => rfl) bv_inj 0 a b ha hb

end Go.Proofs.Ytbkdlmneidboaaa
