/-
  live (coterielaw05); keys compared by value.
-/
import Derived.Test.YtimgnpcojamafaaFeE
import Derived.Test.YtimgnpcojamafaaFeI
set_option linter.unusedVariables false
namespace Go.Proofs.Ytimgnpcojamafaa
open Go.RowKit

theorem eql_keyF (w : World) (a b : List UInt8) (ha : a.length = 32) (hb : b.length = 32) :
    (Op.equalIn 10000 23 (.agg (keyC a)) (.agg (keyC b))).run Try.prog w = .ok (a == b) w := by
  obtain ⟨i, hi⟩ := byte_info
  exact run_eqlRow w false Try.underlying23 Try.underlying5 hi byteCells bv (fun x => (x.toNat : Int)) (fun _ => rfl) bv_inj 0 a b ha hb

theorem alloc_fe (ρ : Operand → Value) (o : Oper) (ho : o.op = .alloc 35) (w : World) :
    (execOp ρ o).run Try.prog w = .ok (.value (.pointer (some ⟨w.heap.size, 0, none⟩))) (w.alloc (.cells #[.int .u64 0, .int .u64 0, .int .u64 0, .int .u64 0, .int .u64 0] 35)) := by
  unfold execOp
  rw [ho]
  go_simp

def k255 (n : Nat) : List UInt8 := uptoN (fun _ => 255) (fun _ => 0) 32 n
def kA : List UInt8 := [236, 255, 255, 255, 255, 255, 255, 255, 255, 255, 255, 255, 255, 255, 255, 255, 255, 255, 255, 255, 255, 255, 255, 255, 255, 255, 255, 255, 255, 255, 255, 127]
def kB : List UInt8 := [235, 255, 255, 255, 255, 255, 255, 255, 255, 255, 255, 255, 255, 255, 255, 255, 255, 255, 255, 255, 255, 255, 255, 255, 255, 255, 255, 255, 255, 255, 255, 127]
theorem kA_of : ((k255 32).set 0 236).set 31 127 = kA := by kernel_rfl
theorem kB_of : kA.set 0 235 = kB := by kernel_rfl
theorem live_bytes : keyB (valF (addQ (ofU kA) (ofU kA)) % P25) = kB := by decide +kernel


end Go.Proofs.Ytimgnpcojamafaa
