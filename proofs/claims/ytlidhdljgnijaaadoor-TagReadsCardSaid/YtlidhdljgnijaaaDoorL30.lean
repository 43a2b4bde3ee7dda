import Derived.Test.YtlidhdljgnijaaaDoorL28
import Derived.Test.YtlidhdljgnijaaaDoorL22
import Derived.Test.YtlidhdljgnijaaaDoorL18
import Derived.Test.YtlidhdljgnijaaaDoorL29
import Derived.Deep.RegionHeld3
/-
  WORDS FOR LONG WALKS: what is kept from world to world (Below, Rd, Txs), a row that is new, keys that are the same, append inside a region that draws its order.
-/
set_option linter.unusedVariables false
namespace Go.Proofs.YtlidhdljgnijaaaDoor
open Go.RowKit

theorem c_txs {a w : World} {vs : List Value} {ts : List (List UInt8)} (h : Txs a a.heap.size vs ts) (hb : Below a.heap.size a w) : Txs w w.heap.size vs ts := (h.below hb).more hb.size
theorem key_same (wx : World) (l : List UInt8) (hl : l.length = 32) : (Op.equalIn 10000 36 (.agg (l.map bv).toArray) (.agg (l.map bv).toArray)).run Tryd.prog wx = .ok true wx := by
  obtain ⟨ii, hii⟩ := byte_info
  have h := run_eqlRow wx false Tryd.underlying36 Tryd.underlying5 hii byteCells bv (fun x => (x.toNat : Int)) (fun _ => rfl) bv_inj 0 l l hl hl
  rw [beq_self_eq_true] at h
  exact h

theorem d_txs {a w : World} {vs : List Value} {ts : List (List UInt8)} (h : Txs a a.heap.size vs ts) (hb : Below a.heap.size a w) : Txs w w.heap.size vs ts := (h.below hb).more hb.size
theorem Txs.append {w : World} {B : Nat} {vs vs' : List Value} {ts ts' : List (List UInt8)} (h : Txs w B vs ts) (h' : Txs w B vs' ts') : Txs w B (vs ++ vs') (ts ++ ts') := by
  refine ⟨by simp [h.1, h'.1], fun i v t hv ht => ?_⟩
  rw [List.getElem?_append] at hv ht
  rw [← h.1] at ht
  split at hv
  · rename_i hi
    rw [if_pos hi] at ht
    exact h.2 i v t hv ht
  · rename_i hi
    rw [if_neg hi] at ht
    exact h'.2 _ v t hv ht
theorem Txs.one_cell {w : World} {B : Nat} {vs : List Value} {ts : List (List UInt8)} (h : Txs w B vs ts) : ∀ u ∈ vs, u.oneCell' = true := by
  intro u hu
  obtain ⟨i, hi, rfl⟩ := List.mem_iff_getElem.1 hu
  have := h.1
  obtain ⟨A, c, e, _⟩ := h.2 i _ _ (List.getElem?_eq_getElem hi) (List.getElem?_eq_getElem (show i < ts.length by omega))
  rw [e]
  rfl

theorem len_le_flat : ∀ {ts : List (List UInt8)} {t : List UInt8}, t ∈ ts → t.length ≤ ts.flatten.length
  | u :: r, t, h => by
    rw [List.flatten_cons, List.length_append]
    rcases List.mem_cons.1 h with rfl | h
    · omega
    · have := len_le_flat h
      omega
end Go.Proofs.YtlidhdljgnijaaaDoor

