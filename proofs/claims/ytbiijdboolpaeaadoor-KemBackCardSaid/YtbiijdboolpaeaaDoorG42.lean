import Derived.Test.YtbiijdboolpaeaaDoorG35
import Derived.Test.YtbiijdboolpaeaaDoorG38
import Derived.Test.YtbiijdboolpaeaaDoorG29
set_option linter.unusedVariables false
namespace Go.Proofs.YtbiijdboolpaeaaDoor
open Go.RowKit
def PS : Prop := ∀ (k b : List UInt8) (A : Option Addr) (m c : Nat) (At : Option Addr) (mt ct : Nat) (vs : List Value) (ts : List (List UInt8)) (w : World), k.length = 32 → m ≤ c → c ≤ maxLen → Rd w w.heap.size A m (b.map bv) → mt ≤ ct → ct ≤ maxLen → mt ≤ 200 → fewSum ts ≤ 140000 → Rd w w.heap.size At mt vs → Txs w w.heap.size vs ts → CTab w →
 Calls Tryd.prog 15 #[.agg (k.map bv).toArray, .slice A m c, .slice At mt ct] w (SealPost w k b ts)
def PO : Prop := ∀ (k b : List UInt8) (A : Option Addr) (m c : Nat) (At : Option Addr) (mt ct : Nat) (vs : List Value) (ts : List (List UInt8)) (w : World), k.length = 32 → m ≤ c → c ≤ maxLen → Rd w w.heap.size A m (b.map bv) → mt ≤ ct → ct ≤ maxLen → mt ≤ 200 → fewSum ts ≤ 140000 → Rd w w.heap.size At mt vs → Txs w w.heap.size vs ts → CTab w →
 Calls Tryd.prog 16 #[.agg (k.map bv).toArray, .slice A m c, .slice At mt ct] w (OpenPost w k b ts)
theorem txs_lenS (ts : List (List UInt8)) : (txs ts).length = ts.flatten.length + 2 * ts.length := by
 induction ts with
 | nil => rfl
 | cons t r ih => rw [txs_cons]; simp only [List.length_append, List.flatten_cons, List.length_cons, be_length, ih]; omega
theorem few_txs {ts : List (List UInt8)} {mt : Nat} (hl : ts.length = mt) (hm : mt ≤ 200) (hf : fewSum ts ≤ 140000) : GoodT ts → (txs ts).length ≤ 536870912 := by
 intro hg
 have h := fewSum_good ts (fun t ht => by
  obtain ⟨i, hi⟩ := List.getElem?_of_mem ht
  have := hg i t hi
  omega)
 rw [txs_lenS]
 omega
theorem NewB.rd {w w' : World} {A : Option Addr} {n c : Nat} {xs : List UInt8} (h : NewB w w' A n c xs) : Rd w' w'.heap.size A n (xs.map bv) := h.1
end Go.Proofs.YtbiijdboolpaeaaDoor
