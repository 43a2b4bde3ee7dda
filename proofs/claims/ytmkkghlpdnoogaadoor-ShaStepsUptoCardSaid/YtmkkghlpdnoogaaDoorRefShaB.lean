/-
  CONTRACTS of the document's own Write (coterieref02).
-/
import Derived.Test.YtmkkghlpdnoogaaDoorRefShaA
import Derived.Deep.MidRow
set_option linter.unusedVariables false
namespace Go.Proofs.YtmkkghlpdnoogaaDoor
open Go.RowKit

set_option maxRecDepth 1000000 in
theorem rWrite_bad (h : List UInt32) (n : Nat) (A : Option Addr) (k c : Nat) (At : Option Addr) (m ct : Nat) (w : World) (hh : h.length = 8) (hn : n < 18446744073709551616) (hk : k ≤ 9223372036854775807) (hc : chkU h n k = false) :
    Calls Tryd.prog 15 #[.agg (shaL h n (.slice A k c)).toArray, .slice At m ct] w fun e w' => e = .returned (.tuple #[.agg zeroSha.toArray, .int .i64 1]) ∧ Below w.heap.size w w' := by
  have Hh := Lib.hid hh
  have Hc := Lib.hid hc
  have I10 := Lib.hid (show (Tryd.prog.info? 27).map (·.size) = some ((shaL h n (.slice A k c)).toArray).size by rw [infoSha]; simp [shaL_len hh])
  clear hh hc
  go_enter Tryd.func15, Tryd.ntmps15
  go_wp2_with ((with_reducible show wpList _ _ _ (⟨some 7, _, _, _, _, _⟩ :: _) _ _); refine wpList_load_row rfl 27 (.tmp 2) rfl w.heap.size rfl 27 (shaL h n (.slice A k c)).toArray (0, 0) _ ((heap_alloc_old _ _ (by simp)).trans (heap_alloc_new _ _)) Tryd.underlying27 rfl I10.out ?_)
  refine (rCheck_any h n A k c _ Hh.out hn hk).mono ?_
  rintro e w2 ⟨rfl, hb2⟩
  rw [Hc.out, errK]
  have hR2 : w2.heap[w.heap.size + 1]? = some (.cells zeroSha.toArray 27 (0, 0)) := (hb2.block _ (by simp)).trans (heap_new (by simp) _)
  have hb02 : Below w.heap.size w w2 := (((Below.refl _ _).alloc (Nat.le_refl _) _).alloc (al0 _ _) _).trans (hb2.mono (Nat.le_trans (al0 _ _) (al0 _ _)))
  go_wp2_with ((with_reducible show wpList _ _ _ (⟨none, Op.store 27 _ _, _, _, _, _⟩ :: _) _ _); refine wpList_store_row rfl 27 (.tmp 4) (.tmp 10) rfl (w.heap.size + 1) zeroSha.toArray rfl rfl 27 _ hR2 infoSha rfl (one_sha _ _ _ _ _) ?_)
  exact bodyPost_ret (results_cell_tmp rfl _ _ (w.heap.size + 1) 27 _ (0, 0) _ rfl (setRow_heap _ _ _ _ _ _ hR2) Tryd.underlying27 rfl infoSha) rfl ⟨rfl, below_setRow hb02 (by omega) _⟩

set_option maxRecDepth 1000000 in
set_option maxHeartbeats 1000000 in
theorem rWrite_long (h : List UInt32) (n : Nat) (A : Option Addr) (k c : Nat) (At : Option Addr) (m ct : Nat) (vs : List Value) (ts : List (List UInt8)) (w : World) (hh : h.length = 8) (hn : n < 18446744073709551616) (hk : k ≤ 9223372036854775807) (hm : m ≤ 5864062014805) (htot : ts.flatten.length ≤ 1099511627776)
    (hv : Rd w w.heap.size At m vs) (ht : Txs w w.heap.size vs ts) (hc : chkU h n k = true) (hrm : roomB n ts.flatten.length = false) :
    Calls Tryd.prog 15 #[.agg (shaL h n (.slice A k c)).toArray, .slice At m ct] w fun e w' => e = .returned (.tuple #[.agg zeroSha.toArray, .int .i64 4]) ∧ Below w.heap.size w w' := by
  have Hh := Lib.hid hh
  have Hc := Lib.hid hc
  have Htot := Lib.hid htot
  have hn1 := (chk_true hc).1
  have Hrm := Lib.hid (show ¬ n + ts.flatten.length ≤ 1099511627776 by simpa only [roomB, decide_eq_false_iff_not] using hrm)
  have I10 := Lib.hid (show (Tryd.prog.info? 27).map (·.size) = some ((shaL h n (.slice A k c)).toArray).size by rw [infoSha]; simp [shaL_len hh])
  clear hh hc htot hrm
  go_enter Tryd.func15, Tryd.ntmps15
  go_wp2_with ((with_reducible show wpList _ _ _ (⟨some 7, _, _, _, _, _⟩ :: _) _ _); refine wpList_load_row rfl 27 (.tmp 2) rfl w.heap.size rfl 27 (shaL h n (.slice A k c)).toArray (0, 0) _ ((heap_alloc_old _ _ (by simp)).trans (heap_alloc_new _ _)) Tryd.underlying27 rfl I10.out ?_)
  refine (rCheck_any h n A k c _ Hh.out hn hk).mono ?_
  rintro e w2 ⟨rfl, hb2⟩
  rw [Hc.out, errK]
  have hR2 : w2.heap[w.heap.size + 1]? = some (.cells zeroSha.toArray 27 (0, 0)) := (hb2.block _ (by simp)).trans (heap_new (by simp) _)
  have hS2 : ShaAt w2 w.heap.size h n (.slice A k c) := (ShaAt.alloc ⟨Hh.out, heap_alloc_new _ _⟩ _).below hb2 (by simp; omega)
  have hB2 : Below w.heap.size w w2 := (((Below.refl _ _).alloc (Nat.le_refl _) _).alloc (al0 _ _) _).trans (hb2.mono (Nat.le_trans (al0 _ _) (al0 _ _)))
  clear hb2
  go_wp2_with fail
  refine (All_any At m ct vs ts w2 hm Htot.out ((hv.below hB2).more hB2.size) ((ht.below hB2).more hB2.size)).mono ?_
  rintro e w3 ⟨A3, n3, c3, rfl, hn3, hown3, hb3⟩
  have hl3 : ts.flatten.length = n3 := by have h := (Rd.of_own hown3).len; rwa [List.length_map] at h
  have hR3 : w3.heap[w.heap.size + 1]? = some (.cells zeroSha.toArray 27 (0, 0)) := (hb3.block _ (Array.getElem?_eq_some_iff.1 hR2).1).trans hR2
  have cN3 := (hS2.below hb3 hS2.lt).cellN
  have hB3 : Below w.heap.size w w3 := hB2.trans (hb3.mono hB2.size)
  have hrm3 : ¬ n + n3 ≤ 1099511627776 := by rw [← hl3]; exact Hrm.out
  have htot3 : n3 ≤ 1099511627776 := by rw [← hl3]; exact Htot.out
  clear hS2 hR2 hB2 hb3 hown3 hl3
  go_wp2_with ((with_reducible show wpList _ _ _ (⟨none, Op.store 27 _ _, _, _, _, _⟩ :: _) _ _); refine wpList_store_row rfl 27 (.tmp 4) (.tmp 20) rfl (w.heap.size + 1) zeroSha.toArray rfl rfl 27 _ hR3 infoSha rfl (one_sha _ _ _ _ _) ?_)
  exact bodyPost_ret (results_cell_tmp rfl _ _ (w.heap.size + 1) 27 _ (0, 0) _ rfl (setRow_heap _ _ _ _ _ _ hR3) Tryd.underlying27 rfl infoSha) rfl ⟨rfl, below_setRow hB3 (by omega) _⟩

end Go.Proofs.YtmkkghlpdnoogaaDoor
