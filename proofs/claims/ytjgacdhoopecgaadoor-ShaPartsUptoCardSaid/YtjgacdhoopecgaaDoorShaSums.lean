/-
  THE WALK of ShaSums (coterielaw02).
-/
import Derived.Test.YtjgacdhoopecgaaDoorShaQ
import Derived.Test.YtjgacdhoopecgaaDoorShaE
import Derived.Test.YtjgacdhoopecgaaDoorFew
import Derived.Deep.RegionHeld3
set_option linter.unusedVariables false
namespace Go.Proofs.YtjgacdhoopecgaaDoor
open Go.RowKit

theorem c_refl (w : World) : Below w.heap.size w w := Below.refl _ _
theorem c_alloc {a w : World} (h : Below a.heap.size a w) (o : Obj) : Below a.heap.size a (w.alloc o) := h.alloc h.size o
theorem c_drew {a w : World} (h : Below a.heap.size a w) : Below a.heap.size a w.drew := h.drew
theorem c_call {a w w' : World} (h : Below a.heap.size a w) (hb : Below w.heap.size w w') : Below a.heap.size a w' := h.trans (hb.mono h.size)
theorem c_rd {a w : World} {A : Option Addr} {n : Nat} {xs : List Value} (h : Rd a a.heap.size A n xs) (hb : Below a.heap.size a w) : Rd w w.heap.size A n xs := (h.below hb).more hb.size
theorem c_txs {a w : World} {vs : List Value} {ts : List (List UInt8)} (h : Txs a a.heap.size vs ts) (hb : Below a.heap.size a w) : Txs w w.heap.size vs ts := (h.below hb).more hb.size
theorem new_range {w1 : World} {cs : List Value} {t : TypeId} {g : Nat} (hg : w1.heap.size = g) (wx : World) (hb : Below (w1.alloc (.cells cs.toArray t)).heap.size (w1.alloc (.cells cs.toArray t)) wx) : wx.rangeAt g 0 cs := fun j u hu => by
  subst hg
  have hr : wx.heap[w1.heap.size]? = some (.cells cs.toArray t (0, 0)) := (hb.block _ (by simp)).trans (heap_alloc_new w1 _)
  rw [cell_of_row wx _ _ _ _ (0, 0) hr]
  simpa using hu
theorem key_same (wx : World) (l : List UInt8) (hl : l.length = 32) : (Op.equalIn 10000 28 (.agg (l.map bv).toArray) (.agg (l.map bv).toArray)).run Tryd.prog wx = .ok true wx := by
  obtain ⟨ii, hii⟩ := byte_info
  have h := run_eqlRow wx false Tryd.underlying28 Tryd.underlying5 hii byteCells bv (fun x => (x.toNat : Int)) (fun _ => rfl) bv_inj 0 l l hl hl
  rw [beq_self_eq_true] at h
  exact h

set_option maxRecDepth 1000000 in
set_option maxHeartbeats 2000000 in
theorem walk_ShaSums (At : Option Addr) (m ct : Nat) (vs : List Value) (ts : List (List UInt8)) (w : World) (hmc : m ≤ ct) (hct : ct ≤ maxLen)
    (hv : Rd w w.heap.size At m vs) (ht : Txs w w.heap.size vs ts) (hK : KTab w) (hT : CTab w) (hu : ts.flatten.length + m ≤ 1048576) :
    Calls Tryd.prog 3 #[.slice At m ct] w fun e w' => e = .returned (.bool true) ∧ Below w.heap.size w w' := by
  have Hu := Lib.hid hu
  have u1 : m ≤ 5864062014805 := by omega
  have u2 : ts.flatten.length ≤ 1099511627776 := by omega
  clear hu
  go_enter Tryd.func3, Tryd.ntmps3
  go_wp2_with fail
  refine (live_any _ hT).mono ?_
  rintro e w2 ⟨rfl, hB2⟩
  go_wp2_with fail
  refine (Few_any At m ct vs ts _ _ u1 (hv.below hB2) (ht.below hB2)).mono ?_
  rintro e w3 ⟨b, rfl, hb200, rfl⟩
  clear hb200
  cases b
  · go_wp2_with fail
    go_ret
    exact ⟨rfl, hB2⟩
  go_wp2_with fail
  refine (All_any At m ct vs ts _ u1 u2 ((hv.below hB2).more hB2.size) ((ht.below hB2).more hB2.size)).mono ?_
  rintro e w3 ⟨A3, n3, c3, rfl, hn3, hown3, hb3⟩
  have hR3 := Rd.of_own hown3
  have hB3 : Below w.heap.size w w3 := hB2.trans (hb3.mono hB2.size)
  clear hown3 hb3 hB2
  go_wp2_with fail
  refine (pSum_any At m ct vs ts _ u1 u2 ((hv.below hB3).more hB3.size) ((ht.below hB3).more hB3.size) (hT.below hB3)).mono ?_
  rintro e w4 ⟨rfl, hb4⟩
  have hR4 := (hR3.below hb4).more hb4.size
  have hB4 : Below w.heap.size w w4 := hB3.trans (hb4.mono hB3.size)
  clear hR3 hB3 hb4
  have K1 := Lib.hid (show (Tryd.prog.info? 28).map (·.size) = some (((sumU ts.flatten).map bv).toArray).size by rw [info32]; simp [sumU_len])
  have K2 := Lib.hid (show (((List.replicate 32 (0 : UInt8)).map bv).toArray).size = (((sumU ts.flatten).map bv).toArray).size by simp [sumU_len])
  have K3 := Lib.hid (one_bvA (sumU ts.flatten))
  go_wp2_with (((with_reducible show wpList _ _ _ (⟨none, Op.store 28 _ _, _, _, _, _⟩ :: _) _ _); refine wpList_store_row rfl 28 (.tmp 5) (.tmp 14) rfl (w4.heap.size) ((sumU ts.flatten).map bv).toArray rfl rfl 28 ((List.replicate 32 (0 : UInt8)).map bv).toArray (heap_alloc_new _ _) K1.out K2.out K3.out ?_; rw [World.setRow_alloc_new]))
  have hq := fun wx : World => key_same wx (sumU ts.flatten) (sumU_len _)
  have hund := Tryd.underlying28
  have hinf : (Tryd.prog.info? 28).map (·.size) = some ((sumU ts.flatten).map bv).length := by rw [info32]; simp [sumU_len]
  have hnr := fun wx : World => new_range (t := 28) (cs := (sumU ts.flatten).map bv) (rfl : w4.heap.size = w4.heap.size) wx
  go_region_held3 (fun wx => wx.rangeAt w4.heap.size 0 ((sumU ts.flatten).map bv) ∧ Below w.heap.size w wx)
    (first
      | (refine ⟨hnr _ ?_, ?_⟩ <;> ((repeat (first | exact c_refl _ | exact hB4 | refine c_drew ?_ | refine c_alloc ?_ _)); first | done | fail "open"))
      | (refine ⟨hnr _ ?_, ?_⟩ <;> ((repeat (first | exact c_refl _ | exact hB4 | refine c_drew ?_ | refine c_alloc ?_ _ | refine c_call ?_ hb6)); first | done | fail "open"))
      | (refine ⟨hnr _ ?_, ?_⟩ <;> ((repeat (first | exact c_refl _ | exact hB4 | refine c_drew ?_ | refine c_alloc ?_ _ | refine c_call ?_ hb6 | refine c_call ?_ hb7)); first | done | fail "open")))
    (first
      | (go_at_call 12; refine (Sum_any At m ct vs ts _ u1 u2 (c_rd hv (by (repeat (first | exact c_refl _ | exact hB4 | refine c_drew ?_ | refine c_alloc ?_ _)); first | done | fail "open")) (c_txs ht (by (repeat (first | exact c_refl _ | exact hB4 | refine c_drew ?_ | refine c_alloc ?_ _)); first | done | fail "open")) (hK.below (by (repeat (first | exact c_refl _ | exact hB4 | refine c_drew ?_ | refine c_alloc ?_ _)); first | done | fail "open"))).mono ?_; rintro e w6 ⟨rfl, hb6⟩)
      | (go_at_call 10; refine (All_any At m ct vs ts _ u1 u2 (c_rd hv (by (repeat (first | exact c_refl _ | exact hB4 | refine c_drew ?_ | refine c_alloc ?_ _ | refine c_call ?_ hb6)); first | done | fail "open")) (c_txs ht (by (repeat (first | exact c_refl _ | exact hB4 | refine c_drew ?_ | refine c_alloc ?_ _ | refine c_call ?_ hb6)); first | done | fail "open"))).mono ?_; rintro e w7 ⟨A7, n7, c7, rfl, hn7, hown7, hb7⟩; have hR7 := Rd.of_own hown7)
      | (go_at_call 13; refine (Same_any A7 A3 n7 c7 n3 c3 ts.flatten ts.flatten _ _ _ (c_rd hR7 (by (repeat (first | exact c_refl _ | exact hB4 | refine c_drew ?_ | refine c_alloc ?_ _ | refine c_call ?_ hb6 | refine c_call ?_ hb7)); first | done | fail "open")) (c_rd hR4 (by (repeat (first | exact c_refl _ | exact hB4 | refine c_drew ?_ | refine c_alloc ?_ _ | refine c_call ?_ hb6 | refine c_call ?_ hb7)); first | done | fail "open"))).mono ?_; rintro e w8 ⟨rfl, rfl⟩; rw [sameB_refl]))
  rename_i hH
  have hE := hH.2
  go_wp2_with fail
  go_ret
  exact ⟨rfl, hE⟩

end Go.Proofs.YtjgacdhoopecgaaDoor
