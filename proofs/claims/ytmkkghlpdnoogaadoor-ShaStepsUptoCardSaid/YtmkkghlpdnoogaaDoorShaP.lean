/-
  CONTRACTS of the program's Done (package sha).
-/
import Derived.Test.YtmkkghlpdnoogaaDoorShaO
set_option linter.unusedVariables false
namespace Go.Proofs.YtmkkghlpdnoogaaDoor
open Go.RowKit

def zeroKey : List UInt8 := List.replicate 32 0
theorem one_key : ((zeroKey.map bv).toArray).all (·.oneCell') = true := one_bvA _

set_option maxRecDepth 1000000 in
theorem Done_bad (h : List UInt32) (n : Nat) (A : Option Addr) (k c : Nat) (w : World) (hh : h.length = 8) (hn : n < 18446744073709551616) (hk : k ≤ 9223372036854775807) (hc : chkU h n k = false) :
    Calls Tryd.prog 16 #[.agg (shaL h n (.slice A k c)).toArray] w fun e w' => e = .returned (.tuple #[.agg (zeroKey.map bv).toArray, .int .i64 1]) ∧ Below w.heap.size w w' := by
  have Hh := Lib.hid hh
  have Hc := Lib.hid hc
  have I10 := Lib.hid (show (Tryd.prog.info? 27).map (·.size) = some ((shaL h n (.slice A k c)).toArray).size by rw [infoSha]; simp [shaL_len hh])
  clear hh hc
  go_enter Tryd.func16, Tryd.ntmps16
  go_wp2_with ((with_reducible show wpList _ _ _ (⟨some 5, _, _, _, _, _⟩ :: _) _ _); refine wpList_load_row rfl 27 (.tmp 1) rfl w.heap.size rfl 27 (shaL h n (.slice A k c)).toArray (0, 0) _ ((heap_alloc_old _ _ (by simp)).trans (heap_alloc_new _ _)) Tryd.underlying27 rfl I10.out ?_)
  refine (Check_any h n A k c _ Hh.out hn hk).mono ?_
  rintro e w2 ⟨rfl, hb2⟩
  rw [Hc.out, errK]
  have hR2 : ArrB w2 (w.heap.size + 1) 36 zeroKey := by
    refine (ArrB.mk_ _ _ _ zeroKey (size_alloc1 _ _) ?_).below hb2 (by simp)
    rfl
  have hb02 : Below w.heap.size w w2 := (((Below.refl _ _).alloc (Nat.le_refl _) _).alloc (al0 _ _) _).trans (hb2.mono (Nat.le_trans (al0 _ _) (al0 _ _)))
  go_wp2_with ((with_reducible show wpList _ _ _ (⟨none, Op.store 36 _ _, _, _, _, _⟩ :: _) _ _); refine wpList_store_row rfl 36 (.tmp 2) (.tmp 9) rfl (w.heap.size + 1) (zeroKey.map bv).toArray rfl rfl 36 _ hR2 key_zero rfl one_key ?_)
  exact bodyPost_ret (results_cell_tmp rfl _ _ (w.heap.size + 1) 36 _ (0, 0) _ rfl (hR2.row zeroKey) Tryd.underlying36 rfl key_zero) rfl ⟨rfl, below_setRow hb02 (by omega) _⟩

set_option maxRecDepth 1000000 in
theorem Done_ok (h : List UInt32) (n : Nat) (A : Option Addr) (k c : Nat) (rest : List UInt8) (w : World) (hh : h.length = 8) (hn : n < 18446744073709551616) (hr : Rd w w.heap.size A k (rest.map bv)) (hT : CTab w) (hc : chkU h n k = true) :
    Calls Tryd.prog 16 #[.agg (shaL h n (.slice A k c)).toArray] w fun e w' => e = .returned (.tuple #[.agg ((doneU h n rest).map bv).toArray, .int .i64 0]) ∧ Below w.heap.size w w' := by
  have Hh := Lib.hid hh
  have Hc := Lib.hid hc
  obtain ⟨hn1, hk1⟩ := chk_true hc
  have hk : k < 64 := by omega
  have I10 := Lib.hid (show (Tryd.prog.info? 27).map (·.size) = some ((shaL h n (.slice A k c)).toArray).size by rw [infoSha]; simp [shaL_len hh])
  clear hh hc hk1
  go_enter Tryd.func16, Tryd.ntmps16
  go_wp2_with ((with_reducible show wpList _ _ _ (⟨some 5, _, _, _, _, _⟩ :: _) _ _); refine wpList_load_row rfl 27 (.tmp 1) rfl w.heap.size rfl 27 (shaL h n (.slice A k c)).toArray (0, 0) _ ((heap_alloc_old _ _ (by simp)).trans (heap_alloc_new _ _)) Tryd.underlying27 rfl I10.out ?_)
  refine (Check_any h n A k c _ Hh.out hn (by omega)).mono ?_
  rintro e w2 ⟨rfl, hb2⟩
  rw [Hc.out, errK]
  have hR2 : ArrB w2 (w.heap.size + 1) 36 zeroKey := by
    refine (ArrB.mk_ _ _ _ zeroKey (size_alloc1 _ _) ?_).below hb2 (by simp)
    rfl
  have hS2 : ShaAt w2 w.heap.size h n (.slice A k c) := (ShaAt.alloc ⟨Hh.out, heap_alloc_new _ _⟩ _).below hb2 (by simp; omega)
  have hb02 : Below w.heap.size w w2 := (((Below.refl _ _).alloc (Nat.le_refl _) _).alloc (al0 _ _) _).trans (hb2.mono (Nat.le_trans (al0 _ _) (al0 _ _)))
  go_wp2_with ((with_reducible show wpList _ _ _ (⟨some 11, _, _, _, _, _⟩ :: _) _ _); refine wpList_load_row rfl 27 (.tmp 1) rfl w.heap.size rfl 27 (shaL h n (.slice A k c)).toArray (0, 0) _ hS2.2 Tryd.underlying27 rfl I10.out ?_)
  refine (closed_any h n A k c rest _ Hh.out hk ((hr.below hb02).more hb02.size) hn1 (hT.below hb02)).mono ?_
  rintro e w3 ⟨rfl, hb3⟩
  have hR3 := hR2.below hb3 hR2.lt
  have hls : (doneU h n rest).length = 32 := by rw [doneU, bytesU_len, blocksTo_len Hh.out]
  generalize hgb : doneU h n rest = b at *
  have Hgb := Lib.hid hgb
  have Hf := Lib.hid (show (Tryd.prog.info? 36).map (·.size) = some ((b.map bv).toArray).size by rw [info32]; simp [hls])
  have Hz := Lib.hid (show (zeroKey.map bv).toArray.size = ((b.map bv).toArray).size by simp [hls, zeroKey])
  clear hgb hls
  go_wp2_with ((with_reducible show wpList _ _ _ (⟨none, Op.store 36 _ _, _, _, _, _⟩ :: _) _ _); refine wpList_store_row rfl 36 (.tmp 2) (.tmp 12) rfl (w.heap.size + 1) (b.map bv).toArray rfl rfl 36 _ hR3 Hf.out Hz.out (one_bvA _) ?_)
  exact bodyPost_ret (results_cell_tmp rfl _ _ (w.heap.size + 1) 36 _ (0, 0) _ rfl (hR3.row b) Tryd.underlying36 rfl Hf.out) rfl ⟨by rw [Hgb.out]; rfl, below_setRow (hb02.trans (hb3.mono hb02.size)) (by omega) _⟩

end Go.Proofs.YtmkkghlpdnoogaaDoor
