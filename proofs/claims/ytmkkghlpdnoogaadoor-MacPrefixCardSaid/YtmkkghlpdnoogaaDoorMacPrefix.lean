/-
  THE WALK of MacPrefix (coterielaw03).
-/
import Derived.Test.YtmkkghlpdnoogaaDoorMacE
import Derived.Test.YtmkkghlpdnoogaaDoorMacLive
set_option linter.unusedVariables false
namespace Go.Proofs.YtmkkghlpdnoogaaDoor
open Go.RowKit

set_option maxRecDepth 1000000 in
set_option maxHeartbeats 2000000 in
theorem walk_MacPrefix (k : List UInt8) (A : Option Addr) (ni ci : Nat) (info : List UInt8) (few more : Nat) (w : World) (hk : k.length = 32) (hnc : ni ≤ ci) (hcm : ci ≤ maxLen) (hr : Rd w w.heap.size A ni (info.map bv)) (h1 : few ≤ 65535) (h2 : more ≤ 65535) (hT : CTab w) :
    Calls Tryd.prog 6 #[.agg (k.map bv).toArray, .slice A ni ci, .int .u16 (few : Int), .int .u16 (more : Int)] w fun e w' => e = .returned (.bool true) ∧ Below w.heap.size w w' := by
  have Hk := Lib.hid hk
  clear hk
  go_enter Tryd.func6, Tryd.ntmps6
  go_wp2_with fail
  refine (live03 _ (hT.below (d_al _ _))).mono ?_
  rintro e w2 ⟨rfl, hb2⟩
  have hK2 : ArrB w2 w.heap.size 36 k := (ArrB.mk_ w _ _ k rfl rfl).below hb2 (by simp)
  have hB2 : Below w.heap.size w w2 := c_call (d_al _ _) hb2
  clear hb2
  by_cases hni : ni ≤ 2000
  rotate_left
  · go_wp2_with fail
    go_ret
    exact ⟨rfl, hB2⟩
  obtain ⟨n, hn⟩ : ∃ n : Nat, (few : Int) % 300 = (n : Int) := ⟨few % 300, by omega⟩
  obtain ⟨q, hq⟩ : ∃ q : Nat, (more : Int) % 300 = (q : Int) := ⟨more % 300, by omega⟩
  have n1 : n < 300 := by omega
  have q1 : q < 300 := by omega
  go_wp2_with ((with_reducible show wpList _ _ _ (⟨some 32, _, _, _, _, _⟩ :: _) _ _); refine wpList_load_row rfl 36 (.tmp 4) rfl w.heap.size rfl 36 (k.map bv).toArray (0, 0) _ hK2 Tryd.underlying36 rfl (infoK32 Hk.out) ?_)
  refine (Expand_ok k A ni ci info n _ Hk.out (by omega) hnc (by omega) (d_rd hr hB2) (hT.below hB2)).mono ?_
  rintro e w3 ⟨A3, c3, rfl, hc3, hr3, hb3⟩
  have hK3 := hK2.below hb3 hK2.lt
  have hB3 : Below w.heap.size w w3 := c_call hB2 hb3
  clear hK2 hB2 hb3
  have E1 := Lib.hid (show ((n : Int) + (q : Int)) = ((n + q : Nat) : Int) by omega)
  go_wp2_with ((with_reducible show wpList _ _ _ (⟨some 39, _, _, _, _, _⟩ :: _) _ _); refine wpList_load_row rfl 36 (.tmp 4) rfl w.heap.size rfl 36 (k.map bv).toArray (0, 0) _ hK3 Tryd.underlying36 rfl (infoK32 Hk.out) ?_)
  rw [E1.out]
  refine (Expand_ok k A ni ci info (n + q) _ Hk.out (by omega) hnc (by omega) (d_rd hr hB3) (hT.below hB3)).mono ?_
  rintro e w4 ⟨A4, c4, rfl, hc4, hr4, hb4⟩
  have hr3' := d_rd hr3 hb4
  have hB4 : Below w.heap.size w w4 := c_call hB3 hb4
  clear hK3 hB3 hb4 hr3
  have htk := hr4.take (k := n) (by omega)
  rw [← List.map_take, expandU_take k info n (n + q) (by omega)] at htk
  have Hsame := Lib.hid (sameB_refl (expandU k info n))
  go_wp2_with fail
  refine (Same_any A4 A3 n c4 n c3 (expandU k info n) (expandU k info n) w4 _ _ htk hr3').mono ?_
  rintro e w5 ⟨rfl, rfl⟩
  rw [Hsame.out]
  go_wp2_with fail
  go_ret
  exact ⟨rfl, hB4⟩

end Go.Proofs.YtmkkghlpdnoogaaDoor
