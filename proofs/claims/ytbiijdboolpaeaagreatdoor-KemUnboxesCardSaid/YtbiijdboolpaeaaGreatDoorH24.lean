import Derived.Test.YtbiijdboolpaeaaGreatDoorH22
import Derived.Test.YtbiijdboolpaeaaGreatDoorH23
set_option linter.unusedVariables false
namespace Go.Proofs.YtbiijdboolpaeaaGreatDoor
open Go.RowKit
def pntN (l : List UInt8) : Nat := keyV l % 57896044618658097711785492504343953926634992332820282019728792003956564819968 % P25
def mltK (k l : List UInt8) : List UInt8 := keyB (mltN (clampL k) (pntN l))
theorem mltK_len (k l : List UInt8) : (mltK k l).length = 32 := keyB_len _
def nineL : List UInt8 := 9 :: List.replicate 31 0
theorem nine_lit : keyC nineL = #[.int .u8 9, .int .u8 0, .int .u8 0, .int .u8 0, .int .u8 0, .int .u8 0, .int .u8 0, .int .u8 0, .int .u8 0, .int .u8 0, .int .u8 0, .int .u8 0, .int .u8 0, .int .u8 0, .int .u8 0, .int .u8 0, .int .u8 0, .int .u8 0, .int .u8 0, .int .u8 0, .int .u8 0, .int .u8 0, .int .u8 0, .int .u8 0, .int .u8 0, .int .u8 0, .int .u8 0, .int .u8 0, .int .u8 0, .int .u8 0, .int .u8 0, .int .u8 0] := by kernel_rfl
theorem RMult_k (k l : List UInt8) (w : World) (hk : k.length = 32) (hl : l.length = 32) :
  Calls Tryz.prog 27 #[.agg (keyC k), .agg (keyC l)] w fun e w' => e = .returned (.agg (keyC (mltK k l))) ∧ Below w.heap.size w w' := RMult_any k l w hk hl
set_option maxRecDepth 100000 in
set_option maxHeartbeats 1000000 in
theorem RBase_any (k : List UInt8) (w : World) (hk : k.length = 32) :
  Calls Tryz.prog 19 #[.agg (keyC k)] w fun e w' => e = .returned (.agg (keyC (mltK k nineL))) ∧ Below w.heap.size w w' := by
 have hM0 := ((Ms.nil w).box 23 (keyC k)).box 23 (keyC (keyB 0))
 simp only [World.size_alloc] at hM0
 have hm := fun wx => RMult_k k nineL wx hk rfl
 rw [nine_lit] at hm
 have Hs := Lib.hid (sizeKey hk)
 have Hz := Lib.hid (show (keyC (keyB 0)).size = (keyC (mltK k nineL)).size by rw [keyC_size, keyC_size, keyB_len, mltK_len])
 rw [keyZ] at hM0 Hz
 clear hk
 go_enter Tryz.func19, Tryz.ntmps19
 go_wp2_with ((with_reducible refine tdQ 3 ?_); refine lcQ 23 (.tmp 1) (w.heap.size) (keyC k) (hM0.get 1 rfl) Tryz.underlying23 Hs.out ?_)
 refine (hm _).mono ?_
 rintro e w1 ⟨rfl, hb1⟩
 have hM1 := hM0.call hb1
 clear hM0 hb1 hm
 go_wp2_with ((with_reducible refine tsQ 23 ?_); refine srQ 23 (.tmp 2) (.tmp 5) (w.heap.size + 1) (keyC (mltK k nineL)) _ (hM1.get 0 rfl) (sizeKey (mltK_len _ _)) Hz.out (one_keyF _) ?_)
 exact bodyPost_ret (results_cell_one rfl _ _ (w.heap.size + 1) 23 _ _ rfl ((hM1.get 0 rfl).row _) Tryz.underlying23 rfl (sizeKey (mltK_len _ _))) rfl ⟨rfl, below_setRow hM1.old (by omega) _⟩
end Go.Proofs.YtbiijdboolpaeaaGreatDoor
