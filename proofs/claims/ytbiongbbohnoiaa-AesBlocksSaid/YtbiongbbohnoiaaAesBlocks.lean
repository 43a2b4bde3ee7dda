/-
  THE WALK of AesBlocks (coterielaw04).
-/
import Derived.Test.YtbiongbbohnoiaaAesEq
import Derived.Test.YtbiongbbohnoiaaRefAesE
set_option linter.unusedVariables false
namespace Go.Proofs.Ytbiongbbohnoiaa
open Go.RowKit

set_option maxRecDepth 1000000 in
set_option maxHeartbeats 2000000 in
theorem walk_AesBlocks (k b : List UInt8) (x : UInt8) (w : World) (hk : k.length = 16) (hb : b.length = 16) :
    Calls Try.prog 3 #[.agg (k.map bv).toArray, .agg (b.map bv).toArray, .int .u8 (x.toNat : Int)] w fun e w' => e = .returned (.bool true) ∧ Below w.heap.size w w' := by
  have Hk := Lib.hid hk
  have Hb := Lib.hid hb
  clear hk hb
  go_enter Try.func3, Try.ntmps3
  go_wp2_with fail
  have k0 := (ArrB.mk_ w 23 _ k rfl rfl).alloc (.cells (b.map bv).toArray 23)
  have k1 := ArrB.mk_ (b := w.heap.size + 1) (w.alloc (.cells (k.map bv).toArray 23)) 23 _ b (by simp) rfl
  have hB0 := ((Below.refl w.heap.size w).alloc (Nat.le_refl _) (.cells (k.map bv).toArray 23)).alloc (al0 _ _) (.cells (b.map bv).toArray 23)
  refine calls_gen (fun wx => ArrB wx w.heap.size 23 k ∧ ArrB wx (w.heap.size + 1) 23 b ∧ Below w.heap.size w wx) ⟨k0, k1, hB0⟩ ?_
  clear k0 k1 hB0
  rintro w0 ⟨k0, k1, hB0⟩
  refine (live04 _).mono ?_
  rintro e w1 ⟨rfl, hb1⟩
  have g0 := k0.below hb1 k0.lt
  have g1 := k1.below hb1 k1.lt
  have hB1 : Below w.heap.size w w1 := hB0.trans (hb1.mono hB0.size)
  clear k0 k1 hB0 hb1
  go_wp2_with fail
  have hu := Try.underlying23
  have hi0 := size16L Hk.out
  have hi1 := size16L Hb.out
  have hq1 := fun wx : World => eql_keys wx (keysU k) (keysU_len Hk.out)
  have hq2 := fun wx : World => eql_row wx 9998 (encU k b) (encU_len _ _)
  have hkeep : ∀ wx : World, Below w1.heap.size w1 wx → wx.rangeAt w.heap.size 0 (k.map bv) ∧ wx.rangeAt (w.heap.size + 1) 0 (b.map bv) := fun wx hw => ⟨(g0.below hw g0.lt).range, (g1.below hw g1.lt).range⟩
  refine beginT (fun wx => wx.rangeAt w.heap.size 0 (k.map bv) ∧ wx.rangeAt (w.heap.size + 1) 0 (b.map bv)) 24 (by kernel_rfl) ?_
  have hS := hkeep _ (c_drew (c_refl _))
  refine takeD 0 (some 11) (.bool true) rfl rfl (by kernel_rfl) (by kernel_rfl) (by kernel_rfl) (by kernel_rfl) (fun _ _ _ h => h) (Or.inl ⟨by kernel_rfl, fun wx hSw => by go_simp⟩) hS ?_
  simp only [Act.put, List.setIfInBounds_toArray, List.set_cons_zero, List.set_cons_succ]
  refine takeD 1 (some 12) (.bool true) rfl rfl (by kernel_rfl) (by kernel_rfl) (by kernel_rfl) (by kernel_rfl) (fun _ _ _ h => h) (Or.inl ⟨by kernel_rfl, fun wx hSw => by go_simp⟩) hS ?_
  simp only [Act.put, List.setIfInBounds_toArray, List.set_cons_zero, List.set_cons_succ]
  refine takeD 2 (some 13) (.int .u8 (x.toNat : Int)) rfl rfl (by kernel_rfl) (by kernel_rfl) (by kernel_rfl) (by kernel_rfl) (fun _ _ _ h => h) (Or.inl ⟨by kernel_rfl, fun wx hSw => by go_simp⟩) hS ?_
  simp only [Act.put, List.setIfInBounds_toArray, List.set_cons_zero, List.set_cons_succ]
  refine takeD 4 (some 15) (.int .u8 (x.toNat : Int)) rfl rfl (by kernel_rfl) (by kernel_rfl) (by kernel_rfl) (by kernel_rfl) (fun _ _ _ h => h) (Or.inl ⟨by kernel_rfl, fun wx hSw => by go_simp⟩) hS ?_
  simp only [Act.put, List.setIfInBounds_toArray, List.set_cons_zero, List.set_cons_succ]
  refine oneT 3 (by kernel_rfl) rfl (fun K hK => ?_)
  go_simp
  refine (Box_any x _).mono ?_
  rintro e wa ⟨rfl, hba⟩
  refine hK.out _ _ (fun _ => hkeep _ (by (repeat (first | exact c_refl _ | refine c_drew ?_ | refine c_alloc ?_ _ | refine c_row ?_ (by first | omega | exact Nat.le_refl _) _ | refine c_call ?_ (by assumption))); first | done | fail "open")) ?_
  clear hK K
  refine oneT 5 (by kernel_rfl) rfl (fun K hK => ?_)
  go_simp
  refine (RBox_b x _).mono ?_
  rintro e wb ⟨rfl, hbb⟩
  refine hK.out _ _ (fun _ => hkeep _ (by (repeat (first | exact c_refl _ | refine c_drew ?_ | refine c_alloc ?_ _ | refine c_row ?_ (by first | omega | exact Nat.le_refl _) _ | refine c_call ?_ (by assumption))); first | done | fail "open")) ?_
  clear hK K
  have hS2 := hkeep wb (by (repeat (first | exact c_refl _ | refine c_drew ?_ | refine c_alloc ?_ _ | refine c_row ?_ (by first | omega | exact Nat.le_refl _) _ | refine c_call ?_ (by assumption))); first | done | fail "open")
  refine takeD 6 (some 17) (.bool true) rfl rfl (by kernel_rfl) (by kernel_rfl) (by kernel_rfl) (by kernel_rfl) (fun _ _ _ h => h) (Or.inl ⟨by kernel_rfl, fun wx hSw => by go_simp⟩) hS2 ?_
  simp only [Act.put, List.setIfInBounds_toArray, List.set_cons_zero, List.set_cons_succ]
  refine takeD 7 (some 18) (.bool true) rfl rfl (by kernel_rfl) (by kernel_rfl) (by kernel_rfl) (by kernel_rfl) (fun _ _ _ h => h) (Or.inl ⟨by kernel_rfl, fun wx hSw => by go_simp⟩) hS2 ?_
  simp only [Act.put, List.setIfInBounds_toArray, List.set_cons_zero, List.set_cons_succ]
  refine takeD 8 (some 19) (.bool true) rfl rfl (by kernel_rfl) (by kernel_rfl) (by kernel_rfl) (by kernel_rfl) (fun _ _ _ h => h) (Or.inl ⟨by kernel_rfl, fun wx hSw => by go_simp⟩) hS2 ?_
  simp only [Act.put, List.setIfInBounds_toArray, List.set_cons_zero, List.set_cons_succ]
  refine loadT 9 (some 20) 23 (.tmp 3) w.heap.size 0 (k.map bv) rfl rfl (by kernel_rfl) (by kernel_rfl) (by kernel_rfl) (by kernel_rfl) rfl (by kernel_rfl) rfl (fun wx hSw => hSw.1) hu rfl hi0 (fun _ _ _ h => h) hS2 ?_
  simp only [Act.put, List.setIfInBounds_toArray, List.set_cons_zero, List.set_cons_succ]
  refine loadT 11 (some 22) 23 (.tmp 3) w.heap.size 0 (k.map bv) rfl rfl (by kernel_rfl) (by kernel_rfl) (by kernel_rfl) (by kernel_rfl) rfl (by kernel_rfl) rfl (fun wx hSw => hSw.1) hu rfl hi0 (fun _ _ _ h => h) hS2 ?_
  simp only [Act.put, List.setIfInBounds_toArray, List.set_cons_zero, List.set_cons_succ]
  refine oneT 10 (by kernel_rfl) rfl (fun K hK => ?_)
  go_simp
  refine (Keys_any k _ Hk.out).mono ?_
  rintro e wd ⟨rfl, hbd⟩
  refine hK.out _ _ (fun _ => hkeep _ (by (repeat (first | exact c_refl _ | refine c_drew ?_ | refine c_alloc ?_ _ | refine c_row ?_ (by first | omega | exact Nat.le_refl _) _ | refine c_call ?_ (by assumption))); first | done | fail "open")) ?_
  clear hK K
  refine oneT 12 (by kernel_rfl) rfl (fun K hK => ?_)
  go_simp
  refine (RKeys_any k _ Hk.out).mono ?_
  rintro e we ⟨rfl, hbe⟩
  refine hK.out _ _ (fun _ => hkeep _ (by (repeat (first | exact c_refl _ | refine c_drew ?_ | refine c_alloc ?_ _ | refine c_row ?_ (by first | omega | exact Nat.le_refl _) _ | refine c_call ?_ (by assumption))); first | done | fail "open")) ?_
  clear hK K
  have hS3 := hkeep we (by (repeat (first | exact c_refl _ | refine c_drew ?_ | refine c_alloc ?_ _ | refine c_row ?_ (by first | omega | exact Nat.le_refl _) _ | refine c_call ?_ (by assumption))); first | done | fail "open")
  generalize ((keysU k).map bv).toArray = KS at *
  refine takeD 13 (some 24) (.bool true) rfl rfl (by kernel_rfl) (by kernel_rfl) (by kernel_rfl) (by kernel_rfl) (fun _ _ _ h => h) (Or.inl ⟨by kernel_rfl, fun wx hSw => by go_simp⟩) hS3 ?_
  simp only [Act.put, List.setIfInBounds_toArray, List.set_cons_zero, List.set_cons_succ]
  refine takeD 14 (some 25) (.bool true) rfl rfl (by kernel_rfl) (by kernel_rfl) (by kernel_rfl) (by kernel_rfl) (fun _ _ _ h => h) (Or.inl ⟨by kernel_rfl, fun wx hSw => by go_simp⟩) hS3 ?_
  simp only [Act.put, List.setIfInBounds_toArray, List.set_cons_zero, List.set_cons_succ]
  refine takeD 15 (some 26) (.bool true) rfl rfl (by kernel_rfl) (by kernel_rfl) (by kernel_rfl) (by kernel_rfl) (fun _ _ _ h => h) (Or.inl ⟨by kernel_rfl, fun wx hSw => by go_simp⟩) hS3 ?_
  simp only [Act.put, List.setIfInBounds_toArray, List.set_cons_zero, List.set_cons_succ]
  refine loadT 16 (some 27) 23 (.tmp 3) w.heap.size 0 (k.map bv) rfl rfl (by kernel_rfl) (by kernel_rfl) (by kernel_rfl) (by kernel_rfl) rfl (by kernel_rfl) rfl (fun wx hSw => hSw.1) hu rfl hi0 (fun _ _ _ h => h) hS3 ?_
  simp only [Act.put, List.setIfInBounds_toArray, List.set_cons_zero, List.set_cons_succ]
  refine loadT 17 (some 28) 23 (.tmp 4) (w.heap.size + 1) 0 (b.map bv) rfl rfl (by kernel_rfl) (by kernel_rfl) (by kernel_rfl) (by kernel_rfl) rfl (by kernel_rfl) rfl (fun wx hSw => hSw.2) hu rfl hi1 (fun _ _ _ h => h) hS3 ?_
  simp only [Act.put, List.setIfInBounds_toArray, List.set_cons_zero, List.set_cons_succ]
  refine loadT 19 (some 30) 23 (.tmp 3) w.heap.size 0 (k.map bv) rfl rfl (by kernel_rfl) (by kernel_rfl) (by kernel_rfl) (by kernel_rfl) rfl (by kernel_rfl) rfl (fun wx hSw => hSw.1) hu rfl hi0 (fun _ _ _ h => h) hS3 ?_
  simp only [Act.put, List.setIfInBounds_toArray, List.set_cons_zero, List.set_cons_succ]
  refine loadT 20 (some 31) 23 (.tmp 4) (w.heap.size + 1) 0 (b.map bv) rfl rfl (by kernel_rfl) (by kernel_rfl) (by kernel_rfl) (by kernel_rfl) rfl (by kernel_rfl) rfl (fun wx hSw => hSw.2) hu rfl hi1 (fun _ _ _ h => h) hS3 ?_
  simp only [Act.put, List.setIfInBounds_toArray, List.set_cons_zero, List.set_cons_succ]
  refine oneT 18 (by kernel_rfl) rfl (fun K hK => ?_)
  go_simp
  refine (Encrypt_any k b _ Hk.out Hb.out).mono ?_
  rintro e wf ⟨rfl, hbf⟩
  refine hK.out _ _ (fun _ => hkeep _ (by (repeat (first | exact c_refl _ | refine c_drew ?_ | refine c_alloc ?_ _ | refine c_row ?_ (by first | omega | exact Nat.le_refl _) _ | refine c_call ?_ (by assumption))); first | done | fail "open")) ?_
  clear hK K
  refine oneT 21 (by kernel_rfl) rfl (fun K hK => ?_)
  go_simp
  refine (REncrypt_any k b _ Hk.out Hb.out).mono ?_
  rintro e wg ⟨rfl, hbg⟩
  refine hK.out _ _ (fun _ => hkeep _ (by (repeat (first | exact c_refl _ | refine c_drew ?_ | refine c_alloc ?_ _ | refine c_row ?_ (by first | omega | exact Nat.le_refl _) _ | refine c_call ?_ (by assumption))); first | done | fail "open")) ?_
  clear hK K
  have hE : Below w1.heap.size w1 wg := (by (repeat (first | exact c_refl _ | refine c_drew ?_ | refine c_alloc ?_ _ | refine c_row ?_ (by first | omega | exact Nat.le_refl _) _ | refine c_call ?_ (by assumption))); first | done | fail "open")
  have hS4 := hkeep wg hE
  generalize ((encU k b).map bv).toArray = ES at *
  refine takeD 22 (some 33) (.bool true) rfl rfl (by kernel_rfl) (by kernel_rfl) (by kernel_rfl) (by kernel_rfl) (fun _ _ _ h => h) (Or.inl ⟨by kernel_rfl, fun wx hSw => by go_simp⟩) hS4 ?_
  simp only [Act.put, List.setIfInBounds_toArray, List.set_cons_zero, List.set_cons_succ]
  refine takeD 23 (some 34) (.bool true) rfl rfl (by kernel_rfl) (by kernel_rfl) (by kernel_rfl) (by kernel_rfl) (fun _ _ _ h => h) (Or.inl ⟨by kernel_rfl, fun wx hSw => by go_simp⟩) hS4 ?_
  simp only [Act.put, List.setIfInBounds_toArray, List.set_cons_zero, List.set_cons_succ]
  refine oneT 24 (by kernel_rfl) rfl (fun K hK => ?_)
  go_simp
  refine hK.out _ _ (fun h => absurd rfl h) ?_
  clear hK K
  refine doneT (by kernel_rfl) ?_ _
  go_wp2_with fail
  go_ret
  exact ⟨rfl, hB1.trans (hE.mono hB1.size)⟩

end Go.Proofs.Ytbiongbbohnoiaa
