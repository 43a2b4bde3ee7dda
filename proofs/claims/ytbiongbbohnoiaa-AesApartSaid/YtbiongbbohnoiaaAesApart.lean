/-
  THE WALK of AesApart (coterielaw04).
-/
import Derived.Test.YtbiongbbohnoiaaAesLive
import Derived.Test.YtbiongbbohnoiaaAesInj
set_option linter.unusedVariables false
namespace Go.Proofs.Ytbiongbbohnoiaa
open Go.RowKit

set_option maxRecDepth 1000000 in
set_option maxHeartbeats 2000000 in
theorem walk_AesApart (k a b : List UInt8) (x y : UInt8) (w : World) (hk : k.length = 16) (ha : a.length = 16) (hb : b.length = 16) :
    Calls Try.prog 6 #[.agg (k.map bv).toArray, .agg (a.map bv).toArray, .agg (b.map bv).toArray, .int .u8 (x.toNat : Int), .int .u8 (y.toNat : Int)] w fun e w' => e = .returned (.bool true) ∧ Below w.heap.size w w' := by
  have Hk := Lib.hid hk
  have Ha := Lib.hid ha
  have Hb := Lib.hid hb
  clear hk ha hb
  go_enter Try.func6, Try.ntmps6
  go_wp2_with fail
  have k0 := ((ArrB.mk_ w 23 _ k rfl rfl).alloc (.cells (a.map bv).toArray 23)).alloc (.cells (b.map bv).toArray 23)
  have k1 := (ArrB.mk_ (b := w.heap.size + 1) (w.alloc (.cells (k.map bv).toArray 23)) 23 _ a (by simp) rfl).alloc (.cells (b.map bv).toArray 23)
  have k2 := ArrB.mk_ (b := w.heap.size + 1 + 1) ((w.alloc (.cells (k.map bv).toArray 23)).alloc (.cells (a.map bv).toArray 23)) 23 _ b (by simp) rfl
  have hB0 := (((Below.refl w.heap.size w).alloc (Nat.le_refl _) (.cells (k.map bv).toArray 23)).alloc (al0 _ _) (.cells (a.map bv).toArray 23)).alloc (Nat.le_trans (al0 _ _) (al0 _ _)) (.cells (b.map bv).toArray 23)
  refine calls_gen (fun wx => ArrB wx w.heap.size 23 k ∧ ArrB wx (w.heap.size + 1) 23 a ∧ ArrB wx (w.heap.size + 1 + 1) 23 b ∧ Below w.heap.size w wx) ⟨k0, k1, k2, hB0⟩ ?_
  clear k0 k1 k2 hB0
  rintro w0 ⟨k0, k1, k2, hB0⟩
  refine (live04 _).mono ?_
  rintro e w1 ⟨rfl, hb1⟩
  have g0 := k0.below hb1 k0.lt
  have g1 := k1.below hb1 k1.lt
  have g2 := k2.below hb1 k2.lt
  have hB1 : Below w.heap.size w w1 := hB0.trans (hb1.mono hB0.size)
  clear k0 k1 k2 hB0 hb1
  go_wp2_with fail
  have hu := Try.underlying23
  have hi0 := size16L Hk.out
  have hi1 := size16L Ha.out
  have hi2 := size16L Hb.out
  have hq1 := fun wx : World => eql_block wx a b Ha.out Hb.out
  have hq2 := fun wx : World => eql_block wx (encU k a) (encU k b) (encU_len _ _) (encU_len _ _)
  have hsame := encU_same k Ha.out Hb.out
  rw [hsame] at hq2
  have hbox := box_same x y
  have hss : ∀ s : Bool, (s == s) = true := fun s => by cases s <;> rfl
  generalize hs : (a == b) = s at *
  have hs1 := hss s
  have hs2 := hss ((x.toNat : Int) == (y.toNat : Int))
  clear hs hsame hss
  have hkeep : ∀ wx : World, Below w1.heap.size w1 wx → wx.rangeAt w.heap.size 0 (k.map bv) ∧ wx.rangeAt (w.heap.size + 1) 0 (a.map bv) ∧ wx.rangeAt (w.heap.size + 1 + 1) 0 (b.map bv) := fun wx hw => ⟨(g0.below hw g0.lt).range, (g1.below hw g1.lt).range, (g2.below hw g2.lt).range⟩
  refine beginT (fun wx => wx.rangeAt w.heap.size 0 (k.map bv) ∧ wx.rangeAt (w.heap.size + 1) 0 (a.map bv) ∧ wx.rangeAt (w.heap.size + 1 + 1) 0 (b.map bv)) 25 (by kernel_rfl) ?_
  have hS := hkeep _ (c_drew (c_refl _))
  refine takeD 0 (some 15) (.bool true) rfl rfl (by kernel_rfl) (by kernel_rfl) (by kernel_rfl) (by kernel_rfl) (fun _ _ _ h => h) (Or.inl ⟨by kernel_rfl, fun wx hSw => by go_simp⟩) hS ?_
  simp only [Act.put, List.setIfInBounds_toArray, List.set_cons_zero, List.set_cons_succ]
  refine takeD 1 (some 16) (.bool true) rfl rfl (by kernel_rfl) (by kernel_rfl) (by kernel_rfl) (by kernel_rfl) (fun _ _ _ h => h) (Or.inl ⟨by kernel_rfl, fun wx hSw => by go_simp⟩) hS ?_
  simp only [Act.put, List.setIfInBounds_toArray, List.set_cons_zero, List.set_cons_succ]
  refine loadT 2 (some 17) 23 (.tmp 5) w.heap.size 0 (k.map bv) rfl rfl (by kernel_rfl) (by kernel_rfl) (by kernel_rfl) (by kernel_rfl) rfl (by kernel_rfl) rfl (fun wx hSw => hSw.1) hu rfl hi0 (fun _ _ _ h => h) hS ?_
  simp only [Act.put, List.setIfInBounds_toArray, List.set_cons_zero, List.set_cons_succ]
  refine loadT 3 (some 18) 23 (.tmp 6) (w.heap.size + 1) 0 (a.map bv) rfl rfl (by kernel_rfl) (by kernel_rfl) (by kernel_rfl) (by kernel_rfl) rfl (by kernel_rfl) rfl (fun wx hSw => hSw.2.1) hu rfl hi1 (fun _ _ _ h => h) hS ?_
  simp only [Act.put, List.setIfInBounds_toArray, List.set_cons_zero, List.set_cons_succ]
  refine loadT 5 (some 20) 23 (.tmp 5) w.heap.size 0 (k.map bv) rfl rfl (by kernel_rfl) (by kernel_rfl) (by kernel_rfl) (by kernel_rfl) rfl (by kernel_rfl) rfl (fun wx hSw => hSw.1) hu rfl hi0 (fun _ _ _ h => h) hS ?_
  simp only [Act.put, List.setIfInBounds_toArray, List.set_cons_zero, List.set_cons_succ]
  refine loadT 6 (some 21) 23 (.tmp 7) (w.heap.size + 1 + 1) 0 (b.map bv) rfl rfl (by kernel_rfl) (by kernel_rfl) (by kernel_rfl) (by kernel_rfl) rfl (by kernel_rfl) rfl (fun wx hSw => hSw.2.2) hu rfl hi2 (fun _ _ _ h => h) hS ?_
  simp only [Act.put, List.setIfInBounds_toArray, List.set_cons_zero, List.set_cons_succ]
  refine loadT 9 (some 24) 23 (.tmp 6) (w.heap.size + 1) 0 (a.map bv) rfl rfl (by kernel_rfl) (by kernel_rfl) (by kernel_rfl) (by kernel_rfl) rfl (by kernel_rfl) rfl (fun wx hSw => hSw.2.1) hu rfl hi1 (fun _ _ _ h => h) hS ?_
  simp only [Act.put, List.setIfInBounds_toArray, List.set_cons_zero, List.set_cons_succ]
  refine loadT 10 (some 25) 23 (.tmp 7) (w.heap.size + 1 + 1) 0 (b.map bv) rfl rfl (by kernel_rfl) (by kernel_rfl) (by kernel_rfl) (by kernel_rfl) rfl (by kernel_rfl) rfl (fun wx hSw => hSw.2.2) hu rfl hi2 (fun _ _ _ h => h) hS ?_
  simp only [Act.put, List.setIfInBounds_toArray, List.set_cons_zero, List.set_cons_succ]
  refine takeD 11 (some 26) (.bool s) rfl rfl (by kernel_rfl) (by kernel_rfl) (by kernel_rfl) (by kernel_rfl) (fun _ _ _ h => h) (Or.inl ⟨by kernel_rfl, fun wx hSw => by go_simp⟩) hS ?_
  simp only [Act.put, List.setIfInBounds_toArray, List.set_cons_zero, List.set_cons_succ]
  refine oneT 4 (by kernel_rfl) rfl (fun K hK => ?_)
  go_simp
  refine (Encrypt_any k a _ Hk.out Ha.out).mono ?_
  rintro e wa ⟨rfl, hba⟩
  refine hK.out _ _ (fun _ => hkeep _ (by (repeat (first | exact c_refl _ | refine c_drew ?_ | refine c_alloc ?_ _ | refine c_row ?_ (by first | omega | exact Nat.le_refl _) _ | refine c_call ?_ (by assumption))); first | done | fail "open")) ?_
  clear hK K
  refine oneT 7 (by kernel_rfl) rfl (fun K hK => ?_)
  go_simp
  refine (Encrypt_any k b _ Hk.out Hb.out).mono ?_
  rintro e wb ⟨rfl, hbb⟩
  refine hK.out _ _ (fun _ => hkeep _ (by (repeat (first | exact c_refl _ | refine c_drew ?_ | refine c_alloc ?_ _ | refine c_row ?_ (by first | omega | exact Nat.le_refl _) _ | refine c_call ?_ (by assumption))); first | done | fail "open")) ?_
  clear hK K
  have hS2 := hkeep wb (by (repeat (first | exact c_refl _ | refine c_drew ?_ | refine c_alloc ?_ _ | refine c_row ?_ (by first | omega | exact Nat.le_refl _) _ | refine c_call ?_ (by assumption))); first | done | fail "open")
  refine takeD 8 (some 23) (.bool s) rfl rfl (by kernel_rfl) (by kernel_rfl) (by kernel_rfl) (by kernel_rfl) (fun _ _ _ h => h) (Or.inl ⟨by kernel_rfl, fun wx hSw => by go_simp⟩) hS2 ?_
  simp only [Act.put, List.setIfInBounds_toArray, List.set_cons_zero, List.set_cons_succ]
  refine takeD 12 (some 27) (.bool true) rfl rfl (by kernel_rfl) (by kernel_rfl) (by kernel_rfl) (by kernel_rfl) (fun _ _ _ h => h) (Or.inl ⟨by kernel_rfl, fun wx hSw => by go_simp⟩) hS2 ?_
  simp only [Act.put, List.setIfInBounds_toArray, List.set_cons_zero, List.set_cons_succ]
  refine takeD 13 (some 28) (.bool true) rfl rfl (by kernel_rfl) (by kernel_rfl) (by kernel_rfl) (by kernel_rfl) (fun _ _ _ h => h) (Or.inl ⟨by kernel_rfl, fun wx hSw => by go_simp⟩) hS2 ?_
  simp only [Act.put, List.setIfInBounds_toArray, List.set_cons_zero, List.set_cons_succ]
  refine takeD 14 (some 29) (.bool true) rfl rfl (by kernel_rfl) (by kernel_rfl) (by kernel_rfl) (by kernel_rfl) (fun _ _ _ h => h) (Or.inl ⟨by kernel_rfl, fun wx hSw => by go_simp⟩) hS2 ?_
  simp only [Act.put, List.setIfInBounds_toArray, List.set_cons_zero, List.set_cons_succ]
  refine takeD 15 (some 30) (.int .u8 (x.toNat : Int)) rfl rfl (by kernel_rfl) (by kernel_rfl) (by kernel_rfl) (by kernel_rfl) (fun _ _ _ h => h) (Or.inl ⟨by kernel_rfl, fun wx hSw => by go_simp⟩) hS2 ?_
  simp only [Act.put, List.setIfInBounds_toArray, List.set_cons_zero, List.set_cons_succ]
  refine takeD 17 (some 32) (.int .u8 (y.toNat : Int)) rfl rfl (by kernel_rfl) (by kernel_rfl) (by kernel_rfl) (by kernel_rfl) (fun _ _ _ h => h) (Or.inl ⟨by kernel_rfl, fun wx hSw => by go_simp⟩) hS2 ?_
  simp only [Act.put, List.setIfInBounds_toArray, List.set_cons_zero, List.set_cons_succ]
  refine takeD 20 (some 35) (.int .u8 (x.toNat : Int)) rfl rfl (by kernel_rfl) (by kernel_rfl) (by kernel_rfl) (by kernel_rfl) (fun _ _ _ h => h) (Or.inl ⟨by kernel_rfl, fun wx hSw => by go_simp⟩) hS2 ?_
  simp only [Act.put, List.setIfInBounds_toArray, List.set_cons_zero, List.set_cons_succ]
  refine takeD 21 (some 36) (.int .u8 (y.toNat : Int)) rfl rfl (by kernel_rfl) (by kernel_rfl) (by kernel_rfl) (by kernel_rfl) (fun _ _ _ h => h) (Or.inl ⟨by kernel_rfl, fun wx hSw => by go_simp⟩) hS2 ?_
  simp only [Act.put, List.setIfInBounds_toArray, List.set_cons_zero, List.set_cons_succ]
  refine takeD 22 (some 37) (.bool ((x.toNat : Int) == (y.toNat : Int))) rfl rfl (by kernel_rfl) (by kernel_rfl) (by kernel_rfl) (by kernel_rfl) (fun _ _ _ h => h) (Or.inl ⟨by kernel_rfl, fun wx hSw => by go_simp⟩) hS2 ?_
  simp only [Act.put, List.setIfInBounds_toArray, List.set_cons_zero, List.set_cons_succ]
  refine oneT 16 (by kernel_rfl) rfl (fun K hK => ?_)
  go_simp
  refine (Box_any x _).mono ?_
  rintro e wd ⟨rfl, hbd⟩
  refine hK.out _ _ (fun _ => hkeep _ (by (repeat (first | exact c_refl _ | refine c_drew ?_ | refine c_alloc ?_ _ | refine c_row ?_ (by first | omega | exact Nat.le_refl _) _ | refine c_call ?_ (by assumption))); first | done | fail "open")) ?_
  clear hK K
  refine oneT 18 (by kernel_rfl) rfl (fun K hK => ?_)
  go_simp
  refine (Box_any y _).mono ?_
  rintro e we ⟨rfl, hbe⟩
  refine hK.out _ _ (fun _ => hkeep _ (by (repeat (first | exact c_refl _ | refine c_drew ?_ | refine c_alloc ?_ _ | refine c_row ?_ (by first | omega | exact Nat.le_refl _) _ | refine c_call ?_ (by assumption))); first | done | fail "open")) ?_
  clear hK K
  have hE : Below w1.heap.size w1 we := (by (repeat (first | exact c_refl _ | refine c_drew ?_ | refine c_alloc ?_ _ | refine c_row ?_ (by first | omega | exact Nat.le_refl _) _ | refine c_call ?_ (by assumption))); first | done | fail "open")
  have hS3 := hkeep we hE
  refine takeD 19 (some 34) (.bool ((x.toNat : Int) == (y.toNat : Int))) rfl rfl (by kernel_rfl) (by kernel_rfl) (by kernel_rfl) (by kernel_rfl) (fun _ _ _ h => h) (Or.inl ⟨by kernel_rfl, fun wx hSw => by go_simp⟩) hS3 ?_
  simp only [Act.put, List.setIfInBounds_toArray, List.set_cons_zero, List.set_cons_succ]
  refine takeD 23 (some 38) (.bool true) rfl rfl (by kernel_rfl) (by kernel_rfl) (by kernel_rfl) (by kernel_rfl) (fun _ _ _ h => h) (Or.inl ⟨by kernel_rfl, fun wx hSw => by go_simp⟩) hS3 ?_
  simp only [Act.put, List.setIfInBounds_toArray, List.set_cons_zero, List.set_cons_succ]
  refine takeD 24 (some 39) (.bool true) rfl rfl (by kernel_rfl) (by kernel_rfl) (by kernel_rfl) (by kernel_rfl) (fun _ _ _ h => h) (Or.inl ⟨by kernel_rfl, fun wx hSw => by go_simp⟩) hS3 ?_
  simp only [Act.put, List.setIfInBounds_toArray, List.set_cons_zero, List.set_cons_succ]
  refine oneT 25 (by kernel_rfl) rfl (fun K hK => ?_)
  go_simp
  refine hK.out _ _ (fun h => absurd rfl h) ?_
  clear hK K
  refine doneT (by kernel_rfl) ?_ _
  go_wp2_with fail
  go_ret
  exact ⟨rfl, hB1.trans (hE.mono hB1.size)⟩

end Go.Proofs.Ytbiongbbohnoiaa
