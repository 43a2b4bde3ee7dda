/-
  THE WALK of AesBack (coterielaw04).
-/
import Derived.Test.YtbiongbbohnoiaaCtrC
import Derived.Test.YtbiongbbohnoiaaCtrD
import Derived.Test.YtbiongbbohnoiaaAesLive
import Derived.StillTailTactics
set_option linter.unusedVariables false
namespace Go.Proofs.Ytbiongbbohnoiaa
open Go.RowKit

theorem size12 {l : List UInt8} (h : l.length = 12) : (Try.prog.info? 31).map (·.size) = some (l.map bv).toArray.size := by rw [info12]; simp [h]

set_option maxRecDepth 1000000 in
set_option maxHeartbeats 2000000 in
theorem back_long (k n : List UInt8) (f m c cut : Nat) (A : Option Addr) (w : World) (hm : 1000 < m) (hcut : cut < 256) :
    Calls Try.prog 5 #[.agg (k.map bv).toArray, .agg (n.map bv).toArray, .int .u32 (f : Int), .slice A m c, .int .u8 (cut : Int)] w fun e w' => e = .returned (.bool true) ∧ Below w.heap.size w w' := by
  have m1 : (1000 : Int) < (m : Int) := by omega
  clear hm
  go_enter Try.func5, Try.ntmps5
  go_wp2_with fail
  refine (live04 _).mono ?_
  rintro e w1 ⟨rfl, hb1⟩
  have hB := c_call (c_alloc (c_alloc (c_refl w) _) _) hb1
  go_wp2_with fail
  go_ret
  exact ⟨rfl, hB⟩

set_option maxRecDepth 1000000 in
set_option maxHeartbeats 2000000 in
theorem back_arg (k n : List UInt8) (f m c cut : Nat) (A : Option Addr) (w : World) (hk : k.length = 16) (hn : n.length = 12) (hf : f < 4294967296) (hm : m ≤ 1000) (hfit : 4294967296 < f + nbs m) (hcut : cut < 256) :
    Calls Try.prog 5 #[.agg (k.map bv).toArray, .agg (n.map bv).toArray, .int .u32 (f : Int), .slice A m c, .int .u8 (cut : Int)] w fun e w' => e = .returned (.bool true) ∧ Below w.heap.size w w' := by
  have m1 : (m : Int) ≤ 1000 := by omega
  have Hk := Lib.hid hk
  have Hn := Lib.hid hn
  have Hf := Lib.hid hf
  have Hfit := Lib.hid hfit
  clear hk hn hf hfit
  go_enter Try.func5, Try.ntmps5
  go_wp2_with fail
  have gK := (ArrB.mk_ w 23 _ k rfl rfl).alloc (.cells (n.map bv).toArray 31)
  have gN := ArrB.mk_ (b := w.heap.size + 1) (w.alloc (.cells (k.map bv).toArray 23)) 31 _ n (by simp) rfl
  have hB0 := c_alloc (c_alloc (c_refl w) (.cells (k.map bv).toArray 23)) (.cells (n.map bv).toArray 31)
  refine (live04 _).mono ?_
  rintro e w1 ⟨rfl, hb1⟩
  have hK1 := gK.below hb1 gK.lt
  have hN1 := gN.below hb1 gN.lt
  have hB := c_call hB0 hb1
  clear gK gN hB0 hb1
  have Hib := Lib.hid (size16 Hk.out)
  have Hin := Lib.hid (size12 Hn.out)
  go_wp2_with (first
    | ((with_reducible show wpList _ _ _ (⟨some _, Op.load 23 _, _, _, _, _⟩ :: _) _ _); refine wpList_load_row rfl 23 (.tmp 5) rfl w.heap.size rfl 23 (k.map bv).toArray (0, 0) _ hK1 Try.underlying23 rfl Hib.out ?_)
    | ((with_reducible show wpList _ _ _ (⟨some _, Op.load 31 _, _, _, _, _⟩ :: _) _ _); refine wpList_load_row rfl 31 (.tmp 6) rfl (w.heap.size + 1) rfl 31 (n.map bv).toArray (0, 0) _ hN1 Try.underlying31 rfl Hin.out ?_)
    | (go_at_call 17; refine (Ctr_arg k n f m c A _ Hf.out (by omega) Hfit.out).mono ?_; rintro e w2 ⟨rfl, hb2⟩))
  go_ret
  exact ⟨rfl, c_call hB hb2⟩

set_option maxRecDepth 1000000 in
set_option maxHeartbeats 4000000 in
theorem back_ok (k n b : List UInt8) (f m c cut : Nat) (A : Option Addr) (w : World) (hk : k.length = 16) (hn : n.length = 12) (hf : f < 4294967296) (hr : Rd w w.heap.size A m (b.map bv)) (hmc : m ≤ c) (hm : m ≤ 1000) (hfit : f + nbs m ≤ 4294967296) (hcut : cut < 256) :
    Calls Try.prog 5 #[.agg (k.map bv).toArray, .agg (n.map bv).toArray, .int .u32 (f : Int), .slice A m c, .int .u8 (cut : Int)] w fun e w' => e = .returned (.bool true) ∧ Below w.heap.size w w' := by
  have m1 : (m : Int) ≤ 1000 := by omega
  have hbl : b.length = m := by have := hr.len; simpa using this
  have Hbl := Lib.hid hbl
  have Hk := Lib.hid hk
  have Hn := Lib.hid hn
  have Hf := Lib.hid hf
  have Hfit := Lib.hid hfit
  clear hk hn hf hfit hbl
  go_enter Try.func5, Try.ntmps5
  go_wp2_with fail
  have gK := (ArrB.mk_ w 23 _ k rfl rfl).alloc (.cells (n.map bv).toArray 31)
  have gN := ArrB.mk_ (b := w.heap.size + 1) (w.alloc (.cells (k.map bv).toArray 23)) 31 _ n (by simp) rfl
  have hB0 := c_alloc (c_alloc (c_refl w) (.cells (k.map bv).toArray 23)) (.cells (n.map bv).toArray 31)
  refine (live04 _).mono ?_
  rintro e w1 ⟨rfl, hb1⟩
  have hK1 := gK.below hb1 gK.lt
  have hN1 := gN.below hb1 gN.lt
  have hB := c_call hB0 hb1
  clear gK gN hB0 hb1
  have Hib := Lib.hid (size16 Hk.out)
  have Hin := Lib.hid (size12 Hn.out)
  have hkeep : ∀ wx : World, Below w1.heap.size w1 wx → ArrB wx w.heap.size 23 k ∧ ArrB wx (w.heap.size + 1) 31 n ∧ Below w.heap.size w wx ∧ Rd wx wx.heap.size A m (b.map bv) := fun wx hw =>
    ⟨hK1.below hw hK1.lt, hN1.below hw hN1.lt, c_call hB hw, c_rd hr (c_call hB hw)⟩
  have Hkeep := Lib.hid hkeep
  clear hkeep
  go_wp2_with (first
    | ((with_reducible show wpList _ _ _ (⟨some _, Op.load 23 _, _, _, _, _⟩ :: _) _ _); refine wpList_load_row rfl 23 (.tmp 5) rfl w.heap.size rfl 23 (k.map bv).toArray (0, 0) _ hK1 Try.underlying23 rfl Hib.out ?_)
    | ((with_reducible show wpList _ _ _ (⟨some _, Op.load 31 _, _, _, _, _⟩ :: _) _ _); refine wpList_load_row rfl 31 (.tmp 6) rfl (w.heap.size + 1) rfl 31 (n.map bv).toArray (0, 0) _ hN1 Try.underlying31 rfl Hin.out ?_))
  have h1 := Hkeep.out w1 (c_refl _)
  refine (Ctr_ok k n b f m c A _ Hk.out Hn.out Hf.out h1.2.2.2 (by omega) Hfit.out).mono ?_
  rintro e w2 ⟨A1, c1, rfl, ho1, hb2⟩
  have h2 := Hkeep.out w2 hb2
  have hK2 := h2.1
  have hN2 := h2.2.1
  clear h1 hK1 hN1
  have hx1 := Rd.of_own ho1
  have hmc1 : m ≤ c1 := by
    obtain ⟨_, c0, e, h, _⟩ := own_form ho1
    injection e with _ _ e3
    rw [e3]
    exact h
  generalize hxx : ctrU k n f b = xs at *
  have hxl : xs.length = m := by rw [← hxx, ctrU_len, Hbl.out]
  have hyy : ctrU k n f xs = b := by rw [← hxx]; exact ctr_twice k n f b
  have Hxx := Lib.hid hxx
  have Hxl := Lib.hid hxl
  have Hyy := Lib.hid hyy
  clear hxx hxl hyy
  go_wp2_with (first
    | ((with_reducible show wpList _ _ _ (⟨some _, Op.load 23 _, _, _, _, _⟩ :: _) _ _); refine wpList_load_row rfl 23 (.tmp 5) rfl w.heap.size rfl 23 (k.map bv).toArray (0, 0) _ hK2 Try.underlying23 rfl Hib.out ?_)
    | ((with_reducible show wpList _ _ _ (⟨some _, Op.load 31 _, _, _, _, _⟩ :: _) _ _); refine wpList_load_row rfl 31 (.tmp 6) rfl (w.heap.size + 1) rfl 31 (n.map bv).toArray (0, 0) _ hN2 Try.underlying31 rfl Hin.out ?_))
  refine (Ctr_ok k n xs f m c1 A1 _ Hk.out Hn.out Hf.out hx1 (by omega) Hfit.out).mono ?_
  rintro e w3 ⟨A2, c2, rfl, ho2, hb3⟩
  rw [Hyy.out] at ho2
  have hB3 : Below w1.heap.size w1 w3 := c_call hb2 hb3
  have h3 := Hkeep.out w3 hB3
  have hK3 := h3.1
  have hN3 := h3.2.1
  have hR3 := h3.2.2.2
  have hx3 := d_rd hx1 hb3
  have hy3 := Rd.of_own ho2
  clear h2 hK2 hN2 hx1 h3 ho1 ho2
  have hB1 : cut % (m / 16 + 1) * 16 ≤ m := by have := Nat.mod_lt cut (show 0 < m / 16 + 1 by omega); have := Nat.div_mul_le_self m 16; have := Nat.mul_le_mul_right 16 (show cut % (m / 16 + 1) ≤ m / 16 by omega); omega
  have e1 : ((cut : Int).tmod ((m : Int).tdiv 16 + 1)) = ((cut % (m / 16 + 1) : Nat) : Int) := by rw [Int.tdiv_eq_ediv_of_nonneg (by omega), Int.tmod_eq_emod_of_nonneg (by omega)]; rfl
  have e2 : ((cut : Int) % ((m : Int) / 16 + 1)) = ((cut % (m / 16 + 1) : Nat) : Int) := rfl
  generalize cut % (m / 16 + 1) = B at *
  go_wp2_with (first
    | (go_at_call 19; refine (Same_any A2 A m c2 m c b b _ _ _ hy3 hR3).mono ?_; rintro e w4 ⟨rfl, rfl⟩; rw [show sameB b b = true by simp [sameB]]))
  rw [e2]
  clear e1 e2 hcut
  obtain ⟨P, hP⟩ : ∃ P, P = B * 16 := ⟨_, rfl⟩
  have e3 : 16 * (B : Int) = (P : Int) := by omega
  rw [← hP] at hB1
  have p0 : (0 : Int) ≤ (P : Int) := by omega
  have hw1 : IntKind.i64.wrap (P : Int) = (P : Int) := IntWalk.i64_in _ (by omega)
  have p1 : (P : Int) ≤ (m : Int) := by omega
  have p2 : (P : Int) ≤ (c : Int) := by omega
  have hmc' : (m : Int) ≤ (c : Int) := by omega
  have HP := Lib.hid hP
  have hBl : B ≤ 62 := by omega
  clear hP
  have hu1 := Try.underlying23
  have hi1 := size16L Hk.out
  have hu2 := Try.underlying31
  have hi2 := nonceB n Hn.out
  have hrng : ∀ wx : World, Below w3.heap.size w3 wx → wx.rangeAt w.heap.size 0 (k.map bv) ∧ wx.rangeAt (w.heap.size + 1) 0 (n.map bv) := fun wx hw =>
    ⟨(hK3.below hw hK3.lt).range, (hN3.below hw hN3.lt).range⟩
  have hRt : Rd w3.drew w3.drew.heap.size A P ((b.take P).map bv) := by rw [List.map_take]; exact (hR3.take hB1).drew
  have hfitP : f + nbs P ≤ 4294967296 := by have := Hfit.out; unfold nbs at this ⊢; omega
  refine beginT (fun wx => wx.rangeAt w.heap.size 0 (k.map bv) ∧ wx.rangeAt (w.heap.size + 1) 0 (n.map bv)) 12 (by kernel_rfl) ?_
  have hS := hrng _ (c_drew (c_refl _))
  refine loadT 0 (some 72) 23 (.tmp 5) w.heap.size 0 (k.map bv) rfl rfl (by kernel_rfl) (by kernel_rfl) (by kernel_rfl) (by kernel_rfl) rfl (by kernel_rfl) rfl (fun wx hSw => hSw.1) hu1 rfl hi1 (fun _ _ _ h => h) hS ?_
  simp only [Act.put, List.setIfInBounds_toArray, List.set_cons_zero, List.set_cons_succ]
  refine loadT 1 (some 73) 31 (.tmp 6) (w.heap.size + 1) 0 (n.map bv) rfl rfl (by kernel_rfl) (by kernel_rfl) (by kernel_rfl) (by kernel_rfl) rfl (by kernel_rfl) rfl (fun wx hSw => hSw.2) hu2 rfl hi2 (fun _ _ _ h => h) hS ?_
  simp only [Act.put, List.setIfInBounds_toArray, List.set_cons_zero, List.set_cons_succ]
  refine takeD 2 (some 74) (.int .u32 (f : Int)) rfl rfl (by kernel_rfl) (by kernel_rfl) (by kernel_rfl) (by kernel_rfl) (fun _ _ _ h => h) (Or.inl ⟨by kernel_rfl, fun wx hSw => by go_simp⟩) hS ?_
  simp only [Act.put, List.setIfInBounds_toArray, List.set_cons_zero, List.set_cons_succ]
  refine takeD 3 (some 75) (.slice A m c) rfl rfl (by kernel_rfl) (by kernel_rfl) (by kernel_rfl) (by kernel_rfl) (fun _ _ _ h => h) (Or.inl ⟨by kernel_rfl, fun wx hSw => by go_simp⟩) hS ?_
  simp only [Act.put, List.setIfInBounds_toArray, List.set_cons_zero, List.set_cons_succ]
  refine takeD 4 (some 76) (.int .i64 (B : Int)) rfl rfl (by kernel_rfl) (by kernel_rfl) (by kernel_rfl) (by kernel_rfl) (fun _ _ _ h => h) (Or.inl ⟨by kernel_rfl, fun wx hSw => by go_simp⟩) hS ?_
  simp only [Act.put, List.setIfInBounds_toArray, List.set_cons_zero, List.set_cons_succ]
  refine takeD 5 (some 77) (.int .i64 (P : Int)) rfl rfl (by kernel_rfl) (by kernel_rfl) (by kernel_rfl) (by kernel_rfl) (fun _ _ _ h => h) (Or.inl ⟨by kernel_rfl, fun wx hSw => by go_simp⟩) hS ?_
  simp only [Act.put, List.setIfInBounds_toArray, List.set_cons_zero, List.set_cons_succ]
  refine takeD 6 (some 78) (.slice A P c) rfl rfl (by kernel_rfl) (by kernel_rfl) (by kernel_rfl) (by kernel_rfl) (fun _ _ _ h => h) (Or.inl ⟨by kernel_rfl, fun wx hSw => by go_simp⟩) hS ?_
  simp only [Act.put, List.setIfInBounds_toArray, List.set_cons_zero, List.set_cons_succ]
  refine oneT 7 (by kernel_rfl) rfl (fun K hK => ?_)
  go_simp
  refine (Ctr_ok k n (b.take P) f P c A _ Hk.out Hn.out Hf.out hRt (by omega) hfitP).mono ?_
  rintro e w5 ⟨A3, c3, rfl, ho3, hb5⟩
  refine hK.out _ _ (fun _ => hrng _ (by (repeat (first | exact c_refl _ | refine c_drew ?_ | refine c_alloc ?_ _ | refine c_row ?_ (by first | omega | exact Nat.le_refl _) _ | refine c_call ?_ (by assumption))); first | done | fail "open")) ?_
  clear hK K
  have hS5 := hrng w5 (by (repeat (first | exact c_refl _ | refine c_drew ?_ | refine c_alloc ?_ _ | refine c_row ?_ (by first | omega | exact Nat.le_refl _) _ | refine c_call ?_ (by assumption))); first | done | fail "open")
  refine takeD 8 (some 71) (.tuple #[.slice A3 P c3, .int .i64 0]) rfl rfl (by kernel_rfl) (by kernel_rfl) (by kernel_rfl) (by kernel_rfl) (fun _ _ _ h => h) (Or.inl ⟨by kernel_rfl, fun wx hSw => by go_simp⟩) hS5 ?_
  simp only [Act.put, List.setIfInBounds_toArray, List.set_cons_zero, List.set_cons_succ]
  refine takeD 9 (some 80) (.slice A3 P c3) rfl rfl (by kernel_rfl) (by kernel_rfl) (by kernel_rfl) (by kernel_rfl) (fun _ _ _ h => h) (Or.inl ⟨by kernel_rfl, fun wx hSw => by go_simp⟩) hS5 ?_
  simp only [Act.put, List.setIfInBounds_toArray, List.set_cons_zero, List.set_cons_succ]
  refine takeD 10 (some 81) (.int .i64 0) rfl rfl (by kernel_rfl) (by kernel_rfl) (by kernel_rfl) (by kernel_rfl) (fun _ _ _ h => h) (Or.inl ⟨by kernel_rfl, fun wx hSw => by go_simp⟩) hS5 ?_
  simp only [Act.put, List.setIfInBounds_toArray, List.set_cons_zero, List.set_cons_succ]
  refine takeD 11 (some 17) (.slice A3 P c3) rfl rfl (by kernel_rfl) (by kernel_rfl) (by kernel_rfl) (by kernel_rfl) (fun _ _ _ h => h) (Or.inl ⟨by kernel_rfl, fun wx hSw => by go_simp⟩) hS5 ?_
  simp only [Act.put, List.setIfInBounds_toArray, List.set_cons_zero, List.set_cons_succ]
  refine oneT 12 (by kernel_rfl) rfl (fun K hK => ?_)
  go_simp
  refine hK.out _ _ (fun h => absurd rfl h) ?_
  clear hK K
  refine doneT (by kernel_rfl) ?_ _
  have hB5 : Below w3.heap.size w3 w5 := c_call (c_drew (c_refl w3)) hb5
  have hR5 := d_rd hR3 hB5
  have hx5 := d_rd hx3 hB5
  have hlow3 : w3.heap.size ≤ w5.heap.size := hB5.size
  clear hRt hb5 hS hS5
  obtain ⟨F2, hF2⟩ : ∃ F2, F2 = (f + B) % 4294967296 := ⟨_, rfl⟩
  have e4 : ((f : Int) + (B : Int)) % 4294967296 = (F2 : Int) := by omega
  have hw2 : IntKind.u32.wrap (B : Int) = (B : Int) := by simp [IntKind.wrap, IntKind.bits, IntKind.signed]; omega
  have hw3 : IntKind.u32.wrap ((f : Int) + (B : Int)) = (F2 : Int) := by simp [IntKind.wrap, IntKind.bits, IntKind.signed]; omega
  have HF2 := Lib.hid hF2
  have b0 : (0 : Int) ≤ (B : Int) := by omega
  have b1 : (B : Int) ≤ 62 := by omega
  have hF2l : F2 < 4294967296 := by omega
  clear hF2
  have hRd : Rd w5.drew w5.drew.heap.size (if c = P then A else A.map (·.add P)) (m - P) ((b.drop P).map bv) := by rw [List.map_drop]; exact (hR5.cut hB1 hmc).drew
  have hfitD : F2 + nbs (m - P) ≤ 4294967296 := by have h1 := Hfit.out; have h2 := HF2.out; have h3 := HP.out; unfold nbs at h1 ⊢; omega
  have HF2l := Lib.hid hF2l
  clear hF2l
  go_wp2_with fail
  have hrng5 : ∀ wx : World, Below w5.heap.size w5 wx → wx.rangeAt w.heap.size 0 (k.map bv) ∧ wx.rangeAt (w.heap.size + 1) 0 (n.map bv) := fun wx hw => hrng wx (hB5.trans (hw.mono hlow3))
  refine beginT (fun wx => wx.rangeAt w.heap.size 0 (k.map bv) ∧ wx.rangeAt (w.heap.size + 1) 0 (n.map bv)) 15 (by kernel_rfl) ?_
  have hS := hrng5 _ (c_drew (c_refl _))
  refine loadT 0 (some 83) 23 (.tmp 5) w.heap.size 0 (k.map bv) rfl rfl (by kernel_rfl) (by kernel_rfl) (by kernel_rfl) (by kernel_rfl) rfl (by kernel_rfl) rfl (fun wx hSw => hSw.1) hu1 rfl hi1 (fun _ _ _ h => h) hS ?_
  simp only [Act.put, List.setIfInBounds_toArray, List.set_cons_zero, List.set_cons_succ]
  refine loadT 1 (some 84) 31 (.tmp 6) (w.heap.size + 1) 0 (n.map bv) rfl rfl (by kernel_rfl) (by kernel_rfl) (by kernel_rfl) (by kernel_rfl) rfl (by kernel_rfl) rfl (fun wx hSw => hSw.2) hu2 rfl hi2 (fun _ _ _ h => h) hS ?_
  simp only [Act.put, List.setIfInBounds_toArray, List.set_cons_zero, List.set_cons_succ]
  refine takeD 2 (some 85) (.int .u32 (f : Int)) rfl rfl (by kernel_rfl) (by kernel_rfl) (by kernel_rfl) (by kernel_rfl) (fun _ _ _ h => h) (Or.inl ⟨by kernel_rfl, fun wx hSw => by go_simp⟩) hS ?_
  simp only [Act.put, List.setIfInBounds_toArray, List.set_cons_zero, List.set_cons_succ]
  refine takeD 3 (some 86) (.int .i64 (B : Int)) rfl rfl (by kernel_rfl) (by kernel_rfl) (by kernel_rfl) (by kernel_rfl) (fun _ _ _ h => h) (Or.inl ⟨by kernel_rfl, fun wx hSw => by go_simp⟩) hS ?_
  simp only [Act.put, List.setIfInBounds_toArray, List.set_cons_zero, List.set_cons_succ]
  refine takeD 4 (some 87) (.int .u32 (B : Int)) rfl rfl (by kernel_rfl) (by kernel_rfl) (by kernel_rfl) (by kernel_rfl) (fun _ _ _ h => h) (Or.inl ⟨by kernel_rfl, fun wx hSw => by go_simp⟩) hS ?_
  simp only [Act.put, List.setIfInBounds_toArray, List.set_cons_zero, List.set_cons_succ]
  refine takeD 5 (some 88) (.int .u32 (F2 : Int)) rfl rfl (by kernel_rfl) (by kernel_rfl) (by kernel_rfl) (by kernel_rfl) (fun _ _ _ h => h) (Or.inl ⟨by kernel_rfl, fun wx hSw => by go_simp⟩) hS ?_
  simp only [Act.put, List.setIfInBounds_toArray, List.set_cons_zero, List.set_cons_succ]
  refine takeD 6 (some 89) (.slice A m c) rfl rfl (by kernel_rfl) (by kernel_rfl) (by kernel_rfl) (by kernel_rfl) (fun _ _ _ h => h) (Or.inl ⟨by kernel_rfl, fun wx hSw => by go_simp⟩) hS ?_
  simp only [Act.put, List.setIfInBounds_toArray, List.set_cons_zero, List.set_cons_succ]
  refine takeD 7 (some 90) (.int .i64 (B : Int)) rfl rfl (by kernel_rfl) (by kernel_rfl) (by kernel_rfl) (by kernel_rfl) (fun _ _ _ h => h) (Or.inl ⟨by kernel_rfl, fun wx hSw => by go_simp⟩) hS ?_
  simp only [Act.put, List.setIfInBounds_toArray, List.set_cons_zero, List.set_cons_succ]
  refine takeD 8 (some 91) (.int .i64 (P : Int)) rfl rfl (by kernel_rfl) (by kernel_rfl) (by kernel_rfl) (by kernel_rfl) (fun _ _ _ h => h) (Or.inl ⟨by kernel_rfl, fun wx hSw => by go_simp⟩) hS ?_
  simp only [Act.put, List.setIfInBounds_toArray, List.set_cons_zero, List.set_cons_succ]
  refine takeD 9 (some 92) (.slice (if c = P then A else A.map (·.add P)) (m - P) (c - P)) rfl rfl (by kernel_rfl) (by kernel_rfl) (by kernel_rfl) (by kernel_rfl) (fun _ _ _ h => h) (Or.inl ⟨by kernel_rfl, fun wx hSw => by go_simp⟩) hS ?_
  simp only [Act.put, List.setIfInBounds_toArray, List.set_cons_zero, List.set_cons_succ]
  refine oneT 10 (by kernel_rfl) rfl (fun K hK => ?_)
  go_simp
  refine (Ctr_ok k n (b.drop P) F2 (m - P) (c - P) _ _ Hk.out Hn.out HF2l.out hRd (by omega) hfitD).mono ?_
  rintro e w6 ⟨A4, c4, rfl, ho4, hb6⟩
  refine hK.out _ _ (fun _ => hrng5 _ (by (repeat (first | exact c_refl _ | refine c_drew ?_ | refine c_alloc ?_ _ | refine c_row ?_ (by first | omega | exact Nat.le_refl _) _ | refine c_call ?_ (by assumption))); first | done | fail "open")) ?_
  clear hK K
  have hS6 := hrng5 w6 (by (repeat (first | exact c_refl _ | refine c_drew ?_ | refine c_alloc ?_ _ | refine c_row ?_ (by first | omega | exact Nat.le_refl _) _ | refine c_call ?_ (by assumption))); first | done | fail "open")
  refine takeD 11 (some 82) (.tuple #[.slice A4 (m - P) c4, .int .i64 0]) rfl rfl (by kernel_rfl) (by kernel_rfl) (by kernel_rfl) (by kernel_rfl) (fun _ _ _ h => h) (Or.inl ⟨by kernel_rfl, fun wx hSw => by go_simp⟩) hS6 ?_
  simp only [Act.put, List.setIfInBounds_toArray, List.set_cons_zero, List.set_cons_succ]
  refine takeD 12 (some 94) (.slice A4 (m - P) c4) rfl rfl (by kernel_rfl) (by kernel_rfl) (by kernel_rfl) (by kernel_rfl) (fun _ _ _ h => h) (Or.inl ⟨by kernel_rfl, fun wx hSw => by go_simp⟩) hS6 ?_
  simp only [Act.put, List.setIfInBounds_toArray, List.set_cons_zero, List.set_cons_succ]
  refine takeD 13 (some 95) (.int .i64 0) rfl rfl (by kernel_rfl) (by kernel_rfl) (by kernel_rfl) (by kernel_rfl) (fun _ _ _ h => h) (Or.inl ⟨by kernel_rfl, fun wx hSw => by go_simp⟩) hS6 ?_
  simp only [Act.put, List.setIfInBounds_toArray, List.set_cons_zero, List.set_cons_succ]
  refine takeD 14 (some 19) (.slice A4 (m - P) c4) rfl rfl (by kernel_rfl) (by kernel_rfl) (by kernel_rfl) (by kernel_rfl) (fun _ _ _ h => h) (Or.inl ⟨by kernel_rfl, fun wx hSw => by go_simp⟩) hS6 ?_
  simp only [Act.put, List.setIfInBounds_toArray, List.set_cons_zero, List.set_cons_succ]
  refine oneT 15 (by kernel_rfl) rfl (fun K hK => ?_)
  go_simp
  refine hK.out _ _ (fun h => absurd rfl h) ?_
  clear hK K
  refine doneT (by kernel_rfl) ?_ _
  have hB6 : Below w5.heap.size w5 w6 := c_call (c_drew (c_refl w5)) hb6
  have hx6 := d_rd hx5 hB6
  have ho3' := own_below_ ho3 hB6
  have hEnd : Below w.heap.size w w6 := c_call (c_call (c_call hB hB3) hB5) hB6
  have hP16 : P = 16 * B := by rw [HP.out]; omega
  have hPb : 16 * B ≤ b.length := by rw [Hbl.out, ← hP16]; exact hB1
  have h3r := Rd.of_own ho3'
  have h4r := Rd.of_own ho4
  have hx6' : Rd w6 w3.heap.size A1 m (xs.map bv) := (hx3.below hB5).below (hB6.mono hlow3)
  have hxP : Rd w6 w6.heap.size A1 P ((xs.take P).map bv) := by rw [List.map_take]; exact hx6.take hB1
  have hs1 : sameB (xs.take P) (ctrU k n f (b.take P)) = true := by
    rw [← Hxx.out, hP16, ctr_take k n f B b hPb]
    exact sameB_refl _
  have hs2 : f + B < 4294967296 → sameB xs (ctrU k n f (b.take P) ++ ctrU k n F2 (b.drop P)) = true := fun h => by
    rw [HF2.out, Nat.mod_eq_of_lt h, hP16, ← ctr_split k n f B b hPb, Hxx.out]
    exact sameB_refl _
  have Hs1 := Lib.hid hs1
  have Hs2 := Lib.hid hs2
  have p3 : (P : Int) ≤ (c1 : Int) := by omega
  have hob : ∀ g, (Value.slice A3 P c3).ownBlock = some g → w3.heap.size ≤ g := fun g hg => by
    rcases ho3'.2 with ⟨h0, _⟩ | ⟨g', cap, cur, hv, hb, _⟩
    · rw [h0] at hg; cases hg
    · rw [hv] at hg; cases hg; exact hb
  have hob' : ∀ g, (Value.slice A3 P c3).ownBlock = some g → w.heap.size ≤ g := fun g hg => Nat.le_trans (c_call hB hB3).size (hob g hg)
  have hlow6 : w3.drew.heap.size ≤ w6.heap.size := Nat.le_trans hlow3 hB6.size
  have hPm : P + (m - P) = m := by omega
  obtain ⟨i0, hi0, hz0, hz1, hz2⟩ := info_parts byteInfo
  generalize (if c = P then A else A.map (·.add P)) = AD at *
  clear hs1 hs2 hP16 hPb hRd hb6 hS hS6 hrng hrng5 ho3 ho4
  by_cases hov : 4294967295 < f + B
  · have o1 : (4294967295 : Int) < (f : Int) + (B : Int) := by omega
    clear Hs2 hob
    go_wp2_with (go_at_call 19; refine (Same_any A1 A3 P c1 P c3 (xs.take P) (ctrU k n f (b.take P)) _ _ _ hxP h3r).mono ?_; rintro e w7 ⟨rfl, rfl⟩; rw [Hs1.out])
    go_ret
    exact ⟨rfl, hEnd⟩
  · have o1 : (f : Int) + (B : Int) ≤ 4294967295 := by omega
    have hs2 := Hs2.out (by omega)
    have Hs3 := Lib.hid hs2
    clear Hs2 hs2 hxP
    go_wp2_with (first
      | (at_builtin; refine wpList_append_rd _ rfl (.tmp 126) (.tmp 127) _ rfl w3.drew.heap.size 5 i0 _ 1 Try.underlying33 hi0 hz0 hz1 hz2 rfl (.slice A3 P c3) P _ rfl ho3' _ A4 (m - P) c4 _ rfl h4r (one_bv _) (by simp only [maxLen]; omega) (by omega) hlow6 ?_; intro v7 w7 hown7 hgr7 hat7; rw [hPm] at hown7; obtain ⟨A7, c7, rfl, _, _⟩ := own_form hown7; have hx7 := hx6'.grown hgr7 hlow6 hob; have h7r := Rd.of_own hown7; rw [← List.map_append] at h7r; have hE7 := hEnd.grown hgr7 hEnd.size hob')
      | (go_at_call 19; refine (Same_any A1 A7 m c1 m c7 xs _ _ _ _ hx7 h7r).mono ?_; rintro e w8 ⟨rfl, rfl⟩; rw [Hs3.out]))
    go_ret
    exact ⟨rfl, hE7⟩

theorem walk_AesBack (k n : List UInt8) (f : Nat) (A : Option Addr) (m c : Nat) (b : List UInt8) (cut : UInt8) (w : World) (hk : k.length = 16) (hn : n.length = 12) (hf : f < 4294967296) (hmc : m ≤ c) (hm63 : c ≤ maxLen) (hr : Rd w w.heap.size A m (b.map bv)) :
    Calls Try.prog 5 #[.agg (k.map bv).toArray, .agg (n.map bv).toArray, .int .u32 (f : Int), .slice A m c, .int .u8 (cut.toNat : Int)] w fun e w' => e = .returned (.bool true) ∧ Below w.heap.size w w' := by
  by_cases hm : m ≤ 1000
  · by_cases hfit : f + nbs m ≤ 4294967296
    · exact back_ok k n b f m c cut.toNat A w hk hn hf hr hmc hm hfit (b_lt cut)
    · exact back_arg k n f m c cut.toNat A w hk hn hf hm (by omega) (b_lt cut)
  · exact back_long k n f m c cut.toNat A w (by omega) (b_lt cut)

end Go.Proofs.Ytbiongbbohnoiaa
