/-
  THE WALK of FePowers (coterielaw05).
-/
import Derived.Test.YtbkdlmneidboaaaFeStands
set_option linter.unusedVariables false
namespace Go.Proofs.Ytbkdlmneidboaaa
open Go.RowKit

theorem u_sq (a : Fe5) (n : Nat) : valF (sqU a n) % P25 = sqN (valF a % P25) n := by rw [sqU_val, sqN_val (P25_lt _), Nat.pow_mod]
theorem u_inv (a : Fe5) : valF (invU a) % P25 = invN (valF a % P25) 255 := by rw [invU_val, invN_val, expN_all, Nat.pow_mod]

set_option maxRecDepth 1000000 in
set_option maxHeartbeats 8000000 in
theorem walk_FePowers (a : Fe5) (times : Int) (w : World) (ha : WordF a) :
    Calls Try.prog 5 #[.agg (feC a), .int .i64 times] w fun e w' => e = .returned (.bool true) ∧ Below w.heap.size w w' := by
  have hM0 := (Ms.nil w).box 37 (feC a)
  go_enter Try.func5, Try.ntmps5
  go_wp2_with fail
  refine (live05 _).mono ?_
  rintro e w1 ⟨rfl, hb1⟩
  have hM1 := hM0.call hb1
  clear hM0 hb1
  go_upto_region 4 with (fail)
  have Hsa := Lib.hid (sizeFe a)
  have Hw := Lib.hid ha
  clear ha
  go_cut [21] (fun q wx => q = .bool (decide (20 < times) && decide (times ≤ 300)) ∧ w1 = wx)
  case first =>
    by_cases h1 : 20 < times
    · have hd1 : decide ((20 : Int) < times) = true := decide_eq_true h1
      clear h1
      go_wp2_with fail
      go_meet
      exact ⟨by rw [hd1, Bool.true_and], rfl⟩
    · have hd1 : decide ((20 : Int) < times) = false := decide_eq_false h1
      clear h1
      go_wp2_with fail
      go_meet
      exact ⟨by rw [hd1, Bool.false_and], rfl⟩
  case rest =>
  obtain ⟨rfl, rfl⟩ := hcut
  generalize hc : (decide (20 < times) && decide (times ≤ 300)) = c at *
  go_upto_if 21 with (fail)
  go_cut [1] (fun p wx => (∃ t : Int, p = .int .i64 t) ∧ w1 = wx)
  case first =>
    cases c
    · clear hc
      go_wp2_with fail
      go_meet
      exact ⟨⟨_, rfl⟩, rfl⟩
    · have hc2 : 20 < times ∧ times ≤ 300 := by simpa using hc
      have hm1 : Int.tmod times 20 = times % 20 := Int.tmod_eq_emod_of_nonneg (by omega)
      have hm2 : IntKind.i64.wrap (times % 20) = times % 20 := by rw [IntKind.wrap_i64]; omega
      clear hc hc2
      go_wp2_with fail
      go_meet
      exact ⟨⟨_, rfl⟩, rfl⟩
  case rest =>
  obtain ⟨⟨t, rfl⟩, rfl⟩ := hcut
  clear hc
  by_cases hma : MayF a
  · have Ha := Lib.hid hma
    clear hma
    by_cases h0 : t < 0
    · have hsq := fun wx => Square_bad2 a t wx Ha.out h0
      have hd1 : decide (t < (0 : Int)) = true := decide_eq_true h0
      clear h0
      have hst2 := fun wx => Stands_true (invU a) (invN (valF a % P25) 255) wx (invU_may Ha.out) (u_inv a)
      have hinn := fun wx => InvertN_any (valF a % P25) wx (P25_lt _)
      have hin := fun wx => Invert_ok a wx Ha.out
      have hof := fun wx => OfN_any a wx Ha.out
      have Hsy := Lib.hid (sizeFe (invU a))
      have Hoy := Lib.hid (one_fe (invU a))
      have Hzy := Lib.hid (fe_zero (invU a))
      have Hsm := Lib.hid (sizeNum (numF (valF a % P25)))
      have Hom := Lib.hid (one_num (numF (valF a % P25)))
      have Hzm := Lib.hid (num_zero (numF (valF a % P25)))
      generalize numC (numF (invN (valF a % P25) 255)) = nI at *
      generalize numC (numF (valF a % P25)) = cm at *
      obtain ⟨lm, rfl⟩ : ∃ l : List Value, l.toArray = cm := ⟨_, Array.toArray_toList⟩
      generalize feC (invU a) = cy at *
      obtain ⟨ly, rfl⟩ : ∃ l : List Value, l.toArray = cy := ⟨_, Array.toArray_toList⟩
      have hno := None_true
      have Hsx := Lib.hid (sizeFe zeroF)
      have Hox := Lib.hid (one_fe zeroF)
      have Hzx := Lib.hid (fe_zero zeroF)
      generalize feC zeroF = cx at *
      obtain ⟨lx, rfl⟩ : ∃ l : List Value, l.toArray = cx := ⟨_, Array.toArray_toList⟩
      go_wp2_with ((with_reducible show wpList _ _ _ (⟨some 25, _, _, _, _, _⟩ :: _) _ _); refine wpList_loadC (by kernel_rfl) 37 (.tmp 2) rfl (w.heap.size) rfl 37 (feC a) _ (hM1.get 0 rfl) Try.underlying37 rfl Hsa.out ?_)
      refine (hsq _).mono ?_
      rintro e w2 ⟨rfl, hb2⟩
      have hM2 := hM1.call hb2
      clear hM1 hb2
      have hP2 := hM2.put 37 #[.int .u64 0, .int .u64 0, .int .u64 0, .int .u64 0, .int .u64 0] lx.toArray
      go_wp2_with (first
        | ((with_reducible show wpList _ _ _ (⟨none, Op.store 37 _ _, _, _, _, _⟩ :: _) _ _); refine wpList_store_row rfl 37 (.tmp 6) (.tmp 28) rfl (w2.heap.size) lx.toArray rfl rfl 37 _ (RowC.new _ _ _) Hsx.out Hzx.out Hox.out ?_)
        | ((with_reducible show wpList _ _ _ (⟨some 31, _, _, _, _, _⟩ :: _) _ _); refine wpList_loadC (by kernel_rfl) 37 (.tmp 2) rfl (w.heap.size) rfl 37 (feC a) _ (hP2.get 1 rfl) Try.underlying37 rfl Hsa.out ?_))
      refine (hin _).mono ?_
      rintro e w3 ⟨rfl, hb3⟩
      have hM3 := hP2.call hb3
      clear hP2 hb3
      have hP3 := hM3.put 37 #[.int .u64 0, .int .u64 0, .int .u64 0, .int .u64 0, .int .u64 0] ly.toArray
      go_wp2_with (first
        | ((with_reducible show wpList _ _ _ (⟨none, Op.store 37 _ _, _, _, _, _⟩ :: _) _ _); refine wpList_store_row rfl 37 (.tmp 8) (.tmp 33) rfl (w3.heap.size) ly.toArray rfl rfl 37 _ (RowC.new _ _ _) Hsy.out Hzy.out Hoy.out ?_)
        | ((with_reducible show wpList _ _ _ (⟨some 35, _, _, _, _, _⟩ :: _) _ _); refine wpList_loadC (by kernel_rfl) 37 (.tmp 2) rfl (w.heap.size) rfl 37 (feC a) _ (hP3.get 2 rfl) Try.underlying37 rfl Hsa.out ?_))
      refine (May_true a _ Ha.out).mono ?_
      rintro e w4 ⟨rfl, hb4⟩
      have hM4 := hP3.call hb4
      clear hP3 hb4
      go_wp2_with ((with_reducible show wpList _ _ _ (⟨some 63, _, _, _, _, _⟩ :: _) _ _); refine wpList_loadC (by kernel_rfl) 37 (.tmp 2) rfl (w.heap.size) rfl 37 (feC a) _ (hM4.get 2 rfl) Try.underlying37 rfl Hsa.out ?_)
      refine (hof _).mono ?_
      rintro e w5 ⟨rfl, hb5⟩
      have hM5 := hM4.call hb5
      clear hM4 hb5
      have hP5 := hM5.put 43 #[.int .u64 0, .int .u64 0, .int .u64 0, .int .u64 0, .int .u64 0, .int .u64 0, .int .u64 0, .int .u64 0, .int .u64 0, .int .u64 0, .int .u64 0, .int .u64 0, .int .u64 0, .int .u64 0, .int .u64 0, .int .u64 0] lm.toArray
      go_wp2_with ((with_reducible show wpList _ _ _ (⟨none, Op.store 43 _ _, _, _, _, _⟩ :: _) _ _); refine wpList_store_row rfl 43 (.tmp 12) (.tmp 64) rfl (w5.heap.size) lm.toArray rfl rfl 43 _ (RowC.new _ _ _) Hsm.out Hzm.out Hom.out ?_)
      refine wp_gen (fun wx => Ms w wx [(w5.heap.size, 43, lm.toArray), (w3.heap.size, 37, ly.toArray), (w2.heap.size, 37, lx.toArray), (w.heap.size, 37, (feC a))]) hP5 ?_
      clear hP5
      rintro v1 hMv
      generalize w5.heap.size = gm at *
      generalize w3.heap.size = gy at *
      generalize w2.heap.size = gx at *
      have hkeep : ∀ wx : World, Below v1.heap.size v1 wx → wx.rangeAt gm 0 lm ∧ wx.rangeAt gy 0 ly ∧ wx.rangeAt gx 0 lx := fun wx hb => ⟨((hMv.get 0 rfl).call hb).range, ((hMv.get 1 rfl).call hb).range, ((hMv.get 2 rfl).call hb).range⟩
      have huf := Try.underlying37
      have hun := Try.underlying43
      have hilm := Hsm.out
      have hily := Hsy.out
      have hilx := Hsx.out
      simp only [List.size_toArray] at hilm hily hilx
      refine beginT (fun wx => wx.rangeAt gm 0 lm ∧ wx.rangeAt gy 0 ly ∧ wx.rangeAt gx 0 lx) 13 (by kernel_rfl) ?_
      have hS := hkeep _ (c_drew (c_refl _))
      refine takeD 0 (some 71) (.bool true) rfl rfl (by kernel_rfl) (by kernel_rfl) (by kernel_rfl) (by kernel_rfl) (fun _ _ _ h => h) (Or.inl ⟨by kernel_rfl, fun wx hSw => by go_simp⟩) hS ?_
      simp only [Act.put, List.setIfInBounds_toArray, List.set_cons_zero, List.set_cons_succ]
      refine takeD 1 (some 72) (.bool true) rfl rfl (by kernel_rfl) (by kernel_rfl) (by kernel_rfl) (by kernel_rfl) (fun _ _ _ h => h) (Or.inl ⟨by kernel_rfl, fun wx hSw => by go_simp⟩) hS ?_
      simp only [Act.put, List.setIfInBounds_toArray, List.set_cons_zero, List.set_cons_succ]
      refine loadT 2 (some 73) 37 (.tmp 6) gx 0 lx rfl rfl (by kernel_rfl) (by kernel_rfl) (by kernel_rfl) (by kernel_rfl) rfl (by kernel_rfl) rfl (fun wx hSw => hSw.2.2) huf rfl hilx (fun _ _ _ h => h) hS ?_
      simp only [Act.put, List.setIfInBounds_toArray, List.set_cons_zero, List.set_cons_succ]
      refine takeD 3 (some 74) (.int .i64 1) rfl rfl (by kernel_rfl) (by kernel_rfl) (by kernel_rfl) (by kernel_rfl) (fun _ _ _ h => h) (Or.inl ⟨by kernel_rfl, fun wx hSw => by go_simp⟩) hS ?_
      simp only [Act.put, List.setIfInBounds_toArray, List.set_cons_zero, List.set_cons_succ]
      refine oneT 4 (by kernel_rfl) rfl (fun K hK => ?_)
      go_simp
      refine (hno _).mono ?_
      rintro e x1 ⟨rfl, hx1⟩
      refine hK.out _ _ (fun _ => hkeep _ (by (repeat (first | exact c_refl _ | refine c_drew ?_ | refine c_alloc ?_ _ | refine c_row ?_ (by first | omega | exact Nat.le_refl _) _ | refine c_call ?_ (by assumption))); first | done | fail "open")) ?_
      clear hK K
      have hS1 := hkeep x1 (by (repeat (first | exact c_refl _ | refine c_drew ?_ | refine c_alloc ?_ _ | refine c_row ?_ (by first | omega | exact Nat.le_refl _) _ | refine c_call ?_ (by assumption))); first | done | fail "open")
      refine takeD 5 (some 76) (.bool true) rfl rfl (by kernel_rfl) (by kernel_rfl) (by kernel_rfl) (by kernel_rfl) (fun _ _ _ h => h) (Or.inl ⟨by kernel_rfl, fun wx hSw => by go_simp⟩) hS1 ?_
      simp only [Act.put, List.setIfInBounds_toArray, List.set_cons_zero, List.set_cons_succ]
      refine takeD 6 (some 77) (.bool true) rfl rfl (by kernel_rfl) (by kernel_rfl) (by kernel_rfl) (by kernel_rfl) (fun _ _ _ h => h) (Or.inl ⟨by kernel_rfl, fun wx hSw => by go_simp⟩) hS1 ?_
      simp only [Act.put, List.setIfInBounds_toArray, List.set_cons_zero, List.set_cons_succ]
      refine loadT 7 (some 78) 37 (.tmp 8) gy 0 ly rfl rfl (by kernel_rfl) (by kernel_rfl) (by kernel_rfl) (by kernel_rfl) rfl (by kernel_rfl) rfl (fun wx hSw => hSw.2.1) huf rfl hily (fun _ _ _ h => h) hS1 ?_
      simp only [Act.put, List.setIfInBounds_toArray, List.set_cons_zero, List.set_cons_succ]
      refine takeD 8 (some 79) (.int .i64 0) rfl rfl (by kernel_rfl) (by kernel_rfl) (by kernel_rfl) (by kernel_rfl) (fun _ _ _ h => h) (Or.inl ⟨by kernel_rfl, fun wx hSw => by go_simp⟩) hS1 ?_
      simp only [Act.put, List.setIfInBounds_toArray, List.set_cons_zero, List.set_cons_succ]
      refine loadT 9 (some 80) 43 (.tmp 12) gm 0 lm rfl rfl (by kernel_rfl) (by kernel_rfl) (by kernel_rfl) (by kernel_rfl) rfl (by kernel_rfl) rfl (fun wx hSw => hSw.1) hun rfl hilm (fun _ _ _ h => h) hS1 ?_
      simp only [Act.put, List.setIfInBounds_toArray, List.set_cons_zero, List.set_cons_succ]
      refine oneT 10 (by kernel_rfl) rfl (fun K hK => ?_)
      go_simp
      refine (hinn _).mono ?_
      rintro e x2 ⟨rfl, hx2⟩
      refine hK.out _ _ (fun _ => hkeep _ (by (repeat (first | exact c_refl _ | refine c_drew ?_ | refine c_alloc ?_ _ | refine c_row ?_ (by first | omega | exact Nat.le_refl _) _ | refine c_call ?_ (by assumption))); first | done | fail "open")) ?_
      clear hK K
      refine oneT 11 (by kernel_rfl) rfl (fun K hK => ?_)
      go_simp
      refine (hst2 _).mono ?_
      rintro e x3 ⟨rfl, hx3⟩
      refine hK.out _ _ (fun _ => hkeep _ (by (repeat (first | exact c_refl _ | refine c_drew ?_ | refine c_alloc ?_ _ | refine c_row ?_ (by first | omega | exact Nat.le_refl _) _ | refine c_call ?_ (by assumption))); first | done | fail "open")) ?_
      clear hK K
      have hS3 := hkeep x3 (by (repeat (first | exact c_refl _ | refine c_drew ?_ | refine c_alloc ?_ _ | refine c_row ?_ (by first | omega | exact Nat.le_refl _) _ | refine c_call ?_ (by assumption))); first | done | fail "open")
      refine takeD 12 (some 83) (.bool true) rfl rfl (by kernel_rfl) (by kernel_rfl) (by kernel_rfl) (by kernel_rfl) (fun _ _ _ h => h) (Or.inl ⟨by kernel_rfl, fun wx hSw => by go_simp⟩) hS3 ?_
      simp only [Act.put, List.setIfInBounds_toArray, List.set_cons_zero, List.set_cons_succ]
      refine oneT 13 (by kernel_rfl) rfl (fun K hK => ?_)
      go_simp
      refine hK.out _ _ (fun h => absurd rfl h) ?_
      clear hK K
      refine doneT (by kernel_rfl) ?_ _
      have hE : Below v1.heap.size v1 x3 := (by (repeat (first | exact c_refl _ | refine c_drew ?_ | refine c_alloc ?_ _ | refine c_row ?_ (by first | omega | exact Nat.le_refl _) _ | refine c_call ?_ (by assumption))); first | done | fail "open")
      go_wp2_with fail
      go_ret
      exact ⟨rfl, (hMv.call hE).old⟩
    · by_cases h3 : 300 < t
      · have hsq := fun wx => Square_bad3 a t wx Ha.out (by omega) h3
        have hd1 : decide (t < (0 : Int)) = false := decide_eq_false h0
        have hd2 : decide ((300 : Int) < t) = true := decide_eq_true h3
        clear h0 h3
        have hst2 := fun wx => Stands_true (invU a) (invN (valF a % P25) 255) wx (invU_may Ha.out) (u_inv a)
        have hinn := fun wx => InvertN_any (valF a % P25) wx (P25_lt _)
        have hin := fun wx => Invert_ok a wx Ha.out
        have hof := fun wx => OfN_any a wx Ha.out
        have Hsy := Lib.hid (sizeFe (invU a))
        have Hoy := Lib.hid (one_fe (invU a))
        have Hzy := Lib.hid (fe_zero (invU a))
        have Hsm := Lib.hid (sizeNum (numF (valF a % P25)))
        have Hom := Lib.hid (one_num (numF (valF a % P25)))
        have Hzm := Lib.hid (num_zero (numF (valF a % P25)))
        generalize numC (numF (invN (valF a % P25) 255)) = nI at *
        generalize numC (numF (valF a % P25)) = cm at *
        obtain ⟨lm, rfl⟩ : ∃ l : List Value, l.toArray = cm := ⟨_, Array.toArray_toList⟩
        generalize feC (invU a) = cy at *
        obtain ⟨ly, rfl⟩ : ∃ l : List Value, l.toArray = cy := ⟨_, Array.toArray_toList⟩
        have hno := None_true
        have Hsx := Lib.hid (sizeFe zeroF)
        have Hox := Lib.hid (one_fe zeroF)
        have Hzx := Lib.hid (fe_zero zeroF)
        generalize feC zeroF = cx at *
        obtain ⟨lx, rfl⟩ : ∃ l : List Value, l.toArray = cx := ⟨_, Array.toArray_toList⟩
        go_wp2_with ((with_reducible show wpList _ _ _ (⟨some 25, _, _, _, _, _⟩ :: _) _ _); refine wpList_loadC (by kernel_rfl) 37 (.tmp 2) rfl (w.heap.size) rfl 37 (feC a) _ (hM1.get 0 rfl) Try.underlying37 rfl Hsa.out ?_)
        refine (hsq _).mono ?_
        rintro e w2 ⟨rfl, hb2⟩
        have hM2 := hM1.call hb2
        clear hM1 hb2
        have hP2 := hM2.put 37 #[.int .u64 0, .int .u64 0, .int .u64 0, .int .u64 0, .int .u64 0] lx.toArray
        go_wp2_with (first
          | ((with_reducible show wpList _ _ _ (⟨none, Op.store 37 _ _, _, _, _, _⟩ :: _) _ _); refine wpList_store_row rfl 37 (.tmp 6) (.tmp 28) rfl (w2.heap.size) lx.toArray rfl rfl 37 _ (RowC.new _ _ _) Hsx.out Hzx.out Hox.out ?_)
          | ((with_reducible show wpList _ _ _ (⟨some 31, _, _, _, _, _⟩ :: _) _ _); refine wpList_loadC (by kernel_rfl) 37 (.tmp 2) rfl (w.heap.size) rfl 37 (feC a) _ (hP2.get 1 rfl) Try.underlying37 rfl Hsa.out ?_))
        refine (hin _).mono ?_
        rintro e w3 ⟨rfl, hb3⟩
        have hM3 := hP2.call hb3
        clear hP2 hb3
        have hP3 := hM3.put 37 #[.int .u64 0, .int .u64 0, .int .u64 0, .int .u64 0, .int .u64 0] ly.toArray
        go_wp2_with (first
          | ((with_reducible show wpList _ _ _ (⟨none, Op.store 37 _ _, _, _, _, _⟩ :: _) _ _); refine wpList_store_row rfl 37 (.tmp 8) (.tmp 33) rfl (w3.heap.size) ly.toArray rfl rfl 37 _ (RowC.new _ _ _) Hsy.out Hzy.out Hoy.out ?_)
          | ((with_reducible show wpList _ _ _ (⟨some 35, _, _, _, _, _⟩ :: _) _ _); refine wpList_loadC (by kernel_rfl) 37 (.tmp 2) rfl (w.heap.size) rfl 37 (feC a) _ (hP3.get 2 rfl) Try.underlying37 rfl Hsa.out ?_))
        refine (May_true a _ Ha.out).mono ?_
        rintro e w4 ⟨rfl, hb4⟩
        have hM4 := hP3.call hb4
        clear hP3 hb4
        go_wp2_with ((with_reducible show wpList _ _ _ (⟨some 63, _, _, _, _, _⟩ :: _) _ _); refine wpList_loadC (by kernel_rfl) 37 (.tmp 2) rfl (w.heap.size) rfl 37 (feC a) _ (hM4.get 2 rfl) Try.underlying37 rfl Hsa.out ?_)
        refine (hof _).mono ?_
        rintro e w5 ⟨rfl, hb5⟩
        have hM5 := hM4.call hb5
        clear hM4 hb5
        have hP5 := hM5.put 43 #[.int .u64 0, .int .u64 0, .int .u64 0, .int .u64 0, .int .u64 0, .int .u64 0, .int .u64 0, .int .u64 0, .int .u64 0, .int .u64 0, .int .u64 0, .int .u64 0, .int .u64 0, .int .u64 0, .int .u64 0, .int .u64 0] lm.toArray
        go_wp2_with ((with_reducible show wpList _ _ _ (⟨none, Op.store 43 _ _, _, _, _, _⟩ :: _) _ _); refine wpList_store_row rfl 43 (.tmp 12) (.tmp 64) rfl (w5.heap.size) lm.toArray rfl rfl 43 _ (RowC.new _ _ _) Hsm.out Hzm.out Hom.out ?_)
        refine wp_gen (fun wx => Ms w wx [(w5.heap.size, 43, lm.toArray), (w3.heap.size, 37, ly.toArray), (w2.heap.size, 37, lx.toArray), (w.heap.size, 37, (feC a))]) hP5 ?_
        clear hP5
        rintro v1 hMv
        generalize w5.heap.size = gm at *
        generalize w3.heap.size = gy at *
        generalize w2.heap.size = gx at *
        have hkeep : ∀ wx : World, Below v1.heap.size v1 wx → wx.rangeAt gm 0 lm ∧ wx.rangeAt gy 0 ly ∧ wx.rangeAt gx 0 lx := fun wx hb => ⟨((hMv.get 0 rfl).call hb).range, ((hMv.get 1 rfl).call hb).range, ((hMv.get 2 rfl).call hb).range⟩
        have huf := Try.underlying37
        have hun := Try.underlying43
        have hilm := Hsm.out
        have hily := Hsy.out
        have hilx := Hsx.out
        simp only [List.size_toArray] at hilm hily hilx
        refine beginT (fun wx => wx.rangeAt gm 0 lm ∧ wx.rangeAt gy 0 ly ∧ wx.rangeAt gx 0 lx) 13 (by kernel_rfl) ?_
        have hS := hkeep _ (c_drew (c_refl _))
        refine takeD 0 (some 71) (.bool true) rfl rfl (by kernel_rfl) (by kernel_rfl) (by kernel_rfl) (by kernel_rfl) (fun _ _ _ h => h) (Or.inl ⟨by kernel_rfl, fun wx hSw => by go_simp⟩) hS ?_
        simp only [Act.put, List.setIfInBounds_toArray, List.set_cons_zero, List.set_cons_succ]
        refine takeD 1 (some 72) (.bool true) rfl rfl (by kernel_rfl) (by kernel_rfl) (by kernel_rfl) (by kernel_rfl) (fun _ _ _ h => h) (Or.inl ⟨by kernel_rfl, fun wx hSw => by go_simp⟩) hS ?_
        simp only [Act.put, List.setIfInBounds_toArray, List.set_cons_zero, List.set_cons_succ]
        refine loadT 2 (some 73) 37 (.tmp 6) gx 0 lx rfl rfl (by kernel_rfl) (by kernel_rfl) (by kernel_rfl) (by kernel_rfl) rfl (by kernel_rfl) rfl (fun wx hSw => hSw.2.2) huf rfl hilx (fun _ _ _ h => h) hS ?_
        simp only [Act.put, List.setIfInBounds_toArray, List.set_cons_zero, List.set_cons_succ]
        refine takeD 3 (some 74) (.int .i64 1) rfl rfl (by kernel_rfl) (by kernel_rfl) (by kernel_rfl) (by kernel_rfl) (fun _ _ _ h => h) (Or.inl ⟨by kernel_rfl, fun wx hSw => by go_simp⟩) hS ?_
        simp only [Act.put, List.setIfInBounds_toArray, List.set_cons_zero, List.set_cons_succ]
        refine oneT 4 (by kernel_rfl) rfl (fun K hK => ?_)
        go_simp
        refine (hno _).mono ?_
        rintro e x1 ⟨rfl, hx1⟩
        refine hK.out _ _ (fun _ => hkeep _ (by (repeat (first | exact c_refl _ | refine c_drew ?_ | refine c_alloc ?_ _ | refine c_row ?_ (by first | omega | exact Nat.le_refl _) _ | refine c_call ?_ (by assumption))); first | done | fail "open")) ?_
        clear hK K
        have hS1 := hkeep x1 (by (repeat (first | exact c_refl _ | refine c_drew ?_ | refine c_alloc ?_ _ | refine c_row ?_ (by first | omega | exact Nat.le_refl _) _ | refine c_call ?_ (by assumption))); first | done | fail "open")
        refine takeD 5 (some 76) (.bool true) rfl rfl (by kernel_rfl) (by kernel_rfl) (by kernel_rfl) (by kernel_rfl) (fun _ _ _ h => h) (Or.inl ⟨by kernel_rfl, fun wx hSw => by go_simp⟩) hS1 ?_
        simp only [Act.put, List.setIfInBounds_toArray, List.set_cons_zero, List.set_cons_succ]
        refine takeD 6 (some 77) (.bool true) rfl rfl (by kernel_rfl) (by kernel_rfl) (by kernel_rfl) (by kernel_rfl) (fun _ _ _ h => h) (Or.inl ⟨by kernel_rfl, fun wx hSw => by go_simp⟩) hS1 ?_
        simp only [Act.put, List.setIfInBounds_toArray, List.set_cons_zero, List.set_cons_succ]
        refine loadT 7 (some 78) 37 (.tmp 8) gy 0 ly rfl rfl (by kernel_rfl) (by kernel_rfl) (by kernel_rfl) (by kernel_rfl) rfl (by kernel_rfl) rfl (fun wx hSw => hSw.2.1) huf rfl hily (fun _ _ _ h => h) hS1 ?_
        simp only [Act.put, List.setIfInBounds_toArray, List.set_cons_zero, List.set_cons_succ]
        refine takeD 8 (some 79) (.int .i64 0) rfl rfl (by kernel_rfl) (by kernel_rfl) (by kernel_rfl) (by kernel_rfl) (fun _ _ _ h => h) (Or.inl ⟨by kernel_rfl, fun wx hSw => by go_simp⟩) hS1 ?_
        simp only [Act.put, List.setIfInBounds_toArray, List.set_cons_zero, List.set_cons_succ]
        refine loadT 9 (some 80) 43 (.tmp 12) gm 0 lm rfl rfl (by kernel_rfl) (by kernel_rfl) (by kernel_rfl) (by kernel_rfl) rfl (by kernel_rfl) rfl (fun wx hSw => hSw.1) hun rfl hilm (fun _ _ _ h => h) hS1 ?_
        simp only [Act.put, List.setIfInBounds_toArray, List.set_cons_zero, List.set_cons_succ]
        refine oneT 10 (by kernel_rfl) rfl (fun K hK => ?_)
        go_simp
        refine (hinn _).mono ?_
        rintro e x2 ⟨rfl, hx2⟩
        refine hK.out _ _ (fun _ => hkeep _ (by (repeat (first | exact c_refl _ | refine c_drew ?_ | refine c_alloc ?_ _ | refine c_row ?_ (by first | omega | exact Nat.le_refl _) _ | refine c_call ?_ (by assumption))); first | done | fail "open")) ?_
        clear hK K
        refine oneT 11 (by kernel_rfl) rfl (fun K hK => ?_)
        go_simp
        refine (hst2 _).mono ?_
        rintro e x3 ⟨rfl, hx3⟩
        refine hK.out _ _ (fun _ => hkeep _ (by (repeat (first | exact c_refl _ | refine c_drew ?_ | refine c_alloc ?_ _ | refine c_row ?_ (by first | omega | exact Nat.le_refl _) _ | refine c_call ?_ (by assumption))); first | done | fail "open")) ?_
        clear hK K
        have hS3 := hkeep x3 (by (repeat (first | exact c_refl _ | refine c_drew ?_ | refine c_alloc ?_ _ | refine c_row ?_ (by first | omega | exact Nat.le_refl _) _ | refine c_call ?_ (by assumption))); first | done | fail "open")
        refine takeD 12 (some 83) (.bool true) rfl rfl (by kernel_rfl) (by kernel_rfl) (by kernel_rfl) (by kernel_rfl) (fun _ _ _ h => h) (Or.inl ⟨by kernel_rfl, fun wx hSw => by go_simp⟩) hS3 ?_
        simp only [Act.put, List.setIfInBounds_toArray, List.set_cons_zero, List.set_cons_succ]
        refine oneT 13 (by kernel_rfl) rfl (fun K hK => ?_)
        go_simp
        refine hK.out _ _ (fun h => absurd rfl h) ?_
        clear hK K
        refine doneT (by kernel_rfl) ?_ _
        have hE : Below v1.heap.size v1 x3 := (by (repeat (first | exact c_refl _ | refine c_drew ?_ | refine c_alloc ?_ _ | refine c_row ?_ (by first | omega | exact Nat.le_refl _) _ | refine c_call ?_ (by assumption))); first | done | fail "open")
        go_wp2_with fail
        go_ret
        exact ⟨rfl, (hMv.call hE).old⟩
      · obtain ⟨n, rfl⟩ := Int.eq_ofNat_of_zero_le (show 0 ≤ t by omega)
        have hsq := fun wx => Square_ok a n wx Ha.out (by omega)
        have hst1 := fun wx => Stands_true (sqU a n) (sqN (valF a % P25) n) wx (sqU_may Ha.out _) (u_sq a n)
        have hsn := fun wx => SquareN_any (valF a % P25) n wx (P25_lt _) (by omega)
        have hd1 : decide ((n : Int) < (0 : Int)) = false := decide_eq_false h0
        have hd2 : decide ((300 : Int) < (n : Int)) = false := decide_eq_false h3
        have Hsx := Lib.hid (sizeFe (sqU a n))
        have Hox := Lib.hid (one_fe (sqU a n))
        have Hzx := Lib.hid (fe_zero (sqU a n))
        generalize numC (numF (sqN (valF a % P25) n)) = nS at *
        clear h0 h3
        have hst2 := fun wx => Stands_true (invU a) (invN (valF a % P25) 255) wx (invU_may Ha.out) (u_inv a)
        have hinn := fun wx => InvertN_any (valF a % P25) wx (P25_lt _)
        have hin := fun wx => Invert_ok a wx Ha.out
        have hof := fun wx => OfN_any a wx Ha.out
        have Hsy := Lib.hid (sizeFe (invU a))
        have Hoy := Lib.hid (one_fe (invU a))
        have Hzy := Lib.hid (fe_zero (invU a))
        have Hsm := Lib.hid (sizeNum (numF (valF a % P25)))
        have Hom := Lib.hid (one_num (numF (valF a % P25)))
        have Hzm := Lib.hid (num_zero (numF (valF a % P25)))
        generalize numC (numF (invN (valF a % P25) 255)) = nI at *
        generalize numC (numF (valF a % P25)) = cm at *
        obtain ⟨lm, rfl⟩ : ∃ l : List Value, l.toArray = cm := ⟨_, Array.toArray_toList⟩
        generalize feC (invU a) = cy at *
        obtain ⟨ly, rfl⟩ : ∃ l : List Value, l.toArray = cy := ⟨_, Array.toArray_toList⟩
        generalize feC (sqU a n) = cx at *
        obtain ⟨lx, rfl⟩ : ∃ l : List Value, l.toArray = cx := ⟨_, Array.toArray_toList⟩
        go_wp2_with ((with_reducible show wpList _ _ _ (⟨some 25, _, _, _, _, _⟩ :: _) _ _); refine wpList_loadC (by kernel_rfl) 37 (.tmp 2) rfl (w.heap.size) rfl 37 (feC a) _ (hM1.get 0 rfl) Try.underlying37 rfl Hsa.out ?_)
        refine (hsq _).mono ?_
        rintro e w2 ⟨rfl, hb2⟩
        have hM2 := hM1.call hb2
        clear hM1 hb2
        have hP2 := hM2.put 37 #[.int .u64 0, .int .u64 0, .int .u64 0, .int .u64 0, .int .u64 0] lx.toArray
        go_wp2_with (first
          | ((with_reducible show wpList _ _ _ (⟨none, Op.store 37 _ _, _, _, _, _⟩ :: _) _ _); refine wpList_store_row rfl 37 (.tmp 6) (.tmp 28) rfl (w2.heap.size) lx.toArray rfl rfl 37 _ (RowC.new _ _ _) Hsx.out Hzx.out Hox.out ?_)
          | ((with_reducible show wpList _ _ _ (⟨some 31, _, _, _, _, _⟩ :: _) _ _); refine wpList_loadC (by kernel_rfl) 37 (.tmp 2) rfl (w.heap.size) rfl 37 (feC a) _ (hP2.get 1 rfl) Try.underlying37 rfl Hsa.out ?_))
        refine (hin _).mono ?_
        rintro e w3 ⟨rfl, hb3⟩
        have hM3 := hP2.call hb3
        clear hP2 hb3
        have hP3 := hM3.put 37 #[.int .u64 0, .int .u64 0, .int .u64 0, .int .u64 0, .int .u64 0] ly.toArray
        go_wp2_with (first
          | ((with_reducible show wpList _ _ _ (⟨none, Op.store 37 _ _, _, _, _, _⟩ :: _) _ _); refine wpList_store_row rfl 37 (.tmp 8) (.tmp 33) rfl (w3.heap.size) ly.toArray rfl rfl 37 _ (RowC.new _ _ _) Hsy.out Hzy.out Hoy.out ?_)
          | ((with_reducible show wpList _ _ _ (⟨some 35, _, _, _, _, _⟩ :: _) _ _); refine wpList_loadC (by kernel_rfl) 37 (.tmp 2) rfl (w.heap.size) rfl 37 (feC a) _ (hP3.get 2 rfl) Try.underlying37 rfl Hsa.out ?_))
        refine (May_true a _ Ha.out).mono ?_
        rintro e w4 ⟨rfl, hb4⟩
        have hM4 := hP3.call hb4
        clear hP3 hb4
        go_wp2_with ((with_reducible show wpList _ _ _ (⟨some 63, _, _, _, _, _⟩ :: _) _ _); refine wpList_loadC (by kernel_rfl) 37 (.tmp 2) rfl (w.heap.size) rfl 37 (feC a) _ (hM4.get 2 rfl) Try.underlying37 rfl Hsa.out ?_)
        refine (hof _).mono ?_
        rintro e w5 ⟨rfl, hb5⟩
        have hM5 := hM4.call hb5
        clear hM4 hb5
        have hP5 := hM5.put 43 #[.int .u64 0, .int .u64 0, .int .u64 0, .int .u64 0, .int .u64 0, .int .u64 0, .int .u64 0, .int .u64 0, .int .u64 0, .int .u64 0, .int .u64 0, .int .u64 0, .int .u64 0, .int .u64 0, .int .u64 0, .int .u64 0] lm.toArray
        go_wp2_with ((with_reducible show wpList _ _ _ (⟨none, Op.store 43 _ _, _, _, _, _⟩ :: _) _ _); refine wpList_store_row rfl 43 (.tmp 12) (.tmp 64) rfl (w5.heap.size) lm.toArray rfl rfl 43 _ (RowC.new _ _ _) Hsm.out Hzm.out Hom.out ?_)
        refine wp_gen (fun wx => Ms w wx [(w5.heap.size, 43, lm.toArray), (w3.heap.size, 37, ly.toArray), (w2.heap.size, 37, lx.toArray), (w.heap.size, 37, (feC a))]) hP5 ?_
        clear hP5
        rintro v1 hMv
        generalize w5.heap.size = gm at *
        generalize w3.heap.size = gy at *
        generalize w2.heap.size = gx at *
        have hkeep : ∀ wx : World, Below v1.heap.size v1 wx → wx.rangeAt gm 0 lm ∧ wx.rangeAt gy 0 ly ∧ wx.rangeAt gx 0 lx := fun wx hb => ⟨((hMv.get 0 rfl).call hb).range, ((hMv.get 1 rfl).call hb).range, ((hMv.get 2 rfl).call hb).range⟩
        have huf := Try.underlying37
        have hun := Try.underlying43
        have hilm := Hsm.out
        have hily := Hsy.out
        have hilx := Hsx.out
        simp only [List.size_toArray] at hilm hily hilx
        refine beginT (fun wx => wx.rangeAt gm 0 lm ∧ wx.rangeAt gy 0 ly ∧ wx.rangeAt gx 0 lx) 16 (by kernel_rfl) ?_
        have hS := hkeep _ (c_drew (c_refl _))
        refine takeD 0 (some 84) (.bool true) rfl rfl (by kernel_rfl) (by kernel_rfl) (by kernel_rfl) (by kernel_rfl) (fun _ _ _ h => h) (Or.inl ⟨by kernel_rfl, fun wx hSw => by go_simp⟩) hS ?_
        simp only [Act.put, List.setIfInBounds_toArray, List.set_cons_zero, List.set_cons_succ]
        refine takeD 1 (some 85) (.bool true) rfl rfl (by kernel_rfl) (by kernel_rfl) (by kernel_rfl) (by kernel_rfl) (fun _ _ _ h => h) (Or.inl ⟨by kernel_rfl, fun wx hSw => by go_simp⟩) hS ?_
        simp only [Act.put, List.setIfInBounds_toArray, List.set_cons_zero, List.set_cons_succ]
        refine loadT 2 (some 86) 37 (.tmp 6) gx 0 lx rfl rfl (by kernel_rfl) (by kernel_rfl) (by kernel_rfl) (by kernel_rfl) rfl (by kernel_rfl) rfl (fun wx hSw => hSw.2.2) huf rfl hilx (fun _ _ _ h => h) hS ?_
        simp only [Act.put, List.setIfInBounds_toArray, List.set_cons_zero, List.set_cons_succ]
        refine takeD 3 (some 87) (.int .i64 0) rfl rfl (by kernel_rfl) (by kernel_rfl) (by kernel_rfl) (by kernel_rfl) (fun _ _ _ h => h) (Or.inl ⟨by kernel_rfl, fun wx hSw => by go_simp⟩) hS ?_
        simp only [Act.put, List.setIfInBounds_toArray, List.set_cons_zero, List.set_cons_succ]
        refine loadT 4 (some 88) 43 (.tmp 12) gm 0 lm rfl rfl (by kernel_rfl) (by kernel_rfl) (by kernel_rfl) (by kernel_rfl) rfl (by kernel_rfl) rfl (fun wx hSw => hSw.1) hun rfl hilm (fun _ _ _ h => h) hS ?_
        simp only [Act.put, List.setIfInBounds_toArray, List.set_cons_zero, List.set_cons_succ]
        refine takeD 5 (some 89) (.int .i64 (n : Int)) rfl rfl (by kernel_rfl) (by kernel_rfl) (by kernel_rfl) (by kernel_rfl) (fun _ _ _ h => h) (Or.inl ⟨by kernel_rfl, fun wx hSw => by go_simp⟩) hS ?_
        simp only [Act.put, List.setIfInBounds_toArray, List.set_cons_zero, List.set_cons_succ]
        refine oneT 6 (by kernel_rfl) rfl (fun K hK => ?_)
        go_simp
        refine (hsn _).mono ?_
        rintro e x1 ⟨rfl, hx1⟩
        refine hK.out _ _ (fun _ => hkeep _ (by (repeat (first | exact c_refl _ | refine c_drew ?_ | refine c_alloc ?_ _ | refine c_row ?_ (by first | omega | exact Nat.le_refl _) _ | refine c_call ?_ (by assumption))); first | done | fail "open")) ?_
        clear hK K
        refine oneT 7 (by kernel_rfl) rfl (fun K hK => ?_)
        go_simp
        refine (hst1 _).mono ?_
        rintro e x2 ⟨rfl, hx2⟩
        refine hK.out _ _ (fun _ => hkeep _ (by (repeat (first | exact c_refl _ | refine c_drew ?_ | refine c_alloc ?_ _ | refine c_row ?_ (by first | omega | exact Nat.le_refl _) _ | refine c_call ?_ (by assumption))); first | done | fail "open")) ?_
        clear hK K
        have hS2 := hkeep x2 (by (repeat (first | exact c_refl _ | refine c_drew ?_ | refine c_alloc ?_ _ | refine c_row ?_ (by first | omega | exact Nat.le_refl _) _ | refine c_call ?_ (by assumption))); first | done | fail "open")
        refine takeD 8 (some 92) (.bool true) rfl rfl (by kernel_rfl) (by kernel_rfl) (by kernel_rfl) (by kernel_rfl) (fun _ _ _ h => h) (Or.inl ⟨by kernel_rfl, fun wx hSw => by go_simp⟩) hS2 ?_
        simp only [Act.put, List.setIfInBounds_toArray, List.set_cons_zero, List.set_cons_succ]
        refine takeD 9 (some 93) (.bool true) rfl rfl (by kernel_rfl) (by kernel_rfl) (by kernel_rfl) (by kernel_rfl) (fun _ _ _ h => h) (Or.inl ⟨by kernel_rfl, fun wx hSw => by go_simp⟩) hS2 ?_
        simp only [Act.put, List.setIfInBounds_toArray, List.set_cons_zero, List.set_cons_succ]
        refine loadT 10 (some 94) 37 (.tmp 8) gy 0 ly rfl rfl (by kernel_rfl) (by kernel_rfl) (by kernel_rfl) (by kernel_rfl) rfl (by kernel_rfl) rfl (fun wx hSw => hSw.2.1) huf rfl hily (fun _ _ _ h => h) hS2 ?_
        simp only [Act.put, List.setIfInBounds_toArray, List.set_cons_zero, List.set_cons_succ]
        refine takeD 11 (some 95) (.int .i64 0) rfl rfl (by kernel_rfl) (by kernel_rfl) (by kernel_rfl) (by kernel_rfl) (fun _ _ _ h => h) (Or.inl ⟨by kernel_rfl, fun wx hSw => by go_simp⟩) hS2 ?_
        simp only [Act.put, List.setIfInBounds_toArray, List.set_cons_zero, List.set_cons_succ]
        refine loadT 12 (some 96) 43 (.tmp 12) gm 0 lm rfl rfl (by kernel_rfl) (by kernel_rfl) (by kernel_rfl) (by kernel_rfl) rfl (by kernel_rfl) rfl (fun wx hSw => hSw.1) hun rfl hilm (fun _ _ _ h => h) hS2 ?_
        simp only [Act.put, List.setIfInBounds_toArray, List.set_cons_zero, List.set_cons_succ]
        refine oneT 13 (by kernel_rfl) rfl (fun K hK => ?_)
        go_simp
        refine (hinn _).mono ?_
        rintro e x3 ⟨rfl, hx3⟩
        refine hK.out _ _ (fun _ => hkeep _ (by (repeat (first | exact c_refl _ | refine c_drew ?_ | refine c_alloc ?_ _ | refine c_row ?_ (by first | omega | exact Nat.le_refl _) _ | refine c_call ?_ (by assumption))); first | done | fail "open")) ?_
        clear hK K
        refine oneT 14 (by kernel_rfl) rfl (fun K hK => ?_)
        go_simp
        refine (hst2 _).mono ?_
        rintro e x4 ⟨rfl, hx4⟩
        refine hK.out _ _ (fun _ => hkeep _ (by (repeat (first | exact c_refl _ | refine c_drew ?_ | refine c_alloc ?_ _ | refine c_row ?_ (by first | omega | exact Nat.le_refl _) _ | refine c_call ?_ (by assumption))); first | done | fail "open")) ?_
        clear hK K
        have hS4 := hkeep x4 (by (repeat (first | exact c_refl _ | refine c_drew ?_ | refine c_alloc ?_ _ | refine c_row ?_ (by first | omega | exact Nat.le_refl _) _ | refine c_call ?_ (by assumption))); first | done | fail "open")
        refine takeD 15 (some 99) (.bool true) rfl rfl (by kernel_rfl) (by kernel_rfl) (by kernel_rfl) (by kernel_rfl) (fun _ _ _ h => h) (Or.inl ⟨by kernel_rfl, fun wx hSw => by go_simp⟩) hS4 ?_
        simp only [Act.put, List.setIfInBounds_toArray, List.set_cons_zero, List.set_cons_succ]
        refine oneT 16 (by kernel_rfl) rfl (fun K hK => ?_)
        go_simp
        refine hK.out _ _ (fun h => absurd rfl h) ?_
        clear hK K
        refine doneT (by kernel_rfl) ?_ _
        have hE : Below v1.heap.size v1 x4 := (by (repeat (first | exact c_refl _ | refine c_drew ?_ | refine c_alloc ?_ _ | refine c_row ?_ (by first | omega | exact Nat.le_refl _) _ | refine c_call ?_ (by assumption))); first | done | fail "open")
        go_wp2_with fail
        go_ret
        exact ⟨rfl, (hMv.call hE).old⟩
  · have Hn := Lib.hid hma
    clear hma
    have hno := None_true
    have Hsz0 := Lib.hid (sizeFe zeroF)
    have Hoz := Lib.hid (one_fe zeroF)
    have Hzz := Lib.hid (fe_zero zeroF)
    have hsq := fun wx => Square_bad1 a t wx Hw.out Hn.out
    have hin := fun wx => Invert_bad a wx Hw.out Hn.out
    have hby := fun wx => Bytes_bad a wx Hw.out Hn.out
    have hch := fun wx => Check_no a wx Hw.out Hn.out
    generalize feC zeroF = zf at *
    go_wp2_with ((with_reducible show wpList _ _ _ (⟨some 25, _, _, _, _, _⟩ :: _) _ _); refine wpList_loadC (by kernel_rfl) 37 (.tmp 2) rfl (w.heap.size) rfl 37 (feC a) _ (hM1.get 0 rfl) Try.underlying37 rfl Hsa.out ?_)
    refine (hsq _).mono ?_
    rintro e w2 ⟨rfl, hb2⟩
    have hM2 := hM1.call hb2
    clear hM1 hb2
    have hP2 := hM2.put 37 #[.int .u64 0, .int .u64 0, .int .u64 0, .int .u64 0, .int .u64 0] zf
    go_wp2_with (first
      | ((with_reducible show wpList _ _ _ (⟨none, Op.store 37 _ _, _, _, _, _⟩ :: _) _ _); refine wpList_store_row rfl 37 (.tmp 6) (.tmp 28) rfl (w2.heap.size) zf rfl rfl 37 _ (RowC.new _ _ _) Hsz0.out Hzz.out Hoz.out ?_)
      | ((with_reducible show wpList _ _ _ (⟨some 31, _, _, _, _, _⟩ :: _) _ _); refine wpList_loadC (by kernel_rfl) 37 (.tmp 2) rfl (w.heap.size) rfl 37 (feC a) _ (hP2.get 1 rfl) Try.underlying37 rfl Hsa.out ?_))
    refine (hin _).mono ?_
    rintro e w3 ⟨rfl, hb3⟩
    have hM3 := hP2.call hb3
    clear hP2 hb3
    have hP3 := hM3.put 37 #[.int .u64 0, .int .u64 0, .int .u64 0, .int .u64 0, .int .u64 0] zf
    go_wp2_with (first
      | ((with_reducible show wpList _ _ _ (⟨none, Op.store 37 _ _, _, _, _, _⟩ :: _) _ _); refine wpList_store_row rfl 37 (.tmp 8) (.tmp 33) rfl (w3.heap.size) zf rfl rfl 37 _ (RowC.new _ _ _) Hsz0.out Hzz.out Hoz.out ?_)
      | ((with_reducible show wpList _ _ _ (⟨some 35, _, _, _, _, _⟩ :: _) _ _); refine wpList_loadC (by kernel_rfl) 37 (.tmp 2) rfl (w.heap.size) rfl 37 (feC a) _ (hP3.get 2 rfl) Try.underlying37 rfl Hsa.out ?_))
    refine (May_false a _ Hw.out Hn.out).mono ?_
    rintro e w4 ⟨rfl, hb4⟩
    have hM4 := hP3.call hb4
    clear hP3 hb4
    go_wp2_with ((with_reducible show wpList _ _ _ (⟨some 39, _, _, _, _, _⟩ :: _) _ _); refine wpList_loadC (by kernel_rfl) 37 (.tmp 2) rfl (w.heap.size) rfl 37 (feC a) _ (hM4.get 2 rfl) Try.underlying37 rfl Hsa.out ?_)
    refine (hby _).mono ?_
    rintro e w5 ⟨rfl, hb5⟩
    have hM5 := hM4.call hb5
    clear hM4 hb5
    have Hkk := Lib.hid (sizeKey (keyB_len 0))
    have Hok := Lib.hid (one_key (keyB 0))
    have Hkz := Lib.hid (show (#[.int .u8 0, .int .u8 0, .int .u8 0, .int .u8 0, .int .u8 0, .int .u8 0, .int .u8 0, .int .u8 0, .int .u8 0, .int .u8 0, .int .u8 0, .int .u8 0, .int .u8 0, .int .u8 0, .int .u8 0, .int .u8 0, .int .u8 0, .int .u8 0, .int .u8 0, .int .u8 0, .int .u8 0, .int .u8 0, .int .u8 0, .int .u8 0, .int .u8 0, .int .u8 0, .int .u8 0, .int .u8 0, .int .u8 0, .int .u8 0, .int .u8 0, .int .u8 0] : Array Value).size = (keyC (keyB 0)).size by rw [keyC_size, keyB_len]; rfl)
    generalize keyC (keyB 0) = kz at *
    have hP5 := hM5.put 39 #[.int .u8 0, .int .u8 0, .int .u8 0, .int .u8 0, .int .u8 0, .int .u8 0, .int .u8 0, .int .u8 0, .int .u8 0, .int .u8 0, .int .u8 0, .int .u8 0, .int .u8 0, .int .u8 0, .int .u8 0, .int .u8 0, .int .u8 0, .int .u8 0, .int .u8 0, .int .u8 0, .int .u8 0, .int .u8 0, .int .u8 0, .int .u8 0, .int .u8 0, .int .u8 0, .int .u8 0, .int .u8 0, .int .u8 0, .int .u8 0, .int .u8 0, .int .u8 0] kz
    go_wp2_with (first
      | ((with_reducible show wpList _ _ _ (⟨none, Op.store 39 _ _, _, _, _, _⟩ :: _) _ _); refine wpList_store_row rfl 39 (.tmp 10) (.tmp 41) rfl (w5.heap.size) kz rfl rfl 39 _ (RowC.new _ _ _) Hkk.out Hkz.out Hok.out ?_)
      | ((with_reducible show wpList _ _ _ (⟨some 45, _, _, _, _, _⟩ :: _) _ _); refine wpList_loadC (by kernel_rfl) 37 (.tmp 6) rfl (w2.heap.size) rfl 37 zf _ (hP5.get 2 rfl) Try.underlying37 rfl Hsz0.out ?_))
    refine (hno _).mono ?_
    rintro e w6 ⟨rfl, hb6⟩
    have hM6 := hP5.call hb6
    clear hP5 hb6
    go_wp2_with ((with_reducible show wpList _ _ _ (⟨some 50, _, _, _, _, _⟩ :: _) _ _); refine wpList_loadC (by kernel_rfl) 37 (.tmp 8) rfl (w3.heap.size) rfl 37 zf _ (hM6.get 1 rfl) Try.underlying37 rfl Hsz0.out ?_)
    refine (hno _).mono ?_
    rintro e w7 ⟨rfl, hb7⟩
    have hM7 := hM6.call hb7
    clear hM6 hb7
    go_wp2_with ((with_reducible show wpList _ _ _ (⟨some 59, _, _, _, _, _⟩ :: _) _ _); refine wpList_loadC (by kernel_rfl) 37 (.tmp 2) rfl (w.heap.size) rfl 37 (feC a) _ (hM7.get 3 rfl) Try.underlying37 rfl Hsa.out ?_)
    refine (hch _).mono ?_
    rintro e w8 ⟨rfl, hb8⟩
    have hM8 := hM7.call hb8
    clear hM7 hb8
    go_wp2_with fail
    go_ret
    exact ⟨rfl, hM8.old⟩

end Go.Proofs.Ytbkdlmneidboaaa
