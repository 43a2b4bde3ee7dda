/-
  CONTRACTS of stands and none, the laws' own helpers (coterielaw05).
-/
import Derived.Test.YtbkdlmneidboaaaRefFeF
import Derived.Test.YtbkdlmneidboaaaFeKit
set_option linter.unusedVariables false
namespace Go.Proofs.Ytbkdlmneidboaaa
open Go.RowKit

theorem Check_ok (f : Fe5) (w : World) (hf : MayF f) : Calls Try.prog 34 #[.agg (feC f)] w fun e w' => e = .returned (.int .i64 0) ∧ Below w.heap.size w w' := by
  have h := Check_any f w hf.word
  rwa [show errU f = 0 by rw [errU, if_pos hf]] at h
theorem Check_no (f : Fe5) (w : World) (hf : WordF f) (h : ¬ MayF f) : Calls Try.prog 34 #[.agg (feC f)] w fun e w' => e = .returned (.int .i64 1) ∧ Below w.heap.size w w' := by
  have h1 := Check_any f w hf
  rwa [show errU f = 1 by rw [errU, if_neg h]] at h1

set_option maxRecDepth 1000000 in
set_option maxHeartbeats 4000000 in
theorem Stands_true (f : Fe5) (v : Nat) (w : World) (hf : MayF f) (h : valF f % P25 = v) :
    Calls Try.prog 18 #[.agg (feC f), .int .i64 0, .agg (numC (numF v))] w fun e w' => e = .returned (.bool true) ∧ Below w.heap.size w w' := by
  have hM0 := ((Ms.nil w).box 37 (feC f)).box 43 (numC (numF v))
  simp only [World.size_alloc] at hM0
  have hby := fun wx => Bytes_ok f wx hf
  rw [h] at hby
  have hch := fun wx => Check_ok f wx hf
  have hbn := fun wx => BytesN_any v wx
  have Hsf := Lib.hid (sizeFe f)
  have Hsn := Lib.hid (sizeNum (numF v))
  have Hsk := Lib.hid (sizeKey (keyB_len v))
  have Hok := Lib.hid (one_key (keyB v))
  have hq := fun wx : World => eql_key wx (keyB v) (keyB v) (keyB_len v) (keyB_len v)
  simp only [beq_self_eq_true] at hq
  have Hz := Lib.hid (show (keyC (keyB 0)).size = (keyC (keyB v)).size by rw [keyC_size, keyC_size, keyB_len, keyB_len])
  have HZ := Lib.hid keyZ
  rw [HZ.out] at Hz
  clear h hf
  obtain ⟨lf, hlf⟩ : ∃ l : List Value, l.toArray = feC f := ⟨_, Array.toArray_toList⟩
  obtain ⟨ln, hln⟩ : ∃ l : List Value, l.toArray = numC (numF v) := ⟨_, Array.toArray_toList⟩
  obtain ⟨lk, hlk⟩ : ∃ l : List Value, l.toArray = keyC (keyB v) := ⟨_, Array.toArray_toList⟩
  rw [← hlf] at hM0 hby hch Hsf ⊢
  rw [← hln] at hM0 hbn Hsn ⊢
  rw [← hlk] at hby hbn Hsk Hok hq Hz
  clear hlf hln hlk
  go_enter Try.func18, Try.ntmps18
  go_wp2_with ((with_reducible show wpList _ _ _ (⟨some 10, _, _, _, _, _⟩ :: _) _ _); refine wpList_loadC (by kernel_rfl) 37 (.tmp 3) rfl (w.heap.size) rfl 37 lf.toArray _ (hM0.get 1 rfl) Try.underlying37 rfl Hsf.out ?_)
  refine (hby _).mono ?_
  rintro e w1 ⟨rfl, hb1⟩
  have hM1 := hM0.call hb1
  clear hM0 hb1 hby
  have hM2 := hM1.put 39 (keyC (keyB 0)) lk.toArray
  rw [HZ.out] at hM2
  clear hM1
  go_wp2_with ((with_reducible show wpList _ _ _ (⟨none, Op.store 39 _ _, _, _, _, _⟩ :: _) _ _); refine wpList_store_row rfl 39 (.tmp 7) (.tmp 12) rfl (w1.heap.size) lk.toArray rfl rfl 39 _ (RowC.new _ _ _) Hsk.out Hz.out Hok.out ?_)
  refine wp_gen (fun wx => Ms w wx [(w1.heap.size, 39, lk.toArray), (w.heap.size + 1, 43, ln.toArray), (w.heap.size, 37, lf.toArray)]) hM2 ?_
  clear hM2
  rintro v1 hM3
  generalize w1.heap.size = gB at *
  have hkeep : ∀ wx : World, Below v1.heap.size v1 wx → wx.rangeAt gB 0 lk ∧ wx.rangeAt (w.heap.size + 1) 0 ln ∧ wx.rangeAt w.heap.size 0 lf := fun wx hb =>
    ⟨((hM3.get 0 rfl).call hb).range, ((hM3.get 1 rfl).call hb).range, ((hM3.get 2 rfl).call hb).range⟩
  have huf := Try.underlying37
  have hun := Try.underlying43
  have huk := Try.underlying39
  have hif := Hsf.out
  have hin := Hsn.out
  have hik := Hsk.out
  simp only [List.size_toArray] at hif hin hik
  refine beginT (fun wx => wx.rangeAt gB 0 lk ∧ wx.rangeAt (w.heap.size + 1) 0 ln ∧ wx.rangeAt w.heap.size 0 lf) 17 (by kernel_rfl) ?_
  have hS := hkeep _ (c_drew (c_refl _))
  refine takeD 0 (some 14) (.int .i64 0) rfl rfl (by kernel_rfl) (by kernel_rfl) (by kernel_rfl) (by kernel_rfl) (fun _ _ _ h => h) (Or.inl ⟨by kernel_rfl, fun wx hSw => by go_simp⟩) hS ?_
  simp only [Act.put, List.setIfInBounds_toArray, List.set_cons_zero, List.set_cons_succ]
  refine takeD 1 (some 15) (.bool true) rfl rfl (by kernel_rfl) (by kernel_rfl) (by kernel_rfl) (by kernel_rfl) (fun _ _ _ h => h) (Or.inl ⟨by kernel_rfl, fun wx hSw => by go_simp⟩) hS ?_
  simp only [Act.put, List.setIfInBounds_toArray, List.set_cons_zero, List.set_cons_succ]
  refine takeD 2 (some 16) (.bool true) rfl rfl (by kernel_rfl) (by kernel_rfl) (by kernel_rfl) (by kernel_rfl) (fun _ _ _ h => h) (Or.inl ⟨by kernel_rfl, fun wx hSw => by go_simp⟩) hS ?_
  simp only [Act.put, List.setIfInBounds_toArray, List.set_cons_zero, List.set_cons_succ]
  refine takeD 3 (some 17) (.int .i64 0) rfl rfl (by kernel_rfl) (by kernel_rfl) (by kernel_rfl) (by kernel_rfl) (fun _ _ _ h => h) (Or.inl ⟨by kernel_rfl, fun wx hSw => by go_simp⟩) hS ?_
  simp only [Act.put, List.setIfInBounds_toArray, List.set_cons_zero, List.set_cons_succ]
  refine takeD 4 (some 18) (.bool true) rfl rfl (by kernel_rfl) (by kernel_rfl) (by kernel_rfl) (by kernel_rfl) (fun _ _ _ h => h) (Or.inl ⟨by kernel_rfl, fun wx hSw => by go_simp⟩) hS ?_
  simp only [Act.put, List.setIfInBounds_toArray, List.set_cons_zero, List.set_cons_succ]
  refine takeD 5 (some 19) (.bool true) rfl rfl (by kernel_rfl) (by kernel_rfl) (by kernel_rfl) (by kernel_rfl) (fun _ _ _ h => h) (Or.inl ⟨by kernel_rfl, fun wx hSw => by go_simp⟩) hS ?_
  simp only [Act.put, List.setIfInBounds_toArray, List.set_cons_zero, List.set_cons_succ]
  refine takeD 6 (some 20) (.bool true) rfl rfl (by kernel_rfl) (by kernel_rfl) (by kernel_rfl) (by kernel_rfl) (fun _ _ _ h => h) (Or.inl ⟨by kernel_rfl, fun wx hSw => by go_simp⟩) hS ?_
  simp only [Act.put, List.setIfInBounds_toArray, List.set_cons_zero, List.set_cons_succ]
  refine loadT 7 (some 21) 37 (.tmp 3) w.heap.size 0 lf rfl rfl (by kernel_rfl) (by kernel_rfl) (by kernel_rfl) (by kernel_rfl) rfl (by kernel_rfl) rfl (fun wx hSw => hSw.2.2) huf rfl hif (fun _ _ _ h => h) hS ?_
  simp only [Act.put, List.setIfInBounds_toArray, List.set_cons_zero, List.set_cons_succ]
  refine oneT 8 (by kernel_rfl) rfl (fun K hK => ?_)
  go_simp
  refine (hch _).mono ?_
  rintro e wa ⟨rfl, hba⟩
  refine hK.out _ _ (fun _ => hkeep _ (by (repeat (first | exact c_refl _ | refine c_drew ?_ | refine c_alloc ?_ _ | refine c_row ?_ (by first | omega | exact Nat.le_refl _) _ | refine c_call ?_ (by assumption))); first | done | fail "open")) ?_
  clear hK K
  have hS2 := hkeep wa (by (repeat (first | exact c_refl _ | refine c_drew ?_ | refine c_alloc ?_ _ | refine c_row ?_ (by first | omega | exact Nat.le_refl _) _ | refine c_call ?_ (by assumption))); first | done | fail "open")
  refine takeD 9 (some 23) (.bool true) rfl rfl (by kernel_rfl) (by kernel_rfl) (by kernel_rfl) (by kernel_rfl) (fun _ _ _ h => h) (Or.inl ⟨by kernel_rfl, fun wx hSw => by go_simp⟩) hS2 ?_
  simp only [Act.put, List.setIfInBounds_toArray, List.set_cons_zero, List.set_cons_succ]
  refine takeD 10 (some 24) (.bool true) rfl rfl (by kernel_rfl) (by kernel_rfl) (by kernel_rfl) (by kernel_rfl) (fun _ _ _ h => h) (Or.inl ⟨by kernel_rfl, fun wx hSw => by go_simp⟩) hS2 ?_
  simp only [Act.put, List.setIfInBounds_toArray, List.set_cons_zero, List.set_cons_succ]
  refine takeD 11 (some 25) (.bool true) rfl rfl (by kernel_rfl) (by kernel_rfl) (by kernel_rfl) (by kernel_rfl) (fun _ _ _ h => h) (Or.inl ⟨by kernel_rfl, fun wx hSw => by go_simp⟩) hS2 ?_
  simp only [Act.put, List.setIfInBounds_toArray, List.set_cons_zero, List.set_cons_succ]
  refine loadT 12 (some 26) 39 (.tmp 7) gB 0 lk rfl rfl (by kernel_rfl) (by kernel_rfl) (by kernel_rfl) (by kernel_rfl) rfl (by kernel_rfl) rfl (fun wx hSw => hSw.1) huk rfl hik (fun _ _ _ h => h) hS2 ?_
  simp only [Act.put, List.setIfInBounds_toArray, List.set_cons_zero, List.set_cons_succ]
  refine loadT 13 (some 27) 43 (.tmp 5) (w.heap.size + 1) 0 ln rfl rfl (by kernel_rfl) (by kernel_rfl) (by kernel_rfl) (by kernel_rfl) rfl (by kernel_rfl) rfl (fun wx hSw => hSw.2.1) hun rfl hin (fun _ _ _ h => h) hS2 ?_
  simp only [Act.put, List.setIfInBounds_toArray, List.set_cons_zero, List.set_cons_succ]
  refine oneT 14 (by kernel_rfl) rfl (fun K hK => ?_)
  go_simp
  refine (hbn _).mono ?_
  rintro e wb ⟨rfl, hbb⟩
  refine hK.out _ _ (fun _ => hkeep _ (by (repeat (first | exact c_refl _ | refine c_drew ?_ | refine c_alloc ?_ _ | refine c_row ?_ (by first | omega | exact Nat.le_refl _) _ | refine c_call ?_ (by assumption))); first | done | fail "open")) ?_
  clear hK K
  have hE : Below v1.heap.size v1 wb := (by (repeat (first | exact c_refl _ | refine c_drew ?_ | refine c_alloc ?_ _ | refine c_row ?_ (by first | omega | exact Nat.le_refl _) _ | refine c_call ?_ (by assumption))); first | done | fail "open")
  have hS3 := hkeep wb hE
  refine takeD 15 (some 29) (.bool true) rfl rfl (by kernel_rfl) (by kernel_rfl) (by kernel_rfl) (by kernel_rfl) (fun _ _ _ h => h) (Or.inl ⟨by kernel_rfl, fun wx hSw => by go_simp⟩) hS3 ?_
  simp only [Act.put, List.setIfInBounds_toArray, List.set_cons_zero, List.set_cons_succ]
  refine takeD 16 (some 30) (.bool true) rfl rfl (by kernel_rfl) (by kernel_rfl) (by kernel_rfl) (by kernel_rfl) (fun _ _ _ h => h) (Or.inl ⟨by kernel_rfl, fun wx hSw => by go_simp⟩) hS3 ?_
  simp only [Act.put, List.setIfInBounds_toArray, List.set_cons_zero, List.set_cons_succ]
  refine oneT 17 (by kernel_rfl) rfl (fun K hK => ?_)
  go_simp
  refine hK.out _ _ (fun h => absurd rfl h) ?_
  clear hK K
  refine doneT (by kernel_rfl) ?_ _
  go_wp2_with fail
  go_ret
  exact ⟨rfl, (hM3.call hE).old⟩

theorem fe_eql (w : World) : (Op.equalIn 10000 37 (.agg (feC zeroF)) (.agg (feC zeroF))).run Try.prog w = .ok true w := eql_fe w zeroF zeroF

set_option maxRecDepth 1000000 in
set_option maxHeartbeats 4000000 in
theorem None_true (w : World) :
    Calls Try.prog 25 #[.agg (feC zeroF), .int .i64 1] w fun e w' => e = .returned (.bool true) ∧ Below w.heap.size w w' := by
  have hM0 := (Ms.nil w).box 37 (feC zeroF)
  have hq := fe_eql
  have Hc := Lib.hid cells_zero
  rw [cells_zero] at hq hM0 ⊢
  go_enter Try.func25, Try.ntmps25
  go_wp2_with ((with_reducible show wpList _ _ _ (⟨some 8, _, _, _, _, _⟩ :: _) _ _); refine wpList_loadC (by kernel_rfl) 37 (.tmp 2) rfl (w.heap.size) rfl 37 _ _ (hM0.get 0 rfl) Try.underlying37 rfl (by rw [← Hc.out]; exact sizeFe _) ?_)
  go_ret
  exact ⟨rfl, hM0.old⟩

end Go.Proofs.Ytbkdlmneidboaaa
