import Derived.Test.YtlidhdljgnijaaaDoorN36
/-
  CONTRACT of the program's red.Nodes, for shapes that are not few (the text of XRedPF, its hypothesis widened).
-/
set_option linter.unusedVariables false
namespace Go.Proofs.YtlidhdljgnijaaaDoor
open Go.RowKit

set_option maxRecDepth 100000 in
set_option maxHeartbeats 4000000 in
theorem PNodes_wide (kind : Int) (Ai : Option Addr) (ni ci : Nat) (Al : Option Addr) (nl cl : Nat) (ids : List Int) (ll : List (List Int)) (w : World) (h : ShR w w.heap.size Ai ni ci Al nl cl ids ll) (hw : ∀ l ∈ ll, l.length ≤ 1000000) (hni6 : ni ≤ 1000000) :
    Calls Tryd.prog 50 #[.int .i64 kind, .agg (shV Ai ni ci Al nl cl)] w (NodesPost w kind ids ll) := by
  have Hni := Lib.hid h.hni
  have Hnl := Lib.hid h.hnl
  have hM := (Ms.nil w).box 25 (shV Ai ni ci Al nl cl)
  have hS1 := (h.below hM.old)
  have hck := PCheck_any Ai ni ci Al nl cl ids ll _ (hS1.more hM.old.size) hw hni6
  have Hpost := Lib.hid (show ∀ A n c er w', Below w.heap.size w w' → er = mayE kind ids ll → NdR w' w'.heap.size A n c (nodesI kind ids ll) → NodesPost w kind ids ll (.returned (.tuple #[.slice A n c, .int .i64 er])) w' from fun A n c er w' h1 h2 h3 => ⟨h1, A, n, c, by rw [h2], h3⟩)
  generalize NodesPost w kind ids ll = PO at *
  by_cases hk : kind = 1 ∨ kind = 2
  · have hkB : (decide (kind = 1) || decide (kind = 2)) = true := by rcases hk with e | e <;> simp [e]
    have Hmb := Lib.hid (show mayB kind ids ll = chkT ids ll by rw [mayB, hkB, Bool.true_and])
    obtain ⟨er, her⟩ : ∃ er, er = chkE ids ll := ⟨_, rfl⟩
    rw [← her] at hck
    have Her := Lib.hid her
    clear her
    have hfinish : ∀ w1, Below (w.heap.size + 1) (w.alloc (.cells (shV Ai ni ci Al nl cl) 25)) w1 → Below w.heap.size (w.alloc (.cells (shV Ai ni ci Al nl cl) 25)) w1 := fun w1 h => h.mono (by omega)
    have hchk : er = 0 ∨ er = 1 := by
      have := Her.out
      rw [chkE] at this
      split at this <;> omega
    have Htold := Lib.hid (fun (h0 : er = 0) (hn0 : ¬ ni = 0) (w1 : World) (hS2 : ShR w1 w1.heap.size Ai ni ci Al nl cl ids ll) => by
      have hch : chkT ids ll = true := chkE_iff.1 (Her.out.symm.trans h0)
      obtain ⟨hn1000, _, hlo, hin⟩ := chkT_lv hch
      have hs := lvOK_sum _ _ hlo
      have hhi := lv_high hch
      have hlen : (lvN ll).length = nl := by rw [lvN, List.length_map]; exact Hnl.out
      rw [← levI_lvN hin] at hS2
      exact PTold_any kind hk Ai ni ci Al nl cl ids (lvN ll) w1 hS2 hs hn1000 (by rw [Hni.out]; omega) (by omega))
    have Hnd := Lib.hid (show er = 0 → ¬ ni = 0 → nodesI kind ids ll = ((treeOf kind (lvN ll) (lvN ll).length 0).flat 0 (-1)).map RN.i from fun h0 hn0 => by
      rw [nodesI, Hmb.out, if_pos (chkE_iff.1 (Her.out.symm.trans h0)), nodesU, if_neg (by rw [Hni.out]; exact hn0)])
    have Hn0 := Lib.hid (show ni = 0 → nodesI kind ids ll = [] from fun hn0 => by
      have h0 : ids.length = 0 := by rw [Hni.out]; exact hn0
      simp [nodesI, nodesU, h0])
    have Hn1 := Lib.hid (show er = 1 → nodesI kind ids ll = [] from fun h1 => by
      have h2 : ¬ chkT ids ll = true := fun e => by
        have := chkE_iff.2 e
        have := Her.out
        omega
      rw [nodesI, Hmb.out, if_neg h2])
    have Hmay := Lib.hid (show er = mayE kind ids ll by
      have := Her.out
      rw [chkE] at this
      rw [mayE, Hmb.out, this])
    generalize (((treeOf kind (lvN ll) (lvN ll).length 0).flat 0 (-1)).map RN.i) = NS at *
    clear hkB hfinish
    rcases hk with rfl | rfl
    all_goals
      have hold := hM.old
      go_enter Tryd.func50, Tryd.ntmps50
      go_upto_region 3 with fail
      go_wp2_with ((with_reducible show wpList _ _ _ (⟨some 13, _, _, _, _, _⟩ :: _) _ _); refine wpList_loadC (by kernel_rfl) 25 (.tmp 3) rfl w.heap.size rfl 25 (shV Ai ni ci Al nl cl) _ (hM.get 0 rfl) Tryd.underlying25 rfl shapeInfo2 ?_)
      refine hck.mono ?_
      rintro e w1 ⟨rfl, hb1⟩
      have hM1 := hM.call hb1
      have hold1 := hM1.old
      have hS2 := hS1.below (hb1.mono hM.old.size)
      clear hck hM hS1 h hb1 hold
      rcases hchk with h1 | h1
      rotate_left
      · subst h1
        have Hz := Lib.hid (Hn1.out rfl)
        have hz := NdR.zero w1 w1.heap.size
        rw [← Hz.out] at hz
        clear hM1 hS2
        go_wp2_with fail
        (first | exact Hpost.out _ _ _ _ _ hold1 Hmay.out hz | exact bodyPost_ret (results_tmp2 rfl _ _ _) rfl (Hpost.out _ _ _ _ _ hold1 Hmay.out hz))
      · subst h1
        have k0 := (hM1.get 0 rfl).cell (i := 0) (v := .slice Ai ni ci) rfl
        by_cases hn0 : ni = 0
        · have Hz := Lib.hid (Hn0.out hn0)
          have hz := NdR.zero w1 w1.heap.size
          rw [← Hz.out] at hz
          have hn0i : (ni : Int) = 0 := by omega
          clear hM1 hS2
          go_wp2_with fail
          (first | exact Hpost.out _ _ _ _ _ hold1 Hmay.out hz | exact bodyPost_ret (results_tmp2 rfl _ _ _) rfl (Hpost.out _ _ _ _ _ hold1 Hmay.out hz))
        · have hn0i : ¬ (ni : Int) = 0 := by omega
          have hto := Htold.out rfl hn0 w1 (hS2.more hold1.size)
          have hbx := hM1.get 0 rfl
          clear hS2 hM1
          go_wp2_with ((with_reducible show wpList _ _ _ (⟨some 23, _, _, _, _, _⟩ :: _) _ _); refine wpList_loadC (by kernel_rfl) 25 (.tmp 3) rfl w.heap.size rfl 25 (shV Ai ni ci Al nl cl) _ hbx Tryd.underlying25 rfl shapeInfo2 ?_)
          refine hto.mono ?_
          rintro e w2 ⟨hb2, A2, n2, c2, rfl, hnd⟩
          have hold2 := hold1.trans (hb2.mono hold1.size)
          rw [← Hnd.out (by first | rfl | trivial) (by first | exact hn0 | trivial)] at hnd
          clear hto hbx k0
          go_wp2_with fail
          (first | exact Hpost.out _ _ _ _ _ hold2 Hmay.out hnd | exact bodyPost_ret (results_tmp2 rfl _ _ _) rfl (Hpost.out _ _ _ _ _ hold2 Hmay.out hnd))
  · have hk1 : ¬ kind = 1 := fun e => hk (.inl e)
    have hk2 : ¬ kind = 2 := fun e => hk (.inr e)
    have hkB : (decide (kind = 1) || decide (kind = 2)) = false := by simp [hk1, hk2]
    have Hc := Lib.hid (show (1 : Int) = mayE kind ids ll by rw [mayE, mayB, hkB]; rfl)
    have Hz := Lib.hid (show nodesI kind ids ll = [] by rw [nodesI, mayB, hkB]; rfl)
    have hn1 : (kind != 1) = true := by simpa using hk1
    have hn2 : (kind != 2) = true := by simpa using hk2
    have hkk : (kind != 1 && kind != 2) = true := by simp [hk1, hk2]
    have hz := NdR.zero (w.alloc (.cells (shV Ai ni ci Al nl cl) 25)) (w.alloc (.cells (shV Ai ni ci Al nl cl) 25)).heap.size
    rw [← Hz.out] at hz
    have hold := hM.old
    clear hck hM hS1 h hk
    go_enter Tryd.func50, Tryd.ntmps50
    go_wp2_with fail
    (first | exact Hpost.out _ _ _ _ _ hold Hc.out hz | exact bodyPost_ret (results_tmp2 rfl _ _ _) rfl (Hpost.out _ _ _ _ _ hold Hc.out hz))

end Go.Proofs.YtlidhdljgnijaaaDoor

