/-
  CONTRACTS of the program's Encrypt and Keys (package aes).
-/
import Derived.Test.YtbiongbbohnoiaaAesG
set_option linter.unusedVariables false
namespace Go.Proofs.Ytbiongbbohnoiaa
open Go.RowKit

theorem info176 : (Try.prog.info? 26).map (fun i => (i.zero, i.size, i.bytes)) = some (some (.agg (cz 176)), 176, 176) := by kernel_rfl
theorem zero176 (w : World) : (zeroValue 26).run Try.prog w = .ok (.agg (cz 176)) w := by
  obtain ⟨i0, hi0, hz0, hz1, hz2⟩ := info_parts info176
  exact run_zero_of hi0 hz0 w
theorem size176 : (Try.prog.info? 26).map (·.size) = some 176 := by kernel_rfl
theorem keysU_len {k : List UInt8} (h : k.length = 16) : (keysU k).length = 176 := by rw [keysU_kTo, kTo_len h]
theorem CipAt.keys {w : World} {g : Nat} {K : List UInt8} (h : CipAt w g K) : w.rangeAt g 256 (K.map bv) := by
  intro j u hu
  rw [List.getElem?_map] at hu
  obtain ⟨x, hx, rfl⟩ := Option.map_eq_some_iff.1 hu
  refine ArrB.cell h ?_
  rw [List.getElem?_append_right (by rw [boxT_len]; omega), boxT_len, show 256 + j - 256 = j by omega, hx]

set_option maxRecDepth 1000000 in
set_option maxHeartbeats 1000000 in
theorem Keys_any (k : List UInt8) (w : World) (hk : k.length = 16) :
    Calls Try.prog 12 #[.agg (k.map bv).toArray] w fun e w' => e = .returned (.agg ((keysU k).map bv).toArray) ∧ Below w.heap.size w w' := by
  have hz := zero176
  have hc := cz_ne 175
  have Hrep := Lib.hid (cz_list 176)
  have Hk := Lib.hid hk
  have Hi := Lib.hid (size16 hk)
  have hzl : (cz 176).size = 176 := cz_size 176
  have Hzl := Lib.hid hzl
  clear hk hzl
  generalize cz 176 = zs at *
  go_enter Try.func12, Try.ntmps12
  go_wp2_with ((with_reducible show wpList _ _ _ (⟨some 3, _, _, _, _, _⟩ :: _) _ _); refine wpList_load_row rfl 23 (.tmp 1) rfl w.heap.size rfl 23 (k.map bv).toArray (0, 0) _ ((ArrB.mk_ w _ _ k rfl rfl).alloc _) Try.underlying23 rfl Hi.out ?_)
  refine (newCipher_any k _ Hk.out).mono ?_
  rintro e w2 ⟨g, rfl, hg, hC, hb2⟩
  have k1 := (ArrB.mk_ (b := w.heap.size + 1) (w.alloc (.cells (k.map bv).toArray 23)) 26 zs (List.replicate 176 0) (by simp) Hrep.out).below hb2 (by simp)
  have hB : Below w.heap.size w w2 := (((Below.refl _ _).alloc (Nat.le_refl _) _).alloc (al0 _ _) _).trans (hb2.mono (by simp; omega))
  have Hkl := Lib.hid (keysU_len Hk.out)
  have hr := hC.keys
  generalize hK0 : keysU k = K at *
  have HK0 := Lib.hid hK0
  clear hK0
  have hlt := k1.lt
  clear hz hc hC hb2
  have si : (Try.prog.info? 26).map (·.size) = some (K.map bv).length := by rw [size176, List.length_map, Hkl.out]
  have si2 : (Try.prog.info? 26).map (·.size) = some (K.map bv).toArray.size := by rw [size176, List.size_toArray, List.length_map, Hkl.out]
  have sj : (((List.replicate 176 (0 : UInt8)).map bv).toArray).size = (K.map bv).toArray.size := by rw [List.size_toArray, List.size_toArray, List.length_map, List.length_map, Hkl.out, List.length_replicate]
  go_wp2_with (first
    | ((with_reducible show wpList _ _ _ (⟨some 7, _, _, _, _, _⟩ :: _) _ _); refine wpList_load_mid rfl 26 (.tmp 6) rfl g 256 rfl (K.map bv) _ hr Try.underlying26 rfl si ?_)
    | ((with_reducible show wpList _ _ _ (⟨none, Op.store 26 _ _, _, _, _, _⟩ :: _) _ _); refine wpList_store_row rfl 26 (.tmp 2) (.tmp 7) rfl (w.heap.size + 1) (K.map bv).toArray rfl rfl 26 _ k1 si2 sj (one_bvA _) ?_))
  exact bodyPost_ret (results_cell_row rfl _ _ (w.heap.size + 1) 26 _ (0, 0) _ rfl (k1.row K) Try.underlying26 rfl si2) rfl ⟨by rw [HK0.out], below_setRow hB (by omega) _⟩

set_option maxRecDepth 1000000 in
set_option maxHeartbeats 1000000 in
theorem Encrypt_any (k b : List UInt8) (w : World) (hk : k.length = 16) (hb : b.length = 16) :
    Calls Try.prog 14 #[.agg (k.map bv).toArray, .agg (b.map bv).toArray] w fun e w' => e = .returned (.agg ((encU k b).map bv).toArray) ∧ Below w.heap.size w w' := by
  have Hk := Lib.hid hk
  have Hb := Lib.hid hb
  clear hk hb
  go_enter Try.func14, Try.ntmps14
  go_wp2_with fail
  have g0 := ((ArrB.mk_ w 23 _ k rfl rfl).alloc (.cells (b.map bv).toArray 23)).alloc (.cells (zero16.map bv).toArray 23)
  have g1 := (ArrB.mk_ (b := w.heap.size + 1) (w.alloc (.cells (k.map bv).toArray 23)) 23 _ b (by simp) rfl).alloc (.cells (zero16.map bv).toArray 23)
  have g2 := ArrB.mk_ (b := w.heap.size + 1 + 1) ((w.alloc (.cells (k.map bv).toArray 23)).alloc (.cells (b.map bv).toArray 23)) 23 _ zero16 (by simp) rfl
  have hB0 := (((Below.refl w.heap.size w).alloc (Nat.le_refl _) (.cells (k.map bv).toArray 23)).alloc (al0 _ _) (.cells (b.map bv).toArray 23)).alloc (Nat.le_trans (al0 _ _) (al0 _ _)) (.cells (zero16.map bv).toArray 23)
  refine wp_gen (fun wx => ArrB wx w.heap.size 23 k ∧ ArrB wx (w.heap.size + 1) 23 b ∧ ArrB wx (w.heap.size + 1 + 1) 23 zero16 ∧ Below w.heap.size w wx) ⟨g0, g1, g2, hB0⟩ ?_
  clear g0 g1 g2 hB0
  rintro w1 ⟨g0, g1, g2, hB1⟩
  have hu := Try.underlying23
  have hi1 := size16L Hk.out
  have hi2 := size16L Hb.out
  have hkeep : ∀ wx : World, Below w1.heap.size w1 wx → wx.rangeAt w.heap.size 0 (k.map bv) ∧ wx.rangeAt (w.heap.size + 1) 0 (b.map bv) := fun wx hw => ⟨(g0.below hw g0.lt).range, (g1.below hw g1.lt).range⟩
  refine beginT (fun wx => wx.rangeAt w.heap.size 0 (k.map bv) ∧ wx.rangeAt (w.heap.size + 1) 0 (b.map bv)) 4 (by kernel_rfl) ?_
  have hS := hkeep _ (c_drew (c_refl _))
  refine loadT 0 (some 5) 23 (.tmp 2) w.heap.size 0 (k.map bv) rfl rfl (by kernel_rfl) (by kernel_rfl) (by kernel_rfl) (by kernel_rfl) rfl (by kernel_rfl) rfl (fun wx hSw => hSw.1) hu rfl hi1 (fun _ _ _ h => h) hS ?_
  simp only [Act.put, List.setIfInBounds_toArray, List.set_cons_zero, List.set_cons_succ]
  refine loadT 2 (some 7) 23 (.tmp 3) (w.heap.size + 1) 0 (b.map bv) rfl rfl (by kernel_rfl) (by kernel_rfl) (by kernel_rfl) (by kernel_rfl) rfl (by kernel_rfl) rfl (fun wx hSw => hSw.2) hu rfl hi2 (fun _ _ _ h => h) hS ?_
  simp only [Act.put, List.setIfInBounds_toArray, List.set_cons_zero, List.set_cons_succ]
  refine oneT 1 (by kernel_rfl) rfl (fun K hK => ?_)
  go_simp
  refine (newCipher_any k _ Hk.out).mono ?_
  rintro e wa ⟨g, rfl, hg, hC, hba⟩
  refine hK.out _ _ (fun _ => hkeep _ (by (repeat (first | exact c_refl _ | refine c_drew ?_ | refine c_alloc ?_ _ | refine c_row ?_ (by first | omega | exact Nat.le_refl _) _ | refine c_call ?_ (by assumption))); first | done | fail "open")) ?_
  clear hK K
  refine oneT 3 (by kernel_rfl) rfl (fun K hK => ?_)
  go_simp
  refine (encrypted_any g k b _ hC Hk.out Hb.out).mono ?_
  rintro e we ⟨rfl, hbe⟩
  refine hK.out _ _ (fun _ => hkeep _ (by (repeat (first | exact c_refl _ | refine c_drew ?_ | refine c_alloc ?_ _ | refine c_row ?_ (by first | omega | exact Nat.le_refl _) _ | refine c_call ?_ (by assumption))); first | done | fail "open")) ?_
  clear hK K
  have hE : Below w1.heap.size w1 we := (by (repeat (first | exact c_refl _ | refine c_drew ?_ | refine c_alloc ?_ _ | refine c_row ?_ (by first | omega | exact Nat.le_refl _) _ | refine c_call ?_ (by assumption))); first | done | fail "open")
  have k2 := g2.below hE g2.lt
  refine oneT 4 (by kernel_rfl) rfl (fun K hK => ?_)
  refine step_store_row rfl 23 (.tmp 4) (.tmp 8) rfl (w.heap.size + 1 + 1) ((encU k b).map bv).toArray rfl rfl 23 ((zero16).map bv).toArray k2 (size16 (encU_len _ _)) (same16 (encU_len _ _) zero16_len) (one_bvA _) ?_
  refine hK.out _ _ (fun h => absurd rfl h) ?_
  clear hK K
  refine doneT (by kernel_rfl) ?_ _
  simp only [Act.put]
  go_wp2_with fail
  exact bodyPost_ret (results_cell_row rfl _ _ (w.heap.size + 1 + 1) 23 _ (0, 0) _ rfl (k2.row (encU k b)) Try.underlying23 rfl (size16 (encU_len _ _))) rfl ⟨rfl, below_setRow (hB1.trans (hE.mono hB1.size)) (by omega) _⟩

end Go.Proofs.Ytbiongbbohnoiaa
