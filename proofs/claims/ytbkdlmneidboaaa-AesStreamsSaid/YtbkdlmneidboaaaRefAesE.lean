/-
  CONTRACT of the document's Encrypt (coterieref04).
-/
import Derived.Test.YtbkdlmneidboaaaRefAesC
import Derived.Test.YtbkdlmneidboaaaRefAesD
set_option linter.unusedVariables false
namespace Go.Proofs.Ytbkdlmneidboaaa
open Go.RowKit

/-- a block behind n rounds, the last one not mixed -/
def encR (k b : List UInt8) : Nat → List UInt8
  | 0 => addU b k
  | n + 1 => if n + 1 < 10 then addU (mixU (turnU (boxL (encR k b n)))) (keyU k (n + 1)) else addU (turnU (boxL (encR k b n))) (keyU k (n + 1))
theorem encR_to (k b : List UInt8) : ∀ n, n < 10 → encR k b n = encTo k b n
  | 0, _ => rfl
  | n + 1, h => by rw [encR, if_pos h, encR_to k b n (by omega)]; rfl
theorem encR_all (k b : List UInt8) : encR k b 10 = encU k b := by rw [encR, if_neg (by omega), encR_to k b 9 (by omega)]; rfl
theorem encR_len (k b : List UInt8) : ∀ n, (encR k b n).length = 16
  | 0 => addU_len _ _
  | n + 1 => by rw [encR]; split <;> exact addU_len _ _
set_option maxRecDepth 1000000 in
set_option maxHeartbeats 4000000 in
theorem REncrypt_any (k b : List UInt8) (w : World) (hk : k.length = 16) (hb : b.length = 16) :
    Calls Try.prog 44 #[.agg (k.map bv).toArray, .agg (b.map bv).toArray] w fun e w' => e = .returned (.agg ((encU k b).map bv).toArray) ∧ Below w.heap.size w w' := by
  have hz1 := zero176
  have hc := cz_ne 175
  have Hrep := Lib.hid (cz_list 176)
  have Hk := Lib.hid hk
  have Hb := Lib.hid hb
  have Hkl := Lib.hid (keysU_len hk)
  have Hmid := Lib.hid (fun (wx : World) (g : Nat) (t : TypeId) (h : ArrB wx g t (keysU k)) (i : Nat) (hi : i < 11) => keys_mid hk h hi)
  clear hk hb
  generalize cz 176 = zs at *
  go_enter Try.func44, Try.ntmps44
  have g0 := ((ArrB.mk_ w 23 _ k rfl rfl).alloc (.cells (b.map bv).toArray 23)).alloc (.cells (zero16.map bv).toArray 23)
  have g1 := (ArrB.mk_ (b := w.heap.size + 1) (w.alloc (.cells (k.map bv).toArray 23)) 23 _ b (by simp) rfl).alloc (.cells (zero16.map bv).toArray 23)
  have g2 := ArrB.mk_ (b := w.heap.size + 1 + 1) ((w.alloc (.cells (k.map bv).toArray 23)).alloc (.cells (b.map bv).toArray 23)) 23 _ zero16 (by simp) rfl
  have hB0 := (((Below.refl w.heap.size w).alloc (Nat.le_refl _) (.cells (k.map bv).toArray 23)).alloc (al0 _ _) (.cells (b.map bv).toArray 23)).alloc (Nat.le_trans (al0 _ _) (al0 _ _)) (.cells (zero16.map bv).toArray 23)
  go_wp2_with ((with_reducible show wpList _ _ _ (⟨some 8, _, _, _, _, _⟩ :: _) _ _); refine wpList_load_row rfl 23 (.tmp 2) rfl w.heap.size rfl 23 (k.map bv).toArray (0, 0) _ g0 Try.underlying23 rfl (size16 Hk.out) ?_)
  refine calls_gen (fun wx => ArrB wx (w.heap.size + 1) 23 b ∧ ArrB wx (w.heap.size + 1 + 1) 23 zero16 ∧ Below w.heap.size w wx) ⟨g1, g2, hB0⟩ ?_
  clear g0 g1 g2 hB0
  rintro w1 ⟨g1, g2, hB⟩
  refine (RKeys_any k _ Hk.out).mono ?_
  rintro e w2 ⟨rfl, hb2⟩
  have e1 := g1.below hb2 g1.lt
  have e2 := g2.below hb2 g2.lt
  have hB2 := hB.trans (hb2.mono hB.size)
  clear g1 g2 hB hb2
  have si2 : (Try.prog.info? 87).map (·.size) = some ((keysU k).map bv).toArray.size := by rw [size176, List.size_toArray, List.length_map, Hkl.out]
  have sj : zs.size = ((keysU k).map bv).toArray.size := by rw [← Hrep.out, List.size_toArray, List.size_toArray, List.length_map, List.length_map, Hkl.out, List.length_replicate]
  have k5 := ArrB.mk_ w2 87 _ (keysU k) rfl rfl
  have e1' := e1.alloc (.cells ((keysU k).map bv).toArray 87)
  have e2' := e2.alloc (.cells ((keysU k).map bv).toArray 87)
  have hB2' := hB2.alloc hB2.size (.cells ((keysU k).map bv).toArray 87)
  have hl2 := e2.lt
  have hr0 := Hmid.out _ _ _ k5 0 (by omega)
  go_wp2_with (first
    | ((with_reducible show wpList _ _ _ (⟨none, Op.store 87 _ _, _, _, _, _⟩ :: _) _ _); refine wpList_store_row rfl 87 (.tmp 5) (.tmp 9) rfl w2.heap.size ((keysU k).map bv).toArray rfl rfl 87 zs (heap_alloc_new _ _) si2 sj (one_bvA _) ?_; rw [World.setRow_alloc_new])
    | ((with_reducible show wpList _ _ _ (⟨some 10, _, _, _, _, _⟩ :: _) _ _); refine wpList_load_row rfl 23 (.tmp 3) rfl (w.heap.size + 1) rfl 23 (b.map bv).toArray (0, 0) _ e1' Try.underlying23 rfl (size16 Hb.out) ?_)
    | ((with_reducible show wpList _ _ _ (⟨some 12, _, _, _, _, _⟩ :: _) _ _); refine wpList_load_mid rfl 23 (.tmp 11) rfl w2.heap.size 0 rfl (k.map bv) _ hr0 Try.underlying23 rfl (size16L Hk.out) ?_))
  refine calls_gen (fun wx => ArrB wx w2.heap.size 87 (keysU k) ∧ ArrB wx (w.heap.size + 1 + 1) 23 zero16 ∧ Below w.heap.size w wx) ⟨k5, e2', hB2'⟩ ?_
  clear k5 e1' e2' hB2' e1 e2 hB2 hr0 si2 sj
  generalize w2.heap.size = g5 at *
  rintro w3 ⟨k5, k2, hB⟩
  refine (Rxor_any b k _ Hb.out Hk.out).mono ?_
  rintro e w4 ⟨rfl, hb4⟩
  have e5 := k5.below hb4 k5.lt
  have e2 := k2.below hb4 k2.lt
  have hB4 := hB.trans (hb4.mono hB.size)
  have hl5 := e5.lt
  clear k5 k2 hB hb4
  have k6 := ArrB.mk_ w4 23 _ (addU b k) rfl rfl
  have e5' := e5.alloc (.cells ((addU b k).map bv).toArray 23)
  have e2' := e2.alloc (.cells ((addU b k).map bv).toArray 23)
  have hB4' := hB4.alloc hB4.size (.cells ((addU b k).map bv).toArray 23)
  go_wp2_with ((with_reducible show wpList _ _ _ (⟨none, Op.store 23 _ _, _, _, _, _⟩ :: _) _ _); refine wpList_store_row rfl 23 (.tmp 6) (.tmp 13) rfl w4.heap.size ((addU b k).map bv).toArray rfl rfl 23 (zero16.map bv).toArray (heap_alloc_new _ _) (size16 (addU_len _ _)) (same16 (addU_len _ _) zero16_len) (one_bvA _) ?_; rw [World.setRow_alloc_new])
  refine wp_gen (fun wx => ArrB wx w4.heap.size 23 (encR k b 0) ∧ ArrB wx g5 87 (keysU k) ∧ ArrB wx (w.heap.size + 1 + 1) 23 zero16 ∧ Below w.heap.size w wx) ⟨k6, e5', e2', hB4'⟩ ?_
  clear k6 e5' e2' hB4' e5 e2 hB4 hz1 hc Hrep
  generalize w4.heap.size = g6 at *
  rintro w5 ⟨k6, k5, k2, hB⟩
  go_loopw [7] (fun i wr => ∃ i' : Nat, 1 ≤ i' ∧ i' ≤ 11 ∧ i = .int .i64 (i' : Int) ∧ ArrB wr g6 23 (encR k b (i' - 1)) ∧ ArrB wr g5 87 (keysU k) ∧ ArrB wr (w.heap.size + 1 + 1) 23 zero16 ∧ Below w.heap.size w wr) (fun i _ => (11 - intOf i).toNat)
  case atStart => exact ⟨1, by omega, by omega, rfl, k6, k5, k2, hB⟩
  case round =>
    obtain ⟨i, hi1, hi, rfl, k6, k5, k2, hB⟩ := hrel
    obtain ⟨wo, rfl⟩ : ∃ wo, wo = wr := ⟨_, rfl⟩
    by_cases hlt : i < 11
    · have Hq := Lib.hid (encR_len k b (i - 1))
      have Hst := Lib.hid (show encR k b (i + 1 - 1) = if i < 10 then addU (mixU (turnU (boxL (encR k b (i - 1))))) (keyU k i) else addU (turnU (boxL (encR k b (i - 1)))) (keyU k i) by
        have e : i + 1 - 1 = (i - 1) + 1 := by omega
        rw [e, encR, show i - 1 + 1 = i by omega])
      have Hkn := Lib.hid (keyU_len Hk.out i)
      have Hmk := Lib.hid (fun (wx : World) (h : ArrB wx g5 87 (keysU k)) => Hmid.out wx g5 _ h i (by omega))
      generalize encR k b (i - 1) = q at *
      generalize keyU k i = kn at *
      have j0 : 0 ≤ (i : Int) := by omega
      have j1 : (i : Int) < 11 := by omega
      have j2 : (i : Int) ≤ 10 := by omega
      have hl6 := k6.lt
      by_cases h10 : i < 10
      · have j3 : (i : Int) < 10 := by omega
        go_wp2_with ((with_reducible show wpList _ _ _ (⟨some 18, _, _, _, _, _⟩ :: _) _ _); refine wpList_load_row rfl 23 (.tmp 6) rfl g6 rfl 23 (q.map bv).toArray (0, 0) _ k6 Try.underlying23 rfl (size16 Hq.out) ?_)
        refine (Rturned_any q _ Hq.out).mono ?_
        rintro e w6 ⟨rfl, hb6⟩
        have a6 := (k6.below hb6 hl6).row (turnU (boxL q))
        have a5 := (k5.below hb6 k5.lt).rowFar (g' := g6) (by omega) ((turnU (boxL q)).map bv).toArray
        have a2 := (k2.below hb6 k2.lt).rowFar (g' := g6) (by omega) ((turnU (boxL q)).map bv).toArray
        have hBa := below_setRow (hB.trans (hb6.mono hB.size)) (show w.heap.size ≤ g6 by omega) ((turnU (boxL q)).map bv).toArray
        have o6 := k6.below hb6 hl6
        have HY := Lib.hid (turnU_len (boxL q))
        clear k6 k5 k2 hB
        generalize turnU (boxL q) = y at *
        have hlA := a6.lt
        go_wp2_with (first
          | ((with_reducible show wpList _ _ _ (⟨none, Op.store 23 _ _, _, _, _, _⟩ :: _) _ _); refine wpList_store_row rfl 23 (.tmp 6) (.tmp 19) rfl g6 (y.map bv).toArray rfl rfl 23 _ o6 (size16 HY.out) (same16 HY.out Hq.out) (one_bvA _) ?_)
          | ((with_reducible show wpList _ _ _ (⟨some 22, _, _, _, _, _⟩ :: _) _ _); refine wpList_load_row rfl 23 (.tmp 6) rfl g6 rfl 23 (y.map bv).toArray (0, 0) _ a6 Try.underlying23 rfl (size16 HY.out) ?_))
        refine calls_gen (fun wx => ArrB wx g6 23 y ∧ ArrB wx g5 87 (keysU k) ∧ ArrB wx (w.heap.size + 1 + 1) 23 zero16 ∧ Below w.heap.size w wx) ⟨a6, a5, a2, hBa⟩ ?_
        clear a6 a5 a2 hBa o6 hb6
        rintro w7 ⟨k6, k5, k2, hB⟩
        refine (Rmixed_any y _ HY.out).mono ?_
        rintro e w8 ⟨rfl, hb8⟩
        have a6 := (k6.below hb8 k6.lt).row (mixU y)
        have a5 := (k5.below hb8 k5.lt).rowFar (g' := g6) (by omega) ((mixU y).map bv).toArray
        have a2 := (k2.below hb8 k2.lt).rowFar (g' := g6) (by omega) ((mixU y).map bv).toArray
        have hBa := below_setRow (hB.trans (hb8.mono hB.size)) (show w.heap.size ≤ g6 by omega) ((mixU y).map bv).toArray
        have o6 := k6.below hb8 k6.lt
        have HZ := Lib.hid (mixU_len y)
        clear k6 k5 k2 hB
        generalize mixU y = z at *
        go_wp2_with ((with_reducible show wpList _ _ _ (⟨none, Op.store 23 _ _, _, _, _, _⟩ :: _) _ _); refine wpList_store_row rfl 23 (.tmp 6) (.tmp 23) rfl g6 (z.map bv).toArray rfl rfl 23 _ o6 (size16 HZ.out) (same16 HZ.out HY.out) (one_bvA _) ?_)
        rw [if_pos h10] at Hst
        refine wp_gen (fun wx => ArrB wx g6 23 z ∧ ArrB wx g5 87 (keysU k) ∧ ArrB wx (w.heap.size + 1 + 1) 23 zero16 ∧ Below w.heap.size w wx) ⟨a6, a5, a2, hBa⟩ ?_
        clear a6 a5 a2 hBa o6
        rintro w9 ⟨k6, k5, k2, hB⟩
        have hl9 := k6.lt
        have hu := Try.underlying23
        have hi1 := size16L HZ.out
        have hi2 := size16L Hkn.out
        have hkeep : ∀ wx : World, Below w9.heap.size w9 wx → wx.rangeAt g6 0 (z.map bv) ∧ wx.rangeAt g5 (i * 16) (kn.map bv) := fun wx hw => ⟨(k6.below hw k6.lt).range, Hmk.out wx (k5.below hw k5.lt)⟩
        refine beginT (fun wx => wx.rangeAt g6 0 (z.map bv) ∧ wx.rangeAt g5 (i * 16) (kn.map bv)) 5 (by kernel_rfl) ?_
        have hS := hkeep _ (c_drew (c_refl _))
        refine loadT 0 (some 24) 23 (.tmp 6) g6 0 (z.map bv) rfl rfl (by kernel_rfl) (by kernel_rfl) (by kernel_rfl) (by kernel_rfl) rfl (by kernel_rfl) rfl (fun wx hSw => hSw.1) hu rfl hi1 (fun _ _ _ h => h) hS ?_
        simp only [Act.put, List.setIfInBounds_toArray, List.set_cons_zero, List.set_cons_succ]
        refine takeD 1 (some 25) (.int .i64 (i : Int)) rfl rfl (by kernel_rfl) (by kernel_rfl) (by kernel_rfl) (by kernel_rfl) (fun _ _ _ h => h) (Or.inl ⟨by kernel_rfl, fun wx hSw => by go_simp⟩) hS ?_
        simp only [Act.put, List.setIfInBounds_toArray, List.set_cons_zero, List.set_cons_succ]
        refine takeD 2 (some 26) (.pointer (some ⟨g5, i * 16, none⟩)) rfl rfl (by kernel_rfl) (by kernel_rfl) (by kernel_rfl) (by kernel_rfl) (fun _ _ _ h => h) (Or.inl ⟨by kernel_rfl, fun wx hSw => by go_simp⟩) hS ?_
        simp only [Act.put, List.setIfInBounds_toArray, List.set_cons_zero, List.set_cons_succ]
        refine loadT 3 (some 27) 23 (.tmp 26) g5 (i * 16) (kn.map bv) rfl rfl (by kernel_rfl) (by kernel_rfl) (by kernel_rfl) (by kernel_rfl) rfl (by kernel_rfl) rfl (fun wx hSw => hSw.2) hu rfl hi2 (fun _ _ _ h => h) hS ?_
        simp only [Act.put, List.setIfInBounds_toArray, List.set_cons_zero, List.set_cons_succ]
        refine oneT 4 (by kernel_rfl) rfl (fun K hK => ?_)
        go_simp
        refine (Rxor_any z kn _ HZ.out Hkn.out).mono ?_
        rintro e we ⟨rfl, hbe⟩
        refine hK.out _ _ (fun _ => hkeep _ (by (repeat (first | exact c_refl _ | refine c_drew ?_ | refine c_alloc ?_ _ | refine c_row ?_ (by first | omega | exact Nat.le_refl _) _ | refine c_call ?_ (by assumption))); first | done | fail "open")) ?_
        clear hK K
        have hE : Below w9.heap.size w9 we := (by (repeat (first | exact c_refl _ | refine c_drew ?_ | refine c_alloc ?_ _ | refine c_row ?_ (by first | omega | exact Nat.le_refl _) _ | refine c_call ?_ (by assumption))); first | done | fail "open")
        have e6 := k6.below hE k6.lt
        rw [← Hst.out]
        refine oneT 5 (by kernel_rfl) rfl (fun K hK => ?_)
        refine step_store_row rfl 23 (.tmp 6) (.tmp 28) rfl g6 ((encR k b (i + 1 - 1)).map bv).toArray rfl rfl 23 (z.map bv).toArray e6 (size16 (encR_len _ _ _)) (same16 (encR_len _ _ _) HZ.out) (one_bvA _) ?_
        refine hK.out _ _ (fun h => absurd rfl h) ?_
        clear hK K
        refine doneT (by kernel_rfl) ?_ _
        go_wp2_with fail
        exact ⟨⟨i + 1, by omega, by omega, by go_num, e6.row _, (k5.below hE k5.lt).rowFar (by omega) _, (k2.below hE k2.lt).rowFar (by omega) _, below_setRow (hB.trans (hE.mono hB.size)) (by omega) _⟩, by simp [intOf]; omega⟩
      · have j3 : ¬ (i : Int) < 10 := by omega
        have j4 : (10 : Int) ≤ (i : Int) := by omega
        go_wp2_with ((with_reducible show wpList _ _ _ (⟨some 18, _, _, _, _, _⟩ :: _) _ _); refine wpList_load_row rfl 23 (.tmp 6) rfl g6 rfl 23 (q.map bv).toArray (0, 0) _ k6 Try.underlying23 rfl (size16 Hq.out) ?_)
        refine (Rturned_any q _ Hq.out).mono ?_
        rintro e w6 ⟨rfl, hb6⟩
        have a6 := (k6.below hb6 hl6).row (turnU (boxL q))
        have a5 := (k5.below hb6 k5.lt).rowFar (g' := g6) (by omega) ((turnU (boxL q)).map bv).toArray
        have a2 := (k2.below hb6 k2.lt).rowFar (g' := g6) (by omega) ((turnU (boxL q)).map bv).toArray
        have hBa := below_setRow (hB.trans (hb6.mono hB.size)) (show w.heap.size ≤ g6 by omega) ((turnU (boxL q)).map bv).toArray
        have o6 := k6.below hb6 hl6
        have HY := Lib.hid (turnU_len (boxL q))
        clear k6 k5 k2 hB
        generalize turnU (boxL q) = z at *
        have HZ := HY
        go_wp2_with ((with_reducible show wpList _ _ _ (⟨none, Op.store 23 _ _, _, _, _, _⟩ :: _) _ _); refine wpList_store_row rfl 23 (.tmp 6) (.tmp 19) rfl g6 (z.map bv).toArray rfl rfl 23 _ o6 (size16 HY.out) (same16 HY.out Hq.out) (one_bvA _) ?_)
        rw [if_neg h10] at Hst
        refine wp_gen (fun wx => ArrB wx g6 23 z ∧ ArrB wx g5 87 (keysU k) ∧ ArrB wx (w.heap.size + 1 + 1) 23 zero16 ∧ Below w.heap.size w wx) ⟨a6, a5, a2, hBa⟩ ?_
        clear a6 a5 a2 hBa o6
        rintro w9 ⟨k6, k5, k2, hB⟩
        have hl9 := k6.lt
        have hu := Try.underlying23
        have hi1 := size16L HZ.out
        have hi2 := size16L Hkn.out
        have hkeep : ∀ wx : World, Below w9.heap.size w9 wx → wx.rangeAt g6 0 (z.map bv) ∧ wx.rangeAt g5 (i * 16) (kn.map bv) := fun wx hw => ⟨(k6.below hw k6.lt).range, Hmk.out wx (k5.below hw k5.lt)⟩
        refine beginT (fun wx => wx.rangeAt g6 0 (z.map bv) ∧ wx.rangeAt g5 (i * 16) (kn.map bv)) 5 (by kernel_rfl) ?_
        have hS := hkeep _ (c_drew (c_refl _))
        refine loadT 0 (some 24) 23 (.tmp 6) g6 0 (z.map bv) rfl rfl (by kernel_rfl) (by kernel_rfl) (by kernel_rfl) (by kernel_rfl) rfl (by kernel_rfl) rfl (fun wx hSw => hSw.1) hu rfl hi1 (fun _ _ _ h => h) hS ?_
        simp only [Act.put, List.setIfInBounds_toArray, List.set_cons_zero, List.set_cons_succ]
        refine takeD 1 (some 25) (.int .i64 (i : Int)) rfl rfl (by kernel_rfl) (by kernel_rfl) (by kernel_rfl) (by kernel_rfl) (fun _ _ _ h => h) (Or.inl ⟨by kernel_rfl, fun wx hSw => by go_simp⟩) hS ?_
        simp only [Act.put, List.setIfInBounds_toArray, List.set_cons_zero, List.set_cons_succ]
        refine takeD 2 (some 26) (.pointer (some ⟨g5, i * 16, none⟩)) rfl rfl (by kernel_rfl) (by kernel_rfl) (by kernel_rfl) (by kernel_rfl) (fun _ _ _ h => h) (Or.inl ⟨by kernel_rfl, fun wx hSw => by go_simp⟩) hS ?_
        simp only [Act.put, List.setIfInBounds_toArray, List.set_cons_zero, List.set_cons_succ]
        refine loadT 3 (some 27) 23 (.tmp 26) g5 (i * 16) (kn.map bv) rfl rfl (by kernel_rfl) (by kernel_rfl) (by kernel_rfl) (by kernel_rfl) rfl (by kernel_rfl) rfl (fun wx hSw => hSw.2) hu rfl hi2 (fun _ _ _ h => h) hS ?_
        simp only [Act.put, List.setIfInBounds_toArray, List.set_cons_zero, List.set_cons_succ]
        refine oneT 4 (by kernel_rfl) rfl (fun K hK => ?_)
        go_simp
        refine (Rxor_any z kn _ HZ.out Hkn.out).mono ?_
        rintro e we ⟨rfl, hbe⟩
        refine hK.out _ _ (fun _ => hkeep _ (by (repeat (first | exact c_refl _ | refine c_drew ?_ | refine c_alloc ?_ _ | refine c_row ?_ (by first | omega | exact Nat.le_refl _) _ | refine c_call ?_ (by assumption))); first | done | fail "open")) ?_
        clear hK K
        have hE : Below w9.heap.size w9 we := (by (repeat (first | exact c_refl _ | refine c_drew ?_ | refine c_alloc ?_ _ | refine c_row ?_ (by first | omega | exact Nat.le_refl _) _ | refine c_call ?_ (by assumption))); first | done | fail "open")
        have e6 := k6.below hE k6.lt
        rw [← Hst.out]
        refine oneT 5 (by kernel_rfl) rfl (fun K hK => ?_)
        refine step_store_row rfl 23 (.tmp 6) (.tmp 28) rfl g6 ((encR k b (i + 1 - 1)).map bv).toArray rfl rfl 23 (z.map bv).toArray e6 (size16 (encR_len _ _ _)) (same16 (encR_len _ _ _) HZ.out) (one_bvA _) ?_
        refine hK.out _ _ (fun h => absurd rfl h) ?_
        clear hK K
        refine doneT (by kernel_rfl) ?_ _
        go_wp2_with fail
        exact ⟨⟨i + 1, by omega, by omega, by go_num, e6.row _, (k5.below hE k5.lt).rowFar (by omega) _, (k2.below hE k2.lt).rowFar (by omega) _, below_setRow (hB.trans (hE.mono hB.size)) (by omega) _⟩, by simp [intOf]; omega⟩
    · obtain rfl : i = 11 := by omega
      rw [show ((11 : Nat) : Int) = 11 from rfl]
      rw [show 11 - 1 = 10 from rfl, encR_all] at k6
      go_wp2_with (first
        | ((with_reducible show wpList _ _ _ (⟨some 29, _, _, _, _, _⟩ :: _) _ _); refine wpList_load_row rfl 23 (.tmp 6) rfl g6 rfl 23 ((encU k b).map bv).toArray (0, 0) _ k6 Try.underlying23 rfl (size16 (encU_len _ _)) ?_)
        | ((with_reducible show wpList _ _ _ (⟨none, Op.store 23 _ _, _, _, _, _⟩ :: _) _ _); refine wpList_store_row rfl 23 (.tmp 4) (.tmp 29) rfl (w.heap.size + 1 + 1) ((encU k b).map bv).toArray rfl rfl 23 _ k2 (size16 (encU_len _ _)) (same16 (encU_len _ _) zero16_len) (one_bvA _) ?_))
      exact bodyPost_ret (results_cell_row rfl _ _ (w.heap.size + 1 + 1) 23 _ (0, 0) _ rfl (k2.row (encU k b)) Try.underlying23 rfl (size16 (encU_len _ _))) rfl ⟨rfl, below_setRow hB (by omega) _⟩

end Go.Proofs.Ytbkdlmneidboaaa
