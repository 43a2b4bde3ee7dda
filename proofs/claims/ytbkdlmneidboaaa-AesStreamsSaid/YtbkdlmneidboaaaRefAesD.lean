/-
  CONTRACT of the document's Keys (coterieref04).
-/
import Derived.Test.YtbkdlmneidboaaaRefAesKw
import Derived.Test.YtbkdlmneidboaaaReg
set_option linter.unusedVariables false
namespace Go.Proofs.Ytbkdlmneidboaaa
open Go.RowKit

theorem RBox_b (x : UInt8) (w : World) :
    Calls Try.prog 74 #[.int .u8 (x.toNat : Int)] w fun e w' => e = .returned (.int .u8 ((boxU x).toNat : Int)) ∧ Below w.heap.size w w' :=
  (RBox_any x w).mono fun _ _ ⟨h, q, hq⟩ => ⟨h, by subst hq; exact ⟨rfl, rfl, rfl, Nat.le_refl _, fun _ _ => rfl⟩⟩

set_option maxRecDepth 1000000 in
set_option maxHeartbeats 8000000 in
theorem RKeys_any (k : List UInt8) (w : World) (hk : k.length = 16) :
    Calls Try.prog 63 #[.agg (k.map bv).toArray] w fun e w' => e = .returned (.agg ((keysU k).map bv).toArray) ∧ Below w.heap.size w w' := by
  have hz1 := zero176
  have hz2 := zeroW
  have hc := cz_ne 175
  have Hrep := Lib.hid (cz_list 176)
  have Hk := Lib.hid hk
  have Hkl := Lib.hid (keysU_len hk)
  have Hf := Lib.hid (fun p hp => word_first (p := p) hk hp)
  have Hn := Lib.hid (fun i n h1 h2 h3 => word_next (i := i) (n := n) hk h1 h2 h3)
  clear hk
  generalize hF : keysU k = F at *
  have HF := Lib.hid hF
  clear hF
  generalize cz 176 = zs at *
  go_enter Try.func63, Try.ntmps63
  go_wp2_with fail
  have g0 := ((ArrB.mk_ w 23 _ k rfl rfl).alloc (.cells zs 87)).alloc (.cells zs 103)
  have g1 := (ArrB.mk_ (b := w.heap.size + 1) (w.alloc (.cells (k.map bv).toArray 23)) 87 zs (kU F 0) (by simp) (by rw [kU_zero]; exact Hrep.out)).alloc (.cells zs 103)
  have g2 := ArrB.mk_ (b := w.heap.size + 1 + 1) ((w.alloc (.cells (k.map bv).toArray 23)).alloc (.cells zs 87)) 103 zs (kU F 0) (by simp) (by rw [kU_zero]; exact Hrep.out)
  have hB0 := (((Below.refl w.heap.size w).alloc (Nat.le_refl _) (.cells (k.map bv).toArray 23)).alloc (al0 _ _) (.cells zs 87)).alloc (Nat.le_trans (al0 _ _) (al0 _ _)) (.cells zs 103)
  refine wp_gen (fun wx => ArrB wx w.heap.size 23 k ∧ ArrB wx (w.heap.size + 1) 87 (kU F 0) ∧ ArrB wx (w.heap.size + 1 + 1) 103 (kU F 0) ∧ Below w.heap.size w wx) ⟨g0, g1, g2, hB0⟩ ?_
  clear g0 g1 g2 hB0 hz2
  rintro w1 ⟨g0, g1, g2, hB⟩
  go_loopw [14] (fun i wr => ∃ j : Nat, j ≤ 4 ∧ i = .int .i64 (j : Int) ∧ ArrB wr w.heap.size 23 k ∧ ArrB wr (w.heap.size + 1) 87 (kU F 0) ∧ ArrB wr (w.heap.size + 1 + 1) 103 (kU F (j * 4)) ∧ Below w.heap.size w wr) (fun i _ => (4 - intOf i).toNat)
  case atStart => exact ⟨0, by omega, rfl, g0, g1, g2, hB⟩
  case round =>
    obtain ⟨j, hj, rfl, g0, g1, g2, hB⟩ := hrel
    by_cases hlt : j < 4
    · have c0 := g0.cell (at0_of (show 4 * j < k.length by rw [Hk.out]; omega))
      have c1 := g0.cell (at0_of (show 4 * j + 1 < k.length by rw [Hk.out]; omega))
      have c2 := g0.cell (at0_of (show 4 * j + 2 < k.length by rw [Hk.out]; omega))
      have c3 := g0.cell (at0_of (show 4 * j + 3 < k.length by rw [Hk.out]; omega))
      have hw0 := kU_word F j (by omega)
      have Ht := there_of g2 (o := j * 4) (n := 4) (by rw [kU_len]; omega)
      rw [Hf.out (j * 4) (by omega), Hf.out (j * 4 + 1) (by omega), Hf.out (j * 4 + 2) (by omega), Hf.out (j * 4 + 3) (by omega), show j * 4 = 4 * j by omega] at hw0
      generalize at0 k (4 * j) = x0 at *
      generalize at0 k (4 * j + 1) = x1 at *
      generalize at0 k (4 * j + 2) = x2 at *
      generalize at0 k (4 * j + 3) = x3 at *
      rw [show 4 * j = j * 4 by omega] at hw0
      have Hs := Lib.hid (g2.splice_ (cs := [x0, x1, x2, x3]) (by simp [kU_len]; omega) hw0)
      clear hw0
      have j0 : 0 ≤ (j : Int) := by omega
      have j1 : (j : Int) < 4 := by omega
      have v0 : IntKind.i64.wrap (4 * (j : Int)) = 4 * (j : Int) := IntWalk.i64_in _ (by omega)
      have v1 : IntKind.i64.wrap (4 * (j : Int) + 1) = 4 * (j : Int) + 1 := IntWalk.i64_in _ (by omega)
      have v2 : IntKind.i64.wrap (4 * (j : Int) + 2) = 4 * (j : Int) + 2 := IntWalk.i64_in _ (by omega)
      have v3 : IntKind.i64.wrap (4 * (j : Int) + 3) = 4 * (j : Int) + 3 := IntWalk.i64_in _ (by omega)
      have a0 : 0 ≤ 4 * (j : Int) := by omega
      have a1 : 4 * (j : Int) < 16 := by omega
      have a2 : 0 ≤ 4 * (j : Int) + 1 := by omega
      have a3 : 4 * (j : Int) + 1 < 16 := by omega
      have a4 : 0 ≤ 4 * (j : Int) + 2 := by omega
      have a5 : 4 * (j : Int) + 2 < 16 := by omega
      have a6 : 0 ≤ 4 * (j : Int) + 3 := by omega
      have a7 : 4 * (j : Int) + 3 < 16 := by omega
      have t0 : (4 * (j : Int)).toNat = 4 * j := by omega
      have t1 : (4 * (j : Int) + 1).toNat = 4 * j + 1 := by omega
      have t2 : (4 * (j : Int) + 2).toNat = 4 * j + 2 := by omega
      have t3 : (4 * (j : Int) + 3).toNat = 4 * j + 3 := by omega
      have j2 : (j : Int) < 44 := by omega
      go_wp2_with fail
      go_still_tail 22, (by kernel_rfl)
      change wpList _ _ _ _ _ wr.drew
      clear v0 v1 v2 v3 a0 a1 a2 a3 a4 a5 a6 a7 t0 t1 t2 t3 c0 c1 c2 c3
      go_wp2_with ((with_reducible show wpList _ _ _ (⟨none, Op.store 93 _ _, _, _, _, _⟩ :: _) _ _); refine wpList_store_mid rfl 93 (.tmp 38) (.tmp 37) rfl (w.heap.size + 1 + 1) (j * 4) ([x0, x1, x2, x3].map bv).toArray rfl rfl Ht (size4 rfl) (one_bvA _) ?_)
      have hB2 := below_setCells (show w.heap.size ≤ w.heap.size + 1 + 1 by omega) ([x0, x1, x2, x3].map bv) (j * 4) wr.drew hB.drew
      exact ⟨⟨j + 1, by omega, by go_num, (g0.drew).of (setCells_far _ _ (by omega) _ _ _), (g1.drew).of (setCells_far _ _ (by omega) _ _ _), Hs.out, hB2⟩, by simp [intOf]; omega⟩
    · obtain rfl : j = 4 := by omega
      rw [show ((4 : Nat) : Int) = 4 from rfl]
      clear Hf
      go_wp2_with fail
      go_loopw [5, 6] (fun m i wr => ∃ i' : Nat, 4 ≤ i' ∧ i' ≤ 44 ∧ i = .int .i64 (i' : Int) ∧ m = .int .u8 ((markU ((i' - 1) / 4)).toNat : Int) ∧ ArrB wr (w.heap.size + 1) 87 (kU F 0) ∧ ArrB wr (w.heap.size + 1 + 1) 103 (kU F (i' * 4)) ∧ Below w.heap.size w wr) (fun _ i _ => (44 - intOf i).toNat)
      case atStart => exact ⟨4, by omega, by omega, rfl, rfl, g1, g2, hB⟩
      case round =>
        obtain ⟨i, hi4, hi, rfl, rfl, g1, g2, hB⟩ := hrel
        obtain ⟨wo, rfl⟩ : ∃ wo, wo = wr := ⟨_, rfl⟩
        by_cases hlt2 : i < 44
        · have hg2 := g2.lt
          have hr := g2.mid (o := (i - 1) * 4) (cs := [at0 F ((i - 1) * 4 + 0), at0 F ((i - 1) * 4 + 1), at0 F ((i - 1) * 4 + 2), at0 F ((i - 1) * 4 + 3)])
            (four_at (P := fun j x => (kU F (i * 4))[(i - 1) * 4 + j]? = some x) (kU_done (by omega) (by omega)) (kU_done (by omega) (by omega)) (kU_done (by omega) (by omega)) (kU_done (by omega) (by omega)))
          have Ht0 := Lib.hid (show ∀ n, n < 4 → tW F i n = if i % 4 = 0 then boxU (at0 F ((i - 1) * 4 + (n + 1) % 4)) ^^^ (if n = 0 then markU ((i - 1) / 4) else 0) else at0 F ((i - 1) * 4 + n) from fun n hn => by unfold tW; rw [show 4 * (i - 1) = (i - 1) * 4 by omega])
          obtain ⟨x0, hx0⟩ : ∃ x, at0 F ((i - 1) * 4 + 0) = x := ⟨_, rfl⟩
          have Hx0 := Lib.hid hx0
          rw [hx0] at hr
          clear hx0
          obtain ⟨x1, hx1⟩ : ∃ x, at0 F ((i - 1) * 4 + 1) = x := ⟨_, rfl⟩
          have Hx1 := Lib.hid hx1
          rw [hx1] at hr
          clear hx1
          obtain ⟨x2, hx2⟩ : ∃ x, at0 F ((i - 1) * 4 + 2) = x := ⟨_, rfl⟩
          have Hx2 := Lib.hid hx2
          rw [hx2] at hr
          clear hx2
          obtain ⟨x3, hx3⟩ : ∃ x, at0 F ((i - 1) * 4 + 3) = x := ⟨_, rfl⟩
          have Hx3 := Lib.hid hx3
          rw [hx3] at hr
          clear hx3
          have k7 := ArrB.mk_ wo 93 #[bv x0, bv x1, bv x2, bv x3] [x0, x1, x2, x3] rfl rfl
          have k1 := g1.alloc (.cells #[bv x0, bv x1, bv x2, bv x3] 93)
          have k2 := g2.alloc (.cells #[bv x0, bv x1, bv x2, bv x3] 93)
          have hB' := hB.alloc hB.size (.cells #[bv x0, bv x1, bv x2, bv x3] 93)
          have j0 : 0 ≤ (i : Int) - 1 := by omega
          have j1 : (i : Int) - 1 < 44 := by omega
          have j2 : ((i : Int) - 1).toNat = i - 1 := by omega
          have j3 : (i : Int) < 44 := by omega
          have j4 : 0 ≤ (i : Int) := by omega
          have q1 : ((i : Int).tmod 4 == 0) = decide (i % 4 = 0) := by
            rw [Int.tmod_eq_emod_of_nonneg (by omega)]
            by_cases h : i % 4 = 0
            · rw [decide_eq_true h, show (i : Int) % 4 = 0 by omega]; rfl
            · rw [decide_eq_false h, beq_eq_false_iff_ne]; omega
          have q2 : ((i : Int) % 4 == 0) = decide (i % 4 = 0) := by
            by_cases h : i % 4 = 0
            · rw [decide_eq_true h, show (i : Int) % 4 = 0 by omega]; rfl
            · rw [decide_eq_false h, beq_eq_false_iff_ne]; omega
          by_cases h4 : i % 4 = 0
          · rw [decide_eq_true h4] at q1 q2
            go_wp2_with (first
              | ((with_reducible show wpList _ _ _ (⟨some 47, _, _, _, _, _⟩ :: _) _ _); refine wpList_load_mid rfl 93 (.tmp 46) rfl (w.heap.size + 1 + 1) ((i - 1) * 4) rfl ([x0, x1, x2, x3].map bv) _ hr Try.underlying93 rfl (size4L rfl) ?_)
              | ((with_reducible show wpList _ _ _ (⟨none, Op.store 93 _ _, _, _, _, _⟩ :: _) _ _); refine wpList_store_row rfl 93 (.tmp 7) (.tmp 47) rfl wo.heap.size ([x0, x1, x2, x3].map bv).toArray rfl rfl 93 _ (heap_alloc_new _ _) (size4 rfl) rfl (one_bvA _) ?_; rw [World.setRow_alloc_new]))
            have hg7 : w.heap.size + 1 + 1 < wo.heap.size := hg2
            have hl7 : wo.heap.size < (wo.alloc (.cells #[bv x0, bv x1, bv x2, bv x3] 93)).heap.size := k7.lt
            clear g1 g2 hB hr
            generalize wo.alloc (.cells #[bv x0, bv x1, bv x2, bv x3] 93) = w2 at *
            generalize wo.heap.size = g7 at *
            have Hmk := Lib.hid (show markU ((i + 1 - 1) / 4) = twU (markU ((i - 1) / 4)) by rw [show (i + 1 - 1) / 4 = (i - 1) / 4 + 1 by omega]; rfl)
            have hT0 := Ht0.out 0 (by omega)
            have hT1 := Ht0.out 1 (by omega)
            have hT2 := Ht0.out 2 (by omega)
            have hT3 := Ht0.out 3 (by omega)
            rw [if_pos h4] at hT0 hT1 hT2 hT3
            rw [if_pos rfl, show (0 + 1) % 4 = 1 from rfl] at hT0
            rw [if_neg (by omega), UInt8.xor_zero, show (1 + 1) % 4 = 2 from rfl] at hT1
            rw [if_neg (by omega), UInt8.xor_zero, show (2 + 1) % 4 = 3 from rfl] at hT2
            rw [if_neg (by omega), UInt8.xor_zero, show (3 + 1) % 4 = 0 from rfl] at hT3
            rw [Hx1.out] at hT0
            rw [Hx2.out] at hT1
            rw [Hx3.out] at hT2
            rw [Hx0.out] at hT3
            have HT0 := Lib.hid hT0
            have HT1 := Lib.hid hT1
            have HT2 := Lib.hid hT2
            have HT3 := Lib.hid hT3
            clear hT0 hT1 hT2 hT3 Ht0
            have c0 := k7.cell (i := 0) (x := x0) rfl
            have c1 := k7.cell (i := 1) (x := x1) rfl
            have c2 := k7.cell (i := 2) (x := x2) rfl
            have c3 := k7.cell (i := 3) (x := x3) rfl
            generalize markU ((i - 1) / 4) = mk at *
            go_wp2_with fail
            have hkeep : ∀ wx : World, Below w2.heap.size w2 wx → wx.cell? ⟨g7, 0, none⟩ = some (.int .u8 (x0.toNat : Int)) ∧ wx.cell? ⟨g7, 1, none⟩ = some (.int .u8 (x1.toNat : Int)) ∧ wx.cell? ⟨g7, 2, none⟩ = some (.int .u8 (x2.toNat : Int)) ∧ wx.cell? ⟨g7, 3, none⟩ = some (.int .u8 (x3.toNat : Int)) := fun wx hw =>
              ⟨(k7.below hw k7.lt).cell rfl, (k7.below hw k7.lt).cell rfl, (k7.below hw k7.lt).cell rfl, (k7.below hw k7.lt).cell rfl⟩
            refine beginT (fun wx => wx.cell? ⟨g7, 0, none⟩ = some (.int .u8 (x0.toNat : Int)) ∧ wx.cell? ⟨g7, 1, none⟩ = some (.int .u8 (x1.toNat : Int)) ∧ wx.cell? ⟨g7, 2, none⟩ = some (.int .u8 (x2.toNat : Int)) ∧ wx.cell? ⟨g7, 3, none⟩ = some (.int .u8 (x3.toNat : Int))) 15 (by kernel_rfl) ?_
            have hS := hkeep _ (c_drew (c_refl _))
            refine takeD 0 (some 51) (.pointer (some ⟨g7, 1, none⟩)) rfl rfl (by kernel_rfl) (by kernel_rfl) (by kernel_rfl) (by kernel_rfl) (fun _ _ _ h => h) (Or.inl ⟨by kernel_rfl, fun wx hSw => by (try dsimp only at hSw); go_simp⟩) hS ?_
            simp only [Act.put, List.setIfInBounds_toArray, List.set_cons_zero, List.set_cons_succ]
            refine takeD 1 (some 52) (.int .u8 (x1.toNat : Int)) rfl rfl (by kernel_rfl) (by kernel_rfl) (by kernel_rfl) (by kernel_rfl) (fun _ _ _ h => h) (Or.inl ⟨by kernel_rfl, fun wx hSw => by (try dsimp only at hSw); go_simp⟩) hS ?_
            simp only [Act.put, List.setIfInBounds_toArray, List.set_cons_zero, List.set_cons_succ]
            refine takeD 3 (some 54) (.int .u8 (mk.toNat : Int)) rfl rfl (by kernel_rfl) (by kernel_rfl) (by kernel_rfl) (by kernel_rfl) (fun _ _ _ h => h) (Or.inl ⟨by kernel_rfl, fun wx hSw => by (try dsimp only at hSw); go_simp⟩) hS ?_
            simp only [Act.put, List.setIfInBounds_toArray, List.set_cons_zero, List.set_cons_succ]
            refine takeD 5 (some 56) (.pointer (some ⟨g7, 2, none⟩)) rfl rfl (by kernel_rfl) (by kernel_rfl) (by kernel_rfl) (by kernel_rfl) (fun _ _ _ h => h) (Or.inl ⟨by kernel_rfl, fun wx hSw => by (try dsimp only at hSw); go_simp⟩) hS ?_
            simp only [Act.put, List.setIfInBounds_toArray, List.set_cons_zero, List.set_cons_succ]
            refine takeD 6 (some 57) (.int .u8 (x2.toNat : Int)) rfl rfl (by kernel_rfl) (by kernel_rfl) (by kernel_rfl) (by kernel_rfl) (fun _ _ _ h => h) (Or.inl ⟨by kernel_rfl, fun wx hSw => by (try dsimp only at hSw); go_simp⟩) hS ?_
            simp only [Act.put, List.setIfInBounds_toArray, List.set_cons_zero, List.set_cons_succ]
            refine takeD 8 (some 59) (.pointer (some ⟨g7, 3, none⟩)) rfl rfl (by kernel_rfl) (by kernel_rfl) (by kernel_rfl) (by kernel_rfl) (fun _ _ _ h => h) (Or.inl ⟨by kernel_rfl, fun wx hSw => by (try dsimp only at hSw); go_simp⟩) hS ?_
            simp only [Act.put, List.setIfInBounds_toArray, List.set_cons_zero, List.set_cons_succ]
            refine takeD 9 (some 60) (.int .u8 (x3.toNat : Int)) rfl rfl (by kernel_rfl) (by kernel_rfl) (by kernel_rfl) (by kernel_rfl) (fun _ _ _ h => h) (Or.inl ⟨by kernel_rfl, fun wx hSw => by (try dsimp only at hSw); go_simp⟩) hS ?_
            simp only [Act.put, List.setIfInBounds_toArray, List.set_cons_zero, List.set_cons_succ]
            refine takeD 11 (some 62) (.pointer (some ⟨g7, 0, none⟩)) rfl rfl (by kernel_rfl) (by kernel_rfl) (by kernel_rfl) (by kernel_rfl) (fun _ _ _ h => h) (Or.inl ⟨by kernel_rfl, fun wx hSw => by (try dsimp only at hSw); go_simp⟩) hS ?_
            simp only [Act.put, List.setIfInBounds_toArray, List.set_cons_zero, List.set_cons_succ]
            refine takeD 12 (some 63) (.int .u8 (x0.toNat : Int)) rfl rfl (by kernel_rfl) (by kernel_rfl) (by kernel_rfl) (by kernel_rfl) (fun _ _ _ h => h) (Or.inl ⟨by kernel_rfl, fun wx hSw => by (try dsimp only at hSw); go_simp⟩) hS ?_
            simp only [Act.put, List.setIfInBounds_toArray, List.set_cons_zero, List.set_cons_succ]
            refine oneT 2 (by kernel_rfl) rfl (fun K hK => ?_)
            go_simp
            refine (RBox_b x1 _).mono ?_
            rintro e wa ⟨rfl, hba⟩
            refine hK.out _ _ (fun _ => hkeep _ (by (repeat (first | exact c_refl _ | refine c_drew ?_ | refine c_alloc ?_ _ | refine c_row ?_ (by first | omega | exact Nat.le_refl _) _ | refine c_call ?_ (by assumption))); first | done | fail "open")) ?_
            clear hK K
            have hSa := hkeep wa (by (repeat (first | exact c_refl _ | refine c_drew ?_ | refine c_alloc ?_ _ | refine c_row ?_ (by first | omega | exact Nat.le_refl _) _ | refine c_call ?_ (by assumption))); first | done | fail "open")
            refine takeD 4 (some 55) (.int .u8 (bits .xor .u8 ((boxU x1).toNat : Int) (mk.toNat : Int))) rfl rfl (by kernel_rfl) (by kernel_rfl) (by kernel_rfl) (by kernel_rfl) (fun _ _ _ h => h) (Or.inl ⟨by kernel_rfl, fun wx hSw => by (try dsimp only at hSw); go_simp⟩) hSa ?_
            simp only [Act.put, List.setIfInBounds_toArray, List.set_cons_zero, List.set_cons_succ]
            rw [b_xor, ← HT0.out]
            refine oneT 7 (by kernel_rfl) rfl (fun K hK => ?_)
            go_simp
            refine (RBox_b x2 _).mono ?_
            rintro e wb ⟨rfl, hbb⟩
            refine hK.out _ _ (fun _ => hkeep _ (by (repeat (first | exact c_refl _ | refine c_drew ?_ | refine c_alloc ?_ _ | refine c_row ?_ (by first | omega | exact Nat.le_refl _) _ | refine c_call ?_ (by assumption))); first | done | fail "open")) ?_
            clear hK K
            rw [← HT1.out]
            refine oneT 10 (by kernel_rfl) rfl (fun K hK => ?_)
            go_simp
            refine (RBox_b x3 _).mono ?_
            rintro e wd ⟨rfl, hbd⟩
            refine hK.out _ _ (fun _ => hkeep _ (by (repeat (first | exact c_refl _ | refine c_drew ?_ | refine c_alloc ?_ _ | refine c_row ?_ (by first | omega | exact Nat.le_refl _) _ | refine c_call ?_ (by assumption))); first | done | fail "open")) ?_
            clear hK K
            rw [← HT2.out]
            refine oneT 13 (by kernel_rfl) rfl (fun K hK => ?_)
            go_simp
            refine (RBox_b x0 _).mono ?_
            rintro e we ⟨rfl, hbe⟩
            refine hK.out _ _ (fun _ => hkeep _ (by (repeat (first | exact c_refl _ | refine c_drew ?_ | refine c_alloc ?_ _ | refine c_row ?_ (by first | omega | exact Nat.le_refl _) _ | refine c_call ?_ (by assumption))); first | done | fail "open")) ?_
            clear hK K
            rw [← HT3.out]
            have hE : Below w2.heap.size w2 we := (by (repeat (first | exact c_refl _ | refine c_drew ?_ | refine c_alloc ?_ _ | refine c_row ?_ (by first | omega | exact Nat.le_refl _) _ | refine c_call ?_ (by assumption))); first | done | fail "open")
            have hSe := hkeep we hE
            have e7 := k7.below hE k7.lt
            generalize hy0 : tW F i 0 = y0 at *
            generalize hy1 : tW F i 1 = y1 at *
            generalize hy2 : tW F i 2 = y2 at *
            generalize hy3 : tW F i 3 = y3 at *
            refine takeD 14 (some 65) (.agg #[.int .u8 (y0.toNat : Int), .int .u8 (y1.toNat : Int), .int .u8 (y2.toNat : Int), .int .u8 (y3.toNat : Int)]) rfl rfl (by kernel_rfl) (by kernel_rfl) (by kernel_rfl) (by kernel_rfl) (fun _ _ _ h => h) (Or.inl ⟨by kernel_rfl, fun wx hSw => by (try dsimp only at hSw); go_simp⟩) hSe ?_
            simp only [Act.put, List.setIfInBounds_toArray, List.set_cons_zero, List.set_cons_succ]
            have e1 := k1.below hE k1.lt
            have e2 := k2.below hE k2.lt
            refine oneT 15 (by kernel_rfl) rfl (fun K hK => ?_)
            refine step_store_row rfl 93 (.tmp 7) (.tmp 65) rfl g7 ([y0, y1, y2, y3].map bv).toArray rfl rfl 93 ([x0, x1, x2, x3].map bv).toArray e7 (size4 rfl) rfl (one_bvA _) ?_
            refine hK.out _ _ (fun h => absurd rfl h) ?_
            clear hK K
            refine doneT (by kernel_rfl) ?_ _
            have k7e := e7.row [y0, y1, y2, y3]
            have k1e := e1.rowFar (g' := g7) (by omega) ([y0, y1, y2, y3].map bv).toArray
            have k2e := e2.rowFar (g' := g7) (by omega) ([y0, y1, y2, y3].map bv).toArray
            have hBe := below_setRow (hB'.trans (hE.mono hB'.size)) (show w.heap.size ≤ g7 by omega) ([y0, y1, y2, y3].map bv).toArray
            go_wp2_with fail
            refine (RMul_2r mk _).mono ?_
            rintro e w5 ⟨rfl, rfl⟩
            rw [← hy0, ← hy1, ← hy2, ← hy3] at k7e k1e k2e hBe
            rw [← hy0, ← hy1, ← hy2, ← hy3]
            have hl8 := k7e.lt
            clear k7 k1 k2 hB' hE hSe e7 e1 e2 hS hSa hba hbb hbd hbe hkeep HT0 HT1 HT2 HT3 hy0 hy1 hy2 hy3
            skip
            go_wp2_with fail
            refine wp_gen (fun wx => ArrB wx g7 93 [tW F i 0, tW F i 1, tW F i 2, tW F i 3] ∧ ArrB wx (w.heap.size + 1) 87 (kU F 0) ∧ ArrB wx (w.heap.size + 1 + 1) 103 (kU F (i * 4)) ∧ Below w.heap.size w wx) ⟨k7e, k1e, k2e, hBe⟩ ?_
            clear k7e k1e k2e hBe
            rintro w6 ⟨k7, k1, k2, hB'⟩
            go_loopw [68] (fun n wr => ∃ n' : Nat, n' ≤ 4 ∧ n = .int .i64 (n' : Int) ∧ ArrB wr (w.heap.size + 1) 87 (kU F 0) ∧ ArrB wr (w.heap.size + 1 + 1) 103 (kU F (i * 4 + n')) ∧ ArrB wr g7 93 [tW F i 0, tW F i 1, tW F i 2, tW F i 3] ∧ Below w.heap.size w wr) (fun n _ => (4 - intOf n).toNat)
            case atStart => exact ⟨0, by omega, rfl, k1, k2, k7, hB'⟩
            case round =>
              obtain ⟨n, hn, rfl, k1, k2, k7, hB'⟩ := hrel
              by_cases hlt3 : n < 4
              · have cw := k2.cell (kU_done (F := F) (p := (i - 4) * 4 + n) (show (i - 4) * 4 + n < i * 4 + n by omega) (by omega))
                have ct := k7.cell (i := n) (x := tW F i n) (by rcases (show n = 0 ∨ n = 1 ∨ n = 2 ∨ n = 3 by omega) with rfl | rfl | rfl | rfl <;> rfl)
                have cd := k2.cell (kU_old (F := F) (show i * 4 + n < 176 by omega))
                have fd := k2.frozen (i * 4 + n)
                have hs := k2.set_ (i * 4 + n) (at0 F (i * 4 + n))
                rw [kU_set] at hs
                have Hx := Lib.hid (show at0 F (i * 4 + n) = at0 F ((i - 4) * 4 + n) ^^^ tW F i n by have := Hn.out i n hi4 hlt2 hlt3; rwa [show 4 * i + n = i * 4 + n by omega, show 4 * (i - 4) + n = (i - 4) * 4 + n by omega] at this)
                have Hl7 := Lib.hid (show [tW F i 0, tW F i 1, tW F i 2, tW F i 3] = [tW F i 0, tW F i 1, tW F i 2, tW F i 3] from rfl)
                generalize tW F i n = tn at *
                generalize at0 F ((i - 4) * 4 + n) = wn at *
                have m0 : 0 ≤ (n : Int) := by omega
                have m1 : (n : Int) < 4 := by omega
                have m2 : 0 ≤ (i : Int) - 4 := by omega
                have m3 : (i : Int) - 4 < 44 := by omega
                have m6 : (4 : Int) ≤ (i : Int) := by omega
                have m7 : (i : Int) < 48 := by omega
                have m4 : ((i : Int) - 4).toNat = i - 4 := by omega
                have m5 : IntKind.i64.wrap ((i : Int) - 4) = (i : Int) - 4 := IntWalk.i64_in _ (by omega)
                go_wp2_with fail
                go_still_tail 14, (by kernel_rfl)
                change wpList _ _ _ _ _ wr.drew
                rw [b_xor, ← Hx.out]
                clear cw ct m5
                go_wp2_with fail
                exact ⟨⟨n + 1, by omega, by go_num, (k1.far (by simp; try omega) _).drew, hs.drew, (k7.far (by simp; try omega) _).drew, (hB'.setCell (by simp; try omega) _).drew⟩, by simp [intOf]; omega⟩
              · obtain rfl : n = 4 := by omega
                rw [show ((4 : Nat) : Int) = 4 from rfl]
                go_wp2_with fail
                exact ⟨⟨i + 1, by omega, by omega, by go_num, by rw [Hmk.out], k1, by rw [show (i + 1) * 4 = i * 4 + 4 by omega]; exact k2, hB'⟩, by simp [intOf]; omega⟩
          · rw [decide_eq_false h4] at q1 q2
            go_wp2_with (first
              | ((with_reducible show wpList _ _ _ (⟨some 47, _, _, _, _, _⟩ :: _) _ _); refine wpList_load_mid rfl 93 (.tmp 46) rfl (w.heap.size + 1 + 1) ((i - 1) * 4) rfl ([x0, x1, x2, x3].map bv) _ hr Try.underlying93 rfl (size4L rfl) ?_)
              | ((with_reducible show wpList _ _ _ (⟨none, Op.store 93 _ _, _, _, _, _⟩ :: _) _ _); refine wpList_store_row rfl 93 (.tmp 7) (.tmp 47) rfl wo.heap.size ([x0, x1, x2, x3].map bv).toArray rfl rfl 93 _ (heap_alloc_new _ _) (size4 rfl) rfl (one_bvA _) ?_; rw [World.setRow_alloc_new]))
            have hg7 : w.heap.size + 1 + 1 < wo.heap.size := hg2
            have hl7 : wo.heap.size < (wo.alloc (.cells #[bv x0, bv x1, bv x2, bv x3] 93)).heap.size := k7.lt
            clear g1 g2 hB hr
            generalize wo.alloc (.cells #[bv x0, bv x1, bv x2, bv x3] 93) = w2 at *
            generalize wo.heap.size = g7 at *
            have Hmk := Lib.hid (show markU ((i + 1 - 1) / 4) = markU ((i - 1) / 4) by rw [show (i + 1 - 1) / 4 = (i - 1) / 4 by omega])
            have hT0 := Ht0.out 0 (by omega)
            have hT1 := Ht0.out 1 (by omega)
            have hT2 := Ht0.out 2 (by omega)
            have hT3 := Ht0.out 3 (by omega)
            rw [if_neg h4] at hT0 hT1 hT2 hT3
            rw [Hx0.out] at hT0
            rw [Hx1.out] at hT1
            rw [Hx2.out] at hT2
            rw [Hx3.out] at hT3
            rw [← hT0, ← hT1, ← hT2, ← hT3] at k7
            clear hT0 hT1 hT2 hT3 Ht0
            go_wp2_with fail
            go_loopw [68] (fun n wr => ∃ n' : Nat, n' ≤ 4 ∧ n = .int .i64 (n' : Int) ∧ ArrB wr (w.heap.size + 1) 87 (kU F 0) ∧ ArrB wr (w.heap.size + 1 + 1) 103 (kU F (i * 4 + n')) ∧ ArrB wr g7 93 [tW F i 0, tW F i 1, tW F i 2, tW F i 3] ∧ Below w.heap.size w wr) (fun n _ => (4 - intOf n).toNat)
            case atStart => exact ⟨0, by omega, rfl, k1, k2, k7, hB'⟩
            case round =>
              obtain ⟨n, hn, rfl, k1, k2, k7, hB'⟩ := hrel
              by_cases hlt3 : n < 4
              · have cw := k2.cell (kU_done (F := F) (p := (i - 4) * 4 + n) (show (i - 4) * 4 + n < i * 4 + n by omega) (by omega))
                have ct := k7.cell (i := n) (x := tW F i n) (by rcases (show n = 0 ∨ n = 1 ∨ n = 2 ∨ n = 3 by omega) with rfl | rfl | rfl | rfl <;> rfl)
                have cd := k2.cell (kU_old (F := F) (show i * 4 + n < 176 by omega))
                have fd := k2.frozen (i * 4 + n)
                have hs := k2.set_ (i * 4 + n) (at0 F (i * 4 + n))
                rw [kU_set] at hs
                have Hx := Lib.hid (show at0 F (i * 4 + n) = at0 F ((i - 4) * 4 + n) ^^^ tW F i n by have := Hn.out i n hi4 hlt2 hlt3; rwa [show 4 * i + n = i * 4 + n by omega, show 4 * (i - 4) + n = (i - 4) * 4 + n by omega] at this)
                have Hl7 := Lib.hid (show [tW F i 0, tW F i 1, tW F i 2, tW F i 3] = [tW F i 0, tW F i 1, tW F i 2, tW F i 3] from rfl)
                generalize tW F i n = tn at *
                generalize at0 F ((i - 4) * 4 + n) = wn at *
                have m0 : 0 ≤ (n : Int) := by omega
                have m1 : (n : Int) < 4 := by omega
                have m2 : 0 ≤ (i : Int) - 4 := by omega
                have m3 : (i : Int) - 4 < 44 := by omega
                have m6 : (4 : Int) ≤ (i : Int) := by omega
                have m7 : (i : Int) < 48 := by omega
                have m4 : ((i : Int) - 4).toNat = i - 4 := by omega
                have m5 : IntKind.i64.wrap ((i : Int) - 4) = (i : Int) - 4 := IntWalk.i64_in _ (by omega)
                go_wp2_with fail
                go_still_tail 14, (by kernel_rfl)
                change wpList _ _ _ _ _ wr.drew
                rw [b_xor, ← Hx.out]
                clear cw ct m5
                go_wp2_with fail
                exact ⟨⟨n + 1, by omega, by go_num, (k1.far (by simp; try omega) _).drew, hs.drew, (k7.far (by simp; try omega) _).drew, (hB'.setCell (by simp; try omega) _).drew⟩, by simp [intOf]; omega⟩
              · obtain rfl : n = 4 := by omega
                rw [show ((4 : Nat) : Int) = 4 from rfl]
                go_wp2_with fail
                exact ⟨⟨i + 1, by omega, by omega, by go_num, by rw [Hmk.out], k1, by rw [show (i + 1) * 4 = i * 4 + 4 by omega]; exact k2, hB'⟩, by simp [intOf]; omega⟩
        · obtain rfl : i = 44 := by omega
          rw [show ((44 : Nat) : Int) = 44 from rfl]
          rw [show 44 * 4 = 176 from rfl, kU_all Hkl.out] at g2
          have g9 := ArrB.mk_ wo 87 zs (kU F 0) rfl (by rw [kU_zero]; exact Hrep.out)
          have k1 := g1.alloc (.cells zs 87)
          have k2 := g2.alloc (.cells zs 87)
          have hB' := hB.alloc hB.size (.cells zs 87)
          have hg9 : w.heap.size + 1 + 1 < wo.heap.size := g2.lt
          have sW : (Try.prog.info? 103).map (·.size) = some (F.map bv).toArray.size := by rw [sizeW, List.size_toArray, List.length_map, Hkl.out]
          have si2 : (Try.prog.info? 87).map (·.size) = some (F.map bv).toArray.size := by rw [size176, List.size_toArray, List.length_map, Hkl.out]
          have sj : (((kU F 0).map bv).toArray).size = (F.map bv).toArray.size := by rw [List.size_toArray, List.size_toArray, List.length_map, List.length_map, Hkl.out, kU_len]
          have Hx4 := Lib.hid (fun (i : Nat) (hi : i < 44) => ext4 Hkl.out hi)
          have SI2 := Lib.hid si2
          have SJ := Lib.hid sj
          clear si2 sj
          clear g1 g2 hB
          go_wp2_with ((with_reducible show wpList _ _ _ (⟨some 86, _, _, _, _, _⟩ :: _) _ _); refine wpList_load_row rfl 103 (.tmp 3) rfl (w.heap.size + 1 + 1) rfl 103 (F.map bv).toArray (0, 0) _ k2 Try.underlying103 rfl sW ?_)
          refine wp_gen (fun wx => ArrB wx wo.heap.size 87 (kU F 0) ∧ ArrB wx (w.heap.size + 1) 87 (kU F 0) ∧ Below w.heap.size w wx) ⟨g9, k1, hB'⟩ ?_
          clear g9 k1 k2 hB' sW hz1 hc
          generalize wo.heap.size = g9' at *
          generalize hFA : (F.map bv).toArray = FA at *
          have HFA := Lib.hid hFA
          clear hFA
          rintro w3 ⟨k9, k1, hB'⟩
          go_loopw [87] (fun i wr => ∃ j : Nat, j ≤ 44 ∧ i = .int .i64 (j : Int) ∧ ArrB wr g9' 87 (kU F (j * 4)) ∧ ArrB wr (w.heap.size + 1) 87 (kU F 0) ∧ Below w.heap.size w wr) (fun i _ => (44 - intOf i).toNat)
          case atStart => exact ⟨0, by omega, rfl, k9, k1, hB'⟩
          case round =>
            obtain ⟨i, hi, rfl, k9, k1, hB'⟩ := hrel
            obtain ⟨wo, rfl⟩ : ∃ wo, wo = wr := ⟨_, rfl⟩
            by_cases hlt4 : i < 44
            · have he := Hx4.out i hlt4
              have Hy := Lib.hid (show ∀ n, n < 4 → ∀ x, [at0 F (i * 4 + 0), at0 F (i * 4 + 1), at0 F (i * 4 + 2), at0 F (i * 4 + 3)][n]? = some x → x = at0 F (i * 4 + n) from fun n hn => four_at (P := fun n x => x = at0 F (i * 4 + n)) rfl rfl rfl rfl n)
              generalize at0 F (i * 4 + 0) = x0 at *
              generalize at0 F (i * 4 + 1) = x1 at *
              generalize at0 F (i * 4 + 2) = x2 at *
              generalize at0 F (i * 4 + 3) = x3 at *
              have k11 := ArrB.mk_ wo 93 #[bv x0, bv x1, bv x2, bv x3] [x0, x1, x2, x3] rfl rfl
              have k9a := k9.alloc (.cells #[bv x0, bv x1, bv x2, bv x3] 93)
              have k1a := k1.alloc (.cells #[bv x0, bv x1, bv x2, bv x3] 93)
              have hBa := hB'.alloc hB'.size (.cells #[bv x0, bv x1, bv x2, bv x3] 93)
              have hl9 := k9.lt
              have j0 : 0 ≤ (i : Int) := by omega
              have j1 : (i : Int) < 44 := by omega
              go_wp2_with (first
                | ((with_reducible show wpList _ _ _ (⟨some 90, _, _, _, _, _⟩ :: _) _ _); refine wpList_index_row rfl (some 90) rfl (.tmp 86) (.tmp 87) rfl FA rfl i rfl #[bv x0, bv x1, bv x2, bv x3] he rfl hlt4 ?_)
                | ((with_reducible show wpList _ _ _ (⟨some 91, _, _, _, _, _⟩ :: _) _ _); refine wpList_load_row rfl 93 (.tmp 11) rfl wo.heap.size rfl 93 #[bv x0, bv x1, bv x2, bv x3] (0, 0) _ k11 Try.underlying93 rfl (size4 (l := [x0, x1, x2, x3]) rfl) ?_)
                | ((with_reducible show wpList _ _ _ (⟨none, Op.store 93 _ _, _, _, _, _⟩ :: _) _ _); refine wpList_store_row rfl 93 (.tmp 11) (.tmp 90) rfl wo.heap.size #[bv x0, bv x1, bv x2, bv x3] rfl rfl 93 _ (heap_alloc_new _ _) (size4 (l := [x0, x1, x2, x3]) rfl) rfl (one_bvA [x0, x1, x2, x3]) ?_; rw [World.setRow_alloc_new]))
              refine wp_gen (fun wx => ArrB wx g9' 87 (kU F (i * 4)) ∧ ArrB wx (w.heap.size + 1) 87 (kU F 0) ∧ Below w.heap.size w wx) ⟨k9a, k1a, hBa⟩ ?_
              clear k11 k9a k1a hBa he
              rintro w4 ⟨k9, k1, hB'⟩
              generalize wo.heap.size = g11 at *
              obtain ⟨i8, hi8⟩ := byte_info
              go_loopw [92] (fun n wr => ∃ n' : Nat, n' ≤ 4 ∧ n = .int .i64 (n' : Int) ∧ ArrB wr g9' 87 (kU F (i * 4 + n')) ∧ ArrB wr (w.heap.size + 1) 87 (kU F 0) ∧ Below w.heap.size w wr) (fun n _ => (4 - intOf n).toNat)
              case atStart => exact ⟨0, by omega, rfl, k9, k1, hB'⟩
              case round =>
                obtain ⟨n, hn, rfl, k9, k1, hB'⟩ := hrel
                by_cases hlt5 : n < 4
                · have ho : i / 4 * 16 + (4 * (i % 4) + n) = i * 4 + n := by omega
                  have cd := k9.cell (kU_old (F := F) (show i * 4 + n < 176 by omega))
                  have fd := k9.frozen (i * 4 + n)
                  have hs := k9.set_ (i * 4 + n) (at0 F (i * 4 + n))
                  rw [kU_set] at hs
                  obtain ⟨x, hx⟩ : ∃ x, [x0, x1, x2, x3][n]? = some x := ⟨_, List.getElem?_eq_getElem (by simpa using hlt5)⟩
                  have hxe := Hy.out n hlt5 x hx
                  have hix : (#[bv x0, bv x1, bv x2, bv x3])[n]? = some (.int .u8 (x.toNat : Int)) := by
                    have : (([x0, x1, x2, x3].map bv).toArray)[n]? = some (bv x) := by simp only [List.getElem?_toArray, List.getElem?_map, hx]; rfl
                    exact this
                  rw [← hxe] at hs
                  have Hs := Lib.hid hs
                  clear hs hx hxe
                  have m0 : 0 ≤ (n : Int) := by omega
                  have m1 : (n : Int) < 4 := by omega
                  have m2 : (i : Int) / 4 < 11 := by omega
                  have m3 : 4 * ((i : Int) % 4) + (n : Int) < 16 := by omega
                  have m4 : 0 ≤ 4 * ((i : Int) % 4) + (n : Int) := by omega
                  have m5 : (4 * ((i : Int) % 4) + (n : Int)).toNat = 4 * (i % 4) + n := by omega
                  go_wp2_with ((with_reducible show wpList _ _ _ (⟨some 95, _, _, _, _, _⟩ :: _) _ _); refine wpList_index_cell rfl (some 95) rfl 93 (.tmp 91) (.tmp 92) rfl #[bv x0, bv x1, bv x2, bv x3] rfl n rfl 4 5 Try.underlying93 byte_plain i8 hi8 byteCells _ hix hlt5 ?_)
                  exact ⟨⟨n + 1, by omega, by go_num, Hs.out, k1.far (by simp; try omega) _, hB'.setCell (by simp; try omega) _⟩, by simp [intOf]; omega⟩
                · obtain rfl : n = 4 := by omega
                  rw [show ((4 : Nat) : Int) = 4 from rfl]
                  go_wp2_with fail
                  exact ⟨⟨i + 1, by omega, by go_num, by rw [show (i + 1) * 4 = i * 4 + 4 by omega]; exact k9, k1, hB'⟩, by simp [intOf]; omega⟩
            · obtain rfl : i = 44 := by omega
              rw [show ((44 : Nat) : Int) = 44 from rfl]
              rw [show 44 * 4 = 176 from rfl, kU_all Hkl.out] at k9
              go_wp2_with (first
                | ((with_reducible show wpList _ _ _ (⟨some 108, _, _, _, _, _⟩ :: _) _ _); refine wpList_load_row rfl 87 (.tmp 9) rfl g9' rfl 87 (F.map bv).toArray (0, 0) _ k9 Try.underlying87 rfl (by rw [HFA.out]; exact SI2.out) ?_)
                | ((with_reducible show wpList _ _ _ (⟨none, Op.store 87 _ _, _, _, _, _⟩ :: _) _ _); refine wpList_store_row rfl 87 (.tmp 2) (.tmp 108) rfl (w.heap.size + 1) (F.map bv).toArray rfl rfl 87 _ k1 (by rw [HFA.out]; exact SI2.out) (by rw [HFA.out]; exact SJ.out) (one_bvA _) ?_))
              exact bodyPost_ret (results_cell_row rfl _ _ (w.heap.size + 1) 87 _ (0, 0) _ rfl (k1.row F) Try.underlying87 rfl (by rw [HFA.out]; exact SI2.out)) rfl ⟨rfl, below_setRow hB' (by omega) _⟩

end Go.Proofs.Ytbkdlmneidboaaa
