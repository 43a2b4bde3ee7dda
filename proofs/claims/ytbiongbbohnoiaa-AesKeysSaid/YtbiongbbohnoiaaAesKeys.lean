/-
  THE WALK of AesKeys (coterielaw04).
-/
import Derived.Test.YtbiongbbohnoiaaAesEq
import Derived.Test.YtbiongbbohnoiaaRefAesD
set_option linter.unusedVariables false
namespace Go.Proofs.Ytbiongbbohnoiaa
open Go.RowKit

theorem next_high {was : List UInt8} {mark : UInt8} {i : Nat} (h4 : 4 ≤ i) (hi : i < 16) : at0 (nextU was mark) i = at0 was i ^^^ at0 (nextU was mark) (i - 4) := by
  have e1 : at0 (nextU was mark) i = wordK was mark (i / 4 - 1 + 1) (i % 4) ^^^ at0 was i := by
    rw [nextU, at0_map (nextF was mark) hi]
    unfold nextF
    rw [show i / 4 + 1 = (i / 4 - 1 + 1) + 1 by omega, wordK, show i % 4 + 4 * (i / 4 - 1 + 1) = i by omega]
  have e2 : at0 (nextU was mark) (i - 4) = wordK was mark (i / 4 - 1 + 1) (i % 4) := by
    rw [nextU, at0_map (nextF was mark) (by omega)]
    unfold nextF
    rw [show (i - 4) / 4 = i / 4 - 1 by omega, show (i - 4) % 4 = i % 4 by omega]
  rw [e1, e2, UInt8.xor_comm]
theorem next_low {was : List UInt8} {mark : UInt8} {i : Nat} (hi : i < 4) : at0 (nextU was mark) i = (at0 was i ^^^ boxU (at0 was (12 + (i + 1) % 4))) ^^^ (if i = 0 then mark else 0) := by
  rw [nextU, at0_map (nextF was mark) (by omega)]
  unfold nextF
  rw [show i / 4 + 1 = 0 + 1 by omega, show i % 4 = i by omega, wordK, wordK, show i + 4 * 0 = i by omega, UInt8.xor_comm, UInt8.xor_assoc]

set_option maxRecDepth 1000000 in
set_option maxHeartbeats 4000000 in
theorem walk_AesKeys (k : List UInt8) (w : World) (hk : k.length = 16) :
    Calls Try.prog 7 #[.agg (k.map bv).toArray] w fun e w' => e = .returned (.bool true) ∧ Below w.heap.size w w' := by
  have hz1 := zero176
  have hc := cz_ne 175
  have Hrep := Lib.hid (cz_list 176)
  have Hk := Lib.hid hk
  have Hkl := Lib.hid (keysU_len hk)
  have Hmid := Lib.hid (fun (wx : World) (g : Nat) (t : TypeId) (h : ArrB wx g t (keysU k)) (i : Nat) (hi : i < 11) => keys_mid hk h hi)
  clear hk
  generalize cz 176 = zs at *
  go_enter Try.func7, Try.ntmps7
  go_wp2_with fail
  have g0 := ArrB.mk_ w 23 _ k rfl rfl
  have hB0 := (Below.refl w.heap.size w).alloc (Nat.le_refl _) (.cells (k.map bv).toArray 23)
  refine calls_gen (fun wx => ArrB wx w.heap.size 23 k ∧ Below w.heap.size w wx) ⟨g0, hB0⟩ ?_
  clear g0 hB0
  rintro w0 ⟨g0, hB0⟩
  refine (live04 _).mono ?_
  rintro e w1 ⟨rfl, hb1⟩
  have g1 := g0.below hb1 g0.lt
  have hB1 : Below w.heap.size w w1 := hB0.trans (hb1.mono hB0.size)
  clear g0 hB0 hb1
  go_wp2_with ((with_reducible show wpList _ _ _ (⟨some 15, _, _, _, _, _⟩ :: _) _ _); refine wpList_load_row rfl 23 (.tmp 1) rfl w.heap.size rfl 23 (k.map bv).toArray (0, 0) _ g1 Try.underlying23 rfl (size16 Hk.out) ?_)
  refine (Keys_any k _ Hk.out).mono ?_
  rintro e w2 ⟨rfl, hb2⟩
  have e1 := g1.below hb2 g1.lt
  have hB2 := hB1.trans (hb2.mono hB1.size)
  clear g1 hB1 hb2
  have si2 : (Try.prog.info? 26).map (·.size) = some ((keysU k).map bv).toArray.size := by rw [size176, List.size_toArray, List.length_map, Hkl.out]
  have sj : zs.size = ((keysU k).map bv).toArray.size := by rw [← Hrep.out, List.size_toArray, List.size_toArray, List.length_map, List.length_map, Hkl.out, List.length_replicate]
  have k4 := ArrB.mk_ w2 26 _ (keysU k) rfl rfl
  have e1' := e1.alloc (.cells ((keysU k).map bv).toArray 26)
  have hB2' := hB2.alloc hB2.size (.cells ((keysU k).map bv).toArray 26)
  have hr0 := Hmid.out _ _ _ k4 0 (by omega)
  have hl1 := e1.lt
  have hq := fun wx : World => eql_row wx 9998 k Hk.out
  go_wp2_with (first
    | ((with_reducible show wpList _ _ _ (⟨none, Op.store 26 _ _, _, _, _, _⟩ :: _) _ _); refine wpList_store_row rfl 26 (.tmp 4) (.tmp 16) rfl w2.heap.size ((keysU k).map bv).toArray rfl rfl 26 zs (heap_alloc_new _ _) si2 sj (one_bvA _) ?_; rw [World.setRow_alloc_new])
    | ((with_reducible show wpList _ _ _ (⟨some 18, _, _, _, _, _⟩ :: _) _ _); refine wpList_load_mid rfl 23 (.tmp 17) rfl w2.heap.size 0 rfl (k.map bv) _ hr0 Try.underlying23 rfl (size16L Hk.out) ?_)
    | ((with_reducible show wpList _ _ _ (⟨some 19, _, _, _, _, _⟩ :: _) _ _); refine wpList_load_row rfl 23 (.tmp 1) rfl w.heap.size rfl 23 (k.map bv).toArray (0, 0) _ e1' Try.underlying23 rfl (size16 Hk.out) ?_))
  refine wp_gen (fun wx => ArrB wx w2.heap.size 26 (keysU k) ∧ Below w.heap.size w wx) ⟨k4, hB2'⟩ ?_
  clear k4 e1 e1' hB2 hB2' hr0 si2 sj hz1 hc Hrep hq
  generalize w2.heap.size = g4 at *
  rintro w3 ⟨k4, hB⟩
  go_loopw [5, 6] (fun m j wr => ∃ j' : Nat, 1 ≤ j' ∧ j' ≤ 11 ∧ j = .int .i64 (j' : Int) ∧ m = .int .u8 ((markU (j' - 1)).toNat : Int) ∧ ArrB wr g4 26 (keysU k) ∧ Below w.heap.size w wr) (fun _ j _ => (11 - intOf j).toNat)
  case atStart => exact ⟨1, by omega, by omega, rfl, rfl, k4, hB⟩
  case round =>
    obtain ⟨j, hj1, hj, rfl, rfl, k4, hB⟩ := hrel
    obtain ⟨wo, rfl⟩ : ∃ wo, wo = wr := ⟨_, rfl⟩
    by_cases hlt : j < 11
    · have hra := Hmid.out _ _ _ k4 (j - 1) (by omega)
      have hrb := fun (wx : World) (h : ArrB wx g4 26 (keysU k)) => Hmid.out wx g4 _ h j (by omega)
      have Hm := Lib.hid (show markU (j + 1 - 1) = twU (markU (j - 1)) by rw [show j + 1 - 1 = (j - 1) + 1 by omega]; rfl)
      have hnx : keyU k j = nextU (keyU k (j - 1)) (markU (j - 1)) := by
        obtain ⟨n, rfl⟩ : ∃ n, j = n + 1 := ⟨j - 1, by omega⟩
        rfl
      have Hh := Lib.hid (fun (i : Nat) (h4 : 4 ≤ i) (hi : i < 16) => show at0 (keyU k j) i = at0 (keyU k (j - 1)) i ^^^ at0 (keyU k j) (i - 4) by rw [hnx]; exact next_high h4 hi)
      have Hlo := Lib.hid (fun (i : Nat) (hi : i < 4) => show at0 (keyU k j) i = (at0 (keyU k (j - 1)) i ^^^ boxU (at0 (keyU k (j - 1)) (12 + (i + 1) % 4))) ^^^ (if i = 0 then markU (j - 1) else 0) by rw [hnx]; exact next_low hi)
      have Hwl := Lib.hid (keyU_len Hk.out (j - 1))
      have Hnl := Lib.hid (keyU_len Hk.out j)
      clear hnx
      generalize keyU k (j - 1) = was at *
      generalize keyU k j = now at *
      generalize markU (j - 1) = mk at *
      have j0 : 0 ≤ (j : Int) := by omega
      have j1 : (j : Int) < 11 := by omega
      have j2 : (j : Int) ≤ 10 := by omega
      have j3 : 0 ≤ (j : Int) - 1 := by omega
      have j4 : (j : Int) - 1 < 11 := by omega
      have j5 : ((j : Int) - 1).toNat = j - 1 := by omega
      have j6 : (1 : Int) ≤ (j : Int) := by omega
      have hl4 := k4.lt
      have wa := ArrB.mk_ wo 23 _ was rfl rfl
      have ka := k4.alloc (.cells (was.map bv).toArray 23)
      have hBa := hB.alloc hB.size (.cells (was.map bv).toArray 23)
      have nb := ArrB.mk_ (b := wo.heap.size + 1) (wo.alloc (.cells (was.map bv).toArray 23)) 23 _ now (by simp) rfl
      have wb := wa.alloc (.cells (now.map bv).toArray 23)
      have kb := ka.alloc (.cells (now.map bv).toArray 23)
      have hBb := hBa.alloc hBa.size (.cells (now.map bv).toArray 23)
      go_wp2_with (first
        | ((with_reducible show wpList _ _ _ (⟨some 28, _, _, _, _, _⟩ :: _) _ _); refine wpList_load_mid rfl 23 (.tmp 27) rfl g4 ((j - 1) * 16) rfl (was.map bv) _ hra Try.underlying23 rfl (size16L Hwl.out) ?_)
        | ((with_reducible show wpList _ _ _ (⟨none, Op.store 23 (.tmp 7) _, _, _, _, _⟩ :: _) _ _); refine wpList_store_row rfl 23 (.tmp 7) (.tmp 28) rfl wo.heap.size (was.map bv).toArray rfl rfl 23 (zero16.map bv).toArray (heap_alloc_new _ _) (size16 Hwl.out) (same16 Hwl.out zero16_len) (one_bvA _) ?_; rw [World.setRow_alloc_new])
        | ((with_reducible show wpList _ _ _ (⟨some 31, _, _, _, _, _⟩ :: _) _ _); refine wpList_load_mid rfl 23 (.tmp 30) rfl g4 (j * 16) rfl (now.map bv) _ (hrb _ ka) Try.underlying23 rfl (size16L Hnl.out) ?_)
        | ((with_reducible show wpList _ _ _ (⟨none, Op.store 23 (.tmp 8) _, _, _, _, _⟩ :: _) _ _); refine wpList_store_row rfl 23 (.tmp 8) (.tmp 31) rfl (wo.heap.size + 1) (now.map bv).toArray rfl rfl 23 (zero16.map bv).toArray (heap_new (by simp) _) (size16 Hnl.out) (same16 Hnl.out zero16_len) (one_bvA _) ?_; rw [setRow_new (by simp)]))
      refine wp_gen (fun wx => ArrB wx wo.heap.size 23 was ∧ ArrB wx (wo.heap.size + 1) 23 now ∧ ArrB wx g4 26 (keysU k) ∧ Below w.heap.size w wx) ⟨wb, nb, kb, hBb⟩ ?_
      clear wa nb ka hBa wb kb hBb hra hrb j3 j4 j5 j6 Hmid
      generalize wo.heap.size = g7 at *
      rintro w4 ⟨kw, kn, kk, hB'⟩
      go_loopw [9] (fun i wr => ∃ i' : Nat, 4 ≤ i' ∧ i' ≤ 16 ∧ i = .int .i64 (i' : Int) ∧ ArrB wr g7 23 was ∧ ArrB wr (g7 + 1) 23 now ∧ ArrB wr g4 26 (keysU k) ∧ Below w.heap.size w wr) (fun i _ => (16 - intOf i).toNat)
      case atStart => exact ⟨4, by omega, by omega, rfl, kw, kn, kk, hB'⟩
      case round =>
        obtain ⟨i, hi4, hi, rfl, kw, kn, kk, hB'⟩ := hrel
        by_cases hlt2 : i < 16
        · have c0 := kn.cell (at0_of (show i < now.length by rw [Hnl.out]; exact hlt2))
          have c1 := kw.cell (at0_of (show i < was.length by rw [Hwl.out]; exact hlt2))
          have c2 := kn.cell (at0_of (show i - 4 < now.length by rw [Hnl.out]; omega))
          have hx := b_xor (at0 was i) (at0 now (i - 4))
          rw [← Hh.out i hi4 hlt2] at hx
          generalize at0 now i = y at *
          generalize at0 was i = y1 at *
          generalize at0 now (i - 4) = y2 at *
          have i0 : 0 ≤ (i : Int) := by omega
          have i1 : (i : Int) < 16 := by omega
          have i2 : 0 ≤ (i : Int) - 4 := by omega
          have i3 : (i : Int) - 4 < 16 := by omega
          have i4 : ((i : Int) - 4).toNat = i - 4 := by omega
          have i5 : (4 : Int) ≤ (i : Int) := by omega
          have i6 : (i : Int) < 20 := by omega
          have i7 : IntKind.i64.wrap ((i : Int) - 4) = (i : Int) - 4 := IntWalk.i64_in _ (by omega)
          have hyy : ((y.toNat : Int) != (y.toNat : Int)) = false := by simp
          go_wp2_with fail
          go_quiet (fail)
          go_wp2_with fail
          exact ⟨⟨i + 1, by omega, by omega, by go_num, kw.drewN _, kn.drewN _, kk.drewN _, hB'.trans ⟨rfl, rfl, rfl, Nat.le_refl _, fun _ _ => rfl⟩⟩, by simp [intOf]; omega⟩
        · obtain rfl : i = 16 := by omega
          rw [show ((16 : Nat) : Int) = 16 from rfl]
          go_wp2_with fail
          go_loopw [48] (fun i wr => ∃ i' : Nat, i' ≤ 4 ∧ i = .int .i64 (i' : Int) ∧ ArrB wr g7 23 was ∧ ArrB wr (g7 + 1) 23 now ∧ ArrB wr g4 26 (keysU k) ∧ Below w.heap.size w wr) (fun i _ => (4 - intOf i).toNat)
          case atStart => exact ⟨0, by omega, rfl, kw, kn, kk, hB'⟩
          case round =>
            obtain ⟨i, hi, rfl, kw, kn, kk, hB'⟩ := hrel
            by_cases hlt3 : i < 4
            · have hlo := Hlo.out i hlt3
              have c0 := at0_of (show i < now.length by rw [Hnl.out]; omega)
              have c1 := at0_of (show i < was.length by rw [Hwl.out]; omega)
              have c2 := at0_of (show 12 + (i + 1) % 4 < was.length by rw [Hwl.out]; omega)
              generalize at0 now i = y at *
              generalize at0 was i = y1 at *
              generalize at0 was (12 + (i + 1) % 4) = y2 at *
              have C0 := Lib.hid c0
              clear c0
              have i0 : 0 ≤ (i : Int) := by omega
              have i1 : (i : Int) < 4 := by omega
              have v1 : IntKind.i64.wrap ((i : Int) + 1) = (i : Int) + 1 := IntWalk.i64_in _ (by omega)
              have v2 : ((i : Int) + 1).tmod 4 = ((i : Int) + 1) % 4 := Int.tmod_eq_emod_of_nonneg (by omega)
              have v3 : IntKind.i64.wrap (12 + ((i : Int) + 1) % 4) = 12 + ((i : Int) + 1) % 4 := IntWalk.i64_in _ (by omega)
              have v4 : 0 ≤ 12 + ((i : Int) + 1) % 4 := by omega
              have v5 : 12 + ((i : Int) + 1) % 4 < 16 := by omega
              have v6 : (12 + ((i : Int) + 1) % 4).toNat = 12 + (i + 1) % 4 := by omega
              have v7 : (i : Int) < 16 := by omega
              have hkeep : ∀ wx : World, Below wr.heap.size wr wx → wx.cell? ⟨g7, i, none⟩ = some (.int .u8 (y1.toNat : Int)) ∧ wx.cell? ⟨g7, 12 + (i + 1) % 4, none⟩ = some (.int .u8 (y2.toNat : Int)) := fun wx hw => ⟨(kw.below hw kw.lt).cell c1, (kw.below hw kw.lt).cell c2⟩
              have Hlo2 := Lib.hid hlo
              clear hlo
              go_wp2_with fail
              refine beginT (fun wx => wx.cell? ⟨g7, i, none⟩ = some (.int .u8 (y1.toNat : Int)) ∧ wx.cell? ⟨g7, 12 + (i + 1) % 4, none⟩ = some (.int .u8 (y2.toNat : Int))) 11 (by kernel_rfl) ?_
              have hS := hkeep _ (c_drew (c_refl _))
              refine takeD 0 (some 51) (.int .i64 (i : Int)) rfl rfl (by kernel_rfl) (by kernel_rfl) (by kernel_rfl) (by kernel_rfl) (fun _ _ _ h => h) (Or.inl ⟨by kernel_rfl, fun wx hSw => by (try dsimp only at hSw); go_simp⟩) hS ?_
              simp only [Act.put, List.setIfInBounds_toArray, List.set_cons_zero, List.set_cons_succ]
              refine takeD 1 (some 52) (.pointer (some ⟨g7, i, none⟩)) rfl rfl (by kernel_rfl) (by kernel_rfl) (by kernel_rfl) (by kernel_rfl) (fun _ _ _ h => h) (Or.inl ⟨by kernel_rfl, fun wx hSw => by (try dsimp only at hSw); go_simp⟩) hS ?_
              simp only [Act.put, List.setIfInBounds_toArray, List.set_cons_zero, List.set_cons_succ]
              refine takeD 2 (some 53) (.int .u8 (y1.toNat : Int)) rfl rfl (by kernel_rfl) (by kernel_rfl) (by kernel_rfl) (by kernel_rfl) (fun _ _ _ h => h) (Or.inl ⟨by kernel_rfl, fun wx hSw => by (try dsimp only at hSw); go_simp⟩) hS ?_
              simp only [Act.put, List.setIfInBounds_toArray, List.set_cons_zero, List.set_cons_succ]
              refine takeD 3 (some 54) (.int .i64 (i : Int)) rfl rfl (by kernel_rfl) (by kernel_rfl) (by kernel_rfl) (by kernel_rfl) (fun _ _ _ h => h) (Or.inl ⟨by kernel_rfl, fun wx hSw => by (try dsimp only at hSw); go_simp⟩) hS ?_
              simp only [Act.put, List.setIfInBounds_toArray, List.set_cons_zero, List.set_cons_succ]
              refine takeD 4 (some 55) (.int .i64 ((i : Int) + 1)) rfl rfl (by kernel_rfl) (by kernel_rfl) (by kernel_rfl) (by kernel_rfl) (fun _ _ _ h => h) (Or.inl ⟨by kernel_rfl, fun wx hSw => by (try dsimp only at hSw); go_simp⟩) hS ?_
              simp only [Act.put, List.setIfInBounds_toArray, List.set_cons_zero, List.set_cons_succ]
              refine takeD 5 (some 56) (.int .i64 (((i : Int) + 1) % 4)) rfl rfl (by kernel_rfl) (by kernel_rfl) (by kernel_rfl) (by kernel_rfl) (fun _ _ _ h => h) (Or.inl ⟨by kernel_rfl, fun wx hSw => by (try dsimp only at hSw); go_simp⟩) hS ?_
              simp only [Act.put, List.setIfInBounds_toArray, List.set_cons_zero, List.set_cons_succ]
              refine takeD 6 (some 57) (.int .i64 (12 + ((i : Int) + 1) % 4)) rfl rfl (by kernel_rfl) (by kernel_rfl) (by kernel_rfl) (by kernel_rfl) (fun _ _ _ h => h) (Or.inl ⟨by kernel_rfl, fun wx hSw => by (try dsimp only at hSw); go_simp⟩) hS ?_
              simp only [Act.put, List.setIfInBounds_toArray, List.set_cons_zero, List.set_cons_succ]
              refine takeD 7 (some 58) (.pointer (some ⟨g7, 12 + (i + 1) % 4, none⟩)) rfl rfl (by kernel_rfl) (by kernel_rfl) (by kernel_rfl) (by kernel_rfl) (fun _ _ _ h => h) (Or.inl ⟨by kernel_rfl, fun wx hSw => by (try dsimp only at hSw); go_simp⟩) hS ?_
              simp only [Act.put, List.setIfInBounds_toArray, List.set_cons_zero, List.set_cons_succ]
              refine takeD 8 (some 59) (.int .u8 (y2.toNat : Int)) rfl rfl (by kernel_rfl) (by kernel_rfl) (by kernel_rfl) (by kernel_rfl) (fun _ _ _ h => h) (Or.inl ⟨by kernel_rfl, fun wx hSw => by (try dsimp only at hSw); go_simp⟩) hS ?_
              simp only [Act.put, List.setIfInBounds_toArray, List.set_cons_zero, List.set_cons_succ]
              refine oneT 9 (by kernel_rfl) rfl (fun K hK => ?_)
              go_simp
              refine (Box_any y2 _).mono ?_
              rintro e we ⟨rfl, hbe⟩
              refine hK.out _ _ (fun _ => hkeep _ (by (repeat (first | exact c_refl _ | refine c_drew ?_ | refine c_alloc ?_ _ | refine c_row ?_ (by first | omega | exact Nat.le_refl _) _ | refine c_call ?_ (by assumption))); first | done | fail "open")) ?_
              clear hK K
              have hE : Below wr.heap.size wr we := (by (repeat (first | exact c_refl _ | refine c_drew ?_ | refine c_alloc ?_ _ | refine c_row ?_ (by first | omega | exact Nat.le_refl _) _ | refine c_call ?_ (by assumption))); first | done | fail "open")
              have hSe := hkeep we hE
              refine takeD 10 (some 61) (.int .u8 (bits .xor .u8 (y1.toNat : Int) ((boxU y2).toNat : Int))) rfl rfl (by kernel_rfl) (by kernel_rfl) (by kernel_rfl) (by kernel_rfl) (fun _ _ _ h => h) (Or.inl ⟨by kernel_rfl, fun wx hSw => by (try dsimp only at hSw); go_simp⟩) hSe ?_
              simp only [Act.put, List.setIfInBounds_toArray, List.set_cons_zero, List.set_cons_succ]
              rw [b_xor]
              generalize y1 ^^^ boxU y2 = z at *
              refine oneT 11 (by kernel_rfl) rfl (fun K hK => ?_)
              go_simp
              refine hK.out _ _ (fun h => absurd rfl h) ?_
              clear hK K
              refine doneT (by kernel_rfl) ?_ _
              have en := kn.below hE kn.lt
              have ew := kw.below hE kw.lt
              have ek := kk.below hE kk.lt
              have hBe := hB'.trans (hE.mono hB'.size)
              have c0 := en.cell C0.out
              clear v1 v2 v3 v4 v5 v6 hkeep kw kn kk hB' hE hSe hS
              by_cases hi0 : i = 0
              · subst hi0
                rw [if_pos rfl] at Hlo2
                have hx := b_xor z mk
                rw [← Hlo2.out] at hx
                have hyy : ((y.toNat : Int) != (y.toNat : Int)) = false := by simp
                rw [show (((0 : Nat) : Nat) : Int) = 0 from rfl]
                go_wp2_with fail
                exact ⟨⟨0 + 1, by omega, by go_num, ew, en, ek, hBe⟩, by simp [intOf]⟩
              · rw [if_neg hi0, UInt8.xor_zero] at Hlo2
                rw [← Hlo2.out]
                have hyy : ((y.toNat : Int) != (y.toNat : Int)) = false := by simp
                have hi1 : ((i : Int) == 0) = false := by rw [beq_eq_false_iff_ne]; omega
                have hi2 : ¬ (i : Int) = 0 := by omega
                go_wp2_with fail
                exact ⟨⟨i + 1, by omega, by go_num, ew, en, ek, hBe⟩, by simp [intOf]; omega⟩
            · obtain rfl : i = 4 := by omega
              rw [show ((4 : Nat) : Int) = 4 from rfl]
              go_wp2_with fail
              refine (RMul_2r mk _).mono ?_
              rintro e w5 ⟨rfl, rfl⟩
              go_wp2_with fail
              exact ⟨⟨j + 1, by omega, by omega, by go_num, by rw [Hm.out], kk, hB'⟩, by simp [intOf]; omega⟩
    · obtain rfl : j = 11 := by omega
      rw [show ((11 : Nat) : Int) = 11 from rfl]
      go_wp2_with fail
      go_ret
      exact ⟨rfl, hB⟩

end Go.Proofs.Ytbiongbbohnoiaa
