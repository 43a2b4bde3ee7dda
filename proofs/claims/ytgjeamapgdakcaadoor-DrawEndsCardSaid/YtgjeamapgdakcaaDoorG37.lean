import Derived.Test.YtgjeamapgdakcaaDoorG34
import Derived.Test.YtgjeamapgdakcaaDoorG31
import Derived.Test.YtgjeamapgdakcaaDoorG36
import Derived.Test.YtgjeamapgdakcaaDoorG30
/-
  CONTRACTS of the program's Check, New, derived and Next (draw).
-/
set_option linter.unusedVariables false
namespace Go.Proofs.YtgjeamapgdakcaaDoor
open Go.RowKit

theorem PDCheck : HPC := by
  intro s N w hs hN
  have hM0 := (Ms.nil w).box 27 (drC s N)
  have hn := (hM0.get 0 rfl).nth hs
  have hB := hM0.old
  clear hM0
  go_enter Tryd.func18, Tryd.ntmps18
  by_cases h : 4294967296 < N
  · have h' : (4294967296 : Int) < (N : Int) := by omega
    go_wp2_with fail
    go_ret
    exact ⟨by rw [chkV, if_pos h]; rfl, hB⟩
  · have h' : ¬ (4294967296 : Int) < (N : Int) := by omega
    go_wp2_with fail
    go_ret
    exact ⟨by rw [chkV, if_neg h]; rfl, hB⟩

theorem PDNew : HPN := by
  intro At mt ct vs ts w hmc hcm hmt htx hv ht hT
  have hM0 := (Ms.nil w).box 27 #[.int .u8 0, .int .u8 0, .int .u8 0, .int .u8 0, .int .u8 0, .int .u8 0, .int .u8 0, .int .u8 0, .int .u8 0, .int .u8 0, .int .u8 0, .int .u8 0, .int .u8 0, .int .u8 0, .int .u8 0, .int .u8 0, .int .u8 0, .int .u8 0, .int .u8 0, .int .u8 0, .int .u8 0, .int .u8 0, .int .u8 0, .int .u8 0, .int .u8 0, .int .u8 0, .int .u8 0, .int .u8 0, .int .u8 0, .int .u8 0, .int .u8 0, .int .u8 0, .int .u64 0]
  have Hsz := Lib.hid (sizeDr (s := zeroD) 0 rfl)
  have Hoz := Lib.hid (one_dr zeroD 0)
  have Hsn := Lib.hid (sizeDr 0 (newK_len ts))
  have Hon := Lib.hid (one_dr (newK ts) 0)
  have Hzn := Lib.hid (show (#[.int .u8 0, .int .u8 0, .int .u8 0, .int .u8 0, .int .u8 0, .int .u8 0, .int .u8 0, .int .u8 0, .int .u8 0, .int .u8 0, .int .u8 0, .int .u8 0, .int .u8 0, .int .u8 0, .int .u8 0, .int .u8 0, .int .u8 0, .int .u8 0, .int .u8 0, .int .u8 0, .int .u8 0, .int .u8 0, .int .u8 0, .int .u8 0, .int .u8 0, .int .u8 0, .int .u8 0, .int .u8 0, .int .u8 0, .int .u8 0, .int .u8 0, .int .u8 0, .int .u64 0] : Array Value).size = (drC (newK ts) 0).size by rw [drC_size 0 (newK_len ts)]; rfl)
  rw [drZ] at Hsz Hoz
  have hv1 := d_rd hv hM0.old
  have ht1 := d_txs ht hM0.old
  have hT1 := hT.below hM0.old
  clear hv ht hT
  go_enter Tryd.func9, Tryd.ntmps9
  go_upto_region 1 with (fail)
  generalize w.alloc (.cells #[.int .u8 0, .int .u8 0, .int .u8 0, .int .u8 0, .int .u8 0, .int .u8 0, .int .u8 0, .int .u8 0, .int .u8 0, .int .u8 0, .int .u8 0, .int .u8 0, .int .u8 0, .int .u8 0, .int .u8 0, .int .u8 0, .int .u8 0, .int .u8 0, .int .u8 0, .int .u8 0, .int .u8 0, .int .u8 0, .int .u8 0, .int .u8 0, .int .u8 0, .int .u8 0, .int .u8 0, .int .u8 0, .int .u8 0, .int .u8 0, .int .u8 0, .int .u8 0, .int .u64 0] 27) = w4 at *
  go_wp2_with fail
  refine (Text_any none 0 0 [] At mt ct vs ts w4 (by omega) (by omega) (Rd.zero _ _ _) hv1 ht1).mono ?_
  intro e w5 hP
  by_cases hg : GoodT ts
  rotate_left
  · obtain ⟨rfl, hb5⟩ := hP.no hg
    have hM5 := hM0.call hb5
    go_wp2_with ((with_reducible show wpList _ _ _ (⟨none, Op.store 27 _ _, _, _, _, _⟩ :: _) _ _); refine wpList_store_row rfl 27 (.tmp 2) (.tmp 13) rfl (w.heap.size) #[.int .u8 0, .int .u8 0, .int .u8 0, .int .u8 0, .int .u8 0, .int .u8 0, .int .u8 0, .int .u8 0, .int .u8 0, .int .u8 0, .int .u8 0, .int .u8 0, .int .u8 0, .int .u8 0, .int .u8 0, .int .u8 0, .int .u8 0, .int .u8 0, .int .u8 0, .int .u8 0, .int .u8 0, .int .u8 0, .int .u8 0, .int .u8 0, .int .u8 0, .int .u8 0, .int .u8 0, .int .u8 0, .int .u8 0, .int .u8 0, .int .u8 0, .int .u8 0, .int .u64 0] rfl rfl 27 _ (hM5.get 0 rfl) Hsz.out rfl Hoz.out ?_)
    exact bodyPost_ret (results_cell_two rfl _ _ w.heap.size 27 #[.int .u8 0, .int .u8 0, .int .u8 0, .int .u8 0, .int .u8 0, .int .u8 0, .int .u8 0, .int .u8 0, .int .u8 0, .int .u8 0, .int .u8 0, .int .u8 0, .int .u8 0, .int .u8 0, .int .u8 0, .int .u8 0, .int .u8 0, .int .u8 0, .int .u8 0, .int .u8 0, .int .u8 0, .int .u8 0, .int .u8 0, .int .u8 0, .int .u8 0, .int .u8 0, .int .u8 0, .int .u8 0, .int .u8 0, .int .u8 0, .int .u8 0, .int .u8 0, .int .u64 0] _ rfl ((hM5.get 0 rfl).row _) Tryd.underlying27 rfl Hsz.out) rfl ⟨below_setRow hM5.old (Nat.le_refl _) _, .inr ⟨hg, by rw [drZ]; rfl⟩⟩
  obtain ⟨A5, n, c5, rfl, hown5, hnc, hln0, hb5⟩ := hP.yes hg
  rw [List.nil_append] at hown5 hln0
  have hln : n ≤ 536870912 := by rw [hln0.out]; exact htx hg
  have hM5 := hM0.call hb5
  have hr5 := Rd.of_own hown5
  have Hnk := Lib.hid (show newK ts = sumU ([txs ts].flatten) by simp [newK])
  have Hbd := Lib.hid (fun wx => build_dr0 (newK ts) wx (newK_len ts))
  clear hP hown5 hv1 ht1
  have hal := d_al w5 (.cells #[.slice A5 n c5] 45)
  have hM6 := hM5.call hal
  have hsum := pSum_any (some ⟨w5.heap.size, 0, none⟩) 1 1 [.slice A5 n c5] [txs ts] (w5.alloc (.cells #[.slice A5 n c5] 45)) (by omega) (by have := hln0.out; simp; omega) (Rd.mk_ _ _ _ rfl (by simp) rfl rfl) (txs_one1 (by rw [hln0.out]) hnc (d_rd hr5 hal)) (hT1.below (c_call hb5 hal))
  rw [← Hnk.out] at hsum
  rw [show ((newK ts).map bv).toArray = keyC (newK ts) from rfl] at hsum
  go_wp2_with fail
  refine hsum.mono ?_
  rintro e w7 ⟨rfl, hb7⟩
  have hM7 := hM6.call hb7
  clear hsum hM6 hM5 hal
  go_wp2_with (first
    | ((with_reducible show wpList _ _ _ (⟨some 18, _, _, _, _, _⟩ :: _) _ _); refine wpList_buildP rfl 27 #[(0, .tmp 17)] rfl #[(0, .agg (keyC (newK ts)))] (by kernel_rfl) (drC (newK ts) 0) (Hbd.out _) ?_)
    | ((with_reducible show wpList _ _ _ (⟨none, Op.store 27 _ _, _, _, _, _⟩ :: _) _ _); refine wpList_store_row rfl 27 (.tmp 2) (.tmp 18) rfl (w.heap.size) (drC (newK ts) 0) rfl rfl 27 _ (hM7.get 0 rfl) Hsn.out Hzn.out Hon.out ?_))
  exact bodyPost_ret (results_cell_two rfl _ _ w.heap.size 27 (drC (newK ts) 0) _ rfl ((hM7.get 0 rfl).row _) Tryd.underlying27 rfl Hsn.out) rfl ⟨below_setRow hM7.old (Nat.le_refl _) _, .inl ⟨hg, rfl⟩⟩

theorem good8 {N : Nat} (h : N < 18446744073709551616) : Good 8 [N] := ⟨by omega, by omega, fun i x hx => by
  have := List.mem_of_getElem? hx
  rw [List.mem_singleton] at this
  show x < 256 ^ 8
  omega⟩
theorem nums8 (N : Nat) : ([] : List UInt8) ++ nums (8 : Int).toNat [N] = be 8 N := by simp [nums]

/-- what a key derived of a source answers -/
def DerivedPostD (w : World) (s : List UInt8) (N : Nat) (l : List UInt8) (ts : List (List UInt8)) (e : Ending) (w' : World) : Prop :=
  ∃ (kk : List UInt8) (er : Int), e = .returned (.tuple #[.agg (keyC kk), .int .i64 er]) ∧ kk.length = 32 ∧ ((fitD l (be 8 N :: ts) ∧ er = 0 ∧ kk = deriveU s l (be 8 N :: ts)) ∨ (¬ fitD l (be 8 N :: ts) ∧ er = 4)) ∧ Below w.heap.size w w'
set_option maxRecDepth 100000 in
set_option maxHeartbeats 4000000 in
theorem PDDerived (s : List UInt8) (N : Nat) (l : ByteArray) (At : Option Addr) (m ct : Nat) (vs : List Value) (ts : List (List UInt8)) (w : World) (hs : s.length = 32) (hN : N < 18446744073709551616) (hl : l.size ≤ 70000) (hm : m ≤ 1000) (hmc : m ≤ ct)
    (hv : Rd w w.heap.size At m vs) (ht : Txs w w.heap.size vs ts) (hT : CTab w) :
    Calls Tryd.prog 24 #[.agg (drC s N), .string l, .slice At m ct] w (DerivedPostD w s N (strB l) ts) := by
  have hM0 := ((Ms.nil w).box 27 (drC s N)).box 24 #[.int .u8 0, .int .u8 0, .int .u8 0, .int .u8 0, .int .u8 0, .int .u8 0, .int .u8 0, .int .u8 0, .int .u8 0, .int .u8 0, .int .u8 0, .int .u8 0, .int .u8 0, .int .u8 0, .int .u8 0, .int .u8 0, .int .u8 0, .int .u8 0, .int .u8 0, .int .u8 0, .int .u8 0, .int .u8 0, .int .u8 0, .int .u8 0, .int .u8 0, .int .u8 0, .int .u8 0, .int .u8 0, .int .u8 0, .int .u8 0, .int .u8 0, .int .u8 0]
  simp only [World.size_alloc] at hM0
  have Hs := Lib.hid hs
  have hn0 := (hM0.get 1 rfl).nth hs
  have Hml := Lib.hid hv.len
  obtain ⟨kk, er, hkl, hrel, hdr⟩ : ∃ (kk : List UInt8) (er : Int), kk.length = 32 ∧ ((fitD (strB l) (be 8 N :: ts) ∧ er = 0 ∧ kk = deriveU s (strB l) (be 8 N :: ts)) ∨ (¬ fitD (strB l) (be 8 N :: ts) ∧ er = 4)) ∧
      ∀ wx A2 n2 c2 us, CTab wx → n2 ≤ 1001 → n2 ≤ c2 → Rd wx wx.heap.size A2 n2 us → Txs wx wx.heap.size us (be 8 N :: ts) →
        Calls Tryd.prog 39 #[.agg (keyC s), .string l, .slice A2 n2 c2] wx fun e w' => e = .returned (.tuple #[.agg (keyC kk), .int .i64 er]) ∧ Below wx.heap.size wx w' := by
    by_cases hf : fitD (strB l) (be 8 N :: ts)
    · refine ⟨deriveU s (strB l) (be 8 N :: ts), 0, deriveU_len _ _ _, .inl ⟨hf, rfl, rfl⟩, fun wx A2 n2 c2 us hk hn2 hc2 hr ht => ?_⟩
      refine (Derive_any s l A2 n2 c2 us _ wx hs hl (by omega) hc2 hr ht hk).mono ?_
      rintro e w' ⟨hb, ⟨_, h⟩ | ⟨h, _⟩⟩
      · exact ⟨h, hb⟩
      · exact absurd hf h
    · refine ⟨zeroKey, 4, rfl, .inr ⟨hf, rfl⟩, fun wx A2 n2 c2 us hk hn2 hc2 hr ht => ?_⟩
      refine (Derive_any s l A2 n2 c2 us _ wx hs hl (by omega) hc2 hr ht hk).mono ?_
      rintro e w' ⟨hb, ⟨h, _⟩ | ⟨_, h⟩⟩
      · exact absurd h hf
      · exact ⟨h, hb⟩
  have HP := Lib.hid (show ∀ e w', e = .returned (.tuple #[.agg (keyC kk), .int .i64 er]) → Below w.heap.size w w' → DerivedPostD w s N (strB l) ts e w' from fun e w' h1 h2 => ⟨kk, er, h1, hkl, hrel, h2⟩)
  have Hk := Lib.hid hkl
  have Hsk := Lib.hid (sizeKey hkl)
  have Hok := Lib.hid (one_keyF kk)
  have Hzk := Lib.hid (show (#[.int .u8 0, .int .u8 0, .int .u8 0, .int .u8 0, .int .u8 0, .int .u8 0, .int .u8 0, .int .u8 0, .int .u8 0, .int .u8 0, .int .u8 0, .int .u8 0, .int .u8 0, .int .u8 0, .int .u8 0, .int .u8 0, .int .u8 0, .int .u8 0, .int .u8 0, .int .u8 0, .int .u8 0, .int .u8 0, .int .u8 0, .int .u8 0, .int .u8 0, .int .u8 0, .int .u8 0, .int .u8 0, .int .u8 0, .int .u8 0, .int .u8 0, .int .u8 0] : Array Value).size = (keyC kk).size by rw [keyC_size, hkl]; rfl)
  clear hrel hkl hs
  generalize DerivedPostD w s N (strB l) ts = PO at *
  go_enter Tryd.func24, Tryd.ntmps24
  go_wp2_with fail
  refine (Num_any none 0 0 [] 8 _ 1 1 [N] _ (by omega) (by omega) (Rd.zero _ _ _) (by exact Rd.mk_ _ _ _ (by simp) (by simp) rfl rfl) (fun i x hx => by
    have := List.mem_of_getElem? hx
    rw [List.mem_singleton] at this
    omega)).mono ?_
  intro e w1 hP
  obtain ⟨A1, n1, c1, rfl, hown1, hc1, hl1, hb1⟩ := hP.yes (good8 hN)
  rw [nums8] at hown1 hl1
  obtain rfl : n1 = 8 := by rw [hl1.out, be_length]
  have hr1 := Rd.of_own hown1
  have hM1 := (hM0.call (d_al _ (.cells #[.int .u64 (N : Int)] 25))).call hb1
  clear hP hown1 hM0 hl1 hn0 hb1
  have hv1 := d_rd hv hM1.old
  have ht1 := d_txs ht hM1.old
  have hT1 := hT.below hM1.old
  have Hs2 := Lib.hid Hs.out
  clear hv ht hT
  go_upto_region 4 with (fail)
  try simp only [Act.put]
  have hun := Tryd.underlying24
  have hss : (Tryd.prog.info? 24).map (·.size) = some (keyC s).toList.length := by simpa using sizeKey Hs.out
  have hkeep : ∀ wx : World, Below w1.heap.size w1 wx → wx.rangeAt w.heap.size 0 (keyC s).toList := fun wx hb => ((hM1.get 1 rfl).call hb).seed
  have hgs := (hM1.get 0 rfl).lt
  refine beginT (fun wx => wx.rangeAt w.heap.size 0 (keyC s).toList) 11 (by kernel_rfl) ?_
  have hS := hkeep _ (c_drew (c_refl _))
  refine takeD 0 (some 21) (.pointer (some ⟨w.heap.size, 0, none⟩)) rfl rfl (by kernel_rfl) (by kernel_rfl) (by kernel_rfl) (by kernel_rfl) (fun _ _ _ h => h) (Or.inl ⟨by kernel_rfl, fun wx hSw => by go_simp⟩) hS ?_
  simp only [Act.put, List.setIfInBounds_toArray, List.set_cons_zero, List.set_cons_succ]
  refine loadT 1 (some 22) 24 (.tmp 21) w.heap.size 0 (keyC s).toList rfl rfl (by kernel_rfl) (by kernel_rfl) (by kernel_rfl) (by kernel_rfl) rfl (by kernel_rfl) rfl (fun wx hSw => hSw) hun rfl hss (fun _ _ _ h => h) hS ?_
  simp only [Act.put, List.setIfInBounds_toArray, List.set_cons_zero, List.set_cons_succ, Array.toArray_toList]
  refine takeD 2 (some 23) (.string l) rfl rfl (by kernel_rfl) (by kernel_rfl) (by kernel_rfl) (by kernel_rfl) (fun _ _ _ h => h) (Or.inl ⟨by kernel_rfl, fun wx hSw => by go_simp⟩) hS ?_
  simp only [Act.put, List.setIfInBounds_toArray, List.set_cons_zero, List.set_cons_succ]
  refine takeD 3 (some 24) (.slice A1 8 c1) rfl rfl (by kernel_rfl) (by kernel_rfl) (by kernel_rfl) (by kernel_rfl) (fun _ _ _ h => h) (Or.inl ⟨by kernel_rfl, fun wx hSw => by go_simp⟩) hS ?_
  simp only [Act.put, List.setIfInBounds_toArray, List.set_cons_zero, List.set_cons_succ]
  refine takeD 5 (some 26) (.slice At m ct) rfl rfl (by kernel_rfl) (by kernel_rfl) (by kernel_rfl) (by kernel_rfl) (fun _ _ _ h => h) (Or.inl ⟨by kernel_rfl, fun wx hSw => by go_simp⟩) hS ?_
  simp only [Act.put, List.setIfInBounds_toArray, List.set_cons_zero, List.set_cons_succ]
  have hx0 : Below w1.heap.size w1 w1.drew := c_drew (c_refl _)
  have hN0 := hM1.drew
  have hr8 := d_rd hr1 hx0
  have hvx := d_rd hv1 hx0
  have htx := d_txs ht1 hx0
  generalize w1.drew = x0 at *
  refine oneT 4 (by kernel_rfl) rfl (fun K hK => ?_)
  go_simp
  refine hK.out _ _ (fun _ => hkeep _ (by (repeat (first | exact c_refl _ | refine c_drew ?_ | refine c_alloc ?_ _ | refine c_row ?_ (by first | omega | exact Nat.le_refl _) _ | refine c_call ?_ (by assumption))); first | done | fail "open")) ?_
  clear hK K
  have hx1 := d_al x0 (.cells #[.slice A1 8 c1] 45)
  have hN1 := hN0.call hx1
  have hrs1 : Rd (x0.alloc (.cells #[.slice A1 8 c1] 45)) (x0.alloc (.cells #[.slice A1 8 c1] 45)).heap.size (some ⟨x0.heap.size, 0, none⟩) 1 [.slice A1 8 c1] := Rd.mk_ _ _ _ rfl (by simp) rfl rfl
  have hr8 := d_rd hr8 hx1
  have hvx := d_rd hvx hx1
  have htx := d_txs htx hx1
  generalize x0.alloc (.cells #[.slice A1 8 c1] 45) = x1 at *
  refine oneT 6 (by kernel_rfl) rfl (fun K hK => ?_)
  go_simp
  refine hK.out _ _ (fun _ => hkeep _ (by (repeat (first | exact c_refl _ | refine c_drew ?_ | refine c_alloc ?_ _ | refine c_row ?_ (by first | omega | exact Nat.le_refl _) _ | refine c_call ?_ (by assumption))); first | done | fail "open")) ?_
  clear hK K
  have hx2 := d_al x1 (.cells #[.slice (some ⟨x0.heap.size, 0, none⟩) 1 1, .slice At m ct] 22)
  have hN2 := hN1.call hx2
  have hrs2 : Rd (x1.alloc (.cells #[.slice (some ⟨x0.heap.size, 0, none⟩) 1 1, .slice At m ct] 22)) (x1.alloc (.cells #[.slice (some ⟨x0.heap.size, 0, none⟩) 1 1, .slice At m ct] 22)).heap.size (some ⟨x1.heap.size, 0, none⟩) 2 [.slice (some ⟨x0.heap.size, 0, none⟩) 1 1, .slice At m ct] := Rd.mk_ _ _ _ rfl (by simp) rfl rfl
  have hr8 := d_rd hr8 hx2
  have hvx := d_rd hvx hx2
  have htx := d_txs htx hx2
  have hrs1 := d_rd hrs1 hx2
  generalize x1.alloc (.cells #[.slice (some ⟨x0.heap.size, 0, none⟩) 1 1, .slice At m ct] 22) = x2 at *
  refine oneT 7 (by kernel_rfl) rfl (fun K hK => ?_)
  go_simp
  refine (Concat_any _ 2 2 _ [[.slice A1 8 c1], vs] x2 (by omega) (by simp) (by simp [Hml.out]; omega) hrs2 (Lists.two hrs1 (Nat.le_refl _) (one_slice _ _ _) hvx hmc htx.one_cell)).mono ?_
  rintro e x3 ⟨A3, n3, c3, rfl, hc3, hown3, hx3⟩
  refine hK.out _ _ (fun _ => hkeep _ (by (repeat (first | exact c_refl _ | refine c_drew ?_ | refine c_alloc ?_ _ | refine c_row ?_ (by first | omega | exact Nat.le_refl _) _ | refine c_call ?_ (by assumption))); first | done | fail "open")) ?_
  clear hK K
  have hN3 := hN2.call hx3
  have hr8 := d_rd hr8 hx3
  have htx := d_txs htx hx3
  have hr3 := Rd.of_own hown3
  rw [show ([[Value.slice A1 8 c1], vs] : List (List Value)).flatten = .slice A1 8 c1 :: vs by simp] at hr3
  have Hn3 := Lib.hid (show n3 = 1 + m by have h := hr3.len; simp [Hml.out] at h; omega)
  clear hown3
  refine oneT 8 (by kernel_rfl) rfl (fun K hK => ?_)
  go_simp
  refine (hdr x3 A3 n3 c3 _ (hT1.below (by (repeat (first | exact c_refl _ | refine c_drew ?_ | refine c_alloc ?_ _ | refine c_row ?_ (by first | omega | exact Nat.le_refl _) _ | refine c_call ?_ (by assumption))); first | done | fail "open")) (by have := Hn3.out; omega) hc3 hr3 (Txs.cons (txs_one1 (be_length _ _) hc1 hr8) htx)).mono ?_
  rintro e x4 ⟨rfl, hx4⟩
  refine hK.out _ _ (fun _ => hkeep _ (by (repeat (first | exact c_refl _ | refine c_drew ?_ | refine c_alloc ?_ _ | refine c_row ?_ (by first | omega | exact Nat.le_refl _) _ | refine c_call ?_ (by assumption))); first | done | fail "open")) ?_
  clear hK K
  have hM9 := hN3.call hx4
  have hS9 := hkeep x4 (by (repeat (first | exact c_refl _ | refine c_drew ?_ | refine c_alloc ?_ _ | refine c_row ?_ (by first | omega | exact Nat.le_refl _) _ | refine c_call ?_ (by assumption))); first | done | fail "open")
  refine takeD 9 (some 30) (.agg (keyC kk)) rfl rfl (by kernel_rfl) (by kernel_rfl) (by kernel_rfl) (by kernel_rfl) (fun _ _ _ h => h) (Or.inl ⟨by kernel_rfl, fun wx hSw => by go_simp⟩) hS9 ?_
  simp only [Act.put, List.setIfInBounds_toArray, List.set_cons_zero, List.set_cons_succ]
  refine takeD 10 (some 31) (.int .i64 er) rfl rfl (by kernel_rfl) (by kernel_rfl) (by kernel_rfl) (by kernel_rfl) (fun _ _ _ h => h) (Or.inl ⟨by kernel_rfl, fun wx hSw => by go_simp⟩) hS9 ?_
  simp only [Act.put, List.setIfInBounds_toArray, List.set_cons_zero, List.set_cons_succ]
  have q1 : w.heap.size ≠ w.heap.size + 1 := by omega
  refine oneT 11 (by kernel_rfl) rfl (fun K hK => ?_)
  refine step_store_row rfl 24 (.tmp 6) (.tmp 30) rfl (w.heap.size + 1) (keyC kk) rfl rfl 24 _ (hM9.get 0 rfl) Hsk.out Hzk.out Hok.out ?_
  refine hK.out _ _ (fun h => absurd rfl h) ?_
  clear hK K
  refine oneT 12 (by kernel_rfl) rfl (fun K hK => ?_)
  go_simp
  refine hK.out _ _ (fun _ => ((hM9.get 1 rfl).rowFar q1 _).seed) ?_
  clear hK K
  refine doneT (by kernel_rfl) ?_ _
  go_wp2_with fail
  exact bodyPost_ret (results_cell_two rfl _ _ (w.heap.size + 1) 24 (keyC kk) _ rfl ((hM9.get 0 rfl).row _) Tryd.underlying24 rfl Hsk.out) rfl (HP.out _ _ rfl (below_setRow hM9.old (by omega) _))

end Go.Proofs.YtgjeamapgdakcaaDoor

/-
  CONTRACT of the program's Fork (draw).
-/
set_option linter.unusedVariables false
namespace Go.Proofs.YtgjeamapgdakcaaDoor
open Go.RowKit

set_option maxRecDepth 100000 in
set_option maxHeartbeats 4000000 in
theorem PDFork : HPF := by
  intro s N l w hs hN hl hT
  have hM0 := ((Ms.nil w).box 27 (drC s N)).box 27 #[.int .u8 0, .int .u8 0, .int .u8 0, .int .u8 0, .int .u8 0, .int .u8 0, .int .u8 0, .int .u8 0, .int .u8 0, .int .u8 0, .int .u8 0, .int .u8 0, .int .u8 0, .int .u8 0, .int .u8 0, .int .u8 0, .int .u8 0, .int .u8 0, .int .u8 0, .int .u8 0, .int .u8 0, .int .u8 0, .int .u8 0, .int .u8 0, .int .u8 0, .int .u8 0, .int .u8 0, .int .u8 0, .int .u8 0, .int .u8 0, .int .u8 0, .int .u8 0, .int .u64 0]
  simp only [World.size_alloc] at hM0
  have Hs := Lib.hid hs
  have HN := Lib.hid hN
  have Hsd := Lib.hid (sizeDr N hs)
  have Hsd0 := Lib.hid (sizeDr (s := zeroD) 0 rfl)
  have Hod0 := Lib.hid (one_dr zeroD 0)
  rw [drZ] at Hsd0 Hod0
  have hck := fun wx => PDCheck s N wx hs hN
  have Hv1 := Lib.hid (show ∀ er : Int, errF N (strB l) = er → er ≠ 0 → forkV s N (strB l) = .tuple #[.agg #[.int .u8 0, .int .u8 0, .int .u8 0, .int .u8 0, .int .u8 0, .int .u8 0, .int .u8 0, .int .u8 0, .int .u8 0, .int .u8 0, .int .u8 0, .int .u8 0, .int .u8 0, .int .u8 0, .int .u8 0, .int .u8 0, .int .u8 0, .int .u8 0, .int .u8 0, .int .u8 0, .int .u8 0, .int .u8 0, .int .u8 0, .int .u8 0, .int .u8 0, .int .u8 0, .int .u8 0, .int .u8 0, .int .u8 0, .int .u8 0, .int .u8 0, .int .u8 0, .int .u64 0], .int .i64 er] from fun er h h0 => by rw [forkV, if_neg (by rw [h]; exact h0), h, drZ])
  have Hll := Lib.hid (strB_len l)
  have Hl := Lib.hid hl
  go_enter Tryd.func15, Tryd.ntmps15
  by_cases h1 : 4294967296 < N
  · have hc1 : chkV N = 1 := by rw [chkV, if_pos h1]
    rw [hc1] at hck
    go_wp2_with ((with_reducible show wpList _ _ _ (⟨some 9, _, _, _, _, _⟩ :: _) _ _); refine wpList_loadC (by kernel_rfl) 27 (.tmp 2) rfl (w.heap.size) rfl 27 (drC s N) _ (hM0.get 1 rfl) Tryd.underlying27 rfl Hsd.out ?_)
    refine (hck _).mono ?_
    rintro e w1 ⟨rfl, hb1⟩
    have hM1 := hM0.call hb1
    clear hM0 hb1
    have He := Lib.hid (Hv1.out 1 (by rw [errF, if_pos h1]) (by decide))
    go_wp2_with ((with_reducible show wpList _ _ _ (⟨none, Op.store 27 _ _, _, _, _, _⟩ :: _) _ _); refine wpList_store_row rfl 27 (.tmp 4) (.tmp 13) rfl (w.heap.size + 1) #[.int .u8 0, .int .u8 0, .int .u8 0, .int .u8 0, .int .u8 0, .int .u8 0, .int .u8 0, .int .u8 0, .int .u8 0, .int .u8 0, .int .u8 0, .int .u8 0, .int .u8 0, .int .u8 0, .int .u8 0, .int .u8 0, .int .u8 0, .int .u8 0, .int .u8 0, .int .u8 0, .int .u8 0, .int .u8 0, .int .u8 0, .int .u8 0, .int .u8 0, .int .u8 0, .int .u8 0, .int .u8 0, .int .u8 0, .int .u8 0, .int .u8 0, .int .u8 0, .int .u64 0] rfl rfl 27 _ (hM1.get 0 rfl) Hsd0.out rfl Hod0.out ?_)
    exact bodyPost_ret (results_cell_two rfl _ _ (w.heap.size + 1) 27 #[.int .u8 0, .int .u8 0, .int .u8 0, .int .u8 0, .int .u8 0, .int .u8 0, .int .u8 0, .int .u8 0, .int .u8 0, .int .u8 0, .int .u8 0, .int .u8 0, .int .u8 0, .int .u8 0, .int .u8 0, .int .u8 0, .int .u8 0, .int .u8 0, .int .u8 0, .int .u8 0, .int .u8 0, .int .u8 0, .int .u8 0, .int .u8 0, .int .u8 0, .int .u8 0, .int .u8 0, .int .u8 0, .int .u8 0, .int .u8 0, .int .u8 0, .int .u8 0, .int .u64 0] _ rfl ((hM1.get 0 rfl).row _) Tryd.underlying27 rfl Hsd0.out) rfl ⟨by rw [He.out]; rfl, below_setRow hM1.old (by omega) _⟩
  have hc1 : chkV N = 0 := by rw [chkV, if_neg h1]
  rw [hc1] at hck
  go_wp2_with ((with_reducible show wpList _ _ _ (⟨some 9, _, _, _, _, _⟩ :: _) _ _); refine wpList_loadC (by kernel_rfl) 27 (.tmp 2) rfl (w.heap.size) rfl 27 (drC s N) _ (hM0.get 1 rfl) Tryd.underlying27 rfl Hsd.out ?_)
  refine (hck _).mono ?_
  rintro e w1 ⟨rfl, hb1⟩
  have hM1 := hM0.call hb1
  clear hM0 hb1
  have Hh1 := Lib.hid h1
  clear hck h1 hc1 hs hN hl
  obtain ⟨cf, wf, hcv, hC⟩ := conv_any l
  go_wp2_with ((with_reducible show wpList _ _ _ (⟨some 16, _, _, _, _, _⟩ :: _) _ _); refine wpList_loadC (by kernel_rfl) 27 (.tmp 2) rfl (w.heap.size) rfl 27 (drC s N) _ (hM1.get 1 rfl) Tryd.underlying27 rfl Hsd.out ?_)
  have hC1 := hC w1
  have hc2 := hC1.cap
  have hr2 := hC1.rd
  have hM2 := hM1.call hC1.below
  clear hC hcv hC1 hM1
  generalize wf w1 = w2 at *
  generalize cf w1 = c2 at *
  generalize w1.heap.size = g2 at *
  have hal := d_al w2 (.cells #[.slice (some ⟨g2, 0, none⟩) l.size c2] 45)
  have hM3 := hM2.call hal
  have hrs : Rd (w2.alloc (.cells #[.slice (some ⟨g2, 0, none⟩) l.size c2] 45)) (w2.alloc (.cells #[.slice (some ⟨g2, 0, none⟩) l.size c2] 45)).heap.size (some ⟨w2.heap.size, 0, none⟩) 1 [.slice (some ⟨g2, 0, none⟩) l.size c2] := Rd.mk_ _ _ _ rfl (by simp) rfl rfl
  refine (PDDerived s N ⟨#[102, 111, 114, 107]⟩ (some ⟨w2.heap.size, 0, none⟩) 1 1 _ [strB l] _ Hs.out HN.out (by decide) (by omega) (Nat.le_refl _) hrs (txs_one1 Hll.out hc2 (d_rd hr2 hal)) (hT.below hM3.old)).mono ?_
  rintro e w3 ⟨kk, er, rfl, hkl, hrel, hb3⟩
  have hM4 := hM3.call hb3
  have Hkl := Lib.hid hkl
  have Hsk := Lib.hid (sizeKey hkl)
  have Hok := Lib.hid (one_keyF kk)
  have Hzk := Lib.hid (show (#[.int .u8 0, .int .u8 0, .int .u8 0, .int .u8 0, .int .u8 0, .int .u8 0, .int .u8 0, .int .u8 0, .int .u8 0, .int .u8 0, .int .u8 0, .int .u8 0, .int .u8 0, .int .u8 0, .int .u8 0, .int .u8 0, .int .u8 0, .int .u8 0, .int .u8 0, .int .u8 0, .int .u8 0, .int .u8 0, .int .u8 0, .int .u8 0, .int .u8 0, .int .u8 0, .int .u8 0, .int .u8 0, .int .u8 0, .int .u8 0, .int .u8 0, .int .u8 0] : Array Value).size = (keyC kk).size by rw [keyC_size, hkl]; rfl)
  have hP4 := hM4.put 24 #[.int .u8 0, .int .u8 0, .int .u8 0, .int .u8 0, .int .u8 0, .int .u8 0, .int .u8 0, .int .u8 0, .int .u8 0, .int .u8 0, .int .u8 0, .int .u8 0, .int .u8 0, .int .u8 0, .int .u8 0, .int .u8 0, .int .u8 0, .int .u8 0, .int .u8 0, .int .u8 0, .int .u8 0, .int .u8 0, .int .u8 0, .int .u8 0, .int .u8 0, .int .u8 0, .int .u8 0, .int .u8 0, .int .u8 0, .int .u8 0, .int .u8 0, .int .u8 0] (keyC kk)
  have Hff := Lib.hid (show fitD (strB ⟨#[102, 111, 114, 107]⟩) [be 8 N, strB l] ↔ (strB l).length ≤ 65535 from fit_fork (strB l) N)
  clear hM3 hM2 hrs hr2 hal hb3 hkl
  rcases hrel with ⟨hf, rfl, hk⟩ | ⟨hf, rfl⟩
  rotate_left
  · have He := Lib.hid (Hv1.out 4 (by rw [errF, if_neg Hh1.out, if_pos (Nat.lt_of_not_le (fun h => hf (Hff.out.2 h)))]) (by decide))
    clear hf
    go_wp2_with (first
      | ((with_reducible show wpList _ _ _ (⟨none, Op.store 24 _ _, _, _, _, _⟩ :: _) _ _); refine wpList_store_row rfl 24 (.tmp 7) (.tmp 21) rfl (w3.heap.size) (keyC kk) rfl rfl 24 _ (RowC.new _ _ _) Hsk.out Hzk.out Hok.out ?_)
      | ((with_reducible show wpList _ _ _ (⟨none, Op.store 27 _ _, _, _, _, _⟩ :: _) _ _); refine wpList_store_row rfl 27 (.tmp 4) (.tmp 25) rfl (w.heap.size + 1) #[.int .u8 0, .int .u8 0, .int .u8 0, .int .u8 0, .int .u8 0, .int .u8 0, .int .u8 0, .int .u8 0, .int .u8 0, .int .u8 0, .int .u8 0, .int .u8 0, .int .u8 0, .int .u8 0, .int .u8 0, .int .u8 0, .int .u8 0, .int .u8 0, .int .u8 0, .int .u8 0, .int .u8 0, .int .u8 0, .int .u8 0, .int .u8 0, .int .u8 0, .int .u8 0, .int .u8 0, .int .u8 0, .int .u8 0, .int .u8 0, .int .u8 0, .int .u8 0, .int .u64 0] rfl rfl 27 _ (hP4.get 1 rfl) Hsd0.out rfl Hod0.out ?_))
    exact bodyPost_ret (results_cell_two rfl _ _ (w.heap.size + 1) 27 #[.int .u8 0, .int .u8 0, .int .u8 0, .int .u8 0, .int .u8 0, .int .u8 0, .int .u8 0, .int .u8 0, .int .u8 0, .int .u8 0, .int .u8 0, .int .u8 0, .int .u8 0, .int .u8 0, .int .u8 0, .int .u8 0, .int .u8 0, .int .u8 0, .int .u8 0, .int .u8 0, .int .u8 0, .int .u8 0, .int .u8 0, .int .u8 0, .int .u8 0, .int .u8 0, .int .u8 0, .int .u8 0, .int .u8 0, .int .u8 0, .int .u8 0, .int .u8 0, .int .u64 0] _ rfl ((hP4.get 1 rfl).row _) Tryd.underlying27 rfl Hsd0.out) rfl ⟨by rw [He.out]; rfl, below_setRow hP4.old (by omega) _⟩
  have Hfin := Lib.hid (show forkV s N (strB l) = .tuple #[.agg (drC kk 0), .int .i64 0] by
    rw [forkV, if_pos (by rw [errF, if_neg Hh1.out, if_neg (Nat.not_lt_of_le (Hff.out.1 hf))]), hk]
    rfl)
  have Hsn := Lib.hid (sizeDr 0 Hkl.out)
  have Hon := Lib.hid (one_dr kk 0)
  have Hzn := Lib.hid (show (#[.int .u8 0, .int .u8 0, .int .u8 0, .int .u8 0, .int .u8 0, .int .u8 0, .int .u8 0, .int .u8 0, .int .u8 0, .int .u8 0, .int .u8 0, .int .u8 0, .int .u8 0, .int .u8 0, .int .u8 0, .int .u8 0, .int .u8 0, .int .u8 0, .int .u8 0, .int .u8 0, .int .u8 0, .int .u8 0, .int .u8 0, .int .u8 0, .int .u8 0, .int .u8 0, .int .u8 0, .int .u8 0, .int .u8 0, .int .u8 0, .int .u8 0, .int .u8 0, .int .u64 0] : Array Value).size = (drC kk 0).size by rw [drC_size 0 Hkl.out]; rfl)
  have Hbd := Lib.hid (fun wx => build_dr0 kk wx Hkl.out)
  clear hk hf
  go_wp2_with (first
    | ((with_reducible show wpList _ _ _ (⟨none, Op.store 24 _ _, _, _, _, _⟩ :: _) _ _); refine wpList_store_row rfl 24 (.tmp 7) (.tmp 21) rfl (w3.heap.size) (keyC kk) rfl rfl 24 _ (RowC.new _ _ _) Hsk.out Hzk.out Hok.out ?_)
    | ((with_reducible show wpList _ _ _ (⟨some 27, _, _, _, _, _⟩ :: _) _ _); refine wpList_loadC (by kernel_rfl) 24 (.tmp 7) rfl (w3.heap.size) rfl 24 (keyC kk) _ (hP4.get 0 rfl) Tryd.underlying24 rfl Hsk.out ?_)
    | ((with_reducible show wpList _ _ _ (⟨some 28, _, _, _, _, _⟩ :: _) _ _); refine wpList_buildP rfl 27 #[(0, .tmp 27)] rfl #[(0, .agg (keyC kk))] (by kernel_rfl) (drC kk 0) (Hbd.out _) ?_)
    | ((with_reducible show wpList _ _ _ (⟨none, Op.store 27 _ _, _, _, _, _⟩ :: _) _ _); refine wpList_store_row rfl 27 (.tmp 4) (.tmp 28) rfl (w.heap.size + 1) (drC kk 0) rfl rfl 27 _ (hP4.get 1 rfl) Hsn.out Hzn.out Hon.out ?_))
  exact bodyPost_ret (results_cell_two rfl _ _ (w.heap.size + 1) 27 (drC kk 0) _ rfl ((hP4.get 1 rfl).row _) Tryd.underlying27 rfl Hsn.out) rfl ⟨by rw [Hfin.out]; rfl, below_setRow hP4.old (by omega) _⟩

end Go.Proofs.YtgjeamapgdakcaaDoor

