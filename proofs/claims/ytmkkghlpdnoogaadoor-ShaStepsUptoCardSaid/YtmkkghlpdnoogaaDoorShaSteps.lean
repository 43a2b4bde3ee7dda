/-
  THE WALK of ShaSteps (coterielaw02), for texts of bounded size.
-/
import Derived.Test.YtmkkghlpdnoogaaDoorShaStepsA
set_option linter.unusedVariables false
namespace Go.Proofs.YtmkkghlpdnoogaaDoor
open Go.RowKit

theorem row_range {w : World} {cs : List Value} {t : TypeId} {g : Nat} (h : w.heap[g]? = some (.cells cs.toArray t (0, 0))) : w.rangeAt g 0 cs := fun j u hu => by
  rw [cell_of_row w _ _ _ _ (0, 0) h]
  simpa using hu

theorem own_max {w : World} {base k c : Nat} {e : TypeId} {A : Option Addr} {xs : List Value} (h : w.ownsRow base e 1 (.slice A k c) k xs) : k ≤ 9223372036854775807 := by
  rcases h.2 with ⟨_, h0⟩ | ⟨g, cap, cur, _, _, _, hnc, hcm, _⟩
  · omega
  · simp only [maxLen] at hcm
    omega
theorem ten {L : List Value} (h : L.length = 10) : ∃ a0 a1 a2 a3 a4 a5 a6 a7 a8 a9, L = [a0, a1, a2, a3, a4, a5, a6, a7, a8, a9] := by
  match L, h with
  | [a0, a1, a2, a3, a4, a5, a6, a7, a8, a9], _ => exact ⟨a0, a1, a2, a3, a4, a5, a6, a7, a8, a9, rfl⟩
theorem cells10 {w : World} {g : Nat} {a0 a1 a2 a3 a4 a5 a6 a7 a8 a9 : Value} (h : w.rangeAt g 0 [a0, a1, a2, a3, a4, a5, a6, a7, a8, a9]) : ((w.cell? ⟨g, 0, none⟩ = some a0 ∧ w.cell? ⟨g, 1, none⟩ = some a1) ∧ (w.cell? ⟨g, 2, none⟩ = some a2 ∧ (w.cell? ⟨g, 3, none⟩ = some a3 ∧ w.cell? ⟨g, 4, none⟩ = some a4))) ∧ ((w.cell? ⟨g, 5, none⟩ = some a5 ∧ w.cell? ⟨g, 6, none⟩ = some a6) ∧ (w.cell? ⟨g, 7, none⟩ = some a7 ∧ (w.cell? ⟨g, 8, none⟩ = some a8 ∧ w.cell? ⟨g, 9, none⟩ = some a9))) :=
  ⟨⟨⟨(by simpa using h 0 a0 rfl), (by simpa using h 1 a1 rfl)⟩, ⟨(by simpa using h 2 a2 rfl), ⟨(by simpa using h 3 a3 rfl), (by simpa using h 4 a4 rfl)⟩⟩⟩, ⟨⟨(by simpa using h 5 a5 rfl), (by simpa using h 6 a6 rfl)⟩, ⟨(by simpa using h 7 a7 rfl), ⟨(by simpa using h 8 a8 rfl), (by simpa using h 9 a9 rfl)⟩⟩⟩⟩
/-- a load under another name: a region's walk takes it cell by cell then -/
def opLd (t : TypeId) (x : Operand) : Op := .load t x
theorem row32 {L : List Value} (h : L.length = 32) : ∃ z0 z1 z2 z3 z4 z5 z6 z7 z8 z9 z10 z11 z12 z13 z14 z15 z16 z17 z18 z19 z20 z21 z22 z23 z24 z25 z26 z27 z28 z29 z30 z31, L = [z0, z1, z2, z3, z4, z5, z6, z7, z8, z9, z10, z11, z12, z13, z14, z15, z16, z17, z18, z19, z20, z21, z22, z23, z24, z25, z26, z27, z28, z29, z30, z31] := by
  match L, h with
  | [z0, z1, z2, z3, z4, z5, z6, z7, z8, z9, z10, z11, z12, z13, z14, z15, z16, z17, z18, z19, z20, z21, z22, z23, z24, z25, z26, z27, z28, z29, z30, z31], _ => exact ⟨z0, z1, z2, z3, z4, z5, z6, z7, z8, z9, z10, z11, z12, z13, z14, z15, z16, z17, z18, z19, z20, z21, z22, z23, z24, z25, z26, z27, z28, z29, z30, z31, rfl⟩

set_option maxRecDepth 1000000 in
set_option maxHeartbeats 2000000 in
theorem walk_ShaSteps (h : List UInt32) (n : Nat) (A : Option Addr) (k c : Nat) (rest : List UInt8) (h' : List UInt32) (n' : Nat) (A' : Option Addr) (k' c' : Nat) (rest' : List UInt8) (At : Option Addr) (m ct : Nat) (vs : List Value) (ts : List (List UInt8)) (w : World)
    (hh : h.length = 8) (hn : n < 18446744073709551616) (hkc : k ≤ c) (hcm : c ≤ maxLen) (hr : Rd w w.heap.size A k (rest.map bv))
    (hh' : h'.length = 8) (hn' : n' < 18446744073709551616) (hkc' : k' ≤ c') (hcm' : c' ≤ maxLen) (hr' : Rd w w.heap.size A' k' (rest'.map bv))
    (hmc : m ≤ ct) (hct : ct ≤ maxLen) (hv : Rd w w.heap.size At m vs) (ht : Txs w w.heap.size vs ts) (hK : KTab w) (hT : CTab w) (hu : ts.flatten.length + m ≤ 1048576) :
    Calls Tryd.prog 3 #[.agg (shaL h n (.slice A k c)).toArray, .agg (shaL h' n' (.slice A' k' c')).toArray, .slice At m ct] w fun e w' => e = .returned (.bool true) ∧ Below w.heap.size w w' := by
  have Hu := Lib.hid hu
  have u1 : m ≤ 5864062014805 := by omega
  have Hu2 := Lib.hid (show ts.flatten.length ≤ 1099511627776 by omega)
  have Hh := Lib.hid hh
  have Hh' := Lib.hid hh'
  have hkm : k ≤ 9223372036854775807 := by simp only [maxLen] at hcm; omega
  have hkm' : k' ≤ 9223372036854775807 := by simp only [maxLen] at hcm'; omega
  clear hu hh hh' hcm hcm'
  have hS : ShaAt ((w.alloc (.cells (shaL h n (.slice A k c)).toArray 27)).alloc (.cells (shaL h' n' (.slice A' k' c')).toArray 27)) w.heap.size h n (.slice A k c) := ShaAt.alloc ⟨Hh.out, heap_alloc_new _ _⟩ _
  have hO : ShaAt ((w.alloc (.cells (shaL h n (.slice A k c)).toArray 27)).alloc (.cells (shaL h' n' (.slice A' k' c')).toArray 27)) (w.heap.size + 1) h' n' (.slice A' k' c') := ⟨Hh'.out, heap_new (by simp) _⟩
  have hB : Below w.heap.size w ((w.alloc (.cells (shaL h n (.slice A k c)).toArray 27)).alloc (.cells (shaL h' n' (.slice A' k' c')).toArray 27)) := c_alloc (c_alloc (c_refl w) _) _
  go_enter Tryd.func3, Tryd.ntmps3
  go_wp2_with fail
  refine (live_any _ (hT.below hB)).mono ?_
  rintro e w2 ⟨rfl, hb2⟩
  have hS2 := hS.below hb2 hS.lt
  have hO2 := hO.below hb2 hO.lt
  have hB2 : Below w.heap.size w w2 := c_call hB hb2
  have cV2 := hS2.cellV
  have cO2 := hO2.cellV
  clear hS hO hB hb2
  by_cases hk2 : k ≤ 200
  rotate_left
  · have d1 : (200 : Int) < (k : Int) := by omega
    go_wp2_with (go_at_call 12; refine (Few_any At m ct vs ts _ _ u1 (d_rd hv hB2) (d_txs ht hB2)).mono ?_; rintro e wf ⟨bf, rfl, hbf, rfl⟩; clear hbf; cases bf)
    all_goals
      go_ret
      exact ⟨rfl, hB2⟩
  by_cases hk2' : k' ≤ 200
  rotate_left
  · have d1 : ¬ (200 : Int) < (k : Int) := by omega
    have d2 : (200 : Int) < (k' : Int) := by omega
    go_wp2_with (go_at_call 12; refine (Few_any At m ct vs ts _ _ u1 (d_rd hv hB2) (d_txs ht hB2)).mono ?_; rintro e wf ⟨bf, rfl, hbf, rfl⟩; clear hbf; cases bf)
    all_goals
      go_ret
      exact ⟨rfl, hB2⟩
  have d1 : ¬ (200 : Int) < (k : Int) := by omega
  have d2 : ¬ (200 : Int) < (k' : Int) := by omega
  go_wp2_with (go_at_call 12; refine (Few_any At m ct vs ts _ _ u1 (d_rd hv hB2) (d_txs ht hB2)).mono ?_; rintro e wf ⟨bf, rfl, hbf, rfl⟩; clear hbf; cases bf)
  · go_ret
    exact ⟨rfl, hB2⟩
  have hx1 := Copy_any A k c rest w2 (by omega) (d_rd hr hB2)
  have hsV := fun (wx : World) (hb : Below w2.heap.size w2 wx) => (hS2.below hb hS2.lt).cellV
  have hsH := fun (wx : World) (hb : Below w2.heap.size w2 wx) => (hS2.below hb hS2.lt).2
  have hoH := fun (wx : World) (hb : Below w2.heap.size w2 wx) => (hO2.below hb hO2.lt).2
  have hltO := hO2.lt
  have hP := fun (wx : World) (hb : Below w.heap.size w wx) => pWrite_all h n A k c rest At m ct vs ts wx Hh.out hn hkm (d_rd hr hb) u1 Hu2.out (d_rd hv hb) (d_txs ht hb) (hT.below hb)
  have hQ := fun (wx : World) (hb : Below w.heap.size w wx) => rWrite_all h n A k c rest At m ct vs ts wx Hh.out hn hkm (d_rd hr hb) u1 Hu2.out (d_rd hv hb) (d_txs ht hb) (hK.below hb)
  have hD := fun (wx : World) (hb : Below w.heap.size w wx) => pDone_all h n A k c rest wx Hh.out hn hkm (d_rd hr hb) (hT.below hb)
  have hE := fun (wx : World) (hb : Below w.heap.size w wx) => rDone_all h n A k c rest wx Hh.out hn hkm (d_rd hr hb) (hK.below hb)
  have hC := fun (wx : World) => Check_any h n A k c wx Hh.out hn hkm
  have hC' := fun (wx : World) => rCheck_any h n A k c wx Hh.out hn hkm
  have hM := fun (wx : World) (hb : Below w.heap.size w wx) => pSame_any h h' n n' A A' k c k' c' rest rest' wx Hh.out Hh'.out (d_rd hr hb) (d_rd hr' hb)
  have hM' := fun (wx : World) (hb : Below w.heap.size w wx) => rSame_any h h' n n' A A' k c k' c' rest rest' wx Hh.out Hh'.out (d_rd hr hb) (d_rd hr' hb)
  have hlr := wrU_len Hh.out n k rest (rest ++ ts.flatten) ts.flatten.length
  have hld := dnU_len Hh.out n k rest
  have his : (Tryd.prog.info? 27).map (·.size) = some ((shaL h n (.slice A k c)).toArray).size := by rw [infoSha]; simp [shaL_len Hh.out]
  have hio : (Tryd.prog.info? 27).map (·.size) = some ((shaL h' n' (.slice A' k' c')).toArray).size := by rw [infoSha]; simp [shaL_len Hh'.out]
  generalize wrU h n k rest (rest ++ ts.flatten) ts.flatten.length = r at *
  generalize dnU h n k rest = d at *
  generalize errC (chkU h n k) = ce at *
  generalize sameSha h n rest h' n' rest' = sb at *
  clear hS2 hO2 cO2
  generalize shaL h n (.slice A k c) = Ls at *
  generalize shaL h' n' (.slice A' k' c') = Lo at *
  obtain ⟨rh, rn, rl, re⟩ := r
  replace hsV := Lib.hid hsV
  replace hsH := Lib.hid hsH
  replace hoH := Lib.hid hoH
  replace hP := Lib.hid hP
  replace hQ := Lib.hid hQ
  replace hD := Lib.hid hD
  replace hE := Lib.hid hE
  replace hC := Lib.hid hC
  replace hC' := Lib.hid hC'
  replace hM := Lib.hid hM
  replace hM' := Lib.hid hM'
  replace his := Lib.hid his
  replace hio := Lib.hid hio
  have Hlr := Lib.hid (show rh.length = 8 from hlr)
  have Hld := Lib.hid hld
  have hir := fun (A : Option Addr) (k c : Nat) => (show (Tryd.prog.info? 27).map (·.size) = some ((shaL rh rn (.slice A k c)).toArray).size by rw [infoSha]; simp [shaL_len hlr])
  have hzr := fun (A : Option Addr) (k c : Nat) => (show (zeroSha.toArray).size = ((shaL rh rn (.slice A k c)).toArray).size by simp [shaL_len hlr]; rfl)
  replace hir := Lib.hid hir
  replace hzr := Lib.hid hzr
  have K1 := Lib.hid (show (Tryd.prog.info? 36).map (·.size) = some ((d.map bv).toArray).size by rw [info32]; simp [hld])
  have K2 := Lib.hid (show (((List.replicate 32 (0 : UInt8)).map bv).toArray).size = ((d.map bv).toArray).size by simp [hld])
  have K3 := Lib.hid (one_bvA d)
  clear hlr hld Hh Hh' hkm hkm' hn hn' Hu Hu2 u1 hkc' hct hmc hK hT hv ht hr'
  refine hx1.mono ?_
  clear hx1
  rintro e w3 ⟨A3, c3, rfl, hown3, hb3⟩
  have hr3 := Rd.of_own hown3
  have hB3 : Below w.heap.size w w3 := c_call hB2 hb3
  clear hown3 cV2
  go_wp2_with ((with_reducible show wpList _ _ _ (⟨some 40, _, _, _, _, _⟩ :: _) _ _); refine wpList_load_row rfl 27 (.tmp 3) rfl w.heap.size rfl 27 Ls.toArray (0, 0) _ (hsH.out _ hb3) Tryd.underlying27 rfl his.out ?_)
  refine (hP.out _ hB3).mono ?_
  rintro e w4 ⟨A4, k4, c4, rfl, hown4, hb4⟩
  have hO4 := OwnB.of hown4
  have hk4 := own_max hown4
  have hr4 := Rd.of_own hown4
  have hr34 := d_rd hr3 hb4
  have hb24 := c_call hb3 hb4
  have hB4 : Below w.heap.size w w4 := c_call hB3 hb4
  clear hown4
  go_wp2_with (first
    | ((with_reducible show wpList _ _ _ (⟨none, Op.store 27 (.tmp 9) _, _, _, _, _⟩ :: _) _ _); refine wpList_store_row rfl 27 (.tmp 9) (.tmp 43) rfl (w4.heap.size) (shaL rh rn (.slice A4 k4 c4)).toArray rfl rfl 27 (zeroSha).toArray (heap_alloc_new _ _) (hir.out _ _ _) (hzr.out _ _ _) (one_sha _ _ _ _ _) ?_; rw [World.setRow_alloc_new])
    | ((with_reducible show wpList _ _ _ (⟨some 46, _, _, _, _, _⟩ :: _) _ _); refine wpList_load_row rfl 27 (.tmp 3) rfl w.heap.size rfl 27 Ls.toArray (0, 0) _ (hsH.out _ (c_alloc hb24 _)) Tryd.underlying27 rfl his.out ?_))
  have hia := hir.out A4 k4 c4
  have hLa : ∀ wx : World, wx.heap[w4.heap.size]? = some (.cells (shaL rh rn (.slice A4 k4 c4)).toArray 27 (0, 0)) → wx.cell? ⟨w4.heap.size, 9, none⟩ = some (.slice A4 k4 c4) := fun wx h => ShaAt.cellV ⟨Hlr.out, h⟩
  have hsa := fun (A' : Option Addr) (k' c' : Nat) (wx : World) (hr : Rd wx wx.heap.size A4 k4 (rl.map bv)) (hr' : Rd wx wx.heap.size A' k' (rl.map bv)) => rSame_any rh rh rn rn A4 A' k4 c4 k' c' rl rl wx Hlr.out Hlr.out hr hr'
  simp only [sameSha_self] at hsa
  have hbA := c_alloc hb4 (.cells (shaL rh rn (.slice A4 k4 c4)).toArray 27)
  have hgA := heap_alloc_new w4 (.cells (shaL rh rn (.slice A4 k4 c4)).toArray 27)
  have hOA := hO4.below (d_al w4 (.cells (shaL rh rn (.slice A4 k4 c4)).toArray 27))
  have hrA := d_rd hr4 (d_al w4 (.cells (shaL rh rn (.slice A4 k4 c4)).toArray 27))
  have hlA : w4.heap.size < (w4.alloc (.cells (shaL rh rn (.slice A4 k4 c4)).toArray 27)).heap.size := by simp
  have hg9 : w3.heap.size ≤ w4.heap.size := hb4.size
  have hO4lt : ∀ g, A4 = some ⟨g, 0, none⟩ → 0 < k4 → g < w4.heap.size := fun g e h0 => by
    obtain ⟨b, o, e2, hb, _⟩ := hr4.pos h0
    rw [e] at e2
    injection e2 with e2
    injection e2 with e3
    omega
  replace hO4lt := Lib.hid hO4lt
  replace hLa := Lib.hid hLa
  replace hsa := Lib.hid hsa
  replace hia := Lib.hid hia
  clear hO4 hr4 hr34 hb24 hB4 hb4
  generalize w4.heap.size = g9 at *
  generalize shaL rh rn (.slice A4 k4 c4) = La at *
  generalize w4.alloc (.cells La.toArray 27) = wA at *
  have hcA := c_call hb3 hbA
  refine (hQ.out _ (c_call hB3 hbA)).mono ?_
  rintro e w5 ⟨A5, k5, c5, rfl, hr5, hb5⟩
  replace hsa := hsa.out A5 k5 c5
  have hib := hir.out A5 k5 c5
  have hbB := c_call hcA hb5
  go_wp2_with (first
    | ((with_reducible show wpList _ _ _ (⟨none, Op.store 27 (.tmp 11) _, _, _, _, _⟩ :: _) _ _); refine wpList_store_row rfl 27 (.tmp 11) (.tmp 49) rfl (w5.heap.size) (shaL rh rn (.slice A5 k5 c5)).toArray rfl rfl 27 (zeroSha).toArray (heap_alloc_new _ _) (hir.out _ _ _) (hzr.out _ _ _) (one_sha _ _ _ _ _) ?_; rw [World.setRow_alloc_new])
    | ((with_reducible show wpList _ _ _ (⟨some 52, _, _, _, _, _⟩ :: _) _ _); refine wpList_load_row rfl 27 (.tmp 3) rfl w.heap.size rfl 27 Ls.toArray (0, 0) _ (hsH.out _ (c_alloc hbB _)) Tryd.underlying27 rfl his.out ?_))
  have hbC := c_alloc (c_call (c_refl wA) hb5) (.cells (shaL rh rn (.slice A5 k5 c5)).toArray 27)
  have hgB := heap_alloc_new w5 (.cells (shaL rh rn (.slice A5 k5 c5)).toArray 27)
  have hrB := d_rd hr5 (d_al w5 (.cells (shaL rh rn (.slice A5 k5 c5)).toArray 27))
  have hlB : w5.heap.size < (w5.alloc (.cells (shaL rh rn (.slice A5 k5 c5)).toArray 27)).heap.size := by simp
  replace hsa := Lib.hid hsa
  replace hib := Lib.hid hib
  clear hr5 hb5 hbB
  generalize w5.heap.size = g11 at *
  generalize shaL rh rn (.slice A5 k5 c5) = Lb at *
  generalize w5.alloc (.cells Lb.toArray 27) = wB at *
  refine (hD.out _ (c_call hB3 (c_call hbA hbC))).mono ?_
  rintro e w6 ⟨rfl, hb6⟩
  have hbD := c_call hbC hb6
  have hbDs := c_call hcA hbD
  go_wp2_with (first
    | ((with_reducible show wpList _ _ _ (⟨none, Op.store 36 _ _, _, _, _, _⟩ :: _) _ _); refine wpList_store_row rfl 36 (.tmp 13) (.tmp 54) rfl (w6.heap.size) (d.map bv).toArray rfl rfl 36 ((List.replicate 32 (0 : UInt8)).map bv).toArray (heap_alloc_new _ _) K1.out K2.out K3.out ?_; rw [World.setRow_alloc_new])
    | ((with_reducible show wpList _ _ _ (⟨some 57, _, _, _, _, _⟩ :: _) _ _); refine wpList_load_row rfl 27 (.tmp 3) rfl w.heap.size rfl 27 Ls.toArray (0, 0) _ (hsH.out _ (c_alloc hbDs _)) Tryd.underlying27 rfl his.out ?_))
  have hbE := c_alloc (c_call (c_refl wB) hb6) (.cells (d.map bv).toArray 36)
  have hgD := heap_alloc_new w6 (.cells (d.map bv).toArray 36)
  have hlD : w6.heap.size < (w6.alloc (.cells (d.map bv).toArray 36)).heap.size := by simp
  clear hb6 hbD hbDs
  generalize w6.heap.size = g13 at *
  generalize w6.alloc (.cells (d.map bv).toArray 36) = wD at *
  refine (hE.out _ (c_call hB3 (c_call hbA (c_call hbC hbE)))).mono ?_
  rintro e w7 ⟨rfl, hb7⟩
  go_wp2_with ((with_reducible show wpList _ _ _ (⟨none, Op.store 36 _ _, _, _, _, _⟩ :: _) _ _); refine wpList_store_row rfl 36 (.tmp 15) (.tmp 59) rfl (w7.heap.size) (d.map bv).toArray rfl rfl 36 ((List.replicate 32 (0 : UInt8)).map bv).toArray (heap_alloc_new _ _) K1.out K2.out K3.out ?_; rw [World.setRow_alloc_new])
  have hbF := c_alloc (c_call (c_refl wD) hb7) (.cells (d.map bv).toArray 36)
  have hgE := heap_alloc_new w7 (.cells (d.map bv).toArray 36)
  clear hb7
  generalize w7.heap.size = g15 at *
  generalize w7.alloc (.cells (d.map bv).toArray 36) = wE at *
  have hbD := c_call hbE hbF
  have hbB := c_call hbC hbD
  have hBE : Below w.heap.size w wE := c_call hB3 (c_call hbA hbB)
  have hsE : Below w2.heap.size w2 wE := c_call hcA hbB
  have hrAE := d_rd hrA hbB
  have hrBE := d_rd hrB hbD
  have hkeep : ∀ wx : World, Below wE.heap.size wE wx → wx.rangeAt g9 0 La ∧ wx.rangeAt g11 0 Lb ∧ wx.rangeAt w.heap.size 0 Ls ∧ wx.rangeAt (w.heap.size + 1) 0 Lo ∧ wx.rangeAt g13 0 (d.map bv) ∧ wx.rangeAt g15 0 (d.map bv) := fun wx hb =>
    ⟨row_range (((c_call hbB hb).block _ hlA).trans hgA), row_range (((c_call hbD hb).block _ hlB).trans hgB), row_range (hsH.out _ (c_call hsE hb)), row_range (hoH.out _ (c_call hsE hb)), row_range (((c_call hbF hb).block _ hlD).trans hgD), row_range ((hb.block _ (Array.getElem?_eq_some_iff.1 hgE).1).trans hgE)⟩
  have hq := fun wx : World => key_same wx d Hld.out
  have hN := fun wx : World => rSame_any firstU firstU 0 0 none none 0 0 0 0 [] [] wx rfl rfl (Rd.zero _ _ _) (Rd.zero _ _ _)
  simp only [sameSha_self] at hN
  replace hN := Lib.hid hN
  have hss : ∀ s : Bool, (s == s) = true := by intro s; cases s <;> rfl
  have hzz : ∀ z : Int, (z == z) = true := fun z => by simp
  have hu1 := Tryd.underlying27
  have hu2 := Tryd.underlying36
  have i1 : (Tryd.prog.info? 27).map (·.size) = some La.length := by simpa using hia.out
  have i2 : (Tryd.prog.info? 27).map (·.size) = some Lb.length := by simpa using hib.out
  have i3 : (Tryd.prog.info? 27).map (·.size) = some Ls.length := by simpa using his.out
  have i4 : (Tryd.prog.info? 27).map (·.size) = some Lo.length := by simpa using hio.out
  have i5 : (Tryd.prog.info? 36).map (·.size) = some (d.map bv).length := by simpa using K1.out
  obtain ⟨x0, x1, x2, x3, x4, x5, x6, x7, x8, x9, rx⟩ := ten (L := La) (by rw [infoSha] at i1; exact (Option.some.inj i1).symm)
  obtain ⟨y0, y1, y2, y3, y4, y5, y6, y7, y8, y9, ry⟩ := ten (L := Lb) (by rw [infoSha] at i2; exact (Option.some.inj i2).symm)
  obtain ⟨s0, s1, s2, s3, s4, s5, s6, s7, s8, s9, rs⟩ := ten (L := Ls) (by rw [infoSha] at i3; exact (Option.some.inj i3).symm)
  obtain ⟨o0, o1, o2, o3, o4, o5, o6, o7, o8, o9, ro⟩ := ten (L := Lo) (by rw [infoSha] at i4; exact (Option.some.inj i4).symm)
  obtain ⟨z0, z1, z2, z3, z4, z5, z6, z7, z8, z9, z10, z11, z12, z13, z14, z15, z16, z17, z18, z19, z20, z21, z22, z23, z24, z25, z26, z27, z28, z29, z30, z31, rz⟩ := row32 (L := d.map bv) (by simp [Hld.out])
  rw [rz] at i5 hkeep hq
  clear i1 i2 i3 i4 rz
  subst rx ry rs ro
  have hkeep2 : ∀ wx : World, Below wE.heap.size wE wx → (((((wx.cell? ⟨g9, 0, none⟩ = some x0 ∧ wx.cell? ⟨g9, 1, none⟩ = some x1) ∧ (wx.cell? ⟨g9, 2, none⟩ = some x2 ∧ (wx.cell? ⟨g9, 3, none⟩ = some x3 ∧ wx.cell? ⟨g9, 4, none⟩ = some x4))) ∧ ((wx.cell? ⟨g9, 5, none⟩ = some x5 ∧ wx.cell? ⟨g9, 6, none⟩ = some x6) ∧ (wx.cell? ⟨g9, 7, none⟩ = some x7 ∧ (wx.cell? ⟨g9, 8, none⟩ = some x8 ∧ wx.cell? ⟨g9, 9, none⟩ = some x9)))) ∧ (((wx.cell? ⟨g11, 0, none⟩ = some y0 ∧ wx.cell? ⟨g11, 1, none⟩ = some y1) ∧ (wx.cell? ⟨g11, 2, none⟩ = some y2 ∧ (wx.cell? ⟨g11, 3, none⟩ = some y3 ∧ wx.cell? ⟨g11, 4, none⟩ = some y4))) ∧ ((wx.cell? ⟨g11, 5, none⟩ = some y5 ∧ wx.cell? ⟨g11, 6, none⟩ = some y6) ∧ (wx.cell? ⟨g11, 7, none⟩ = some y7 ∧ (wx.cell? ⟨g11, 8, none⟩ = some y8 ∧ wx.cell? ⟨g11, 9, none⟩ = some y9))))) ∧ ((((wx.cell? ⟨w.heap.size, 0, none⟩ = some s0 ∧ wx.cell? ⟨w.heap.size, 1, none⟩ = some s1) ∧ (wx.cell? ⟨w.heap.size, 2, none⟩ = some s2 ∧ (wx.cell? ⟨w.heap.size, 3, none⟩ = some s3 ∧ wx.cell? ⟨w.heap.size, 4, none⟩ = some s4))) ∧ ((wx.cell? ⟨w.heap.size, 5, none⟩ = some s5 ∧ wx.cell? ⟨w.heap.size, 6, none⟩ = some s6) ∧ (wx.cell? ⟨w.heap.size, 7, none⟩ = some s7 ∧ (wx.cell? ⟨w.heap.size, 8, none⟩ = some s8 ∧ wx.cell? ⟨w.heap.size, 9, none⟩ = some s9)))) ∧ (((wx.cell? ⟨w.heap.size + 1, 0, none⟩ = some o0 ∧ wx.cell? ⟨w.heap.size + 1, 1, none⟩ = some o1) ∧ (wx.cell? ⟨w.heap.size + 1, 2, none⟩ = some o2 ∧ (wx.cell? ⟨w.heap.size + 1, 3, none⟩ = some o3 ∧ wx.cell? ⟨w.heap.size + 1, 4, none⟩ = some o4))) ∧ ((wx.cell? ⟨w.heap.size + 1, 5, none⟩ = some o5 ∧ wx.cell? ⟨w.heap.size + 1, 6, none⟩ = some o6) ∧ (wx.cell? ⟨w.heap.size + 1, 7, none⟩ = some o7 ∧ (wx.cell? ⟨w.heap.size + 1, 8, none⟩ = some o8 ∧ wx.cell? ⟨w.heap.size + 1, 9, none⟩ = some o9)))))) ∧ (wx.rangeAt g13 0 [z0, z1, z2, z3, z4, z5, z6, z7, z8, z9, z10, z11, z12, z13, z14, z15, z16, z17, z18, z19, z20, z21, z22, z23, z24, z25, z26, z27, z28, z29, z30, z31] ∧ (wx.rangeAt g15 0 [z0, z1, z2, z3, z4, z5, z6, z7, z8, z9, z10, z11, z12, z13, z14, z15, z16, z17, z18, z19, z20, z21, z22, z23, z24, z25, z26, z27, z28, z29, z30, z31])) := fun wx hb =>
    ⟨⟨⟨cells10 (hkeep wx hb).1, cells10 (hkeep wx hb).2.1⟩, ⟨cells10 (hkeep wx hb).2.2.1, cells10 (hkeep wx hb).2.2.2.1⟩⟩, (hkeep wx hb).2.2.2.2⟩
  have hagg : ∀ wx : World, (isAgg 36).run Tryd.prog wx = .ok true wx := by
    intro wx
    unfold isAgg
    rw [Sem.run_bind, run_underlying hu2 wx]
    rfl
  have hsz : ∀ wx : World, (sizeOf 36).run Tryd.prog wx = .ok [z0, z1, z2, z3, z4, z5, z6, z7, z8, z9, z10, z11, z12, z13, z14, z15, z16, z17, z18, z19, z20, z21, z22, z23, z24, z25, z26, z27, z28, z29, z30, z31].length wx := by
    intro wx
    cases hqq : Tryd.prog.info? 36 with
    | none => simp [hqq] at i5
    | some i =>
      have hs : i.size = [z0, z1, z2, z3, z4, z5, z6, z7, z8, z9, z10, z11, z12, z13, z14, z15, z16, z17, z18, z19, z20, z21, z22, z23, z24, z25, z26, z27, z28, z29, z30, z31].length := by simpa [hqq] using i5
      simp [sizeOf, typeInfo, hqq, hs]
  have hlc : ∀ wx : World, wx.rangeAt g15 0 [z0, z1, z2, z3, z4, z5, z6, z7, z8, z9, z10, z11, z12, z13, z14, z15, z16, z17, z18, z19, z20, z21, z22, z23, z24, z25, z26, z27, z28, z29, z30, z31] → (loadCellsFrom ⟨g15, 0, none⟩ 0 [z0, z1, z2, z3, z4, z5, z6, z7, z8, z9, z10, z11, z12, z13, z14, z15, z16, z17, z18, z19, z20, z21, z22, z23, z24, z25, z26, z27, z28, z29, z30, z31].length #[]).run Tryd.prog wx = .ok [z0, z1, z2, z3, z4, z5, z6, z7, z8, z9, z10, z11, z12, z13, z14, z15, z16, z17, z18, z19, z20, z21, z22, z23, z24, z25, z26, z27, z28, z29, z30, z31].toArray wx := fun wx hc => run_loadCells_list (P := Tryd.prog) wx ⟨g15, 0, none⟩ [z0, z1, z2, z3, z4, z5, z6, z7, z8, z9, z10, z11, z12, z13, z14, z15, z16, z17, z18, z19, z20, z21, z22, z23, z24, z25, z26, z27, z28, z29, z30, z31] (fun j v hv => by rw [Addr.add_mid]; exact hc j v hv)
  replace hkeep := Lib.hid hkeep2
  clear hkeep2
  clear hir hzr K1 K2 K3 hP hQ hD hE hgE hgD hgB hbF hbE hbC
  rw [show Op.load 36 (.tmp 15) = opLd 36 (.tmp 15) from rfl]
  go_region_held3 (fun wx => (((((wx.cell? ⟨g9, 0, none⟩ = some x0 ∧ wx.cell? ⟨g9, 1, none⟩ = some x1) ∧ (wx.cell? ⟨g9, 2, none⟩ = some x2 ∧ (wx.cell? ⟨g9, 3, none⟩ = some x3 ∧ wx.cell? ⟨g9, 4, none⟩ = some x4))) ∧ ((wx.cell? ⟨g9, 5, none⟩ = some x5 ∧ wx.cell? ⟨g9, 6, none⟩ = some x6) ∧ (wx.cell? ⟨g9, 7, none⟩ = some x7 ∧ (wx.cell? ⟨g9, 8, none⟩ = some x8 ∧ wx.cell? ⟨g9, 9, none⟩ = some x9)))) ∧ (((wx.cell? ⟨g11, 0, none⟩ = some y0 ∧ wx.cell? ⟨g11, 1, none⟩ = some y1) ∧ (wx.cell? ⟨g11, 2, none⟩ = some y2 ∧ (wx.cell? ⟨g11, 3, none⟩ = some y3 ∧ wx.cell? ⟨g11, 4, none⟩ = some y4))) ∧ ((wx.cell? ⟨g11, 5, none⟩ = some y5 ∧ wx.cell? ⟨g11, 6, none⟩ = some y6) ∧ (wx.cell? ⟨g11, 7, none⟩ = some y7 ∧ (wx.cell? ⟨g11, 8, none⟩ = some y8 ∧ wx.cell? ⟨g11, 9, none⟩ = some y9))))) ∧ ((((wx.cell? ⟨w.heap.size, 0, none⟩ = some s0 ∧ wx.cell? ⟨w.heap.size, 1, none⟩ = some s1) ∧ (wx.cell? ⟨w.heap.size, 2, none⟩ = some s2 ∧ (wx.cell? ⟨w.heap.size, 3, none⟩ = some s3 ∧ wx.cell? ⟨w.heap.size, 4, none⟩ = some s4))) ∧ ((wx.cell? ⟨w.heap.size, 5, none⟩ = some s5 ∧ wx.cell? ⟨w.heap.size, 6, none⟩ = some s6) ∧ (wx.cell? ⟨w.heap.size, 7, none⟩ = some s7 ∧ (wx.cell? ⟨w.heap.size, 8, none⟩ = some s8 ∧ wx.cell? ⟨w.heap.size, 9, none⟩ = some s9)))) ∧ (((wx.cell? ⟨w.heap.size + 1, 0, none⟩ = some o0 ∧ wx.cell? ⟨w.heap.size + 1, 1, none⟩ = some o1) ∧ (wx.cell? ⟨w.heap.size + 1, 2, none⟩ = some o2 ∧ (wx.cell? ⟨w.heap.size + 1, 3, none⟩ = some o3 ∧ wx.cell? ⟨w.heap.size + 1, 4, none⟩ = some o4))) ∧ ((wx.cell? ⟨w.heap.size + 1, 5, none⟩ = some o5 ∧ wx.cell? ⟨w.heap.size + 1, 6, none⟩ = some o6) ∧ (wx.cell? ⟨w.heap.size + 1, 7, none⟩ = some o7 ∧ (wx.cell? ⟨w.heap.size + 1, 8, none⟩ = some o8 ∧ wx.cell? ⟨w.heap.size + 1, 9, none⟩ = some o9)))))) ∧ (wx.rangeAt g13 0 [z0, z1, z2, z3, z4, z5, z6, z7, z8, z9, z10, z11, z12, z13, z14, z15, z16, z17, z18, z19, z20, z21, z22, z23, z24, z25, z26, z27, z28, z29, z30, z31] ∧ (wx.rangeAt g15 0 [z0, z1, z2, z3, z4, z5, z6, z7, z8, z9, z10, z11, z12, z13, z14, z15, z16, z17, z18, z19, z20, z21, z22, z23, z24, z25, z26, z27, z28, z29, z30, z31])))
    (exact hkeep.out _ (by ((repeat (first | exact c_refl _ | refine c_drew ?_ | refine c_call ?_ (by assumption))); first | done | fail "open")))
    (first
      | (go_at_call 18; with_reducible refine (hsa.out _ (d_rd hrAE (by ((repeat (first | exact c_refl _ | refine c_drew ?_ | refine c_call ?_ (by assumption))); first | done | fail "open"))) (d_rd hrBE (by ((repeat (first | exact c_refl _ | refine c_drew ?_ | refine c_call ?_ (by assumption))); first | done | fail "open")))).mono ?_; rintro e wx1 ⟨rfl, hx1⟩)
      | (go_at_call 19; with_reducible refine (hC.out _).mono ?_; rintro e wx2 ⟨rfl, hx2⟩)
      | (go_at_call 20; with_reducible refine (hC'.out _).mono ?_; rintro e wx3 ⟨rfl, hx3⟩)
      | (go_at_call 21; with_reducible refine (hM.out _ (c_call hBE (by ((repeat (first | exact c_refl _ | refine c_drew ?_ | refine c_call ?_ (by assumption))); first | done | fail "open")))).mono ?_; rintro e wx4 ⟨rfl, hx4⟩)
      | (go_at_call 18; with_reducible refine (hM'.out _ (c_call hBE (by ((repeat (first | exact c_refl _ | refine c_drew ?_ | refine c_call ?_ (by assumption))); first | done | fail "open")))).mono ?_; rintro e wx5 ⟨rfl, hx5⟩)
      | (go_at_call 22; with_reducible refine (New_any _).mono ?_; rintro e wx6 ⟨rfl, hx6⟩)
      | (go_at_call 23; with_reducible refine (rNew_any _).mono ?_; rintro e wx7 ⟨rfl, hx7⟩)
      | (go_at_call 18; with_reducible refine (hN.out _).mono ?_; rintro e wx8 ⟨rfl, hx8⟩)
      | ((with_reducible show Oper.upon _ _ _ _ _ _); dsimp only [opLd]; simp only [List.getElem?_cons_succ, List.getElem?_cons_zero, Option.getD_some, Sem.run_bind, Sem.run_pure, Sem.run_map, Result.andThen_ok, hagg, if_true, hsz, hlc _ (by go_split_ands; assumption), Oper.upon_value, Act.put, List.setIfInBounds_toArray, List.set_cons_zero, List.set_cons_succ]))
  have bF : Below wE.heap.size wE wx8 := (by ((repeat (first | exact c_refl _ | refine c_drew ?_ | refine c_call ?_ (by assumption))); first | done | fail "open"))
  have bAF := c_call hbB bF
  have hOF := hOA.below bAF
  have hgF := (bAF.block _ hlA).trans hgA
  have b3F := c_call hbA bAF
  clear hkeep hsa hC hC' hM hM' hN hq hagg hsz hlc hx1 hx2 hx3 hx4 hx5 hx6 hx7 hx8 bAF bF hrAE hrBE hOA hrA hgA hlA hbA hcA hsE hBE hbB hbD hrB hlB hlD hoH i5 hu1 hu2 hia hib his hio
  rename_i hHeld
  clear hHeld
  have e9 : x9 = .slice A4 k4 c4 := by
    have h1 := row_range hgF 9 x9 rfl
    rw [Nat.zero_add, hLa.out _ hgF] at h1
    exact (Option.some.inj h1).symm
  subst e9
  have c9 := hLa.out _ hgF
  go_wp2_with fail
  go_loopw [103] (fun i wr => ∃ j : Nat, j ≤ k4 ∧ i = .int .i64 (j : Int) ∧ OwnB wr w3.heap.size A4 k4 ∧ wr.heap[g9]? = some (.cells #[x0, x1, x2, x3, x4, x5, x6, x7, x8, .slice A4 k4 c4] 27 (0, 0)) ∧ Below w3.heap.size w3 wr) (fun i _ => k4 - (intOf i).toNat)
  case atStart => exact ⟨0, by omega, rfl, hOF, hgF, b3F⟩
  case round =>
    clear c9 hOF hgF b3F
    obtain ⟨j, hj, rfl, hO, hg, hB⟩ := hrel
    have c9 := hLa.out _ hg
    by_cases hlt : j < k4
    · obtain ⟨g, rfl, hgb, ⟨x, hx⟩, hf, hset⟩ := hO.get hlt
      have hne : g < g9 := hO4lt.out g rfl (by omega)
      obtain ⟨y, hy⟩ : ∃ y : UInt8, IntKind.u8.wrap ((x.toNat : Int) + 1) = (y.toNat : Int) := ⟨x + 1, by
        rw [IntKind.wrap_u8, UInt8.toNat_add]
        simp⟩
      have hO2 := hset y
      have hg2 : (wr.setCell ⟨g, j, none⟩ (.int .u8 (y.toNat : Int))).heap[g9]? = some (.cells #[x0, x1, x2, x3, x4, x5, x6, x7, x8, .slice (some ⟨g, 0, none⟩) k4 c4] 27 (0, 0)) := (Below.heap_setCell _ _ _ _ (by simp; omega)).trans hg
      have hB2 : Below w3.heap.size w3 (wr.setCell ⟨g, j, none⟩ (.int .u8 (y.toNat : Int))) := hB.setCell hgb _
      have j0 : 0 ≤ (j : Int) := by omega
      have j1 : (j : Int) < (k4 : Int) := by omega
      clear hset hO hg hB
      go_wp2_with fail
      go_roundw
      case rel => exact ⟨j + 1, by omega, by go_num, hO2, hg2, hB2⟩
      case measure => simp [intOf]; omega
    · obtain rfl : j = k4 := by omega
      have cV := hsV.out _ (c_call hb3 hB)
      go_wp2_with (go_at_call 24; refine (Same_any A A3 k c k c3 rest rest _ _ _ (d_rd hr (c_call hB3 hB)) (hr3.below hB)).mono ?_; rintro e wz ⟨rfl, rfl⟩; rw [sameB_refl])
      go_ret
      exact ⟨rfl, c_call hB3 hB⟩

end Go.Proofs.YtmkkghlpdnoogaaDoor
