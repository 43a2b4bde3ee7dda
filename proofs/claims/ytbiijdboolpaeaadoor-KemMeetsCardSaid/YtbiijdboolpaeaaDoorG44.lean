import Derived.Test.YtbiijdboolpaeaaDoorG42
import Derived.Test.YtbiijdboolpaeaaDoorG29
import Derived.Test.YtbiijdboolpaeaaDoorG31
import Derived.Test.YtbiijdboolpaeaaDoorG12
import Derived.Test.YtbiijdboolpaeaaDoorG43
import Derived.Test.YtbiijdboolpaeaaDoorG04
set_option linter.unusedVariables false
namespace Go.Proofs.YtbiijdboolpaeaaDoor
open Go.RowKit
set_option maxRecDepth 100000 in
set_option maxHeartbeats 2000000 in
theorem PExp_stream (k : List UInt8) (w : World) (hk : k.length = 32) (hT : CTab w) :
  Calls Tryd.prog 39 #[.agg (k.map bv).toArray, .string ⟨#[115, 116, 114, 101, 97, 109]⟩, .int .i64 28] w fun e w' =>
   ∃ A c, e = .returned (.slice A 28 c) ∧ 28 ≤ c ∧ Rd w' w'.heap.size A 28 ((expandU k streamL 28).map bv) ∧ Below w.heap.size w w' := by
 have Hk := Lib.hid hk
 have hA4 : ArrB (w.alloc (.cells (k.map bv).toArray 23)) w.heap.size 23 k := ArrB.mk_ _ _ _ _ rfl rfl
 have hB4 := d_al w (.cells (k.map bv).toArray 23)
 clear hk
 go_enter Tryd.func39, Tryd.ntmps39
 go_upto_region 1 with (fail)
 generalize w.alloc (.cells (k.map bv).toArray 23) = w4 at *
 go_wp2_with ((with_reducible refine tdQ 10 ?_); refine wpList_load_row rfl 23 (.tmp 3) rfl (w.heap.size) rfl 23 (k.map bv).toArray (0, 0) _ (hA4) Tryd.underlying23 rfl (infoK32 Hk.out) ?_)
 obtain ⟨cf, wf, hcv, hC⟩ := conv_any ⟨#[115, 116, 114, 101, 97, 109]⟩
 have K0 := Lib.hid (hcv w4)
 rw [K0.out]
 clear K0
 have hcc := hC w4
 have f0 := hcc.rd
 have f3 := hcc.cap
 have f2 := hcc.below
 rw [show strB ⟨#[115, 116, 114, 101, 97, 109]⟩ = streamL from rfl] at f0
 have f1 : Rd (wf w4) (wf w4).heap.size (some ⟨w4.heap.size, 0, none⟩) 6 (streamL.map bv) := f0
 have f4 : 6 ≤ cf w4 := f3
 rw [show ByteArray.size ⟨#[115, 116, 114, 101, 97, 109]⟩ = 6 from rfl]
 clear hcv hC hcc f0 f3
 generalize cf w4 = cc at *
 generalize wf w4 = wa at *
 have hBa := c_call hB4 f2
 go_wp2_with fail
 have hcall := Expand_ok k (some ⟨w4.heap.size, 0, none⟩) 6 cc streamL 28 wa Hk.out (by omega) (by omega) (by omega) f1 (hT.below hBa)
 rw [show ((28 : Nat) : Int) = 28 from rfl] at hcall
 refine hcall.mono ?_
 rintro e w8 ⟨A8, c8, rfl, hc8, hr8, hb8⟩
 go_wp2_with fail
 go_ret
 exact ⟨A8, c8, rfl, hc8, hr8, c_call hBa hb8⟩
set_option maxRecDepth 100000 in
set_option maxHeartbeats 2000000 in
theorem PExp_sum (k : List UInt8) (w : World) (hk : k.length = 32) (hT : CTab w) :
  Calls Tryd.prog 39 #[.agg (k.map bv).toArray, .string ⟨#[115, 117, 109]⟩, .int .i64 32] w fun e w' =>
   ∃ A c, e = .returned (.slice A 32 c) ∧ 32 ≤ c ∧ Rd w' w'.heap.size A 32 ((expandU k sumL 32).map bv) ∧ Below w.heap.size w w' := by
 have Hk := Lib.hid hk
 have hA4 : ArrB (w.alloc (.cells (k.map bv).toArray 23)) w.heap.size 23 k := ArrB.mk_ _ _ _ _ rfl rfl
 have hB4 := d_al w (.cells (k.map bv).toArray 23)
 clear hk
 go_enter Tryd.func39, Tryd.ntmps39
 go_upto_region 1 with (fail)
 generalize w.alloc (.cells (k.map bv).toArray 23) = w4 at *
 go_wp2_with ((with_reducible refine tdQ 10 ?_); refine wpList_load_row rfl 23 (.tmp 3) rfl (w.heap.size) rfl 23 (k.map bv).toArray (0, 0) _ (hA4) Tryd.underlying23 rfl (infoK32 Hk.out) ?_)
 obtain ⟨cf, wf, hcv, hC⟩ := conv_any ⟨#[115, 117, 109]⟩
 have K0 := Lib.hid (hcv w4)
 rw [K0.out]
 clear K0
 have hcc := hC w4
 have f0 := hcc.rd
 have f3 := hcc.cap
 have f2 := hcc.below
 rw [show strB ⟨#[115, 117, 109]⟩ = sumL from rfl] at f0
 have f1 : Rd (wf w4) (wf w4).heap.size (some ⟨w4.heap.size, 0, none⟩) 3 (sumL.map bv) := f0
 have f4 : 3 ≤ cf w4 := f3
 rw [show ByteArray.size ⟨#[115, 117, 109]⟩ = 3 from rfl]
 clear hcv hC hcc f0 f3
 generalize cf w4 = cc at *
 generalize wf w4 = wa at *
 have hBa := c_call hB4 f2
 go_wp2_with fail
 have hcall := Expand_ok k (some ⟨w4.heap.size, 0, none⟩) 3 cc sumL 32 wa Hk.out (by omega) (by omega) (by omega) f1 (hT.below hBa)
 rw [show ((32 : Nat) : Int) = 32 from rfl] at hcall
 refine hcall.mono ?_
 rintro e w8 ⟨A8, c8, rfl, hc8, hr8, hb8⟩
 go_wp2_with fail
 go_ret
 exact ⟨A8, c8, rfl, hc8, hr8, c_call hBa hb8⟩
set_option maxRecDepth 100000 in
set_option maxHeartbeats 2000000 in
theorem PStream_any (k b : List UInt8) (A : Option Addr) (m c : Nat) (w : World) (hk : k.length = 32) (hr : Rd w w.heap.size A m (b.map bv)) (hm : m ≤ 1048576) (hT : CTab w) :
  Calls Tryd.prog 21 #[.agg (k.map bv).toArray, .slice A m c] w fun e w' =>
   ∃ A' c', e = .returned (.slice A' m c') ∧ w'.ownsRow w.heap.size 5 1 (.slice A' m c') m ((streamU k b).map bv) ∧ Below w.heap.size w w' := by
 have Hk := Lib.hid hk
 have hA4 : ArrB (w.alloc (.cells (k.map bv).toArray 23)) w.heap.size 23 k := ArrB.mk_ _ _ _ _ rfl rfl
 have hB4 := d_al w (.cells (k.map bv).toArray 23)
 have hx28 := expandU_len k streamL 28
 have Hst := Lib.hid (show streamU k b = ctrU ((expandU k streamL 28).take 16) ((expandU k streamL 28).drop 16) 0 b from rfl)
 have Hkb := Lib.hid (streamK_len k)
 have Hnb := Lib.hid (streamN_len k)
 clear hk
 go_enter Tryd.func21, Tryd.ntmps21
 go_upto_region 1 with (fail)
 generalize w.alloc (.cells (k.map bv).toArray 23) = w4 at *
 go_wp2_with ((with_reducible refine tdQ 8 ?_); refine wpList_load_row rfl 23 (.tmp 2) rfl (w.heap.size) rfl 23 (k.map bv).toArray (0, 0) _ (hA4) Tryd.underlying23 rfl (infoK32 Hk.out) ?_)
 refine (PExp_stream k w4 Hk.out (hT.below hB4)).mono ?_
 rintro e w8 ⟨A8, c8, rfl, hc8, hr8, hb8⟩
 clear hA4
 have hB8 := c_call hB4 hb8
 have hrb := d_rd hr hB8
 clear hb8 hB4 hr
 obtain ⟨x, hx⟩ : ∃ x, x = expandU k streamL 28 := ⟨_, rfl⟩
 rw [← hx] at hr8 hx28 Hst Hkb Hnb
 clear hx
 obtain ⟨ba, o, rfl, hba, hcell⟩ := hr8.pos (by omega)
 clear hcell
 have hk0 : ∀ wx : World, Below w8.heap.size w8 wx → wx.rangeAt ba o ((x.take 16).map bv) ∧ wx.rangeAt ba (o + 16) ((x.drop 16).map bv) := fun wx hb => by
  obtain ⟨b', o', he, _, hcz⟩ := (hr8.below hb).pos (by omega)
  injection he with he
  injection he with he1 he2
  subst he1 he2
  refine ⟨fun j u hu => hcz j u ?_, fun j u hu => ?_⟩
  ·
   rw [List.map_take, List.getElem?_take] at hu
   split at hu
   ·
    exact hu
   ·
    cases hu
  ·
   rw [List.map_drop, List.getElem?_drop] at hu
   have := hcz (16 + j) u hu
   rwa [← Nat.add_assoc] at this
 generalize x.take 16 = kb at *
 generalize x.drop 16 = nb at *
 have hB16 : (Tryd.prog.info? 69).map (·.size) = some (kb.map bv).length := by rw [infoBk, List.length_map, Hkb.out]
 have hN12 : (Tryd.prog.info? 71).map (·.size) = some (nb.map bv).length := by rw [infoNc, List.length_map, Hnb.out]
 have hub := Tryd.underlying69
 have hun := Tryd.underlying71
 have hat1 : ∀ wx : World, (Instr.arrayAt 69 (.slice (some ⟨ba, o, none⟩) 28 c8)).run Tryd.prog wx = .ok (.pointer (some ⟨ba, o, none⟩)) wx := fun wx => run_arrayAt (P := Tryd.prog) (w := wx) 69 5 16 (some ⟨ba, o, none⟩) 28 c8 Tryd.underlying69 (by omega)
 have hat3 : ∀ wx : World, (Instr.arrayAt 69 (.slice (some ⟨ba, o, none⟩) 16 c8)).run Tryd.prog wx = .ok (.pointer (some ⟨ba, o, none⟩)) wx := fun wx => run_arrayAt (P := Tryd.prog) (w := wx) 69 5 16 (some ⟨ba, o, none⟩) 16 c8 Tryd.underlying69 (by omega)
 have hat2 : ∀ wx : World, (Instr.arrayAt 71 (.slice (some ⟨ba, o + 16, none⟩) 12 (c8 - 16))).run Tryd.prog wx = .ok (.pointer (some ⟨ba, o + 16, none⟩)) wx := fun wx => run_arrayAt (P := Tryd.prog) (w := wx) 71 5 12 (some ⟨ba, o + 16, none⟩) 12 (c8 - 16) Tryd.underlying71 (by omega)
 have hk28 : (28 : Int) ≤ (c8 : Int) := by omega
 have hk16 : (16 : Int) ≤ (c8 : Int) := by omega
 have hne16 : ¬ c8 = 16 := by omega
 have hctr := fun wx (hb : Below w8.heap.size w8 wx) => Ctr_ok kb nb b 0 m c A wx Hkb.out Hnb.out (by omega) (d_rd hrb hb) hm (by unfold nbs; omega)
 rw [show ((0 : Nat) : Int) = 0 from rfl, ← Hst.out] at hctr
 have Hctr := Lib.hid hctr
 clear hctr
 go_wp2_with fail
 refine beginT (fun wx => wx.rangeAt ba o (kb.map bv) ∧ wx.rangeAt ba (o + 16) (nb.map bv)) 14 (by kernel_rfl) ?_
 have hS := hk0 _ (c_drew (c_refl _))
 refine tk 0 (some 11) (.slice (some ⟨ba, o, none⟩) 28 c8) (fun _ _ _ h => h) hS ?_
 simp only [Act.put, sA, sZ, sS]
 refine tk 1 (some 12) (.slice (some ⟨ba, o, none⟩) 16 c8) (fun _ _ _ h => h) hS ?_
 simp only [Act.put, sA, sZ, sS]
 refine tk 2 (some 13) (.pointer (some ⟨ba, o, none⟩)) (fun _ _ _ h => h) hS ?_
 simp only [Act.put, sA, sZ, sS]
 refine ldQ 3 (some 14) 69 (.tmp 13) ba o (kb.map bv) (fun wx hSw => hSw.1) hub hB16 (fun _ _ _ h => h) hS ?_
 simp only [Act.put, sA, sZ, sS]
 refine tk 4 (some 15) (.slice (some ⟨ba, o, none⟩) 28 c8) (fun _ _ _ h => h) hS ?_
 simp only [Act.put, sA, sZ, sS]
 refine tk 5 (some 16) (.slice (some ⟨ba, o + 16, none⟩) 12 (c8 - 16)) (fun _ _ _ h => h) hS ?_
 simp only [Act.put, sA, sZ, sS]
 refine tk 6 (some 17) (.pointer (some ⟨ba, o + 16, none⟩)) (fun _ _ _ h => h) hS ?_
 simp only [Act.put, sA, sZ, sS]
 refine ldQ 7 (some 18) 71 (.tmp 17) ba (o + 16) (nb.map bv) (fun wx hSw => hSw.2) hun hN12 (fun _ _ _ h => h) hS ?_
 simp only [Act.put, sA, sZ, sS]
 refine tk 8 (some 19) (.slice A m c) (fun _ _ _ h => h) hS ?_
 simp only [Act.put, sA, sZ, sS]
 refine on1 9 fun K hK => ?_
 go_simp
 refine (Hctr.out _ bl).mono ?_
 rintro e w9 ⟨A9, c9, rfl, ho9, hb9⟩
 refine kp hK hk0 ?_
 clear hK K
 have hS2 := hk0 w9 bl
 refine tk 10 (some 10) (.tuple #[.slice A9 m c9, .int .i64 0]) (fun _ _ _ h => h) hS2 ?_
 simp only [Act.put, sA, sZ, sS]
 refine tk 11 (some 21) (.slice A9 m c9) (fun _ _ _ h => h) hS2 ?_
 simp only [Act.put, sA, sZ, sS]
 refine tk 12 (some 22) (.int .i64 0) (fun _ _ _ h => h) hS2 ?_
 simp only [Act.put, sA, sZ, sS]
 refine on1 13 fun K hK => ?_
 go_simp
 refine hK.out _ _ (fun _ => hS2) ?_
 clear hK K
 refine on1 14 fun K hK => ?_
 go_simp
 refine hK.out _ _ (fun h => absurd rfl h) ?_
 clear hK K
 refine doneT (by kernel_rfl) ?_ _
 have hE : Below w8.heap.size w8 w9 := by
  repeat (first | exact c_refl _ | refine c_drew ?_ | refine c_alloc ?_ _ | refine c_call ?_ hb9)
 go_wp2_with fail
 go_ret
 exact ⟨A9, c9, rfl, own_base ho9 (by simpa using hB8.size), c_call hB8 hE⟩
def tagOf (k x : List UInt8) : List UInt8 := (macU (expandU k sumL 32) x).take 16
theorem tagOf_tagU (k hidden : List UInt8) (ts : List (List UInt8)) : tagOf k (besideU ts ++ hidden) = tagU k hidden ts := rfl
set_option maxRecDepth 100000 in
set_option maxHeartbeats 2000000 in
theorem PTagged_any (k tx b : List UInt8) (At : Option Addr) (mt ct : Nat) (A : Option Addr) (m c : Nat) (w : World) (hk : k.length = 32) (hct : mt ≤ ct) (hmc : m ≤ c) (hrt : Rd w w.heap.size At mt (tx.map bv)) (hr : Rd w w.heap.size A m (b.map bv)) (hlen : mt + m ≤ 1073741824) (hT : CTab w) :
  Calls Tryd.prog 22 #[.agg (k.map bv).toArray, .slice At mt ct, .slice A m c] w fun e w' =>
   ∃ g, w.heap.size ≤ g ∧ e = .returned (.slice (some ⟨g, 0, none⟩) 16 32) ∧ Rd w' w'.heap.size (some ⟨g, 0, none⟩) 16 ((tagOf k (tx ++ b)).map bv) ∧ Below w.heap.size w w' := by
 have Hk := Lib.hid hk
 have Htl := Lib.hid (show tx.length = mt by simpa using hrt.len)
 have Hbl := Lib.hid (show b.length = m by simpa using hr.len)
 have hA4 : ArrB (w.alloc (.cells (k.map bv).toArray 23)) w.heap.size 23 k := ArrB.mk_ _ _ _ _ rfl rfl
 have hB4 := d_al w (.cells (k.map bv).toArray 23)
 clear hk
 go_enter Tryd.func22, Tryd.ntmps22
 go_upto_region 1 with (fail)
 generalize w.alloc (.cells (k.map bv).toArray 23) = w4 at *
 go_wp2_with ((with_reducible refine tdQ 8 ?_); refine wpList_load_row rfl 23 (.tmp 3) rfl (w.heap.size) rfl 23 (k.map bv).toArray (0, 0) _ (hA4) Tryd.underlying23 rfl (infoK32 Hk.out) ?_)
 refine (PExp_sum k w4 Hk.out (hT.below hB4)).mono ?_
 rintro e w8 ⟨A8, c8, rfl, hc8, hr8, hb8⟩
 clear hA4
 have hB8 := c_call hB4 hb8
 have hr8a := d_rd hrt hB8
 have hr8t := d_rd hr hB8
 have Hxl := Lib.hid (expandU_len k sumL 32)
 have Htg := Lib.hid (show tagOf k (tx ++ b) = (macU (expandU k sumL 32) (tx ++ b)).take 16 from rfl)
 clear hb8 hB4 hr hrt
 generalize expandU k sumL 32 = xs at *
 have hal := d_al w8 (.cells #[.slice At mt ct, .slice A m c] 24)
 have hmac := Mac_any A8 32 c8 xs (some ⟨w8.heap.size, 0, none⟩) 2 2 [.slice At mt ct, .slice A m c] [tx, b] (w8.alloc (.cells #[.slice At mt ct, .slice A m c] 24)) hc8 (by omega) (by omega) (by omega) (by rw [two_flat]; simp only [List.length_append, Htl.out, Hbl.out]; omega) (d_rd hr8 hal) (Rd.mk_ _ _ _ rfl (by simp) rfl rfl)
  (Txs.cons (txs_one1 Htl.out hct (d_rd hr8a hal)) (txs_one1 Hbl.out hmc (d_rd hr8t hal))) (hT.below (c_call hB8 hal))
 rw [two_flat] at hmac
 go_wp2_with fail
 refine hmac.mono ?_
 rintro e w9 ⟨rfl, hb9⟩
 have hB9 := c_call (c_call hB8 hal) hb9
 have Hml := Lib.hid (macU_len xs (tx ++ b))
 clear hmac hb9 hal hr8 hr8a hr8t hB8
 generalize macU xs (tx ++ b) = mc at *
 have hQ : ArrB (w9.alloc (.cells (mc.map bv).toArray 23)) w9.heap.size 23 mc := ArrB.mk_ _ _ _ _ rfl rfl
 have hrQ := (hQ.rd Hml.out).take (show 16 ≤ 32 by omega)
 rw [← List.map_take, ← Htg.out] at hrQ
 go_wp2_with ((with_reducible refine tsQ 23 ?_); refine srQ 23 (.tmp 7) (.tmp 13) w9.heap.size (mc.map bv).toArray ((List.replicate 32 (0 : UInt8)).map bv).toArray (heap_alloc_new _ _) (infoK32 Hml.out) (sizeK Hml.out) (one_bvA _) ?_; rw [World.setRow_alloc_new])
 go_ret
 exact ⟨w9.heap.size, hB9.size, rfl, hrQ, c_alloc hB9 _⟩
set_option maxHeartbeats 1000000 in
theorem PCounted_any (At : Option Addr) (mt ct : Nat) (vs : List Value) (ts : List (List UInt8)) (w : World) (hmt : mt ≤ 1048576) (htx : GoodT ts → (txs ts).length ≤ 536870912) (hv : Rd w w.heap.size At mt vs) (ht : Txs w w.heap.size vs ts) :
  Calls Tryd.prog 20 #[.slice At mt ct] w fun e w' => Below w.heap.size w w' ∧
   ((GoodT ts ∧ ∃ A n c, e = .returned (.tuple #[.slice A n c, .int .i64 0]) ∧ n ≤ 536870916 ∧ n ≤ c ∧ Rd w' w'.heap.size A n ((besideU ts).map bv)) ∨ (¬ GoodT ts ∧ e = .returned (.tuple #[.slice none 0 0, .int .i64 4]))) := by
 have Htl := Lib.hid (show ts.length = mt by rw [← ht.1]; exact hv.len)
 go_enter Tryd.func20, Tryd.ntmps20
 go_wp2_with fail
 refine (Text_any none 0 0 [] At mt ct vs ts w (by omega) hmt (Rd.zero _ _ _) hv ht).mono ?_
 intro e w5 hP
 by_cases hg : GoodT ts
 rotate_left
 ·
  obtain ⟨rfl, hb5⟩ := hP.no hg
  go_wp2_with fail
  exact bodyPost_ret (results_tmp2 rfl _ _ _) rfl ⟨hb5, .inr ⟨hg, rfl⟩⟩
 obtain ⟨A5, n, c5, rfl, hown5, hnc, hln0, hb5⟩ := hP.yes hg
 rw [List.nil_append] at hown5 hln0
 have hln : n ≤ 536870912 := by rw [hln0.out]; exact htx hg
 have hwm : IntKind.u64.wrap (mt : Int) = (mt : Int) := by rw [IntKind.wrap_u64]; omega
 have hr5 := Rd.of_own hown5
 clear hP hown5 hv ht
 have hal := d_al w5 (.cells #[.int .u64 (mt : Int)] 48)
 have hcall := Num_any A5 n c5 (txs ts) 4 (some ⟨w5.heap.size, 0, none⟩) 1 1 [mt] (w5.alloc (.cells #[.int .u64 (mt : Int)] 48)) (by omega) (by omega) (d_rd hr5 hal) (Rd.mk_ _ _ _ rfl (by simp) rfl rfl) (fun i x hx => by
  have := List.mem_of_getElem? hx
  rw [List.mem_singleton] at this
  omega)
 go_wp2_with fail
 refine hcall.mono ?_
 intro e w6 hN
 obtain ⟨A6, n6, c6, rfl, hown6, hnc6, hl6, hb6⟩ := hN.yes ⟨by omega, by omega, fun i x hx => by
  have := List.mem_of_getElem? hx
  rw [List.mem_singleton] at this
  show x < 256 ^ 4
  omega⟩
 have hbes : txs ts ++ nums (4 : Int).toNat [mt] = besideU ts := by rw [besideU, Htl.out]; simp [nums]
 rw [hbes] at hown6 hl6
 have hlen6 : n6 ≤ 536870916 := by rw [hl6.out, besideU, List.length_append, be_length, ← hln0.out]; omega
 go_wp2_with fail
 exact bodyPost_ret (results_tmp2 rfl _ _ _) rfl ⟨c_call (c_call hb5 hal) hb6, .inl ⟨hg, A6, n6, c6, rfl, hlen6, hnc6, Rd.of_own hown6⟩⟩
end Go.Proofs.YtbiijdboolpaeaaDoor
