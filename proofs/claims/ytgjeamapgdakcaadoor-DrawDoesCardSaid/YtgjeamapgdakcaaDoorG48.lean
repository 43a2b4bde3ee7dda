import Derived.Test.YtgjeamapgdakcaaDoorG32
import Derived.Test.YtgjeamapgdakcaaDoorG30
/-
  CONTRACT of the document's own Fork (coterieref09).
-/
set_option linter.unusedVariables false
namespace Go.Proofs.YtgjeamapgdakcaaDoor
open Go.RowKit

/-- the bytes of a string, as an operation of a region -/
theorem step_conv {P : Program} {w : World} {ops : Array Oper} {o : Oper} {a : Act} {K : Act → World → Prop} {Q : Exit → Act → World → Prop} {E : Prop} (hgd : Region.wanted o (yielded ops a.tmps) = true) (dst : Option Tmp) (hd : o.dst = dst) (src dt : TypeId) (x : Operand) (ho : o.op = .convert src dt x)
    (s : ByteArray) (hx : a.eval x = .string s) (v : Value) (w' : World) (hc : (convert src dt (.string s)).run P w = .ok v w')
    (h : K (a.put dst v) w') : if Region.wanted o (yielded ops a.tmps) = true then Oper.wp P o a w K Q else E := by
  subst hd
  rw [if_pos hgd]
  unfold Oper.wp execOp
  simp only [ho, hx, Sem.run_bind, hc, Result.andThen_ok, Sem.run_pure]
  exact h

set_option maxRecDepth 100000 in
set_option maxHeartbeats 4000000 in
theorem RDFork (s : List UInt8) (N : Nat) (l : ByteArray) (w : World) (hs : s.length = 32) (hN : N < 18446744073709551616) (hl : l.size ≤ 70000) (hK : KTab w) :
    Calls Tryd.prog 16 #[.agg (drC s N), .string l] w fun e w' => e = .returned (forkV s N (strB l)) ∧ Below w.heap.size w w' := by
  have hM0 := ((Ms.nil w).box 27 (drC s N)).box 27 #[.int .u8 0, .int .u8 0, .int .u8 0, .int .u8 0, .int .u8 0, .int .u8 0, .int .u8 0, .int .u8 0, .int .u8 0, .int .u8 0, .int .u8 0, .int .u8 0, .int .u8 0, .int .u8 0, .int .u8 0, .int .u8 0, .int .u8 0, .int .u8 0, .int .u8 0, .int .u8 0, .int .u8 0, .int .u8 0, .int .u8 0, .int .u8 0, .int .u8 0, .int .u8 0, .int .u8 0, .int .u8 0, .int .u8 0, .int .u8 0, .int .u8 0, .int .u8 0, .int .u64 0]
  simp only [World.size_alloc] at hM0
  have Hs := Lib.hid hs
  have Hsd := Lib.hid (sizeDr N hs)
  have Hsd0 := Lib.hid (sizeDr (s := zeroD) 0 rfl)
  have Hod0 := Lib.hid (one_dr zeroD 0)
  rw [drZ] at Hsd0 Hod0
  have hck := fun wx => RDCheck s N wx hs
  have Hv1 := Lib.hid (show ∀ er : Int, errF N (strB l) = er → er ≠ 0 → forkV s N (strB l) = .tuple #[.agg #[.int .u8 0, .int .u8 0, .int .u8 0, .int .u8 0, .int .u8 0, .int .u8 0, .int .u8 0, .int .u8 0, .int .u8 0, .int .u8 0, .int .u8 0, .int .u8 0, .int .u8 0, .int .u8 0, .int .u8 0, .int .u8 0, .int .u8 0, .int .u8 0, .int .u8 0, .int .u8 0, .int .u8 0, .int .u8 0, .int .u8 0, .int .u8 0, .int .u8 0, .int .u8 0, .int .u8 0, .int .u8 0, .int .u8 0, .int .u8 0, .int .u8 0, .int .u8 0, .int .u64 0], .int .i64 er] from fun er h h0 => by rw [forkV, if_neg (by rw [h]; exact h0), h, drZ])
  have Hll := Lib.hid (strB_len l)
  go_enter Tryd.func16, Tryd.ntmps16
  by_cases h1 : 4294967296 < N
  · have hc1 : chkV N = 1 := by rw [chkV, if_pos h1]
    rw [hc1] at hck
    go_wp2_with ((with_reducible show wpList _ _ _ (⟨some 8, _, _, _, _, _⟩ :: _) _ _); refine wpList_loadC (by kernel_rfl) 27 (.tmp 2) rfl (w.heap.size) rfl 27 (drC s N) _ (hM0.get 1 rfl) Tryd.underlying27 rfl Hsd.out ?_)
    refine (hck _).mono ?_
    rintro e w1 ⟨rfl, hb1⟩
    have hM1 := hM0.call hb1
    clear hM0 hb1
    have He := Lib.hid (Hv1.out 1 (by rw [errF, if_pos h1]) (by decide))
    go_wp2_with ((with_reducible show wpList _ _ _ (⟨none, Op.store 27 _ _, _, _, _, _⟩ :: _) _ _); refine wpList_store_row rfl 27 (.tmp 4) (.tmp 11) rfl (w.heap.size + 1) #[.int .u8 0, .int .u8 0, .int .u8 0, .int .u8 0, .int .u8 0, .int .u8 0, .int .u8 0, .int .u8 0, .int .u8 0, .int .u8 0, .int .u8 0, .int .u8 0, .int .u8 0, .int .u8 0, .int .u8 0, .int .u8 0, .int .u8 0, .int .u8 0, .int .u8 0, .int .u8 0, .int .u8 0, .int .u8 0, .int .u8 0, .int .u8 0, .int .u8 0, .int .u8 0, .int .u8 0, .int .u8 0, .int .u8 0, .int .u8 0, .int .u8 0, .int .u8 0, .int .u64 0] rfl rfl 27 _ (hM1.get 0 rfl) Hsd0.out rfl Hod0.out ?_)
    exact bodyPost_ret (results_cell_two rfl _ _ (w.heap.size + 1) 27 #[.int .u8 0, .int .u8 0, .int .u8 0, .int .u8 0, .int .u8 0, .int .u8 0, .int .u8 0, .int .u8 0, .int .u8 0, .int .u8 0, .int .u8 0, .int .u8 0, .int .u8 0, .int .u8 0, .int .u8 0, .int .u8 0, .int .u8 0, .int .u8 0, .int .u8 0, .int .u8 0, .int .u8 0, .int .u8 0, .int .u8 0, .int .u8 0, .int .u8 0, .int .u8 0, .int .u8 0, .int .u8 0, .int .u8 0, .int .u8 0, .int .u8 0, .int .u8 0, .int .u64 0] _ rfl ((hM1.get 0 rfl).row _) Tryd.underlying27 rfl Hsd0.out) rfl ⟨by rw [He.out]; rfl, below_setRow hM1.old (by omega) _⟩
  have hc1 : chkV N = 0 := by rw [chkV, if_neg h1]
  rw [hc1] at hck
  go_wp2_with ((with_reducible show wpList _ _ _ (⟨some 8, _, _, _, _, _⟩ :: _) _ _); refine wpList_loadC (by kernel_rfl) 27 (.tmp 2) rfl (w.heap.size) rfl 27 (drC s N) _ (hM0.get 1 rfl) Tryd.underlying27 rfl Hsd.out ?_)
  refine (hck _).mono ?_
  rintro e w1 ⟨rfl, hb1⟩
  have hM1 := hM0.call hb1
  clear hM0 hb1
  have hby := fun wx => Bytes_any 8 N wx (by omega) hN
  rw [show ((8 : Nat) : Int) = 8 from rfl] at hby
  obtain ⟨cf, wf, hcv, hC⟩ := conv_any l
  have Hcv := Lib.hid hcv
  have HC := Lib.hid hC
  clear hcv hC
  obtain ⟨kk, er, hkl, hrel, hdr⟩ : ∃ (kk : List UInt8) (er : Int), kk.length = 32 ∧ ((errF N (strB l) = 4 ∧ er = 4) ∨ (errF N (strB l) = 0 ∧ er = 0 ∧ kk = forkU s (strB l) N)) ∧
      ∀ wx A c gs g2 c2, KTab wx → 8 ≤ c → Rd wx wx.heap.size A 8 ((be 8 N).map bv) → l.size ≤ c2 → Rd wx wx.heap.size (some ⟨g2, 0, none⟩) l.size ((strB l).map bv) → Rd wx wx.heap.size (some ⟨gs, 0, none⟩) 2 [.slice A 8 c, .slice (some ⟨g2, 0, none⟩) l.size c2] →
        Calls Tryd.prog 25 #[.agg (keyC s), .string ⟨#[102, 111, 114, 107]⟩, .slice (some ⟨gs, 0, none⟩) 2 2] wx fun e w' => e = .returned (.tuple #[.agg (keyC kk), .int .i64 er]) ∧ Below wx.heap.size wx w' := by
    by_cases hf : (strB l).length ≤ 65535
    · refine ⟨forkU s (strB l) N, 0, forkU_len _ _ _, .inr ⟨by rw [errF, if_neg h1, if_neg (by omega)], rfl, rfl⟩, fun wx A c gs g2 c2 hk h8 hr8 h2 hr2 hrs => ?_⟩
      refine (rDerive_any s ⟨#[102, 111, 114, 107]⟩ (some ⟨gs, 0, none⟩) 2 2 _ [be 8 N, strB l] wx hs (by decide) (by omega) (Nat.le_refl _) hrs (Txs.cons (txs_one1 (be_length _ _) h8 hr8) (txs_one1 Hll.out h2 hr2)) hk).mono ?_
      rintro e w' ⟨hb, ⟨_, h⟩ | ⟨h, _⟩⟩
      · exact ⟨h, hb⟩
      · exact absurd ((fit_fork (strB l) N).2 hf) h
    · refine ⟨zeroD, 4, rfl, .inl ⟨by rw [errF, if_neg h1, if_pos (by omega)], rfl⟩, fun wx A c gs g2 c2 hk h8 hr8 h2 hr2 hrs => ?_⟩
      refine (rDerive_any s ⟨#[102, 111, 114, 107]⟩ (some ⟨gs, 0, none⟩) 2 2 _ [be 8 N, strB l] wx hs (by decide) (by omega) (Nat.le_refl _) hrs (Txs.cons (txs_one1 (be_length _ _) h8 hr8) (txs_one1 Hll.out h2 hr2)) hk).mono ?_
      rintro e w' ⟨hb, ⟨h, _⟩ | ⟨_, h⟩⟩
      · exact absurd ((fit_fork (strB l) N).1 h) hf
      · exact ⟨h, hb⟩
  have Hrel := Lib.hid hrel
  have Hkl := Lib.hid hkl
  have Hsk := Lib.hid (sizeKey hkl)
  have Hok := Lib.hid (one_keyF kk)
  have Hzk := Lib.hid (show (#[.int .u8 0, .int .u8 0, .int .u8 0, .int .u8 0, .int .u8 0, .int .u8 0, .int .u8 0, .int .u8 0, .int .u8 0, .int .u8 0, .int .u8 0, .int .u8 0, .int .u8 0, .int .u8 0, .int .u8 0, .int .u8 0, .int .u8 0, .int .u8 0, .int .u8 0, .int .u8 0, .int .u8 0, .int .u8 0, .int .u8 0, .int .u8 0, .int .u8 0, .int .u8 0, .int .u8 0, .int .u8 0, .int .u8 0, .int .u8 0, .int .u8 0, .int .u8 0] : Array Value).size = (keyC kk).size by rw [keyC_size, hkl]; rfl)
  clear hs hrel hkl hck h1 hc1
  go_upto_region 3 with (fail)
  try simp only [Act.put]
  refine wp_gen (fun wx => Ms w wx [(w.heap.size + 1, 27, #[.int .u8 0, .int .u8 0, .int .u8 0, .int .u8 0, .int .u8 0, .int .u8 0, .int .u8 0, .int .u8 0, .int .u8 0, .int .u8 0, .int .u8 0, .int .u8 0, .int .u8 0, .int .u8 0, .int .u8 0, .int .u8 0, .int .u8 0, .int .u8 0, .int .u8 0, .int .u8 0, .int .u8 0, .int .u8 0, .int .u8 0, .int .u8 0, .int .u8 0, .int .u8 0, .int .u8 0, .int .u8 0, .int .u8 0, .int .u8 0, .int .u8 0, .int .u8 0, .int .u64 0]), (w.heap.size, 27, (drC s N))]) hM1 ?_
  clear hM1
  rintro v1 hM
  have hT1 := hK.below hM.old
  go_cut [6, 7] (fun p q wx => ∃ g : Nat, p = .pointer (some ⟨g, 0, none⟩) ∧ q = .int .i64 er ∧ w.heap.size + 1 < g ∧ Ms w wx ((g, 24, keyC kk) :: [(w.heap.size + 1, 27, #[.int .u8 0, .int .u8 0, .int .u8 0, .int .u8 0, .int .u8 0, .int .u8 0, .int .u8 0, .int .u8 0, .int .u8 0, .int .u8 0, .int .u8 0, .int .u8 0, .int .u8 0, .int .u8 0, .int .u8 0, .int .u8 0, .int .u8 0, .int .u8 0, .int .u8 0, .int .u8 0, .int .u8 0, .int .u8 0, .int .u8 0, .int .u8 0, .int .u8 0, .int .u8 0, .int .u8 0, .int .u8 0, .int .u8 0, .int .u8 0, .int .u8 0, .int .u8 0, .int .u64 0]), (w.heap.size, 27, (drC s N))]))
  case first =>
    have hun := Tryd.underlying24
    have hss : (Tryd.prog.info? 24).map (·.size) = some (keyC s).toList.length := by simpa using sizeKey Hs.out
    have hkeep : ∀ wx : World, Below v1.heap.size v1 wx → wx.rangeAt w.heap.size 0 (keyC s).toList ∧ wx.cell? ⟨w.heap.size, 32, none⟩ = some (.int .u64 (N : Int)) := fun wx hb => ⟨((hM.get 1 rfl).call hb).seed, ((hM.get 1 rfl).call hb).nth Hs.out⟩
    have hD := hM.drew
    refine beginT (fun wx => wx.rangeAt w.heap.size 0 (keyC s).toList ∧ wx.cell? ⟨w.heap.size, 32, none⟩ = some (.int .u64 (N : Int))) 15 (by kernel_rfl) ?_
    have hS := hkeep _ (c_drew (c_refl _))
    refine takeD 0 (some 13) (.pointer (some ⟨w.heap.size, 0, none⟩)) rfl rfl (by kernel_rfl) (by kernel_rfl) (by kernel_rfl) (by kernel_rfl) (fun _ _ _ h => h) (Or.inl ⟨by kernel_rfl, fun wx hSw => by go_simp⟩) hS ?_
    simp only [Act.put, List.setIfInBounds_toArray, List.set_cons_zero, List.set_cons_succ]
    refine loadT 1 (some 14) 24 (.tmp 13) w.heap.size 0 (keyC s).toList rfl rfl (by kernel_rfl) (by kernel_rfl) (by kernel_rfl) (by kernel_rfl) rfl (by kernel_rfl) rfl (fun wx hSw => hSw.1) hun rfl hss (fun _ _ _ h => h) hS ?_
    simp only [Act.put, List.setIfInBounds_toArray, List.set_cons_zero, List.set_cons_succ, Array.toArray_toList]
    refine takeD 2 (some 15) (.pointer (some ⟨w.heap.size, 32, none⟩)) rfl rfl (by kernel_rfl) (by kernel_rfl) (by kernel_rfl) (by kernel_rfl) (fun _ _ _ h => h) (Or.inl ⟨by kernel_rfl, fun wx hSw => by go_simp⟩) hS ?_
    simp only [Act.put, List.setIfInBounds_toArray, List.set_cons_zero, List.set_cons_succ]
    refine takeD 3 (some 16) (.int .u64 (N : Int)) rfl rfl (by kernel_rfl) (by kernel_rfl) (by kernel_rfl) (by kernel_rfl) (fun _ _ _ h => h) (Or.inl ⟨by kernel_rfl, fun wx hSw => by have h := hSw.2; go_simp⟩) hS ?_
    simp only [Act.put, List.setIfInBounds_toArray, List.set_cons_zero, List.set_cons_succ]
    refine takeD 5 (some 18) (.string l) rfl rfl (by kernel_rfl) (by kernel_rfl) (by kernel_rfl) (by kernel_rfl) (fun _ _ _ h => h) (Or.inl ⟨by kernel_rfl, fun wx hSw => by go_simp⟩) hS ?_
    simp only [Act.put, List.setIfInBounds_toArray, List.set_cons_zero, List.set_cons_succ]
    have hx0 : Below v1.heap.size v1 v1.drew := c_drew (c_refl _)
    generalize v1.drew = x0 at *
    refine readyT [4, 6, 12] (by kernel_rfl) (by simp) (AllReadyT.cons rfl (fun K hK => ?_) (AllReadyT.cons rfl (fun K hK => ?_) (AllReadyT.cons rfl (fun K hK => ?_) AllReadyT.nil)))
    · go_simp
      refine (hby _).mono ?_
      rintro e x1 ⟨A1, c1, rfl, ho1, hx1⟩
      refine hK.out _ _ (fun _ => hkeep _ (by (repeat (first | exact c_refl _ | refine c_drew ?_ | refine c_alloc ?_ _ | refine c_row ?_ (by first | omega | exact Nat.le_refl _) _ | refine c_call ?_ (by assumption))); first | done | fail "open")) ?_
      clear hK K
      have hN1 := hD.call hx1
      have hr8 := Rd.of_own ho1
      have h8c := capD ho1
      clear ho1
      refine readyT [6, 12] (by kernel_rfl) (by simp) (AllReadyT.cons rfl (fun K hK => ?_) (AllReadyT.cons rfl (fun K hK => ?_) AllReadyT.nil))
      · refine step_conv (by kernel_rfl) (some 19) rfl 9 45 _ rfl l rfl _ _ (Hcv.out x1) ?_
        have hx2 := (HC.out x1).below
        have hr2 := (HC.out x1).rd
        have h2c := (HC.out x1).cap
        generalize wf x1 = x2 at *
        generalize cf x1 = c2 at *
        refine hK.out _ _ (fun _ => hkeep _ (by (repeat (first | exact c_refl _ | refine c_drew ?_ | refine c_alloc ?_ _ | refine c_row ?_ (by first | omega | exact Nat.le_refl _) _ | refine c_call ?_ (by assumption))); first | done | fail "open")) ?_
        simp only [Act.put, List.setIfInBounds_toArray, List.set_cons_zero, List.set_cons_succ]
        clear hK K
        have hN2 := hN1.call hx2
        have hr8 := d_rd hr8 hx2
        refine readyT [7, 12] (by kernel_rfl) (by simp) (AllReadyT.cons rfl (fun K hK => ?_) (AllReadyT.cons rfl (fun K hK => ?_) AllReadyT.nil))
        · go_simp
          refine hK.out _ _ (fun _ => hkeep _ (by (repeat (first | exact c_refl _ | refine c_drew ?_ | refine c_alloc ?_ _ | refine c_row ?_ (by first | omega | exact Nat.le_refl _) _ | refine c_call ?_ (by assumption))); first | done | fail "open")) ?_
          clear hK K
          have hx3 := d_al x2 (.cells #[.slice A1 8 c1, .slice (some ⟨x1.heap.size, 0, none⟩) l.size c2] 45)
          have hN3 := hN2.call hx3
          have hrs : Rd (x2.alloc (.cells #[.slice A1 8 c1, .slice (some ⟨x1.heap.size, 0, none⟩) l.size c2] 45)) (x2.alloc (.cells #[.slice A1 8 c1, .slice (some ⟨x1.heap.size, 0, none⟩) l.size c2] 45)).heap.size (some ⟨x2.heap.size, 0, none⟩) 2 [.slice A1 8 c1, .slice (some ⟨x1.heap.size, 0, none⟩) l.size c2] := Rd.mk_ _ _ _ rfl (by simp) rfl rfl
          have hr8 := d_rd hr8 hx3
          have hr2 := d_rd hr2 hx3
          generalize (x2.alloc (.cells #[.slice A1 8 c1, .slice (some ⟨x1.heap.size, 0, none⟩) l.size c2] 45)) = x3 at *
          refine readyT [8, 12] (by kernel_rfl) (by simp) (AllReadyT.cons rfl (fun K hK => ?_) (AllReadyT.cons rfl (fun K hK => ?_) AllReadyT.nil))
          · go_simp
            refine (hdr _ _ _ _ _ _ (hT1.below (by (repeat (first | exact c_refl _ | refine c_drew ?_ | refine c_alloc ?_ _ | refine c_row ?_ (by first | omega | exact Nat.le_refl _) _ | refine c_call ?_ (by assumption))); first | done | fail "open")) h8c hr8 h2c hr2 hrs).mono ?_
            rintro e x4 ⟨rfl, hx4⟩
            refine hK.out _ _ (fun _ => hkeep _ (by (repeat (first | exact c_refl _ | refine c_drew ?_ | refine c_alloc ?_ _ | refine c_row ?_ (by first | omega | exact Nat.le_refl _) _ | refine c_call ?_ (by assumption))); first | done | fail "open")) ?_
            clear hK K
            have hN4 := hN3.call hx4
            clear hr8 hrs hr2
            have hS9 := hkeep x4 (by (repeat (first | exact c_refl _ | refine c_drew ?_ | refine c_alloc ?_ _ | refine c_row ?_ (by first | omega | exact Nat.le_refl _) _ | refine c_call ?_ (by assumption))); first | done | fail "open")
            refine takeD 9 (some 12) (.tuple #[.agg (keyC kk), .int .i64 er]) rfl rfl (by kernel_rfl) (by kernel_rfl) (by kernel_rfl) (by kernel_rfl) (fun _ _ _ h => h) (Or.inl ⟨by kernel_rfl, fun wx hSw => by go_simp⟩) hS9 ?_
            simp only [Act.put, List.setIfInBounds_toArray, List.set_cons_zero, List.set_cons_succ]
            refine takeD 10 (some 22) (.agg (keyC kk)) rfl rfl (by kernel_rfl) (by kernel_rfl) (by kernel_rfl) (by kernel_rfl) (fun _ _ _ h => h) (Or.inl ⟨by kernel_rfl, fun wx hSw => by go_simp⟩) hS9 ?_
            simp only [Act.put, List.setIfInBounds_toArray, List.set_cons_zero, List.set_cons_succ]
            refine takeD 11 (some 23) (.int .i64 er) rfl rfl (by kernel_rfl) (by kernel_rfl) (by kernel_rfl) (by kernel_rfl) (fun _ _ _ h => h) (Or.inl ⟨by kernel_rfl, fun wx hSw => by go_simp⟩) hS9 ?_
            simp only [Act.put, List.setIfInBounds_toArray, List.set_cons_zero, List.set_cons_succ]
            refine oneT 12 (by kernel_rfl) rfl (fun K hK => ?_)
            go_simp
            refine hK.out _ _ (fun _ => hkeep _ (by (repeat (first | exact c_refl _ | refine c_drew ?_ | refine c_alloc ?_ _ | refine c_row ?_ (by first | omega | exact Nat.le_refl _) _ | refine c_call ?_ (by assumption))); first | done | fail "open")) ?_
            clear hK K
            have hnx := fun p hp => Nat.ne_of_lt ((hN4.rows p hp).lt)
            have hgx := hN4.old.size
            have hgz := (hN4.get 0 rfl).lt
            have hx5 := d_al x4 (.cells #[.int .u8 0, .int .u8 0, .int .u8 0, .int .u8 0, .int .u8 0, .int .u8 0, .int .u8 0, .int .u8 0, .int .u8 0, .int .u8 0, .int .u8 0, .int .u8 0, .int .u8 0, .int .u8 0, .int .u8 0, .int .u8 0, .int .u8 0, .int .u8 0, .int .u8 0, .int .u8 0, .int .u8 0, .int .u8 0, .int .u8 0, .int .u8 0, .int .u8 0, .int .u8 0, .int .u8 0, .int .u8 0, .int .u8 0, .int .u8 0, .int .u8 0, .int .u8 0] 24)
            have hN5 := hN4.box 24 #[.int .u8 0, .int .u8 0, .int .u8 0, .int .u8 0, .int .u8 0, .int .u8 0, .int .u8 0, .int .u8 0, .int .u8 0, .int .u8 0, .int .u8 0, .int .u8 0, .int .u8 0, .int .u8 0, .int .u8 0, .int .u8 0, .int .u8 0, .int .u8 0, .int .u8 0, .int .u8 0, .int .u8 0, .int .u8 0, .int .u8 0, .int .u8 0, .int .u8 0, .int .u8 0, .int .u8 0, .int .u8 0, .int .u8 0, .int .u8 0, .int .u8 0, .int .u8 0]
            generalize (x4.alloc (.cells #[.int .u8 0, .int .u8 0, .int .u8 0, .int .u8 0, .int .u8 0, .int .u8 0, .int .u8 0, .int .u8 0, .int .u8 0, .int .u8 0, .int .u8 0, .int .u8 0, .int .u8 0, .int .u8 0, .int .u8 0, .int .u8 0, .int .u8 0, .int .u8 0, .int .u8 0, .int .u8 0, .int .u8 0, .int .u8 0, .int .u8 0, .int .u8 0, .int .u8 0, .int .u8 0, .int .u8 0, .int .u8 0, .int .u8 0, .int .u8 0, .int .u8 0, .int .u8 0] 24)) = x5 at *
            have hset := Ms.set hN5 hgx hnx (keyC kk)
            refine oneT 13 (by kernel_rfl) rfl (fun K hK => ?_)
            refine step_store_row rfl 24 (.tmp 6) (.tmp 22) rfl (x4.heap.size) (keyC kk) rfl rfl 24 _ (hN5.get 0 rfl) Hsk.out Hzk.out Hok.out ?_
            refine hK.out _ _ (fun _ => ⟨(hset.get 2 rfl).seed, (hset.get 2 rfl).nth Hs.out⟩) ?_
            clear hK K
            refine oneT 14 (by kernel_rfl) rfl (fun K hK => ?_)
            go_simp
            refine hK.out _ _ (fun _ => ⟨(hset.get 2 rfl).seed, (hset.get 2 rfl).nth Hs.out⟩) ?_
            clear hK K
            refine doneT (by kernel_rfl) ?_ _
            go_wp2_with fail
            go_meet
            exact ⟨_, rfl, rfl, hgz, hset⟩
          · go_simp
            refine hK.out _ _ (fun _ => hkeep _ (by (repeat (first | exact c_refl _ | refine c_drew ?_ | refine c_alloc ?_ _ | refine c_row ?_ (by first | omega | exact Nat.le_refl _) _ | refine c_call ?_ (by assumption))); first | done | fail "open")) ?_
            clear hK K
            have hnx := fun p hp => Nat.ne_of_lt ((hN3.rows p hp).lt)
            have hgx := hN3.old.size
            have hgz := (hN3.get 0 rfl).lt
            have hx4 := d_al x3 (.cells #[.int .u8 0, .int .u8 0, .int .u8 0, .int .u8 0, .int .u8 0, .int .u8 0, .int .u8 0, .int .u8 0, .int .u8 0, .int .u8 0, .int .u8 0, .int .u8 0, .int .u8 0, .int .u8 0, .int .u8 0, .int .u8 0, .int .u8 0, .int .u8 0, .int .u8 0, .int .u8 0, .int .u8 0, .int .u8 0, .int .u8 0, .int .u8 0, .int .u8 0, .int .u8 0, .int .u8 0, .int .u8 0, .int .u8 0, .int .u8 0, .int .u8 0, .int .u8 0] 24)
            have hN4 := hN3.box 24 #[.int .u8 0, .int .u8 0, .int .u8 0, .int .u8 0, .int .u8 0, .int .u8 0, .int .u8 0, .int .u8 0, .int .u8 0, .int .u8 0, .int .u8 0, .int .u8 0, .int .u8 0, .int .u8 0, .int .u8 0, .int .u8 0, .int .u8 0, .int .u8 0, .int .u8 0, .int .u8 0, .int .u8 0, .int .u8 0, .int .u8 0, .int .u8 0, .int .u8 0, .int .u8 0, .int .u8 0, .int .u8 0, .int .u8 0, .int .u8 0, .int .u8 0, .int .u8 0]
            have hr8 := d_rd hr8 hx4
            have hr2 := d_rd hr2 hx4
            have hrs := d_rd hrs hx4
            generalize (x3.alloc (.cells #[.int .u8 0, .int .u8 0, .int .u8 0, .int .u8 0, .int .u8 0, .int .u8 0, .int .u8 0, .int .u8 0, .int .u8 0, .int .u8 0, .int .u8 0, .int .u8 0, .int .u8 0, .int .u8 0, .int .u8 0, .int .u8 0, .int .u8 0, .int .u8 0, .int .u8 0, .int .u8 0, .int .u8 0, .int .u8 0, .int .u8 0, .int .u8 0, .int .u8 0, .int .u8 0, .int .u8 0, .int .u8 0, .int .u8 0, .int .u8 0, .int .u8 0, .int .u8 0] 24)) = x4 at *
            refine oneT 8 (by kernel_rfl) rfl (fun K hK => ?_)
            go_simp
            refine (hdr _ _ _ _ _ _ (hT1.below (by (repeat (first | exact c_refl _ | refine c_drew ?_ | refine c_alloc ?_ _ | refine c_row ?_ (by first | omega | exact Nat.le_refl _) _ | refine c_call ?_ (by assumption))); first | done | fail "open")) h8c hr8 h2c hr2 hrs).mono ?_
            rintro e x5 ⟨rfl, hx5⟩
            refine hK.out _ _ (fun _ => hkeep _ (by (repeat (first | exact c_refl _ | refine c_drew ?_ | refine c_alloc ?_ _ | refine c_row ?_ (by first | omega | exact Nat.le_refl _) _ | refine c_call ?_ (by assumption))); first | done | fail "open")) ?_
            clear hK K
            have hN5 := hN4.call hx5
            clear hr8 hrs hr2
            have hS9 := hkeep x5 (by (repeat (first | exact c_refl _ | refine c_drew ?_ | refine c_alloc ?_ _ | refine c_row ?_ (by first | omega | exact Nat.le_refl _) _ | refine c_call ?_ (by assumption))); first | done | fail "open")
            refine takeD 9 (some 12) (.tuple #[.agg (keyC kk), .int .i64 er]) rfl rfl (by kernel_rfl) (by kernel_rfl) (by kernel_rfl) (by kernel_rfl) (fun _ _ _ h => h) (Or.inl ⟨by kernel_rfl, fun wx hSw => by go_simp⟩) hS9 ?_
            simp only [Act.put, List.setIfInBounds_toArray, List.set_cons_zero, List.set_cons_succ]
            refine takeD 10 (some 22) (.agg (keyC kk)) rfl rfl (by kernel_rfl) (by kernel_rfl) (by kernel_rfl) (by kernel_rfl) (fun _ _ _ h => h) (Or.inl ⟨by kernel_rfl, fun wx hSw => by go_simp⟩) hS9 ?_
            simp only [Act.put, List.setIfInBounds_toArray, List.set_cons_zero, List.set_cons_succ]
            refine takeD 11 (some 23) (.int .i64 er) rfl rfl (by kernel_rfl) (by kernel_rfl) (by kernel_rfl) (by kernel_rfl) (fun _ _ _ h => h) (Or.inl ⟨by kernel_rfl, fun wx hSw => by go_simp⟩) hS9 ?_
            simp only [Act.put, List.setIfInBounds_toArray, List.set_cons_zero, List.set_cons_succ]
            have hset := Ms.set hN5 hgx hnx (keyC kk)
            refine oneT 13 (by kernel_rfl) rfl (fun K hK => ?_)
            refine step_store_row rfl 24 (.tmp 6) (.tmp 22) rfl (x3.heap.size) (keyC kk) rfl rfl 24 _ (hN5.get 0 rfl) Hsk.out Hzk.out Hok.out ?_
            refine hK.out _ _ (fun _ => ⟨(hset.get 2 rfl).seed, (hset.get 2 rfl).nth Hs.out⟩) ?_
            clear hK K
            refine oneT 14 (by kernel_rfl) rfl (fun K hK => ?_)
            go_simp
            refine hK.out _ _ (fun _ => ⟨(hset.get 2 rfl).seed, (hset.get 2 rfl).nth Hs.out⟩) ?_
            clear hK K
            refine doneT (by kernel_rfl) ?_ _
            go_wp2_with fail
            go_meet
            exact ⟨_, rfl, rfl, hgz, hset⟩
        · go_simp
          refine hK.out _ _ (fun _ => hkeep _ (by (repeat (first | exact c_refl _ | refine c_drew ?_ | refine c_alloc ?_ _ | refine c_row ?_ (by first | omega | exact Nat.le_refl _) _ | refine c_call ?_ (by assumption))); first | done | fail "open")) ?_
          clear hK K
          have hnx := fun p hp => Nat.ne_of_lt ((hN2.rows p hp).lt)
          have hgx := hN2.old.size
          have hgz := (hN2.get 0 rfl).lt
          have hx3 := d_al x2 (.cells #[.int .u8 0, .int .u8 0, .int .u8 0, .int .u8 0, .int .u8 0, .int .u8 0, .int .u8 0, .int .u8 0, .int .u8 0, .int .u8 0, .int .u8 0, .int .u8 0, .int .u8 0, .int .u8 0, .int .u8 0, .int .u8 0, .int .u8 0, .int .u8 0, .int .u8 0, .int .u8 0, .int .u8 0, .int .u8 0, .int .u8 0, .int .u8 0, .int .u8 0, .int .u8 0, .int .u8 0, .int .u8 0, .int .u8 0, .int .u8 0, .int .u8 0, .int .u8 0] 24)
          have hN3 := hN2.box 24 #[.int .u8 0, .int .u8 0, .int .u8 0, .int .u8 0, .int .u8 0, .int .u8 0, .int .u8 0, .int .u8 0, .int .u8 0, .int .u8 0, .int .u8 0, .int .u8 0, .int .u8 0, .int .u8 0, .int .u8 0, .int .u8 0, .int .u8 0, .int .u8 0, .int .u8 0, .int .u8 0, .int .u8 0, .int .u8 0, .int .u8 0, .int .u8 0, .int .u8 0, .int .u8 0, .int .u8 0, .int .u8 0, .int .u8 0, .int .u8 0, .int .u8 0, .int .u8 0]
          have hr8 := d_rd hr8 hx3
          have hr2 := d_rd hr2 hx3
          generalize (x2.alloc (.cells #[.int .u8 0, .int .u8 0, .int .u8 0, .int .u8 0, .int .u8 0, .int .u8 0, .int .u8 0, .int .u8 0, .int .u8 0, .int .u8 0, .int .u8 0, .int .u8 0, .int .u8 0, .int .u8 0, .int .u8 0, .int .u8 0, .int .u8 0, .int .u8 0, .int .u8 0, .int .u8 0, .int .u8 0, .int .u8 0, .int .u8 0, .int .u8 0, .int .u8 0, .int .u8 0, .int .u8 0, .int .u8 0, .int .u8 0, .int .u8 0, .int .u8 0, .int .u8 0] 24)) = x3 at *
          refine oneT 7 (by kernel_rfl) rfl (fun K hK => ?_)
          go_simp
          refine hK.out _ _ (fun _ => hkeep _ (by (repeat (first | exact c_refl _ | refine c_drew ?_ | refine c_alloc ?_ _ | refine c_row ?_ (by first | omega | exact Nat.le_refl _) _ | refine c_call ?_ (by assumption))); first | done | fail "open")) ?_
          clear hK K
          have hx4 := d_al x3 (.cells #[.slice A1 8 c1, .slice (some ⟨x1.heap.size, 0, none⟩) l.size c2] 45)
          have hN4 := hN3.call hx4
          have hrs : Rd (x3.alloc (.cells #[.slice A1 8 c1, .slice (some ⟨x1.heap.size, 0, none⟩) l.size c2] 45)) (x3.alloc (.cells #[.slice A1 8 c1, .slice (some ⟨x1.heap.size, 0, none⟩) l.size c2] 45)).heap.size (some ⟨x3.heap.size, 0, none⟩) 2 [.slice A1 8 c1, .slice (some ⟨x1.heap.size, 0, none⟩) l.size c2] := Rd.mk_ _ _ _ rfl (by simp) rfl rfl
          have hr8 := d_rd hr8 hx4
          have hr2 := d_rd hr2 hx4
          generalize (x3.alloc (.cells #[.slice A1 8 c1, .slice (some ⟨x1.heap.size, 0, none⟩) l.size c2] 45)) = x4 at *
          refine oneT 8 (by kernel_rfl) rfl (fun K hK => ?_)
          go_simp
          refine (hdr _ _ _ _ _ _ (hT1.below (by (repeat (first | exact c_refl _ | refine c_drew ?_ | refine c_alloc ?_ _ | refine c_row ?_ (by first | omega | exact Nat.le_refl _) _ | refine c_call ?_ (by assumption))); first | done | fail "open")) h8c hr8 h2c hr2 hrs).mono ?_
          rintro e x5 ⟨rfl, hx5⟩
          refine hK.out _ _ (fun _ => hkeep _ (by (repeat (first | exact c_refl _ | refine c_drew ?_ | refine c_alloc ?_ _ | refine c_row ?_ (by first | omega | exact Nat.le_refl _) _ | refine c_call ?_ (by assumption))); first | done | fail "open")) ?_
          clear hK K
          have hN5 := hN4.call hx5
          clear hr8 hrs hr2
          have hS9 := hkeep x5 (by (repeat (first | exact c_refl _ | refine c_drew ?_ | refine c_alloc ?_ _ | refine c_row ?_ (by first | omega | exact Nat.le_refl _) _ | refine c_call ?_ (by assumption))); first | done | fail "open")
          refine takeD 9 (some 12) (.tuple #[.agg (keyC kk), .int .i64 er]) rfl rfl (by kernel_rfl) (by kernel_rfl) (by kernel_rfl) (by kernel_rfl) (fun _ _ _ h => h) (Or.inl ⟨by kernel_rfl, fun wx hSw => by go_simp⟩) hS9 ?_
          simp only [Act.put, List.setIfInBounds_toArray, List.set_cons_zero, List.set_cons_succ]
          refine takeD 10 (some 22) (.agg (keyC kk)) rfl rfl (by kernel_rfl) (by kernel_rfl) (by kernel_rfl) (by kernel_rfl) (fun _ _ _ h => h) (Or.inl ⟨by kernel_rfl, fun wx hSw => by go_simp⟩) hS9 ?_
          simp only [Act.put, List.setIfInBounds_toArray, List.set_cons_zero, List.set_cons_succ]
          refine takeD 11 (some 23) (.int .i64 er) rfl rfl (by kernel_rfl) (by kernel_rfl) (by kernel_rfl) (by kernel_rfl) (fun _ _ _ h => h) (Or.inl ⟨by kernel_rfl, fun wx hSw => by go_simp⟩) hS9 ?_
          simp only [Act.put, List.setIfInBounds_toArray, List.set_cons_zero, List.set_cons_succ]
          have hset := Ms.set hN5 hgx hnx (keyC kk)
          refine oneT 13 (by kernel_rfl) rfl (fun K hK => ?_)
          refine step_store_row rfl 24 (.tmp 6) (.tmp 22) rfl (x2.heap.size) (keyC kk) rfl rfl 24 _ (hN5.get 0 rfl) Hsk.out Hzk.out Hok.out ?_
          refine hK.out _ _ (fun _ => ⟨(hset.get 2 rfl).seed, (hset.get 2 rfl).nth Hs.out⟩) ?_
          clear hK K
          refine oneT 14 (by kernel_rfl) rfl (fun K hK => ?_)
          go_simp
          refine hK.out _ _ (fun _ => ⟨(hset.get 2 rfl).seed, (hset.get 2 rfl).nth Hs.out⟩) ?_
          clear hK K
          refine doneT (by kernel_rfl) ?_ _
          go_wp2_with fail
          go_meet
          exact ⟨_, rfl, rfl, hgz, hset⟩
      · go_simp
        refine hK.out _ _ (fun _ => hkeep _ (by (repeat (first | exact c_refl _ | refine c_drew ?_ | refine c_alloc ?_ _ | refine c_row ?_ (by first | omega | exact Nat.le_refl _) _ | refine c_call ?_ (by assumption))); first | done | fail "open")) ?_
        clear hK K
        have hnx := fun p hp => Nat.ne_of_lt ((hN1.rows p hp).lt)
        have hgx := hN1.old.size
        have hgz := (hN1.get 0 rfl).lt
        have hx2 := d_al x1 (.cells #[.int .u8 0, .int .u8 0, .int .u8 0, .int .u8 0, .int .u8 0, .int .u8 0, .int .u8 0, .int .u8 0, .int .u8 0, .int .u8 0, .int .u8 0, .int .u8 0, .int .u8 0, .int .u8 0, .int .u8 0, .int .u8 0, .int .u8 0, .int .u8 0, .int .u8 0, .int .u8 0, .int .u8 0, .int .u8 0, .int .u8 0, .int .u8 0, .int .u8 0, .int .u8 0, .int .u8 0, .int .u8 0, .int .u8 0, .int .u8 0, .int .u8 0, .int .u8 0] 24)
        have hN2 := hN1.box 24 #[.int .u8 0, .int .u8 0, .int .u8 0, .int .u8 0, .int .u8 0, .int .u8 0, .int .u8 0, .int .u8 0, .int .u8 0, .int .u8 0, .int .u8 0, .int .u8 0, .int .u8 0, .int .u8 0, .int .u8 0, .int .u8 0, .int .u8 0, .int .u8 0, .int .u8 0, .int .u8 0, .int .u8 0, .int .u8 0, .int .u8 0, .int .u8 0, .int .u8 0, .int .u8 0, .int .u8 0, .int .u8 0, .int .u8 0, .int .u8 0, .int .u8 0, .int .u8 0]
        have hr8 := d_rd hr8 hx2
        generalize (x1.alloc (.cells #[.int .u8 0, .int .u8 0, .int .u8 0, .int .u8 0, .int .u8 0, .int .u8 0, .int .u8 0, .int .u8 0, .int .u8 0, .int .u8 0, .int .u8 0, .int .u8 0, .int .u8 0, .int .u8 0, .int .u8 0, .int .u8 0, .int .u8 0, .int .u8 0, .int .u8 0, .int .u8 0, .int .u8 0, .int .u8 0, .int .u8 0, .int .u8 0, .int .u8 0, .int .u8 0, .int .u8 0, .int .u8 0, .int .u8 0, .int .u8 0, .int .u8 0, .int .u8 0] 24)) = x2 at *
        refine oneT 6 (by kernel_rfl) rfl (fun K hK => ?_)
        refine step_conv (by kernel_rfl) (some 19) rfl 9 45 _ rfl l rfl _ _ (Hcv.out x2) ?_
        have hx3 := (HC.out x2).below
        have hr2 := (HC.out x2).rd
        have h2c := (HC.out x2).cap
        generalize wf x2 = x3 at *
        generalize cf x2 = c2 at *
        refine hK.out _ _ (fun _ => hkeep _ (by (repeat (first | exact c_refl _ | refine c_drew ?_ | refine c_alloc ?_ _ | refine c_row ?_ (by first | omega | exact Nat.le_refl _) _ | refine c_call ?_ (by assumption))); first | done | fail "open")) ?_
        simp only [Act.put, List.setIfInBounds_toArray, List.set_cons_zero, List.set_cons_succ]
        clear hK K
        have hN3 := hN2.call hx3
        have hr8 := d_rd hr8 hx3
        refine oneT 7 (by kernel_rfl) rfl (fun K hK => ?_)
        go_simp
        refine hK.out _ _ (fun _ => hkeep _ (by (repeat (first | exact c_refl _ | refine c_drew ?_ | refine c_alloc ?_ _ | refine c_row ?_ (by first | omega | exact Nat.le_refl _) _ | refine c_call ?_ (by assumption))); first | done | fail "open")) ?_
        clear hK K
        have hx4 := d_al x3 (.cells #[.slice A1 8 c1, .slice (some ⟨x2.heap.size, 0, none⟩) l.size c2] 45)
        have hN4 := hN3.call hx4
        have hrs : Rd (x3.alloc (.cells #[.slice A1 8 c1, .slice (some ⟨x2.heap.size, 0, none⟩) l.size c2] 45)) (x3.alloc (.cells #[.slice A1 8 c1, .slice (some ⟨x2.heap.size, 0, none⟩) l.size c2] 45)).heap.size (some ⟨x3.heap.size, 0, none⟩) 2 [.slice A1 8 c1, .slice (some ⟨x2.heap.size, 0, none⟩) l.size c2] := Rd.mk_ _ _ _ rfl (by simp) rfl rfl
        have hr8 := d_rd hr8 hx4
        have hr2 := d_rd hr2 hx4
        generalize (x3.alloc (.cells #[.slice A1 8 c1, .slice (some ⟨x2.heap.size, 0, none⟩) l.size c2] 45)) = x4 at *
        refine oneT 8 (by kernel_rfl) rfl (fun K hK => ?_)
        go_simp
        refine (hdr _ _ _ _ _ _ (hT1.below (by (repeat (first | exact c_refl _ | refine c_drew ?_ | refine c_alloc ?_ _ | refine c_row ?_ (by first | omega | exact Nat.le_refl _) _ | refine c_call ?_ (by assumption))); first | done | fail "open")) h8c hr8 h2c hr2 hrs).mono ?_
        rintro e x5 ⟨rfl, hx5⟩
        refine hK.out _ _ (fun _ => hkeep _ (by (repeat (first | exact c_refl _ | refine c_drew ?_ | refine c_alloc ?_ _ | refine c_row ?_ (by first | omega | exact Nat.le_refl _) _ | refine c_call ?_ (by assumption))); first | done | fail "open")) ?_
        clear hK K
        have hN5 := hN4.call hx5
        clear hr8 hrs hr2
        have hS9 := hkeep x5 (by (repeat (first | exact c_refl _ | refine c_drew ?_ | refine c_alloc ?_ _ | refine c_row ?_ (by first | omega | exact Nat.le_refl _) _ | refine c_call ?_ (by assumption))); first | done | fail "open")
        refine takeD 9 (some 12) (.tuple #[.agg (keyC kk), .int .i64 er]) rfl rfl (by kernel_rfl) (by kernel_rfl) (by kernel_rfl) (by kernel_rfl) (fun _ _ _ h => h) (Or.inl ⟨by kernel_rfl, fun wx hSw => by go_simp⟩) hS9 ?_
        simp only [Act.put, List.setIfInBounds_toArray, List.set_cons_zero, List.set_cons_succ]
        refine takeD 10 (some 22) (.agg (keyC kk)) rfl rfl (by kernel_rfl) (by kernel_rfl) (by kernel_rfl) (by kernel_rfl) (fun _ _ _ h => h) (Or.inl ⟨by kernel_rfl, fun wx hSw => by go_simp⟩) hS9 ?_
        simp only [Act.put, List.setIfInBounds_toArray, List.set_cons_zero, List.set_cons_succ]
        refine takeD 11 (some 23) (.int .i64 er) rfl rfl (by kernel_rfl) (by kernel_rfl) (by kernel_rfl) (by kernel_rfl) (fun _ _ _ h => h) (Or.inl ⟨by kernel_rfl, fun wx hSw => by go_simp⟩) hS9 ?_
        simp only [Act.put, List.setIfInBounds_toArray, List.set_cons_zero, List.set_cons_succ]
        have hset := Ms.set hN5 hgx hnx (keyC kk)
        refine oneT 13 (by kernel_rfl) rfl (fun K hK => ?_)
        refine step_store_row rfl 24 (.tmp 6) (.tmp 22) rfl (x1.heap.size) (keyC kk) rfl rfl 24 _ (hN5.get 0 rfl) Hsk.out Hzk.out Hok.out ?_
        refine hK.out _ _ (fun _ => ⟨(hset.get 2 rfl).seed, (hset.get 2 rfl).nth Hs.out⟩) ?_
        clear hK K
        refine oneT 14 (by kernel_rfl) rfl (fun K hK => ?_)
        go_simp
        refine hK.out _ _ (fun _ => ⟨(hset.get 2 rfl).seed, (hset.get 2 rfl).nth Hs.out⟩) ?_
        clear hK K
        refine doneT (by kernel_rfl) ?_ _
        go_wp2_with fail
        go_meet
        exact ⟨_, rfl, rfl, hgz, hset⟩
    · refine step_conv (by kernel_rfl) (some 19) rfl 9 45 _ rfl l rfl _ _ (Hcv.out x0) ?_
      have hx1 := (HC.out x0).below
      have hr2 := (HC.out x0).rd
      have h2c := (HC.out x0).cap
      generalize wf x0 = x1 at *
      generalize cf x0 = c2 at *
      refine hK.out _ _ (fun _ => hkeep _ (by (repeat (first | exact c_refl _ | refine c_drew ?_ | refine c_alloc ?_ _ | refine c_row ?_ (by first | omega | exact Nat.le_refl _) _ | refine c_call ?_ (by assumption))); first | done | fail "open")) ?_
      simp only [Act.put, List.setIfInBounds_toArray, List.set_cons_zero, List.set_cons_succ]
      clear hK K
      have hN1 := hD.call hx1
      refine readyT [4, 12] (by kernel_rfl) (by simp) (AllReadyT.cons rfl (fun K hK => ?_) (AllReadyT.cons rfl (fun K hK => ?_) AllReadyT.nil))
      · go_simp
        refine (hby _).mono ?_
        rintro e x2 ⟨A1, c1, rfl, ho1, hx2⟩
        refine hK.out _ _ (fun _ => hkeep _ (by (repeat (first | exact c_refl _ | refine c_drew ?_ | refine c_alloc ?_ _ | refine c_row ?_ (by first | omega | exact Nat.le_refl _) _ | refine c_call ?_ (by assumption))); first | done | fail "open")) ?_
        clear hK K
        have hN2 := hN1.call hx2
        have hr8 := Rd.of_own ho1
        have h8c := capD ho1
        clear ho1
        have hr2 := d_rd hr2 hx2
        refine readyT [7, 12] (by kernel_rfl) (by simp) (AllReadyT.cons rfl (fun K hK => ?_) (AllReadyT.cons rfl (fun K hK => ?_) AllReadyT.nil))
        · go_simp
          refine hK.out _ _ (fun _ => hkeep _ (by (repeat (first | exact c_refl _ | refine c_drew ?_ | refine c_alloc ?_ _ | refine c_row ?_ (by first | omega | exact Nat.le_refl _) _ | refine c_call ?_ (by assumption))); first | done | fail "open")) ?_
          clear hK K
          have hx3 := d_al x2 (.cells #[.slice A1 8 c1, .slice (some ⟨x0.heap.size, 0, none⟩) l.size c2] 45)
          have hN3 := hN2.call hx3
          have hrs : Rd (x2.alloc (.cells #[.slice A1 8 c1, .slice (some ⟨x0.heap.size, 0, none⟩) l.size c2] 45)) (x2.alloc (.cells #[.slice A1 8 c1, .slice (some ⟨x0.heap.size, 0, none⟩) l.size c2] 45)).heap.size (some ⟨x2.heap.size, 0, none⟩) 2 [.slice A1 8 c1, .slice (some ⟨x0.heap.size, 0, none⟩) l.size c2] := Rd.mk_ _ _ _ rfl (by simp) rfl rfl
          have hr8 := d_rd hr8 hx3
          have hr2 := d_rd hr2 hx3
          generalize (x2.alloc (.cells #[.slice A1 8 c1, .slice (some ⟨x0.heap.size, 0, none⟩) l.size c2] 45)) = x3 at *
          refine readyT [8, 12] (by kernel_rfl) (by simp) (AllReadyT.cons rfl (fun K hK => ?_) (AllReadyT.cons rfl (fun K hK => ?_) AllReadyT.nil))
          · go_simp
            refine (hdr _ _ _ _ _ _ (hT1.below (by (repeat (first | exact c_refl _ | refine c_drew ?_ | refine c_alloc ?_ _ | refine c_row ?_ (by first | omega | exact Nat.le_refl _) _ | refine c_call ?_ (by assumption))); first | done | fail "open")) h8c hr8 h2c hr2 hrs).mono ?_
            rintro e x4 ⟨rfl, hx4⟩
            refine hK.out _ _ (fun _ => hkeep _ (by (repeat (first | exact c_refl _ | refine c_drew ?_ | refine c_alloc ?_ _ | refine c_row ?_ (by first | omega | exact Nat.le_refl _) _ | refine c_call ?_ (by assumption))); first | done | fail "open")) ?_
            clear hK K
            have hN4 := hN3.call hx4
            clear hr8 hrs hr2
            have hS9 := hkeep x4 (by (repeat (first | exact c_refl _ | refine c_drew ?_ | refine c_alloc ?_ _ | refine c_row ?_ (by first | omega | exact Nat.le_refl _) _ | refine c_call ?_ (by assumption))); first | done | fail "open")
            refine takeD 9 (some 12) (.tuple #[.agg (keyC kk), .int .i64 er]) rfl rfl (by kernel_rfl) (by kernel_rfl) (by kernel_rfl) (by kernel_rfl) (fun _ _ _ h => h) (Or.inl ⟨by kernel_rfl, fun wx hSw => by go_simp⟩) hS9 ?_
            simp only [Act.put, List.setIfInBounds_toArray, List.set_cons_zero, List.set_cons_succ]
            refine takeD 10 (some 22) (.agg (keyC kk)) rfl rfl (by kernel_rfl) (by kernel_rfl) (by kernel_rfl) (by kernel_rfl) (fun _ _ _ h => h) (Or.inl ⟨by kernel_rfl, fun wx hSw => by go_simp⟩) hS9 ?_
            simp only [Act.put, List.setIfInBounds_toArray, List.set_cons_zero, List.set_cons_succ]
            refine takeD 11 (some 23) (.int .i64 er) rfl rfl (by kernel_rfl) (by kernel_rfl) (by kernel_rfl) (by kernel_rfl) (fun _ _ _ h => h) (Or.inl ⟨by kernel_rfl, fun wx hSw => by go_simp⟩) hS9 ?_
            simp only [Act.put, List.setIfInBounds_toArray, List.set_cons_zero, List.set_cons_succ]
            refine oneT 12 (by kernel_rfl) rfl (fun K hK => ?_)
            go_simp
            refine hK.out _ _ (fun _ => hkeep _ (by (repeat (first | exact c_refl _ | refine c_drew ?_ | refine c_alloc ?_ _ | refine c_row ?_ (by first | omega | exact Nat.le_refl _) _ | refine c_call ?_ (by assumption))); first | done | fail "open")) ?_
            clear hK K
            have hnx := fun p hp => Nat.ne_of_lt ((hN4.rows p hp).lt)
            have hgx := hN4.old.size
            have hgz := (hN4.get 0 rfl).lt
            have hx5 := d_al x4 (.cells #[.int .u8 0, .int .u8 0, .int .u8 0, .int .u8 0, .int .u8 0, .int .u8 0, .int .u8 0, .int .u8 0, .int .u8 0, .int .u8 0, .int .u8 0, .int .u8 0, .int .u8 0, .int .u8 0, .int .u8 0, .int .u8 0, .int .u8 0, .int .u8 0, .int .u8 0, .int .u8 0, .int .u8 0, .int .u8 0, .int .u8 0, .int .u8 0, .int .u8 0, .int .u8 0, .int .u8 0, .int .u8 0, .int .u8 0, .int .u8 0, .int .u8 0, .int .u8 0] 24)
            have hN5 := hN4.box 24 #[.int .u8 0, .int .u8 0, .int .u8 0, .int .u8 0, .int .u8 0, .int .u8 0, .int .u8 0, .int .u8 0, .int .u8 0, .int .u8 0, .int .u8 0, .int .u8 0, .int .u8 0, .int .u8 0, .int .u8 0, .int .u8 0, .int .u8 0, .int .u8 0, .int .u8 0, .int .u8 0, .int .u8 0, .int .u8 0, .int .u8 0, .int .u8 0, .int .u8 0, .int .u8 0, .int .u8 0, .int .u8 0, .int .u8 0, .int .u8 0, .int .u8 0, .int .u8 0]
            generalize (x4.alloc (.cells #[.int .u8 0, .int .u8 0, .int .u8 0, .int .u8 0, .int .u8 0, .int .u8 0, .int .u8 0, .int .u8 0, .int .u8 0, .int .u8 0, .int .u8 0, .int .u8 0, .int .u8 0, .int .u8 0, .int .u8 0, .int .u8 0, .int .u8 0, .int .u8 0, .int .u8 0, .int .u8 0, .int .u8 0, .int .u8 0, .int .u8 0, .int .u8 0, .int .u8 0, .int .u8 0, .int .u8 0, .int .u8 0, .int .u8 0, .int .u8 0, .int .u8 0, .int .u8 0] 24)) = x5 at *
            have hset := Ms.set hN5 hgx hnx (keyC kk)
            refine oneT 13 (by kernel_rfl) rfl (fun K hK => ?_)
            refine step_store_row rfl 24 (.tmp 6) (.tmp 22) rfl (x4.heap.size) (keyC kk) rfl rfl 24 _ (hN5.get 0 rfl) Hsk.out Hzk.out Hok.out ?_
            refine hK.out _ _ (fun _ => ⟨(hset.get 2 rfl).seed, (hset.get 2 rfl).nth Hs.out⟩) ?_
            clear hK K
            refine oneT 14 (by kernel_rfl) rfl (fun K hK => ?_)
            go_simp
            refine hK.out _ _ (fun _ => ⟨(hset.get 2 rfl).seed, (hset.get 2 rfl).nth Hs.out⟩) ?_
            clear hK K
            refine doneT (by kernel_rfl) ?_ _
            go_wp2_with fail
            go_meet
            exact ⟨_, rfl, rfl, hgz, hset⟩
          · go_simp
            refine hK.out _ _ (fun _ => hkeep _ (by (repeat (first | exact c_refl _ | refine c_drew ?_ | refine c_alloc ?_ _ | refine c_row ?_ (by first | omega | exact Nat.le_refl _) _ | refine c_call ?_ (by assumption))); first | done | fail "open")) ?_
            clear hK K
            have hnx := fun p hp => Nat.ne_of_lt ((hN3.rows p hp).lt)
            have hgx := hN3.old.size
            have hgz := (hN3.get 0 rfl).lt
            have hx4 := d_al x3 (.cells #[.int .u8 0, .int .u8 0, .int .u8 0, .int .u8 0, .int .u8 0, .int .u8 0, .int .u8 0, .int .u8 0, .int .u8 0, .int .u8 0, .int .u8 0, .int .u8 0, .int .u8 0, .int .u8 0, .int .u8 0, .int .u8 0, .int .u8 0, .int .u8 0, .int .u8 0, .int .u8 0, .int .u8 0, .int .u8 0, .int .u8 0, .int .u8 0, .int .u8 0, .int .u8 0, .int .u8 0, .int .u8 0, .int .u8 0, .int .u8 0, .int .u8 0, .int .u8 0] 24)
            have hN4 := hN3.box 24 #[.int .u8 0, .int .u8 0, .int .u8 0, .int .u8 0, .int .u8 0, .int .u8 0, .int .u8 0, .int .u8 0, .int .u8 0, .int .u8 0, .int .u8 0, .int .u8 0, .int .u8 0, .int .u8 0, .int .u8 0, .int .u8 0, .int .u8 0, .int .u8 0, .int .u8 0, .int .u8 0, .int .u8 0, .int .u8 0, .int .u8 0, .int .u8 0, .int .u8 0, .int .u8 0, .int .u8 0, .int .u8 0, .int .u8 0, .int .u8 0, .int .u8 0, .int .u8 0]
            have hr8 := d_rd hr8 hx4
            have hr2 := d_rd hr2 hx4
            have hrs := d_rd hrs hx4
            generalize (x3.alloc (.cells #[.int .u8 0, .int .u8 0, .int .u8 0, .int .u8 0, .int .u8 0, .int .u8 0, .int .u8 0, .int .u8 0, .int .u8 0, .int .u8 0, .int .u8 0, .int .u8 0, .int .u8 0, .int .u8 0, .int .u8 0, .int .u8 0, .int .u8 0, .int .u8 0, .int .u8 0, .int .u8 0, .int .u8 0, .int .u8 0, .int .u8 0, .int .u8 0, .int .u8 0, .int .u8 0, .int .u8 0, .int .u8 0, .int .u8 0, .int .u8 0, .int .u8 0, .int .u8 0] 24)) = x4 at *
            refine oneT 8 (by kernel_rfl) rfl (fun K hK => ?_)
            go_simp
            refine (hdr _ _ _ _ _ _ (hT1.below (by (repeat (first | exact c_refl _ | refine c_drew ?_ | refine c_alloc ?_ _ | refine c_row ?_ (by first | omega | exact Nat.le_refl _) _ | refine c_call ?_ (by assumption))); first | done | fail "open")) h8c hr8 h2c hr2 hrs).mono ?_
            rintro e x5 ⟨rfl, hx5⟩
            refine hK.out _ _ (fun _ => hkeep _ (by (repeat (first | exact c_refl _ | refine c_drew ?_ | refine c_alloc ?_ _ | refine c_row ?_ (by first | omega | exact Nat.le_refl _) _ | refine c_call ?_ (by assumption))); first | done | fail "open")) ?_
            clear hK K
            have hN5 := hN4.call hx5
            clear hr8 hrs hr2
            have hS9 := hkeep x5 (by (repeat (first | exact c_refl _ | refine c_drew ?_ | refine c_alloc ?_ _ | refine c_row ?_ (by first | omega | exact Nat.le_refl _) _ | refine c_call ?_ (by assumption))); first | done | fail "open")
            refine takeD 9 (some 12) (.tuple #[.agg (keyC kk), .int .i64 er]) rfl rfl (by kernel_rfl) (by kernel_rfl) (by kernel_rfl) (by kernel_rfl) (fun _ _ _ h => h) (Or.inl ⟨by kernel_rfl, fun wx hSw => by go_simp⟩) hS9 ?_
            simp only [Act.put, List.setIfInBounds_toArray, List.set_cons_zero, List.set_cons_succ]
            refine takeD 10 (some 22) (.agg (keyC kk)) rfl rfl (by kernel_rfl) (by kernel_rfl) (by kernel_rfl) (by kernel_rfl) (fun _ _ _ h => h) (Or.inl ⟨by kernel_rfl, fun wx hSw => by go_simp⟩) hS9 ?_
            simp only [Act.put, List.setIfInBounds_toArray, List.set_cons_zero, List.set_cons_succ]
            refine takeD 11 (some 23) (.int .i64 er) rfl rfl (by kernel_rfl) (by kernel_rfl) (by kernel_rfl) (by kernel_rfl) (fun _ _ _ h => h) (Or.inl ⟨by kernel_rfl, fun wx hSw => by go_simp⟩) hS9 ?_
            simp only [Act.put, List.setIfInBounds_toArray, List.set_cons_zero, List.set_cons_succ]
            have hset := Ms.set hN5 hgx hnx (keyC kk)
            refine oneT 13 (by kernel_rfl) rfl (fun K hK => ?_)
            refine step_store_row rfl 24 (.tmp 6) (.tmp 22) rfl (x3.heap.size) (keyC kk) rfl rfl 24 _ (hN5.get 0 rfl) Hsk.out Hzk.out Hok.out ?_
            refine hK.out _ _ (fun _ => ⟨(hset.get 2 rfl).seed, (hset.get 2 rfl).nth Hs.out⟩) ?_
            clear hK K
            refine oneT 14 (by kernel_rfl) rfl (fun K hK => ?_)
            go_simp
            refine hK.out _ _ (fun _ => ⟨(hset.get 2 rfl).seed, (hset.get 2 rfl).nth Hs.out⟩) ?_
            clear hK K
            refine doneT (by kernel_rfl) ?_ _
            go_wp2_with fail
            go_meet
            exact ⟨_, rfl, rfl, hgz, hset⟩
        · go_simp
          refine hK.out _ _ (fun _ => hkeep _ (by (repeat (first | exact c_refl _ | refine c_drew ?_ | refine c_alloc ?_ _ | refine c_row ?_ (by first | omega | exact Nat.le_refl _) _ | refine c_call ?_ (by assumption))); first | done | fail "open")) ?_
          clear hK K
          have hnx := fun p hp => Nat.ne_of_lt ((hN2.rows p hp).lt)
          have hgx := hN2.old.size
          have hgz := (hN2.get 0 rfl).lt
          have hx3 := d_al x2 (.cells #[.int .u8 0, .int .u8 0, .int .u8 0, .int .u8 0, .int .u8 0, .int .u8 0, .int .u8 0, .int .u8 0, .int .u8 0, .int .u8 0, .int .u8 0, .int .u8 0, .int .u8 0, .int .u8 0, .int .u8 0, .int .u8 0, .int .u8 0, .int .u8 0, .int .u8 0, .int .u8 0, .int .u8 0, .int .u8 0, .int .u8 0, .int .u8 0, .int .u8 0, .int .u8 0, .int .u8 0, .int .u8 0, .int .u8 0, .int .u8 0, .int .u8 0, .int .u8 0] 24)
          have hN3 := hN2.box 24 #[.int .u8 0, .int .u8 0, .int .u8 0, .int .u8 0, .int .u8 0, .int .u8 0, .int .u8 0, .int .u8 0, .int .u8 0, .int .u8 0, .int .u8 0, .int .u8 0, .int .u8 0, .int .u8 0, .int .u8 0, .int .u8 0, .int .u8 0, .int .u8 0, .int .u8 0, .int .u8 0, .int .u8 0, .int .u8 0, .int .u8 0, .int .u8 0, .int .u8 0, .int .u8 0, .int .u8 0, .int .u8 0, .int .u8 0, .int .u8 0, .int .u8 0, .int .u8 0]
          have hr8 := d_rd hr8 hx3
          have hr2 := d_rd hr2 hx3
          generalize (x2.alloc (.cells #[.int .u8 0, .int .u8 0, .int .u8 0, .int .u8 0, .int .u8 0, .int .u8 0, .int .u8 0, .int .u8 0, .int .u8 0, .int .u8 0, .int .u8 0, .int .u8 0, .int .u8 0, .int .u8 0, .int .u8 0, .int .u8 0, .int .u8 0, .int .u8 0, .int .u8 0, .int .u8 0, .int .u8 0, .int .u8 0, .int .u8 0, .int .u8 0, .int .u8 0, .int .u8 0, .int .u8 0, .int .u8 0, .int .u8 0, .int .u8 0, .int .u8 0, .int .u8 0] 24)) = x3 at *
          refine oneT 7 (by kernel_rfl) rfl (fun K hK => ?_)
          go_simp
          refine hK.out _ _ (fun _ => hkeep _ (by (repeat (first | exact c_refl _ | refine c_drew ?_ | refine c_alloc ?_ _ | refine c_row ?_ (by first | omega | exact Nat.le_refl _) _ | refine c_call ?_ (by assumption))); first | done | fail "open")) ?_
          clear hK K
          have hx4 := d_al x3 (.cells #[.slice A1 8 c1, .slice (some ⟨x0.heap.size, 0, none⟩) l.size c2] 45)
          have hN4 := hN3.call hx4
          have hrs : Rd (x3.alloc (.cells #[.slice A1 8 c1, .slice (some ⟨x0.heap.size, 0, none⟩) l.size c2] 45)) (x3.alloc (.cells #[.slice A1 8 c1, .slice (some ⟨x0.heap.size, 0, none⟩) l.size c2] 45)).heap.size (some ⟨x3.heap.size, 0, none⟩) 2 [.slice A1 8 c1, .slice (some ⟨x0.heap.size, 0, none⟩) l.size c2] := Rd.mk_ _ _ _ rfl (by simp) rfl rfl
          have hr8 := d_rd hr8 hx4
          have hr2 := d_rd hr2 hx4
          generalize (x3.alloc (.cells #[.slice A1 8 c1, .slice (some ⟨x0.heap.size, 0, none⟩) l.size c2] 45)) = x4 at *
          refine oneT 8 (by kernel_rfl) rfl (fun K hK => ?_)
          go_simp
          refine (hdr _ _ _ _ _ _ (hT1.below (by (repeat (first | exact c_refl _ | refine c_drew ?_ | refine c_alloc ?_ _ | refine c_row ?_ (by first | omega | exact Nat.le_refl _) _ | refine c_call ?_ (by assumption))); first | done | fail "open")) h8c hr8 h2c hr2 hrs).mono ?_
          rintro e x5 ⟨rfl, hx5⟩
          refine hK.out _ _ (fun _ => hkeep _ (by (repeat (first | exact c_refl _ | refine c_drew ?_ | refine c_alloc ?_ _ | refine c_row ?_ (by first | omega | exact Nat.le_refl _) _ | refine c_call ?_ (by assumption))); first | done | fail "open")) ?_
          clear hK K
          have hN5 := hN4.call hx5
          clear hr8 hrs hr2
          have hS9 := hkeep x5 (by (repeat (first | exact c_refl _ | refine c_drew ?_ | refine c_alloc ?_ _ | refine c_row ?_ (by first | omega | exact Nat.le_refl _) _ | refine c_call ?_ (by assumption))); first | done | fail "open")
          refine takeD 9 (some 12) (.tuple #[.agg (keyC kk), .int .i64 er]) rfl rfl (by kernel_rfl) (by kernel_rfl) (by kernel_rfl) (by kernel_rfl) (fun _ _ _ h => h) (Or.inl ⟨by kernel_rfl, fun wx hSw => by go_simp⟩) hS9 ?_
          simp only [Act.put, List.setIfInBounds_toArray, List.set_cons_zero, List.set_cons_succ]
          refine takeD 10 (some 22) (.agg (keyC kk)) rfl rfl (by kernel_rfl) (by kernel_rfl) (by kernel_rfl) (by kernel_rfl) (fun _ _ _ h => h) (Or.inl ⟨by kernel_rfl, fun wx hSw => by go_simp⟩) hS9 ?_
          simp only [Act.put, List.setIfInBounds_toArray, List.set_cons_zero, List.set_cons_succ]
          refine takeD 11 (some 23) (.int .i64 er) rfl rfl (by kernel_rfl) (by kernel_rfl) (by kernel_rfl) (by kernel_rfl) (fun _ _ _ h => h) (Or.inl ⟨by kernel_rfl, fun wx hSw => by go_simp⟩) hS9 ?_
          simp only [Act.put, List.setIfInBounds_toArray, List.set_cons_zero, List.set_cons_succ]
          have hset := Ms.set hN5 hgx hnx (keyC kk)
          refine oneT 13 (by kernel_rfl) rfl (fun K hK => ?_)
          refine step_store_row rfl 24 (.tmp 6) (.tmp 22) rfl (x2.heap.size) (keyC kk) rfl rfl 24 _ (hN5.get 0 rfl) Hsk.out Hzk.out Hok.out ?_
          refine hK.out _ _ (fun _ => ⟨(hset.get 2 rfl).seed, (hset.get 2 rfl).nth Hs.out⟩) ?_
          clear hK K
          refine oneT 14 (by kernel_rfl) rfl (fun K hK => ?_)
          go_simp
          refine hK.out _ _ (fun _ => ⟨(hset.get 2 rfl).seed, (hset.get 2 rfl).nth Hs.out⟩) ?_
          clear hK K
          refine doneT (by kernel_rfl) ?_ _
          go_wp2_with fail
          go_meet
          exact ⟨_, rfl, rfl, hgz, hset⟩
      · go_simp
        refine hK.out _ _ (fun _ => hkeep _ (by (repeat (first | exact c_refl _ | refine c_drew ?_ | refine c_alloc ?_ _ | refine c_row ?_ (by first | omega | exact Nat.le_refl _) _ | refine c_call ?_ (by assumption))); first | done | fail "open")) ?_
        clear hK K
        have hnx := fun p hp => Nat.ne_of_lt ((hN1.rows p hp).lt)
        have hgx := hN1.old.size
        have hgz := (hN1.get 0 rfl).lt
        have hx2 := d_al x1 (.cells #[.int .u8 0, .int .u8 0, .int .u8 0, .int .u8 0, .int .u8 0, .int .u8 0, .int .u8 0, .int .u8 0, .int .u8 0, .int .u8 0, .int .u8 0, .int .u8 0, .int .u8 0, .int .u8 0, .int .u8 0, .int .u8 0, .int .u8 0, .int .u8 0, .int .u8 0, .int .u8 0, .int .u8 0, .int .u8 0, .int .u8 0, .int .u8 0, .int .u8 0, .int .u8 0, .int .u8 0, .int .u8 0, .int .u8 0, .int .u8 0, .int .u8 0, .int .u8 0] 24)
        have hN2 := hN1.box 24 #[.int .u8 0, .int .u8 0, .int .u8 0, .int .u8 0, .int .u8 0, .int .u8 0, .int .u8 0, .int .u8 0, .int .u8 0, .int .u8 0, .int .u8 0, .int .u8 0, .int .u8 0, .int .u8 0, .int .u8 0, .int .u8 0, .int .u8 0, .int .u8 0, .int .u8 0, .int .u8 0, .int .u8 0, .int .u8 0, .int .u8 0, .int .u8 0, .int .u8 0, .int .u8 0, .int .u8 0, .int .u8 0, .int .u8 0, .int .u8 0, .int .u8 0, .int .u8 0]
        have hr2 := d_rd hr2 hx2
        generalize (x1.alloc (.cells #[.int .u8 0, .int .u8 0, .int .u8 0, .int .u8 0, .int .u8 0, .int .u8 0, .int .u8 0, .int .u8 0, .int .u8 0, .int .u8 0, .int .u8 0, .int .u8 0, .int .u8 0, .int .u8 0, .int .u8 0, .int .u8 0, .int .u8 0, .int .u8 0, .int .u8 0, .int .u8 0, .int .u8 0, .int .u8 0, .int .u8 0, .int .u8 0, .int .u8 0, .int .u8 0, .int .u8 0, .int .u8 0, .int .u8 0, .int .u8 0, .int .u8 0, .int .u8 0] 24)) = x2 at *
        refine oneT 4 (by kernel_rfl) rfl (fun K hK => ?_)
        go_simp
        refine (hby _).mono ?_
        rintro e x3 ⟨A1, c1, rfl, ho1, hx3⟩
        refine hK.out _ _ (fun _ => hkeep _ (by (repeat (first | exact c_refl _ | refine c_drew ?_ | refine c_alloc ?_ _ | refine c_row ?_ (by first | omega | exact Nat.le_refl _) _ | refine c_call ?_ (by assumption))); first | done | fail "open")) ?_
        clear hK K
        have hN3 := hN2.call hx3
        have hr8 := Rd.of_own ho1
        have h8c := capD ho1
        clear ho1
        have hr2 := d_rd hr2 hx3
        refine oneT 7 (by kernel_rfl) rfl (fun K hK => ?_)
        go_simp
        refine hK.out _ _ (fun _ => hkeep _ (by (repeat (first | exact c_refl _ | refine c_drew ?_ | refine c_alloc ?_ _ | refine c_row ?_ (by first | omega | exact Nat.le_refl _) _ | refine c_call ?_ (by assumption))); first | done | fail "open")) ?_
        clear hK K
        have hx4 := d_al x3 (.cells #[.slice A1 8 c1, .slice (some ⟨x0.heap.size, 0, none⟩) l.size c2] 45)
        have hN4 := hN3.call hx4
        have hrs : Rd (x3.alloc (.cells #[.slice A1 8 c1, .slice (some ⟨x0.heap.size, 0, none⟩) l.size c2] 45)) (x3.alloc (.cells #[.slice A1 8 c1, .slice (some ⟨x0.heap.size, 0, none⟩) l.size c2] 45)).heap.size (some ⟨x3.heap.size, 0, none⟩) 2 [.slice A1 8 c1, .slice (some ⟨x0.heap.size, 0, none⟩) l.size c2] := Rd.mk_ _ _ _ rfl (by simp) rfl rfl
        have hr8 := d_rd hr8 hx4
        have hr2 := d_rd hr2 hx4
        generalize (x3.alloc (.cells #[.slice A1 8 c1, .slice (some ⟨x0.heap.size, 0, none⟩) l.size c2] 45)) = x4 at *
        refine oneT 8 (by kernel_rfl) rfl (fun K hK => ?_)
        go_simp
        refine (hdr _ _ _ _ _ _ (hT1.below (by (repeat (first | exact c_refl _ | refine c_drew ?_ | refine c_alloc ?_ _ | refine c_row ?_ (by first | omega | exact Nat.le_refl _) _ | refine c_call ?_ (by assumption))); first | done | fail "open")) h8c hr8 h2c hr2 hrs).mono ?_
        rintro e x5 ⟨rfl, hx5⟩
        refine hK.out _ _ (fun _ => hkeep _ (by (repeat (first | exact c_refl _ | refine c_drew ?_ | refine c_alloc ?_ _ | refine c_row ?_ (by first | omega | exact Nat.le_refl _) _ | refine c_call ?_ (by assumption))); first | done | fail "open")) ?_
        clear hK K
        have hN5 := hN4.call hx5
        clear hr8 hrs hr2
        have hS9 := hkeep x5 (by (repeat (first | exact c_refl _ | refine c_drew ?_ | refine c_alloc ?_ _ | refine c_row ?_ (by first | omega | exact Nat.le_refl _) _ | refine c_call ?_ (by assumption))); first | done | fail "open")
        refine takeD 9 (some 12) (.tuple #[.agg (keyC kk), .int .i64 er]) rfl rfl (by kernel_rfl) (by kernel_rfl) (by kernel_rfl) (by kernel_rfl) (fun _ _ _ h => h) (Or.inl ⟨by kernel_rfl, fun wx hSw => by go_simp⟩) hS9 ?_
        simp only [Act.put, List.setIfInBounds_toArray, List.set_cons_zero, List.set_cons_succ]
        refine takeD 10 (some 22) (.agg (keyC kk)) rfl rfl (by kernel_rfl) (by kernel_rfl) (by kernel_rfl) (by kernel_rfl) (fun _ _ _ h => h) (Or.inl ⟨by kernel_rfl, fun wx hSw => by go_simp⟩) hS9 ?_
        simp only [Act.put, List.setIfInBounds_toArray, List.set_cons_zero, List.set_cons_succ]
        refine takeD 11 (some 23) (.int .i64 er) rfl rfl (by kernel_rfl) (by kernel_rfl) (by kernel_rfl) (by kernel_rfl) (fun _ _ _ h => h) (Or.inl ⟨by kernel_rfl, fun wx hSw => by go_simp⟩) hS9 ?_
        simp only [Act.put, List.setIfInBounds_toArray, List.set_cons_zero, List.set_cons_succ]
        have hset := Ms.set hN5 hgx hnx (keyC kk)
        refine oneT 13 (by kernel_rfl) rfl (fun K hK => ?_)
        refine step_store_row rfl 24 (.tmp 6) (.tmp 22) rfl (x1.heap.size) (keyC kk) rfl rfl 24 _ (hN5.get 0 rfl) Hsk.out Hzk.out Hok.out ?_
        refine hK.out _ _ (fun _ => ⟨(hset.get 2 rfl).seed, (hset.get 2 rfl).nth Hs.out⟩) ?_
        clear hK K
        refine oneT 14 (by kernel_rfl) rfl (fun K hK => ?_)
        go_simp
        refine hK.out _ _ (fun _ => ⟨(hset.get 2 rfl).seed, (hset.get 2 rfl).nth Hs.out⟩) ?_
        clear hK K
        refine doneT (by kernel_rfl) ?_ _
        go_wp2_with fail
        go_meet
        exact ⟨_, rfl, rfl, hgz, hset⟩
    · go_simp
      refine hK.out _ _ (fun _ => hkeep _ (by (repeat (first | exact c_refl _ | refine c_drew ?_ | refine c_alloc ?_ _ | refine c_row ?_ (by first | omega | exact Nat.le_refl _) _ | refine c_call ?_ (by assumption))); first | done | fail "open")) ?_
      clear hK K
      have hnx := fun p hp => Nat.ne_of_lt ((hD.rows p hp).lt)
      have hgx := hD.old.size
      have hgz := (hD.get 0 rfl).lt
      have hx1 := d_al x0 (.cells #[.int .u8 0, .int .u8 0, .int .u8 0, .int .u8 0, .int .u8 0, .int .u8 0, .int .u8 0, .int .u8 0, .int .u8 0, .int .u8 0, .int .u8 0, .int .u8 0, .int .u8 0, .int .u8 0, .int .u8 0, .int .u8 0, .int .u8 0, .int .u8 0, .int .u8 0, .int .u8 0, .int .u8 0, .int .u8 0, .int .u8 0, .int .u8 0, .int .u8 0, .int .u8 0, .int .u8 0, .int .u8 0, .int .u8 0, .int .u8 0, .int .u8 0, .int .u8 0] 24)
      have hN1 := hD.box 24 #[.int .u8 0, .int .u8 0, .int .u8 0, .int .u8 0, .int .u8 0, .int .u8 0, .int .u8 0, .int .u8 0, .int .u8 0, .int .u8 0, .int .u8 0, .int .u8 0, .int .u8 0, .int .u8 0, .int .u8 0, .int .u8 0, .int .u8 0, .int .u8 0, .int .u8 0, .int .u8 0, .int .u8 0, .int .u8 0, .int .u8 0, .int .u8 0, .int .u8 0, .int .u8 0, .int .u8 0, .int .u8 0, .int .u8 0, .int .u8 0, .int .u8 0, .int .u8 0]
      generalize (x0.alloc (.cells #[.int .u8 0, .int .u8 0, .int .u8 0, .int .u8 0, .int .u8 0, .int .u8 0, .int .u8 0, .int .u8 0, .int .u8 0, .int .u8 0, .int .u8 0, .int .u8 0, .int .u8 0, .int .u8 0, .int .u8 0, .int .u8 0, .int .u8 0, .int .u8 0, .int .u8 0, .int .u8 0, .int .u8 0, .int .u8 0, .int .u8 0, .int .u8 0, .int .u8 0, .int .u8 0, .int .u8 0, .int .u8 0, .int .u8 0, .int .u8 0, .int .u8 0, .int .u8 0] 24)) = x1 at *
      refine readyT [4, 6] (by kernel_rfl) (by simp) (AllReadyT.cons rfl (fun K hK => ?_) (AllReadyT.cons rfl (fun K hK => ?_) AllReadyT.nil))
      · go_simp
        refine (hby _).mono ?_
        rintro e x2 ⟨A1, c1, rfl, ho1, hx2⟩
        refine hK.out _ _ (fun _ => hkeep _ (by (repeat (first | exact c_refl _ | refine c_drew ?_ | refine c_alloc ?_ _ | refine c_row ?_ (by first | omega | exact Nat.le_refl _) _ | refine c_call ?_ (by assumption))); first | done | fail "open")) ?_
        clear hK K
        have hN2 := hN1.call hx2
        have hr8 := Rd.of_own ho1
        have h8c := capD ho1
        clear ho1
        refine oneT 6 (by kernel_rfl) rfl (fun K hK => ?_)
        refine step_conv (by kernel_rfl) (some 19) rfl 9 45 _ rfl l rfl _ _ (Hcv.out x2) ?_
        have hx3 := (HC.out x2).below
        have hr2 := (HC.out x2).rd
        have h2c := (HC.out x2).cap
        generalize wf x2 = x3 at *
        generalize cf x2 = c2 at *
        refine hK.out _ _ (fun _ => hkeep _ (by (repeat (first | exact c_refl _ | refine c_drew ?_ | refine c_alloc ?_ _ | refine c_row ?_ (by first | omega | exact Nat.le_refl _) _ | refine c_call ?_ (by assumption))); first | done | fail "open")) ?_
        simp only [Act.put, List.setIfInBounds_toArray, List.set_cons_zero, List.set_cons_succ]
        clear hK K
        have hN3 := hN2.call hx3
        have hr8 := d_rd hr8 hx3
        refine oneT 7 (by kernel_rfl) rfl (fun K hK => ?_)
        go_simp
        refine hK.out _ _ (fun _ => hkeep _ (by (repeat (first | exact c_refl _ | refine c_drew ?_ | refine c_alloc ?_ _ | refine c_row ?_ (by first | omega | exact Nat.le_refl _) _ | refine c_call ?_ (by assumption))); first | done | fail "open")) ?_
        clear hK K
        have hx4 := d_al x3 (.cells #[.slice A1 8 c1, .slice (some ⟨x2.heap.size, 0, none⟩) l.size c2] 45)
        have hN4 := hN3.call hx4
        have hrs : Rd (x3.alloc (.cells #[.slice A1 8 c1, .slice (some ⟨x2.heap.size, 0, none⟩) l.size c2] 45)) (x3.alloc (.cells #[.slice A1 8 c1, .slice (some ⟨x2.heap.size, 0, none⟩) l.size c2] 45)).heap.size (some ⟨x3.heap.size, 0, none⟩) 2 [.slice A1 8 c1, .slice (some ⟨x2.heap.size, 0, none⟩) l.size c2] := Rd.mk_ _ _ _ rfl (by simp) rfl rfl
        have hr8 := d_rd hr8 hx4
        have hr2 := d_rd hr2 hx4
        generalize (x3.alloc (.cells #[.slice A1 8 c1, .slice (some ⟨x2.heap.size, 0, none⟩) l.size c2] 45)) = x4 at *
        refine oneT 8 (by kernel_rfl) rfl (fun K hK => ?_)
        go_simp
        refine (hdr _ _ _ _ _ _ (hT1.below (by (repeat (first | exact c_refl _ | refine c_drew ?_ | refine c_alloc ?_ _ | refine c_row ?_ (by first | omega | exact Nat.le_refl _) _ | refine c_call ?_ (by assumption))); first | done | fail "open")) h8c hr8 h2c hr2 hrs).mono ?_
        rintro e x5 ⟨rfl, hx5⟩
        refine hK.out _ _ (fun _ => hkeep _ (by (repeat (first | exact c_refl _ | refine c_drew ?_ | refine c_alloc ?_ _ | refine c_row ?_ (by first | omega | exact Nat.le_refl _) _ | refine c_call ?_ (by assumption))); first | done | fail "open")) ?_
        clear hK K
        have hN5 := hN4.call hx5
        clear hr8 hrs hr2
        have hS9 := hkeep x5 (by (repeat (first | exact c_refl _ | refine c_drew ?_ | refine c_alloc ?_ _ | refine c_row ?_ (by first | omega | exact Nat.le_refl _) _ | refine c_call ?_ (by assumption))); first | done | fail "open")
        refine takeD 9 (some 12) (.tuple #[.agg (keyC kk), .int .i64 er]) rfl rfl (by kernel_rfl) (by kernel_rfl) (by kernel_rfl) (by kernel_rfl) (fun _ _ _ h => h) (Or.inl ⟨by kernel_rfl, fun wx hSw => by go_simp⟩) hS9 ?_
        simp only [Act.put, List.setIfInBounds_toArray, List.set_cons_zero, List.set_cons_succ]
        refine takeD 10 (some 22) (.agg (keyC kk)) rfl rfl (by kernel_rfl) (by kernel_rfl) (by kernel_rfl) (by kernel_rfl) (fun _ _ _ h => h) (Or.inl ⟨by kernel_rfl, fun wx hSw => by go_simp⟩) hS9 ?_
        simp only [Act.put, List.setIfInBounds_toArray, List.set_cons_zero, List.set_cons_succ]
        refine takeD 11 (some 23) (.int .i64 er) rfl rfl (by kernel_rfl) (by kernel_rfl) (by kernel_rfl) (by kernel_rfl) (fun _ _ _ h => h) (Or.inl ⟨by kernel_rfl, fun wx hSw => by go_simp⟩) hS9 ?_
        simp only [Act.put, List.setIfInBounds_toArray, List.set_cons_zero, List.set_cons_succ]
        have hset := Ms.set hN5 hgx hnx (keyC kk)
        refine oneT 13 (by kernel_rfl) rfl (fun K hK => ?_)
        refine step_store_row rfl 24 (.tmp 6) (.tmp 22) rfl (x0.heap.size) (keyC kk) rfl rfl 24 _ (hN5.get 0 rfl) Hsk.out Hzk.out Hok.out ?_
        refine hK.out _ _ (fun _ => ⟨(hset.get 2 rfl).seed, (hset.get 2 rfl).nth Hs.out⟩) ?_
        clear hK K
        refine oneT 14 (by kernel_rfl) rfl (fun K hK => ?_)
        go_simp
        refine hK.out _ _ (fun _ => ⟨(hset.get 2 rfl).seed, (hset.get 2 rfl).nth Hs.out⟩) ?_
        clear hK K
        refine doneT (by kernel_rfl) ?_ _
        go_wp2_with fail
        go_meet
        exact ⟨_, rfl, rfl, hgz, hset⟩
      · refine step_conv (by kernel_rfl) (some 19) rfl 9 45 _ rfl l rfl _ _ (Hcv.out x1) ?_
        have hx2 := (HC.out x1).below
        have hr2 := (HC.out x1).rd
        have h2c := (HC.out x1).cap
        generalize wf x1 = x2 at *
        generalize cf x1 = c2 at *
        refine hK.out _ _ (fun _ => hkeep _ (by (repeat (first | exact c_refl _ | refine c_drew ?_ | refine c_alloc ?_ _ | refine c_row ?_ (by first | omega | exact Nat.le_refl _) _ | refine c_call ?_ (by assumption))); first | done | fail "open")) ?_
        simp only [Act.put, List.setIfInBounds_toArray, List.set_cons_zero, List.set_cons_succ]
        clear hK K
        have hN2 := hN1.call hx2
        refine oneT 4 (by kernel_rfl) rfl (fun K hK => ?_)
        go_simp
        refine (hby _).mono ?_
        rintro e x3 ⟨A1, c1, rfl, ho1, hx3⟩
        refine hK.out _ _ (fun _ => hkeep _ (by (repeat (first | exact c_refl _ | refine c_drew ?_ | refine c_alloc ?_ _ | refine c_row ?_ (by first | omega | exact Nat.le_refl _) _ | refine c_call ?_ (by assumption))); first | done | fail "open")) ?_
        clear hK K
        have hN3 := hN2.call hx3
        have hr8 := Rd.of_own ho1
        have h8c := capD ho1
        clear ho1
        have hr2 := d_rd hr2 hx3
        refine oneT 7 (by kernel_rfl) rfl (fun K hK => ?_)
        go_simp
        refine hK.out _ _ (fun _ => hkeep _ (by (repeat (first | exact c_refl _ | refine c_drew ?_ | refine c_alloc ?_ _ | refine c_row ?_ (by first | omega | exact Nat.le_refl _) _ | refine c_call ?_ (by assumption))); first | done | fail "open")) ?_
        clear hK K
        have hx4 := d_al x3 (.cells #[.slice A1 8 c1, .slice (some ⟨x1.heap.size, 0, none⟩) l.size c2] 45)
        have hN4 := hN3.call hx4
        have hrs : Rd (x3.alloc (.cells #[.slice A1 8 c1, .slice (some ⟨x1.heap.size, 0, none⟩) l.size c2] 45)) (x3.alloc (.cells #[.slice A1 8 c1, .slice (some ⟨x1.heap.size, 0, none⟩) l.size c2] 45)).heap.size (some ⟨x3.heap.size, 0, none⟩) 2 [.slice A1 8 c1, .slice (some ⟨x1.heap.size, 0, none⟩) l.size c2] := Rd.mk_ _ _ _ rfl (by simp) rfl rfl
        have hr8 := d_rd hr8 hx4
        have hr2 := d_rd hr2 hx4
        generalize (x3.alloc (.cells #[.slice A1 8 c1, .slice (some ⟨x1.heap.size, 0, none⟩) l.size c2] 45)) = x4 at *
        refine oneT 8 (by kernel_rfl) rfl (fun K hK => ?_)
        go_simp
        refine (hdr _ _ _ _ _ _ (hT1.below (by (repeat (first | exact c_refl _ | refine c_drew ?_ | refine c_alloc ?_ _ | refine c_row ?_ (by first | omega | exact Nat.le_refl _) _ | refine c_call ?_ (by assumption))); first | done | fail "open")) h8c hr8 h2c hr2 hrs).mono ?_
        rintro e x5 ⟨rfl, hx5⟩
        refine hK.out _ _ (fun _ => hkeep _ (by (repeat (first | exact c_refl _ | refine c_drew ?_ | refine c_alloc ?_ _ | refine c_row ?_ (by first | omega | exact Nat.le_refl _) _ | refine c_call ?_ (by assumption))); first | done | fail "open")) ?_
        clear hK K
        have hN5 := hN4.call hx5
        clear hr8 hrs hr2
        have hS9 := hkeep x5 (by (repeat (first | exact c_refl _ | refine c_drew ?_ | refine c_alloc ?_ _ | refine c_row ?_ (by first | omega | exact Nat.le_refl _) _ | refine c_call ?_ (by assumption))); first | done | fail "open")
        refine takeD 9 (some 12) (.tuple #[.agg (keyC kk), .int .i64 er]) rfl rfl (by kernel_rfl) (by kernel_rfl) (by kernel_rfl) (by kernel_rfl) (fun _ _ _ h => h) (Or.inl ⟨by kernel_rfl, fun wx hSw => by go_simp⟩) hS9 ?_
        simp only [Act.put, List.setIfInBounds_toArray, List.set_cons_zero, List.set_cons_succ]
        refine takeD 10 (some 22) (.agg (keyC kk)) rfl rfl (by kernel_rfl) (by kernel_rfl) (by kernel_rfl) (by kernel_rfl) (fun _ _ _ h => h) (Or.inl ⟨by kernel_rfl, fun wx hSw => by go_simp⟩) hS9 ?_
        simp only [Act.put, List.setIfInBounds_toArray, List.set_cons_zero, List.set_cons_succ]
        refine takeD 11 (some 23) (.int .i64 er) rfl rfl (by kernel_rfl) (by kernel_rfl) (by kernel_rfl) (by kernel_rfl) (fun _ _ _ h => h) (Or.inl ⟨by kernel_rfl, fun wx hSw => by go_simp⟩) hS9 ?_
        simp only [Act.put, List.setIfInBounds_toArray, List.set_cons_zero, List.set_cons_succ]
        have hset := Ms.set hN5 hgx hnx (keyC kk)
        refine oneT 13 (by kernel_rfl) rfl (fun K hK => ?_)
        refine step_store_row rfl 24 (.tmp 6) (.tmp 22) rfl (x0.heap.size) (keyC kk) rfl rfl 24 _ (hN5.get 0 rfl) Hsk.out Hzk.out Hok.out ?_
        refine hK.out _ _ (fun _ => ⟨(hset.get 2 rfl).seed, (hset.get 2 rfl).nth Hs.out⟩) ?_
        clear hK K
        refine oneT 14 (by kernel_rfl) rfl (fun K hK => ?_)
        go_simp
        refine hK.out _ _ (fun _ => ⟨(hset.get 2 rfl).seed, (hset.get 2 rfl).nth Hs.out⟩) ?_
        clear hK K
        refine doneT (by kernel_rfl) ?_ _
        go_wp2_with fail
        go_meet
        exact ⟨_, rfl, rfl, hgz, hset⟩
  case rest =>
    obtain ⟨g6, rfl, rfl, hg6, hM4⟩ := hcut
    clear hM hdr hby Hcv HC
    rcases Hrel.out with ⟨he, rfl⟩ | ⟨he, rfl, hk⟩
    · have He := Lib.hid (Hv1.out 4 he (by decide))
      go_wp2_with ((with_reducible show wpList _ _ _ (⟨none, Op.store 27 _ _, _, _, _, _⟩ :: _) _ _); refine wpList_store_row rfl 27 (.tmp 4) (.tmp 26) rfl (w.heap.size + 1) #[.int .u8 0, .int .u8 0, .int .u8 0, .int .u8 0, .int .u8 0, .int .u8 0, .int .u8 0, .int .u8 0, .int .u8 0, .int .u8 0, .int .u8 0, .int .u8 0, .int .u8 0, .int .u8 0, .int .u8 0, .int .u8 0, .int .u8 0, .int .u8 0, .int .u8 0, .int .u8 0, .int .u8 0, .int .u8 0, .int .u8 0, .int .u8 0, .int .u8 0, .int .u8 0, .int .u8 0, .int .u8 0, .int .u8 0, .int .u8 0, .int .u8 0, .int .u8 0, .int .u64 0] rfl rfl 27 _ (hM4.get 1 rfl) Hsd0.out rfl Hod0.out ?_)
      exact bodyPost_ret (results_cell_two rfl _ _ (w.heap.size + 1) 27 #[.int .u8 0, .int .u8 0, .int .u8 0, .int .u8 0, .int .u8 0, .int .u8 0, .int .u8 0, .int .u8 0, .int .u8 0, .int .u8 0, .int .u8 0, .int .u8 0, .int .u8 0, .int .u8 0, .int .u8 0, .int .u8 0, .int .u8 0, .int .u8 0, .int .u8 0, .int .u8 0, .int .u8 0, .int .u8 0, .int .u8 0, .int .u8 0, .int .u8 0, .int .u8 0, .int .u8 0, .int .u8 0, .int .u8 0, .int .u8 0, .int .u8 0, .int .u8 0, .int .u64 0] _ rfl ((hM4.get 1 rfl).row _) Tryd.underlying27 rfl Hsd0.out) rfl ⟨by rw [He.out]; rfl, below_setRow hM4.old (by omega) _⟩
    have Hfin := Lib.hid (show forkV s N (strB l) = .tuple #[.agg (drC kk 0), .int .i64 0] by rw [forkV, if_pos he, hk])
    have Hsn := Lib.hid (sizeDr 0 Hkl.out)
    have Hon := Lib.hid (one_dr kk 0)
    have Hzn := Lib.hid (show (#[.int .u8 0, .int .u8 0, .int .u8 0, .int .u8 0, .int .u8 0, .int .u8 0, .int .u8 0, .int .u8 0, .int .u8 0, .int .u8 0, .int .u8 0, .int .u8 0, .int .u8 0, .int .u8 0, .int .u8 0, .int .u8 0, .int .u8 0, .int .u8 0, .int .u8 0, .int .u8 0, .int .u8 0, .int .u8 0, .int .u8 0, .int .u8 0, .int .u8 0, .int .u8 0, .int .u8 0, .int .u8 0, .int .u8 0, .int .u8 0, .int .u8 0, .int .u8 0, .int .u64 0] : Array Value).size = (drC kk 0).size by rw [drC_size 0 Hkl.out]; rfl)
    have Hbd := Lib.hid (fun wx => build_dr0 kk wx Hkl.out)
    clear hk he
    go_wp2_with (first
      | ((with_reducible show wpList _ _ _ (⟨some 28, _, _, _, _, _⟩ :: _) _ _); refine wpList_loadC (by kernel_rfl) 24 (.tmp 6) rfl (g6) rfl 24 (keyC kk) _ (hM4.get 0 rfl) Tryd.underlying24 rfl Hsk.out ?_)
      | ((with_reducible show wpList _ _ _ (⟨some 29, _, _, _, _, _⟩ :: _) _ _); refine wpList_buildP rfl 27 #[(0, .tmp 28)] rfl #[(0, .agg (keyC kk))] (by kernel_rfl) (drC kk 0) (Hbd.out _) ?_)
      | ((with_reducible show wpList _ _ _ (⟨none, Op.store 27 _ _, _, _, _, _⟩ :: _) _ _); refine wpList_store_row rfl 27 (.tmp 4) (.tmp 29) rfl (w.heap.size + 1) (drC kk 0) rfl rfl 27 _ (hM4.get 1 rfl) Hsn.out Hzn.out Hon.out ?_))
    exact bodyPost_ret (results_cell_two rfl _ _ (w.heap.size + 1) 27 (drC kk 0) _ rfl ((hM4.get 1 rfl).row _) Tryd.underlying27 rfl Hsn.out) rfl ⟨by rw [Hfin.out]; rfl, below_setRow hM4.old (by omega) _⟩

end Go.Proofs.YtgjeamapgdakcaaDoor

