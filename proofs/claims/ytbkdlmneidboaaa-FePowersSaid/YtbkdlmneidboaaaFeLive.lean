/-
  live (coterielaw05); keys compared by value.
-/
import Derived.Test.YtbkdlmneidboaaaFeE
import Derived.Test.YtbkdlmneidboaaaFeI
set_option linter.unusedVariables false
namespace Go.Proofs.Ytbkdlmneidboaaa
open Go.RowKit

theorem eql_key (w : World) (a b : List UInt8) (ha : a.length = 32) (hb : b.length = 32) :
    (Op.equalIn 10000 39 (.agg (keyC a)) (.agg (keyC b))).run Try.prog w = .ok (a == b) w := by
  obtain ⟨i, hi⟩ := byte_info
  exact run_eqlRow w false Try.underlying39 Try.underlying5 hi byteCells bv (fun x => (x.toNat : Int)) (fun _ => rfl) bv_inj 0 a b ha hb

theorem alloc_fe (ρ : Operand → Value) (o : Oper) (ho : o.op = .alloc 37) (w : World) :
    (execOp ρ o).run Try.prog w = .ok (.value (.pointer (some ⟨w.heap.size, 0, none⟩))) (w.alloc (.cells #[.int .u64 0, .int .u64 0, .int .u64 0, .int .u64 0, .int .u64 0] 37)) := by
  unfold execOp
  rw [ho]
  go_simp

def k255 (n : Nat) : List UInt8 := uptoN (fun _ => 255) (fun _ => 0) 32 n
def kA : List UInt8 := [236, 255, 255, 255, 255, 255, 255, 255, 255, 255, 255, 255, 255, 255, 255, 255, 255, 255, 255, 255, 255, 255, 255, 255, 255, 255, 255, 255, 255, 255, 255, 127]
def kB : List UInt8 := [235, 255, 255, 255, 255, 255, 255, 255, 255, 255, 255, 255, 255, 255, 255, 255, 255, 255, 255, 255, 255, 255, 255, 255, 255, 255, 255, 255, 255, 255, 255, 127]
theorem kA_of : ((k255 32).set 0 236).set 31 127 = kA := by kernel_rfl
theorem kB_of : kA.set 0 235 = kB := by kernel_rfl
theorem live_bytes : keyB (valF (addQ (ofU kA) (ofU kA)) % P25) = kB := by decide +kernel

set_option maxRecDepth 100000 in
set_option maxHeartbeats 4000000 in
theorem live05 (w : World) : Calls Try.prog 17 #[] w fun e w' => e = .returned (.bool true) ∧ Below w.heap.size w w' := by
  have hM0 := (Ms.nil w).box 39 (keyC (k255 0))
  rw [show keyC (k255 0) = keyC (keyB 0) from by kernel_rfl, keyZ] at hM0
  go_enter Try.func17, Try.ntmps17
  go_wp2_with fail
  go_loopw [7] (fun i wr => ∃ n : Nat, n ≤ 32 ∧ i = .int .i64 (n : Int) ∧ Ms w wr [(w.heap.size, 39, keyC (k255 n))]) (fun i _ => (32 - intOf i).toNat)
  case atStart => exact ⟨0, by omega, rfl, by rw [show keyC (k255 0) = keyC (keyB 0) from by kernel_rfl, keyZ]; exact hM0⟩
  case round =>
    clear hM0
    obtain ⟨n, hn, rfl, hM⟩ := hrel
    by_cases hlt : n < 32
    · have hc := (hM.get 0 rfl).cell (keyC_at (uptoN_old (fun _ => (255 : UInt8)) (fun _ => 0) hlt (Nat.le_refl n)))
      have hf := (hM.get 0 rfl).frozen n
      have hnew := hM.setCell (Nat.le_refl _) (by simp) n (.int .u8 (((255 : UInt8).toNat : Nat) : Int))
      rw [keyC_set, k255, ← uptoN_succ (fun _ => (255 : UInt8)) (fun _ => 0), show (((255 : UInt8).toNat : Nat) : Int) = 255 from rfl] at hnew
      have j0 : 0 ≤ (n : Int) := by omega
      have j1 : (n : Int) < 32 := by omega
      go_wp2_with fail
      exact ⟨⟨n + 1, by omega, by go_num, hnew⟩, by simp [intOf]; omega⟩
    · obtain rfl : n = 32 := by omega
      rw [show ((32 : Nat) : Int) = 32 from rfl]
      have hc0 := (hM.get 0 rfl).cell (keyC_at (show (k255 32)[0]? = some 255 from by kernel_rfl))
      have hf0 := (hM.get 0 rfl).frozen 0
      have hM1 := hM.setCell (Nat.le_refl _) (by simp) 0 (.int .u8 (((236 : UInt8).toNat : Nat) : Int))
      rw [keyC_set] at hM1
      have hc1 := (hM1.get 0 rfl).cell (keyC_at (show ((k255 32).set 0 236)[31]? = some 255 from by kernel_rfl))
      have hf1 := (hM1.get 0 rfl).frozen 31
      have hM2 := hM1.setCell (Nat.le_refl _) (by simp) 31 (.int .u8 (((127 : UInt8).toNat : Nat) : Int))
      rw [keyC_set, kA_of, show (((236 : UInt8).toNat : Nat) : Int) = 236 from rfl, show (((127 : UInt8).toNat : Nat) : Int) = 127 from rfl] at hM2
      rw [show (((236 : UInt8).toNat : Nat) : Int) = 236 from rfl] at hc1 hf1
      clear hM hM1
      go_wp2_with fail
      clear hc0 hf0 hc1 hf1
      refine wp_gen (fun wx => Ms w wx [(w.heap.size, 39, keyC kA)]) hM2 ?_
      clear hM2
      rintro v1 hM1
      have hof := fun wx => Of_any kA wx rfl
      have had := fun wx => Add_ok (ofU kA) (ofU kA) wx (ofU_may kA) (ofU_may kA)
      have hby := fun wx => Bytes_ok (addQ (ofU kA) (ofU kA)) wx (addQ_may (ofU_may kA) (ofU_may kA))
      rw [live_bytes] at hby
      have Hk := Lib.hid (sizeKey (show kA.length = 32 from rfl))
      have Hkb := Lib.hid (sizeKey (show kB.length = 32 from rfl))
      have Hkz := Lib.hid (show (keyC (keyB 0)).size = (keyC kB).size by rw [keyC_size, keyC_size, keyB_len]; rfl)
      have Hko := Lib.hid (one_key kB)
      have Hs := Lib.hid (sizeFe (addQ (ofU kA) (ofU kA)))
      have Hso := Lib.hid (one_fe (addQ (ofU kA) (ofU kA)))
      have Hsz := Lib.hid (show (#[.int .u64 0, .int .u64 0, .int .u64 0, .int .u64 0, .int .u64 0] : Array Value).size = (feC (addQ (ofU kA) (ofU kA))).size from rfl)
      have hq := fun wx => eql_key wx kB kB rfl rfl
      rw [show (kB == kB) = true from by decide +kernel] at hq
      have Hset := Lib.hid (show (keyC kA).setIfInBounds 0 (.int .u8 235) = keyC kB by rw [← kB_of, ← keyC_set]; rfl)
      have Hat := Lib.hid (keyC_at (show kA[0]? = some 236 from by kernel_rfl))
      generalize feC (addQ (ofU kA) (ofU kA)) = cs at *
      generalize feC (ofU kA) = co at *
      generalize keyC kA = ck at *
      generalize keyC kB = cb at *
      go_cut [3, 4] (fun p e wx => ∃ g : Nat, p = .pointer (some ⟨g, 0, none⟩) ∧ e = .int .i64 0 ∧ ∀ L, Ms w v1 L → Ms w wx ((g, 37, cs) :: L))
      case first =>
        have hkeep : ∀ wx : World, Below v1.heap.size v1 wx → (fun wx : World => wx.rangeAt w.heap.size 0 ck.toList) wx := fun wx hb => ((hM1.get 0 rfl).call hb).range
        have hu := Try.underlying39
        have hent1 : ∀ args w, (callFunc 19 args).run Try.prog w = .ok (.enter 19 args) w := enters_of Try.func19 (by kernel_rfl) rfl
        have hent2 : ∀ args w, (callFunc 21 args).run Try.prog w = .ok (.enter 21 args) w := enters_of Try.func21 (by kernel_rfl) rfl
        refine beginT (fun wx : World => wx.rangeAt w.heap.size 0 ck.toList) 10 (by kernel_rfl) ?_
        have hS := hkeep _ (c_drew (c_refl _))
        have ek : ck.toList.toArray = ck := by simp
        have hsk : (Try.prog.info? 39).map (·.size) = some ck.toList.length := by simpa using Hk.out
        refine loadT 0 (some 16) 39 (.tmp 1) w.heap.size 0 ck.toList rfl rfl (by kernel_rfl) (by kernel_rfl) (by kernel_rfl) (by kernel_rfl) rfl (by kernel_rfl) rfl (fun wx hSw => hSw) hu rfl hsk (fun _ _ _ h => h) hS ?_
        simp only [Act.put, List.setIfInBounds_toArray, List.set_cons_zero, List.set_cons_succ]
        refine loadT 2 (some 18) 39 (.tmp 1) w.heap.size 0 ck.toList rfl rfl (by kernel_rfl) (by kernel_rfl) (by kernel_rfl) (by kernel_rfl) rfl (by kernel_rfl) rfl (fun wx hSw => hSw) hu rfl hsk (fun _ _ _ h => h) hS ?_
        simp only [Act.put, List.setIfInBounds_toArray, List.set_cons_zero, List.set_cons_succ]
        rw [ek]
        clear hsk ek
        refine readyT [1, 8] (by kernel_rfl) (by simp) (AllReadyT.cons rfl (fun K hK => ?_) (AllReadyT.cons rfl (fun K hK => ?_) AllReadyT.nil))
        · refine step_callF (by rfl) (some 17) rfl 19 _ _ rfl [.agg ck] rfl hent1 _ (hof _) ?_
          rintro e wm1 ⟨rfl, hb1⟩
          refine ⟨_, rfl, ?_⟩
          simp only [Act.put, List.setIfInBounds_toArray, List.set_cons_zero, List.set_cons_succ]
          refine hK.out _ _ (fun _ => hkeep _ (by (repeat (first | exact c_refl _ | refine c_drew ?_ | refine c_alloc ?_ _ | refine c_row ?_ (by first | omega | exact Nat.le_refl _ | assumption) _ | refine c_call ?_ (by assumption))); first | done | fail "chain")) ?_
          clear hK K
          refine readyT [3, 8] (by kernel_rfl) (by simp) (AllReadyT.cons rfl (fun K hK => ?_) (AllReadyT.cons rfl (fun K hK => ?_) AllReadyT.nil))
          · refine step_callF (by rfl) (some 19) rfl 19 _ _ rfl [.agg ck] rfl hent1 _ (hof _) ?_
            rintro e wm2 ⟨rfl, hb2⟩
            refine ⟨_, rfl, ?_⟩
            simp only [Act.put, List.setIfInBounds_toArray, List.set_cons_zero, List.set_cons_succ]
            refine hK.out _ _ (fun _ => hkeep _ (by (repeat (first | exact c_refl _ | refine c_drew ?_ | refine c_alloc ?_ _ | refine c_row ?_ (by first | omega | exact Nat.le_refl _ | assumption) _ | refine c_call ?_ (by assumption))); first | done | fail "chain")) ?_
            clear hK K
            refine readyT [4, 8] (by kernel_rfl) (by simp) (AllReadyT.cons rfl (fun K hK => ?_) (AllReadyT.cons rfl (fun K hK => ?_) AllReadyT.nil))
            · refine step_callF (by rfl) (some 20) rfl 21 _ _ rfl [.agg co, .agg co] rfl hent2 _ (had _) ?_
              rintro e wm3 ⟨rfl, hb3⟩
              refine ⟨_, rfl, ?_⟩
              simp only [Act.put, List.setIfInBounds_toArray, List.set_cons_zero, List.set_cons_succ]
              refine hK.out _ _ (fun _ => hkeep _ (by (repeat (first | exact c_refl _ | refine c_drew ?_ | refine c_alloc ?_ _ | refine c_row ?_ (by first | omega | exact Nat.le_refl _ | assumption) _ | refine c_call ?_ (by assumption))); first | done | fail "chain")) ?_
              clear hK K
              have hSx := hkeep wm3 (by (repeat (first | exact c_refl _ | refine c_drew ?_ | refine c_alloc ?_ _ | refine c_row ?_ (by first | omega | exact Nat.le_refl _ | assumption) _ | refine c_call ?_ (by assumption))); first | done | fail "chain")
              refine takeD 5 (some 15) (.tuple #[.agg cs, .int .i64 0]) rfl rfl (by kernel_rfl) (by kernel_rfl) (by kernel_rfl) (by kernel_rfl) (fun _ _ _ h => h) (Or.inl ⟨by kernel_rfl, fun wx hSw => by go_simp⟩) hSx ?_
              simp only [Act.put, List.setIfInBounds_toArray, List.set_cons_zero, List.set_cons_succ]
              refine takeD 6 (some 21) (.agg cs) rfl rfl (by kernel_rfl) (by kernel_rfl) (by kernel_rfl) (by kernel_rfl) (fun _ _ _ h => h) (Or.inl ⟨by kernel_rfl, fun wx hSw => by go_simp⟩) hSx ?_
              simp only [Act.put, List.setIfInBounds_toArray, List.set_cons_zero, List.set_cons_succ]
              refine takeD 7 (some 22) (.int .i64 0) rfl rfl (by kernel_rfl) (by kernel_rfl) (by kernel_rfl) (by kernel_rfl) (fun _ _ _ h => h) (Or.inl ⟨by kernel_rfl, fun wx hSw => by go_simp⟩) hSx ?_
              simp only [Act.put, List.setIfInBounds_toArray, List.set_cons_zero, List.set_cons_succ]
              refine oneT 8 (by kernel_rfl) rfl (fun K hK => ?_)
              refine step_val (by rfl) (some 3) rfl _ (alloc_fe _ _ rfl _) ?_
              simp only [Act.put, List.setIfInBounds_toArray, List.set_cons_zero, List.set_cons_succ]
              refine hK.out _ _ (fun _ => hkeep _ (by (repeat (first | exact c_refl _ | refine c_drew ?_ | refine c_alloc ?_ _ | refine c_row ?_ (by first | omega | exact Nat.le_refl _ | assumption) _ | refine c_call ?_ (by assumption))); first | done | fail "chain")) ?_
              clear hK K
              have hle : v1.heap.size ≤ wm3.heap.size := (show Below v1.heap.size v1 wm3 from (by (repeat (first | exact c_refl _ | refine c_drew ?_ | refine c_alloc ?_ _ | refine c_row ?_ (by first | omega | exact Nat.le_refl _ | assumption) _ | refine c_call ?_ (by assumption))); first | done | fail "chain")).size
              have hrow : RowC (wm3.alloc (.cells #[.int .u64 0, .int .u64 0, .int .u64 0, .int .u64 0, .int .u64 0] 37)) wm3.heap.size 37 #[.int .u64 0, .int .u64 0, .int .u64 0, .int .u64 0, .int .u64 0] := (by (repeat (first | exact RowC.new _ _ _ | refine RowC.call ?_ (by assumption))); first | done | fail "row")
              have hfin : ∀ L, Ms w v1 L → Ms w ((wm3.alloc (.cells #[.int .u64 0, .int .u64 0, .int .u64 0, .int .u64 0, .int .u64 0] 37)).setRow wm3.heap.size cs) ((wm3.heap.size, 37, cs) :: L) := fun L hL => Ms.finRow hL (by (repeat (first | exact c_refl _ | refine c_drew ?_ | refine c_alloc ?_ _ | refine c_row ?_ (by first | omega | exact Nat.le_refl _ | assumption) _ | refine c_call ?_ (by assumption))); first | done | fail "chain") hle hrow _
              refine oneT 9 (by kernel_rfl) rfl (fun K hK => ?_)
              refine step_store_row rfl 37 (.tmp 3) (.tmp 21) rfl wm3.heap.size cs rfl rfl 37 #[.int .u64 0, .int .u64 0, .int .u64 0, .int .u64 0, .int .u64 0] hrow Hs.out Hsz.out Hso.out ?_
              refine hK.out _ _ (fun _ => hkeep _ (below_setRow (by (repeat (first | exact c_refl _ | refine c_drew ?_ | refine c_alloc ?_ _ | refine c_row ?_ (by first | omega | exact Nat.le_refl _ | assumption) _ | refine c_call ?_ (by assumption))); first | done | fail "chain") hle _)) ?_
              clear hK K
              refine oneT 10 (by kernel_rfl) rfl (fun K hK => ?_)
              go_simp
              refine hK.out _ _ (fun h => absurd rfl h) ?_
              clear hK K
              refine doneT (by kernel_rfl) ?_ _
              go_wp2_with fail
              go_meet
              exact ⟨_, rfl, rfl, hfin⟩
            · refine step_val (by rfl) (some 3) rfl _ (alloc_fe _ _ rfl _) ?_
              simp only [Act.put, List.setIfInBounds_toArray, List.set_cons_zero, List.set_cons_succ]
              refine hK.out _ _ (fun _ => hkeep _ (by (repeat (first | exact c_refl _ | refine c_drew ?_ | refine c_alloc ?_ _ | refine c_row ?_ (by first | omega | exact Nat.le_refl _ | assumption) _ | refine c_call ?_ (by assumption))); first | done | fail "chain")) ?_
              clear hK K
              refine oneT 4 (by kernel_rfl) rfl (fun K hK => ?_)
              refine step_callF (by rfl) (some 20) rfl 21 _ _ rfl [.agg co, .agg co] rfl hent2 _ (had _) ?_
              rintro e wm3 ⟨rfl, hb3⟩
              refine ⟨_, rfl, ?_⟩
              simp only [Act.put, List.setIfInBounds_toArray, List.set_cons_zero, List.set_cons_succ]
              refine hK.out _ _ (fun _ => hkeep _ (by (repeat (first | exact c_refl _ | refine c_drew ?_ | refine c_alloc ?_ _ | refine c_row ?_ (by first | omega | exact Nat.le_refl _ | assumption) _ | refine c_call ?_ (by assumption))); first | done | fail "chain")) ?_
              clear hK K
              have hSx := hkeep wm3 (by (repeat (first | exact c_refl _ | refine c_drew ?_ | refine c_alloc ?_ _ | refine c_row ?_ (by first | omega | exact Nat.le_refl _ | assumption) _ | refine c_call ?_ (by assumption))); first | done | fail "chain")
              refine takeD 5 (some 15) (.tuple #[.agg cs, .int .i64 0]) rfl rfl (by kernel_rfl) (by kernel_rfl) (by kernel_rfl) (by kernel_rfl) (fun _ _ _ h => h) (Or.inl ⟨by kernel_rfl, fun wx hSw => by go_simp⟩) hSx ?_
              simp only [Act.put, List.setIfInBounds_toArray, List.set_cons_zero, List.set_cons_succ]
              refine takeD 6 (some 21) (.agg cs) rfl rfl (by kernel_rfl) (by kernel_rfl) (by kernel_rfl) (by kernel_rfl) (fun _ _ _ h => h) (Or.inl ⟨by kernel_rfl, fun wx hSw => by go_simp⟩) hSx ?_
              simp only [Act.put, List.setIfInBounds_toArray, List.set_cons_zero, List.set_cons_succ]
              refine takeD 7 (some 22) (.int .i64 0) rfl rfl (by kernel_rfl) (by kernel_rfl) (by kernel_rfl) (by kernel_rfl) (fun _ _ _ h => h) (Or.inl ⟨by kernel_rfl, fun wx hSw => by go_simp⟩) hSx ?_
              simp only [Act.put, List.setIfInBounds_toArray, List.set_cons_zero, List.set_cons_succ]
              have hle : v1.heap.size ≤ wm2.heap.size := (show Below v1.heap.size v1 wm2 from (by (repeat (first | exact c_refl _ | refine c_drew ?_ | refine c_alloc ?_ _ | refine c_row ?_ (by first | omega | exact Nat.le_refl _ | assumption) _ | refine c_call ?_ (by assumption))); first | done | fail "chain")).size
              have hrow : RowC wm3 wm2.heap.size 37 #[.int .u64 0, .int .u64 0, .int .u64 0, .int .u64 0, .int .u64 0] := (by (repeat (first | exact RowC.new _ _ _ | refine RowC.call ?_ (by assumption))); first | done | fail "row")
              have hfin : ∀ L, Ms w v1 L → Ms w (wm3.setRow wm2.heap.size cs) ((wm2.heap.size, 37, cs) :: L) := fun L hL => Ms.finRow hL (by (repeat (first | exact c_refl _ | refine c_drew ?_ | refine c_alloc ?_ _ | refine c_row ?_ (by first | omega | exact Nat.le_refl _ | assumption) _ | refine c_call ?_ (by assumption))); first | done | fail "chain") hle hrow _
              refine oneT 9 (by kernel_rfl) rfl (fun K hK => ?_)
              refine step_store_row rfl 37 (.tmp 3) (.tmp 21) rfl wm2.heap.size cs rfl rfl 37 #[.int .u64 0, .int .u64 0, .int .u64 0, .int .u64 0, .int .u64 0] hrow Hs.out Hsz.out Hso.out ?_
              refine hK.out _ _ (fun _ => hkeep _ (below_setRow (by (repeat (first | exact c_refl _ | refine c_drew ?_ | refine c_alloc ?_ _ | refine c_row ?_ (by first | omega | exact Nat.le_refl _ | assumption) _ | refine c_call ?_ (by assumption))); first | done | fail "chain") hle _)) ?_
              clear hK K
              refine oneT 10 (by kernel_rfl) rfl (fun K hK => ?_)
              go_simp
              refine hK.out _ _ (fun h => absurd rfl h) ?_
              clear hK K
              refine doneT (by kernel_rfl) ?_ _
              go_wp2_with fail
              go_meet
              exact ⟨_, rfl, rfl, hfin⟩
          · refine step_val (by rfl) (some 3) rfl _ (alloc_fe _ _ rfl _) ?_
            simp only [Act.put, List.setIfInBounds_toArray, List.set_cons_zero, List.set_cons_succ]
            refine hK.out _ _ (fun _ => hkeep _ (by (repeat (first | exact c_refl _ | refine c_drew ?_ | refine c_alloc ?_ _ | refine c_row ?_ (by first | omega | exact Nat.le_refl _ | assumption) _ | refine c_call ?_ (by assumption))); first | done | fail "chain")) ?_
            clear hK K
            refine oneT 3 (by kernel_rfl) rfl (fun K hK => ?_)
            refine step_callF (by rfl) (some 19) rfl 19 _ _ rfl [.agg ck] rfl hent1 _ (hof _) ?_
            rintro e wm2 ⟨rfl, hb2⟩
            refine ⟨_, rfl, ?_⟩
            simp only [Act.put, List.setIfInBounds_toArray, List.set_cons_zero, List.set_cons_succ]
            refine hK.out _ _ (fun _ => hkeep _ (by (repeat (first | exact c_refl _ | refine c_drew ?_ | refine c_alloc ?_ _ | refine c_row ?_ (by first | omega | exact Nat.le_refl _ | assumption) _ | refine c_call ?_ (by assumption))); first | done | fail "chain")) ?_
            clear hK K
            refine oneT 4 (by kernel_rfl) rfl (fun K hK => ?_)
            refine step_callF (by rfl) (some 20) rfl 21 _ _ rfl [.agg co, .agg co] rfl hent2 _ (had _) ?_
            rintro e wm3 ⟨rfl, hb3⟩
            refine ⟨_, rfl, ?_⟩
            simp only [Act.put, List.setIfInBounds_toArray, List.set_cons_zero, List.set_cons_succ]
            refine hK.out _ _ (fun _ => hkeep _ (by (repeat (first | exact c_refl _ | refine c_drew ?_ | refine c_alloc ?_ _ | refine c_row ?_ (by first | omega | exact Nat.le_refl _ | assumption) _ | refine c_call ?_ (by assumption))); first | done | fail "chain")) ?_
            clear hK K
            have hSx := hkeep wm3 (by (repeat (first | exact c_refl _ | refine c_drew ?_ | refine c_alloc ?_ _ | refine c_row ?_ (by first | omega | exact Nat.le_refl _ | assumption) _ | refine c_call ?_ (by assumption))); first | done | fail "chain")
            refine takeD 5 (some 15) (.tuple #[.agg cs, .int .i64 0]) rfl rfl (by kernel_rfl) (by kernel_rfl) (by kernel_rfl) (by kernel_rfl) (fun _ _ _ h => h) (Or.inl ⟨by kernel_rfl, fun wx hSw => by go_simp⟩) hSx ?_
            simp only [Act.put, List.setIfInBounds_toArray, List.set_cons_zero, List.set_cons_succ]
            refine takeD 6 (some 21) (.agg cs) rfl rfl (by kernel_rfl) (by kernel_rfl) (by kernel_rfl) (by kernel_rfl) (fun _ _ _ h => h) (Or.inl ⟨by kernel_rfl, fun wx hSw => by go_simp⟩) hSx ?_
            simp only [Act.put, List.setIfInBounds_toArray, List.set_cons_zero, List.set_cons_succ]
            refine takeD 7 (some 22) (.int .i64 0) rfl rfl (by kernel_rfl) (by kernel_rfl) (by kernel_rfl) (by kernel_rfl) (fun _ _ _ h => h) (Or.inl ⟨by kernel_rfl, fun wx hSw => by go_simp⟩) hSx ?_
            simp only [Act.put, List.setIfInBounds_toArray, List.set_cons_zero, List.set_cons_succ]
            have hle : v1.heap.size ≤ wm1.heap.size := (show Below v1.heap.size v1 wm1 from (by (repeat (first | exact c_refl _ | refine c_drew ?_ | refine c_alloc ?_ _ | refine c_row ?_ (by first | omega | exact Nat.le_refl _ | assumption) _ | refine c_call ?_ (by assumption))); first | done | fail "chain")).size
            have hrow : RowC wm3 wm1.heap.size 37 #[.int .u64 0, .int .u64 0, .int .u64 0, .int .u64 0, .int .u64 0] := (by (repeat (first | exact RowC.new _ _ _ | refine RowC.call ?_ (by assumption))); first | done | fail "row")
            have hfin : ∀ L, Ms w v1 L → Ms w (wm3.setRow wm1.heap.size cs) ((wm1.heap.size, 37, cs) :: L) := fun L hL => Ms.finRow hL (by (repeat (first | exact c_refl _ | refine c_drew ?_ | refine c_alloc ?_ _ | refine c_row ?_ (by first | omega | exact Nat.le_refl _ | assumption) _ | refine c_call ?_ (by assumption))); first | done | fail "chain") hle hrow _
            refine oneT 9 (by kernel_rfl) rfl (fun K hK => ?_)
            refine step_store_row rfl 37 (.tmp 3) (.tmp 21) rfl wm1.heap.size cs rfl rfl 37 #[.int .u64 0, .int .u64 0, .int .u64 0, .int .u64 0, .int .u64 0] hrow Hs.out Hsz.out Hso.out ?_
            refine hK.out _ _ (fun _ => hkeep _ (below_setRow (by (repeat (first | exact c_refl _ | refine c_drew ?_ | refine c_alloc ?_ _ | refine c_row ?_ (by first | omega | exact Nat.le_refl _ | assumption) _ | refine c_call ?_ (by assumption))); first | done | fail "chain") hle _)) ?_
            clear hK K
            refine oneT 10 (by kernel_rfl) rfl (fun K hK => ?_)
            go_simp
            refine hK.out _ _ (fun h => absurd rfl h) ?_
            clear hK K
            refine doneT (by kernel_rfl) ?_ _
            go_wp2_with fail
            go_meet
            exact ⟨_, rfl, rfl, hfin⟩
        · refine step_val (by rfl) (some 3) rfl _ (alloc_fe _ _ rfl _) ?_
          simp only [Act.put, List.setIfInBounds_toArray, List.set_cons_zero, List.set_cons_succ]
          refine hK.out _ _ (fun _ => hkeep _ (by (repeat (first | exact c_refl _ | refine c_drew ?_ | refine c_alloc ?_ _ | refine c_row ?_ (by first | omega | exact Nat.le_refl _ | assumption) _ | refine c_call ?_ (by assumption))); first | done | fail "chain")) ?_
          clear hK K
          refine oneT 1 (by kernel_rfl) rfl (fun K hK => ?_)
          refine step_callF (by rfl) (some 17) rfl 19 _ _ rfl [.agg ck] rfl hent1 _ (hof _) ?_
          rintro e wm1 ⟨rfl, hb1⟩
          refine ⟨_, rfl, ?_⟩
          simp only [Act.put, List.setIfInBounds_toArray, List.set_cons_zero, List.set_cons_succ]
          refine hK.out _ _ (fun _ => hkeep _ (by (repeat (first | exact c_refl _ | refine c_drew ?_ | refine c_alloc ?_ _ | refine c_row ?_ (by first | omega | exact Nat.le_refl _ | assumption) _ | refine c_call ?_ (by assumption))); first | done | fail "chain")) ?_
          clear hK K
          refine oneT 3 (by kernel_rfl) rfl (fun K hK => ?_)
          refine step_callF (by rfl) (some 19) rfl 19 _ _ rfl [.agg ck] rfl hent1 _ (hof _) ?_
          rintro e wm2 ⟨rfl, hb2⟩
          refine ⟨_, rfl, ?_⟩
          simp only [Act.put, List.setIfInBounds_toArray, List.set_cons_zero, List.set_cons_succ]
          refine hK.out _ _ (fun _ => hkeep _ (by (repeat (first | exact c_refl _ | refine c_drew ?_ | refine c_alloc ?_ _ | refine c_row ?_ (by first | omega | exact Nat.le_refl _ | assumption) _ | refine c_call ?_ (by assumption))); first | done | fail "chain")) ?_
          clear hK K
          refine oneT 4 (by kernel_rfl) rfl (fun K hK => ?_)
          refine step_callF (by rfl) (some 20) rfl 21 _ _ rfl [.agg co, .agg co] rfl hent2 _ (had _) ?_
          rintro e wm3 ⟨rfl, hb3⟩
          refine ⟨_, rfl, ?_⟩
          simp only [Act.put, List.setIfInBounds_toArray, List.set_cons_zero, List.set_cons_succ]
          refine hK.out _ _ (fun _ => hkeep _ (by (repeat (first | exact c_refl _ | refine c_drew ?_ | refine c_alloc ?_ _ | refine c_row ?_ (by first | omega | exact Nat.le_refl _ | assumption) _ | refine c_call ?_ (by assumption))); first | done | fail "chain")) ?_
          clear hK K
          have hSx := hkeep wm3 (by (repeat (first | exact c_refl _ | refine c_drew ?_ | refine c_alloc ?_ _ | refine c_row ?_ (by first | omega | exact Nat.le_refl _ | assumption) _ | refine c_call ?_ (by assumption))); first | done | fail "chain")
          refine takeD 5 (some 15) (.tuple #[.agg cs, .int .i64 0]) rfl rfl (by kernel_rfl) (by kernel_rfl) (by kernel_rfl) (by kernel_rfl) (fun _ _ _ h => h) (Or.inl ⟨by kernel_rfl, fun wx hSw => by go_simp⟩) hSx ?_
          simp only [Act.put, List.setIfInBounds_toArray, List.set_cons_zero, List.set_cons_succ]
          refine takeD 6 (some 21) (.agg cs) rfl rfl (by kernel_rfl) (by kernel_rfl) (by kernel_rfl) (by kernel_rfl) (fun _ _ _ h => h) (Or.inl ⟨by kernel_rfl, fun wx hSw => by go_simp⟩) hSx ?_
          simp only [Act.put, List.setIfInBounds_toArray, List.set_cons_zero, List.set_cons_succ]
          refine takeD 7 (some 22) (.int .i64 0) rfl rfl (by kernel_rfl) (by kernel_rfl) (by kernel_rfl) (by kernel_rfl) (fun _ _ _ h => h) (Or.inl ⟨by kernel_rfl, fun wx hSw => by go_simp⟩) hSx ?_
          simp only [Act.put, List.setIfInBounds_toArray, List.set_cons_zero, List.set_cons_succ]
          have hle : v1.heap.size ≤ v1.drew.heap.size := (show Below v1.heap.size v1 v1.drew from (by (repeat (first | exact c_refl _ | refine c_drew ?_ | refine c_alloc ?_ _ | refine c_row ?_ (by first | omega | exact Nat.le_refl _ | assumption) _ | refine c_call ?_ (by assumption))); first | done | fail "chain")).size
          have hrow : RowC wm3 v1.drew.heap.size 37 #[.int .u64 0, .int .u64 0, .int .u64 0, .int .u64 0, .int .u64 0] := (by (repeat (first | exact RowC.new _ _ _ | refine RowC.call ?_ (by assumption))); first | done | fail "row")
          have hfin : ∀ L, Ms w v1 L → Ms w (wm3.setRow v1.drew.heap.size cs) ((v1.drew.heap.size, 37, cs) :: L) := fun L hL => Ms.finRow hL (by (repeat (first | exact c_refl _ | refine c_drew ?_ | refine c_alloc ?_ _ | refine c_row ?_ (by first | omega | exact Nat.le_refl _ | assumption) _ | refine c_call ?_ (by assumption))); first | done | fail "chain") hle hrow _
          refine oneT 9 (by kernel_rfl) rfl (fun K hK => ?_)
          refine step_store_row rfl 37 (.tmp 3) (.tmp 21) rfl v1.drew.heap.size cs rfl rfl 37 #[.int .u64 0, .int .u64 0, .int .u64 0, .int .u64 0, .int .u64 0] hrow Hs.out Hsz.out Hso.out ?_
          refine hK.out _ _ (fun _ => hkeep _ (below_setRow (by (repeat (first | exact c_refl _ | refine c_drew ?_ | refine c_alloc ?_ _ | refine c_row ?_ (by first | omega | exact Nat.le_refl _ | assumption) _ | refine c_call ?_ (by assumption))); first | done | fail "chain") hle _)) ?_
          clear hK K
          refine oneT 10 (by kernel_rfl) rfl (fun K hK => ?_)
          go_simp
          refine hK.out _ _ (fun h => absurd rfl h) ?_
          clear hK K
          refine doneT (by kernel_rfl) ?_ _
          go_wp2_with fail
          go_meet
          exact ⟨_, rfl, rfl, hfin⟩
      case rest =>
        rename World => v2
        obtain ⟨gA, rfl, rfl, hM2⟩ := hcut
        replace hM2 := hM2 _ hM1
        clear hM1 hof had
        go_wp2_with ((with_reducible show wpList _ _ _ (⟨some 24, _, _, _, _, _⟩ :: _) _ _); refine wpList_loadC (by kernel_rfl) 37 (.tmp 3) rfl (gA) rfl 37 cs _ (hM2.get 0 rfl) Try.underlying37 rfl Hs.out ?_)
        refine (hby _).mono ?_
        rintro e v3 ⟨rfl, hb3⟩
        have hM3 := hM2.call hb3
        have hM4 := hM3.put 39 (keyC (keyB 0)) cb
        have hM5 : Ms w ((v3.alloc (.cells (keyC (keyB 0)) 39)).setRow v3.heap.size cb) ((w.heap.size, 39, ck) :: [(v3.heap.size, 39, cb)]) := ⟨hM4.old, fun p hp => hM4.rows p (by simp only [List.mem_cons, List.not_mem_nil, or_false] at hp ⊢; rcases hp with h | h <;> simp [h])⟩
        have hlt := (hM3.get 1 rfl).lt
        have hM6 := hM5.setCell (Nat.le_refl _) (by simp; omega) 0 (.int .u8 235)
        rw [Hset.out] at hM6
        have hc := (hM5.get 0 rfl).cell Hat.out
        have hf := (hM5.get 0 rfl).frozen 0
        have hl36 := hM6.get 1 rfl
        have hl37 := hM6.get 0 rfl
        have hold := hM6.old
        rw [keyZ] at hc hf hl36 hl37 hold Hkz
        clear hM2 hM3 hM4 hM5 hM6 hby Hset Hat
        go_wp2_with (first
          | ((with_reducible show wpList _ _ _ (⟨none, Op.store 39 _ _, _, _, _, _⟩ :: _) _ _); refine wpList_store_row rfl 39 (.tmp 5) (.tmp 26) rfl (v3.heap.size) cb rfl rfl 39 _ (RowC.new _ _ _) Hkb.out Hkz.out Hko.out ?_)
          | ((with_reducible show wpList _ _ _ (⟨some 36, _, _, _, _, _⟩ :: _) _ _); refine wpList_loadC (by kernel_rfl) 39 (.tmp 5) rfl (v3.heap.size) rfl 39 cb _ (hl36) Try.underlying39 rfl Hkb.out ?_)
          | ((with_reducible show wpList _ _ _ (⟨some 37, _, _, _, _, _⟩ :: _) _ _); refine wpList_loadC (by kernel_rfl) 39 (.tmp 1) rfl (w.heap.size) rfl 39 cb _ (hl37) Try.underlying39 rfl Hkb.out ?_))
        go_ret
        exact ⟨rfl, hold⟩

end Go.Proofs.Ytbkdlmneidboaaa
