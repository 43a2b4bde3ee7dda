/-
  CONTRACT of the document's Fold (coterieref05).
-/
import Derived.Test.YtimgnpcojamafaaRefFeA
set_option linter.unusedVariables false
namespace Go.Proofs.Ytimgnpcojamafaa
open Go.RowKit

/-- thirty-two parts as cells -/
def wC (d : Nat → Nat) : Array Value := qC ((List.range 32).map d)
theorem wC_size (d : Nat → Nat) : (wC d).size = 32 := by simp [wC, qC]
theorem wC_at (d : Nat → Nat) {k : Nat} (hk : k < 32) : (wC d)[k]? = some (.int .u64 ((d k : Nat) : Int)) := qC_at (by simp [hk])
/-- the number in a row of cells of a world -/
def rowSum (w : World) (g : Nat) : Nat := match w.heap[g]? with
  | some (.cells cs _ _) => sumF (fun k => match cs[k]? with | some (.int _ z) => z.toNat | _ => 0) 16
  | _ => 0
theorem rowSum_of {w : World} {g : Nat} {t : TypeId} {d : Nat → Nat} (h : RowC w g t (numC d)) : rowSum w g = sumF d 16 := by
  unfold rowSum
  rw [h.at_]
  exact sumF_congr 16 (fun k hk => by rw [numC_at d hk]; simp)
theorem gf_lt {d : Nat → Nat} (hb : ∀ k, k < 32 → d k < 1099511627776) : ∀ k, k < 16 → d k + 38 * d (16 + k) < 140737488355328 := fun k hk => by
  have h1 := hb k (by omega)
  have h2 := hb (16 + k) (by omega)
  omega
theorem pas_lt {d : Nat → Nat} (h : ∀ k, k < 16 → d k < 140737488355328) : ∀ k, k < 16 → pasF d k < 140737488355328 := fun k hk => by
  have h1 := digF_lt d k
  have h2 := digF_lt d 0
  have h3 := car_lt 16 h
  unfold pasF
  split <;> omega
theorem pas_small {d : Nat → Nat} (h : carF d 16 = 0) : ∀ k, k < 16 → pasF d k < 65536 := fun k hk => by
  have h1 := digF_lt d k
  have h2 := digF_lt d 0
  unfold pasF
  split <;> omega
theorem pas_mod (d : Nat → Nat) : sumF (pasF d) 16 % P25 = sumF d 16 % P25 := by rw [← pas_sum d, Nat.add_mul_mod_self_left]
theorem pas_set (d : Nat → Nat) : (numC (digF d)).setIfInBounds 0 (.int .u64 ((digF d 0 + 38 * carF d 16 : Nat) : Int)) = numC (pasF d) := by
  rw [numC, qC_set]
  congr 1

theorem meas_ok {A B c v : Nat} (h : 2 * A + (if ((c : Nat) : Int) = 0 then 0 else 1) < 2 * B + 1) (hv : ¬ v = 0) :
    2 * A + (if intOf (.int .u64 (c : Int)) = 0 then 0 else 1) < 2 * B + (if intOf (.int .u64 (v : Int)) = 0 then 0 else 1) := by
  have e1 : intOf (.int .u64 (c : Int)) = (c : Int) := rfl
  have e2 : intOf (.int .u64 (v : Int)) = (v : Int) := rfl
  rw [e1, e2, if_neg (show ¬ (v : Int) = 0 by omega)]
  exact h

def ZN : Array Value := #[.int .u64 0, .int .u64 0, .int .u64 0, .int .u64 0, .int .u64 0, .int .u64 0, .int .u64 0, .int .u64 0, .int .u64 0, .int .u64 0, .int .u64 0, .int .u64 0, .int .u64 0, .int .u64 0, .int .u64 0, .int .u64 0]

set_option maxRecDepth 100000 in
set_option maxHeartbeats 8000000 in
theorem Fold_any (d : Nat → Nat) (w : World) (hb : ∀ k, k < 32 → d k < 1099511627776) :
    Calls Try.prog 39 #[.agg (wC d)] w fun e w' => e = .returned (.agg (numC (numF (sumF d 32 % P25)))) ∧ Below w.heap.size w w' := by
  have hM0 := (((Ms.nil w).box 65 (wC d)).box 47 (numC (fun _ => 0))).box 47 (numC (fun _ => 0))
  simp only [World.size_alloc] at hM0
  rw [numC_zero] at hM0
  have HB := Lib.hid hb
  have HG := Lib.hid (gf_lt hb)
  clear hb
  go_enter Try.func39, Try.ntmps39
  go_wp2_with fail
  go_loopw [10] (fun i wr => ∃ n : Nat, n ≤ 16 ∧ i = .int .i64 (n : Int) ∧ Ms w wr [(w.heap.size + 1 + 1, 47, numC (mixFe (fun k => d k + 38 * d (16 + k)) (fun _ => 0) n)), (w.heap.size + 1, 47, ZN), (w.heap.size, 65, wC d)]) (fun i _ => (16 - intOf i).toNat)
  case atStart => exact ⟨0, by omega, rfl, by rw [mixF_zero, numC_zero]; exact hM0⟩
  case round =>
    clear hM0
    obtain ⟨n, hn, rfl, hM⟩ := hrel
    by_cases hlt : n < 16
    · have hx := HB.out n (by omega)
      have hy := HB.out (16 + n) (by omega)
      have hc1 := fun wx (hb : Below wr.heap.size wr wx) => ((hM.get 2 rfl).call hb).cell (wC_at d (show n < 32 by omega))
      have hc2 := fun wx (hb : Below wr.heap.size wr wx) => ((hM.get 2 rfl).call hb).cell (wC_at d (show 16 + n < 32 by omega))
      have hk1 := fun wx (v : Value) (hb : Below wr.heap.size wr wx) => (((hM.get 2 rfl).call hb).far (p := ⟨w.heap.size + 1 + 1, n, none⟩) (by simp; omega) v).cell (wC_at d (show n < 32 by omega))
      have hk2 := fun wx (v : Value) (hb : Below wr.heap.size wr wx) => (((hM.get 2 rfl).call hb).far (p := ⟨w.heap.size + 1 + 1, n, none⟩) (by simp; omega) v).cell (wC_at d (show 16 + n < 32 by omega))
      have hcn := (hM.get 0 rfl).cell (numC_at (mixFe (fun k => d k + 38 * d (16 + k)) (fun _ => 0) n) hlt)
      have hfn := (hM.get 0 rfl).frozen n
      have hnew := hM.setCell (by omega) (by simp; omega) n (.int .u64 ((d n + 38 * d (16 + n) : Nat) : Int))
      rw [mixF_set (fun k => d k + 38 * d (16 + k))] at hnew
      have Hnew := Lib.hid hnew.drew
      have hw1 : IntKind.u64.wrap (38 * ((d (16 + n) : Nat) : Int)) = ((38 * d (16 + n) : Nat) : Int) := wrap_nat (by simp) (by omega)
      have hw2 : IntKind.u64.wrap (((d n : Nat) : Int) + ((38 * d (16 + n) : Nat) : Int)) = ((d n + 38 * d (16 + n) : Nat) : Int) := wrap_nat (by simp) (by omega)
      have j0 : 0 ≤ (n : Int) := by omega
      have j1 : (n : Int) < 16 := by omega
      have j9 : (n : Int) < 32 := by omega
      have hw3 : IntKind.i64.wrap (16 + (n : Int)) = ((16 + n : Nat) : Int) := by rw [IntKind.wrap_i64]; omega
      have j2 : 0 ≤ ((16 + n : Nat) : Int) := by omega
      have j3 : ((16 + n : Nat) : Int) < 32 := by omega
      clear hx hy hnew hM
      generalize d n + 38 * d (16 + n) = s at *
      generalize 38 * d (16 + n) = t at *
      generalize d (16 + n) = y at *
      generalize d n = x at *
      generalize 16 + n = h at *
      go_wp2_with fail
      go_region_held3 (fun wx : World => wx.cell? ⟨w.heap.size, n, none⟩ = some (.int .u64 (x : Int)) ∧ wx.cell? ⟨w.heap.size, h, none⟩ = some (.int .u64 (y : Int)))
        (first
          | (refine ⟨hc1 _ ?_, hc2 _ ?_⟩ <;> ((repeat (first | exact c_refl _ | refine c_drew ?_ | refine c_alloc ?_ _ | refine c_call ?_ (by assumption))); done))
          | (refine ⟨hk1 _ _ ?_, hk2 _ _ ?_⟩ <;> ((repeat (first | exact c_refl _ | refine c_drew ?_ | refine c_alloc ?_ _ | refine c_call ?_ (by assumption))); done)))
        (fail)
      go_wp2_with fail
      exact ⟨⟨n + 1, by omega, by go_num, Hnew.out⟩, by simp [intOf]; omega⟩
    · obtain rfl : n = 16 := by omega
      rw [mixF_all] at hM
      rw [show ((16 : Nat) : Int) = 16 from rfl]
      have HV := Lib.hid (fold_sum d)
      have HVlt := Lib.hid (P25_lt (sumF d 32))
      have HE := Lib.hid (show (fun k => d k + 38 * d (16 + k)) = (fun k => d k + 38 * d (16 + k)) from rfl)
      generalize hgf : (fun k => d k + 38 * d (16 + k)) = gf at *
      have HG2 := Lib.hid (show ∀ k, k < 16 → gf k < 140737488355328 from fun k hk => by rw [← hgf]; exact HG.out k hk)
      clear hgf HE HG HB
      generalize hVe : sumF d 32 % P25 = V at *
      have HVe := Lib.hid hVe
      clear hVe
      go_wp2_with fail
      go_loopw [5] (fun o wr => ∃ (e : Nat → Nat) (v : Nat), o = .int .u64 (v : Int) ∧ Hid (∀ k, k < 16 → e k < 140737488355328) ∧ Hid (sumF e 16 % P25 = V) ∧ Hid (v = 0 → ∀ k, k < 16 → e k < 65536) ∧ Ms w wr [(w.heap.size + 1 + 1, 47, numC e), (w.heap.size + 1, 47, ZN), (w.heap.size, 65, wC d)]) (fun o wr => 2 * rowSum wr (w.heap.size + 1 + 1) + (if intOf o = 0 then 0 else 1))
      case atStart => exact ⟨gf, 1, rfl, HG2, HV, Lib.hid (fun h => absurd h (by omega)), hM⟩
      case round =>
        clear hM HV HG2
        obtain ⟨e, v, rfl, HE, HS, HZ, hM⟩ := hrel
        by_cases hv : v = 0
        · subst hv
          have hsm := HZ.out rfl
          have HSM := Lib.hid hsm
          rw [show ((0 : Nat) : Int) = 0 from rfl]
          clear HE HZ hsm
          go_wp2_with fail
          go_loopw [7] (fun _ wr => ∃ e : Nat → Nat, Hid (sumF e 16 % P25 = V) ∧ Hid (∀ k, k < 16 → e k < 65536) ∧ Ms w wr [(w.heap.size + 1 + 1, 47, numC e), (w.heap.size + 1, 47, ZN), (w.heap.size, 65, wC d)]) (fun _ wr => rowSum wr (w.heap.size + 1 + 1))
          case atStart => exact ⟨e, HS, HSM, hM⟩
          case round =>
            clear hM HS HSM
            obtain ⟨e, HS, HSM, hM⟩ := hrel
            have hbe := fun wx => below_any e wx HSM.out
            have hs := Lib.hid (sizeNum e)
            by_cases hlt : sumF e 16 < P25
            · have hd : decide (sumF e 16 < P25) = true := decide_eq_true hlt
              rw [hd] at hbe
              have hans : numC e = numC (numF V) := by
                have h1 := numL_of HSM.out
                have h2 := HS.out
                rw [Nat.mod_eq_of_lt hlt] at h2
                rw [numC, numC, h1, h2]
                rfl
              have ho := Lib.hid (one_num e)
              have hz := Lib.hid (show ZN.size = (numC e).size by rw [numC_size]; rfl)
              have Hans := Lib.hid hans
              clear hd hlt hans HS HSM
              generalize numC e = ce at *
              go_wp2_with ((with_reducible show wpList _ _ _ (⟨some 48, _, _, _, _, _⟩ :: _) _ _); refine wpList_loadC (by kernel_rfl) 47 (.tmp 3) rfl (w.heap.size + 1 + 1) rfl 47 ce _ (hM.get 0 rfl) Try.underlying47 rfl hs.out ?_)
              refine (hbe _).mono ?_
              rintro ee w5 ⟨rfl, hb5⟩
              have hM5 := hM.call hb5
              clear hM hb5 hbe
              go_wp2_with (first
                | ((with_reducible show wpList _ _ _ (⟨some 71, _, _, _, _, _⟩ :: _) _ _); refine wpList_loadC (by kernel_rfl) 47 (.tmp 3) rfl (w.heap.size + 1 + 1) rfl 47 ce _ (hM5.get 0 rfl) Try.underlying47 rfl hs.out ?_)
                | ((with_reducible show wpList _ _ _ (⟨none, Op.store 47 _ _, _, _, _, _⟩ :: _) _ _); refine wpList_store_row rfl 47 (.tmp 2) (.tmp 71) rfl (w.heap.size + 1) ce rfl rfl 47 _ (hM5.get 1 rfl) hs.out hz.out ho.out ?_))
              exact bodyPost_ret (results_cell_one rfl _ _ (w.heap.size + 1) 47 ce _ rfl ((hM5.get 1 rfl).row ce) Try.underlying47 rfl hs.out) rfl ⟨by rw [Hans.out, HVe.out], below_setRow hM5.old (by omega) _⟩
            · have hd : decide (sumF e 16 < P25) = false := decide_eq_false hlt
              rw [hd] at hbe
              have Hles := Lib.hid (les_sum HSM.out (by omega))
              have Hrow := Lib.hid (rowSum_of (hM.get 0 rfl))
              clear hd hlt
              go_wp2_with ((with_reducible show wpList _ _ _ (⟨some 48, _, _, _, _, _⟩ :: _) _ _); refine wpList_loadC (by kernel_rfl) 47 (.tmp 3) rfl (w.heap.size + 1 + 1) rfl 47 (numC e) _ (hM.get 0 rfl) Try.underlying47 rfl hs.out ?_)
              refine (hbe _).mono ?_
              rintro ee w5 ⟨rfl, hb5⟩
              have hM5 := hM.call hb5
              clear hM hb5 hbe
              go_wp2_with fail
              go_loopw [7, 51] (fun u i wr => ∃ n : Nat, n ≤ 16 ∧ i = .int .i64 (n : Int) ∧ u = .int .u64 ((borF e n : Nat) : Int) ∧ Ms w wr [(w.heap.size + 1 + 1, 47, numC (mixFe (lesF e) e n)), (w.heap.size + 1, 47, ZN), (w.heap.size, 65, wC d)]) (fun _ i _ => (16 - intOf i).toNat)
              case atStart => exact ⟨0, by omega, rfl, rfl, by rw [mixF_zero]; exact hM5⟩
              case round =>
                clear hM5
                obtain ⟨n, hn, rfl, rfl, hM⟩ := hrel
                by_cases hlt : n < 16
                · have hp := fun wx => p_any n wx hlt
                  have hx := HSM.out n hlt
                  have hy := pU_lt n
                  have hu := bor_le e n
                  have hmix : mixFe (lesF e) e n n = e n := by rw [mixFe, if_neg (by omega)]
                  have hcn := (hM.get 0 rfl).cell (numC_at (mixFe (lesF e) e n) hlt)
                  rw [hmix] at hcn
                  have hkeep : ∀ wy : World, Below wr.heap.size wr wy → wy.cell? ⟨w.heap.size + 1 + 1, n, none⟩ = some (.int .u64 ((e n : Nat) : Int)) := fun wy hb => by
                    have := ((hM.get 0 rfl).call hb).cell (numC_at (mixFe (lesF e) e n) hlt)
                    rwa [hmix] at this
                  have hfn := (hM.get 0 rfl).drew.frozen n
                  have hcd := (hM.get 0 rfl).drew.cell (numC_at (mixFe (lesF e) e n) hlt)
                  rw [hmix] at hcd
                  have hnew := hM.drew.setCell (by omega) (by simp; omega) n (.int .u64 ((lesF e n : Nat) : Int))
                  rw [mixF_set (lesF e)] at hnew
                  have Hnew := Lib.hid hnew
                  have hw1 : IntKind.u64.wrap (65536 + ((e n : Nat) : Int)) = ((65536 + e n : Nat) : Int) := wrap_nat (by simp) (by omega)
                  have hw2 : IntKind.u64.wrap (((65536 + e n : Nat) : Int) - ((pU n : Nat) : Int)) = ((65536 + e n - pU n : Nat) : Int) := wrap_nat (by omega) (by omega)
                  have hw3 : IntKind.u64.wrap (((65536 + e n - pU n : Nat) : Int) - ((borF e n : Nat) : Int)) = ((65536 + e n - pU n - borF e n : Nat) : Int) := wrap_nat (by omega) (by omega)
                  have hw4 : ((65536 + e n - pU n - borF e n : Nat) : Int) % 65536 = ((lesF e n : Nat) : Int) := by rw [lesF]; omega
                  have hw4' : Int.tmod ((65536 + e n - pU n - borF e n : Nat) : Int) 65536 = ((lesF e n : Nat) : Int) := by rw [Int.tmod_eq_emod_of_nonneg (by omega)]; exact hw4
                  have hdv : (65536 + e n - pU n - borF e n) / 65536 ≤ 1 := by omega
                  have hw5 : ((65536 + e n - pU n - borF e n : Nat) : Int) / 65536 = (((65536 + e n - pU n - borF e n) / 65536 : Nat) : Int) := by omega
                  have hw6 : IntKind.u64.wrap (1 - (((65536 + e n - pU n - borF e n) / 65536 : Nat) : Int)) = ((borF e (n + 1) : Nat) : Int) := by
                    rw [show borF e (n + 1) = 1 - (65536 + e n - pU n - borF e n) / 65536 from rfl]
                    exact wrap_nat (by omega) (by omega)
                  have hw7 : IntKind.u64.wrap (((65536 + e n - pU n - borF e n) / 65536 : Nat) : Int) = (((65536 + e n - pU n - borF e n) / 65536 : Nat) : Int) := wrap_nat rfl (by omega)
                  have j0 : 0 ≤ (n : Int) := by omega
                  have j1 : (n : Int) < 16 := by omega
                  clear hx hy hu hmix hcn hM hnew hdv
                  generalize hb1 : borF e (n + 1) = b1 at *
                  have Hb1 := Lib.hid hb1
                  clear hb1
                  generalize (65536 + e n - pU n - borF e n) / 65536 = dv at *
                  generalize lesF e n = le at *
                  generalize 65536 + e n - pU n - borF e n = x3 at *
                  generalize 65536 + e n - pU n = x2 at *
                  generalize 65536 + e n = x1 at *
                  generalize e n = x0 at *
                  generalize pU n = y0 at *
                  generalize borF e n = b0 at *
                  go_wp2_with fail
                  go_region_held3 (fun wy : World => wy.cell? ⟨w.heap.size + 1 + 1, n, none⟩ = some (.int .u64 (x0 : Int)))
                    ((refine hkeep _ ?_; (repeat (first | exact c_refl _ | refine c_drew ?_ | refine c_alloc ?_ _ | refine c_call ?_ (by assumption))); done))
                    (with_reducible refine (hp _).mono ?_; rintro eq wq ⟨rfl, rfl⟩)
                  clear hkeep
                  go_wp2_with fail
                  exact ⟨⟨n + 1, by omega, by go_num, by rw [Hb1.out], Hnew.out⟩, by simp [intOf]; omega⟩
                · obtain rfl : n = 16 := by omega
                  rw [mixF_all] at hM
                  rw [show ((16 : Nat) : Int) = 16 from rfl]
                  have Hrow2 := Lib.hid (rowSum_of (hM.get 0 rfl))
                  have Hmod := Lib.hid (show sumF (lesF e) 16 % P25 = V by rw [← HS.out, ← Hles.out, Nat.add_mod_right])
                  go_wp2_with fail
                  refine ⟨⟨lesF e, Hmod, Lib.hid (fun k _ => lesF_lt e k), hM⟩, ?_⟩
                  rw [Hrow2.out, Hrow.out, ← Hles.out]
                  have : 0 < P25 := by decide +kernel
                  omega
        · have Hrow := Lib.hid (rowSum_of (hM.get 0 rfl))
          have Hps := Lib.hid (pas_sum e)
          have hb1 : decide ((0 : Int) < (v : Int)) = true := decide_eq_true (by omega)
          have hb2 : decide (0 < v) = true := decide_eq_true (by omega)
          have Hv := Lib.hid hv
          clear hv HZ
          go_wp2_with fail
          go_loopw [5, 27] (fun o i wr => ∃ n : Nat, n ≤ 16 ∧ i = .int .i64 (n : Int) ∧ o = .int .u64 ((carF e n : Nat) : Int) ∧ Ms w wr [(w.heap.size + 1 + 1, 47, numC (mixFe (digF e) e n)), (w.heap.size + 1, 47, ZN), (w.heap.size, 65, wC d)]) (fun _ i _ => (16 - intOf i).toNat)
          case atStart => exact ⟨0, by omega, rfl, rfl, by rw [mixF_zero]; exact hM⟩
          case round =>
            clear hM hb1 hb2
            obtain ⟨n, hn, rfl, rfl, hM⟩ := hrel
            by_cases hlt : n < 16
            · have hx := HE.out n hlt
              have hu := car_lt n (fun k hk => HE.out k (by omega))
              have hmix : mixFe (digF e) e n n = e n := by rw [mixFe, if_neg (by omega)]
              have hcn := (hM.get 0 rfl).cell (numC_at (mixFe (digF e) e n) hlt)
              rw [hmix] at hcn
              have hfn := (hM.get 0 rfl).frozen n
              have hnew := hM.setCell (by omega) (by simp; omega) n (.int .u64 ((digF e n : Nat) : Int))
              rw [mixF_set (digF e)] at hnew
              have Hnew := Lib.hid hnew
              have hw1 : IntKind.u64.wrap (((carF e n : Nat) : Int) + ((e n : Nat) : Int)) = ((carF e n + e n : Nat) : Int) := wrap_nat (by simp) (by omega)
              have hw2 : ((carF e n + e n : Nat) : Int) % 65536 = ((digF e n : Nat) : Int) := by rw [digF]; omega
              have hw3 : ((carF e n + e n : Nat) : Int) / 65536 = ((carF e (n + 1) : Nat) : Int) := by rw [carF]; omega
              have hw7 : IntKind.u64.wrap ((carF e (n + 1) : Nat) : Int) = ((carF e (n + 1) : Nat) : Int) := wrap_nat rfl (by have := car_lt (n + 1) (fun k hk => HE.out k (by omega)); omega)
              have j0 : 0 ≤ (n : Int) := by omega
              have j1 : (n : Int) < 16 := by omega
              clear hx hu hmix hM hnew
              generalize hc1 : carF e (n + 1) = c1 at *
              have Hc1 := Lib.hid hc1
              clear hc1
              generalize carF e n + e n = x1 at *
              generalize carF e n = c0 at *
              generalize digF e n = d0 at *
              generalize e n = x0 at *
              go_wp2_with fail
              exact ⟨⟨n + 1, by omega, by go_num, by rw [Hc1.out], Hnew.out⟩, by simp [intOf]; omega⟩
            · obtain rfl : n = 16 := by omega
              rw [mixF_all] at hM
              rw [show ((16 : Nat) : Int) = 16 from rfl]
              have hu := car_lt 16 HE.out
              have hd0 := digF_lt e 0
              have hcn := (hM.get 0 rfl).cell (numC_at (digF e) (show 0 < 16 by omega))
              have hfn := (hM.get 0 rfl).frozen 0
              have hnew := hM.setCell (by omega) (by simp; omega) 0 (.int .u64 ((digF e 0 + 38 * carF e 16 : Nat) : Int))
              rw [pas_set] at hnew
              have Hnew := Lib.hid hnew
              have Hrow2 := Lib.hid (rowSum_of (hnew.get 0 rfl))
              have Hlt := Lib.hid (pas_lt HE.out)
              have Hmod := Lib.hid (show sumF (pasF e) 16 % P25 = V by rw [pas_mod, HS.out])
              have Hsm := Lib.hid (fun h => pas_small (d := e) h)
              have hw1 : IntKind.u64.wrap (38 * ((carF e 16 : Nat) : Int)) = ((38 * carF e 16 : Nat) : Int) := wrap_nat (by simp) (by omega)
              have hw2 : IntKind.u64.wrap (((digF e 0 : Nat) : Int) + ((38 * carF e 16 : Nat) : Int)) = ((digF e 0 + 38 * carF e 16 : Nat) : Int) := wrap_nat (by simp) (by omega)
              have Hmeas := Lib.hid (show 2 * sumF (pasF e) 16 + (if ((carF e 16 : Nat) : Int) = 0 then 0 else 1) < 2 * sumF e 16 + 1 by
                have h1 := Hps.out
                have h2 : 0 < P25 := by decide +kernel
                by_cases hc : carF e 16 = 0
                · rw [if_pos (by omega)]
                  rw [hc] at h1
                  omega
                · rw [if_neg (by omega)]
                  have h3 : 1 ≤ P25 * (2 * carF e 16) := Nat.mul_pos h2 (by omega)
                  omega)
              clear hu hd0 hM hnew
              generalize digF e 0 + 38 * carF e 16 = x2 at *
              generalize 38 * carF e 16 = x1 at *
              generalize hc16 : carF e 16 = c16 at *
              clear hc16
              generalize digF e 0 = x0 at *
              go_wp2_with fail
              refine ⟨⟨pasF e, c16, rfl, Hlt, Hmod, Hsm, Hnew.out⟩, ?_⟩
              rw [Hrow2.out, Hrow.out]
              exact meas_ok Hmeas.out Hv.out

end Go.Proofs.Ytimgnpcojamafaa
