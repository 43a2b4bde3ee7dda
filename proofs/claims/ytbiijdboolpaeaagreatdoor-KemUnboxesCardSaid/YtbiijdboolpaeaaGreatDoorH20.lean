import Derived.Test.YtbiijdboolpaeaaGreatDoorH18
import Derived.Test.YtbiijdboolpaeaaGreatDoorH19
import Derived.StillTailTactics
set_option linter.unusedVariables false
namespace Go.Proofs.YtbiijdboolpaeaaGreatDoor
open Go.RowKit
theorem p_any (i : Nat) (w : World) (hi : i < 16) : Calls Tryz.prog 106 #[.int .i64 (i : Int)] w fun e w' => e = .returned (.int .u64 ((pU i : Nat) : Int)) ∧ w' = w := by
 by_cases h0 : i = 0
 ·
  subst h0
  rw [show ((0 : Nat) : Int) = 0 from rfl, show ((pU 0 : Nat) : Int) = 65517 from rfl]
  go_enter Tryz.func106, Tryz.ntmps106
  go_wp2_with fail
  go_ret
  exact ⟨rfl, rfl⟩
 ·
  by_cases h15 : i = 15
  ·
   subst h15
   rw [show ((15 : Nat) : Int) = 15 from rfl, show ((pU 15 : Nat) : Int) = 32767 from rfl]
   go_enter Tryz.func106, Tryz.ntmps106
   go_wp2_with fail
   go_ret
   exact ⟨rfl, rfl⟩
  ·
   have e : pU i = 65535 := by rw [pU, if_neg h0, if_neg h15]
   rw [e, show ((65535 : Nat) : Int) = 65535 from rfl]
   have hb0 : ((i : Int) == 0) = false := by rw [beq_eq_false_iff_ne]; omega
   have hb15 : ((i : Int) == 15) = false := by rw [beq_eq_false_iff_ne]; omega
   clear h0 h15 e
   go_enter Tryz.func106, Tryz.ntmps106
   go_wp2_with fail
   go_ret
   exact ⟨rfl, rfl⟩
theorem infoNum : (Tryz.prog.info? 68).map (·.size) = some 16 := by kernel_rfl
def numC (d : Nat → Nat) : Array Value := qC ((List.range 16).map d)
theorem numC_size (d : Nat → Nat) : (numC d).size = 16 := by simp [numC, qC]
theorem sizeNum (d : Nat → Nat) : (Tryz.prog.info? 68).map (·.size) = some (numC d).size := by rw [infoNum, numC_size]
theorem one_num (d : Nat → Nat) : (numC d).all (·.oneCell') = true := qC_one _
theorem numC_at (d : Nat → Nat) {k : Nat} (hk : k < 16) : (numC d)[k]? = some (.int .u64 ((d k : Nat) : Int)) := qC_at (by simp [hk])
theorem numC_zero : numC (fun _ => 0) = #[.int .u64 0, .int .u64 0, .int .u64 0, .int .u64 0, .int .u64 0, .int .u64 0, .int .u64 0, .int .u64 0, .int .u64 0, .int .u64 0, .int .u64 0, .int .u64 0, .int .u64 0, .int .u64 0, .int .u64 0, .int .u64 0] := by kernel_rfl
def mixFe (f d : Nat → Nat) (j k : Nat) : Nat := if k < j then f k else d k
theorem mixF_zero (f d : Nat → Nat) : numC (mixFe f d 0) = numC d := by
 congr 1
theorem mixF_set (f d : Nat → Nat) (j : Nat) : (numC (mixFe f d j)).setIfInBounds j (.int .u64 ((f j : Nat) : Int)) = numC (mixFe f d (j + 1)) := by
 have h := uptoN_succ f d (m := 16) (j := j)
 rw [numC, qC_set]
 exact congrArg qC h.symm
theorem mixF_all (f d : Nat → Nat) : numC (mixFe f d 16) = numC f := by
 have h := uptoN_all f d (m := 16)
 exact congrArg qC h
set_option maxRecDepth 100000 in
set_option maxHeartbeats 2000000 in
theorem below_any (d : Nat → Nat) (w : World) (hd : ∀ k, k < 16 → d k < 65536) :
  Calls Tryz.prog 105 #[.agg (numC d)] w fun e w' => e = .returned (.bool (decide (sumF d 16 < P25))) ∧ Below w.heap.size w w' := by
 have hM0 := (Ms.nil w).box 68 (numC d)
 have Hlt := fun i (hi : i < 16) (h : d i < pU i) (ha : ∀ k, i < k → k < 16 → d k = pU k) => cmp_lt hi hd h ha
 have Hgt := fun i (hi : i < 16) (h : pU i < d i) (ha : ∀ k, i < k → k < 16 → d k = pU k) => cmp_lt hi (fun k _ => pU_lt k) h (fun k h1 h2 => (ha k h1 h2).symm)
 have Heq := fun (h : ∀ k, k < 16 → d k = pU k) => cmp_eq h
 rw [pU_sum] at Hlt Hgt Heq
 have HLT := Lib.hid Hlt
 have HGT := Lib.hid Hgt
 have HEQ := Lib.hid Heq
 clear Hlt Hgt Heq hd
 go_enter Tryz.func105, Tryz.ntmps105
 go_wp2_with fail
 go_loopw [3] (fun i wr => ∃ n : Nat, n ≤ 16 ∧ i = .int .i64 ((n : Int) - 1) ∧ Hid (∀ k, n ≤ k → k < 16 → d k = pU k) ∧ Ms w wr [(w.heap.size, 68, numC d)]) (fun i _ => (intOf i + 1).toNat)
 case atStart => exact ⟨16, by omega, rfl, Lib.hid (fun k h1 h2 => by omega), hM0⟩
 case round =>
  clear hM0
  obtain ⟨n, hn, rfl, Hall, hM⟩ := hrel
  by_cases h0 : n = 0
  ·
   subst h0
   have Hans := Lib.hid (HEQ.out (fun k hk => Hall.out k (by omega) hk))
   rw [show ((0 : Nat) : Int) - 1 = -1 from rfl]
   go_wp2_with fail
   go_ret
   exact ⟨by rw [decide_eq_false (by rw [Hans.out]; omega)]; rfl, hM.old⟩
  ·
   obtain ⟨m, rfl⟩ : ∃ m, n = m + 1 := ⟨n - 1, by omega⟩
   rw [show ((m + 1 : Nat) : Int) - 1 = (m : Int) by omega]
   have hm16 : m < 16 := by omega
   have Hm16 := Lib.hid hm16
   have hp := fun wx => p_any m wx hm16
   have hc := (hM.get 0 rfl).cell (numC_at d hm16)
   have hkeep : ∀ wx : World, Below wr.heap.size wr wx → wx.cell? ⟨w.heap.size, m, none⟩ = some (.int .u64 ((d m : Nat) : Int)) := fun wx hb => ((hM.get 0 rfl).call hb).cell (numC_at d hm16)
   have j0 : 0 ≤ (m : Int) := by omega
   have j1 : (m : Int) < 16 := by omega
   have HM := Lib.hid hM
   by_cases he : d m = pU m
   ·
    have Hall2 := Lib.hid (show ∀ k, m ≤ k → k < 16 → d k = pU k from fun k h1 h2 => by
     rcases Nat.lt_or_ge m k with h | h
     ·
      exact Hall.out k (by omega) h2
     ·
      obtain rfl : k = m := by omega
      exact he)
    have hne : (((d m : Nat) : Int) != ((pU m : Nat) : Int)) = false := by rw [he]; simp
    clear he hM hc hm16 h0
    generalize d m = x at *
    generalize pU m = y at *
    go_wp2_with fail
    go_region_held3 (fun wx : World => wx.cell? ⟨w.heap.size, m, none⟩ = some (.int .u64 (x : Int)))
     ((refine hkeep _ ?_; (repeat (first | exact c_refl _ | refine c_drew ?_ | refine c_alloc ?_ _ | refine c_call ?_ (by assumption))); done))
     (with_reducible refine (hp _).mono ?_; rintro e wq ⟨rfl, rfl⟩)
    have hM2 := HM.out.drew
    clear hkeep
    go_wp2_with fail
    exact ⟨⟨m, by omega, by go_num, Hall2, hM2⟩, by simp [intOf]⟩
   ·
    have hne : (((d m : Nat) : Int) != ((pU m : Nat) : Int)) = true := by rw [bne_iff_ne]; omega
    have Hall3 := Lib.hid (show ∀ k, m < k → k < 16 → d k = pU k from fun k h1 h2 => Hall.out k (by omega) h2)
    by_cases hlt : d m < pU m
    ·
     have hls : decide (d m < pU m) = true := decide_eq_true hlt
     have Hans := Lib.hid (HLT.out m hm16 hlt Hall3.out)
     clear he hM hc hm16 h0 hlt
     generalize d m = x at *
     generalize pU m = y at *
     go_wp2_with fail
     go_region_held3 (fun wx : World => wx.cell? ⟨w.heap.size, m, none⟩ = some (.int .u64 (x : Int)))
      ((refine hkeep _ ?_; (repeat (first | exact c_refl _ | refine c_drew ?_ | refine c_alloc ?_ _ | refine c_call ?_ (by assumption))); done))
      (with_reducible refine (hp _).mono ?_; rintro e wq ⟨rfl, rfl⟩)
     go_wp2_with fail
     go_region_held3 (fun wx : World => wx.cell? ⟨w.heap.size, m, none⟩ = some (.int .u64 (x : Int)))
      ((refine hkeep _ ?_; (repeat (first | exact c_refl _ | refine c_drew ?_ | refine c_alloc ?_ _ | refine c_call ?_ (by assumption))); done))
      (with_reducible refine (hp _).mono ?_; rintro e wq ⟨rfl, rfl⟩)
     have hM2 := HM.out.drew.drew
     clear hkeep
     go_wp2_with fail
     go_ret
     exact ⟨by rw [decide_eq_true Hans.out]; rfl, hM2.old⟩
    ·
     have hls : decide (d m < pU m) = false := decide_eq_false hlt
     have Hans := Lib.hid (HGT.out m hm16 (by omega) Hall3.out)
     clear he hM hc hm16 h0 hlt
     generalize d m = x at *
     generalize pU m = y at *
     go_wp2_with fail
     go_region_held3 (fun wx : World => wx.cell? ⟨w.heap.size, m, none⟩ = some (.int .u64 (x : Int)))
      ((refine hkeep _ ?_; (repeat (first | exact c_refl _ | refine c_drew ?_ | refine c_alloc ?_ _ | refine c_call ?_ (by assumption))); done))
      (with_reducible refine (hp _).mono ?_; rintro e wq ⟨rfl, rfl⟩)
     go_wp2_with fail
     go_region_held3 (fun wx : World => wx.cell? ⟨w.heap.size, m, none⟩ = some (.int .u64 (x : Int)))
      ((refine hkeep _ ?_; (repeat (first | exact c_refl _ | refine c_drew ?_ | refine c_alloc ?_ _ | refine c_call ?_ (by assumption))); done))
      (with_reducible refine (hp _).mono ?_; rintro e wq ⟨rfl, rfl⟩)
     have hM2 := HM.out.drew.drew
     clear hkeep
     go_wp2_with fail
     go_ret
     exact ⟨by rw [decide_eq_false (by have := Hans.out; omega)]; rfl, hM2.old⟩
def wC (d : Nat → Nat) : Array Value := qC ((List.range 32).map d)
theorem wC_size (d : Nat → Nat) : (wC d).size = 32 := by simp [wC, qC]
theorem wC_at (d : Nat → Nat) {k : Nat} (hk : k < 32) : (wC d)[k]? = some (.int .u64 ((d k : Nat) : Int)) := qC_at (by simp [hk])
def rowSum (w : World) (g : Nat) : Nat := match w.heap[g]? with
 | some (.cells cs _ _) => sumF (fun k => match cs[k]? with | some (.int _ z) => z.toNat | _ => 0) 16
 | _ => 0
theorem rowSum_of {w : World} {g : Nat} {t : TypeId} {d : Nat → Nat} (h : RowC w g t (numC d)) : rowSum w g = sumF d 16 := by
 unfold rowSum
 rw [h.at_]
 exact sumF_congr 16 (fun k hk => by rw [numC_at d hk]; simp)
theorem gf_lt {d : Nat → Nat} (hb : ∀ k, k < 32 → d k < 1099511627776) : ∀ k, k < 16 → d k + 38 * d (16 + k) < 140737488355328 := fun k hk => by
 have h1 := hb k (by omega)
 have h2 := hb (16 + k) (by omega)
 omega
theorem pas_lt {d : Nat → Nat} (h : ∀ k, k < 16 → d k < 140737488355328) : ∀ k, k < 16 → pasF d k < 140737488355328 := fun k hk => by
 have h1 := digF_lt d k
 have h2 := digF_lt d 0
 have h3 := car_lt 16 h
 unfold pasF
 split <;> omega
theorem pas_small {d : Nat → Nat} (h : carF d 16 = 0) : ∀ k, k < 16 → pasF d k < 65536 := fun k hk => by
 have h1 := digF_lt d k
 have h2 := digF_lt d 0
 unfold pasF
 split <;> omega
theorem pas_mod (d : Nat → Nat) : sumF (pasF d) 16 % P25 = sumF d 16 % P25 := by rw [← pas_sum d, Nat.add_mul_mod_self_left]
theorem pas_set (d : Nat → Nat) : (numC (digF d)).setIfInBounds 0 (.int .u64 ((digF d 0 + 38 * carF d 16 : Nat) : Int)) = numC (pasF d) := by
 rw [numC, qC_set]
 congr 1
theorem meas_ok {A B c v : Nat} (h : 2 * A + (if ((c : Nat) : Int) = 0 then 0 else 1) < 2 * B + 1) (hv : ¬ v = 0) :
  2 * A + (if intOf (.int .u64 (c : Int)) = 0 then 0 else 1) < 2 * B + (if intOf (.int .u64 (v : Int)) = 0 then 0 else 1) := by
 have e1 : intOf (.int .u64 (c : Int)) = (c : Int) := rfl
 have e2 : intOf (.int .u64 (v : Int)) = (v : Int) := rfl
 rw [e1, e2, if_neg (show ¬ (v : Int) = 0 by omega)]
 exact h
def ZN : Array Value := #[.int .u64 0, .int .u64 0, .int .u64 0, .int .u64 0, .int .u64 0, .int .u64 0, .int .u64 0, .int .u64 0, .int .u64 0, .int .u64 0, .int .u64 0, .int .u64 0, .int .u64 0, .int .u64 0, .int .u64 0, .int .u64 0]
set_option maxRecDepth 100000 in
set_option maxHeartbeats 8000000 in
theorem Fold_any (d : Nat → Nat) (w : World) (hb : ∀ k, k < 32 → d k < 1099511627776) :
  Calls Tryz.prog 77 #[.agg (wC d)] w fun e w' => e = .returned (.agg (numC (numF (sumF d 32 % P25)))) ∧ Below w.heap.size w w' := by
 have hM0 := (((Ms.nil w).box 99 (wC d)).box 68 (numC (fun _ => 0))).box 68 (numC (fun _ => 0))
 simp only [World.size_alloc] at hM0
 rw [numC_zero] at hM0
 have HB := Lib.hid hb
 have HG := Lib.hid (gf_lt hb)
 clear hb
 go_enter Tryz.func77, Tryz.ntmps77
 go_wp2_with fail
 go_loopw [10] (fun i wr => ∃ n : Nat, n ≤ 16 ∧ i = .int .i64 (n : Int) ∧ Ms w wr [(w.heap.size + 1 + 1, 68, numC (mixFe (fun k => d k + 38 * d (16 + k)) (fun _ => 0) n)), (w.heap.size + 1, 68, ZN), (w.heap.size, 99, wC d)]) (fun i _ => (16 - intOf i).toNat)
 case atStart => exact ⟨0, by omega, rfl, by rw [mixF_zero, numC_zero]; exact hM0⟩
 case round =>
  clear hM0
  obtain ⟨n, hn, rfl, hM⟩ := hrel
  by_cases hlt : n < 16
  ·
   have hx := HB.out n (by omega)
   have hy := HB.out (16 + n) (by omega)
   have hc1 := fun wx (hb : Below wr.heap.size wr wx) => ((hM.get 2 rfl).call hb).cell (wC_at d (show n < 32 by omega))
   have hc2 := fun wx (hb : Below wr.heap.size wr wx) => ((hM.get 2 rfl).call hb).cell (wC_at d (show 16 + n < 32 by omega))
   have hk1 := fun wx (v : Value) (hb : Below wr.heap.size wr wx) => (((hM.get 2 rfl).call hb).far (p := ⟨w.heap.size + 1 + 1, n, none⟩) (by simp; omega) v).cell (wC_at d (show n < 32 by omega))
   have hk2 := fun wx (v : Value) (hb : Below wr.heap.size wr wx) => (((hM.get 2 rfl).call hb).far (p := ⟨w.heap.size + 1 + 1, n, none⟩) (by simp; omega) v).cell (wC_at d (show 16 + n < 32 by omega))
   have hcn := (hM.get 0 rfl).cell (numC_at (mixFe (fun k => d k + 38 * d (16 + k)) (fun _ => 0) n) hlt)
   have hfn := (hM.get 0 rfl).frozen n
   have hnew := hM.setCell (by omega) (by simp; omega) n (.int .u64 ((d n + 38 * d (16 + n) : Nat) : Int))
   rw [mixF_set (fun k => d k + 38 * d (16 + k))] at hnew
   have Hnew := Lib.hid hnew.drew
   have hw1 : IntKind.u64.wrap (38 * ((d (16 + n) : Nat) : Int)) = ((38 * d (16 + n) : Nat) : Int) := wrap_nat (by simp) (by omega)
   have hw2 : IntKind.u64.wrap (((d n : Nat) : Int) + ((38 * d (16 + n) : Nat) : Int)) = ((d n + 38 * d (16 + n) : Nat) : Int) := wrap_nat (by simp) (by omega)
   have j0 : 0 ≤ (n : Int) := by omega
   have j1 : (n : Int) < 16 := by omega
   have j9 : (n : Int) < 32 := by omega
   have hw3 : IntKind.i64.wrap (16 + (n : Int)) = ((16 + n : Nat) : Int) := by rw [IntKind.wrap_i64]; omega
   have j2 : 0 ≤ ((16 + n : Nat) : Int) := by omega
   have j3 : ((16 + n : Nat) : Int) < 32 := by omega
   clear hx hy hnew hM
   generalize d n + 38 * d (16 + n) = s at *
   generalize 38 * d (16 + n) = t at *
   generalize d (16 + n) = y at *
   generalize d n = x at *
   generalize 16 + n = h at *
   go_wp2_with fail
   go_region_held3 (fun wx : World => wx.cell? ⟨w.heap.size, n, none⟩ = some (.int .u64 (x : Int)) ∧ wx.cell? ⟨w.heap.size, h, none⟩ = some (.int .u64 (y : Int)))
    (first
     | (refine ⟨hc1 _ ?_, hc2 _ ?_⟩ <;> ((repeat (first | exact c_refl _ | refine c_drew ?_ | refine c_alloc ?_ _ | refine c_call ?_ (by assumption))); done))
     | (refine ⟨hk1 _ _ ?_, hk2 _ _ ?_⟩ <;> ((repeat (first | exact c_refl _ | refine c_drew ?_ | refine c_alloc ?_ _ | refine c_call ?_ (by assumption))); done)))
    (fail)
   go_wp2_with fail
   exact ⟨⟨n + 1, by omega, by go_num, Hnew.out⟩, by simp [intOf]; omega⟩
  ·
   obtain rfl : n = 16 := by omega
   rw [mixF_all] at hM
   rw [show ((16 : Nat) : Int) = 16 from rfl]
   have HV := Lib.hid (fold_sum d)
   have HVlt := Lib.hid (P25_lt (sumF d 32))
   have HE := Lib.hid (show (fun k => d k + 38 * d (16 + k)) = (fun k => d k + 38 * d (16 + k)) from rfl)
   generalize hgf : (fun k => d k + 38 * d (16 + k)) = gf at *
   have HG2 := Lib.hid (show ∀ k, k < 16 → gf k < 140737488355328 from fun k hk => by rw [← hgf]; exact HG.out k hk)
   clear hgf HE HG HB
   generalize hVe : sumF d 32 % P25 = V at *
   have HVe := Lib.hid hVe
   clear hVe
   go_wp2_with fail
   go_loopw [5] (fun o wr => ∃ (e : Nat → Nat) (v : Nat), o = .int .u64 (v : Int) ∧ Hid (∀ k, k < 16 → e k < 140737488355328) ∧ Hid (sumF e 16 % P25 = V) ∧ Hid (v = 0 → ∀ k, k < 16 → e k < 65536) ∧ Ms w wr [(w.heap.size + 1 + 1, 68, numC e), (w.heap.size + 1, 68, ZN), (w.heap.size, 99, wC d)]) (fun o wr => 2 * rowSum wr (w.heap.size + 1 + 1) + (if intOf o = 0 then 0 else 1))
   case atStart => exact ⟨gf, 1, rfl, HG2, HV, Lib.hid (fun h => absurd h (by omega)), hM⟩
   case round =>
    clear hM HV HG2
    obtain ⟨e, v, rfl, HE, HS, HZ, hM⟩ := hrel
    by_cases hv : v = 0
    ·
     subst hv
     have hsm := HZ.out rfl
     have HSM := Lib.hid hsm
     rw [show ((0 : Nat) : Int) = 0 from rfl]
     clear HE HZ hsm
     go_wp2_with fail
     go_loopw [7] (fun _ wr => ∃ e : Nat → Nat, Hid (sumF e 16 % P25 = V) ∧ Hid (∀ k, k < 16 → e k < 65536) ∧ Ms w wr [(w.heap.size + 1 + 1, 68, numC e), (w.heap.size + 1, 68, ZN), (w.heap.size, 99, wC d)]) (fun _ wr => rowSum wr (w.heap.size + 1 + 1))
     case atStart => exact ⟨e, HS, HSM, hM⟩
     case round =>
      clear hM HS HSM
      obtain ⟨e, HS, HSM, hM⟩ := hrel
      have hbe := fun wx => below_any e wx HSM.out
      have hs := Lib.hid (sizeNum e)
      by_cases hlt : sumF e 16 < P25
      ·
       have hd : decide (sumF e 16 < P25) = true := decide_eq_true hlt
       rw [hd] at hbe
       have hans : numC e = numC (numF V) := by
        have h1 := numL_of HSM.out
        have h2 := HS.out
        rw [Nat.mod_eq_of_lt hlt] at h2
        rw [numC, numC, h1, h2]
        rfl
       have ho := Lib.hid (one_num e)
       have hz := Lib.hid (show ZN.size = (numC e).size by rw [numC_size]; rfl)
       have Hans := Lib.hid hans
       clear hd hlt hans HS HSM
       generalize numC e = ce at *
       go_wp2_with ((with_reducible refine tdQ 48 ?_); refine lcQ 68 (.tmp 3) (w.heap.size + 1 + 1) ce (hM.get 0 rfl) Tryz.underlying68 hs.out ?_)
       refine (hbe _).mono ?_
       rintro ee w5 ⟨rfl, hb5⟩
       have hM5 := hM.call hb5
       clear hM hb5 hbe
       go_wp2_with (first
        | ((with_reducible refine tdQ 71 ?_); refine lcQ 68 (.tmp 3) (w.heap.size + 1 + 1) ce (hM5.get 0 rfl) Tryz.underlying68 hs.out ?_)
        | ((with_reducible refine tsQ 68 ?_); refine srQ 68 (.tmp 2) (.tmp 71) (w.heap.size + 1) ce _ (hM5.get 1 rfl) hs.out hz.out ho.out ?_))
       exact bodyPost_ret (results_cell_one rfl _ _ (w.heap.size + 1) 68 ce _ rfl ((hM5.get 1 rfl).row ce) Tryz.underlying68 rfl hs.out) rfl ⟨by rw [Hans.out, HVe.out], below_setRow hM5.old (by omega) _⟩
      ·
       have hd : decide (sumF e 16 < P25) = false := decide_eq_false hlt
       rw [hd] at hbe
       have Hles := Lib.hid (les_sum HSM.out (by omega))
       have Hrow := Lib.hid (rowSum_of (hM.get 0 rfl))
       clear hd hlt
       go_wp2_with ((with_reducible refine tdQ 48 ?_); refine lcQ 68 (.tmp 3) (w.heap.size + 1 + 1) (numC e) (hM.get 0 rfl) Tryz.underlying68 hs.out ?_)
       refine (hbe _).mono ?_
       rintro ee w5 ⟨rfl, hb5⟩
       have hM5 := hM.call hb5
       clear hM hb5 hbe
       go_wp2_with fail
       go_loopw [7, 51] (fun u i wr => ∃ n : Nat, n ≤ 16 ∧ i = .int .i64 (n : Int) ∧ u = .int .u64 ((borF e n : Nat) : Int) ∧ Ms w wr [(w.heap.size + 1 + 1, 68, numC (mixFe (lesF e) e n)), (w.heap.size + 1, 68, ZN), (w.heap.size, 99, wC d)]) (fun _ i _ => (16 - intOf i).toNat)
       case atStart => exact ⟨0, by omega, rfl, rfl, by rw [mixF_zero]; exact hM5⟩
       case round =>
        clear hM5
        obtain ⟨n, hn, rfl, rfl, hM⟩ := hrel
        by_cases hlt : n < 16
        ·
         have hp := fun wx => p_any n wx hlt
         have hx := HSM.out n hlt
         have hy := pU_lt n
         have hu := bor_le e n
         have hmix : mixFe (lesF e) e n n = e n := by rw [mixFe, if_neg (by omega)]
         have hcn := (hM.get 0 rfl).cell (numC_at (mixFe (lesF e) e n) hlt)
         rw [hmix] at hcn
         have hkeep : ∀ wy : World, Below wr.heap.size wr wy → wy.cell? ⟨w.heap.size + 1 + 1, n, none⟩ = some (.int .u64 ((e n : Nat) : Int)) := fun wy hb => by
          have := ((hM.get 0 rfl).call hb).cell (numC_at (mixFe (lesF e) e n) hlt)
          rwa [hmix] at this
         have hfn := (hM.get 0 rfl).drew.frozen n
         have hcd := (hM.get 0 rfl).drew.cell (numC_at (mixFe (lesF e) e n) hlt)
         rw [hmix] at hcd
         have hnew := hM.drew.setCell (by omega) (by simp; omega) n (.int .u64 ((lesF e n : Nat) : Int))
         rw [mixF_set (lesF e)] at hnew
         have Hnew := Lib.hid hnew
         have hw1 : IntKind.u64.wrap (65536 + ((e n : Nat) : Int)) = ((65536 + e n : Nat) : Int) := wrap_nat (by simp) (by omega)
         have hw2 : IntKind.u64.wrap (((65536 + e n : Nat) : Int) - ((pU n : Nat) : Int)) = ((65536 + e n - pU n : Nat) : Int) := wrap_nat (by omega) (by omega)
         have hw3 : IntKind.u64.wrap (((65536 + e n - pU n : Nat) : Int) - ((borF e n : Nat) : Int)) = ((65536 + e n - pU n - borF e n : Nat) : Int) := wrap_nat (by omega) (by omega)
         have hw4 : ((65536 + e n - pU n - borF e n : Nat) : Int) % 65536 = ((lesF e n : Nat) : Int) := by rw [lesF]; omega
         have hw4' : Int.tmod ((65536 + e n - pU n - borF e n : Nat) : Int) 65536 = ((lesF e n : Nat) : Int) := by rw [Int.tmod_eq_emod_of_nonneg (by omega)]; exact hw4
         have hdv : (65536 + e n - pU n - borF e n) / 65536 ≤ 1 := by omega
         have hw5 : ((65536 + e n - pU n - borF e n : Nat) : Int) / 65536 = (((65536 + e n - pU n - borF e n) / 65536 : Nat) : Int) := by omega
         have hw6 : IntKind.u64.wrap (1 - (((65536 + e n - pU n - borF e n) / 65536 : Nat) : Int)) = ((borF e (n + 1) : Nat) : Int) := by
          rw [show borF e (n + 1) = 1 - (65536 + e n - pU n - borF e n) / 65536 from rfl]
          exact wrap_nat (by omega) (by omega)
         have hw7 : IntKind.u64.wrap (((65536 + e n - pU n - borF e n) / 65536 : Nat) : Int) = (((65536 + e n - pU n - borF e n) / 65536 : Nat) : Int) := wrap_nat rfl (by omega)
         have j0 : 0 ≤ (n : Int) := by omega
         have j1 : (n : Int) < 16 := by omega
         clear hx hy hu hmix hcn hM hnew hdv
         generalize hb1 : borF e (n + 1) = b1 at *
         have Hb1 := Lib.hid hb1
         clear hb1
         generalize (65536 + e n - pU n - borF e n) / 65536 = dv at *
         generalize lesF e n = le at *
         generalize 65536 + e n - pU n - borF e n = x3 at *
         generalize 65536 + e n - pU n = x2 at *
         generalize 65536 + e n = x1 at *
         generalize e n = x0 at *
         generalize pU n = y0 at *
         generalize borF e n = b0 at *
         go_wp2_with fail
         go_region_held3 (fun wy : World => wy.cell? ⟨w.heap.size + 1 + 1, n, none⟩ = some (.int .u64 (x0 : Int)))
          ((refine hkeep _ ?_; (repeat (first | exact c_refl _ | refine c_drew ?_ | refine c_alloc ?_ _ | refine c_call ?_ (by assumption))); done))
          (with_reducible refine (hp _).mono ?_; rintro eq wq ⟨rfl, rfl⟩)
         clear hkeep
         go_wp2_with fail
         exact ⟨⟨n + 1, by omega, by go_num, by rw [Hb1.out], Hnew.out⟩, by simp [intOf]; omega⟩
        ·
         obtain rfl : n = 16 := by omega
         rw [mixF_all] at hM
         rw [show ((16 : Nat) : Int) = 16 from rfl]
         have Hrow2 := Lib.hid (rowSum_of (hM.get 0 rfl))
         have Hmod := Lib.hid (show sumF (lesF e) 16 % P25 = V by rw [← HS.out, ← Hles.out, Nat.add_mod_right])
         go_wp2_with fail
         refine ⟨⟨lesF e, Hmod, Lib.hid (fun k _ => lesF_lt e k), hM⟩, ?_⟩
         rw [Hrow2.out, Hrow.out, ← Hles.out]
         have : 0 < P25 := by decide +kernel
         omega
    ·
     have Hrow := Lib.hid (rowSum_of (hM.get 0 rfl))
     have Hps := Lib.hid (pas_sum e)
     have hb1 : decide ((0 : Int) < (v : Int)) = true := decide_eq_true (by omega)
     have hb2 : decide (0 < v) = true := decide_eq_true (by omega)
     have Hv := Lib.hid hv
     clear hv HZ
     go_wp2_with fail
     go_loopw [5, 27] (fun o i wr => ∃ n : Nat, n ≤ 16 ∧ i = .int .i64 (n : Int) ∧ o = .int .u64 ((carF e n : Nat) : Int) ∧ Ms w wr [(w.heap.size + 1 + 1, 68, numC (mixFe (digF e) e n)), (w.heap.size + 1, 68, ZN), (w.heap.size, 99, wC d)]) (fun _ i _ => (16 - intOf i).toNat)
     case atStart => exact ⟨0, by omega, rfl, rfl, by rw [mixF_zero]; exact hM⟩
     case round =>
      clear hM hb1 hb2
      obtain ⟨n, hn, rfl, rfl, hM⟩ := hrel
      by_cases hlt : n < 16
      ·
       have hx := HE.out n hlt
       have hu := car_lt n (fun k hk => HE.out k (by omega))
       have hmix : mixFe (digF e) e n n = e n := by rw [mixFe, if_neg (by omega)]
       have hcn := (hM.get 0 rfl).cell (numC_at (mixFe (digF e) e n) hlt)
       rw [hmix] at hcn
       have hfn := (hM.get 0 rfl).frozen n
       have hnew := hM.setCell (by omega) (by simp; omega) n (.int .u64 ((digF e n : Nat) : Int))
       rw [mixF_set (digF e)] at hnew
       have Hnew := Lib.hid hnew
       have hw1 : IntKind.u64.wrap (((carF e n : Nat) : Int) + ((e n : Nat) : Int)) = ((carF e n + e n : Nat) : Int) := wrap_nat (by simp) (by omega)
       have hw2 : ((carF e n + e n : Nat) : Int) % 65536 = ((digF e n : Nat) : Int) := by rw [digF]; omega
       have hw3 : ((carF e n + e n : Nat) : Int) / 65536 = ((carF e (n + 1) : Nat) : Int) := by rw [carF]; omega
       have hw7 : IntKind.u64.wrap ((carF e (n + 1) : Nat) : Int) = ((carF e (n + 1) : Nat) : Int) := wrap_nat rfl (by have := car_lt (n + 1) (fun k hk => HE.out k (by omega)); omega)
       have j0 : 0 ≤ (n : Int) := by omega
       have j1 : (n : Int) < 16 := by omega
       clear hx hu hmix hM hnew
       generalize hc1 : carF e (n + 1) = c1 at *
       have Hc1 := Lib.hid hc1
       clear hc1
       generalize carF e n + e n = x1 at *
       generalize carF e n = c0 at *
       generalize digF e n = d0 at *
       generalize e n = x0 at *
       go_wp2_with fail
       exact ⟨⟨n + 1, by omega, by go_num, by rw [Hc1.out], Hnew.out⟩, by simp [intOf]; omega⟩
      ·
       obtain rfl : n = 16 := by omega
       rw [mixF_all] at hM
       rw [show ((16 : Nat) : Int) = 16 from rfl]
       have hu := car_lt 16 HE.out
       have hd0 := digF_lt e 0
       have hcn := (hM.get 0 rfl).cell (numC_at (digF e) (show 0 < 16 by omega))
       have hfn := (hM.get 0 rfl).frozen 0
       have hnew := hM.setCell (by omega) (by simp; omega) 0 (.int .u64 ((digF e 0 + 38 * carF e 16 : Nat) : Int))
       rw [pas_set] at hnew
       have Hnew := Lib.hid hnew
       have Hrow2 := Lib.hid (rowSum_of (hnew.get 0 rfl))
       have Hlt := Lib.hid (pas_lt HE.out)
       have Hmod := Lib.hid (show sumF (pasF e) 16 % P25 = V by rw [pas_mod, HS.out])
       have Hsm := Lib.hid (fun h => pas_small (d := e) h)
       have hw1 : IntKind.u64.wrap (38 * ((carF e 16 : Nat) : Int)) = ((38 * carF e 16 : Nat) : Int) := wrap_nat (by simp) (by omega)
       have hw2 : IntKind.u64.wrap (((digF e 0 : Nat) : Int) + ((38 * carF e 16 : Nat) : Int)) = ((digF e 0 + 38 * carF e 16 : Nat) : Int) := wrap_nat (by simp) (by omega)
       have Hmeas := Lib.hid (show 2 * sumF (pasF e) 16 + (if ((carF e 16 : Nat) : Int) = 0 then 0 else 1) < 2 * sumF e 16 + 1 by
        have h1 := Hps.out
        have h2 : 0 < P25 := by decide +kernel
        by_cases hc : carF e 16 = 0
        ·
         rw [if_pos (by omega)]
         rw [hc] at h1
         omega
        ·
         rw [if_neg (by omega)]
         have h3 : 1 ≤ P25 * (2 * carF e 16) := Nat.mul_pos h2 (by omega)
         omega)
       clear hu hd0 hM hnew
       generalize digF e 0 + 38 * carF e 16 = x2 at *
       generalize 38 * carF e 16 = x1 at *
       generalize hc16 : carF e 16 = c16 at *
       clear hc16
       generalize digF e 0 = x0 at *
       go_wp2_with fail
       refine ⟨⟨pasF e, c16, rfl, Hlt, Hmod, Hsm, Hnew.out⟩, ?_⟩
       rw [Hrow2.out, Hrow.out]
       exact meas_ok Hmeas.out Hv.out
def addAt (r : Nat → Nat) (m t j : Nat) : Nat := if j = m then r j + t else r j
theorem addAt_far (r : Nat → Nat) {m t : Nat} : ∀ n, n ≤ m → sumF (addAt r m t) n = sumF r n := fun n hn => sumF_congr n (fun k hk => by rw [addAt, if_neg (by omega)])
theorem addAt_sum (r : Nat → Nat) {m t : Nat} : ∀ n, m < n → sumF (addAt r m t) n = sumF r n + t * 65536 ^ m
 | 0, h => by omega
 | n + 1, h => by
  have e1 : sumF (addAt r m t) (n + 1) = sumF (addAt r m t) n + addAt r m t n * 65536 ^ n := rfl
  have e2 : sumF r (n + 1) = sumF r n + r n * 65536 ^ n := rfl
  rw [e1, e2]
  rcases Nat.lt_or_ge m n with hlt | hge
  ·
   rw [addAt_sum r n hlt, addAt, if_neg (by omega)]
   omega
  ·
   obtain rfl : m = n := by omega
   rw [addAt_far r m (Nat.le_refl _), addAt, if_pos rfl, Nat.add_mul]
   omega
theorem wC_add (r : Nat → Nat) {m : Nat} (hm : m < 32) (t : Nat) : (wC r).setIfInBounds m (.int .u64 ((r m + t : Nat) : Int)) = wC (addAt r m t) := by
 rw [wC, qC_set]
 refine congrArg qC ?_
 apply List.ext_getElem?
 intro k
 by_cases hk : k < 32
 ·
  rw [List.getElem?_set]
  by_cases h : m = k
  ·
   subst h
   simp [hk, addAt]
  ·
   rw [if_neg h]
   simp [hk, addAt, Ne.symm h]
 ·
  rw [List.getElem?_eq_none (by simp; omega), List.getElem?_eq_none (by simp; omega)]
theorem sizeWF (d : Nat → Nat) : (Tryz.prog.info? 99).map (·.size) = some (wC d).size := by
 rw [wC_size]
 kernel_rfl
theorem sum_zero : ∀ n, sumF (fun _ => 0) n = 0
 | 0 => rfl
 | n + 1 => by rw [sumF, sum_zero n]; simp
theorem P25_lt16 {v : Nat} (h : v < P25) : v < 65536 ^ 16 := Nat.lt_trans h (by decide +kernel)
def BndF (r : Nat → Nat) (i k : Nat) : Prop := ∀ j, j < 32 → r j ≤ (i + (if j < i + k then 1 else 0)) * 4294967296
theorem BndF.step {r : Nat → Nat} {i k t : Nat} (h : BndF r i k) (hk : k < 16) (ht : t ≤ 4294836225) : BndF (addAt r (i + k) t) i (k + 1) := fun j hj => by
 have h1 := h j hj
 unfold addAt
 by_cases he : j = i + k
 ·
  subst he
  rw [if_neg (by omega)] at h1
  rw [if_pos rfl, if_pos (by omega)]
  omega
 ·
  rw [if_neg he]
  by_cases hl : j < i + k
  ·
   rw [if_pos hl] at h1
   rw [if_pos (by omega)]
   exact h1
  ·
   rw [if_neg hl] at h1
   rw [if_neg (by omega)]
   exact h1
theorem BndF.next {r : Nat → Nat} {i : Nat} (h : BndF r i 16) : BndF r (i + 1) 0 := fun j hj => by
 have h1 := h j hj
 have h2 : i + (if j < i + 16 then 1 else 0) ≤ i + 1 := by split <;> omega
 exact Nat.le_trans h1 (Nat.mul_le_mul_right _ (Nat.le_trans h2 (Nat.le_add_right _ _)))
set_option maxRecDepth 100000 in
set_option maxHeartbeats 8000000 in
theorem Mul_num (a b : Nat → Nat) (w : World) (ha : ∀ k, k < 16 → a k < 65536) (hb : ∀ k, k < 16 → b k < 65536) :
  Calls Tryz.prog 55 #[.agg (numC a), .agg (numC b)] w fun e w' => e = .returned (.agg (numC (numF (sumF a 16 * sumF b 16 % P25)))) ∧ Below w.heap.size w w' := by
 have hM0 := ((((Ms.nil w).box 68 (numC a)).box 68 (numC b)).box 68 ZN).box 99 (wC (fun _ => 0))
 simp only [World.size_alloc] at hM0
 obtain ⟨SB, hSB⟩ : ∃ S, S = sumF b 16 := ⟨_, rfl⟩
 obtain ⟨SA, hSA⟩ : ∃ S, S = sumF a 16 := ⟨_, rfl⟩
 rw [← hSA, ← hSB]
 have HSA := Lib.hid hSA
 have HSB := Lib.hid hSB
 clear hSA hSB
 have HA := Lib.hid ha
 have HB := Lib.hid hb
 have Hs := Lib.hid (sizeNum a)
 have Hs2 := Lib.hid (sizeNum b)
 have Hia := fun k (hk : k < 16) => Lib.hid (numC_at a hk)
 have Hib := fun k (hk : k < 16) => Lib.hid (numC_at b hk)
 clear ha hb
 generalize numC a = ca at *
 generalize numC b = cb at *
 obtain ⟨i0, hi0⟩ := quad_info
 have hW0 : wC (fun _ => 0) = #[.int .u64 0, .int .u64 0, .int .u64 0, .int .u64 0, .int .u64 0, .int .u64 0, .int .u64 0, .int .u64 0, .int .u64 0, .int .u64 0, .int .u64 0, .int .u64 0, .int .u64 0, .int .u64 0, .int .u64 0, .int .u64 0, .int .u64 0, .int .u64 0, .int .u64 0, .int .u64 0, .int .u64 0, .int .u64 0, .int .u64 0, .int .u64 0, .int .u64 0, .int .u64 0, .int .u64 0, .int .u64 0, .int .u64 0, .int .u64 0, .int .u64 0, .int .u64 0] := by kernel_rfl
 have HW0 := Lib.hid hW0
 rw [hW0] at hM0
 clear hW0
 have hZN : ZN = #[.int .u64 0, .int .u64 0, .int .u64 0, .int .u64 0, .int .u64 0, .int .u64 0, .int .u64 0, .int .u64 0, .int .u64 0, .int .u64 0, .int .u64 0, .int .u64 0, .int .u64 0, .int .u64 0, .int .u64 0, .int .u64 0] := rfl
 have HZN := Lib.hid hZN
 rw [hZN] at hM0
 clear hZN
 go_enter Tryz.func55, Tryz.ntmps55
 go_wp2_with ((with_reducible refine tdQ 10 ?_); refine lcQ 68 (.tmp 2) (w.heap.size) ca (hM0.get 3 rfl) Tryz.underlying68 Hs.out ?_)
 go_loopw [11] (fun i wr => ∃ (n : Nat) (r : Nat → Nat), n ≤ 16 ∧ i = .int .i64 (n : Int) ∧ Hid (BndF r n 0) ∧ Hid (sumF r 32 = sumF a n * SB) ∧ Ms w wr [(w.heap.size + 1 + 1 + 1, 99, wC r), (w.heap.size + 1 + 1, 68, ZN), (w.heap.size + 1, 68, cb), (w.heap.size, 68, ca)]) (fun i _ => (16 - intOf i).toNat)
 case atStart => exact ⟨0, fun _ => 0, by omega, rfl, Lib.hid (fun j hj => by simp), Lib.hid (by rw [sum_zero, show sumF a 0 = 0 from rfl, Nat.zero_mul]), by rw [HW0.out, HZN.out]; exact hM0⟩
 case round =>
  clear hM0
  obtain ⟨n, r, hn, rfl, HBd, HS, hM⟩ := hrel
  by_cases hlt : n < 16
  ·
   have hix := (Hia n hlt).out
   have hxa := HA.out n hlt
   have Hxa := Lib.hid hxa
   have Hstep := Lib.hid (show sumF a (n + 1) * SB = sumF a n * SB + a n * 65536 ^ n * SB by rw [show sumF a (n + 1) = sumF a n + a n * 65536 ^ n from rfl, Nat.add_mul])
   have j0 : 0 ≤ (n : Int) := by omega
   have j1 : (n : Int) < 16 := by omega
   clear hxa
   generalize a n = x at *
   go_wp2_with (first
    | ((with_reducible refine tdQ 14 ?_); refine wpList_index_cell rfl (some 14) rfl 68 (.tmp 10) (.tmp 11) rfl ca rfl n rfl 16 53 Tryz.underlying68 quad_plain i0 hi0 quadCells _ hix hlt ?_)
    | ((with_reducible refine tdQ 15 ?_); refine lcQ 68 (.tmp 3) (w.heap.size + 1) cb (hM.get 2 rfl) Tryz.underlying68 Hs2.out ?_))
   go_loopw [16] (fun i wr => ∃ (k : Nat) (r : Nat → Nat), k ≤ 16 ∧ i = .int .i64 (k : Int) ∧ Hid (BndF r n k) ∧ Hid (sumF r 32 = sumF a n * SB + x * 65536 ^ n * sumF b k) ∧ Ms w wr [(w.heap.size + 1 + 1 + 1, 99, wC r), (w.heap.size + 1 + 1, 68, ZN), (w.heap.size + 1, 68, cb), (w.heap.size, 68, ca)]) (fun i _ => (16 - intOf i).toNat)
   case atStart => exact ⟨0, r, by omega, rfl, HBd, Lib.hid (by rw [HS.out, show sumF b 0 = 0 from rfl, Nat.mul_zero, Nat.add_zero]), hM⟩
   case round =>
    clear hM HBd HS hix
    obtain ⟨k, r, hk, rfl, HBd, HS, hM⟩ := hrel
    by_cases hlk : k < 16
    ·
     have hix := (Hib k hlk).out
     have hy := HB.out k hlk
     have hx := Hxa.out
     have hmul : x * b k ≤ 4294836225 := Nat.mul_le_mul (show x ≤ 65535 by omega) (show b k ≤ 65535 by omega)
     have hr := HBd.out (n + k) (by omega)
     rw [if_neg (by omega)] at hr
     have hm32 : n + k < 32 := by omega
     have hcl := (hM.get 0 rfl).cell (wC_at r hm32)
     have hfl := (hM.get 0 rfl).frozen (n + k)
     have hnew := hM.setCell (by omega) (by simp; omega) (n + k) (.int .u64 ((r (n + k) + x * b k : Nat) : Int))
     rw [wC_add r hm32] at hnew
     have Hnew := Lib.hid hnew
     have Hb2 := Lib.hid (HBd.out.step hlk hmul)
     have Hs3 := Lib.hid (show sumF (addAt r (n + k) (x * b k)) 32 = sumF a n * SB + x * 65536 ^ n * sumF b (k + 1) by
      have e : x * b k * 65536 ^ (n + k) = x * 65536 ^ n * (b k * 65536 ^ k) := by
       rw [Nat.pow_add]
       simp only [Nat.mul_assoc, Nat.mul_left_comm]
      rw [addAt_sum r 32 hm32, HS.out, show sumF b (k + 1) = sumF b k + b k * 65536 ^ k from rfl, Nat.mul_add, e, Nat.add_assoc])
     have hw1 : IntKind.u64.wrap ((x : Int) * ((b k : Nat) : Int)) = ((x * b k : Nat) : Int) := wrap_nat (by simp) (by omega)
     have hw2 : IntKind.u64.wrap (((r (n + k) : Nat) : Int) + ((x * b k : Nat) : Int)) = ((r (n + k) + x * b k : Nat) : Int) := wrap_nat (by simp) (by omega)
     have hw3 : IntKind.i64.wrap ((n : Int) + (k : Int)) = ((n + k : Nat) : Int) := by rw [IntKind.wrap_i64]; omega
     have k0 : 0 ≤ (k : Int) := by omega
     have k1 : (k : Int) < 16 := by omega
     have k2 : 0 ≤ ((n + k : Nat) : Int) := by omega
     have k3 : ((n + k : Nat) : Int) < 32 := by omega
     clear hy hx hmul hr hm32 hM hnew j0 j1
     have Hn := Lib.hid hn
     clear hn
     generalize hA : addAt r (n + k) (x * b k) = r2 at *
     have HA2 := Lib.hid hA
     clear hA
     generalize r (n + k) + x * b k = s2 at *
     generalize x * b k = s1 at *
     generalize r (n + k) = s0 at *
     generalize n + k = m at *
     generalize b k = y at *
     go_wp2_with ((with_reducible refine tdQ 19 ?_); refine wpList_index_cell rfl (some 19) rfl 68 (.tmp 15) (.tmp 16) rfl cb rfl k rfl 16 53 Tryz.underlying68 quad_plain i0 hi0 quadCells _ hix hlk ?_)
     exact ⟨⟨k + 1, r2, by omega, by go_num, Hb2, Hs3, Hnew.out⟩, by simp [intOf]; omega⟩
    ·
     obtain rfl : k = 16 := by omega
     rw [show ((16 : Nat) : Int) = 16 from rfl]
     go_wp2_with fail
     exact ⟨⟨n + 1, r, by omega, by go_num, Lib.hid HBd.out.next, Lib.hid (by rw [HS.out, Hstep.out, HSB.out]), hM⟩, by simp [intOf]; omega⟩
  ·
   obtain rfl : n = 16 := by omega
   rw [show ((16 : Nat) : Int) = 16 from rfl]
   have hf := fun wx => Fold_any r wx (fun k hk => by
    have h1 := HBd.out k hk
    split at h1 <;> omega)
   rw [HS.out, ← HSA.out] at hf
   have hs := Lib.hid (sizeNum (numF (SA * SB % P25)))
   have ho := Lib.hid (one_num (numF (SA * SB % P25)))
   have hz := Lib.hid (show ZN.size = (numC (numF (SA * SB % P25))).size by rw [numC_size]; rfl)
   generalize hfa : numC (numF (SA * SB % P25)) = fa at *
   have Hfa := Lib.hid hfa
   clear hfa HBd HS
   go_wp2_with ((with_reducible refine tdQ 32 ?_); refine lcQ 99 (.tmp 5) (w.heap.size + 1 + 1 + 1) (wC r) (hM.get 0 rfl) Tryz.underlying99 (sizeWF r) ?_)
   refine (hf _).mono ?_
   rintro e w5 ⟨rfl, hb5⟩
   have hM5 := hM.call hb5
   clear hM hb5 hf
   go_wp2_with ((with_reducible refine tsQ 68 ?_); refine srQ 68 (.tmp 4) (.tmp 33) (w.heap.size + 1 + 1) fa _ (hM5.get 1 rfl) hs.out hz.out ho.out ?_)
   exact bodyPost_ret (results_cell_one rfl _ _ (w.heap.size + 1 + 1) 68 fa _ rfl ((hM5.get 1 rfl).row fa) Tryz.underlying68 rfl hs.out) rfl ⟨by rw [Hfa.out], below_setRow hM5.old (by omega) _⟩
theorem Mul_nv (u v : Nat) (w : World) (hu : u < P25) (hv : v < P25) :
  Calls Tryz.prog 55 #[.agg (numC (numF u)), .agg (numC (numF v))] w fun e w' => e = .returned (.agg (numC (numF (u * v % P25)))) ∧ Below w.heap.size w w' := by
 have h := Mul_num (numF u) (numF v) w (fun k _ => numF_lt u k) (fun k _ => numF_lt v k)
 rwa [num_sum (P25_lt16 hu), num_sum (P25_lt16 hv)] at h
theorem num_same (a b : Nat → Nat) : (numC a).size = (numC b).size := by rw [numC_size, numC_size]
theorem num_zero (a : Nat → Nat) : (#[.int .u64 0, .int .u64 0, .int .u64 0, .int .u64 0, .int .u64 0, .int .u64 0, .int .u64 0, .int .u64 0, .int .u64 0, .int .u64 0, .int .u64 0, .int .u64 0, .int .u64 0, .int .u64 0, .int .u64 0, .int .u64 0] : Array Value).size = (numC a).size := by rw [numC_size]; rfl
def stpN (v o m : Nat) : Nat := if m = 2 ∨ m = 4 then o * o % P25 else o * o % P25 * v % P25
def invN (v : Nat) : Nat → Nat
 | 0 => 1
 | k + 1 => stpN v (invN v k) (254 - k)
def expN : Nat → Nat
 | 0 => 0
 | k + 1 => if 254 - k = 2 ∨ 254 - k = 4 then 2 * expN k else 2 * expN k + 1
theorem expN_all : expN 255 = P25 - 2 := by decide +kernel
theorem invN_val (v : Nat) : ∀ k, invN v k = v ^ expN k % P25
 | 0 => by
  rw [invN, expN, Nat.pow_zero]
  decide +kernel
 | k + 1 => by
  have ih := invN_val v k
  have e : invN v k * invN v k % P25 = v ^ (2 * expN k) % P25 := by rw [ih, ← Nat.mul_mod, ← Nat.pow_add, Nat.two_mul]
  rw [invN, stpN, expN]
  split
  ·
   exact e
  ·
   rw [e, Nat.mod_mul_mod, ← Nat.pow_succ]
theorem invN_lt (v k : Nat) : invN v k < P25 := by rw [invN_val]; exact P25_lt _
theorem one_num1 : #[.int .u64 1, .int .u64 0, .int .u64 0, .int .u64 0, .int .u64 0, .int .u64 0, .int .u64 0, .int .u64 0, .int .u64 0, .int .u64 0, .int .u64 0, .int .u64 0, .int .u64 0, .int .u64 0, .int .u64 0, .int .u64 0] = numC (numF 1) := by kernel_rfl
set_option maxRecDepth 100000 in
set_option maxHeartbeats 4000000 in
theorem InvertN_any (v : Nat) (w : World) (hv : v < P25) :
  Calls Tryz.prog 56 #[.agg (numC (numF v))] w fun e w' => e = .returned (.agg (numC (numF (invN v 255)))) ∧ Below w.heap.size w w' := by
 have hM0 := (((Ms.nil w).box 68 (numC (numF v))).box 68 #[.int .u64 0, .int .u64 0, .int .u64 0, .int .u64 0, .int .u64 0, .int .u64 0, .int .u64 0, .int .u64 0, .int .u64 0, .int .u64 0, .int .u64 0, .int .u64 0, .int .u64 0, .int .u64 0, .int .u64 0, .int .u64 0]).put 68 #[.int .u64 0, .int .u64 0, .int .u64 0, .int .u64 0, .int .u64 0, .int .u64 0, .int .u64 0, .int .u64 0, .int .u64 0, .int .u64 0, .int .u64 0, .int .u64 0, .int .u64 0, .int .u64 0, .int .u64 0, .int .u64 0] (numC (numF 1))
 simp only [World.size_alloc] at hM0
 have hnew : RowC (((w.alloc (.cells (numC (numF v)) 68)).alloc (.cells #[.int .u64 0, .int .u64 0, .int .u64 0, .int .u64 0, .int .u64 0, .int .u64 0, .int .u64 0, .int .u64 0, .int .u64 0, .int .u64 0, .int .u64 0, .int .u64 0, .int .u64 0, .int .u64 0, .int .u64 0, .int .u64 0] 68)).alloc (.cells #[.int .u64 0, .int .u64 0, .int .u64 0, .int .u64 0, .int .u64 0, .int .u64 0, .int .u64 0, .int .u64 0, .int .u64 0, .int .u64 0, .int .u64 0, .int .u64 0, .int .u64 0, .int .u64 0, .int .u64 0, .int .u64 0] 68)) (w.heap.size + 1 + 1) 68 #[.int .u64 0, .int .u64 0, .int .u64 0, .int .u64 0, .int .u64 0, .int .u64 0, .int .u64 0, .int .u64 0, .int .u64 0, .int .u64 0, .int .u64 0, .int .u64 0, .int .u64 0, .int .u64 0, .int .u64 0, .int .u64 0] := RowC.mk_ _ _ _ (by simp)
 have hp := fun wx k => Mul_nv (invN v k) (invN v k) wx (invN_lt v k) (invN_lt v k)
 have hq := fun wx k => Mul_nv (invN v k * invN v k % P25) v wx (P25_lt _) hv
 have H1 := Lib.hid one_num1
 clear hv
 rw [← H1.out] at hM0
 go_enter Tryz.func56, Tryz.ntmps56
 go_wp2_with ((with_reducible refine tsQ 68 ?_); refine wpList_store_row rfl 68 (.tmp 3) (.tmp 5) rfl (w.heap.size + 1 + 1) #[.int .u64 1, .int .u64 0, .int .u64 0, .int .u64 0, .int .u64 0, .int .u64 0, .int .u64 0, .int .u64 0, .int .u64 0, .int .u64 0, .int .u64 0, .int .u64 0, .int .u64 0, .int .u64 0, .int .u64 0, .int .u64 0] rfl rfl 68 _ (hnew) (by rw [H1.out]; exact sizeNum _) rfl (by rw [H1.out]; exact one_num _) ?_)
 go_loopw [4] (fun i wr => ∃ k : Nat, k ≤ 255 ∧ i = .int .i64 (254 - (k : Int)) ∧ Ms w wr [(w.heap.size + 1 + 1, 68, numC (numF (invN v k))), (w.heap.size + 1, 68, #[.int .u64 0, .int .u64 0, .int .u64 0, .int .u64 0, .int .u64 0, .int .u64 0, .int .u64 0, .int .u64 0, .int .u64 0, .int .u64 0, .int .u64 0, .int .u64 0, .int .u64 0, .int .u64 0, .int .u64 0, .int .u64 0]), (w.heap.size, 68, numC (numF v))]) (fun i _ => (intOf i + 1).toNat)
 case atStart => exact ⟨0, by omega, rfl, by rw [show invN v 0 = 1 from rfl, ← H1.out]; exact hM0⟩
 case round =>
  clear hM0 hnew
  obtain ⟨k, hk, rfl, hM⟩ := hrel
  by_cases hlt : k < 255
  ·
   obtain ⟨m, hm⟩ : ∃ m, m = 254 - k := ⟨_, rfl⟩
   rw [show (254 : Int) - (k : Int) = (m : Int) by omega]
   have hpk := fun wx => hp wx k
   have hqk := fun wx => hq wx k
   have Hinv := Lib.hid (show invN v (k + 1) = stpN v (invN v k) m by rw [invN, hm])
   obtain ⟨s1, hs1⟩ : ∃ s, s = invN v k * invN v k % P25 := ⟨_, rfl⟩
   obtain ⟨s2, hs2⟩ : ∃ s, s = s1 * v % P25 := ⟨_, rfl⟩
   rw [← hs1] at hpk hqk
   rw [← hs2] at hqk
   have Hs1 := Lib.hid hs1
   have Hs2 := Lib.hid hs2
   clear hs1 hs2
   have Hm := Lib.hid hm
   have Hlt := Lib.hid hlt
   have j0 : 0 ≤ (m : Int) := by omega
   have j1 : (m : Int) < 255 := by omega
   have hsub : (m : Int) - 1 = 254 - ((k + 1 : Nat) : Int) := by omega
   have Hsub := Lib.hid hsub
   clear hp hq hm hlt hsub
   have H3 := Lib.hid (fun w2 (hb : Below wr.heap.size wr w2) => (hM.call hb).set (by omega) (by simp; omega) (numC (numF s1)))
   have H2 := Lib.hid (fun w2 (hb : Below wr.heap.size wr w2) => hM.call hb)
   go_wp2_with (first
    | ((with_reducible refine tdQ 10 ?_); refine lcQ 68 (.tmp 3) (w.heap.size + 1 + 1) (numC (numF (invN v k))) (hM.get 0 rfl) Tryz.underlying68 (sizeNum _) ?_)
    | ((with_reducible refine tdQ 11 ?_); refine lcQ 68 (.tmp 3) (w.heap.size + 1 + 1) (numC (numF (invN v k))) (hM.get 0 rfl) Tryz.underlying68 (sizeNum _) ?_))
   refine (hpk _).mono ?_
   rintro e w2 ⟨rfl, hb2⟩
   have hM3 := H3.out w2 hb2
   by_cases hbit : m = 2 ∨ m = 4
   ·
    have hans : invN v (k + 1) = s1 := by rw [Hinv.out, stpN, if_pos hbit, Hs1.out]
    have Hans := Lib.hid hans
    clear hans
    rcases hbit with rfl | rfl
    ·
     rw [show ((2 : Nat) : Int) = 2 from rfl]
     go_wp2_with ((with_reducible refine tsQ 68 ?_); refine srQ 68 (.tmp 3) (.tmp 12) (w.heap.size + 1 + 1) (numC (numF s1)) _ ((H2.out w2 hb2).get 0 rfl) (sizeNum _) (num_same _ _) (one_num _) ?_)
     exact ⟨⟨k + 1, by have := Hlt.out; omega, by rw [← Hsub.out]; rfl, by rw [Hans.out]; exact hM3⟩, by simp [intOf]⟩
    ·
     rw [show ((4 : Nat) : Int) = 4 from rfl]
     go_wp2_with ((with_reducible refine tsQ 68 ?_); refine srQ 68 (.tmp 3) (.tmp 12) (w.heap.size + 1 + 1) (numC (numF s1)) _ ((H2.out w2 hb2).get 0 rfl) (sizeNum _) (num_same _ _) (one_num _) ?_)
     exact ⟨⟨k + 1, by have := Hlt.out; omega, by rw [← Hsub.out]; rfl, by rw [Hans.out]; exact hM3⟩, by simp [intOf]⟩
   ·
    have hans : invN v (k + 1) = s2 := by rw [Hinv.out, stpN, if_neg hbit, Hs2.out, Hs1.out]
    have Hans := Lib.hid hans
    have hn2 : ((m : Int) != 2) = true := by rw [bne_iff_ne]; omega
    have hn4 : ((m : Int) != 4) = true := by rw [bne_iff_ne]; omega
    clear hans hbit
    have hw1 : IntKind.i64.wrap ((m : Int) - 1) = (m : Int) - 1 := by rw [IntKind.wrap_i64]; omega
    go_wp2_with (first
     | ((with_reducible refine tsQ 68 ?_); refine srQ 68 (.tmp 3) (.tmp 12) (w.heap.size + 1 + 1) (numC (numF s1)) _ ((H2.out w2 hb2).get 0 rfl) (sizeNum _) (num_same _ _) (one_num _) ?_)
     | ((with_reducible refine tdQ 19 ?_); refine lcQ 68 (.tmp 3) (w.heap.size + 1 + 1) (numC (numF s1)) (hM3.get 0 rfl) Tryz.underlying68 (sizeNum _) ?_)
     | ((with_reducible refine tdQ 20 ?_); refine lcQ 68 (.tmp 1) (w.heap.size) (numC (numF v)) (hM3.get 2 rfl) Tryz.underlying68 (sizeNum _) ?_))
    refine (hqk _).mono ?_
    rintro e w4 ⟨rfl, hb4⟩
    have hM4 := hM3.call hb4
    have hM5 := hM4.set (by omega) (by simp; omega) (numC (numF s2))
    go_wp2_with ((with_reducible refine tsQ 68 ?_); refine srQ 68 (.tmp 3) (.tmp 21) (w.heap.size + 1 + 1) (numC (numF s2)) _ (hM4.get 0 rfl) (sizeNum _) (num_same _ _) (one_num _) ?_)
    exact ⟨⟨k + 1, by have := Hlt.out; omega, by rw [← Hsub.out], by rw [Hans.out]; exact hM5⟩, by simp [intOf]; try omega⟩
  ·
   obtain rfl : k = 255 := by omega
   rw [show (254 : Int) - ((255 : Nat) : Int) = -1 from rfl]
   clear hp hq
   go_wp2_with (first
    | ((with_reducible refine tdQ 22 ?_); refine lcQ 68 (.tmp 3) (w.heap.size + 1 + 1) (numC (numF (invN v 255))) (hM.get 0 rfl) Tryz.underlying68 (sizeNum _) ?_)
    | ((with_reducible refine tsQ 68 ?_); refine srQ 68 (.tmp 2) (.tmp 22) (w.heap.size + 1) (numC (numF (invN v 255))) _ (hM.get 1 rfl) (sizeNum _) (num_zero _) (one_num _) ?_))
   exact bodyPost_ret (results_cell_one rfl _ _ (w.heap.size + 1) 68 _ _ rfl ((hM.get 1 rfl).row _) Tryz.underlying68 rfl (sizeNum _)) rfl ⟨rfl, below_setRow hM.old (by omega) _⟩
def bytU (v j : Nat) : UInt8 := UInt8.ofNat (v / 256 ^ j)
theorem byt_low (v n : Nat) : numF v n % 256 = (bytU v (2 * n)).toNat := by
 rw [bytU, UInt8.toNat_ofNat', numF, Nat.pow_mul, show (256 : Nat) ^ 2 = 65536 from rfl]
 omega
theorem byt_high (v n : Nat) : numF v n / 256 = (bytU v (2 * n + 1)).toNat := by
 rw [bytU, UInt8.toNat_ofNat', numF, Nat.pow_succ, Nat.pow_mul, show (256 : Nat) ^ 2 = 65536 from rfl, ← Nat.div_div_eq_div_mul]
 omega
def bytL (v j : Nat) : List UInt8 := uptoN (bytU v) (fun _ => 0) 32 j
theorem bytL_all (v : Nat) : bytL v 32 = keyB v := uptoN_all _ _
theorem bytL_old (v : Nat) {j : Nat} (h : j < 32) : (bytL v j)[j]? = some 0 := uptoN_old _ _ h (Nat.le_refl _)
theorem bytL_set (v j : Nat) : (bytL v j).set j (bytU v j) = bytL v (j + 1) := (uptoN_succ _ _).symm
set_option maxRecDepth 100000 in
set_option maxHeartbeats 4000000 in
theorem BytesN_any (v : Nat) (w : World) :
  Calls Tryz.prog 54 #[.agg (numC (numF v))] w fun e w' => e = .returned (.agg (keyC (keyB v))) ∧ Below w.heap.size w w' := by
 have hM0 := (((Ms.nil w).box 68 (numC (numF v))).box 23 (keyC (keyB 0))).box 23 (keyC (keyB 0))
 simp only [World.size_alloc] at hM0
 have Hkz := Lib.hid keyZ
 rw [keyZ] at hM0
 have Hi := fun k (hk : k < 16) => Lib.hid (numC_at (numF v) hk)
 have Hs := Lib.hid (sizeNum (numF v))
 generalize numC (numF v) = cn at *
 obtain ⟨i0, hi0⟩ := quad_info
 have HB0 := Lib.hid (show keyC (bytL v 0) = keyC (keyB 0) from by rw [show bytL v 0 = (List.range 32).map (fun _ => 0) from uptoN_zero _ _]; rfl)
 go_enter Tryz.func54, Tryz.ntmps54
 go_wp2_with ((with_reducible refine tdQ 6 ?_); refine lcQ 68 (.tmp 1) (w.heap.size) cn (hM0.get 2 rfl) Tryz.underlying68 Hs.out ?_)
 go_loopw [7] (fun i wr => ∃ n : Nat, n ≤ 16 ∧ i = .int .i64 (n : Int) ∧ Ms w wr [(w.heap.size + 1 + 1, 23, keyC (bytL v (2 * n))), (w.heap.size + 1, 23, keyC (keyB 0)), (w.heap.size, 68, cn)]) (fun i _ => (16 - intOf i).toNat)
 case atStart => exact ⟨0, by omega, rfl, by rw [show 2 * 0 = 0 from rfl, HB0.out, Hkz.out]; exact hM0⟩
 case round =>
  clear hM0
  obtain ⟨n, hn, rfl, hM⟩ := hrel
  by_cases hlt : n < 16
  ·
   have hix := (Hi n hlt).out
   have e1 := byt_low v n
   have e2 := byt_high v n
   have hx := numF_lt v n
   have hc0 := (hM.get 0 rfl).cell (keyC_at (bytL_old v (show 2 * n < 32 by omega)))
   have hf0 := (hM.get 0 rfl).frozen (2 * n)
   have hM1 := hM.setCell (by omega) (by simp; omega) (2 * n) (.int .u8 ((bytU v (2 * n)).toNat : Int))
   rw [keyC_set, bytL_set] at hM1
   have hc1 := (hM1.get 0 rfl).cell (keyC_at (bytL_old v (show 2 * n + 1 < 32 by omega)))
   have hf1 := (hM1.get 0 rfl).frozen (2 * n + 1)
   have hM2 := hM1.setCell (by omega) (by simp; omega) (2 * n + 1) (.int .u8 ((bytU v (2 * n + 1)).toNat : Int))
   rw [keyC_set, bytL_set, show 2 * n + 1 + 1 = 2 * (n + 1) by omega] at hM2
   have HM2 := Lib.hid hM2
   have q1 : (bytU v (2 * n)).toNat < 256 := (bytU v (2 * n)).toBitVec.isLt
   have q2 : (bytU v (2 * n + 1)).toNat < 256 := (bytU v (2 * n + 1)).toBitVec.isLt
   have hw1 : ((numF v n : Nat) : Int) % 256 = ((bytU v (2 * n)).toNat : Int) := by omega
   have hw1t : Int.tmod ((numF v n : Nat) : Int) 256 = ((bytU v (2 * n)).toNat : Int) := by rw [Int.tmod_eq_emod_of_nonneg (by omega)]; exact hw1
   have hw2 : ((numF v n : Nat) : Int) / 256 = ((bytU v (2 * n + 1)).toNat : Int) := by omega
   have hw3 : IntKind.u8.wrap ((bytU v (2 * n)).toNat : Int) = ((bytU v (2 * n)).toNat : Int) := by rw [IntKind.wrap_u8]; omega
   have hw4 : IntKind.u8.wrap ((bytU v (2 * n + 1)).toNat : Int) = ((bytU v (2 * n + 1)).toNat : Int) := by rw [IntKind.wrap_u8]; omega
   have hw5 : IntKind.u64.wrap ((bytU v (2 * n + 1)).toNat : Int) = ((bytU v (2 * n + 1)).toNat : Int) := by rw [IntKind.wrap_u64]; omega
   have hw6 : IntKind.i64.wrap (2 * (n : Int)) = ((2 * n : Nat) : Int) := by rw [IntKind.wrap_i64]; omega
   have hw7 : IntKind.i64.wrap (((2 * n : Nat) : Int) + 1) = ((2 * n + 1 : Nat) : Int) := by rw [IntKind.wrap_i64]; omega
   have j0 : 0 ≤ (n : Int) := by omega
   have j1 : (n : Int) < 16 := by omega
   have j2 : 0 ≤ ((2 * n : Nat) : Int) := by omega
   have j3 : ((2 * n : Nat) : Int) < 32 := by omega
   have j4 : 0 ≤ ((2 * n + 1 : Nat) : Int) := by omega
   have j5 : ((2 * n + 1 : Nat) : Int) < 32 := by omega
   clear e1 e2 hx hM hM1 hM2 q1 q2
   have Hlt := Lib.hid hlt
   generalize hbl : bytL v (2 * (n + 1)) = bl at *
   have Hbl := Lib.hid hbl
   clear hbl
   generalize ((bytU v (2 * n)).toNat : Int) = y0 at *
   generalize ((bytU v (2 * n + 1)).toNat : Int) = y1 at *
   generalize 2 * n + 1 = p1 at *
   generalize 2 * n = p0 at *
   generalize numF v n = x at *
   go_wp2_with ((with_reducible refine tdQ 10 ?_); refine wpList_index_cell rfl (some 10) rfl 68 (.tmp 6) (.tmp 7) rfl cn rfl n rfl 16 53 Tryz.underlying68 quad_plain i0 hi0 quadCells _ hix hlt ?_)
   exact ⟨⟨n + 1, by have := Hlt.out; omega, by go_num, by rw [Hbl.out]; exact HM2.out⟩, by have := Hlt.out; simp [intOf]; omega⟩
  ·
   obtain rfl : n = 16 := by omega
   rw [show 2 * 16 = 32 from rfl, bytL_all] at hM
   rw [show ((16 : Nat) : Int) = 16 from rfl]
   have hs := Lib.hid (sizeKey (keyB_len v))
   have hz := Lib.hid (show (keyC (keyB 0)).size = (keyC (keyB v)).size by rw [keyC_size, keyC_size, keyB_len, keyB_len])
   go_wp2_with (first
    | ((with_reducible refine tdQ 25 ?_); refine lcQ 23 (.tmp 3) (w.heap.size + 1 + 1) (keyC (keyB v)) (hM.get 0 rfl) Tryz.underlying23 hs.out ?_)
    | ((with_reducible refine tsQ 23 ?_); refine srQ 23 (.tmp 2) (.tmp 25) (w.heap.size + 1) (keyC (keyB v)) _ (hM.get 1 rfl) hs.out hz.out (one_keyF _) ?_))
   exact bodyPost_ret (results_cell_one rfl _ _ (w.heap.size + 1) 23 _ _ rfl ((hM.get 1 rfl).row _) Tryz.underlying23 rfl hs.out) rfl ⟨rfl, below_setRow hM.old (by omega) _⟩
def BndO (r : Nat → Nat) (m : Nat) : Prop := ∀ j, j < 32 → r j ≤ m * 32768
theorem BndO.up {r : Nat → Nat} {m : Nat} (h : BndO r m) : BndO r (m + 1) := fun j hj => Nat.le_trans (h j hj) (Nat.mul_le_mul_right _ (Nat.le_succ m))
theorem BndO.add {r : Nat → Nat} {m q t : Nat} (h : BndO r m) (ht : t ≤ 32768) : BndO (addAt r q t) (m + 1) := fun j hj => by
 unfold addAt
 split
 ·
  rw [Nat.add_mul, Nat.one_mul]
  exact Nat.add_le_add (h j hj) ht
 ·
  exact h.up j hj
end Go.Proofs.YtbiijdboolpaeaaGreatDoor
