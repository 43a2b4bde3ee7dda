/-
  CONTRACTS of the document's p and below (coterieref05).
-/
import Derived.Test.YtimgnpcojamafaaFeKit
import Derived.Test.YtimgnpcojamafaaFeNum
set_option linter.unusedVariables false
namespace Go.Proofs.Ytimgnpcojamafaa
open Go.RowKit

theorem p_any (i : Nat) (w : World) (hi : i < 16) : Calls Try.prog 48 #[.int .i64 (i : Int)] w fun e w' => e = .returned (.int .u64 ((pU i : Nat) : Int)) ∧ w' = w := by
  by_cases h0 : i = 0
  · subst h0
    rw [show ((0 : Nat) : Int) = 0 from rfl, show ((pU 0 : Nat) : Int) = 65517 from rfl]
    go_enter Try.func48, Try.ntmps48
    go_wp2_with fail
    go_ret
    exact ⟨rfl, rfl⟩
  · by_cases h15 : i = 15
    · subst h15
      rw [show ((15 : Nat) : Int) = 15 from rfl, show ((pU 15 : Nat) : Int) = 32767 from rfl]
      go_enter Try.func48, Try.ntmps48
      go_wp2_with fail
      go_ret
      exact ⟨rfl, rfl⟩
    · have e : pU i = 65535 := by rw [pU, if_neg h0, if_neg h15]
      rw [e, show ((65535 : Nat) : Int) = 65535 from rfl]
      have hb0 : ((i : Int) == 0) = false := by rw [beq_eq_false_iff_ne]; omega
      have hb15 : ((i : Int) == 15) = false := by rw [beq_eq_false_iff_ne]; omega
      clear h0 h15 e
      go_enter Try.func48, Try.ntmps48
      go_wp2_with fail
      go_ret
      exact ⟨rfl, rfl⟩

theorem infoNum : (Try.prog.info? 47).map (·.size) = some 16 := by kernel_rfl
/-- sixteen parts as cells -/
def numC (d : Nat → Nat) : Array Value := qC ((List.range 16).map d)
theorem numC_size (d : Nat → Nat) : (numC d).size = 16 := by simp [numC, qC]
theorem sizeNum (d : Nat → Nat) : (Try.prog.info? 47).map (·.size) = some (numC d).size := by rw [infoNum, numC_size]
theorem one_num (d : Nat → Nat) : (numC d).all (·.oneCell') = true := qC_one _
theorem numC_at (d : Nat → Nat) {k : Nat} (hk : k < 16) : (numC d)[k]? = some (.int .u64 ((d k : Nat) : Int)) := qC_at (by simp [hk])
theorem numC_zero : numC (fun _ => 0) = #[.int .u64 0, .int .u64 0, .int .u64 0, .int .u64 0, .int .u64 0, .int .u64 0, .int .u64 0, .int .u64 0, .int .u64 0, .int .u64 0, .int .u64 0, .int .u64 0, .int .u64 0, .int .u64 0, .int .u64 0, .int .u64 0] := by kernel_rfl
/-- the first j parts by f, the others by d -/
def mixFe (f d : Nat → Nat) (j k : Nat) : Nat := if k < j then f k else d k
theorem mixF_zero (f d : Nat → Nat) : numC (mixFe f d 0) = numC d := by
  congr 1
theorem mixF_set (f d : Nat → Nat) (j : Nat) : (numC (mixFe f d j)).setIfInBounds j (.int .u64 ((f j : Nat) : Int)) = numC (mixFe f d (j + 1)) := by
  have h := uptoN_succ f d (m := 16) (j := j)
  rw [numC, qC_set]
  exact congrArg qC h.symm
theorem mixF_all (f d : Nat → Nat) : numC (mixFe f d 16) = numC f := by
  have h := uptoN_all f d (m := 16)
  exact congrArg qC h

set_option maxRecDepth 100000 in
set_option maxHeartbeats 2000000 in
theorem below_any (d : Nat → Nat) (w : World) (hd : ∀ k, k < 16 → d k < 65536) :
    Calls Try.prog 47 #[.agg (numC d)] w fun e w' => e = .returned (.bool (decide (sumF d 16 < P25))) ∧ Below w.heap.size w w' := by
  have hM0 := (Ms.nil w).box 47 (numC d)
  have Hlt := fun i (hi : i < 16) (h : d i < pU i) (ha : ∀ k, i < k → k < 16 → d k = pU k) => cmp_lt hi hd h ha
  have Hgt := fun i (hi : i < 16) (h : pU i < d i) (ha : ∀ k, i < k → k < 16 → d k = pU k) => cmp_lt hi (fun k _ => pU_lt k) h (fun k h1 h2 => (ha k h1 h2).symm)
  have Heq := fun (h : ∀ k, k < 16 → d k = pU k) => cmp_eq h
  rw [pU_sum] at Hlt Hgt Heq
  have HLT := Lib.hid Hlt
  have HGT := Lib.hid Hgt
  have HEQ := Lib.hid Heq
  clear Hlt Hgt Heq hd
  go_enter Try.func47, Try.ntmps47
  go_wp2_with fail
  go_loopw [3] (fun i wr => ∃ n : Nat, n ≤ 16 ∧ i = .int .i64 ((n : Int) - 1) ∧ Hid (∀ k, n ≤ k → k < 16 → d k = pU k) ∧ Ms w wr [(w.heap.size, 47, numC d)]) (fun i _ => (intOf i + 1).toNat)
  case atStart => exact ⟨16, by omega, rfl, Lib.hid (fun k h1 h2 => by omega), hM0⟩
  case round =>
    clear hM0
    obtain ⟨n, hn, rfl, Hall, hM⟩ := hrel
    by_cases h0 : n = 0
    · subst h0
      have Hans := Lib.hid (HEQ.out (fun k hk => Hall.out k (by omega) hk))
      rw [show ((0 : Nat) : Int) - 1 = -1 from rfl]
      go_wp2_with fail
      go_ret
      exact ⟨by rw [decide_eq_false (by rw [Hans.out]; omega)]; rfl, hM.old⟩
    · obtain ⟨m, rfl⟩ : ∃ m, n = m + 1 := ⟨n - 1, by omega⟩
      rw [show ((m + 1 : Nat) : Int) - 1 = (m : Int) by omega]
      have hm16 : m < 16 := by omega
      have Hm16 := Lib.hid hm16
      have hp := fun wx => p_any m wx hm16
      have hc := (hM.get 0 rfl).cell (numC_at d hm16)
      have hkeep : ∀ wx : World, Below wr.heap.size wr wx → wx.cell? ⟨w.heap.size, m, none⟩ = some (.int .u64 ((d m : Nat) : Int)) := fun wx hb => ((hM.get 0 rfl).call hb).cell (numC_at d hm16)
      have j0 : 0 ≤ (m : Int) := by omega
      have j1 : (m : Int) < 16 := by omega
      have HM := Lib.hid hM
      by_cases he : d m = pU m
      · have Hall2 := Lib.hid (show ∀ k, m ≤ k → k < 16 → d k = pU k from fun k h1 h2 => by
          rcases Nat.lt_or_ge m k with h | h
          · exact Hall.out k (by omega) h2
          · obtain rfl : k = m := by omega
            exact he)
        have hne : (((d m : Nat) : Int) != ((pU m : Nat) : Int)) = false := by rw [he]; simp
        clear he hM hc hm16 h0
        generalize d m = x at *
        generalize pU m = y at *
        go_wp2_with fail
        go_region_held3 (fun wx : World => wx.cell? ⟨w.heap.size, m, none⟩ = some (.int .u64 (x : Int)))
          ((refine hkeep _ ?_; (repeat (first | exact c_refl _ | refine c_drew ?_ | refine c_alloc ?_ _ | refine c_call ?_ (by assumption))); done))
          (with_reducible refine (hp _).mono ?_; rintro e wq ⟨rfl, rfl⟩)
        have hM2 := HM.out.drew
        clear hkeep
        go_wp2_with fail
        exact ⟨⟨m, by omega, by go_num, Hall2, hM2⟩, by simp [intOf]⟩
      · have hne : (((d m : Nat) : Int) != ((pU m : Nat) : Int)) = true := by rw [bne_iff_ne]; omega
        have Hall3 := Lib.hid (show ∀ k, m < k → k < 16 → d k = pU k from fun k h1 h2 => Hall.out k (by omega) h2)
        by_cases hlt : d m < pU m
        · have hls : decide (d m < pU m) = true := decide_eq_true hlt
          have Hans := Lib.hid (HLT.out m hm16 hlt Hall3.out)
          clear he hM hc hm16 h0 hlt
          generalize d m = x at *
          generalize pU m = y at *
          go_wp2_with fail
          go_region_held3 (fun wx : World => wx.cell? ⟨w.heap.size, m, none⟩ = some (.int .u64 (x : Int)))
            ((refine hkeep _ ?_; (repeat (first | exact c_refl _ | refine c_drew ?_ | refine c_alloc ?_ _ | refine c_call ?_ (by assumption))); done))
            (with_reducible refine (hp _).mono ?_; rintro e wq ⟨rfl, rfl⟩)
          go_wp2_with fail
          go_region_held3 (fun wx : World => wx.cell? ⟨w.heap.size, m, none⟩ = some (.int .u64 (x : Int)))
            ((refine hkeep _ ?_; (repeat (first | exact c_refl _ | refine c_drew ?_ | refine c_alloc ?_ _ | refine c_call ?_ (by assumption))); done))
            (with_reducible refine (hp _).mono ?_; rintro e wq ⟨rfl, rfl⟩)
          have hM2 := HM.out.drew.drew
          clear hkeep
          go_wp2_with fail
          go_ret
          exact ⟨by rw [decide_eq_true Hans.out]; rfl, hM2.old⟩
        · have hls : decide (d m < pU m) = false := decide_eq_false hlt
          have Hans := Lib.hid (HGT.out m hm16 (by omega) Hall3.out)
          clear he hM hc hm16 h0 hlt
          generalize d m = x at *
          generalize pU m = y at *
          go_wp2_with fail
          go_region_held3 (fun wx : World => wx.cell? ⟨w.heap.size, m, none⟩ = some (.int .u64 (x : Int)))
            ((refine hkeep _ ?_; (repeat (first | exact c_refl _ | refine c_drew ?_ | refine c_alloc ?_ _ | refine c_call ?_ (by assumption))); done))
            (with_reducible refine (hp _).mono ?_; rintro e wq ⟨rfl, rfl⟩)
          go_wp2_with fail
          go_region_held3 (fun wx : World => wx.cell? ⟨w.heap.size, m, none⟩ = some (.int .u64 (x : Int)))
            ((refine hkeep _ ?_; (repeat (first | exact c_refl _ | refine c_drew ?_ | refine c_alloc ?_ _ | refine c_call ?_ (by assumption))); done))
            (with_reducible refine (hp _).mono ?_; rintro e wq ⟨rfl, rfl⟩)
          have hM2 := HM.out.drew.drew
          clear hkeep
          go_wp2_with fail
          go_ret
          exact ⟨by rw [decide_eq_false (by have := Hans.out; omega)]; rfl, hM2.old⟩

end Go.Proofs.Ytimgnpcojamafaa
