/-
  CONTRACTS of the document's Square, Invert (coterieref05).
-/
import Derived.Test.YtimgnpcojamafaaRefFeC
set_option linter.unusedVariables false
namespace Go.Proofs.Ytimgnpcojamafaa
open Go.RowKit

theorem Mul_nv (u v : Nat) (w : World) (hu : u < P25) (hv : v < P25) :
    Calls Try.prog 29 #[.agg (numC (numF u)), .agg (numC (numF v))] w fun e w' => e = .returned (.agg (numC (numF (u * v % P25)))) ∧ Below w.heap.size w w' := by
  have h := Mul_num (numF u) (numF v) w (fun k _ => numF_lt u k) (fun k _ => numF_lt v k)
  rwa [num_sum (P25_lt16 hu), num_sum (P25_lt16 hv)] at h
theorem num_same (a b : Nat → Nat) : (numC a).size = (numC b).size := by rw [numC_size, numC_size]
theorem num_zero (a : Nat → Nat) : (#[.int .u64 0, .int .u64 0, .int .u64 0, .int .u64 0, .int .u64 0, .int .u64 0, .int .u64 0, .int .u64 0, .int .u64 0, .int .u64 0, .int .u64 0, .int .u64 0, .int .u64 0, .int .u64 0, .int .u64 0, .int .u64 0] : Array Value).size = (numC a).size := by rw [numC_size]; rfl

def sqN (v : Nat) : Nat → Nat
  | 0 => v
  | n + 1 => sqN v n * sqN v n % P25
theorem sqN_lt {v : Nat} (h : v < P25) : ∀ n, sqN v n < P25
  | 0 => h
  | n + 1 => Nat.mod_lt _ (by decide +kernel)
theorem sqN_val {v : Nat} (h : v < P25) : ∀ n, sqN v n = v ^ 2 ^ n % P25
  | 0 => by rw [sqN, Nat.pow_zero, Nat.pow_one, Nat.mod_eq_of_lt h]
  | n + 1 => by
    rw [sqN, sqN_val h n, ← Nat.mul_mod, ← Nat.pow_add, Nat.pow_succ, Nat.mul_two]

/-- the steps of a power to the prime less two, from the highest bit down -/
def stpN (v o m : Nat) : Nat := if m = 2 ∨ m = 4 then o * o % P25 else o * o % P25 * v % P25
def invN (v : Nat) : Nat → Nat
  | 0 => 1
  | k + 1 => stpN v (invN v k) (254 - k)
def expN : Nat → Nat
  | 0 => 0
  | k + 1 => if 254 - k = 2 ∨ 254 - k = 4 then 2 * expN k else 2 * expN k + 1
theorem expN_all : expN 255 = P25 - 2 := by decide +kernel
theorem invN_val (v : Nat) : ∀ k, invN v k = v ^ expN k % P25
  | 0 => by
    rw [invN, expN, Nat.pow_zero]
    decide +kernel
  | k + 1 => by
    have ih := invN_val v k
    have e : invN v k * invN v k % P25 = v ^ (2 * expN k) % P25 := by rw [ih, ← Nat.mul_mod, ← Nat.pow_add, Nat.two_mul]
    rw [invN, stpN, expN]
    split
    · exact e
    · rw [e, Nat.mod_mul_mod, ← Nat.pow_succ]
theorem invN_lt (v k : Nat) : invN v k < P25 := by rw [invN_val]; exact P25_lt _


theorem one_num1 : #[.int .u64 1, .int .u64 0, .int .u64 0, .int .u64 0, .int .u64 0, .int .u64 0, .int .u64 0, .int .u64 0, .int .u64 0, .int .u64 0, .int .u64 0, .int .u64 0, .int .u64 0, .int .u64 0, .int .u64 0, .int .u64 0] = numC (numF 1) := by kernel_rfl

set_option maxRecDepth 100000 in
set_option maxHeartbeats 4000000 in
theorem InvertN_any (v : Nat) (w : World) (hv : v < P25) :
    Calls Try.prog 30 #[.agg (numC (numF v))] w fun e w' => e = .returned (.agg (numC (numF (invN v 255)))) ∧ Below w.heap.size w w' := by
  have hM0 := (((Ms.nil w).box 47 (numC (numF v))).box 47 #[.int .u64 0, .int .u64 0, .int .u64 0, .int .u64 0, .int .u64 0, .int .u64 0, .int .u64 0, .int .u64 0, .int .u64 0, .int .u64 0, .int .u64 0, .int .u64 0, .int .u64 0, .int .u64 0, .int .u64 0, .int .u64 0]).put 47 #[.int .u64 0, .int .u64 0, .int .u64 0, .int .u64 0, .int .u64 0, .int .u64 0, .int .u64 0, .int .u64 0, .int .u64 0, .int .u64 0, .int .u64 0, .int .u64 0, .int .u64 0, .int .u64 0, .int .u64 0, .int .u64 0] (numC (numF 1))
  simp only [World.size_alloc] at hM0
  have hnew : RowC (((w.alloc (.cells (numC (numF v)) 47)).alloc (.cells #[.int .u64 0, .int .u64 0, .int .u64 0, .int .u64 0, .int .u64 0, .int .u64 0, .int .u64 0, .int .u64 0, .int .u64 0, .int .u64 0, .int .u64 0, .int .u64 0, .int .u64 0, .int .u64 0, .int .u64 0, .int .u64 0] 47)).alloc (.cells #[.int .u64 0, .int .u64 0, .int .u64 0, .int .u64 0, .int .u64 0, .int .u64 0, .int .u64 0, .int .u64 0, .int .u64 0, .int .u64 0, .int .u64 0, .int .u64 0, .int .u64 0, .int .u64 0, .int .u64 0, .int .u64 0] 47)) (w.heap.size + 1 + 1) 47 #[.int .u64 0, .int .u64 0, .int .u64 0, .int .u64 0, .int .u64 0, .int .u64 0, .int .u64 0, .int .u64 0, .int .u64 0, .int .u64 0, .int .u64 0, .int .u64 0, .int .u64 0, .int .u64 0, .int .u64 0, .int .u64 0] := RowC.mk_ _ _ _ (by simp)
  have hp := fun wx k => Mul_nv (invN v k) (invN v k) wx (invN_lt v k) (invN_lt v k)
  have hq := fun wx k => Mul_nv (invN v k * invN v k % P25) v wx (P25_lt _) hv
  have H1 := Lib.hid one_num1
  clear hv
  rw [← H1.out] at hM0
  go_enter Try.func30, Try.ntmps30
  go_wp2_with ((with_reducible show wpList _ _ _ (⟨none, Op.store 47 _ _, _, _, _, _⟩ :: _) _ _); refine wpList_store_row rfl 47 (.tmp 3) (.tmp 5) rfl (w.heap.size + 1 + 1) #[.int .u64 1, .int .u64 0, .int .u64 0, .int .u64 0, .int .u64 0, .int .u64 0, .int .u64 0, .int .u64 0, .int .u64 0, .int .u64 0, .int .u64 0, .int .u64 0, .int .u64 0, .int .u64 0, .int .u64 0, .int .u64 0] rfl rfl 47 _ (hnew) (by rw [H1.out]; exact sizeNum _) rfl (by rw [H1.out]; exact one_num _) ?_)
  go_loopw [4] (fun i wr => ∃ k : Nat, k ≤ 255 ∧ i = .int .i64 (254 - (k : Int)) ∧ Ms w wr [(w.heap.size + 1 + 1, 47, numC (numF (invN v k))), (w.heap.size + 1, 47, #[.int .u64 0, .int .u64 0, .int .u64 0, .int .u64 0, .int .u64 0, .int .u64 0, .int .u64 0, .int .u64 0, .int .u64 0, .int .u64 0, .int .u64 0, .int .u64 0, .int .u64 0, .int .u64 0, .int .u64 0, .int .u64 0]), (w.heap.size, 47, numC (numF v))]) (fun i _ => (intOf i + 1).toNat)
  case atStart => exact ⟨0, by omega, rfl, by rw [show invN v 0 = 1 from rfl, ← H1.out]; exact hM0⟩
  case round =>
    clear hM0 hnew
    obtain ⟨k, hk, rfl, hM⟩ := hrel
    by_cases hlt : k < 255
    · obtain ⟨m, hm⟩ : ∃ m, m = 254 - k := ⟨_, rfl⟩
      rw [show (254 : Int) - (k : Int) = (m : Int) by omega]
      have hpk := fun wx => hp wx k
      have hqk := fun wx => hq wx k
      have Hinv := Lib.hid (show invN v (k + 1) = stpN v (invN v k) m by rw [invN, hm])
      obtain ⟨s1, hs1⟩ : ∃ s, s = invN v k * invN v k % P25 := ⟨_, rfl⟩
      obtain ⟨s2, hs2⟩ : ∃ s, s = s1 * v % P25 := ⟨_, rfl⟩
      rw [← hs1] at hpk hqk
      rw [← hs2] at hqk
      have Hs1 := Lib.hid hs1
      have Hs2 := Lib.hid hs2
      clear hs1 hs2
      have Hm := Lib.hid hm
      have Hlt := Lib.hid hlt
      have j0 : 0 ≤ (m : Int) := by omega
      have j1 : (m : Int) < 255 := by omega
      have hsub : (m : Int) - 1 = 254 - ((k + 1 : Nat) : Int) := by omega
      have Hsub := Lib.hid hsub
      clear hp hq hm hlt hsub
      have H3 := Lib.hid (fun w2 (hb : Below wr.heap.size wr w2) => (hM.call hb).set (by omega) (by simp; omega) (numC (numF s1)))
      have H2 := Lib.hid (fun w2 (hb : Below wr.heap.size wr w2) => hM.call hb)
      go_wp2_with (first
        | ((with_reducible show wpList _ _ _ (⟨some 10, _, _, _, _, _⟩ :: _) _ _); refine wpList_loadC (by kernel_rfl) 47 (.tmp 3) rfl (w.heap.size + 1 + 1) rfl 47 (numC (numF (invN v k))) _ (hM.get 0 rfl) Try.underlying47 rfl (sizeNum _) ?_)
        | ((with_reducible show wpList _ _ _ (⟨some 11, _, _, _, _, _⟩ :: _) _ _); refine wpList_loadC (by kernel_rfl) 47 (.tmp 3) rfl (w.heap.size + 1 + 1) rfl 47 (numC (numF (invN v k))) _ (hM.get 0 rfl) Try.underlying47 rfl (sizeNum _) ?_))
      refine (hpk _).mono ?_
      rintro e w2 ⟨rfl, hb2⟩
      have hM3 := H3.out w2 hb2
      by_cases hbit : m = 2 ∨ m = 4
      · have hans : invN v (k + 1) = s1 := by rw [Hinv.out, stpN, if_pos hbit, Hs1.out]
        have Hans := Lib.hid hans
        clear hans
        rcases hbit with rfl | rfl
        · rw [show ((2 : Nat) : Int) = 2 from rfl]
          go_wp2_with ((with_reducible show wpList _ _ _ (⟨none, Op.store 47 _ _, _, _, _, _⟩ :: _) _ _); refine wpList_store_row rfl 47 (.tmp 3) (.tmp 12) rfl (w.heap.size + 1 + 1) (numC (numF s1)) rfl rfl 47 _ ((H2.out w2 hb2).get 0 rfl) (sizeNum _) (num_same _ _) (one_num _) ?_)
          exact ⟨⟨k + 1, by have := Hlt.out; omega, by rw [← Hsub.out]; rfl, by rw [Hans.out]; exact hM3⟩, by simp [intOf]⟩
        · rw [show ((4 : Nat) : Int) = 4 from rfl]
          go_wp2_with ((with_reducible show wpList _ _ _ (⟨none, Op.store 47 _ _, _, _, _, _⟩ :: _) _ _); refine wpList_store_row rfl 47 (.tmp 3) (.tmp 12) rfl (w.heap.size + 1 + 1) (numC (numF s1)) rfl rfl 47 _ ((H2.out w2 hb2).get 0 rfl) (sizeNum _) (num_same _ _) (one_num _) ?_)
          exact ⟨⟨k + 1, by have := Hlt.out; omega, by rw [← Hsub.out]; rfl, by rw [Hans.out]; exact hM3⟩, by simp [intOf]⟩
      · have hans : invN v (k + 1) = s2 := by rw [Hinv.out, stpN, if_neg hbit, Hs2.out, Hs1.out]
        have Hans := Lib.hid hans
        have hn2 : ((m : Int) != 2) = true := by rw [bne_iff_ne]; omega
        have hn4 : ((m : Int) != 4) = true := by rw [bne_iff_ne]; omega
        clear hans hbit
        have hw1 : IntKind.i64.wrap ((m : Int) - 1) = (m : Int) - 1 := by rw [IntKind.wrap_i64]; omega
        go_wp2_with (first
          | ((with_reducible show wpList _ _ _ (⟨none, Op.store 47 _ _, _, _, _, _⟩ :: _) _ _); refine wpList_store_row rfl 47 (.tmp 3) (.tmp 12) rfl (w.heap.size + 1 + 1) (numC (numF s1)) rfl rfl 47 _ ((H2.out w2 hb2).get 0 rfl) (sizeNum _) (num_same _ _) (one_num _) ?_)
          | ((with_reducible show wpList _ _ _ (⟨some 19, _, _, _, _, _⟩ :: _) _ _); refine wpList_loadC (by kernel_rfl) 47 (.tmp 3) rfl (w.heap.size + 1 + 1) rfl 47 (numC (numF s1)) _ (hM3.get 0 rfl) Try.underlying47 rfl (sizeNum _) ?_)
          | ((with_reducible show wpList _ _ _ (⟨some 20, _, _, _, _, _⟩ :: _) _ _); refine wpList_loadC (by kernel_rfl) 47 (.tmp 1) rfl (w.heap.size) rfl 47 (numC (numF v)) _ (hM3.get 2 rfl) Try.underlying47 rfl (sizeNum _) ?_))
        refine (hqk _).mono ?_
        rintro e w4 ⟨rfl, hb4⟩
        have hM4 := hM3.call hb4
        have hM5 := hM4.set (by omega) (by simp; omega) (numC (numF s2))
        go_wp2_with ((with_reducible show wpList _ _ _ (⟨none, Op.store 47 _ _, _, _, _, _⟩ :: _) _ _); refine wpList_store_row rfl 47 (.tmp 3) (.tmp 21) rfl (w.heap.size + 1 + 1) (numC (numF s2)) rfl rfl 47 _ (hM4.get 0 rfl) (sizeNum _) (num_same _ _) (one_num _) ?_)
        exact ⟨⟨k + 1, by have := Hlt.out; omega, by rw [← Hsub.out], by rw [Hans.out]; exact hM5⟩, by simp [intOf]; try omega⟩
    · obtain rfl : k = 255 := by omega
      rw [show (254 : Int) - ((255 : Nat) : Int) = -1 from rfl]
      clear hp hq
      go_wp2_with (first
        | ((with_reducible show wpList _ _ _ (⟨some 22, _, _, _, _, _⟩ :: _) _ _); refine wpList_loadC (by kernel_rfl) 47 (.tmp 3) rfl (w.heap.size + 1 + 1) rfl 47 (numC (numF (invN v 255))) _ (hM.get 0 rfl) Try.underlying47 rfl (sizeNum _) ?_)
        | ((with_reducible show wpList _ _ _ (⟨none, Op.store 47 _ _, _, _, _, _⟩ :: _) _ _); refine wpList_store_row rfl 47 (.tmp 2) (.tmp 22) rfl (w.heap.size + 1) (numC (numF (invN v 255))) rfl rfl 47 _ (hM.get 1 rfl) (sizeNum _) (num_zero _) (one_num _) ?_))
      exact bodyPost_ret (results_cell_one rfl _ _ (w.heap.size + 1) 47 _ _ rfl ((hM.get 1 rfl).row _) Try.underlying47 rfl (sizeNum _)) rfl ⟨rfl, below_setRow hM.old (by omega) _⟩

end Go.Proofs.Ytimgnpcojamafaa
