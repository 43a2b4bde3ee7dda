/-
  CONTRACTS of the document's Mul, Square, Invert (coterieref05).
-/
import Derived.Test.YtimgnpcojamafaaRefFeB
set_option linter.unusedVariables false
namespace Go.Proofs.Ytimgnpcojamafaa
open Go.RowKit

/-- t more at part m -/
def addAt (r : Nat → Nat) (m t j : Nat) : Nat := if j = m then r j + t else r j
theorem addAt_far (r : Nat → Nat) {m t : Nat} : ∀ n, n ≤ m → sumF (addAt r m t) n = sumF r n := fun n hn => sumF_congr n (fun k hk => by rw [addAt, if_neg (by omega)])
theorem addAt_sum (r : Nat → Nat) {m t : Nat} : ∀ n, m < n → sumF (addAt r m t) n = sumF r n + t * 65536 ^ m
  | 0, h => by omega
  | n + 1, h => by
    have e1 : sumF (addAt r m t) (n + 1) = sumF (addAt r m t) n + addAt r m t n * 65536 ^ n := rfl
    have e2 : sumF r (n + 1) = sumF r n + r n * 65536 ^ n := rfl
    rw [e1, e2]
    rcases Nat.lt_or_ge m n with hlt | hge
    · rw [addAt_sum r n hlt, addAt, if_neg (by omega)]
      omega
    · obtain rfl : m = n := by omega
      rw [addAt_far r m (Nat.le_refl _), addAt, if_pos rfl, Nat.add_mul]
      omega
theorem wC_add (r : Nat → Nat) {m : Nat} (hm : m < 32) (t : Nat) : (wC r).setIfInBounds m (.int .u64 ((r m + t : Nat) : Int)) = wC (addAt r m t) := by
  rw [wC, qC_set]
  refine congrArg qC ?_
  apply List.ext_getElem?
  intro k
  by_cases hk : k < 32
  · rw [List.getElem?_set]
    by_cases h : m = k
    · subst h
      simp [hk, addAt]
    · rw [if_neg h]
      simp [hk, addAt, Ne.symm h]
  · rw [List.getElem?_eq_none (by simp; omega), List.getElem?_eq_none (by simp; omega)]
theorem sizeWF (d : Nat → Nat) : (Try.prog.info? 65).map (·.size) = some (wC d).size := by
  rw [wC_size]
  kernel_rfl
theorem sum_zero : ∀ n, sumF (fun _ => 0) n = 0
  | 0 => rfl
  | n + 1 => by rw [sumF, sum_zero n]; simp
theorem P25_lt16 {v : Nat} (h : v < P25) : v < 65536 ^ 16 := Nat.lt_trans h (by decide +kernel)

/-- what the rows of a product are bounded by -/
def BndF (r : Nat → Nat) (i k : Nat) : Prop := ∀ j, j < 32 → r j ≤ (i + (if j < i + k then 1 else 0)) * 4294967296
theorem BndF.step {r : Nat → Nat} {i k t : Nat} (h : BndF r i k) (hk : k < 16) (ht : t ≤ 4294836225) : BndF (addAt r (i + k) t) i (k + 1) := fun j hj => by
  have h1 := h j hj
  unfold addAt
  by_cases he : j = i + k
  · subst he
    rw [if_neg (by omega)] at h1
    rw [if_pos rfl, if_pos (by omega)]
    omega
  · rw [if_neg he]
    by_cases hl : j < i + k
    · rw [if_pos hl] at h1
      rw [if_pos (by omega)]
      exact h1
    · rw [if_neg hl] at h1
      rw [if_neg (by omega)]
      exact h1
theorem BndF.next {r : Nat → Nat} {i : Nat} (h : BndF r i 16) : BndF r (i + 1) 0 := fun j hj => by
  have h1 := h j hj
  have h2 : i + (if j < i + 16 then 1 else 0) ≤ i + 1 := by split <;> omega
  exact Nat.le_trans h1 (Nat.mul_le_mul_right _ (Nat.le_trans h2 (Nat.le_add_right _ _)))

set_option maxRecDepth 100000 in
set_option maxHeartbeats 8000000 in
theorem Mul_num (a b : Nat → Nat) (w : World) (ha : ∀ k, k < 16 → a k < 65536) (hb : ∀ k, k < 16 → b k < 65536) :
    Calls Try.prog 29 #[.agg (numC a), .agg (numC b)] w fun e w' => e = .returned (.agg (numC (numF (sumF a 16 * sumF b 16 % P25)))) ∧ Below w.heap.size w w' := by
  have hM0 := ((((Ms.nil w).box 47 (numC a)).box 47 (numC b)).box 47 ZN).box 65 (wC (fun _ => 0))
  simp only [World.size_alloc] at hM0
  obtain ⟨SB, hSB⟩ : ∃ S, S = sumF b 16 := ⟨_, rfl⟩
  obtain ⟨SA, hSA⟩ : ∃ S, S = sumF a 16 := ⟨_, rfl⟩
  rw [← hSA, ← hSB]
  have HSA := Lib.hid hSA
  have HSB := Lib.hid hSB
  clear hSA hSB
  have HA := Lib.hid ha
  have HB := Lib.hid hb
  have Hs := Lib.hid (sizeNum a)
  have Hs2 := Lib.hid (sizeNum b)
  have Hia := fun k (hk : k < 16) => Lib.hid (numC_at a hk)
  have Hib := fun k (hk : k < 16) => Lib.hid (numC_at b hk)
  clear ha hb
  generalize numC a = ca at *
  generalize numC b = cb at *
  obtain ⟨i0, hi0⟩ := quad_info
  have hW0 : wC (fun _ => 0) = #[.int .u64 0, .int .u64 0, .int .u64 0, .int .u64 0, .int .u64 0, .int .u64 0, .int .u64 0, .int .u64 0, .int .u64 0, .int .u64 0, .int .u64 0, .int .u64 0, .int .u64 0, .int .u64 0, .int .u64 0, .int .u64 0, .int .u64 0, .int .u64 0, .int .u64 0, .int .u64 0, .int .u64 0, .int .u64 0, .int .u64 0, .int .u64 0, .int .u64 0, .int .u64 0, .int .u64 0, .int .u64 0, .int .u64 0, .int .u64 0, .int .u64 0, .int .u64 0] := by kernel_rfl
  have HW0 := Lib.hid hW0
  rw [hW0] at hM0
  clear hW0
  have hZN : ZN = #[.int .u64 0, .int .u64 0, .int .u64 0, .int .u64 0, .int .u64 0, .int .u64 0, .int .u64 0, .int .u64 0, .int .u64 0, .int .u64 0, .int .u64 0, .int .u64 0, .int .u64 0, .int .u64 0, .int .u64 0, .int .u64 0] := rfl
  have HZN := Lib.hid hZN
  rw [hZN] at hM0
  clear hZN
  go_enter Try.func29, Try.ntmps29
  go_wp2_with ((with_reducible show wpList _ _ _ (⟨some 10, _, _, _, _, _⟩ :: _) _ _); refine wpList_loadC (by kernel_rfl) 47 (.tmp 2) rfl (w.heap.size) rfl 47 ca _ (hM0.get 3 rfl) Try.underlying47 rfl Hs.out ?_)
  go_loopw [11] (fun i wr => ∃ (n : Nat) (r : Nat → Nat), n ≤ 16 ∧ i = .int .i64 (n : Int) ∧ Hid (BndF r n 0) ∧ Hid (sumF r 32 = sumF a n * SB) ∧ Ms w wr [(w.heap.size + 1 + 1 + 1, 65, wC r), (w.heap.size + 1 + 1, 47, ZN), (w.heap.size + 1, 47, cb), (w.heap.size, 47, ca)]) (fun i _ => (16 - intOf i).toNat)
  case atStart => exact ⟨0, fun _ => 0, by omega, rfl, Lib.hid (fun j hj => by simp), Lib.hid (by rw [sum_zero, show sumF a 0 = 0 from rfl, Nat.zero_mul]), by rw [HW0.out, HZN.out]; exact hM0⟩
  case round =>
    clear hM0
    obtain ⟨n, r, hn, rfl, HBd, HS, hM⟩ := hrel
    by_cases hlt : n < 16
    · have hix := (Hia n hlt).out
      have hxa := HA.out n hlt
      have Hxa := Lib.hid hxa
      have Hstep := Lib.hid (show sumF a (n + 1) * SB = sumF a n * SB + a n * 65536 ^ n * SB by rw [show sumF a (n + 1) = sumF a n + a n * 65536 ^ n from rfl, Nat.add_mul])
      have j0 : 0 ≤ (n : Int) := by omega
      have j1 : (n : Int) < 16 := by omega
      clear hxa
      generalize a n = x at *
      go_wp2_with (first
        | ((with_reducible show wpList _ _ _ (⟨some 14, _, _, _, _, _⟩ :: _) _ _); refine wpList_index_cell rfl (some 14) rfl 47 (.tmp 10) (.tmp 11) rfl ca rfl n rfl 16 33 Try.underlying47 quad_plain i0 hi0 quadCells _ hix hlt ?_)
        | ((with_reducible show wpList _ _ _ (⟨some 15, _, _, _, _, _⟩ :: _) _ _); refine wpList_loadC (by kernel_rfl) 47 (.tmp 3) rfl (w.heap.size + 1) rfl 47 cb _ (hM.get 2 rfl) Try.underlying47 rfl Hs2.out ?_))
      go_loopw [16] (fun i wr => ∃ (k : Nat) (r : Nat → Nat), k ≤ 16 ∧ i = .int .i64 (k : Int) ∧ Hid (BndF r n k) ∧ Hid (sumF r 32 = sumF a n * SB + x * 65536 ^ n * sumF b k) ∧ Ms w wr [(w.heap.size + 1 + 1 + 1, 65, wC r), (w.heap.size + 1 + 1, 47, ZN), (w.heap.size + 1, 47, cb), (w.heap.size, 47, ca)]) (fun i _ => (16 - intOf i).toNat)
      case atStart => exact ⟨0, r, by omega, rfl, HBd, Lib.hid (by rw [HS.out, show sumF b 0 = 0 from rfl, Nat.mul_zero, Nat.add_zero]), hM⟩
      case round =>
        clear hM HBd HS hix
        obtain ⟨k, r, hk, rfl, HBd, HS, hM⟩ := hrel
        by_cases hlk : k < 16
        · have hix := (Hib k hlk).out
          have hy := HB.out k hlk
          have hx := Hxa.out
          have hmul : x * b k ≤ 4294836225 := Nat.mul_le_mul (show x ≤ 65535 by omega) (show b k ≤ 65535 by omega)
          have hr := HBd.out (n + k) (by omega)
          rw [if_neg (by omega)] at hr
          have hm32 : n + k < 32 := by omega
          have hcl := (hM.get 0 rfl).cell (wC_at r hm32)
          have hfl := (hM.get 0 rfl).frozen (n + k)
          have hnew := hM.setCell (by omega) (by simp; omega) (n + k) (.int .u64 ((r (n + k) + x * b k : Nat) : Int))
          rw [wC_add r hm32] at hnew
          have Hnew := Lib.hid hnew
          have Hb2 := Lib.hid (HBd.out.step hlk hmul)
          have Hs3 := Lib.hid (show sumF (addAt r (n + k) (x * b k)) 32 = sumF a n * SB + x * 65536 ^ n * sumF b (k + 1) by
            have e : x * b k * 65536 ^ (n + k) = x * 65536 ^ n * (b k * 65536 ^ k) := by
              rw [Nat.pow_add]
              simp only [Nat.mul_assoc, Nat.mul_left_comm]
            rw [addAt_sum r 32 hm32, HS.out, show sumF b (k + 1) = sumF b k + b k * 65536 ^ k from rfl, Nat.mul_add, e, Nat.add_assoc])
          have hw1 : IntKind.u64.wrap ((x : Int) * ((b k : Nat) : Int)) = ((x * b k : Nat) : Int) := wrap_nat (by simp) (by omega)
          have hw2 : IntKind.u64.wrap (((r (n + k) : Nat) : Int) + ((x * b k : Nat) : Int)) = ((r (n + k) + x * b k : Nat) : Int) := wrap_nat (by simp) (by omega)
          have hw3 : IntKind.i64.wrap ((n : Int) + (k : Int)) = ((n + k : Nat) : Int) := by rw [IntKind.wrap_i64]; omega
          have k0 : 0 ≤ (k : Int) := by omega
          have k1 : (k : Int) < 16 := by omega
          have k2 : 0 ≤ ((n + k : Nat) : Int) := by omega
          have k3 : ((n + k : Nat) : Int) < 32 := by omega
          clear hy hx hmul hr hm32 hM hnew j0 j1
          have Hn := Lib.hid hn
          clear hn
          generalize hA : addAt r (n + k) (x * b k) = r2 at *
          have HA2 := Lib.hid hA
          clear hA
          generalize r (n + k) + x * b k = s2 at *
          generalize x * b k = s1 at *
          generalize r (n + k) = s0 at *
          generalize n + k = m at *
          generalize b k = y at *
          go_wp2_with ((with_reducible show wpList _ _ _ (⟨some 19, _, _, _, _, _⟩ :: _) _ _); refine wpList_index_cell rfl (some 19) rfl 47 (.tmp 15) (.tmp 16) rfl cb rfl k rfl 16 33 Try.underlying47 quad_plain i0 hi0 quadCells _ hix hlk ?_)
          exact ⟨⟨k + 1, r2, by omega, by go_num, Hb2, Hs3, Hnew.out⟩, by simp [intOf]; omega⟩
        · obtain rfl : k = 16 := by omega
          rw [show ((16 : Nat) : Int) = 16 from rfl]
          go_wp2_with fail
          exact ⟨⟨n + 1, r, by omega, by go_num, Lib.hid HBd.out.next, Lib.hid (by rw [HS.out, Hstep.out, HSB.out]), hM⟩, by simp [intOf]; omega⟩
    · obtain rfl : n = 16 := by omega
      rw [show ((16 : Nat) : Int) = 16 from rfl]
      have hf := fun wx => Fold_any r wx (fun k hk => by
        have h1 := HBd.out k hk
        split at h1 <;> omega)
      rw [HS.out, ← HSA.out] at hf
      have hs := Lib.hid (sizeNum (numF (SA * SB % P25)))
      have ho := Lib.hid (one_num (numF (SA * SB % P25)))
      have hz := Lib.hid (show ZN.size = (numC (numF (SA * SB % P25))).size by rw [numC_size]; rfl)
      generalize hfa : numC (numF (SA * SB % P25)) = fa at *
      have Hfa := Lib.hid hfa
      clear hfa HBd HS
      go_wp2_with ((with_reducible show wpList _ _ _ (⟨some 32, _, _, _, _, _⟩ :: _) _ _); refine wpList_loadC (by kernel_rfl) 65 (.tmp 5) rfl (w.heap.size + 1 + 1 + 1) rfl 65 (wC r) _ (hM.get 0 rfl) Try.underlying65 rfl (sizeWF r) ?_)
      refine (hf _).mono ?_
      rintro e w5 ⟨rfl, hb5⟩
      have hM5 := hM.call hb5
      clear hM hb5 hf
      go_wp2_with ((with_reducible show wpList _ _ _ (⟨none, Op.store 47 _ _, _, _, _, _⟩ :: _) _ _); refine wpList_store_row rfl 47 (.tmp 4) (.tmp 33) rfl (w.heap.size + 1 + 1) fa rfl rfl 47 _ (hM5.get 1 rfl) hs.out hz.out ho.out ?_)
      exact bodyPost_ret (results_cell_one rfl _ _ (w.heap.size + 1 + 1) 47 fa _ rfl ((hM5.get 1 rfl).row fa) Try.underlying47 rfl hs.out) rfl ⟨by rw [Hfa.out], below_setRow hM5.old (by omega) _⟩

end Go.Proofs.Ytimgnpcojamafaa
