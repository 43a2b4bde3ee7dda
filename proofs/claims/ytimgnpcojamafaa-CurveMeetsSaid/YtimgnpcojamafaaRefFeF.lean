/-
  CONTRACTS of the document's FromKey, Add, Sub (coterieref05).
-/
import Derived.Test.YtimgnpcojamafaaRefFeE
import Derived.Test.YtimgnpcojamafaaFeBig
set_option linter.unusedVariables false
namespace Go.Proofs.Ytimgnpcojamafaa
open Go.RowKit

/-- what the first bytes stand for, without the highest bit -/
def preK (l : List UInt8) (n : Nat) : Nat := keyV l % 256 ^ n % 57896044618658097711785492504343953926634992332820282019728792003956564819968
def addK (l : List UInt8) (n : Nat) : Nat := if n = 31 then 256 * ((byteK l n).toNat % 128) else if n % 2 = 1 then 256 * (byteK l n).toNat else (byteK l n).toNat
theorem pow2 (n : Nat) : (256 : Nat) ^ n = 65536 ^ (n / 2) * 256 ^ (n % 2) := by
  rw [show (65536 : Nat) = 256 ^ 2 from rfl, ← Nat.pow_mul, ← Nat.pow_add]
  congr 1
  omega
theorem preK_all {l : List UInt8} (h : l.length = 32) : preK l 32 = keyV l % 57896044618658097711785492504343953926634992332820282019728792003956564819968 := by
  have := keyV_lt l
  rw [h] at this
  rw [preK, Nat.mod_eq_of_lt this]
theorem preK_low (l : List UInt8) {n : Nat} (hn : n < 32) : preK l n = keyV l % 256 ^ n := by
  refine Nat.mod_eq_of_lt (Nat.lt_of_lt_of_le (Nat.mod_lt _ (Nat.pow_pos (by omega))) (Nat.le_trans (Nat.pow_le_pow_right (by omega) (show n ≤ 31 by omega)) (by decide +kernel)))
theorem cut_top {X y x : Nat} (h : y < X) : (y + X * x) % (X * 128) = y + X * (x % 128) := by
  rw [Nat.mod_mul, Nat.add_mul_mod_self_left, Nat.mod_eq_of_lt h, Nat.add_mul_div_left _ _ (by omega), Nat.div_eq_of_lt h, Nat.zero_add]
theorem preK_succ {l : List UInt8} (h : l.length = 32) {n : Nat} (hn : n < 32) : preK l (n + 1) = preK l n + addK l n * 65536 ^ (n / 2) := by
  have e : keyV l % 256 ^ (n + 1) = keyV l % 256 ^ n + 256 ^ n * (byteK l n).toNat := by rw [Nat.pow_succ, Nat.mod_mul, byteK_val (by omega)]
  have hx := (byteK l n).toBitVec.isLt
  have hx2 : (byteK l n).toNat < 256 := hx
  by_cases h31 : n = 31
  · subst h31
    have h1 : keyV l % 256 ^ 31 < 256 ^ 31 := Nat.mod_lt _ (Nat.pow_pos (by omega))
    rw [preK_low l (n := 31) (by omega), preK, e, addK, if_pos rfl, show 31 / 2 = 15 from rfl,
      show (57896044618658097711785492504343953926634992332820282019728792003956564819968 : Nat) = 256 ^ 31 * 128 from by decide +kernel, cut_top h1,
      show (256 : Nat) ^ 31 = 256 * 65536 ^ 15 from by decide +kernel]
    congr 1
    rw [Nat.mul_assoc, Nat.mul_assoc, Nat.mul_comm (65536 ^ 15)]
  · rw [preK_low l (n := n + 1) (by omega), preK_low l (n := n) (by omega), e, addK, if_neg h31]
    congr 1
    rw [pow2 n]
    rcases (show n % 2 = 0 ∨ n % 2 = 1 by omega) with h2 | h2
    · rw [if_neg (by omega), h2, Nat.pow_zero, Nat.mul_one, Nat.mul_comm]
    · rw [if_pos h2, h2, Nat.pow_one, Nat.mul_comm (65536 ^ (n / 2)) 256, Nat.mul_assoc, Nat.mul_assoc, Nat.mul_comm (65536 ^ (n / 2))]
theorem addK_le (l : List UInt8) (n : Nat) : addK l n ≤ 65536 := by
  have hx2 : (byteK l n).toNat < 256 := (byteK l n).toBitVec.isLt
  unfold addK
  split
  · omega
  · split <;> omega
def BndK (r : Nat → Nat) (m : Nat) : Prop := ∀ j, j < 32 → r j ≤ m * 65536
theorem BndK.add {r : Nat → Nat} {m q t : Nat} (h : BndK r m) (ht : t ≤ 65536) : BndK (addAt r q t) (m + 1) := fun j hj => by
  have h1 := h j hj
  unfold addAt
  split
  · rw [Nat.add_mul, Nat.one_mul]
    exact Nat.add_le_add h1 ht
  · exact Nat.le_trans h1 (Nat.mul_le_mul_right _ (Nat.le_succ m))

set_option maxRecDepth 100000 in
set_option maxHeartbeats 8000000 in
theorem FromKey_any (l : List UInt8) (w : World) (hl : l.length = 32) :
    Calls Try.prog 25 #[.agg (keyC l)] w fun e w' => e = .returned (.agg (numC (numF (keyV l % 57896044618658097711785492504343953926634992332820282019728792003956564819968 % P25)))) ∧ Below w.heap.size w w' := by
  have hM0 := (((Ms.nil w).box 23 (keyC l)).box 47 ZN).box 65 (wC (fun _ => 0))
  simp only [World.size_alloc] at hM0
  have Hl := Lib.hid hl
  have Hs := Lib.hid (sizeKey hl)
  have Hi := fun k (hk : k < 32) => Lib.hid (keyC_at (byteK_at (l := l) (k := k) (by omega)))
  have Hall := Lib.hid (preK_all hl)
  clear hl
  generalize keyC l = ck at *
  have hkinfo : ∃ i, Try.prog.info? 5 = some i := by
    have h : (Try.prog.info? 5).isSome = true := by kernel_rfl
    exact Option.isSome_iff_exists.1 h
  obtain ⟨i0, hi0⟩ := hkinfo
  have byte_plain : Try.prog.plainKey 5 = true := by kernel_rfl
  have byteCells : Try.prog.cellsOf 5 = 1 := by kernel_rfl
  have HW0 := Lib.hid (show wC (fun _ => 0) = #[.int .u64 0, .int .u64 0, .int .u64 0, .int .u64 0, .int .u64 0, .int .u64 0, .int .u64 0, .int .u64 0, .int .u64 0, .int .u64 0, .int .u64 0, .int .u64 0, .int .u64 0, .int .u64 0, .int .u64 0, .int .u64 0, .int .u64 0, .int .u64 0, .int .u64 0, .int .u64 0, .int .u64 0, .int .u64 0, .int .u64 0, .int .u64 0, .int .u64 0, .int .u64 0, .int .u64 0, .int .u64 0, .int .u64 0, .int .u64 0, .int .u64 0, .int .u64 0] from by kernel_rfl)
  have HZN := Lib.hid (show ZN = #[.int .u64 0, .int .u64 0, .int .u64 0, .int .u64 0, .int .u64 0, .int .u64 0, .int .u64 0, .int .u64 0, .int .u64 0, .int .u64 0, .int .u64 0, .int .u64 0, .int .u64 0, .int .u64 0, .int .u64 0, .int .u64 0] from rfl)
  rw [HW0.out, HZN.out] at hM0
  go_enter Try.func25, Try.ntmps25
  go_wp2_with ((with_reducible show wpList _ _ _ (⟨some 7, _, _, _, _, _⟩ :: _) _ _); refine wpList_loadC (by kernel_rfl) 23 (.tmp 1) rfl (w.heap.size) rfl 23 ck _ (hM0.get 2 rfl) Try.underlying23 rfl Hs.out ?_)
  go_loopw [8] (fun i wr => ∃ (n : Nat) (r : Nat → Nat), n ≤ 32 ∧ i = .int .i64 (n : Int) ∧ Hid (BndK r n) ∧ Hid (sumF r 32 = preK l n) ∧ Ms w wr [(w.heap.size + 1 + 1, 65, wC r), (w.heap.size + 1, 47, ZN), (w.heap.size, 23, ck)]) (fun i _ => (32 - intOf i).toNat)
  case atStart => exact ⟨0, fun _ => 0, by omega, rfl, Lib.hid (fun j hj => by simp), Lib.hid (by rw [sum_zero, preK, Nat.pow_zero, Nat.mod_one]), by rw [HW0.out, HZN.out]; exact hM0⟩
  case round =>
    clear hM0
    obtain ⟨n, r, hn, rfl, HBd, HS, hM⟩ := hrel
    by_cases hlt : n < 32
    · have hix := (Hi n hlt).out
      have hx2 : (byteK l n).toNat < 256 := (byteK l n).toBitVec.isLt
      have hq : n / 2 < 32 := by omega
      have hr := HBd.out _ hq
      have ht := addK_le l n
      have Hs2 := Lib.hid (show sumF (addAt r (n / 2) (addK l n)) 32 = preK l (n + 1) by rw [addAt_sum r 32 hq, HS.out, preK_succ Hl.out hlt])
      have Hb2 := Lib.hid (show BndK (addAt r (n / 2) (addK l n)) (n + 1) from HBd.out.add ht)
      have hnew := hM.setCell (by omega) (by simp; omega) (n / 2) (.int .u64 ((r (n / 2) + addK l n : Nat) : Int))
      rw [wC_add r hq] at hnew
      have Hnew := Lib.hid hnew
      have hcl := (hM.get 0 rfl).cell (wC_at r hq)
      have hfl := (hM.get 0 rfl).frozen (n / 2)
      have Hlt := Lib.hid hlt
      have hdef : addK l n = if n = 31 then 256 * ((byteK l n).toNat % 128) else if n % 2 = 1 then 256 * (byteK l n).toNat else (byteK l n).toNat := rfl
      have hw6 : IntKind.u64.wrap (((r (n / 2) : Nat) : Int) + ((addK l n : Nat) : Int)) = ((r (n / 2) + addK l n : Nat) : Int) := wrap_nat (by simp) (by omega)
      have hwx : IntKind.u64.wrap (((byteK l n).toNat : Nat) : Int) = (((byteK l n).toNat : Nat) : Int) := wrap_nat rfl (by omega)
      have hwh : (n : Int) / 2 = ((n / 2 : Nat) : Int) := by omega
      have j0 : 0 ≤ (n : Int) := by omega
      have j1 : (n : Int) < 32 := by omega
      have j2 : 0 ≤ ((n / 2 : Nat) : Int) := by omega
      have j3 : ((n / 2 : Nat) : Int) < 32 := by omega
      by_cases h31 : n = 31
      · have ht31 : addK l n = 256 * ((byteK l n).toNat % 128) := by rw [hdef, if_pos h31]
        have hb31 : ((n : Int) == 31) = true := by rw [beq_iff_eq]; omega
        have hm2 : (n : Int) % 2 = 1 := by omega
        have hm2t : Int.tmod (n : Int) 2 = 1 := by rw [Int.tmod_eq_emod_of_nonneg (by omega)]; exact hm2
        have hw1 : (((byteK l n).toNat : Nat) : Int) % 128 = (((byteK l n).toNat % 128 : Nat) : Int) := by omega
        have hw1t : Int.tmod (((byteK l n).toNat : Nat) : Int) 128 = (((byteK l n).toNat % 128 : Nat) : Int) := by rw [Int.tmod_eq_emod_of_nonneg (by omega)]; exact hw1
        have hw2 : IntKind.u64.wrap (256 * (((byteK l n).toNat % 128 : Nat) : Int)) = ((addK l n : Nat) : Int) := wrap_nat (by omega) (by omega)
        clear hx2 hq hr ht hnew hM hlt hdef h31 ht31
        generalize addAt r (n / 2) (addK l n) = r2 at *
        generalize r (n / 2) + addK l n = t2 at *
        generalize addK l n = t1 at *
        generalize r (n / 2) = t0 at *
        generalize n / 2 = q at *
        generalize (byteK l n).toNat % 128 = x1 at *
        generalize (byteK l n).toNat = x at *
        go_wp2_with ((with_reducible show wpList _ _ _ (⟨some 11, _, _, _, _, _⟩ :: _) _ _); refine wpList_index_cell rfl (some 11) rfl 23 (.tmp 7) (.tmp 8) rfl ck rfl n rfl 32 5 Try.underlying23 byte_plain i0 hi0 byteCells _ hix (by omega) ?_)
        exact ⟨⟨n + 1, r2, by have := Hlt.out; omega, by go_num, Hb2, Hs2, Hnew.out⟩, by have := Hlt.out; simp [intOf]; omega⟩
      · have hb31 : ((n : Int) == 31) = false := by rw [beq_eq_false_iff_ne]; omega
        by_cases hodd : n % 2 = 1
        · have htO : addK l n = 256 * (byteK l n).toNat := by rw [hdef, if_neg h31, if_pos hodd]
          have hm2 : (n : Int) % 2 = 1 := by omega
          have hm2t : Int.tmod (n : Int) 2 = 1 := by rw [Int.tmod_eq_emod_of_nonneg (by omega)]; exact hm2
          have hw2 : IntKind.u64.wrap (256 * (((byteK l n).toNat : Nat) : Int)) = ((addK l n : Nat) : Int) := wrap_nat (by omega) (by omega)
          clear hx2 hq hr ht hnew hM hlt hdef h31 htO hodd
          generalize addAt r (n / 2) (addK l n) = r2 at *
          generalize r (n / 2) + addK l n = t2 at *
          generalize addK l n = t1 at *
          generalize r (n / 2) = t0 at *
          generalize n / 2 = q at *
          generalize (byteK l n).toNat = x at *
          go_wp2_with ((with_reducible show wpList _ _ _ (⟨some 11, _, _, _, _, _⟩ :: _) _ _); refine wpList_index_cell rfl (some 11) rfl 23 (.tmp 7) (.tmp 8) rfl ck rfl n rfl 32 5 Try.underlying23 byte_plain i0 hi0 byteCells _ hix (by omega) ?_)
          exact ⟨⟨n + 1, r2, by have := Hlt.out; omega, by go_num, Hb2, Hs2, Hnew.out⟩, by have := Hlt.out; simp [intOf]; omega⟩
        · have htE : addK l n = (byteK l n).toNat := by rw [hdef, if_neg h31, if_neg hodd]
          have hm2 : (n : Int) % 2 = 0 := by omega
          have hm2t : Int.tmod (n : Int) 2 = 0 := by rw [Int.tmod_eq_emod_of_nonneg (by omega)]; exact hm2
          have hw6e : IntKind.u64.wrap (((r (n / 2) : Nat) : Int) + (((byteK l n).toNat : Nat) : Int)) = ((r (n / 2) + addK l n : Nat) : Int) := by
            rw [← htE]
            exact hw6
          clear hx2 hq hr ht hnew hM hlt hdef h31 htE hodd
          generalize addAt r (n / 2) (addK l n) = r2 at *
          generalize r (n / 2) + addK l n = t2 at *
          generalize addK l n = t1 at *
          generalize r (n / 2) = t0 at *
          generalize n / 2 = q at *
          generalize (byteK l n).toNat = x at *
          go_wp2_with ((with_reducible show wpList _ _ _ (⟨some 11, _, _, _, _, _⟩ :: _) _ _); refine wpList_index_cell rfl (some 11) rfl 23 (.tmp 7) (.tmp 8) rfl ck rfl n rfl 32 5 Try.underlying23 byte_plain i0 hi0 byteCells _ hix (by omega) ?_)
          exact ⟨⟨n + 1, r2, by have := Hlt.out; omega, by go_num, Hb2, Hs2, Hnew.out⟩, by have := Hlt.out; simp [intOf]; omega⟩
    · obtain rfl : n = 32 := by omega
      rw [show ((32 : Nat) : Int) = 32 from rfl]
      have hf := fun wx => Fold_any r wx (fun k hk => Nat.lt_of_le_of_lt (HBd.out k hk) (by omega))
      rw [HS.out, Hall.out] at hf
      generalize hV : keyV l % 57896044618658097711785492504343953926634992332820282019728792003956564819968 % P25 = V at *
      have HV := Lib.hid hV
      clear hV
      have hs := Lib.hid (sizeNum (numF V))
      have ho := Lib.hid (one_num (numF V))
      have hz := Lib.hid (show ZN.size = (numC (numF V)).size by rw [numC_size]; rfl)
      generalize hfa : numC (numF V) = fa at *
      have Hfa := Lib.hid hfa
      clear hfa HBd HS
      go_wp2_with ((with_reducible show wpList _ _ _ (⟨some 31, _, _, _, _, _⟩ :: _) _ _); refine wpList_loadC (by kernel_rfl) 65 (.tmp 3) rfl (w.heap.size + 1 + 1) rfl 65 (wC r) _ (hM.get 0 rfl) Try.underlying65 rfl (sizeWF r) ?_)
      refine (hf _).mono ?_
      rintro e w5 ⟨rfl, hb5⟩
      have hM5 := hM.call hb5
      clear hM hb5 hf
      go_wp2_with ((with_reducible show wpList _ _ _ (⟨none, Op.store 47 _ _, _, _, _, _⟩ :: _) _ _); refine wpList_store_row rfl 47 (.tmp 2) (.tmp 32) rfl (w.heap.size + 1) fa rfl rfl 47 _ (hM5.get 1 rfl) hs.out hz.out ho.out ?_)
      exact bodyPost_ret (results_cell_one rfl _ _ (w.heap.size + 1) 47 fa _ rfl ((hM5.get 1 rfl).row fa) Try.underlying47 rfl hs.out) rfl ⟨by rw [HV.out, Hfa.out], below_setRow hM5.old (by omega) _⟩

theorem wmix_set (f : Nat → Nat) (j : Nat) : (wC (mixFe f (fun _ => 0) j)).setIfInBounds j (.int .u64 ((f j : Nat) : Int)) = wC (mixFe f (fun _ => 0) (j + 1)) := by
  have h := uptoN_succ f (fun _ => 0) (m := 32) (j := j)
  rw [wC, qC_set]
  exact congrArg qC h.symm
theorem wmix_zero (f : Nat → Nat) : wC (mixFe f (fun _ => 0) 0) = wC (fun _ => 0) := by
  congr 1
theorem wmix_sum (f : Nat → Nat) : sumF (mixFe f (fun _ => 0) 16) 32 = sumF f 16 := by
  rw [show (32 : Nat) = 16 + 16 from rfl, sumF_split, sumF_congr 16 (g := f) (fun k hk => by rw [mixFe, if_pos hk]), sumF_congr (f := fun k => mixFe f (fun _ => 0) 16 (16 + k)) 16 (g := fun _ => 0) (fun k hk => by simp only [mixFe]; rw [if_neg (by omega)]), sum_zero, Nat.mul_zero, Nat.add_zero]
theorem wmix_lt {f : Nat → Nat} {b : Nat} (h : ∀ k, k < 16 → f k < b) (hb : 0 < b) : ∀ k, k < 32 → mixFe f (fun _ => 0) 16 k < b := fun k hk => by
  unfold mixFe
  split
  · exact h k (by omega)
  · exact hb
theorem sumF_add (f g : Nat → Nat) (n : Nat) : sumF (fun k => f k + g k) n = sumF f n + sumF g n := by
  have := sumF_lin f g 1 n
  simpa using this

set_option maxRecDepth 100000 in
set_option maxHeartbeats 8000000 in
theorem AddN_num (a b : Nat → Nat) (w : World) (ha : ∀ k, k < 16 → a k < 65536) (hb : ∀ k, k < 16 → b k < 65536) :
    Calls Try.prog 41 #[.agg (numC a), .agg (numC b)] w fun e w' => e = .returned (.agg (numC (numF ((sumF a 16 + sumF b 16) % P25)))) ∧ Below w.heap.size w w' := by
  have hM0 := ((((Ms.nil w).box 47 (numC a)).box 47 (numC b)).box 47 ZN).box 65 (wC (fun _ => 0))
  simp only [World.size_alloc] at hM0
  have Hsum := Lib.hid (sumF_add a b 16)
  have HA := Lib.hid ha
  have HB := Lib.hid hb
  have Hia := fun k (hk : k < 16) => Lib.hid (numC_at a hk)
  have Hib := fun k (hk : k < 16) => Lib.hid (numC_at b hk)
  clear ha hb
  generalize numC a = ca at *
  generalize numC b = cb at *
  have HW0 := Lib.hid (show wC (fun _ => 0) = #[.int .u64 0, .int .u64 0, .int .u64 0, .int .u64 0, .int .u64 0, .int .u64 0, .int .u64 0, .int .u64 0, .int .u64 0, .int .u64 0, .int .u64 0, .int .u64 0, .int .u64 0, .int .u64 0, .int .u64 0, .int .u64 0, .int .u64 0, .int .u64 0, .int .u64 0, .int .u64 0, .int .u64 0, .int .u64 0, .int .u64 0, .int .u64 0, .int .u64 0, .int .u64 0, .int .u64 0, .int .u64 0, .int .u64 0, .int .u64 0, .int .u64 0, .int .u64 0] from by kernel_rfl)
  have HZN := Lib.hid (show ZN = #[.int .u64 0, .int .u64 0, .int .u64 0, .int .u64 0, .int .u64 0, .int .u64 0, .int .u64 0, .int .u64 0, .int .u64 0, .int .u64 0, .int .u64 0, .int .u64 0, .int .u64 0, .int .u64 0, .int .u64 0, .int .u64 0] from rfl)
  rw [HW0.out, HZN.out] at hM0
  go_enter Try.func41, Try.ntmps41
  go_wp2_with fail
  go_loopw [7] (fun i wr => ∃ n : Nat, n ≤ 16 ∧ i = .int .i64 (n : Int) ∧ Ms w wr [(w.heap.size + 1 + 1 + 1, 65, wC (mixFe (fun k => a k + b k) (fun _ => 0) n)), (w.heap.size + 1 + 1, 47, ZN), (w.heap.size + 1, 47, cb), (w.heap.size, 47, ca)]) (fun i _ => (16 - intOf i).toNat)
  case atStart => exact ⟨0, by omega, rfl, by rw [wmix_zero, HW0.out, HZN.out]; exact hM0⟩
  case round =>
    clear hM0
    obtain ⟨n, hn, rfl, hM⟩ := hrel
    by_cases hlt : n < 16
    · have hx := HA.out n hlt
      have hy := HB.out n hlt
      have hc1 := fun wx (hb : Below wr.heap.size wr wx) => ((hM.get 3 rfl).call hb).cell (Hia n hlt).out
      have hc2 := fun wx (hb : Below wr.heap.size wr wx) => ((hM.get 2 rfl).call hb).cell (Hib n hlt).out
      have hk1 := fun wx (v : Value) (hb : Below wr.heap.size wr wx) => (((hM.get 3 rfl).call hb).far (p := ⟨w.heap.size + 1 + 1 + 1, n, none⟩) (by simp; omega) v).cell (Hia n hlt).out
      have hk2 := fun wx (v : Value) (hb : Below wr.heap.size wr wx) => (((hM.get 2 rfl).call hb).far (p := ⟨w.heap.size + 1 + 1 + 1, n, none⟩) (by simp) v).cell (Hib n hlt).out
      have hcn := (hM.get 0 rfl).cell (wC_at (mixFe (fun k => a k + b k) (fun _ => 0) n) (show n < 32 by omega))
      have hfn := (hM.get 0 rfl).frozen n
      have hnew := hM.setCell (by omega) (by simp; omega) n (.int .u64 ((a n + b n : Nat) : Int))
      rw [wmix_set (fun k => a k + b k)] at hnew
      have Hnew := Lib.hid hnew.drew
      have hw2 : IntKind.u64.wrap (((a n : Nat) : Int) + ((b n : Nat) : Int)) = ((a n + b n : Nat) : Int) := wrap_nat (by simp) (by omega)
      have j0 : 0 ≤ (n : Int) := by omega
      have j1 : (n : Int) < 16 := by omega
      have j9 : (n : Int) < 32 := by omega
      clear hx hy hnew hM
      generalize a n + b n = s at *
      generalize a n = x at *
      generalize b n = y at *
      go_wp2_with fail
      go_region_held3 (fun wx : World => wx.cell? ⟨w.heap.size, n, none⟩ = some (.int .u64 (x : Int)) ∧ wx.cell? ⟨w.heap.size + 1, n, none⟩ = some (.int .u64 (y : Int)))
        (first
          | (refine ⟨hc1 _ ?_, hc2 _ ?_⟩ <;> ((repeat (first | exact c_refl _ | refine c_drew ?_ | refine c_alloc ?_ _ | refine c_call ?_ (by assumption))); done))
          | (refine ⟨hk1 _ _ ?_, hk2 _ _ ?_⟩ <;> ((repeat (first | exact c_refl _ | refine c_drew ?_ | refine c_alloc ?_ _ | refine c_call ?_ (by assumption))); done)))
        (fail)
      go_wp2_with fail
      exact ⟨⟨n + 1, by omega, by go_num, Hnew.out⟩, by simp [intOf]; omega⟩
    · obtain rfl : n = 16 := by omega
      rw [show ((16 : Nat) : Int) = 16 from rfl]
      have hf := fun wx => Fold_any (mixFe (fun k => a k + b k) (fun _ => 0) 16) wx (wmix_lt (fun k hk => by have := HA.out k hk; have := HB.out k hk; omega) (by omega))
      rw [wmix_sum, Hsum.out] at hf
      generalize hV : (sumF a 16 + sumF b 16) % P25 = V at *
      have HV := Lib.hid hV
      clear hV
      generalize mixFe (fun k => a k + b k) (fun _ => 0) 16 = r at *
      have hs := Lib.hid (sizeNum (numF V))
      have ho := Lib.hid (one_num (numF V))
      have hz := Lib.hid (show ZN.size = (numC (numF V)).size by rw [numC_size]; rfl)
      generalize hfa : numC (numF V) = fa at *
      have Hfa := Lib.hid hfa
      clear hfa
      go_wp2_with ((with_reducible show wpList _ _ _ (⟨some 20, _, _, _, _, _⟩ :: _) _ _); refine wpList_loadC (by kernel_rfl) 65 (.tmp 5) rfl (w.heap.size + 1 + 1 + 1) rfl 65 (wC r) _ (hM.get 0 rfl) Try.underlying65 rfl (sizeWF r) ?_)
      refine (hf _).mono ?_
      rintro e w5 ⟨rfl, hb5⟩
      have hM5 := hM.call hb5
      clear hM hb5 hf
      go_wp2_with ((with_reducible show wpList _ _ _ (⟨none, Op.store 47 _ _, _, _, _, _⟩ :: _) _ _); refine wpList_store_row rfl 47 (.tmp 4) (.tmp 21) rfl (w.heap.size + 1 + 1) fa rfl rfl 47 _ (hM5.get 1 rfl) hs.out hz.out ho.out ?_)
      exact bodyPost_ret (results_cell_one rfl _ _ (w.heap.size + 1 + 1) 47 fa _ rfl ((hM5.get 1 rfl).row fa) Try.underlying47 rfl hs.out) rfl ⟨by rw [HV.out, Hfa.out], below_setRow hM5.old (by omega) _⟩

/-- the prime less a number, part by part -/
def borG (d : Nat → Nat) : Nat → Nat
  | 0 => 0
  | n + 1 => 1 - (65536 + pU n - d n - borG d n) / 65536
def lesG (d : Nat → Nat) (n : Nat) : Nat := (65536 + pU n - d n - borG d n) % 65536
theorem borG_le (d : Nat → Nat) : ∀ n, borG d n ≤ 1
  | 0 => by simp [borG]
  | n + 1 => by rw [borG]; omega
theorem borG_sum {d : Nat → Nat} : ∀ n, (∀ k, k < n → d k < 65536) → sumF (lesG d) n + sumF d n = sumF pU n + borG d n * 65536 ^ n
  | 0, _ => rfl
  | n + 1, h => by
    have ih := borG_sum n (fun k hk => h k (by omega))
    have h1 := h n (by omega)
    have h2 := pU_lt n
    have h3 := borG_le d n
    have e : lesG d n + d n + borG d n = pU n + 65536 * borG d (n + 1) := by
      rw [lesG, borG]
      omega
    have e2 : borG d (n + 1) * 65536 ^ (n + 1) = 65536 * borG d (n + 1) * 65536 ^ n := by
      rw [Nat.pow_succ]
      simp only [Nat.mul_assoc, Nat.mul_left_comm, Nat.mul_comm]
    have e3 := congrArg (· * 65536 ^ n) e
    simp only [Nat.add_mul] at e3
    rw [sumF, sumF, sumF, e2]
    omega
theorem lesG_lt (d : Nat → Nat) (n : Nat) : lesG d n < 65536 := Nat.mod_lt _ (by omega)
theorem lesG_sum {d : Nat → Nat} (h : ∀ k, k < 16 → d k < 65536) (hp : sumF d 16 ≤ P25) : sumF (lesG d) 16 = P25 - sumF d 16 := by
  have h1 := borG_sum 16 h
  rw [pU_sum] at h1
  have := les_gen h1 (borG_le d 16) (sumF_lt 16 (fun k _ => lesG_lt d k)) hp
  omega

set_option maxRecDepth 100000 in
set_option maxHeartbeats 8000000 in
theorem SubN_num (a b : Nat → Nat) (w : World) (ha : ∀ k, k < 16 → a k < 65536) (hb : ∀ k, k < 16 → b k < 65536) (hp : sumF b 16 ≤ P25) :
    Calls Try.prog 40 #[.agg (numC a), .agg (numC b)] w fun e w' => e = .returned (.agg (numC (numF ((sumF a 16 + (P25 - sumF b 16)) % P25)))) ∧ Below w.heap.size w w' := by
  have hM0 := ((((Ms.nil w).box 47 (numC a)).box 47 (numC b)).box 47 ZN).box 65 (wC (fun _ => 0))
  simp only [World.size_alloc] at hM0
  have Hsum := Lib.hid (show sumF (fun k => a k + lesG b k) 16 = sumF a 16 + (P25 - sumF b 16) by rw [sumF_add, lesG_sum hb hp])
  have HA := Lib.hid ha
  have HB := Lib.hid hb
  have Hia := fun k (hk : k < 16) => Lib.hid (numC_at a hk)
  have Hib := fun k (hk : k < 16) => Lib.hid (numC_at b hk)
  clear ha hb hp
  generalize numC a = ca at *
  generalize numC b = cb at *
  have HW0 := Lib.hid (show wC (fun _ => 0) = #[.int .u64 0, .int .u64 0, .int .u64 0, .int .u64 0, .int .u64 0, .int .u64 0, .int .u64 0, .int .u64 0, .int .u64 0, .int .u64 0, .int .u64 0, .int .u64 0, .int .u64 0, .int .u64 0, .int .u64 0, .int .u64 0, .int .u64 0, .int .u64 0, .int .u64 0, .int .u64 0, .int .u64 0, .int .u64 0, .int .u64 0, .int .u64 0, .int .u64 0, .int .u64 0, .int .u64 0, .int .u64 0, .int .u64 0, .int .u64 0, .int .u64 0, .int .u64 0] from by kernel_rfl)
  have HZN := Lib.hid (show ZN = #[.int .u64 0, .int .u64 0, .int .u64 0, .int .u64 0, .int .u64 0, .int .u64 0, .int .u64 0, .int .u64 0, .int .u64 0, .int .u64 0, .int .u64 0, .int .u64 0, .int .u64 0, .int .u64 0, .int .u64 0, .int .u64 0] from rfl)
  rw [HW0.out, HZN.out] at hM0
  go_enter Try.func40, Try.ntmps40
  go_wp2_with fail
  go_loopw [6, 9] (fun u i wr => ∃ n : Nat, n ≤ 16 ∧ i = .int .i64 (n : Int) ∧ u = .int .u64 ((borG b n : Nat) : Int) ∧ Ms w wr [(w.heap.size + 1 + 1 + 1, 65, wC (mixFe (fun k => a k + lesG b k) (fun _ => 0) n)), (w.heap.size + 1 + 1, 47, ZN), (w.heap.size + 1, 47, cb), (w.heap.size, 47, ca)]) (fun _ i _ => (16 - intOf i).toNat)
  case atStart => exact ⟨0, by omega, rfl, rfl, by rw [wmix_zero, HW0.out, HZN.out]; exact hM0⟩
  case round =>
    clear hM0
    obtain ⟨n, hn, rfl, rfl, hM⟩ := hrel
    by_cases hlt : n < 16
    · have hpp := fun wx => p_any n wx hlt
      have hx := HA.out n hlt
      have hz := HB.out n hlt
      have hy := pU_lt n
      have hu := borG_le b n
      have hg := lesG_lt b n
      have hkeep := fun wx (hb : Below wr.heap.size wr wx) => ((hM.get 2 rfl).call hb).cell (Hib n hlt).out
      have hca := (hM.get 3 rfl).drew.cell (Hia n hlt).out
      have hcn := (hM.get 0 rfl).drew.cell (wC_at (mixFe (fun k => a k + lesG b k) (fun _ => 0) n) (show n < 32 by omega))
      have hfn := (hM.get 0 rfl).drew.frozen n
      have hnew := hM.drew.setCell (by omega) (by simp; omega) n (.int .u64 ((a n + lesG b n : Nat) : Int))
      rw [wmix_set (fun k => a k + lesG b k)] at hnew
      have Hnew := Lib.hid hnew
      have hw1 : IntKind.u64.wrap (65536 + ((pU n : Nat) : Int)) = ((65536 + pU n : Nat) : Int) := wrap_nat (by simp) (by omega)
      have hw2 : IntKind.u64.wrap (((65536 + pU n : Nat) : Int) - ((b n : Nat) : Int)) = ((65536 + pU n - b n : Nat) : Int) := wrap_nat (by omega) (by omega)
      have hw3 : IntKind.u64.wrap (((65536 + pU n - b n : Nat) : Int) - ((borG b n : Nat) : Int)) = ((65536 + pU n - b n - borG b n : Nat) : Int) := wrap_nat (by omega) (by omega)
      have hw4 : ((65536 + pU n - b n - borG b n : Nat) : Int) % 65536 = ((lesG b n : Nat) : Int) := by rw [lesG]; omega
      have hw4' : Int.tmod ((65536 + pU n - b n - borG b n : Nat) : Int) 65536 = ((lesG b n : Nat) : Int) := by rw [Int.tmod_eq_emod_of_nonneg (by omega)]; exact hw4
      have hw8 : IntKind.u64.wrap (((a n : Nat) : Int) + ((lesG b n : Nat) : Int)) = ((a n + lesG b n : Nat) : Int) := wrap_nat (by simp) (by omega)
      have hdv : (65536 + pU n - b n - borG b n) / 65536 ≤ 1 := by omega
      have hw5 : ((65536 + pU n - b n - borG b n : Nat) : Int) / 65536 = (((65536 + pU n - b n - borG b n) / 65536 : Nat) : Int) := by omega
      have hw6 : IntKind.u64.wrap (1 - (((65536 + pU n - b n - borG b n) / 65536 : Nat) : Int)) = ((borG b (n + 1) : Nat) : Int) := by
        rw [show borG b (n + 1) = 1 - (65536 + pU n - b n - borG b n) / 65536 from rfl]
        exact wrap_nat (by omega) (by omega)
      have hw7 : IntKind.u64.wrap (((65536 + pU n - b n - borG b n) / 65536 : Nat) : Int) = (((65536 + pU n - b n - borG b n) / 65536 : Nat) : Int) := wrap_nat rfl (by omega)
      have j0 : 0 ≤ (n : Int) := by omega
      have j1 : (n : Int) < 16 := by omega
      have j9 : (n : Int) < 32 := by omega
      clear hx hy hz hu hg hM hnew hdv
      generalize hb1 : borG b (n + 1) = b1 at *
      have Hb1 := Lib.hid hb1
      clear hb1
      generalize a n + lesG b n = s at *
      generalize (65536 + pU n - b n - borG b n) / 65536 = dv at *
      generalize lesG b n = le at *
      generalize 65536 + pU n - b n - borG b n = x3 at *
      generalize 65536 + pU n - b n = x2 at *
      generalize 65536 + pU n = x1 at *
      generalize a n = x0 at *
      generalize pU n = y0 at *
      generalize borG b n = b0 at *
      generalize b n = z0 at *
      go_wp2_with fail
      go_region_held3 (fun wy : World => wy.cell? ⟨w.heap.size + 1, n, none⟩ = some (.int .u64 (z0 : Int)))
        ((refine hkeep _ ?_; (repeat (first | exact c_refl _ | refine c_drew ?_ | refine c_alloc ?_ _ | refine c_call ?_ (by assumption))); done))
        (with_reducible refine (hpp _).mono ?_; rintro eq wq ⟨rfl, rfl⟩)
      clear hkeep
      go_wp2_with fail
      exact ⟨⟨n + 1, by omega, by go_num, by rw [Hb1.out], Hnew.out⟩, by simp [intOf]; omega⟩
    · obtain rfl : n = 16 := by omega
      rw [show ((16 : Nat) : Int) = 16 from rfl]
      have hf := fun wx => Fold_any (mixFe (fun k => a k + lesG b k) (fun _ => 0) 16) wx (wmix_lt (fun k hk => by have := HA.out k hk; have := lesG_lt b k; omega) (by omega))
      rw [wmix_sum, Hsum.out] at hf
      generalize hV : (sumF a 16 + (P25 - sumF b 16)) % P25 = V at *
      have HV := Lib.hid hV
      clear hV
      generalize mixFe (fun k => a k + lesG b k) (fun _ => 0) 16 = r at *
      have hs := Lib.hid (sizeNum (numF V))
      have ho := Lib.hid (one_num (numF V))
      have hz := Lib.hid (show ZN.size = (numC (numF V)).size by rw [numC_size]; rfl)
      generalize hfa : numC (numF V) = fa at *
      have Hfa := Lib.hid hfa
      clear hfa
      go_wp2_with ((with_reducible show wpList _ _ _ (⟨some 33, _, _, _, _, _⟩ :: _) _ _); refine wpList_loadC (by kernel_rfl) 65 (.tmp 5) rfl (w.heap.size + 1 + 1 + 1) rfl 65 (wC r) _ (hM.get 0 rfl) Try.underlying65 rfl (sizeWF r) ?_)
      refine (hf _).mono ?_
      rintro e w5 ⟨rfl, hb5⟩
      have hM5 := hM.call hb5
      clear hM hb5 hf
      go_wp2_with ((with_reducible show wpList _ _ _ (⟨none, Op.store 47 _ _, _, _, _, _⟩ :: _) _ _); refine wpList_store_row rfl 47 (.tmp 4) (.tmp 34) rfl (w.heap.size + 1 + 1) fa rfl rfl 47 _ (hM5.get 1 rfl) hs.out hz.out ho.out ?_)
      exact bodyPost_ret (results_cell_one rfl _ _ (w.heap.size + 1 + 1) 47 fa _ rfl ((hM5.get 1 rfl).row fa) Try.underlying47 rfl hs.out) rfl ⟨by rw [HV.out, Hfa.out], below_setRow hM5.old (by omega) _⟩

theorem numF_may {v : Nat} (h : v < P25) : sumF (numF v) 16 = v := num_sum (P25_lt16 h)
theorem AddN_nv (x y : Nat) (w : World) (hx : x < P25) (hy : y < P25) :
    Calls Try.prog 41 #[.agg (numC (numF x)), .agg (numC (numF y))] w fun e w' => e = .returned (.agg (numC (numF ((x + y) % P25)))) ∧ Below w.heap.size w w' := by
  have := AddN_num (numF x) (numF y) w (fun k _ => numF_lt x k) (fun k _ => numF_lt y k)
  rwa [numF_may hx, numF_may hy] at this
theorem SubN_nv (x y : Nat) (w : World) (hx : x < P25) (hy : y < P25) :
    Calls Try.prog 40 #[.agg (numC (numF x)), .agg (numC (numF y))] w fun e w' => e = .returned (.agg (numC (numF ((x + (P25 - y)) % P25)))) ∧ Below w.heap.size w w' := by
  have := SubN_num (numF x) (numF y) w (fun k _ => numF_lt x k) (fun k _ => numF_lt y k) (by rw [numF_may hy]; omega)
  rwa [numF_may hx, numF_may hy] at this

end Go.Proofs.Ytimgnpcojamafaa
