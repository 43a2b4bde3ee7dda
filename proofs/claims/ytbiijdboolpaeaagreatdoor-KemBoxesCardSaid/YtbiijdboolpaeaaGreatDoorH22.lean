import Derived.Test.YtbiijdboolpaeaaGreatDoorH20
import Derived.Test.YtbiijdboolpaeaaGreatDoorH21
import Derived.Test.YtbiijdboolpaeaaGreatDoorH04
import Derived.Laws.Tables
set_option linter.unusedVariables false
namespace Go.Proofs.YtbiijdboolpaeaaGreatDoor
open Go.RowKit
def preK (l : List UInt8) (n : Nat) : Nat := keyV l % 256 ^ n % 57896044618658097711785492504343953926634992332820282019728792003956564819968
def addK (l : List UInt8) (n : Nat) : Nat := if n = 31 then 256 * ((byteK l n).toNat % 128) else if n % 2 = 1 then 256 * (byteK l n).toNat else (byteK l n).toNat
theorem pow2 (n : Nat) : (256 : Nat) ^ n = 65536 ^ (n / 2) * 256 ^ (n % 2) := by
 rw [show (65536 : Nat) = 256 ^ 2 from rfl, ← Nat.pow_mul, ← Nat.pow_add]
 congr 1
 omega
theorem preK_all {l : List UInt8} (h : l.length = 32) : preK l 32 = keyV l % 57896044618658097711785492504343953926634992332820282019728792003956564819968 := by
 have := keyV_lt l
 rw [h] at this
 rw [preK, Nat.mod_eq_of_lt this]
theorem preK_low (l : List UInt8) {n : Nat} (hn : n < 32) : preK l n = keyV l % 256 ^ n := by
 refine Nat.mod_eq_of_lt (Nat.lt_of_lt_of_le (Nat.mod_lt _ (Nat.pow_pos (by omega))) (Nat.le_trans (Nat.pow_le_pow_right (by omega) (show n ≤ 31 by omega)) (by decide +kernel)))
theorem cut_top {X y x : Nat} (h : y < X) : (y + X * x) % (X * 128) = y + X * (x % 128) := by
 rw [Nat.mod_mul, Nat.add_mul_mod_self_left, Nat.mod_eq_of_lt h, Nat.add_mul_div_left _ _ (by omega), Nat.div_eq_of_lt h, Nat.zero_add]
theorem preK_succ {l : List UInt8} (h : l.length = 32) {n : Nat} (hn : n < 32) : preK l (n + 1) = preK l n + addK l n * 65536 ^ (n / 2) := by
 have e : keyV l % 256 ^ (n + 1) = keyV l % 256 ^ n + 256 ^ n * (byteK l n).toNat := by rw [Nat.pow_succ, Nat.mod_mul, byteK_val (by omega)]
 have hx := (byteK l n).toBitVec.isLt
 have hx2 : (byteK l n).toNat < 256 := hx
 by_cases h31 : n = 31
 ·
  subst h31
  have h1 : keyV l % 256 ^ 31 < 256 ^ 31 := Nat.mod_lt _ (Nat.pow_pos (by omega))
  rw [preK_low l (n := 31) (by omega), preK, e, addK, if_pos rfl, show 31 / 2 = 15 from rfl,
   show (57896044618658097711785492504343953926634992332820282019728792003956564819968 : Nat) = 256 ^ 31 * 128 from by decide +kernel, cut_top h1,
   show (256 : Nat) ^ 31 = 256 * 65536 ^ 15 from by decide +kernel]
  congr 1
  rw [Nat.mul_assoc, Nat.mul_assoc, Nat.mul_comm (65536 ^ 15)]
 ·
  rw [preK_low l (n := n + 1) (by omega), preK_low l (n := n) (by omega), e, addK, if_neg h31]
  congr 1
  rw [pow2 n]
  rcases (show n % 2 = 0 ∨ n % 2 = 1 by omega) with h2 | h2
  ·
   rw [if_neg (by omega), h2, Nat.pow_zero, Nat.mul_one, Nat.mul_comm]
  ·
   rw [if_pos h2, h2, Nat.pow_one, Nat.mul_comm (65536 ^ (n / 2)) 256, Nat.mul_assoc, Nat.mul_assoc, Nat.mul_comm (65536 ^ (n / 2))]
theorem addK_le (l : List UInt8) (n : Nat) : addK l n ≤ 65536 := by
 have hx2 : (byteK l n).toNat < 256 := (byteK l n).toBitVec.isLt
 unfold addK
 split
 ·
  omega
 ·
  split <;> omega
def BndK (r : Nat → Nat) (m : Nat) : Prop := ∀ j, j < 32 → r j ≤ m * 65536
theorem BndK.add {r : Nat → Nat} {m q t : Nat} (h : BndK r m) (ht : t ≤ 65536) : BndK (addAt r q t) (m + 1) := fun j hj => by
 have h1 := h j hj
 unfold addAt
 split
 ·
  rw [Nat.add_mul, Nat.one_mul]
  exact Nat.add_le_add h1 ht
 ·
  exact Nat.le_trans h1 (Nat.mul_le_mul_right _ (Nat.le_succ m))
set_option maxRecDepth 100000 in
set_option maxHeartbeats 8000000 in
theorem FromKey_any (l : List UInt8) (w : World) (hl : l.length = 32) :
  Calls Tryz.prog 51 #[.agg (keyC l)] w fun e w' => e = .returned (.agg (numC (numF (keyV l % 57896044618658097711785492504343953926634992332820282019728792003956564819968 % P25)))) ∧ Below w.heap.size w w' := by
 have hM0 := (((Ms.nil w).box 23 (keyC l)).box 68 ZN).box 99 (wC (fun _ => 0))
 simp only [World.size_alloc] at hM0
 have Hl := Lib.hid hl
 have Hs := Lib.hid (sizeKey hl)
 have Hi := fun k (hk : k < 32) => Lib.hid (keyC_at (byteK_at (l := l) (k := k) (by omega)))
 have Hall := Lib.hid (preK_all hl)
 clear hl
 generalize keyC l = ck at *
 have hkinfo : ∃ i, Tryz.prog.info? 5 = some i := by
  have h : (Tryz.prog.info? 5).isSome = true := by kernel_rfl
  exact Option.isSome_iff_exists.1 h
 obtain ⟨i0, hi0⟩ := hkinfo
 have byte_plain : Tryz.prog.plainKey 5 = true := by kernel_rfl
 have byteCells : Tryz.prog.cellsOf 5 = 1 := by kernel_rfl
 have HW0 := Lib.hid (show wC (fun _ => 0) = #[.int .u64 0, .int .u64 0, .int .u64 0, .int .u64 0, .int .u64 0, .int .u64 0, .int .u64 0, .int .u64 0, .int .u64 0, .int .u64 0, .int .u64 0, .int .u64 0, .int .u64 0, .int .u64 0, .int .u64 0, .int .u64 0, .int .u64 0, .int .u64 0, .int .u64 0, .int .u64 0, .int .u64 0, .int .u64 0, .int .u64 0, .int .u64 0, .int .u64 0, .int .u64 0, .int .u64 0, .int .u64 0, .int .u64 0, .int .u64 0, .int .u64 0, .int .u64 0] from by kernel_rfl)
 have HZN := Lib.hid (show ZN = #[.int .u64 0, .int .u64 0, .int .u64 0, .int .u64 0, .int .u64 0, .int .u64 0, .int .u64 0, .int .u64 0, .int .u64 0, .int .u64 0, .int .u64 0, .int .u64 0, .int .u64 0, .int .u64 0, .int .u64 0, .int .u64 0] from rfl)
 rw [HW0.out, HZN.out] at hM0
 go_enter Tryz.func51, Tryz.ntmps51
 go_wp2_with ((with_reducible refine tdQ 7 ?_); refine lcQ 23 (.tmp 1) (w.heap.size) ck (hM0.get 2 rfl) Tryz.underlying23 Hs.out ?_)
 go_loopw [8] (fun i wr => ∃ (n : Nat) (r : Nat → Nat), n ≤ 32 ∧ i = .int .i64 (n : Int) ∧ Hid (BndK r n) ∧ Hid (sumF r 32 = preK l n) ∧ Ms w wr [(w.heap.size + 1 + 1, 99, wC r), (w.heap.size + 1, 68, ZN), (w.heap.size, 23, ck)]) (fun i _ => (32 - intOf i).toNat)
 case atStart => exact ⟨0, fun _ => 0, by omega, rfl, Lib.hid (fun j hj => by simp), Lib.hid (by rw [sum_zero, preK, Nat.pow_zero, Nat.mod_one]), by rw [HW0.out, HZN.out]; exact hM0⟩
 case round =>
  clear hM0
  obtain ⟨n, r, hn, rfl, HBd, HS, hM⟩ := hrel
  by_cases hlt : n < 32
  ·
   have hix := (Hi n hlt).out
   have hx2 : (byteK l n).toNat < 256 := (byteK l n).toBitVec.isLt
   have hq : n / 2 < 32 := by omega
   have hr := HBd.out _ hq
   have ht := addK_le l n
   have Hs2 := Lib.hid (show sumF (addAt r (n / 2) (addK l n)) 32 = preK l (n + 1) by rw [addAt_sum r 32 hq, HS.out, preK_succ Hl.out hlt])
   have Hb2 := Lib.hid (show BndK (addAt r (n / 2) (addK l n)) (n + 1) from HBd.out.add ht)
   have hnew := hM.setCell (by omega) (by simp; omega) (n / 2) (.int .u64 ((r (n / 2) + addK l n : Nat) : Int))
   rw [wC_add r hq] at hnew
   have Hnew := Lib.hid hnew
   have hcl := (hM.get 0 rfl).cell (wC_at r hq)
   have hfl := (hM.get 0 rfl).frozen (n / 2)
   have Hlt := Lib.hid hlt
   have hdef : addK l n = if n = 31 then 256 * ((byteK l n).toNat % 128) else if n % 2 = 1 then 256 * (byteK l n).toNat else (byteK l n).toNat := rfl
   have hw6 : IntKind.u64.wrap (((r (n / 2) : Nat) : Int) + ((addK l n : Nat) : Int)) = ((r (n / 2) + addK l n : Nat) : Int) := wrap_nat (by simp) (by omega)
   have hwx : IntKind.u64.wrap (((byteK l n).toNat : Nat) : Int) = (((byteK l n).toNat : Nat) : Int) := wrap_nat rfl (by omega)
   have hwh : (n : Int) / 2 = ((n / 2 : Nat) : Int) := by omega
   have j0 : 0 ≤ (n : Int) := by omega
   have j1 : (n : Int) < 32 := by omega
   have j2 : 0 ≤ ((n / 2 : Nat) : Int) := by omega
   have j3 : ((n / 2 : Nat) : Int) < 32 := by omega
   by_cases h31 : n = 31
   ·
    have ht31 : addK l n = 256 * ((byteK l n).toNat % 128) := by rw [hdef, if_pos h31]
    have hb31 : ((n : Int) == 31) = true := by rw [beq_iff_eq]; omega
    have hm2 : (n : Int) % 2 = 1 := by omega
    have hm2t : Int.tmod (n : Int) 2 = 1 := by rw [Int.tmod_eq_emod_of_nonneg (by omega)]; exact hm2
    have hw1 : (((byteK l n).toNat : Nat) : Int) % 128 = (((byteK l n).toNat % 128 : Nat) : Int) := by omega
    have hw1t : Int.tmod (((byteK l n).toNat : Nat) : Int) 128 = (((byteK l n).toNat % 128 : Nat) : Int) := by rw [Int.tmod_eq_emod_of_nonneg (by omega)]; exact hw1
    have hw2 : IntKind.u64.wrap (256 * (((byteK l n).toNat % 128 : Nat) : Int)) = ((addK l n : Nat) : Int) := wrap_nat (by omega) (by omega)
    clear hx2 hq hr ht hnew hM hlt hdef h31 ht31
    generalize addAt r (n / 2) (addK l n) = r2 at *
    generalize r (n / 2) + addK l n = t2 at *
    generalize addK l n = t1 at *
    generalize r (n / 2) = t0 at *
    generalize n / 2 = q at *
    generalize (byteK l n).toNat % 128 = x1 at *
    generalize (byteK l n).toNat = x at *
    go_wp2_with ((with_reducible refine tdQ 11 ?_); refine wpList_index_cell rfl (some 11) rfl 23 (.tmp 7) (.tmp 8) rfl ck rfl n rfl 32 5 Tryz.underlying23 byte_plain i0 hi0 byteCells _ hix (by omega) ?_)
    exact ⟨⟨n + 1, r2, by have := Hlt.out; omega, by go_num, Hb2, Hs2, Hnew.out⟩, by have := Hlt.out; simp [intOf]; omega⟩
   ·
    have hb31 : ((n : Int) == 31) = false := by rw [beq_eq_false_iff_ne]; omega
    by_cases hodd : n % 2 = 1
    ·
     have htO : addK l n = 256 * (byteK l n).toNat := by rw [hdef, if_neg h31, if_pos hodd]
     have hm2 : (n : Int) % 2 = 1 := by omega
     have hm2t : Int.tmod (n : Int) 2 = 1 := by rw [Int.tmod_eq_emod_of_nonneg (by omega)]; exact hm2
     have hw2 : IntKind.u64.wrap (256 * (((byteK l n).toNat : Nat) : Int)) = ((addK l n : Nat) : Int) := wrap_nat (by omega) (by omega)
     clear hx2 hq hr ht hnew hM hlt hdef h31 htO hodd
     generalize addAt r (n / 2) (addK l n) = r2 at *
     generalize r (n / 2) + addK l n = t2 at *
     generalize addK l n = t1 at *
     generalize r (n / 2) = t0 at *
     generalize n / 2 = q at *
     generalize (byteK l n).toNat = x at *
     go_wp2_with ((with_reducible refine tdQ 11 ?_); refine wpList_index_cell rfl (some 11) rfl 23 (.tmp 7) (.tmp 8) rfl ck rfl n rfl 32 5 Tryz.underlying23 byte_plain i0 hi0 byteCells _ hix (by omega) ?_)
     exact ⟨⟨n + 1, r2, by have := Hlt.out; omega, by go_num, Hb2, Hs2, Hnew.out⟩, by have := Hlt.out; simp [intOf]; omega⟩
    ·
     have htE : addK l n = (byteK l n).toNat := by rw [hdef, if_neg h31, if_neg hodd]
     have hm2 : (n : Int) % 2 = 0 := by omega
     have hm2t : Int.tmod (n : Int) 2 = 0 := by rw [Int.tmod_eq_emod_of_nonneg (by omega)]; exact hm2
     have hw6e : IntKind.u64.wrap (((r (n / 2) : Nat) : Int) + (((byteK l n).toNat : Nat) : Int)) = ((r (n / 2) + addK l n : Nat) : Int) := by
      rw [← htE]
      exact hw6
     clear hx2 hq hr ht hnew hM hlt hdef h31 htE hodd
     generalize addAt r (n / 2) (addK l n) = r2 at *
     generalize r (n / 2) + addK l n = t2 at *
     generalize addK l n = t1 at *
     generalize r (n / 2) = t0 at *
     generalize n / 2 = q at *
     generalize (byteK l n).toNat = x at *
     go_wp2_with ((with_reducible refine tdQ 11 ?_); refine wpList_index_cell rfl (some 11) rfl 23 (.tmp 7) (.tmp 8) rfl ck rfl n rfl 32 5 Tryz.underlying23 byte_plain i0 hi0 byteCells _ hix (by omega) ?_)
     exact ⟨⟨n + 1, r2, by have := Hlt.out; omega, by go_num, Hb2, Hs2, Hnew.out⟩, by have := Hlt.out; simp [intOf]; omega⟩
  ·
   obtain rfl : n = 32 := by omega
   rw [show ((32 : Nat) : Int) = 32 from rfl]
   have hf := fun wx => Fold_any r wx (fun k hk => Nat.lt_of_le_of_lt (HBd.out k hk) (by omega))
   rw [HS.out, Hall.out] at hf
   generalize hV : keyV l % 57896044618658097711785492504343953926634992332820282019728792003956564819968 % P25 = V at *
   have HV := Lib.hid hV
   clear hV
   have hs := Lib.hid (sizeNum (numF V))
   have ho := Lib.hid (one_num (numF V))
   have hz := Lib.hid (show ZN.size = (numC (numF V)).size by rw [numC_size]; rfl)
   generalize hfa : numC (numF V) = fa at *
   have Hfa := Lib.hid hfa
   clear hfa HBd HS
   go_wp2_with ((with_reducible refine tdQ 31 ?_); refine lcQ 99 (.tmp 3) (w.heap.size + 1 + 1) (wC r) (hM.get 0 rfl) Tryz.underlying99 (sizeWF r) ?_)
   refine (hf _).mono ?_
   rintro e w5 ⟨rfl, hb5⟩
   have hM5 := hM.call hb5
   clear hM hb5 hf
   go_wp2_with ((with_reducible refine tsQ 68 ?_); refine srQ 68 (.tmp 2) (.tmp 32) (w.heap.size + 1) fa _ (hM5.get 1 rfl) hs.out hz.out ho.out ?_)
   exact bodyPost_ret (results_cell_one rfl _ _ (w.heap.size + 1) 68 fa _ rfl ((hM5.get 1 rfl).row fa) Tryz.underlying68 rfl hs.out) rfl ⟨by rw [HV.out, Hfa.out], below_setRow hM5.old (by omega) _⟩
theorem wmix_set (f : Nat → Nat) (j : Nat) : (wC (mixFe f (fun _ => 0) j)).setIfInBounds j (.int .u64 ((f j : Nat) : Int)) = wC (mixFe f (fun _ => 0) (j + 1)) := by
 have h := uptoN_succ f (fun _ => 0) (m := 32) (j := j)
 rw [wC, qC_set]
 exact congrArg qC h.symm
theorem wmix_zero (f : Nat → Nat) : wC (mixFe f (fun _ => 0) 0) = wC (fun _ => 0) := by
 congr 1
theorem wmix_sum (f : Nat → Nat) : sumF (mixFe f (fun _ => 0) 16) 32 = sumF f 16 := by
 rw [show (32 : Nat) = 16 + 16 from rfl, sumF_split, sumF_congr 16 (g := f) (fun k hk => by rw [mixFe, if_pos hk]), sumF_congr (f := fun k => mixFe f (fun _ => 0) 16 (16 + k)) 16 (g := fun _ => 0) (fun k hk => by simp only [mixFe]; rw [if_neg (by omega)]), sum_zero, Nat.mul_zero, Nat.add_zero]
theorem wmix_lt {f : Nat → Nat} {b : Nat} (h : ∀ k, k < 16 → f k < b) (hb : 0 < b) : ∀ k, k < 32 → mixFe f (fun _ => 0) 16 k < b := fun k hk => by
 unfold mixFe
 split
 ·
  exact h k (by omega)
 ·
  exact hb
theorem sumF_add (f g : Nat → Nat) (n : Nat) : sumF (fun k => f k + g k) n = sumF f n + sumF g n := by
 have := sumF_lin f g 1 n
 simpa using this
set_option maxRecDepth 100000 in
set_option maxHeartbeats 8000000 in
theorem AddN_num (a b : Nat → Nat) (w : World) (ha : ∀ k, k < 16 → a k < 65536) (hb : ∀ k, k < 16 → b k < 65536) :
  Calls Tryz.prog 79 #[.agg (numC a), .agg (numC b)] w fun e w' => e = .returned (.agg (numC (numF ((sumF a 16 + sumF b 16) % P25)))) ∧ Below w.heap.size w w' := by
 have hM0 := ((((Ms.nil w).box 68 (numC a)).box 68 (numC b)).box 68 ZN).box 99 (wC (fun _ => 0))
 simp only [World.size_alloc] at hM0
 have Hsum := Lib.hid (sumF_add a b 16)
 have HA := Lib.hid ha
 have HB := Lib.hid hb
 have Hia := fun k (hk : k < 16) => Lib.hid (numC_at a hk)
 have Hib := fun k (hk : k < 16) => Lib.hid (numC_at b hk)
 clear ha hb
 generalize numC a = ca at *
 generalize numC b = cb at *
 have HW0 := Lib.hid (show wC (fun _ => 0) = #[.int .u64 0, .int .u64 0, .int .u64 0, .int .u64 0, .int .u64 0, .int .u64 0, .int .u64 0, .int .u64 0, .int .u64 0, .int .u64 0, .int .u64 0, .int .u64 0, .int .u64 0, .int .u64 0, .int .u64 0, .int .u64 0, .int .u64 0, .int .u64 0, .int .u64 0, .int .u64 0, .int .u64 0, .int .u64 0, .int .u64 0, .int .u64 0, .int .u64 0, .int .u64 0, .int .u64 0, .int .u64 0, .int .u64 0, .int .u64 0, .int .u64 0, .int .u64 0] from by kernel_rfl)
 have HZN := Lib.hid (show ZN = #[.int .u64 0, .int .u64 0, .int .u64 0, .int .u64 0, .int .u64 0, .int .u64 0, .int .u64 0, .int .u64 0, .int .u64 0, .int .u64 0, .int .u64 0, .int .u64 0, .int .u64 0, .int .u64 0, .int .u64 0, .int .u64 0] from rfl)
 rw [HW0.out, HZN.out] at hM0
 go_enter Tryz.func79, Tryz.ntmps79
 go_wp2_with fail
 go_loopw [7] (fun i wr => ∃ n : Nat, n ≤ 16 ∧ i = .int .i64 (n : Int) ∧ Ms w wr [(w.heap.size + 1 + 1 + 1, 99, wC (mixFe (fun k => a k + b k) (fun _ => 0) n)), (w.heap.size + 1 + 1, 68, ZN), (w.heap.size + 1, 68, cb), (w.heap.size, 68, ca)]) (fun i _ => (16 - intOf i).toNat)
 case atStart => exact ⟨0, by omega, rfl, by rw [wmix_zero, HW0.out, HZN.out]; exact hM0⟩
 case round =>
  clear hM0
  obtain ⟨n, hn, rfl, hM⟩ := hrel
  by_cases hlt : n < 16
  ·
   have hx := HA.out n hlt
   have hy := HB.out n hlt
   have hc1 := fun wx (hb : Below wr.heap.size wr wx) => ((hM.get 3 rfl).call hb).cell (Hia n hlt).out
   have hc2 := fun wx (hb : Below wr.heap.size wr wx) => ((hM.get 2 rfl).call hb).cell (Hib n hlt).out
   have hk1 := fun wx (v : Value) (hb : Below wr.heap.size wr wx) => (((hM.get 3 rfl).call hb).far (p := ⟨w.heap.size + 1 + 1 + 1, n, none⟩) (by simp; omega) v).cell (Hia n hlt).out
   have hk2 := fun wx (v : Value) (hb : Below wr.heap.size wr wx) => (((hM.get 2 rfl).call hb).far (p := ⟨w.heap.size + 1 + 1 + 1, n, none⟩) (by simp) v).cell (Hib n hlt).out
   have hcn := (hM.get 0 rfl).cell (wC_at (mixFe (fun k => a k + b k) (fun _ => 0) n) (show n < 32 by omega))
   have hfn := (hM.get 0 rfl).frozen n
   have hnew := hM.setCell (by omega) (by simp; omega) n (.int .u64 ((a n + b n : Nat) : Int))
   rw [wmix_set (fun k => a k + b k)] at hnew
   have Hnew := Lib.hid hnew.drew
   have hw2 : IntKind.u64.wrap (((a n : Nat) : Int) + ((b n : Nat) : Int)) = ((a n + b n : Nat) : Int) := wrap_nat (by simp) (by omega)
   have j0 : 0 ≤ (n : Int) := by omega
   have j1 : (n : Int) < 16 := by omega
   have j9 : (n : Int) < 32 := by omega
   clear hx hy hnew hM
   generalize a n + b n = s at *
   generalize a n = x at *
   generalize b n = y at *
   go_wp2_with fail
   go_region_held3 (fun wx : World => wx.cell? ⟨w.heap.size, n, none⟩ = some (.int .u64 (x : Int)) ∧ wx.cell? ⟨w.heap.size + 1, n, none⟩ = some (.int .u64 (y : Int)))
    (first
     | (refine ⟨hc1 _ ?_, hc2 _ ?_⟩ <;> ((repeat (first | exact c_refl _ | refine c_drew ?_ | refine c_alloc ?_ _ | refine c_call ?_ (by assumption))); done))
     | (refine ⟨hk1 _ _ ?_, hk2 _ _ ?_⟩ <;> ((repeat (first | exact c_refl _ | refine c_drew ?_ | refine c_alloc ?_ _ | refine c_call ?_ (by assumption))); done)))
    (fail)
   go_wp2_with fail
   exact ⟨⟨n + 1, by omega, by go_num, Hnew.out⟩, by simp [intOf]; omega⟩
  ·
   obtain rfl : n = 16 := by omega
   rw [show ((16 : Nat) : Int) = 16 from rfl]
   have hf := fun wx => Fold_any (mixFe (fun k => a k + b k) (fun _ => 0) 16) wx (wmix_lt (fun k hk => by have := HA.out k hk; have := HB.out k hk; omega) (by omega))
   rw [wmix_sum, Hsum.out] at hf
   generalize hV : (sumF a 16 + sumF b 16) % P25 = V at *
   have HV := Lib.hid hV
   clear hV
   generalize mixFe (fun k => a k + b k) (fun _ => 0) 16 = r at *
   have hs := Lib.hid (sizeNum (numF V))
   have ho := Lib.hid (one_num (numF V))
   have hz := Lib.hid (show ZN.size = (numC (numF V)).size by rw [numC_size]; rfl)
   generalize hfa : numC (numF V) = fa at *
   have Hfa := Lib.hid hfa
   clear hfa
   go_wp2_with ((with_reducible refine tdQ 20 ?_); refine lcQ 99 (.tmp 5) (w.heap.size + 1 + 1 + 1) (wC r) (hM.get 0 rfl) Tryz.underlying99 (sizeWF r) ?_)
   refine (hf _).mono ?_
   rintro e w5 ⟨rfl, hb5⟩
   have hM5 := hM.call hb5
   clear hM hb5 hf
   go_wp2_with ((with_reducible refine tsQ 68 ?_); refine srQ 68 (.tmp 4) (.tmp 21) (w.heap.size + 1 + 1) fa _ (hM5.get 1 rfl) hs.out hz.out ho.out ?_)
   exact bodyPost_ret (results_cell_one rfl _ _ (w.heap.size + 1 + 1) 68 fa _ rfl ((hM5.get 1 rfl).row fa) Tryz.underlying68 rfl hs.out) rfl ⟨by rw [HV.out, Hfa.out], below_setRow hM5.old (by omega) _⟩
def borG (d : Nat → Nat) : Nat → Nat
 | 0 => 0
 | n + 1 => 1 - (65536 + pU n - d n - borG d n) / 65536
def lesG (d : Nat → Nat) (n : Nat) : Nat := (65536 + pU n - d n - borG d n) % 65536
theorem borG_le (d : Nat → Nat) : ∀ n, borG d n ≤ 1
 | 0 => by simp [borG]
 | n + 1 => by rw [borG]; omega
theorem borG_sum {d : Nat → Nat} : ∀ n, (∀ k, k < n → d k < 65536) → sumF (lesG d) n + sumF d n = sumF pU n + borG d n * 65536 ^ n
 | 0, _ => rfl
 | n + 1, h => by
  have ih := borG_sum n (fun k hk => h k (by omega))
  have h1 := h n (by omega)
  have h2 := pU_lt n
  have h3 := borG_le d n
  have e : lesG d n + d n + borG d n = pU n + 65536 * borG d (n + 1) := by
   rw [lesG, borG]
   omega
  have e2 : borG d (n + 1) * 65536 ^ (n + 1) = 65536 * borG d (n + 1) * 65536 ^ n := by
   rw [Nat.pow_succ]
   simp only [Nat.mul_assoc, Nat.mul_left_comm, Nat.mul_comm]
  have e3 := congrArg (· * 65536 ^ n) e
  simp only [Nat.add_mul] at e3
  rw [sumF, sumF, sumF, e2]
  omega
theorem lesG_lt (d : Nat → Nat) (n : Nat) : lesG d n < 65536 := Nat.mod_lt _ (by omega)
theorem lesG_sum {d : Nat → Nat} (h : ∀ k, k < 16 → d k < 65536) (hp : sumF d 16 ≤ P25) : sumF (lesG d) 16 = P25 - sumF d 16 := by
 have h1 := borG_sum 16 h
 rw [pU_sum] at h1
 have := les_gen h1 (borG_le d 16) (sumF_lt 16 (fun k _ => lesG_lt d k)) hp
 omega
set_option maxRecDepth 100000 in
set_option maxHeartbeats 8000000 in
theorem SubN_num (a b : Nat → Nat) (w : World) (ha : ∀ k, k < 16 → a k < 65536) (hb : ∀ k, k < 16 → b k < 65536) (hp : sumF b 16 ≤ P25) :
  Calls Tryz.prog 78 #[.agg (numC a), .agg (numC b)] w fun e w' => e = .returned (.agg (numC (numF ((sumF a 16 + (P25 - sumF b 16)) % P25)))) ∧ Below w.heap.size w w' := by
 have hM0 := ((((Ms.nil w).box 68 (numC a)).box 68 (numC b)).box 68 ZN).box 99 (wC (fun _ => 0))
 simp only [World.size_alloc] at hM0
 have Hsum := Lib.hid (show sumF (fun k => a k + lesG b k) 16 = sumF a 16 + (P25 - sumF b 16) by rw [sumF_add, lesG_sum hb hp])
 have HA := Lib.hid ha
 have HB := Lib.hid hb
 have Hia := fun k (hk : k < 16) => Lib.hid (numC_at a hk)
 have Hib := fun k (hk : k < 16) => Lib.hid (numC_at b hk)
 clear ha hb hp
 generalize numC a = ca at *
 generalize numC b = cb at *
 have HW0 := Lib.hid (show wC (fun _ => 0) = #[.int .u64 0, .int .u64 0, .int .u64 0, .int .u64 0, .int .u64 0, .int .u64 0, .int .u64 0, .int .u64 0, .int .u64 0, .int .u64 0, .int .u64 0, .int .u64 0, .int .u64 0, .int .u64 0, .int .u64 0, .int .u64 0, .int .u64 0, .int .u64 0, .int .u64 0, .int .u64 0, .int .u64 0, .int .u64 0, .int .u64 0, .int .u64 0, .int .u64 0, .int .u64 0, .int .u64 0, .int .u64 0, .int .u64 0, .int .u64 0, .int .u64 0, .int .u64 0] from by kernel_rfl)
 have HZN := Lib.hid (show ZN = #[.int .u64 0, .int .u64 0, .int .u64 0, .int .u64 0, .int .u64 0, .int .u64 0, .int .u64 0, .int .u64 0, .int .u64 0, .int .u64 0, .int .u64 0, .int .u64 0, .int .u64 0, .int .u64 0, .int .u64 0, .int .u64 0] from rfl)
 rw [HW0.out, HZN.out] at hM0
 go_enter Tryz.func78, Tryz.ntmps78
 go_wp2_with fail
 go_loopw [6, 9] (fun u i wr => ∃ n : Nat, n ≤ 16 ∧ i = .int .i64 (n : Int) ∧ u = .int .u64 ((borG b n : Nat) : Int) ∧ Ms w wr [(w.heap.size + 1 + 1 + 1, 99, wC (mixFe (fun k => a k + lesG b k) (fun _ => 0) n)), (w.heap.size + 1 + 1, 68, ZN), (w.heap.size + 1, 68, cb), (w.heap.size, 68, ca)]) (fun _ i _ => (16 - intOf i).toNat)
 case atStart => exact ⟨0, by omega, rfl, rfl, by rw [wmix_zero, HW0.out, HZN.out]; exact hM0⟩
 case round =>
  clear hM0
  obtain ⟨n, hn, rfl, rfl, hM⟩ := hrel
  by_cases hlt : n < 16
  ·
   have hpp := fun wx => p_any n wx hlt
   have hx := HA.out n hlt
   have hz := HB.out n hlt
   have hy := pU_lt n
   have hu := borG_le b n
   have hg := lesG_lt b n
   have hkeep := fun wx (hb : Below wr.heap.size wr wx) => ((hM.get 2 rfl).call hb).cell (Hib n hlt).out
   have hca := (hM.get 3 rfl).drew.cell (Hia n hlt).out
   have hcn := (hM.get 0 rfl).drew.cell (wC_at (mixFe (fun k => a k + lesG b k) (fun _ => 0) n) (show n < 32 by omega))
   have hfn := (hM.get 0 rfl).drew.frozen n
   have hnew := hM.drew.setCell (by omega) (by simp; omega) n (.int .u64 ((a n + lesG b n : Nat) : Int))
   rw [wmix_set (fun k => a k + lesG b k)] at hnew
   have Hnew := Lib.hid hnew
   have hw1 : IntKind.u64.wrap (65536 + ((pU n : Nat) : Int)) = ((65536 + pU n : Nat) : Int) := wrap_nat (by simp) (by omega)
   have hw2 : IntKind.u64.wrap (((65536 + pU n : Nat) : Int) - ((b n : Nat) : Int)) = ((65536 + pU n - b n : Nat) : Int) := wrap_nat (by omega) (by omega)
   have hw3 : IntKind.u64.wrap (((65536 + pU n - b n : Nat) : Int) - ((borG b n : Nat) : Int)) = ((65536 + pU n - b n - borG b n : Nat) : Int) := wrap_nat (by omega) (by omega)
   have hw4 : ((65536 + pU n - b n - borG b n : Nat) : Int) % 65536 = ((lesG b n : Nat) : Int) := by rw [lesG]; omega
   have hw4' : Int.tmod ((65536 + pU n - b n - borG b n : Nat) : Int) 65536 = ((lesG b n : Nat) : Int) := by rw [Int.tmod_eq_emod_of_nonneg (by omega)]; exact hw4
   have hw8 : IntKind.u64.wrap (((a n : Nat) : Int) + ((lesG b n : Nat) : Int)) = ((a n + lesG b n : Nat) : Int) := wrap_nat (by simp) (by omega)
   have hdv : (65536 + pU n - b n - borG b n) / 65536 ≤ 1 := by omega
   have hw5 : ((65536 + pU n - b n - borG b n : Nat) : Int) / 65536 = (((65536 + pU n - b n - borG b n) / 65536 : Nat) : Int) := by omega
   have hw6 : IntKind.u64.wrap (1 - (((65536 + pU n - b n - borG b n) / 65536 : Nat) : Int)) = ((borG b (n + 1) : Nat) : Int) := by
    rw [show borG b (n + 1) = 1 - (65536 + pU n - b n - borG b n) / 65536 from rfl]
    exact wrap_nat (by omega) (by omega)
   have hw7 : IntKind.u64.wrap (((65536 + pU n - b n - borG b n) / 65536 : Nat) : Int) = (((65536 + pU n - b n - borG b n) / 65536 : Nat) : Int) := wrap_nat rfl (by omega)
   have j0 : 0 ≤ (n : Int) := by omega
   have j1 : (n : Int) < 16 := by omega
   have j9 : (n : Int) < 32 := by omega
   clear hx hy hz hu hg hM hnew hdv
   generalize hb1 : borG b (n + 1) = b1 at *
   have Hb1 := Lib.hid hb1
   clear hb1
   generalize a n + lesG b n = s at *
   generalize (65536 + pU n - b n - borG b n) / 65536 = dv at *
   generalize lesG b n = le at *
   generalize 65536 + pU n - b n - borG b n = x3 at *
   generalize 65536 + pU n - b n = x2 at *
   generalize 65536 + pU n = x1 at *
   generalize a n = x0 at *
   generalize pU n = y0 at *
   generalize borG b n = b0 at *
   generalize b n = z0 at *
   go_wp2_with fail
   go_region_held3 (fun wy : World => wy.cell? ⟨w.heap.size + 1, n, none⟩ = some (.int .u64 (z0 : Int)))
    ((refine hkeep _ ?_; (repeat (first | exact c_refl _ | refine c_drew ?_ | refine c_alloc ?_ _ | refine c_call ?_ (by assumption))); done))
    (with_reducible refine (hpp _).mono ?_; rintro eq wq ⟨rfl, rfl⟩)
   clear hkeep
   go_wp2_with fail
   exact ⟨⟨n + 1, by omega, by go_num, by rw [Hb1.out], Hnew.out⟩, by simp [intOf]; omega⟩
  ·
   obtain rfl : n = 16 := by omega
   rw [show ((16 : Nat) : Int) = 16 from rfl]
   have hf := fun wx => Fold_any (mixFe (fun k => a k + lesG b k) (fun _ => 0) 16) wx (wmix_lt (fun k hk => by have := HA.out k hk; have := lesG_lt b k; omega) (by omega))
   rw [wmix_sum, Hsum.out] at hf
   generalize hV : (sumF a 16 + (P25 - sumF b 16)) % P25 = V at *
   have HV := Lib.hid hV
   clear hV
   generalize mixFe (fun k => a k + lesG b k) (fun _ => 0) 16 = r at *
   have hs := Lib.hid (sizeNum (numF V))
   have ho := Lib.hid (one_num (numF V))
   have hz := Lib.hid (show ZN.size = (numC (numF V)).size by rw [numC_size]; rfl)
   generalize hfa : numC (numF V) = fa at *
   have Hfa := Lib.hid hfa
   clear hfa
   go_wp2_with ((with_reducible refine tdQ 33 ?_); refine lcQ 99 (.tmp 5) (w.heap.size + 1 + 1 + 1) (wC r) (hM.get 0 rfl) Tryz.underlying99 (sizeWF r) ?_)
   refine (hf _).mono ?_
   rintro e w5 ⟨rfl, hb5⟩
   have hM5 := hM.call hb5
   clear hM hb5 hf
   go_wp2_with ((with_reducible refine tsQ 68 ?_); refine srQ 68 (.tmp 4) (.tmp 34) (w.heap.size + 1 + 1) fa _ (hM5.get 1 rfl) hs.out hz.out ho.out ?_)
   exact bodyPost_ret (results_cell_one rfl _ _ (w.heap.size + 1 + 1) 68 fa _ rfl ((hM5.get 1 rfl).row fa) Tryz.underlying68 rfl hs.out) rfl ⟨by rw [HV.out, Hfa.out], below_setRow hM5.old (by omega) _⟩
theorem numF_may {v : Nat} (h : v < P25) : sumF (numF v) 16 = v := num_sum (P25_lt16 h)
theorem AddN_nv (x y : Nat) (w : World) (hx : x < P25) (hy : y < P25) :
  Calls Tryz.prog 79 #[.agg (numC (numF x)), .agg (numC (numF y))] w fun e w' => e = .returned (.agg (numC (numF ((x + y) % P25)))) ∧ Below w.heap.size w w' := by
 have := AddN_num (numF x) (numF y) w (fun k _ => numF_lt x k) (fun k _ => numF_lt y k)
 rwa [numF_may hx, numF_may hy] at this
theorem SubN_nv (x y : Nat) (w : World) (hx : x < P25) (hy : y < P25) :
  Calls Tryz.prog 78 #[.agg (numC (numF x)), .agg (numC (numF y))] w fun e w' => e = .returned (.agg (numC (numF ((x + (P25 - y)) % P25)))) ∧ Below w.heap.size w w' := by
 have := SubN_num (numF x) (numF y) w (fun k _ => numF_lt x k) (fun k _ => numF_lt y k) (by rw [numF_may hy]; omega)
 rwa [numF_may hx, numF_may hy] at this
section
variable {P : Program} {ops : Array Oper} {Q : Exit → Act → World → Prop} {md : Region.Mode} {S : World → Prop} {Ls : List Nat}
def wpAnyU (P : Program) (md : Region.Mode) (ops : Array Oper) (Q : Exit → Act → World → Prop) (S : World → Prop) (Ls : List Nat) : Nat → Array Bool → Act → World → Prop
 | 0, listed, a, w => Region.ready md ops listed = [] ∧ Q .normal a w
 | fuel + 1, listed, a, w =>
  (Region.ready md ops listed = [] → Q .normal a w) ∧
  ∀ i ∈ Region.ready md ops listed, wpOp P ops Q i (fun a' w' => (i ∉ Ls → S w') ∧ wpAnyU P md ops Q S Ls fuel (listed.setIfInBounds i true) a' w') a w
theorem wpAny_of_U : ∀ (fuel : Nat) (listed : Array Bool) (a : Act) (w : World), wpAnyU P md ops Q S Ls fuel listed a w → wpAny P md ops Q fuel listed a w
 | 0, _, _, _, h => h
 | fuel + 1, _, _, _, h => ⟨h.1, fun i hi => wpOp_mono (fun a' w' h' => wpAny_of_U fuel _ a' w' h'.2) (h.2 i hi)⟩
def upB (md : Region.Mode) (ops : Array Oper) : Nat → Nat → Nat → Bool
 | 0, _, _ => false
 | f + 1, k, i => match ops[k]? with
  | some o => o.after.any fun e => Region.binds md e && (e.on == i || upB md ops f e.on i)
  | none => false
def Closed (md : Region.Mode) (ops : Array Oper) (listed : Array Bool) : Prop :=
 ∀ k o, ops[k]? = some o → listed.getD k false = true → ∀ e ∈ o.after, Region.binds md e = true → listed.getD e.on false = true
def closedB (md : Region.Mode) (ops : Array Oper) (listed : Array Bool) : Bool :=
 (List.range ops.size).all fun k => !(listed.getD k false) || match ops[k]? with
  | some o => o.after.all fun e => !(Region.binds md e) || listed.getD e.on false
  | none => true
theorem closed_of {listed : Array Bool} (h : closedB md ops listed = true) : Closed md ops listed := by
 intro k o hk hl e he hb
 have h1 := List.all_eq_true.1 h k (List.mem_range.2 (Array.getElem?_eq_some_iff.1 hk).1)
 rw [hl, hk] at h1
 simp only [Bool.not_true, Bool.false_or] at h1
 have h2 := Array.all_eq_true_iff_forall_mem.1 h1 e he
 rw [hb] at h2
 simpa using h2
theorem Closed.step {listed : Array Bool} {j : Nat} (h : Closed md ops listed) (hj : j ∈ Region.ready md ops listed) : Closed md ops (listed.setIfInBounds j true) := by
 obtain ⟨_, oj, hoj, hall⟩ := mem_ready.1 hj
 intro k o hk hl e he hb
 by_cases hkj : j = k
 ·
  subst hkj
  rw [hoj] at hk
  cases hk
  exact getD_set_true (hall e he hb)
 ·
  rw [getD_set_ne false hkj] at hl
  exact getD_set_true (h k o hk hl e he hb)
theorem up_spec {listed : Array Bool} (hc : Closed md ops listed) {i : Nat} : ∀ (f k : Nat), upB md ops f k i = true → (∀ o, ops[k]? = some o → ∀ e ∈ o.after, Region.binds md e = true → listed.getD e.on false = true) → listed.getD i false = true
 | 0, _, h, _ => by cases h
 | f + 1, k, h, hall => by
  unfold upB at h
  cases hk : ops[k]? with
  | none => rw [hk] at h; cases h
  | some o =>
   rw [hk] at h
   obtain ⟨e, he, hb⟩ := Array.any_eq_true'.1 h
   rw [Bool.and_eq_true] at hb
   have hl := hall o hk e he hb.1
   rcases Bool.or_eq_true_iff.1 hb.2 with h1 | h1
   ·
    rw [beq_iff_eq] at h1
    rwa [h1] at hl
   ·
    exact up_spec hc f e.on h1 (fun o' ho' => hc e.on o' ho' hl)
theorem ready_un {i : Nat} {listed : Array Bool} (hi : listed.getD i true = false) : listed.getD i false = false := by
 rcases Nat.lt_or_ge i listed.size with h' | h'
 ·
  simp [h'] at hi ⊢
  exact hi
 ·
  simp [Array.getElem?_eq_none h']
theorem wpAnyU_first {i : Nat} {oi : Oper} {v : Value} (hi : ops[i]? = some oi) (hsel : ∀ (j : Nat) (o : Oper) cs b, ops[j]? = some o → o.op ≠ .select cs b)
  (hQ : ∀ c a w, Q (.panic c) (a.put oi.dst v) w → Q (.panic c) a w) (hL : (Ls.all fun L => upB md ops ops.size L i) = true) :
  ∀ (fuel : Nat) (listed : Array Bool) (a : Act) (w : World), Closed md ops listed →
   (∀ j oj, ops[j]? = some oj → j ≠ i → listed.getD j true = false → (∀ e ∈ oj.after, Region.binds md e = true → e.on ≠ i) → oi.apart ops oj = true) →
   i ∈ Region.ready md ops listed → YieldsIf P ops S oi v a → S w →
   wpAnyU P md ops Q S Ls fuel (listed.setIfInBounds i true) (a.put oi.dst v) w → wpAnyU P md ops Q S Ls (fuel + 1) listed a w := by
 intro fuel
 induction fuel with
 | zero =>
  intro listed a w _ _ hr hy hS H
  refine ⟨fun h => (by rw [h] at hr; cases hr), fun j hj => ?_⟩
  by_cases hji : j = i
  ·
   subst hji; exact hy.wpOp hi hS ⟨fun _ => hS, H⟩
  ·
   have := ready_mono hj hji
   rw [H.1] at this
   cases this
 | succ fuel ih =>
  intro listed a w hC hfree hr hy hS H
  refine ⟨fun h => (by rw [h] at hr; cases hr), fun j hj => ?_⟩
  by_cases hji : j = i
  ·
   subst hji; exact hy.wpOp hi hS ⟨fun _ => hS, H⟩
  ·
   have h0 := (mem_ready.1 hr).1
   obtain ⟨hjun, oj, hoj, hall⟩ := mem_ready.1 hj
   have hjL : j ∉ Ls := fun hm => by
    have h1 := up_spec hC _ _ (List.all_eq_true.1 hL j hm) (fun o ho => by
     rw [hoj] at ho
     cases ho
     exact hall)
    rw [ready_un h0] at h1
    cases h1
   have h1 := H.2 j (ready_mono hj hji)
   have hnot : ∀ e ∈ oj.after, Region.binds md e = true → e.on ≠ i := fun e he hb heq => by
    have h2 := hall e he hb
    rw [heq, ready_un h0] at h2
    cases h2
   have h2 := wpOp_putIf hoj (hfree j oj hoj hji hjun hnot) (fun cs b => hsel i oi cs b hi) (fun cs b => hsel j oj cs b hoj) hQ hy h1
   have hfree' : ∀ k ok, ops[k]? = some ok → k ≠ i → (listed.setIfInBounds j true).getD k true = false →
     (∀ e ∈ ok.after, Region.binds md e = true → e.on ≠ i) → oi.apart ops ok = true := fun k ok hk hki hun hno => by
    refine hfree k ok hk hki ?_ hno
    by_cases hjk : j = k
    ·
     subst hjk; exact hjun
    ·
     rw [getD_set_ne true hjk] at hun; exact hun
   refine wpOp_mono (fun a' w' h3 => ⟨h3.2.1, ih (listed.setIfInBounds j true) a' w' (hC.step hj) hfree' (ready_mono hr (Ne.symm hji)) h3.1 (h3.2.1 hjL) ?_⟩) h2
   rw [Array.setIfInBounds_comm _ _ hji]
   exact h3.2.2
theorem takeU (i : Nat) (dst : Option Tmp) {oi : Oper} (v : Value) {fuel : Nat} {listed : Array Bool} {a : Act} {w : World} (hi : ops[i]? = some oi) (hd : oi.dst = dst)
  (hs : Region.noSelect ops = true) (hf : Region.free md ops listed i = true) (hr : (Region.ready md ops listed).contains i = true) (hL : (Ls.all fun L => upB md ops ops.size L i) = true) (hC : closedB md ops listed = true)
  (hQ : ∀ c a w, Q (.panic c) (a.put dst v) w → Q (.panic c) a w) (hy : YieldsIf P ops S oi v a) (hS : S w)
  (h : wpAnyU P md ops Q S Ls fuel (listed.setIfInBounds i true) (a.put dst v) w) : wpAnyU P md ops Q S Ls (fuel + 1) listed a w := by
 subst hd
 exact wpAnyU_first hi (Region.noSelect_spec hs) hQ hL fuel listed a w (closed_of hC) (Region.free_spec hi hf) (by simpa using hr) hy hS h
theorem loadU (i : Nat) (dst : Option Tmp) (ty : TypeId) (x : Operand) (b o : Nat) (cs : List Value) {oi : Oper} {fuel : Nat} {listed : Array Bool} {a : Act} {w : World} (hi : ops[i]? = some oi) (hdst : oi.dst = dst)
  (hs : Region.noSelect ops = true) (hf : Region.free md ops listed i = true) (hr : (Region.ready md ops listed).contains i = true) (hL : (Ls.all fun L => upB md ops ops.size L i) = true) (hC : closedB md ops listed = true)
  (ho : oi.op = .load ty x) (hw : Region.wanted oi (yielded ops a.tmps) = true)
  (hx : a.eval x = .pointer (some ⟨b, o, none⟩)) {d : TypeDesc} (hS : ∀ w, S w → w.rangeAt b o cs)
  (hu : P.underlying ty = some d) (hd : d.isRow = true) (hin : (P.info? ty).map (·.size) = some cs.length)
  (hQ : ∀ c a w, Q (.panic c) (a.put dst (.agg cs.toArray)) w → Q (.panic c) a w) (hSw : S w)
  (h : wpAnyU P md ops Q S Ls fuel (listed.setIfInBounds i true) (a.put dst (.agg cs.toArray)) w) : wpAnyU P md ops Q S Ls (fuel + 1) listed a w :=
 takeU i dst _ hi hdst hs hf hr hL hC hQ (yieldsIf_load_mid hw ty x ho b o hx cs d hS hu hd hin) hSw h
theorem oneU (i : Nat) {o : Oper} {fuel : Nat} {listed : Array Bool} {a : Act} {w : World} (hr : Region.ready md ops listed = [i]) (ho : ops[i]? = some o)
  (h : ∀ K' : Act → World → Prop, Shut (∀ a w, (i ∉ Ls → S w) → wpAnyU P md ops Q S Ls fuel (listed.setIfInBounds i true) a w → K' a w) → if Region.wanted o (yielded ops a.tmps) = true then Oper.wp P o a w K' Q else K' (a.put o.dst undef) w) :
  wpAnyU P md ops Q S Ls (fuel + 1) listed a w := by
 refine ⟨fun h0 => (by rw [hr] at h0; cases h0), fun j hj => ?_⟩
 rw [hr, List.mem_singleton] at hj
 subst hj
 exact wpOp_step ho (fun K' hK => h K' (fun a w hS hW => hK a w ⟨hS, hW⟩))
theorem done2U {listed : Array Bool} {a : Act} {w : World} (hr : Region.ready md ops listed = []) (h : Q .normal a w) :
  ∀ fuel, wpAnyU P md ops Q S Ls fuel listed a w
 | 0 => ⟨hr, h⟩
 | _ + 1 => ⟨fun _ => h, by rw [hr]; simp⟩
theorem beginU (S : World → Prop) (Ls : List Nat) {id : Nat} {a : Act} {w : World} (hm : P.follows .mixedOrders = true)
  (h : wpAnyU P .any ops Q S Ls ops.size (Array.replicate ops.size false) a w.drew) : (Code.region id ops true).wp P Q a w :=
 wp_region_any hm (wpAny_of_U _ _ _ _ h)
end
def adN (x y : Nat) : Nat := (x + y) % P25
def sbN (x y : Nat) : Nat := (x + (P25 - y)) % P25
def mlN (x y : Nat) : Nat := x * y % P25
theorem adN_lt (x y : Nat) : adN x y < P25 := P25_lt _
theorem sbN_lt (x y : Nat) : sbN x y < P25 := P25_lt _
theorem mlN_lt (x y : Nat) : mlN x y < P25 := P25_lt _
def dblN (x z : Nat) : Nat × Nat :=
 (mlN (mlN (adN x z) (adN x z)) (mlN (sbN x z) (sbN x z)),
  mlN (sbN (mlN (adN x z) (adN x z)) (mlN (sbN x z) (sbN x z))) (adN (mlN (adN x z) (adN x z)) (mlN 121665 (sbN (mlN (adN x z) (adN x z)) (mlN (sbN x z) (sbN x z))))))
def difN (u x z y t : Nat) : Nat × Nat :=
 (mlN (adN (mlN (sbN y t) (adN x z)) (mlN (adN y t) (sbN x z))) (adN (mlN (sbN y t) (adN x z)) (mlN (adN y t) (sbN x z))),
  mlN u (mlN (sbN (mlN (sbN y t) (adN x z)) (mlN (adN y t) (sbN x z))) (sbN (mlN (sbN y t) (adN x z)) (mlN (adN y t) (sbN x z)))))
def numV (v : Nat) : List Value := (numL v).map qv
theorem numV_len (v : Nat) : (numV v).length = 16 := by simp [numV, numL]
theorem numC_V (v : Nat) : numC (numF v) = (numV v).toArray := by rw [numC, qC, numV, numL]
theorem sizeVA (v : Nat) : (Tryz.prog.info? 68).map (·.size) = some (numV v).toArray.size := by rw [infoNum, List.size_toArray, numV_len]
theorem sizeV (v : Nat) : (Tryz.prog.info? 68).map (·.size) = some (numV v).length := by rw [infoNum, numV_len]
theorem zeroV (v : Nat) : (#[.int .u64 0, .int .u64 0, .int .u64 0, .int .u64 0, .int .u64 0, .int .u64 0, .int .u64 0, .int .u64 0, .int .u64 0, .int .u64 0, .int .u64 0, .int .u64 0, .int .u64 0, .int .u64 0, .int .u64 0, .int .u64 0] : Array Value).size = (numV v).toArray.size := by
 have h : (numV v).toArray.size = 16 := by rw [List.size_toArray, numV_len]
 rw [h]
 rfl
theorem oneV (v : Nat) : ((numV v).toArray).all (·.oneCell') = true := by rw [← numC_V]; exact one_num _
def pairV (x z : Nat) : List Value := numV x ++ numV z
theorem pairV_len (x z : Nat) : (pairV x z).length = 32 := by simp [pairV, numV_len]
theorem infoPair : (Tryz.prog.info? 71).map (·.size) = some 32 := by kernel_rfl
theorem sizePA (x z : Nat) : (Tryz.prog.info? 71).map (·.size) = some (pairV x z).toArray.size := by rw [infoPair, List.size_toArray, pairV_len]
theorem sizeP (x z : Nat) : (Tryz.prog.info? 71).map (·.size) = some (pairV x z).length := by rw [infoPair, pairV_len]
theorem zeroP (x z : Nat) : (#[.int .u64 0, .int .u64 0, .int .u64 0, .int .u64 0, .int .u64 0, .int .u64 0, .int .u64 0, .int .u64 0, .int .u64 0, .int .u64 0, .int .u64 0, .int .u64 0, .int .u64 0, .int .u64 0, .int .u64 0, .int .u64 0, .int .u64 0, .int .u64 0, .int .u64 0, .int .u64 0, .int .u64 0, .int .u64 0, .int .u64 0, .int .u64 0, .int .u64 0, .int .u64 0, .int .u64 0, .int .u64 0, .int .u64 0, .int .u64 0, .int .u64 0, .int .u64 0] : Array Value).size = (pairV x z).toArray.size := by
 have h : (pairV x z).toArray.size = 32 := by rw [List.size_toArray, pairV_len]
 rw [h]
 rfl
theorem sameP (x z y t : Nat) : (pairV x z).toArray.size = (pairV y t).toArray.size := by rw [List.size_toArray, List.size_toArray, pairV_len, pairV_len]
theorem oneP (x z : Nat) : ((pairV x z).toArray).all (·.oneCell') = true := by
 rw [Array.all_eq_true_iff_forall_mem]
 intro v hv
 rw [List.mem_toArray, pairV, List.mem_append] at hv
 rcases hv with hv | hv
 ·
  exact Array.all_eq_true_iff_forall_mem.1 (oneV x) v (by simpa using hv)
 ·
  exact Array.all_eq_true_iff_forall_mem.1 (oneV z) v (by simpa using hv)
theorem RowC.fst {w : World} {g x z : Nat} {t : TypeId} (h : RowC w g t (pairV x z).toArray) : w.rangeAt g 0 (numV x) := fun j u hu => by
 rw [Nat.zero_add]
 refine h.cell ?_
 have := (List.getElem?_eq_some_iff.1 hu).1
 simp only [List.getElem?_toArray, pairV]
 rw [List.getElem?_append_left this]
 exact hu
theorem RowC.snd {w : World} {g x z : Nat} {t : TypeId} (h : RowC w g t (pairV x z).toArray) : w.rangeAt g 16 (numV z) := fun j u hu => by
 refine h.cell ?_
 simp only [List.getElem?_toArray, pairV]
 rw [List.getElem?_append_right (by rw [numV_len]; omega), numV_len, show 16 + j - 16 = j by omega]
 exact hu
theorem AddV (x y : Nat) (w : World) (hx : x < P25) (hy : y < P25) : Calls Tryz.prog 79 #[.agg (numV x).toArray, .agg (numV y).toArray] w fun e w' => e = .returned (.agg (numV (adN x y)).toArray) ∧ Below w.heap.size w w' := by
 have := AddN_nv x y w hx hy
 simp only [numC_V] at this
 exact this
theorem SubV (x y : Nat) (w : World) (hx : x < P25) (hy : y < P25) : Calls Tryz.prog 78 #[.agg (numV x).toArray, .agg (numV y).toArray] w fun e w' => e = .returned (.agg (numV (sbN x y)).toArray) ∧ Below w.heap.size w w' := by
 have := SubN_nv x y w hx hy
 simp only [numC_V] at this
 exact this
theorem MulV (x y : Nat) (w : World) (hx : x < P25) (hy : y < P25) : Calls Tryz.prog 55 #[.agg (numV x).toArray, .agg (numV y).toArray] w fun e w' => e = .returned (.agg (numV (mlN x y)).toArray) ∧ Below w.heap.size w w' := by
 have := Mul_nv x y w hx hy
 simp only [numC_V] at this
 exact this
set_option maxRecDepth 100000 in
theorem build_pair (x z : Nat) (w : World) : (Instr.build 71 #[(0, .agg (numV x).toArray), (1, .agg (numV z).toArray)]).run Tryz.prog w = .ok (.agg (pairV x z).toArray) w := by kernel_rfl
set_option maxRecDepth 100000 in
theorem build_pair1 (x : Nat) (w : World) : (Instr.build 71 #[(0, .agg (numV x).toArray)]).run Tryz.prog w = .ok (.agg (pairV x 0).toArray) w := by kernel_rfl
theorem lit_n : (numV 121665).toArray = #[.int .u64 56129, .int .u64 1, .int .u64 0, .int .u64 0, .int .u64 0, .int .u64 0, .int .u64 0, .int .u64 0, .int .u64 0, .int .u64 0, .int .u64 0, .int .u64 0, .int .u64 0, .int .u64 0, .int .u64 0, .int .u64 0] := by kernel_rfl
theorem n_lt : 121665 < P25 := by decide +kernel
set_option maxRecDepth 1000000 in
set_option maxHeartbeats 8000000 in
theorem Rdouble_any (x z : Nat) (w : World) (hx : x < P25) (hz : z < P25) :
  Calls Tryz.prog 53 #[.agg (pairV x z).toArray] w fun e w' => e = .returned (.agg (pairV (dblN x z).1 (dblN x z).2).toArray) ∧ Below w.heap.size w w' := by
 have hM0 := ((Ms.nil w).box 71 (pairV x z).toArray).box 71 #[.int .u64 0, .int .u64 0, .int .u64 0, .int .u64 0, .int .u64 0, .int .u64 0, .int .u64 0, .int .u64 0, .int .u64 0, .int .u64 0, .int .u64 0, .int .u64 0, .int .u64 0, .int .u64 0, .int .u64 0, .int .u64 0, .int .u64 0, .int .u64 0, .int .u64 0, .int .u64 0, .int .u64 0, .int .u64 0, .int .u64 0, .int .u64 0, .int .u64 0, .int .u64 0, .int .u64 0, .int .u64 0, .int .u64 0, .int .u64 0, .int .u64 0, .int .u64 0]
 simp only [World.size_alloc] at hM0
 go_enter Tryz.func53, Tryz.ntmps53
 go_wp2_with (first
  | ((with_reducible refine tdQ 10 ?_); refine wpList_load_mid rfl 68 (.tmp 9) rfl (w.heap.size) 0 rfl (numV (x)) _ ((hM0.get 1 rfl).fst) Tryz.underlying68 rfl (sizeV _) ?_)
  | ((with_reducible refine tdQ 12 ?_); refine wpList_load_mid rfl 68 (.tmp 11) rfl (w.heap.size) 16 rfl (numV (z)) _ ((hM0.get 1 rfl).snd) Tryz.underlying68 rfl (sizeV _) ?_))
 refine (AddV x z _ hx hz).mono ?_
 rintro e w1 ⟨rfl, hb1⟩
 have hM1 := hM0.call hb1
 clear hM0 hb1
 have hP1 := hM1.put 68 #[.int .u64 0, .int .u64 0, .int .u64 0, .int .u64 0, .int .u64 0, .int .u64 0, .int .u64 0, .int .u64 0, .int .u64 0, .int .u64 0, .int .u64 0, .int .u64 0, .int .u64 0, .int .u64 0, .int .u64 0, .int .u64 0] (numV (adN x z)).toArray
 go_wp2_with (first
  | ((with_reducible refine tsQ 68 ?_); refine srQ 68 (.tmp 3) (.tmp 13) (w1.heap.size) (numV (adN x z)).toArray _ (RowC.new _ _ _) (sizeVA _) (zeroV _) (oneV _) ?_)
  | ((with_reducible refine tdQ 15 ?_); refine wpList_load_mid rfl 68 (.tmp 14) rfl (w.heap.size) 0 rfl (numV (x)) _ ((hP1.get 2 rfl).fst) Tryz.underlying68 rfl (sizeV _) ?_)
  | ((with_reducible refine tdQ 17 ?_); refine wpList_load_mid rfl 68 (.tmp 16) rfl (w.heap.size) 16 rfl (numV (z)) _ ((hP1.get 2 rfl).snd) Tryz.underlying68 rfl (sizeV _) ?_))
 refine (SubV x z _ hx hz).mono ?_
 rintro e w2 ⟨rfl, hb2⟩
 have hM2 := hP1.call hb2
 clear hP1 hb2
 have hP2 := hM2.put 68 #[.int .u64 0, .int .u64 0, .int .u64 0, .int .u64 0, .int .u64 0, .int .u64 0, .int .u64 0, .int .u64 0, .int .u64 0, .int .u64 0, .int .u64 0, .int .u64 0, .int .u64 0, .int .u64 0, .int .u64 0, .int .u64 0] (numV (sbN x z)).toArray
 go_wp2_with (first
  | ((with_reducible refine tsQ 68 ?_); refine srQ 68 (.tmp 4) (.tmp 18) (w2.heap.size) (numV (sbN x z)).toArray _ (RowC.new _ _ _) (sizeVA _) (zeroV _) (oneV _) ?_)
  | ((with_reducible refine tdQ 19 ?_); refine lcQ 68 (.tmp 3) (w1.heap.size) (numV (adN x z)).toArray (hP2.get 1 rfl) Tryz.underlying68 (sizeVA _) ?_)
  | ((with_reducible refine tdQ 20 ?_); refine lcQ 68 (.tmp 3) (w1.heap.size) (numV (adN x z)).toArray (hP2.get 1 rfl) Tryz.underlying68 (sizeVA _) ?_))
 refine (MulV (adN x z) (adN x z) _ (adN_lt _ _) (adN_lt _ _)).mono ?_
 rintro e w3 ⟨rfl, hb3⟩
 have hM3 := hP2.call hb3
 clear hP2 hb3
 have hP3 := hM3.put 68 #[.int .u64 0, .int .u64 0, .int .u64 0, .int .u64 0, .int .u64 0, .int .u64 0, .int .u64 0, .int .u64 0, .int .u64 0, .int .u64 0, .int .u64 0, .int .u64 0, .int .u64 0, .int .u64 0, .int .u64 0, .int .u64 0] (numV (mlN (adN x z) (adN x z))).toArray
 go_wp2_with (first
  | ((with_reducible refine tsQ 68 ?_); refine srQ 68 (.tmp 5) (.tmp 21) (w3.heap.size) (numV (mlN (adN x z) (adN x z))).toArray _ (RowC.new _ _ _) (sizeVA _) (zeroV _) (oneV _) ?_)
  | ((with_reducible refine tdQ 22 ?_); refine lcQ 68 (.tmp 4) (w2.heap.size) (numV (sbN x z)).toArray (hP3.get 1 rfl) Tryz.underlying68 (sizeVA _) ?_)
  | ((with_reducible refine tdQ 23 ?_); refine lcQ 68 (.tmp 4) (w2.heap.size) (numV (sbN x z)).toArray (hP3.get 1 rfl) Tryz.underlying68 (sizeVA _) ?_))
 refine (MulV (sbN x z) (sbN x z) _ (sbN_lt _ _) (sbN_lt _ _)).mono ?_
 rintro e w4 ⟨rfl, hb4⟩
 have hM4 := hP3.call hb4
 clear hP3 hb4
 have hP4 := hM4.put 68 #[.int .u64 0, .int .u64 0, .int .u64 0, .int .u64 0, .int .u64 0, .int .u64 0, .int .u64 0, .int .u64 0, .int .u64 0, .int .u64 0, .int .u64 0, .int .u64 0, .int .u64 0, .int .u64 0, .int .u64 0, .int .u64 0] (numV (mlN (sbN x z) (sbN x z))).toArray
 go_wp2_with (first
  | ((with_reducible refine tsQ 68 ?_); refine srQ 68 (.tmp 6) (.tmp 24) (w4.heap.size) (numV (mlN (sbN x z) (sbN x z))).toArray _ (RowC.new _ _ _) (sizeVA _) (zeroV _) (oneV _) ?_)
  | ((with_reducible refine tdQ 25 ?_); refine lcQ 68 (.tmp 5) (w3.heap.size) (numV (mlN (adN x z) (adN x z))).toArray (hP4.get 1 rfl) Tryz.underlying68 (sizeVA _) ?_)
  | ((with_reducible refine tdQ 26 ?_); refine lcQ 68 (.tmp 6) (w4.heap.size) (numV (mlN (sbN x z) (sbN x z))).toArray (hP4.get 0 rfl) Tryz.underlying68 (sizeVA _) ?_))
 refine (SubV (mlN (adN x z) (adN x z)) (mlN (sbN x z) (sbN x z)) _ (mlN_lt _ _) (mlN_lt _ _)).mono ?_
 rintro e w5 ⟨rfl, hb5⟩
 have hM5 := hP4.call hb5
 clear hP4 hb5
 have hP5 := hM5.put 68 #[.int .u64 0, .int .u64 0, .int .u64 0, .int .u64 0, .int .u64 0, .int .u64 0, .int .u64 0, .int .u64 0, .int .u64 0, .int .u64 0, .int .u64 0, .int .u64 0, .int .u64 0, .int .u64 0, .int .u64 0, .int .u64 0] (numV (sbN (mlN (adN x z) (adN x z)) (mlN (sbN x z) (sbN x z)))).toArray
 go_upto_region 6 with ((with_reducible refine tsQ 68 ?_); refine srQ 68 (.tmp 7) (.tmp 27) (w5.heap.size) (numV (sbN (mlN (adN x z) (adN x z)) (mlN (sbN x z) (sbN x z)))).toArray _ (RowC.new _ _ _) (sizeVA _) (zeroV _) (oneV _) ?_)
 refine wp_gen (fun wx => Ms w wx [(w5.heap.size, 68, (numV (sbN (mlN (adN x z) (adN x z)) (mlN (sbN x z) (sbN x z)))).toArray), (w4.heap.size, 68, (numV (mlN (sbN x z) (sbN x z))).toArray), (w3.heap.size, 68, (numV (mlN (adN x z) (adN x z))).toArray), (w2.heap.size, 68, (numV (sbN x z)).toArray), (w1.heap.size, 68, (numV (adN x z)).toArray), (w.heap.size + 1, 71, #[.int .u64 0, .int .u64 0, .int .u64 0, .int .u64 0, .int .u64 0, .int .u64 0, .int .u64 0, .int .u64 0, .int .u64 0, .int .u64 0, .int .u64 0, .int .u64 0, .int .u64 0, .int .u64 0, .int .u64 0, .int .u64 0, .int .u64 0, .int .u64 0, .int .u64 0, .int .u64 0, .int .u64 0, .int .u64 0, .int .u64 0, .int .u64 0, .int .u64 0, .int .u64 0, .int .u64 0, .int .u64 0, .int .u64 0, .int .u64 0, .int .u64 0, .int .u64 0]), (w.heap.size, 71, (pairV x z).toArray)]) hP5 ?_
 clear hP5
 rintro v5 hMv5
 generalize w1.heap.size = gA at *
 generalize w2.heap.size = gB at *
 generalize w3.heap.size = gAA at *
 generalize w4.heap.size = gBB at *
 generalize w5.heap.size = gE at *
 have hP6 := hMv5.box 68 #[.int .u64 56129, .int .u64 1, .int .u64 0, .int .u64 0, .int .u64 0, .int .u64 0, .int .u64 0, .int .u64 0, .int .u64 0, .int .u64 0, .int .u64 0, .int .u64 0, .int .u64 0, .int .u64 0, .int .u64 0, .int .u64 0]
 go_upto_region 7 with (fail)
 rw [← lit_n] at hP6
 rw [← lit_n]
 refine wp_gen (fun wx => Ms w wx [(v5.heap.size, 68, (numV (121665)).toArray), (gE, 68, (numV (sbN (mlN (adN x z) (adN x z)) (mlN (sbN x z) (sbN x z)))).toArray), (gBB, 68, (numV (mlN (sbN x z) (sbN x z))).toArray), (gAA, 68, (numV (mlN (adN x z) (adN x z))).toArray), (gB, 68, (numV (sbN x z)).toArray), (gA, 68, (numV (adN x z)).toArray), (w.heap.size + 1, 71, #[.int .u64 0, .int .u64 0, .int .u64 0, .int .u64 0, .int .u64 0, .int .u64 0, .int .u64 0, .int .u64 0, .int .u64 0, .int .u64 0, .int .u64 0, .int .u64 0, .int .u64 0, .int .u64 0, .int .u64 0, .int .u64 0, .int .u64 0, .int .u64 0, .int .u64 0, .int .u64 0, .int .u64 0, .int .u64 0, .int .u64 0, .int .u64 0, .int .u64 0, .int .u64 0, .int .u64 0, .int .u64 0, .int .u64 0, .int .u64 0, .int .u64 0, .int .u64 0]), (w.heap.size, 71, (pairV x z).toArray)]) hP6 ?_
 clear hP6
 rintro v6 hMv6
 generalize v5.heap.size = gN at *
 have hkeep : ∀ wx : World, Below v6.heap.size v6 wx → wx.rangeAt (gAA) 0 (numV (mlN (adN x z) (adN x z))) ∧ wx.rangeAt (gBB) 0 (numV (mlN (sbN x z) (sbN x z))) ∧ wx.rangeAt (gE) 0 (numV (sbN (mlN (adN x z) (adN x z)) (mlN (sbN x z) (sbN x z)))) ∧ wx.rangeAt (gN) 0 (numV (121665)) := fun wx hb => ⟨((hMv6.get 3 rfl).call hb).range, ((hMv6.get 2 rfl).call hb).range, ((hMv6.get 1 rfl).call hb).range, ((hMv6.get 0 rfl).call hb).range⟩
 have hun := Tryz.underlying68
 refine beginT (fun wx => wx.rangeAt (gAA) 0 (numV (mlN (adN x z) (adN x z))) ∧ wx.rangeAt (gBB) 0 (numV (mlN (sbN x z) (sbN x z))) ∧ wx.rangeAt (gE) 0 (numV (sbN (mlN (adN x z) (adN x z)) (mlN (sbN x z) (sbN x z)))) ∧ wx.rangeAt (gN) 0 (numV (121665))) 11 (by kernel_rfl) ?_
 have hS := hkeep _ (c_drew (c_refl _))
 refine ldQ 0 (some 29) 68 (.tmp 5) gAA 0 (numV (mlN (adN x z) (adN x z))) (fun wx hSw => hSw.1) hun (sizeV _) (fun _ _ _ h => h) hS ?_
 simp only [Act.put, sA, sZ, sS]
 refine ldQ 1 (some 30) 68 (.tmp 6) gBB 0 (numV (mlN (sbN x z) (sbN x z))) (fun wx hSw => hSw.2.1) hun (sizeV _) (fun _ _ _ h => h) hS ?_
 simp only [Act.put, sA, sZ, sS]
 refine ldQ 3 (some 32) 68 (.tmp 7) gE 0 (numV (sbN (mlN (adN x z) (adN x z)) (mlN (sbN x z) (sbN x z)))) (fun wx hSw => hSw.2.2.1) hun (sizeV _) (fun _ _ _ h => h) hS ?_
 simp only [Act.put, sA, sZ, sS]
 refine ldQ 4 (some 33) 68 (.tmp 5) gAA 0 (numV (mlN (adN x z) (adN x z))) (fun wx hSw => hSw.1) hun (sizeV _) (fun _ _ _ h => h) hS ?_
 simp only [Act.put, sA, sZ, sS]
 refine ldQ 5 (some 34) 68 (.tmp 8) gN 0 (numV (121665)) (fun wx hSw => hSw.2.2.2) hun (sizeV _) (fun _ _ _ h => h) hS ?_
 simp only [Act.put, sA, sZ, sS]
 refine ldQ 6 (some 35) 68 (.tmp 7) gE 0 (numV (sbN (mlN (adN x z) (adN x z)) (mlN (sbN x z) (sbN x z)))) (fun wx hSw => hSw.2.2.1) hun (sizeV _) (fun _ _ _ h => h) hS ?_
 simp only [Act.put, sA, sZ, sS]
 refine on1 2 fun K hK => ?_
 go_simp
 refine (MulV (mlN (adN x z) (adN x z)) (mlN (sbN x z) (sbN x z)) _ (mlN_lt _ _) (mlN_lt _ _)).mono ?_
 rintro e x1 ⟨rfl, hx1⟩
 refine kp hK hkeep ?_
 clear hK K
 refine on1 7 fun K hK => ?_
 go_simp
 refine (MulV 121665 (sbN (mlN (adN x z) (adN x z)) (mlN (sbN x z) (sbN x z))) _ n_lt (sbN_lt _ _)).mono ?_
 rintro e x2 ⟨rfl, hx2⟩
 refine kp hK hkeep ?_
 clear hK K
 refine on1 8 fun K hK => ?_
 go_simp
 refine (AddV (mlN (adN x z) (adN x z)) (mlN 121665 (sbN (mlN (adN x z) (adN x z)) (mlN (sbN x z) (sbN x z)))) _ (mlN_lt _ _) (mlN_lt _ _)).mono ?_
 rintro e x3 ⟨rfl, hx3⟩
 refine kp hK hkeep ?_
 clear hK K
 refine on1 9 fun K hK => ?_
 go_simp
 refine (MulV (sbN (mlN (adN x z) (adN x z)) (mlN (sbN x z) (sbN x z))) (adN (mlN (adN x z) (adN x z)) (mlN 121665 (sbN (mlN (adN x z) (adN x z)) (mlN (sbN x z) (sbN x z))))) _ (sbN_lt _ _) (adN_lt _ _)).mono ?_
 rintro e x4 ⟨rfl, hx4⟩
 refine kp hK hkeep ?_
 clear hK K
 refine on1 10 fun K hK => ?_
 refine step_build (by kernel_rfl) (some 39) rfl 71 _ rfl #[(0, .agg (numV (mlN (mlN (adN x z) (adN x z)) (mlN (sbN x z) (sbN x z)))).toArray), (1, .agg (numV (mlN (sbN (mlN (adN x z) (adN x z)) (mlN (sbN x z) (sbN x z))) (adN (mlN (adN x z) (adN x z)) (mlN 121665 (sbN (mlN (adN x z) (adN x z)) (mlN (sbN x z) (sbN x z))))))).toArray)] (by kernel_rfl) _ (build_pair _ _ _) ?_
 simp only [Act.put, sA, sZ, sS]
 refine kp hK hkeep ?_
 clear hK K
 have hE : Below v6.heap.size v6 x4 := bl
 have hM9 := hMv6.call hE
 refine on1 11 fun K hK => ?_
 refine step_store_row rfl 71 (.tmp 2) (.tmp 39) rfl (w.heap.size + 1) (pairV (mlN (mlN (adN x z) (adN x z)) (mlN (sbN x z) (sbN x z))) (mlN (sbN (mlN (adN x z) (adN x z)) (mlN (sbN x z) (sbN x z))) (adN (mlN (adN x z) (adN x z)) (mlN 121665 (sbN (mlN (adN x z) (adN x z)) (mlN (sbN x z) (sbN x z))))))).toArray rfl rfl 71 _ (hM9.get 6 rfl) (sizePA _ _) (zeroP _ _) (oneP _ _) ?_
 refine hK.out _ _ (fun h => absurd rfl h) ?_
 clear hK K
 refine doneT (by kernel_rfl) ?_ _
 go_wp2_with fail
 exact bodyPost_ret (results_cell_one rfl _ _ (w.heap.size + 1) 71 _ _ rfl ((hM9.get 6 rfl).row _) Tryz.underlying71 rfl (sizePA _ _)) rfl ⟨rfl, below_setRow hM9.old (by omega) _⟩
set_option maxRecDepth 1000000 in
set_option maxHeartbeats 8000000 in
theorem Radd_any (u x z y t : Nat) (w : World) (hu : u < P25) (hx : x < P25) (hz : z < P25) (hy : y < P25) (ht : t < P25) :
  Calls Tryz.prog 52 #[.agg (numV u).toArray, .agg (pairV x z).toArray, .agg (pairV y t).toArray] w fun e w' => e = .returned (.agg (pairV (difN u x z y t).1 (difN u x z y t).2).toArray) ∧ Below w.heap.size w w' := by
 have hM0 := ((((Ms.nil w).box 68 (numV u).toArray).box 71 (pairV x z).toArray).box 71 (pairV y t).toArray).box 71 #[.int .u64 0, .int .u64 0, .int .u64 0, .int .u64 0, .int .u64 0, .int .u64 0, .int .u64 0, .int .u64 0, .int .u64 0, .int .u64 0, .int .u64 0, .int .u64 0, .int .u64 0, .int .u64 0, .int .u64 0, .int .u64 0, .int .u64 0, .int .u64 0, .int .u64 0, .int .u64 0, .int .u64 0, .int .u64 0, .int .u64 0, .int .u64 0, .int .u64 0, .int .u64 0, .int .u64 0, .int .u64 0, .int .u64 0, .int .u64 0, .int .u64 0, .int .u64 0]
 simp only [World.size_alloc] at hM0
 go_enter Tryz.func52, Tryz.ntmps52
 go_upto_region 1 with (fail)
 refine wp_gen (fun wx => Ms w wx [(w.heap.size + 1 + 1 + 1, 71, #[.int .u64 0, .int .u64 0, .int .u64 0, .int .u64 0, .int .u64 0, .int .u64 0, .int .u64 0, .int .u64 0, .int .u64 0, .int .u64 0, .int .u64 0, .int .u64 0, .int .u64 0, .int .u64 0, .int .u64 0, .int .u64 0, .int .u64 0, .int .u64 0, .int .u64 0, .int .u64 0, .int .u64 0, .int .u64 0, .int .u64 0, .int .u64 0, .int .u64 0, .int .u64 0, .int .u64 0, .int .u64 0, .int .u64 0, .int .u64 0, .int .u64 0, .int .u64 0]), (w.heap.size + 1 + 1, 71, (pairV y t).toArray), (w.heap.size + 1, 71, (pairV x z).toArray), (w.heap.size, 68, (numV u).toArray)]) hM0 ?_
 clear hM0
 rintro v0 hMv0
 go_cut [7] (fun p wx => ∃ g : Nat, p = .pointer (some ⟨g, 0, none⟩) ∧ Ms w wx [(g, 68, (numV (mlN (sbN y t) (adN x z))).toArray), (w.heap.size + 1 + 1 + 1, 71, #[.int .u64 0, .int .u64 0, .int .u64 0, .int .u64 0, .int .u64 0, .int .u64 0, .int .u64 0, .int .u64 0, .int .u64 0, .int .u64 0, .int .u64 0, .int .u64 0, .int .u64 0, .int .u64 0, .int .u64 0, .int .u64 0, .int .u64 0, .int .u64 0, .int .u64 0, .int .u64 0, .int .u64 0, .int .u64 0, .int .u64 0, .int .u64 0, .int .u64 0, .int .u64 0, .int .u64 0, .int .u64 0, .int .u64 0, .int .u64 0, .int .u64 0, .int .u64 0]), (w.heap.size + 1 + 1, 71, (pairV y t).toArray), (w.heap.size + 1, 71, (pairV x z).toArray), (w.heap.size, 68, (numV u).toArray)])
 case first =>
  have hkeep : ∀ wx : World, Below v0.heap.size v0 wx → wx.rangeAt (w.heap.size + 1 + 1) 0 (numV y) ∧ wx.rangeAt (w.heap.size + 1 + 1) 16 (numV t) ∧ wx.rangeAt (w.heap.size + 1) 0 (numV x) ∧ wx.rangeAt (w.heap.size + 1) 16 (numV z) := fun wx hb => ⟨((hMv0.get 1 rfl).call hb).fst, ((hMv0.get 1 rfl).call hb).snd, ((hMv0.get 2 rfl).call hb).fst, ((hMv0.get 2 rfl).call hb).snd⟩
  have hun := Tryz.underlying68
  refine beginT (fun wx => wx.rangeAt (w.heap.size + 1 + 1) 0 (numV y) ∧ wx.rangeAt (w.heap.size + 1 + 1) 16 (numV t) ∧ wx.rangeAt (w.heap.size + 1) 0 (numV x) ∧ wx.rangeAt (w.heap.size + 1) 16 (numV z)) 12 (by kernel_rfl) ?_
  have hS := hkeep _ (c_drew (c_refl _))
  refine tk 0 (some 11) (.pointer (some ⟨w.heap.size + 1 + 1, 0, none⟩)) (fun _ _ _ h => h) hS ?_
  simp only [Act.put, sA, sZ, sS]
  refine ldQ 1 (some 12) 68 (.tmp 11) (w.heap.size + 1 + 1) 0 (numV y) (fun wx hSw => hSw.1) hun (sizeV _) (fun _ _ _ h => h) hS ?_
  simp only [Act.put, sA, sZ, sS]
  refine tk 2 (some 13) (.pointer (some ⟨w.heap.size + 1 + 1, 16, none⟩)) (fun _ _ _ h => h) hS ?_
  simp only [Act.put, sA, sZ, sS]
  refine ldQ 3 (some 14) 68 (.tmp 13) (w.heap.size + 1 + 1) 16 (numV t) (fun wx hSw => hSw.2.1) hun (sizeV _) (fun _ _ _ h => h) hS ?_
  simp only [Act.put, sA, sZ, sS]
  refine tk 5 (some 16) (.pointer (some ⟨w.heap.size + 1, 0, none⟩)) (fun _ _ _ h => h) hS ?_
  simp only [Act.put, sA, sZ, sS]
  refine ldQ 6 (some 17) 68 (.tmp 16) (w.heap.size + 1) 0 (numV x) (fun wx hSw => hSw.2.2.1) hun (sizeV _) (fun _ _ _ h => h) hS ?_
  simp only [Act.put, sA, sZ, sS]
  refine tk 7 (some 18) (.pointer (some ⟨w.heap.size + 1, 16, none⟩)) (fun _ _ _ h => h) hS ?_
  simp only [Act.put, sA, sZ, sS]
  refine ldQ 8 (some 19) 68 (.tmp 18) (w.heap.size + 1) 16 (numV z) (fun wx hSw => hSw.2.2.2) hun (sizeV _) (fun _ _ _ h => h) hS ?_
  simp only [Act.put, sA, sZ, sS]
  have hD := hMv0.drew
  refine rd2 4 11 (fun K hK => ?_) fun K hK => ?_
  ·
   go_simp
   refine (SubV y t _ hy ht).mono ?_
   rintro e x1 ⟨rfl, hx1⟩
   refine kp hK hkeep ?_
   clear hK K
   have hN1 := hD.call hx1
   refine rd2 9 11 (fun K hK => ?_) fun K hK => ?_
   ·
    go_simp
    refine (AddV x z _ hx hz).mono ?_
    rintro e x2 ⟨rfl, hx2⟩
    refine kp hK hkeep ?_
    clear hK K
    have hN2 := hN1.call hx2
    refine rd2 10 11 (fun K hK => ?_) fun K hK => ?_
    ·
     go_simp
     refine (MulV (sbN y t) (adN x z) _ (sbN_lt _ _) (adN_lt _ _)).mono ?_
     rintro e x3 ⟨rfl, hx3⟩
     refine kp hK hkeep ?_
     clear hK K
     have hN3 := hN2.call hx3
     refine on1 11 fun K hK => ?_
     go_simp
     refine kp hK hkeep ?_
     clear hK K
     have hN4 := hN3.box 68 #[.int .u64 0, .int .u64 0, .int .u64 0, .int .u64 0, .int .u64 0, .int .u64 0, .int .u64 0, .int .u64 0, .int .u64 0, .int .u64 0, .int .u64 0, .int .u64 0, .int .u64 0, .int .u64 0, .int .u64 0, .int .u64 0]
     have hnx := fun p hp => Nat.ne_of_lt ((hN3.rows p hp).lt)
     have hgx := hN3.old.size
     refine on1 12 fun K hK => ?_
     refine step_store_row rfl 68 (.tmp 7) (.tmp 21) rfl (x3.heap.size) (numV (mlN (sbN y t) (adN x z))).toArray rfl rfl 68 _ (hN4.get 0 rfl) (sizeVA _) (zeroV _) (oneV _) ?_
     refine hK.out _ _ (fun h => absurd rfl h) ?_
     clear hK K
     refine doneT (by kernel_rfl) ?_ _
     go_wp2_with fail
     go_meet
     exact ⟨_, rfl, Ms.set hN4 hgx hnx _⟩
    ·
     go_simp
     refine kp hK hkeep ?_
     clear hK K
     have hN3 := hN2.box 68 #[.int .u64 0, .int .u64 0, .int .u64 0, .int .u64 0, .int .u64 0, .int .u64 0, .int .u64 0, .int .u64 0, .int .u64 0, .int .u64 0, .int .u64 0, .int .u64 0, .int .u64 0, .int .u64 0, .int .u64 0, .int .u64 0]
     have hnx := fun p hp => Nat.ne_of_lt ((hN2.rows p hp).lt)
     have hgx := hN2.old.size
     refine on1 10 fun K hK => ?_
     go_simp
     refine (MulV (sbN y t) (adN x z) _ (sbN_lt _ _) (adN_lt _ _)).mono ?_
     rintro e x4 ⟨rfl, hx4⟩
     refine kp hK hkeep ?_
     clear hK K
     have hN4 := hN3.call hx4
     refine on1 12 fun K hK => ?_
     refine step_store_row rfl 68 (.tmp 7) (.tmp 21) rfl (x2.heap.size) (numV (mlN (sbN y t) (adN x z))).toArray rfl rfl 68 _ (hN4.get 0 rfl) (sizeVA _) (zeroV _) (oneV _) ?_
     refine hK.out _ _ (fun h => absurd rfl h) ?_
     clear hK K
     refine doneT (by kernel_rfl) ?_ _
     go_wp2_with fail
     go_meet
     exact ⟨_, rfl, Ms.set hN4 hgx hnx _⟩
   ·
    go_simp
    refine kp hK hkeep ?_
    clear hK K
    have hN2 := hN1.box 68 #[.int .u64 0, .int .u64 0, .int .u64 0, .int .u64 0, .int .u64 0, .int .u64 0, .int .u64 0, .int .u64 0, .int .u64 0, .int .u64 0, .int .u64 0, .int .u64 0, .int .u64 0, .int .u64 0, .int .u64 0, .int .u64 0]
    have hnx := fun p hp => Nat.ne_of_lt ((hN1.rows p hp).lt)
    have hgx := hN1.old.size
    refine on1 9 fun K hK => ?_
    go_simp
    refine (AddV x z _ hx hz).mono ?_
    rintro e x3 ⟨rfl, hx3⟩
    refine kp hK hkeep ?_
    clear hK K
    have hN3 := hN2.call hx3
    refine on1 10 fun K hK => ?_
    go_simp
    refine (MulV (sbN y t) (adN x z) _ (sbN_lt _ _) (adN_lt _ _)).mono ?_
    rintro e x4 ⟨rfl, hx4⟩
    refine kp hK hkeep ?_
    clear hK K
    have hN4 := hN3.call hx4
    refine on1 12 fun K hK => ?_
    refine step_store_row rfl 68 (.tmp 7) (.tmp 21) rfl (x1.heap.size) (numV (mlN (sbN y t) (adN x z))).toArray rfl rfl 68 _ (hN4.get 0 rfl) (sizeVA _) (zeroV _) (oneV _) ?_
    refine hK.out _ _ (fun h => absurd rfl h) ?_
    clear hK K
    refine doneT (by kernel_rfl) ?_ _
    go_wp2_with fail
    go_meet
    exact ⟨_, rfl, Ms.set hN4 hgx hnx _⟩
  ·
   go_simp
   refine kp hK hkeep ?_
   clear hK K
   have hN1 := hD.box 68 #[.int .u64 0, .int .u64 0, .int .u64 0, .int .u64 0, .int .u64 0, .int .u64 0, .int .u64 0, .int .u64 0, .int .u64 0, .int .u64 0, .int .u64 0, .int .u64 0, .int .u64 0, .int .u64 0, .int .u64 0, .int .u64 0]
   have hnx := fun p hp => Nat.ne_of_lt ((hD.rows p hp).lt)
   have hgx := hD.old.size
   refine on1 4 fun K hK => ?_
   go_simp
   refine (SubV y t _ hy ht).mono ?_
   rintro e x2 ⟨rfl, hx2⟩
   refine kp hK hkeep ?_
   clear hK K
   have hN2 := hN1.call hx2
   refine on1 9 fun K hK => ?_
   go_simp
   refine (AddV x z _ hx hz).mono ?_
   rintro e x3 ⟨rfl, hx3⟩
   refine kp hK hkeep ?_
   clear hK K
   have hN3 := hN2.call hx3
   refine on1 10 fun K hK => ?_
   go_simp
   refine (MulV (sbN y t) (adN x z) _ (sbN_lt _ _) (adN_lt _ _)).mono ?_
   rintro e x4 ⟨rfl, hx4⟩
   refine kp hK hkeep ?_
   clear hK K
   have hN4 := hN3.call hx4
   refine on1 12 fun K hK => ?_
   refine step_store_row rfl 68 (.tmp 7) (.tmp 21) rfl (v0.drew.heap.size) (numV (mlN (sbN y t) (adN x z))).toArray rfl rfl 68 _ (hN4.get 0 rfl) (sizeVA _) (zeroV _) (oneV _) ?_
   refine hK.out _ _ (fun h => absurd rfl h) ?_
   clear hK K
   refine doneT (by kernel_rfl) ?_ _
   go_wp2_with fail
   go_meet
   exact ⟨_, rfl, Ms.set hN4 hgx hnx _⟩
 case rest =>
 obtain ⟨gD, rfl, hMc1⟩ := hcut
 clear hMv0
 go_upto_region 2 with (fail)
 go_cut [8] (fun p wx => ∃ g : Nat, p = .pointer (some ⟨g, 0, none⟩) ∧ Ms w wx [(g, 68, (numV (mlN (adN y t) (sbN x z))).toArray), (gD, 68, (numV (mlN (sbN y t) (adN x z))).toArray), (w.heap.size + 1 + 1 + 1, 71, #[.int .u64 0, .int .u64 0, .int .u64 0, .int .u64 0, .int .u64 0, .int .u64 0, .int .u64 0, .int .u64 0, .int .u64 0, .int .u64 0, .int .u64 0, .int .u64 0, .int .u64 0, .int .u64 0, .int .u64 0, .int .u64 0, .int .u64 0, .int .u64 0, .int .u64 0, .int .u64 0, .int .u64 0, .int .u64 0, .int .u64 0, .int .u64 0, .int .u64 0, .int .u64 0, .int .u64 0, .int .u64 0, .int .u64 0, .int .u64 0, .int .u64 0, .int .u64 0]), (w.heap.size + 1 + 1, 71, (pairV y t).toArray), (w.heap.size + 1, 71, (pairV x z).toArray), (w.heap.size, 68, (numV u).toArray)])
 case first =>
  have hkeep : ∀ wx : World, Below wc.heap.size wc wx → wx.rangeAt (w.heap.size + 1 + 1) 0 (numV y) ∧ wx.rangeAt (w.heap.size + 1 + 1) 16 (numV t) ∧ wx.rangeAt (w.heap.size + 1) 0 (numV x) ∧ wx.rangeAt (w.heap.size + 1) 16 (numV z) := fun wx hb => ⟨((hMc1.get 2 rfl).call hb).fst, ((hMc1.get 2 rfl).call hb).snd, ((hMc1.get 3 rfl).call hb).fst, ((hMc1.get 3 rfl).call hb).snd⟩
  have hun := Tryz.underlying68
  refine beginT (fun wx => wx.rangeAt (w.heap.size + 1 + 1) 0 (numV y) ∧ wx.rangeAt (w.heap.size + 1 + 1) 16 (numV t) ∧ wx.rangeAt (w.heap.size + 1) 0 (numV x) ∧ wx.rangeAt (w.heap.size + 1) 16 (numV z)) 12 (by kernel_rfl) ?_
  have hS := hkeep _ (c_drew (c_refl _))
  refine tk 0 (some 22) (.pointer (some ⟨w.heap.size + 1 + 1, 0, none⟩)) (fun _ _ _ h => h) hS ?_
  simp only [Act.put, sA, sZ, sS]
  refine ldQ 1 (some 23) 68 (.tmp 22) (w.heap.size + 1 + 1) 0 (numV y) (fun wx hSw => hSw.1) hun (sizeV _) (fun _ _ _ h => h) hS ?_
  simp only [Act.put, sA, sZ, sS]
  refine tk 2 (some 24) (.pointer (some ⟨w.heap.size + 1 + 1, 16, none⟩)) (fun _ _ _ h => h) hS ?_
  simp only [Act.put, sA, sZ, sS]
  refine ldQ 3 (some 25) 68 (.tmp 24) (w.heap.size + 1 + 1) 16 (numV t) (fun wx hSw => hSw.2.1) hun (sizeV _) (fun _ _ _ h => h) hS ?_
  simp only [Act.put, sA, sZ, sS]
  refine tk 5 (some 27) (.pointer (some ⟨w.heap.size + 1, 0, none⟩)) (fun _ _ _ h => h) hS ?_
  simp only [Act.put, sA, sZ, sS]
  refine ldQ 6 (some 28) 68 (.tmp 27) (w.heap.size + 1) 0 (numV x) (fun wx hSw => hSw.2.2.1) hun (sizeV _) (fun _ _ _ h => h) hS ?_
  simp only [Act.put, sA, sZ, sS]
  refine tk 7 (some 29) (.pointer (some ⟨w.heap.size + 1, 16, none⟩)) (fun _ _ _ h => h) hS ?_
  simp only [Act.put, sA, sZ, sS]
  refine ldQ 8 (some 30) 68 (.tmp 29) (w.heap.size + 1) 16 (numV z) (fun wx hSw => hSw.2.2.2) hun (sizeV _) (fun _ _ _ h => h) hS ?_
  simp only [Act.put, sA, sZ, sS]
  have hD := hMc1.drew
  refine rd2 4 11 (fun K hK => ?_) fun K hK => ?_
  ·
   go_simp
   refine (AddV y t _ hy ht).mono ?_
   rintro e x1 ⟨rfl, hx1⟩
   refine kp hK hkeep ?_
   clear hK K
   have hN1 := hD.call hx1
   refine rd2 9 11 (fun K hK => ?_) fun K hK => ?_
   ·
    go_simp
    refine (SubV x z _ hx hz).mono ?_
    rintro e x2 ⟨rfl, hx2⟩
    refine kp hK hkeep ?_
    clear hK K
    have hN2 := hN1.call hx2
    refine rd2 10 11 (fun K hK => ?_) fun K hK => ?_
    ·
     go_simp
     refine (MulV (adN y t) (sbN x z) _ (adN_lt _ _) (sbN_lt _ _)).mono ?_
     rintro e x3 ⟨rfl, hx3⟩
     refine kp hK hkeep ?_
     clear hK K
     have hN3 := hN2.call hx3
     refine on1 11 fun K hK => ?_
     go_simp
     refine kp hK hkeep ?_
     clear hK K
     have hN4 := hN3.box 68 #[.int .u64 0, .int .u64 0, .int .u64 0, .int .u64 0, .int .u64 0, .int .u64 0, .int .u64 0, .int .u64 0, .int .u64 0, .int .u64 0, .int .u64 0, .int .u64 0, .int .u64 0, .int .u64 0, .int .u64 0, .int .u64 0]
     have hnx := fun p hp => Nat.ne_of_lt ((hN3.rows p hp).lt)
     have hgx := hN3.old.size
     refine on1 12 fun K hK => ?_
     refine step_store_row rfl 68 (.tmp 8) (.tmp 32) rfl (x3.heap.size) (numV (mlN (adN y t) (sbN x z))).toArray rfl rfl 68 _ (hN4.get 0 rfl) (sizeVA _) (zeroV _) (oneV _) ?_
     refine hK.out _ _ (fun h => absurd rfl h) ?_
     clear hK K
     refine doneT (by kernel_rfl) ?_ _
     go_wp2_with fail
     go_meet
     exact ⟨_, rfl, Ms.set hN4 hgx hnx _⟩
    ·
     go_simp
     refine kp hK hkeep ?_
     clear hK K
     have hN3 := hN2.box 68 #[.int .u64 0, .int .u64 0, .int .u64 0, .int .u64 0, .int .u64 0, .int .u64 0, .int .u64 0, .int .u64 0, .int .u64 0, .int .u64 0, .int .u64 0, .int .u64 0, .int .u64 0, .int .u64 0, .int .u64 0, .int .u64 0]
     have hnx := fun p hp => Nat.ne_of_lt ((hN2.rows p hp).lt)
     have hgx := hN2.old.size
     refine on1 10 fun K hK => ?_
     go_simp
     refine (MulV (adN y t) (sbN x z) _ (adN_lt _ _) (sbN_lt _ _)).mono ?_
     rintro e x4 ⟨rfl, hx4⟩
     refine kp hK hkeep ?_
     clear hK K
     have hN4 := hN3.call hx4
     refine on1 12 fun K hK => ?_
     refine step_store_row rfl 68 (.tmp 8) (.tmp 32) rfl (x2.heap.size) (numV (mlN (adN y t) (sbN x z))).toArray rfl rfl 68 _ (hN4.get 0 rfl) (sizeVA _) (zeroV _) (oneV _) ?_
     refine hK.out _ _ (fun h => absurd rfl h) ?_
     clear hK K
     refine doneT (by kernel_rfl) ?_ _
     go_wp2_with fail
     go_meet
     exact ⟨_, rfl, Ms.set hN4 hgx hnx _⟩
   ·
    go_simp
    refine kp hK hkeep ?_
    clear hK K
    have hN2 := hN1.box 68 #[.int .u64 0, .int .u64 0, .int .u64 0, .int .u64 0, .int .u64 0, .int .u64 0, .int .u64 0, .int .u64 0, .int .u64 0, .int .u64 0, .int .u64 0, .int .u64 0, .int .u64 0, .int .u64 0, .int .u64 0, .int .u64 0]
    have hnx := fun p hp => Nat.ne_of_lt ((hN1.rows p hp).lt)
    have hgx := hN1.old.size
    refine on1 9 fun K hK => ?_
    go_simp
    refine (SubV x z _ hx hz).mono ?_
    rintro e x3 ⟨rfl, hx3⟩
    refine kp hK hkeep ?_
    clear hK K
    have hN3 := hN2.call hx3
    refine on1 10 fun K hK => ?_
    go_simp
    refine (MulV (adN y t) (sbN x z) _ (adN_lt _ _) (sbN_lt _ _)).mono ?_
    rintro e x4 ⟨rfl, hx4⟩
    refine kp hK hkeep ?_
    clear hK K
    have hN4 := hN3.call hx4
    refine on1 12 fun K hK => ?_
    refine step_store_row rfl 68 (.tmp 8) (.tmp 32) rfl (x1.heap.size) (numV (mlN (adN y t) (sbN x z))).toArray rfl rfl 68 _ (hN4.get 0 rfl) (sizeVA _) (zeroV _) (oneV _) ?_
    refine hK.out _ _ (fun h => absurd rfl h) ?_
    clear hK K
    refine doneT (by kernel_rfl) ?_ _
    go_wp2_with fail
    go_meet
    exact ⟨_, rfl, Ms.set hN4 hgx hnx _⟩
  ·
   go_simp
   refine kp hK hkeep ?_
   clear hK K
   have hN1 := hD.box 68 #[.int .u64 0, .int .u64 0, .int .u64 0, .int .u64 0, .int .u64 0, .int .u64 0, .int .u64 0, .int .u64 0, .int .u64 0, .int .u64 0, .int .u64 0, .int .u64 0, .int .u64 0, .int .u64 0, .int .u64 0, .int .u64 0]
   have hnx := fun p hp => Nat.ne_of_lt ((hD.rows p hp).lt)
   have hgx := hD.old.size
   refine on1 4 fun K hK => ?_
   go_simp
   refine (AddV y t _ hy ht).mono ?_
   rintro e x2 ⟨rfl, hx2⟩
   refine kp hK hkeep ?_
   clear hK K
   have hN2 := hN1.call hx2
   refine on1 9 fun K hK => ?_
   go_simp
   refine (SubV x z _ hx hz).mono ?_
   rintro e x3 ⟨rfl, hx3⟩
   refine kp hK hkeep ?_
   clear hK K
   have hN3 := hN2.call hx3
   refine on1 10 fun K hK => ?_
   go_simp
   refine (MulV (adN y t) (sbN x z) _ (adN_lt _ _) (sbN_lt _ _)).mono ?_
   rintro e x4 ⟨rfl, hx4⟩
   refine kp hK hkeep ?_
   clear hK K
   have hN4 := hN3.call hx4
   refine on1 12 fun K hK => ?_
   refine step_store_row rfl 68 (.tmp 8) (.tmp 32) rfl (wc.drew.heap.size) (numV (mlN (adN y t) (sbN x z))).toArray rfl rfl 68 _ (hN4.get 0 rfl) (sizeVA _) (zeroV _) (oneV _) ?_
   refine hK.out _ _ (fun h => absurd rfl h) ?_
   clear hK K
   refine doneT (by kernel_rfl) ?_ _
   go_wp2_with fail
   go_meet
   exact ⟨_, rfl, Ms.set hN4 hgx hnx _⟩
 case rest =>
 obtain ⟨gC, rfl, hMc2⟩ := hcut
 clear hMc1
 clear hx hy hz ht
 go_wp2_with (first
  | ((with_reducible refine tdQ 33 ?_); refine lcQ 68 (.tmp 7) (gD) (numV (mlN (sbN y t) (adN x z))).toArray (hMc2.get 1 rfl) Tryz.underlying68 (sizeVA _) ?_)
  | ((with_reducible refine tdQ 34 ?_); refine lcQ 68 (.tmp 8) (gC) (numV (mlN (adN y t) (sbN x z))).toArray (hMc2.get 0 rfl) Tryz.underlying68 (sizeVA _) ?_))
 refine (AddV (mlN (sbN y t) (adN x z)) (mlN (adN y t) (sbN x z)) _ (mlN_lt _ _) (mlN_lt _ _)).mono ?_
 rintro e w11 ⟨rfl, hb11⟩
 have hM11 := hMc2.call hb11
 clear hMc2 hb11
 have hP11 := hM11.put 68 #[.int .u64 0, .int .u64 0, .int .u64 0, .int .u64 0, .int .u64 0, .int .u64 0, .int .u64 0, .int .u64 0, .int .u64 0, .int .u64 0, .int .u64 0, .int .u64 0, .int .u64 0, .int .u64 0, .int .u64 0, .int .u64 0] (numV (adN (mlN (sbN y t) (adN x z)) (mlN (adN y t) (sbN x z)))).toArray
 go_wp2_with (first
  | ((with_reducible refine tsQ 68 ?_); refine srQ 68 (.tmp 9) (.tmp 35) (w11.heap.size) (numV (adN (mlN (sbN y t) (adN x z)) (mlN (adN y t) (sbN x z)))).toArray _ (RowC.new _ _ _) (sizeVA _) (zeroV _) (oneV _) ?_)
  | ((with_reducible refine tdQ 36 ?_); refine lcQ 68 (.tmp 7) (gD) (numV (mlN (sbN y t) (adN x z))).toArray (hP11.get 2 rfl) Tryz.underlying68 (sizeVA _) ?_)
  | ((with_reducible refine tdQ 37 ?_); refine lcQ 68 (.tmp 8) (gC) (numV (mlN (adN y t) (sbN x z))).toArray (hP11.get 1 rfl) Tryz.underlying68 (sizeVA _) ?_))
 refine (SubV (mlN (sbN y t) (adN x z)) (mlN (adN y t) (sbN x z)) _ (mlN_lt _ _) (mlN_lt _ _)).mono ?_
 rintro e w12 ⟨rfl, hb12⟩
 have hM12 := hP11.call hb12
 clear hP11 hb12
 have hP12 := hM12.put 68 #[.int .u64 0, .int .u64 0, .int .u64 0, .int .u64 0, .int .u64 0, .int .u64 0, .int .u64 0, .int .u64 0, .int .u64 0, .int .u64 0, .int .u64 0, .int .u64 0, .int .u64 0, .int .u64 0, .int .u64 0, .int .u64 0] (numV (sbN (mlN (sbN y t) (adN x z)) (mlN (adN y t) (sbN x z)))).toArray
 go_upto_region 5 with ((with_reducible refine tsQ 68 ?_); refine srQ 68 (.tmp 10) (.tmp 38) (w12.heap.size) (numV (sbN (mlN (sbN y t) (adN x z)) (mlN (adN y t) (sbN x z)))).toArray _ (RowC.new _ _ _) (sizeVA _) (zeroV _) (oneV _) ?_)
 refine wp_gen (fun wx => Ms w wx [(w12.heap.size, 68, (numV (sbN (mlN (sbN y t) (adN x z)) (mlN (adN y t) (sbN x z)))).toArray), (w11.heap.size, 68, (numV (adN (mlN (sbN y t) (adN x z)) (mlN (adN y t) (sbN x z)))).toArray), (gC, 68, (numV (mlN (adN y t) (sbN x z))).toArray), (gD, 68, (numV (mlN (sbN y t) (adN x z))).toArray), (w.heap.size + 1 + 1 + 1, 71, #[.int .u64 0, .int .u64 0, .int .u64 0, .int .u64 0, .int .u64 0, .int .u64 0, .int .u64 0, .int .u64 0, .int .u64 0, .int .u64 0, .int .u64 0, .int .u64 0, .int .u64 0, .int .u64 0, .int .u64 0, .int .u64 0, .int .u64 0, .int .u64 0, .int .u64 0, .int .u64 0, .int .u64 0, .int .u64 0, .int .u64 0, .int .u64 0, .int .u64 0, .int .u64 0, .int .u64 0, .int .u64 0, .int .u64 0, .int .u64 0, .int .u64 0, .int .u64 0]), (w.heap.size + 1 + 1, 71, (pairV y t).toArray), (w.heap.size + 1, 71, (pairV x z).toArray), (w.heap.size, 68, (numV u).toArray)]) hP12 ?_
 clear hP12
 rintro v13 hMv13
 generalize w11.heap.size = gS at *
 generalize w12.heap.size = gL at *
 have hkeep : ∀ wx : World, Below v13.heap.size v13 wx → wx.rangeAt (gS) 0 (numV (adN (mlN (sbN y t) (adN x z)) (mlN (adN y t) (sbN x z)))) ∧ wx.rangeAt (gL) 0 (numV (sbN (mlN (sbN y t) (adN x z)) (mlN (adN y t) (sbN x z)))) ∧ wx.rangeAt (w.heap.size) 0 (numV u) := fun wx hb => ⟨((hMv13.get 1 rfl).call hb).range, ((hMv13.get 0 rfl).call hb).range, ((hMv13.get 7 rfl).call hb).range⟩
 have hun := Tryz.underlying68
 refine beginT (fun wx => wx.rangeAt (gS) 0 (numV (adN (mlN (sbN y t) (adN x z)) (mlN (adN y t) (sbN x z)))) ∧ wx.rangeAt (gL) 0 (numV (sbN (mlN (sbN y t) (adN x z)) (mlN (adN y t) (sbN x z)))) ∧ wx.rangeAt (w.heap.size) 0 (numV u)) 9 (by kernel_rfl) ?_
 have hS := hkeep _ (c_drew (c_refl _))
 refine ldQ 0 (some 39) 68 (.tmp 9) gS 0 (numV (adN (mlN (sbN y t) (adN x z)) (mlN (adN y t) (sbN x z)))) (fun wx hSw => hSw.1) hun (sizeV _) (fun _ _ _ h => h) hS ?_
 simp only [Act.put, sA, sZ, sS]
 refine ldQ 1 (some 40) 68 (.tmp 9) gS 0 (numV (adN (mlN (sbN y t) (adN x z)) (mlN (adN y t) (sbN x z)))) (fun wx hSw => hSw.1) hun (sizeV _) (fun _ _ _ h => h) hS ?_
 simp only [Act.put, sA, sZ, sS]
 refine ldQ 3 (some 42) 68 (.tmp 3) w.heap.size 0 (numV u) (fun wx hSw => hSw.2.2) hun (sizeV _) (fun _ _ _ h => h) hS ?_
 simp only [Act.put, sA, sZ, sS]
 refine ldQ 4 (some 43) 68 (.tmp 10) gL 0 (numV (sbN (mlN (sbN y t) (adN x z)) (mlN (adN y t) (sbN x z)))) (fun wx hSw => hSw.2.1) hun (sizeV _) (fun _ _ _ h => h) hS ?_
 simp only [Act.put, sA, sZ, sS]
 refine ldQ 5 (some 44) 68 (.tmp 10) gL 0 (numV (sbN (mlN (sbN y t) (adN x z)) (mlN (adN y t) (sbN x z)))) (fun wx hSw => hSw.2.1) hun (sizeV _) (fun _ _ _ h => h) hS ?_
 simp only [Act.put, sA, sZ, sS]
 refine on1 2 fun K hK => ?_
 go_simp
 refine (MulV (adN (mlN (sbN y t) (adN x z)) (mlN (adN y t) (sbN x z))) (adN (mlN (sbN y t) (adN x z)) (mlN (adN y t) (sbN x z))) _ (adN_lt _ _) (adN_lt _ _)).mono ?_
 rintro e x1 ⟨rfl, hx1⟩
 refine kp hK hkeep ?_
 clear hK K
 refine on1 6 fun K hK => ?_
 go_simp
 refine (MulV (sbN (mlN (sbN y t) (adN x z)) (mlN (adN y t) (sbN x z))) (sbN (mlN (sbN y t) (adN x z)) (mlN (adN y t) (sbN x z))) _ (sbN_lt _ _) (sbN_lt _ _)).mono ?_
 rintro e x2 ⟨rfl, hx2⟩
 refine kp hK hkeep ?_
 clear hK K
 refine on1 7 fun K hK => ?_
 go_simp
 refine (MulV u (mlN (sbN (mlN (sbN y t) (adN x z)) (mlN (adN y t) (sbN x z))) (sbN (mlN (sbN y t) (adN x z)) (mlN (adN y t) (sbN x z)))) _ hu (mlN_lt _ _)).mono ?_
 rintro e x3 ⟨rfl, hx3⟩
 refine kp hK hkeep ?_
 clear hK K
 refine on1 8 fun K hK => ?_
 refine step_build (by kernel_rfl) (some 47) rfl 71 _ rfl #[(0, .agg (numV (mlN (adN (mlN (sbN y t) (adN x z)) (mlN (adN y t) (sbN x z))) (adN (mlN (sbN y t) (adN x z)) (mlN (adN y t) (sbN x z))))).toArray), (1, .agg (numV (mlN u (mlN (sbN (mlN (sbN y t) (adN x z)) (mlN (adN y t) (sbN x z))) (sbN (mlN (sbN y t) (adN x z)) (mlN (adN y t) (sbN x z)))))).toArray)] (by kernel_rfl) _ (build_pair _ _ _) ?_
 simp only [Act.put, sA, sZ, sS]
 refine kp hK hkeep ?_
 clear hK K
 have hE : Below v13.heap.size v13 x3 := bl
 have hM9 := hMv13.call hE
 refine on1 9 fun K hK => ?_
 refine step_store_row rfl 71 (.tmp 6) (.tmp 47) rfl (w.heap.size + 1 + 1 + 1) (pairV (mlN (adN (mlN (sbN y t) (adN x z)) (mlN (adN y t) (sbN x z))) (adN (mlN (sbN y t) (adN x z)) (mlN (adN y t) (sbN x z)))) (mlN u (mlN (sbN (mlN (sbN y t) (adN x z)) (mlN (adN y t) (sbN x z))) (sbN (mlN (sbN y t) (adN x z)) (mlN (adN y t) (sbN x z)))))).toArray rfl rfl 71 _ (hM9.get 4 rfl) (sizePA _ _) (zeroP _ _) (oneP _ _) ?_
 refine hK.out _ _ (fun h => absurd rfl h) ?_
 clear hK K
 refine doneT (by kernel_rfl) ?_ _
 go_wp2_with fail
 exact bodyPost_ret (results_cell_one rfl _ _ (w.heap.size + 1 + 1 + 1) 71 _ _ rfl ((hM9.get 4 rfl).row _) Tryz.underlying71 rfl (sizePA _ _)) rfl ⟨rfl, below_setRow hM9.old (by omega) _⟩
def clampL (l : List UInt8) : List UInt8 := (l.set 0 (byteK l 0 / 8 * 8)).set 31 (byteK l 31 % 64 + 64)
theorem clampL_len {l : List UInt8} (h : l.length = 32) : (clampL l).length = 32 := by simp [clampL, h]
theorem u8_div8 (x : UInt8) : (x / 8 * 8).toNat = x.toNat / 8 * 8 := by
 have := x.toBitVec.isLt
 have h2 : x.toNat < 256 := this
 rw [UInt8.toNat_mul, UInt8.toNat_div]
 simp
 omega
theorem u8_mod64 (x : UInt8) : (x % 64 + 64).toNat = x.toNat % 64 + 64 := by
 rw [UInt8.toNat_add, UInt8.toNat_mod]
 simp
 omega
set_option maxRecDepth 100000 in
set_option maxHeartbeats 2000000 in
theorem RClamp_any (l : List UInt8) (w : World) (hl : l.length = 32) :
  Calls Tryz.prog 50 #[.agg (keyC l)] w fun e w' => e = .returned (.agg (keyC (clampL l))) ∧ Below w.heap.size w w' := by
 have hMb := (((Ms.nil w).box 23 (keyC l)).box 23 #[.int .u8 0, .int .u8 0, .int .u8 0, .int .u8 0, .int .u8 0, .int .u8 0, .int .u8 0, .int .u8 0, .int .u8 0, .int .u8 0, .int .u8 0, .int .u8 0, .int .u8 0, .int .u8 0, .int .u8 0, .int .u8 0, .int .u8 0, .int .u8 0, .int .u8 0, .int .u8 0, .int .u8 0, .int .u8 0, .int .u8 0, .int .u8 0, .int .u8 0, .int .u8 0, .int .u8 0, .int .u8 0, .int .u8 0, .int .u8 0, .int .u8 0, .int .u8 0]).swap
 simp only [World.size_alloc] at hMb
 go_enter Tryz.func50, Tryz.ntmps50
 go_upto_region 1 with (fail)
 refine wp_gen (fun wx => Ms w wx [(w.heap.size, 23, keyC l), (w.heap.size + 1, 23, #[.int .u8 0, .int .u8 0, .int .u8 0, .int .u8 0, .int .u8 0, .int .u8 0, .int .u8 0, .int .u8 0, .int .u8 0, .int .u8 0, .int .u8 0, .int .u8 0, .int .u8 0, .int .u8 0, .int .u8 0, .int .u8 0, .int .u8 0, .int .u8 0, .int .u8 0, .int .u8 0, .int .u8 0, .int .u8 0, .int .u8 0, .int .u8 0, .int .u8 0, .int .u8 0, .int .u8 0, .int .u8 0, .int .u8 0, .int .u8 0, .int .u8 0, .int .u8 0])]) hMb ?_
 clear hMb
 rintro v0 hM0
 have Hl := Lib.hid hl
 have c0 := (hM0.get 0 rfl).cell (keyC_at (byteK_at (l := l) (k := 0) (by omega)))
 have f0 := (hM0.get 0 rfl).frozen 0
 have hM1 := hM0.setCell (Nat.le_refl _) (by simp) 0 (.int .u8 ((byteK l 0 / 8 * 8).toNat : Int))
 rw [keyC_set] at hM1
 have hb31 : byteK (l.set 0 (byteK l 0 / 8 * 8)) 31 = byteK l 31 := by
  unfold byteK
  simp [List.getD]
 have c1 := (hM1.get 0 rfl).cell (keyC_at (byteK_at (l := l.set 0 (byteK l 0 / 8 * 8)) (k := 31) (by simp; omega)))
 rw [hb31] at c1
 have f1 := (hM1.get 0 rfl).frozen 31
 have hM2 := hM1.setCell (Nat.le_refl _) (by simp) 31 (.int .u8 ((byteK l 31 % 64 + 64).toNat : Int))
 rw [keyC_set, show (l.set 0 (byteK l 0 / 8 * 8)).set 31 (byteK l 31 % 64 + 64) = clampL l from rfl] at hM2
 have b0 : (byteK l 0).toNat < 256 := (byteK l 0).toBitVec.isLt
 have b1 : (byteK l 31).toNat < 256 := (byteK l 31).toBitVec.isLt
 have e0 := u8_div8 (byteK l 0)
 have e1 := u8_mod64 (byteK l 31)
 have w0 : IntKind.u8.wrap (((byteK l 0).toNat : Int) / 8) = (((byteK l 0).toNat / 8 : Nat) : Int) := by rw [IntKind.wrap_u8]; omega
 have w0' : ((byteK l 0).toNat : Int) / 8 = (((byteK l 0).toNat / 8 : Nat) : Int) := by omega
 have w1 : IntKind.u8.wrap ((((byteK l 0).toNat / 8 : Nat) : Int) * 8) = ((byteK l 0 / 8 * 8).toNat : Int) := by rw [IntKind.wrap_u8, e0]; omega
 have w2 : ((byteK l 31).toNat : Int) % 64 = (((byteK l 31).toNat % 64 : Nat) : Int) := by omega
 have w2' : Int.tmod ((byteK l 31).toNat : Int) 64 = (((byteK l 31).toNat % 64 : Nat) : Int) := by rw [Int.tmod_eq_emod_of_nonneg (by omega)]; exact w2
 have w3 : IntKind.u8.wrap ((((byteK l 31).toNat % 64 : Nat) : Int) + 64) = ((byteK l 31 % 64 + 64).toNat : Int) := by rw [IntKind.wrap_u8, e1]; omega
 have w4 : IntKind.u8.wrap (((byteK l 0).toNat / 8 : Nat) : Int) = (((byteK l 0).toNat / 8 : Nat) : Int) := by rw [IntKind.wrap_u8]; omega
 have hs := Lib.hid (sizeKey (clampL_len hl))
 have ho := Lib.hid (one_keyF (clampL l))
 have hz := Lib.hid (zkS (l := (clampL l)) (by rw [clampL_len hl]))
 clear hM0 hM1 hb31 b0 b1 e0 e1 hl
 generalize hcc : keyC (clampL l) = cc at *
 have Hcc := Lib.hid hcc
 clear hcc
 generalize ((byteK l 31 % 64 + 64).toNat : Int) = y1 at *
 generalize ((byteK l 0 / 8 * 8).toNat : Int) = y0 at *
 generalize (byteK l 0).toNat / 8 = z0 at *
 generalize (byteK l 31).toNat % 64 = z1 at *
 generalize (byteK l 0).toNat = x0 at *
 generalize (byteK l 31).toNat = x1 at *
 go_wp2_with (first
  | ((with_reducible refine tdQ 13 ?_); refine lcQ 23 (.tmp 1) (w.heap.size) cc (hM2.get 0 rfl) Tryz.underlying23 hs.out ?_)
  | ((with_reducible refine tsQ 23 ?_); refine srQ 23 (.tmp 2) (.tmp 13) (w.heap.size + 1) cc _ (hM2.get 1 rfl) hs.out hz.out ho.out ?_))
 exact bodyPost_ret (results_cell_one rfl _ _ (w.heap.size + 1) 23 cc _ rfl ((hM2.get 1 rfl).row cc) Tryz.underlying23 rfl hs.out) rfl ⟨by rw [Hcc.out], below_setRow hM2.old (by omega) _⟩
def bitK (l : List UInt8) (i : Nat) : Bool := (byteK l (i / 8)).toNat / 2 ^ (i % 8) % 2 == 1
def ladNS (u : Nat) (st : (Nat × Nat) × (Nat × Nat)) (b : Bool) : (Nat × Nat) × (Nat × Nat) :=
 if b then (difN u st.2.1 st.2.2 st.1.1 st.1.2, dblN st.2.1 st.2.2) else (dblN st.1.1 st.1.2, difN u st.1.1 st.1.2 st.2.1 st.2.2)
def ladN (u : Nat) (l : List UInt8) : Nat → (Nat × Nat) × (Nat × Nat)
 | 0 => ((1, 0), (u, 1))
 | j + 1 => ladNS u (ladN u l j) (bitK l (254 - j))
def Low4 (st : (Nat × Nat) × (Nat × Nat)) : Prop := st.1.1 < P25 ∧ st.1.2 < P25 ∧ st.2.1 < P25 ∧ st.2.2 < P25
theorem dblN_low (x z : Nat) : (dblN x z).1 < P25 ∧ (dblN x z).2 < P25 := ⟨mlN_lt _ _, mlN_lt _ _⟩
theorem difN_low (u x z y t : Nat) : (difN u x z y t).1 < P25 ∧ (difN u x z y t).2 < P25 := ⟨mlN_lt _ _, mlN_lt _ _⟩
theorem P25_gt1 : 1 < P25 := by decide +kernel
theorem P25_gt0 : 0 < P25 := by decide +kernel
theorem ladN_low {u : Nat} (hu : u < P25) (l : List UInt8) : ∀ j, Low4 (ladN u l j)
 | 0 => ⟨P25_gt1, P25_gt0, hu, P25_gt1⟩
 | j + 1 => by
  rw [ladN, ladNS]
  split
  ·
   exact ⟨(difN_low _ _ _ _ _).1, (difN_low _ _ _ _ _).2, (dblN_low _ _).1, (dblN_low _ _).2⟩
  ·
   exact ⟨(dblN_low _ _).1, (dblN_low _ _).2, (difN_low _ _ _ _ _).1, (difN_low _ _ _ _ _).2⟩
def mltN (l : List UInt8) (u : Nat) : Nat := mlN (ladN u l 255).1.1 (invN (ladN u l 255).1.2 255)
theorem FromKeyV (l : List UInt8) (w : World) (hl : l.length = 32) : Calls Tryz.prog 51 #[.agg (keyC l)] w fun e w' => e = .returned (.agg (numV (keyV l % 57896044618658097711785492504343953926634992332820282019728792003956564819968 % P25)).toArray) ∧ Below w.heap.size w w' := by
 have := FromKey_any l w hl
 simp only [numC_V] at this
 exact this
theorem InvertV (v : Nat) (w : World) (hv : v < P25) : Calls Tryz.prog 56 #[.agg (numV v).toArray] w fun e w' => e = .returned (.agg (numV (invN v 255)).toArray) ∧ Below w.heap.size w w' := by
 have := InvertN_any v w hv
 simp only [numC_V] at this
 exact this
theorem BytesV (v : Nat) (w : World) : Calls Tryz.prog 54 #[.agg (numV v).toArray] w fun e w' => e = .returned (.agg (keyC (keyB v))) ∧ Below w.heap.size w w' := by
 have := BytesN_any v w
 simp only [numC_V] at this
 exact this
theorem lit_1 : (numV 1).toArray = #[.int .u64 1, .int .u64 0, .int .u64 0, .int .u64 0, .int .u64 0, .int .u64 0, .int .u64 0, .int .u64 0, .int .u64 0, .int .u64 0, .int .u64 0, .int .u64 0, .int .u64 0, .int .u64 0, .int .u64 0, .int .u64 0] := by kernel_rfl
set_option maxRecDepth 1000000 in
set_option maxHeartbeats 8000000 in
theorem RMult_any (k l : List UInt8) (w : World) (hk : k.length = 32) (hl : l.length = 32) :
  Calls Tryz.prog 27 #[.agg (keyC k), .agg (keyC l)] w fun e w' => e = .returned (.agg (keyC (keyB (mltN (clampL k) (keyV l % 57896044618658097711785492504343953926634992332820282019728792003956564819968 % P25))))) ∧ Below w.heap.size w w' := by
 have hM0 := (((((Ms.nil w).box 23 (keyC k)).box 23 (keyC l)).box 23 #[.int .u8 0, .int .u8 0, .int .u8 0, .int .u8 0, .int .u8 0, .int .u8 0, .int .u8 0, .int .u8 0, .int .u8 0, .int .u8 0, .int .u8 0, .int .u8 0, .int .u8 0, .int .u8 0, .int .u8 0, .int .u8 0, .int .u8 0, .int .u8 0, .int .u8 0, .int .u8 0, .int .u8 0, .int .u8 0, .int .u8 0, .int .u8 0, .int .u8 0, .int .u8 0, .int .u8 0, .int .u8 0, .int .u8 0, .int .u8 0, .int .u8 0, .int .u8 0])).sub (L' := [(w.heap.size, 23, keyC k), (w.heap.size + 1, 23, keyC l), (w.heap.size + 1 + 1, 23, #[.int .u8 0, .int .u8 0, .int .u8 0, .int .u8 0, .int .u8 0, .int .u8 0, .int .u8 0, .int .u8 0, .int .u8 0, .int .u8 0, .int .u8 0, .int .u8 0, .int .u8 0, .int .u8 0, .int .u8 0, .int .u8 0, .int .u8 0, .int .u8 0, .int .u8 0, .int .u8 0, .int .u8 0, .int .u8 0, .int .u8 0, .int .u8 0, .int .u8 0, .int .u8 0, .int .u8 0, .int .u8 0, .int .u8 0, .int .u8 0, .int .u8 0, .int .u8 0])]) (by simp only [World.size_alloc]; intro p hp; simp only [List.mem_cons, List.not_mem_nil, or_false] at hp ⊢; rcases hp with h | h | h <;> simp [h])
 have Hsk := Lib.hid (sizeKey hk)
 have Hsl := Lib.hid (sizeKey hl)
 have Hsc := Lib.hid (sizeKey (clampL_len hk))
 have Hoc := Lib.hid (one_keyF (clampL k))
 have Hcl := Lib.hid (clampL_len hk)
 have Hzc := Lib.hid (show (keyC k).size = (keyC (clampL k)).size by rw [keyC_size, keyC_size, hk, clampL_len hk])
 have hcl := fun wx => RClamp_any k wx hk
 have hfk := fun wx => FromKeyV l wx hl
 have Hu := Lib.hid (P25_lt (keyV l % 57896044618658097711785492504343953926634992332820282019728792003956564819968))
 generalize keyV l % 57896044618658097711785492504343953926634992332820282019728792003956564819968 % P25 = u at *
 generalize clampL k = kc at *
 clear hk hl
 go_enter Tryz.func27, Tryz.ntmps27
 go_wp2_with ((with_reducible refine tdQ 10 ?_); refine lcQ 23 (.tmp 2) (w.heap.size) (keyC k) (hM0.get 0 rfl) Tryz.underlying23 Hsk.out ?_)
 refine (hcl _).mono ?_
 rintro e w1 ⟨rfl, hb1⟩
 have hM1 := hM0.call hb1
 have hM2 := Ms.set hM1 (Nat.le_refl _) (by simp only [List.mem_cons, List.not_mem_nil, or_false]; rintro p (rfl | rfl) <;> (show _ ≠ _; simp only [ne_eq]; omega)) (keyC kc)
 clear hM0 hb1 hcl
 have hrk := hM1.get 0 rfl
 clear hM1
 go_wp2_with (first
  | ((with_reducible refine tsQ 23 ?_); refine wpList_store_row rfl 23 (.tmp 2) (.tmp 11) rfl (w.heap.size) (keyC kc) rfl rfl 23 _ (hrk) Hsc.out Hzc.out Hoc.out ?_)
  | ((with_reducible refine tdQ 12 ?_); refine lcQ 23 (.tmp 3) (w.heap.size + 1) (keyC l) (hM2.get 1 rfl) Tryz.underlying23 Hsl.out ?_))
 refine (hfk _).mono ?_
 rintro e w2 ⟨rfl, hb2⟩
 have hM3 := (hM2.call hb2).put 68 #[.int .u64 0, .int .u64 0, .int .u64 0, .int .u64 0, .int .u64 0, .int .u64 0, .int .u64 0, .int .u64 0, .int .u64 0, .int .u64 0, .int .u64 0, .int .u64 0, .int .u64 0, .int .u64 0, .int .u64 0, .int .u64 0] (numV u).toArray
 have hgu := (hM2.call hb2).old.size
 have hlt2 := ((hM2.call hb2).get 2 rfl).lt
 clear hM2 hb2 hfk hrk
 go_upto_region 3 with ((with_reducible refine tsQ 68 ?_); refine srQ 68 (.tmp 5) (.tmp 13) (w2.heap.size) (numV u).toArray _ (RowC.new _ _ _) (sizeVA _) (zeroV _) (oneV _) ?_)
 refine wp_gen (fun wx => Ms w wx [(w2.heap.size, 68, (numV u).toArray), (w.heap.size, 23, keyC kc), (w.heap.size + 1, 23, keyC l), (w.heap.size + 1 + 1, 23, #[.int .u8 0, .int .u8 0, .int .u8 0, .int .u8 0, .int .u8 0, .int .u8 0, .int .u8 0, .int .u8 0, .int .u8 0, .int .u8 0, .int .u8 0, .int .u8 0, .int .u8 0, .int .u8 0, .int .u8 0, .int .u8 0, .int .u8 0, .int .u8 0, .int .u8 0, .int .u8 0, .int .u8 0, .int .u8 0, .int .u8 0, .int .u8 0, .int .u8 0, .int .u8 0, .int .u8 0, .int .u8 0, .int .u8 0, .int .u8 0, .int .u8 0, .int .u8 0])] ∧ wx.heap.size = w2.heap.size + 1) ⟨hM3, by simp [World.setRow]⟩ ?_
 clear hM3
 rintro v3 ⟨hM3, hs3⟩
 generalize w2.heap.size = gX at *
 have hM4 := hM3.box 68 #[.int .u64 1, .int .u64 0, .int .u64 0, .int .u64 0, .int .u64 0, .int .u64 0, .int .u64 0, .int .u64 0, .int .u64 0, .int .u64 0, .int .u64 0, .int .u64 0, .int .u64 0, .int .u64 0, .int .u64 0, .int .u64 0]
 rw [hs3] at hM4
 go_upto_region 4 with (fail)
 rw [← lit_1] at hM4
 rw [← lit_1]
 refine wp_gen (fun wx => Ms w wx [(gX + 1, 68, (numV 1).toArray), (gX, 68, (numV u).toArray), (w.heap.size, 23, keyC kc), (w.heap.size + 1, 23, keyC l), (w.heap.size + 1 + 1, 23, #[.int .u8 0, .int .u8 0, .int .u8 0, .int .u8 0, .int .u8 0, .int .u8 0, .int .u8 0, .int .u8 0, .int .u8 0, .int .u8 0, .int .u8 0, .int .u8 0, .int .u8 0, .int .u8 0, .int .u8 0, .int .u8 0, .int .u8 0, .int .u8 0, .int .u8 0, .int .u8 0, .int .u8 0, .int .u8 0, .int .u8 0, .int .u8 0, .int .u8 0, .int .u8 0, .int .u8 0, .int .u8 0, .int .u8 0, .int .u8 0, .int .u8 0, .int .u8 0])] ∧ wx.heap.size = gX + 1 + 1) ⟨hM4, by simp [hs3]⟩ ?_
 clear hM3 hs3 hM4
 rintro v4 ⟨hM4, hs4⟩
 have Hs4 := Lib.hid hs4
 clear hs4
 have hM5 := hM4.put 71 #[.int .u64 0, .int .u64 0, .int .u64 0, .int .u64 0, .int .u64 0, .int .u64 0, .int .u64 0, .int .u64 0, .int .u64 0, .int .u64 0, .int .u64 0, .int .u64 0, .int .u64 0, .int .u64 0, .int .u64 0, .int .u64 0, .int .u64 0, .int .u64 0, .int .u64 0, .int .u64 0, .int .u64 0, .int .u64 0, .int .u64 0, .int .u64 0, .int .u64 0, .int .u64 0, .int .u64 0, .int .u64 0, .int .u64 0, .int .u64 0, .int .u64 0, .int .u64 0] (pairV 1 0).toArray
 go_upto_region 5 with (first
  | ((with_reducible refine tdQ 15 ?_); refine lcQ 68 (.tmp 6) (gX + 1) (numV 1).toArray (hM4.get 0 rfl) Tryz.underlying68 (sizeVA _) ?_)
  | ((with_reducible refine tdQ 16 ?_); refine wpList_buildP rfl 71 #[(0, .tmp 15)] rfl #[(0, .agg (numV 1).toArray)] (by kernel_rfl) (pairV 1 0).toArray (build_pair1 _ _) ?_)
  | ((with_reducible refine tsQ 71 ?_); refine srQ 71 (.tmp 7) (.tmp 16) (v4.heap.size) (pairV 1 0).toArray _ (RowC.new _ _ _) (sizePA _ _) (zeroP _ _) (oneP _ _) ?_))
 rw [Hs4.out] at hM5 ⊢
 refine wp_gen (fun wx => Ms w wx [(gX + 1 + 1, 71, (pairV 1 0).toArray), (gX + 1, 68, (numV 1).toArray), (gX, 68, (numV u).toArray), (w.heap.size, 23, keyC kc), (w.heap.size + 1, 23, keyC l), (w.heap.size + 1 + 1, 23, #[.int .u8 0, .int .u8 0, .int .u8 0, .int .u8 0, .int .u8 0, .int .u8 0, .int .u8 0, .int .u8 0, .int .u8 0, .int .u8 0, .int .u8 0, .int .u8 0, .int .u8 0, .int .u8 0, .int .u8 0, .int .u8 0, .int .u8 0, .int .u8 0, .int .u8 0, .int .u8 0, .int .u8 0, .int .u8 0, .int .u8 0, .int .u8 0, .int .u8 0, .int .u8 0, .int .u8 0, .int .u8 0, .int .u8 0, .int .u8 0, .int .u8 0, .int .u8 0])] ∧ wx.heap.size = gX + 1 + 1 + 1) ⟨hM5, by simp [World.setRow, Hs4.out]⟩ ?_
 clear hM4 Hs4 hM5
 rintro v5 ⟨hM5, hs5⟩
 have Hs5 := Lib.hid hs5
 clear hs5
 have hM6 := hM5.put 71 #[.int .u64 0, .int .u64 0, .int .u64 0, .int .u64 0, .int .u64 0, .int .u64 0, .int .u64 0, .int .u64 0, .int .u64 0, .int .u64 0, .int .u64 0, .int .u64 0, .int .u64 0, .int .u64 0, .int .u64 0, .int .u64 0, .int .u64 0, .int .u64 0, .int .u64 0, .int .u64 0, .int .u64 0, .int .u64 0, .int .u64 0, .int .u64 0, .int .u64 0, .int .u64 0, .int .u64 0, .int .u64 0, .int .u64 0, .int .u64 0, .int .u64 0, .int .u64 0] (pairV u 1).toArray
 go_upto_region 6 with (first
  | ((with_reducible refine tdQ 17 ?_); refine lcQ 68 (.tmp 5) (gX) (numV u).toArray (hM5.get 2 rfl) Tryz.underlying68 (sizeVA _) ?_)
  | ((with_reducible refine tdQ 18 ?_); refine lcQ 68 (.tmp 6) (gX + 1) (numV 1).toArray (hM5.get 1 rfl) Tryz.underlying68 (sizeVA _) ?_)
  | ((with_reducible refine tdQ 19 ?_); refine wpList_buildP rfl 71 #[(0, .tmp 17), (1, .tmp 18)] rfl #[(0, .agg (numV u).toArray), (1, .agg (numV 1).toArray)] (by kernel_rfl) (pairV u 1).toArray (build_pair _ _ _) ?_)
  | ((with_reducible refine tsQ 71 ?_); refine srQ 71 (.tmp 8) (.tmp 19) (v5.heap.size) (pairV u 1).toArray _ (RowC.new _ _ _) (sizePA _ _) (zeroP _ _) (oneP _ _) ?_))
 rw [Hs5.out] at hM6 ⊢
 refine wp_gen (fun wx => Ms w wx [(gX + 1 + 1, 71, (pairV 1 0).toArray), (gX + 1 + 1 + 1, 71, (pairV u 1).toArray), (gX + 1, 68, (numV 1).toArray), (gX, 68, (numV u).toArray), (w.heap.size, 23, keyC kc), (w.heap.size + 1, 23, keyC l), (w.heap.size + 1 + 1, 23, #[.int .u8 0, .int .u8 0, .int .u8 0, .int .u8 0, .int .u8 0, .int .u8 0, .int .u8 0, .int .u8 0, .int .u8 0, .int .u8 0, .int .u8 0, .int .u8 0, .int .u8 0, .int .u8 0, .int .u8 0, .int .u8 0, .int .u8 0, .int .u8 0, .int .u8 0, .int .u8 0, .int .u8 0, .int .u8 0, .int .u8 0, .int .u8 0, .int .u8 0, .int .u8 0, .int .u8 0, .int .u8 0, .int .u8 0, .int .u8 0, .int .u8 0, .int .u8 0])]) (Ms.sub hM6 (by intro p hp; simp only [List.mem_cons, List.not_mem_nil, or_false] at hp ⊢; rcases hp with h | h | h | h | h | h | h <;> simp [h])) ?_
 clear hM5 Hs5 hM6
 rintro v6 hM6
 have Hlow := Lib.hid (ladN_low Hu.out kc)
 have Hg1 := Lib.hid hgu
 have Hg2 := Lib.hid hlt2
 clear hgu hlt2
 go_wp2_with fail
 go_loopw [9] (fun i wr => ∃ j : Nat, j ≤ 255 ∧ i = .int .i64 (254 - (j : Int)) ∧ Ms w wr [(gX + 1 + 1, 71, (pairV (ladN u kc j).1.1 (ladN u kc j).1.2).toArray), (gX + 1 + 1 + 1, 71, (pairV (ladN u kc j).2.1 (ladN u kc j).2.2).toArray), (gX + 1, 68, (numV 1).toArray), (gX, 68, (numV u).toArray), (w.heap.size, 23, keyC kc), (w.heap.size + 1, 23, keyC l), (w.heap.size + 1 + 1, 23, #[.int .u8 0, .int .u8 0, .int .u8 0, .int .u8 0, .int .u8 0, .int .u8 0, .int .u8 0, .int .u8 0, .int .u8 0, .int .u8 0, .int .u8 0, .int .u8 0, .int .u8 0, .int .u8 0, .int .u8 0, .int .u8 0, .int .u8 0, .int .u8 0, .int .u8 0, .int .u8 0, .int .u8 0, .int .u8 0, .int .u8 0, .int .u8 0, .int .u8 0, .int .u8 0, .int .u8 0, .int .u8 0, .int .u8 0, .int .u8 0, .int .u8 0, .int .u8 0])]) (fun i _ => (intOf i + 1).toNat)
 case atStart => exact ⟨0, by omega, rfl, hM6⟩
 case round =>
  clear hM6
  obtain ⟨j, hj, rfl, hM⟩ := hrel
  have hlo := Hlow.out j
  by_cases hlt : j < 255
  ·
   have Hst := Lib.hid (show ladN u kc (j + 1) = ladNS u (ladN u kc j) (bitK kc (254 - j)) from rfl)
   generalize ladN u kc j = st at *
   obtain ⟨⟨X, Z⟩, ⟨Y, T⟩⟩ := st
   obtain ⟨hX, hZ, hY, hT⟩ := hlo
   simp only at hX hZ hY hT hM
   obtain ⟨n, hn⟩ : ∃ n, n = 254 - j := ⟨_, rfl⟩
   rw [← hn] at Hst
   rw [show (254 : Int) - (j : Int) = (n : Int) by omega]
   have Hnext := Lib.hid (show (n : Int) - 1 = 254 - ((j + 1 : Nat) : Int) by omega)
   have Hj := Lib.hid hlt
   have hn254 : n ≤ 254 := by omega
   have hcell := (hM.get 4 rfl).cell (keyC_at (byteK_at (l := kc) (k := n / 8) (by rw [Hcl.out]; omega)))
   have hb : (byteK kc (n / 8)).toNat < 256 := (byteK kc (n / 8)).toBitVec.isLt
   have hbit : bitK kc n = ((byteK kc (n / 8)).toNat / 2 ^ (n % 8) % 2 == 1) := rfl
   have d8 : (n : Int) / 8 = ((n / 8 : Nat) : Int) := by omega
   have d8' : Int.tdiv (n : Int) 8 = ((n / 8 : Nat) : Int) := by rw [Int.tdiv_eq_ediv_of_nonneg (by omega)]; exact d8
   have m8 : (n : Int) % 8 = ((n % 8 : Nat) : Int) := by omega
   have m8' : Int.tmod (n : Int) 8 = ((n % 8 : Nat) : Int) := by rw [Int.tmod_eq_emod_of_nonneg (by omega)]; exact m8
   have w8 : IntKind.i64.wrap ((n / 8 : Nat) : Int) = ((n / 8 : Nat) : Int) := by rw [IntKind.wrap_i64]; omega
   have wn : IntKind.i64.wrap ((n : Int) - 1) = (n : Int) - 1 := by rw [IntKind.wrap_i64]; omega
   have j0 : 0 ≤ ((n / 8 : Nat) : Int) := by omega
   have j1 : ((n / 8 : Nat) : Int) < 32 := by omega
   have j2 : 0 ≤ (n : Int) := by omega
   have j3 : 0 ≤ ((n % 8 : Nat) : Int) := by omega
   have hsh : ((byteK kc (n / 8)).toNat : Int) / 2 ^ (n % 8) = (((byteK kc (n / 8)).toNat / 2 ^ (n % 8) : Nat) : Int) := by simp
   have hbb : (byteK kc (n / 8)).toNat / 2 ^ (n % 8) % 2 = 0 ∨ (byteK kc (n / 8)).toNat / 2 ^ (n % 8) % 2 = 1 := by omega
   have huN := Tryz.underlying68
   have huP := Tryz.underlying71
   have hkeep : ∀ wx : World, Below wr.heap.size wr wx → wx.rangeAt gX 0 (numV u) ∧ wx.rangeAt (gX + 1 + 1) 0 (pairV X Z) ∧ wx.rangeAt (gX + 1 + 1 + 1) 0 (pairV Y T) := fun wx hb =>
    ⟨((hM.get 3 rfl).call hb).range, ((hM.get 0 rfl).call hb).range, ((hM.get 1 rfl).call hb).range⟩
   clear hn hlt hn254 hb
   rcases hbb with h0 | h1
   ·
    have hb0 : bitK kc n = false := by rw [hbit, h0]; rfl
    rw [hb0, show ladNS u ((X, Z), (Y, T)) false = (dblN X Z, difN u X Z Y T) from rfl] at Hst
    have hr0 : (((byteK kc (n / 8)).toNat / 2 ^ (n % 8) : Nat) : Int) % 2 = 0 := by omega
    have hr0' : Int.tmod (((byteK kc (n / 8)).toNat / 2 ^ (n % 8) : Nat) : Int) 2 = 0 := by rw [Int.tmod_eq_emod_of_nonneg (Int.natCast_nonneg _)]; exact hr0
    clear hbit h0 hb0
    generalize (byteK kc (n / 8)).toNat / 2 ^ (n % 8) = y at *
    generalize (byteK kc (n / 8)).toNat = x at *
    generalize n / 8 = q at *
    generalize n % 8 = r at *
    go_wp2_with fail
    refine beginU (fun wx => wx.rangeAt gX 0 (numV u) ∧ wx.rangeAt (gX + 1 + 1) 0 (pairV X Z) ∧ wx.rangeAt (gX + 1 + 1 + 1) 0 (pairV Y T)) [6, 7] (by kernel_rfl) ?_
    have hS := hkeep _ (c_drew (c_refl _))
    refine loadU 0 (some 39) 71 (.tmp 7) (gX + 1 + 1) 0 (pairV X Z) rfl rfl (by kernel_rfl) (by kernel_rfl) (by kernel_rfl) (by kernel_rfl) (by kernel_rfl) rfl (by kernel_rfl) rfl (fun wx hSw => hSw.2.1) huP rfl (sizeP _ _) (fun _ _ _ h => h) hS ?_
    simp only [Act.put, sA, sZ, sS]
    refine loadU 2 (some 41) 68 (.tmp 5) (gX) 0 (numV u) rfl rfl (by kernel_rfl) (by kernel_rfl) (by kernel_rfl) (by kernel_rfl) (by kernel_rfl) rfl (by kernel_rfl) rfl (fun wx hSw => hSw.1) huN rfl (sizeV _) (fun _ _ _ h => h) hS ?_
    simp only [Act.put, sA, sZ, sS]
    refine loadU 3 (some 42) 71 (.tmp 7) (gX + 1 + 1) 0 (pairV X Z) rfl rfl (by kernel_rfl) (by kernel_rfl) (by kernel_rfl) (by kernel_rfl) (by kernel_rfl) rfl (by kernel_rfl) rfl (fun wx hSw => hSw.2.1) huP rfl (sizeP _ _) (fun _ _ _ h => h) hS ?_
    simp only [Act.put, sA, sZ, sS]
    refine loadU 4 (some 43) 71 (.tmp 8) (gX + 1 + 1 + 1) 0 (pairV Y T) rfl rfl (by kernel_rfl) (by kernel_rfl) (by kernel_rfl) (by kernel_rfl) (by kernel_rfl) rfl (by kernel_rfl) rfl (fun wx hSw => hSw.2.2) huP rfl (sizeP _ _) (fun _ _ _ h => h) hS ?_
    simp only [Act.put, sA, sZ, sS]
    refine oneU 1 (by kernel_rfl) rfl (fun K hK => ?_)
    go_simp
    refine (Rdouble_any X Z _ hX hZ).mono ?_
    rintro e x1 ⟨rfl, hx1⟩
    refine kp hK hkeep ?_
    clear hK K
    refine oneU 5 (by kernel_rfl) rfl (fun K hK => ?_)
    go_simp
    refine (Radd_any u X Z Y T _ Hu.out hX hZ hY hT).mono ?_
    rintro e x2 ⟨rfl, hx2⟩
    refine kp hK hkeep ?_
    clear hK K
    have hE : Below wr.heap.size wr x2 := bl
    have hM9 := hM.call hE
    refine oneU 6 (by kernel_rfl) rfl (fun K hK => ?_)
    refine step_store_row rfl 71 (.tmp 7) (.tmp 40) rfl (gX + 1 + 1) (pairV (dblN X Z).1 (dblN X Z).2).toArray rfl rfl 71 _ (hM9.get 0 rfl) (sizePA _ _) (sameP _ _ _ _) (oneP _ _) ?_
    refine hK.out _ _ (fun h => absurd (show 6 ∈ [6, 7] by decide) h) ?_
    clear hK K
    refine oneU 7 (by kernel_rfl) rfl (fun K hK => ?_)
    refine step_store_row rfl 71 (.tmp 8) (.tmp 44) rfl (gX + 1 + 1 + 1) (pairV (difN u X Z Y T).1 (difN u X Z Y T).2).toArray rfl rfl 71 _ ((hM9.get 1 rfl).rowFar (by omega) _) (sizePA _ _) (sameP _ _ _ _) (oneP _ _) ?_
    refine hK.out _ _ (fun h => absurd (show 7 ∈ [6, 7] by decide) h) ?_
    clear hK K
    refine done2U (by kernel_rfl) ?_ _
    have hM10 := Ms.set2 (ds := (pairV (dblN X Z).1 (dblN X Z).2).toArray) (ds' := (pairV (difN u X Z Y T).1 (difN u X Z Y T).2).toArray) hM9 (by have h1 := Hg1.out; omega) (by have h1 := Hg1.out; omega) (by omega) (by have h1 := Hg1.out; have h2 := Hg2.out; simp only [List.mem_cons, List.not_mem_nil, or_false]; rintro p (rfl | rfl | rfl | rfl | rfl) <;> (show _ ≠ _; simp only [ne_eq]; omega)) (by have h1 := Hg1.out; have h2 := Hg2.out; simp only [List.mem_cons, List.not_mem_nil, or_false]; rintro p (rfl | rfl | rfl | rfl | rfl) <;> (show _ ≠ _; simp only [ne_eq]; omega))
    clear hM hM9 hkeep hS hE hx1 hx2
    go_wp2_with fail
    exact ⟨⟨j + 1, Hj.out, by rw [Hnext.out], by rw [Hst.out]; exact hM10⟩, by have := Hj.out; simp [intOf]⟩
   ·
    have hb1 : bitK kc n = true := by rw [hbit, h1]; rfl
    rw [hb1, show ladNS u ((X, Z), (Y, T)) true = (difN u Y T X Z, dblN Y T) from rfl] at Hst
    have hr0 : (((byteK kc (n / 8)).toNat / 2 ^ (n % 8) : Nat) : Int) % 2 = 1 := by omega
    have hr0' : Int.tmod (((byteK kc (n / 8)).toNat / 2 ^ (n % 8) : Nat) : Int) 2 = 1 := by rw [Int.tmod_eq_emod_of_nonneg (Int.natCast_nonneg _)]; exact hr0
    clear hbit h1 hb1
    generalize (byteK kc (n / 8)).toNat / 2 ^ (n % 8) = y at *
    generalize (byteK kc (n / 8)).toNat = x at *
    generalize n / 8 = q at *
    generalize n % 8 = r at *
    go_wp2_with fail
    refine beginU (fun wx => wx.rangeAt gX 0 (numV u) ∧ wx.rangeAt (gX + 1 + 1) 0 (pairV X Z) ∧ wx.rangeAt (gX + 1 + 1 + 1) 0 (pairV Y T)) [6, 7] (by kernel_rfl) ?_
    have hS := hkeep _ (c_drew (c_refl _))
    refine loadU 0 (some 33) 68 (.tmp 5) (gX) 0 (numV u) rfl rfl (by kernel_rfl) (by kernel_rfl) (by kernel_rfl) (by kernel_rfl) (by kernel_rfl) rfl (by kernel_rfl) rfl (fun wx hSw => hSw.1) huN rfl (sizeV _) (fun _ _ _ h => h) hS ?_
    simp only [Act.put, sA, sZ, sS]
    refine loadU 1 (some 34) 71 (.tmp 8) (gX + 1 + 1 + 1) 0 (pairV Y T) rfl rfl (by kernel_rfl) (by kernel_rfl) (by kernel_rfl) (by kernel_rfl) (by kernel_rfl) rfl (by kernel_rfl) rfl (fun wx hSw => hSw.2.2) huP rfl (sizeP _ _) (fun _ _ _ h => h) hS ?_
    simp only [Act.put, sA, sZ, sS]
    refine loadU 2 (some 35) 71 (.tmp 7) (gX + 1 + 1) 0 (pairV X Z) rfl rfl (by kernel_rfl) (by kernel_rfl) (by kernel_rfl) (by kernel_rfl) (by kernel_rfl) rfl (by kernel_rfl) rfl (fun wx hSw => hSw.2.1) huP rfl (sizeP _ _) (fun _ _ _ h => h) hS ?_
    simp only [Act.put, sA, sZ, sS]
    refine loadU 4 (some 37) 71 (.tmp 8) (gX + 1 + 1 + 1) 0 (pairV Y T) rfl rfl (by kernel_rfl) (by kernel_rfl) (by kernel_rfl) (by kernel_rfl) (by kernel_rfl) rfl (by kernel_rfl) rfl (fun wx hSw => hSw.2.2) huP rfl (sizeP _ _) (fun _ _ _ h => h) hS ?_
    simp only [Act.put, sA, sZ, sS]
    refine oneU 3 (by kernel_rfl) rfl (fun K hK => ?_)
    go_simp
    refine (Radd_any u Y T X Z _ Hu.out hY hT hX hZ).mono ?_
    rintro e x1 ⟨rfl, hx1⟩
    refine kp hK hkeep ?_
    clear hK K
    refine oneU 5 (by kernel_rfl) rfl (fun K hK => ?_)
    go_simp
    refine (Rdouble_any Y T _ hY hT).mono ?_
    rintro e x2 ⟨rfl, hx2⟩
    refine kp hK hkeep ?_
    clear hK K
    have hE : Below wr.heap.size wr x2 := bl
    have hM9 := hM.call hE
    refine oneU 6 (by kernel_rfl) rfl (fun K hK => ?_)
    refine step_store_row rfl 71 (.tmp 7) (.tmp 36) rfl (gX + 1 + 1) (pairV (difN u Y T X Z).1 (difN u Y T X Z).2).toArray rfl rfl 71 _ (hM9.get 0 rfl) (sizePA _ _) (sameP _ _ _ _) (oneP _ _) ?_
    refine hK.out _ _ (fun h => absurd (show 6 ∈ [6, 7] by decide) h) ?_
    clear hK K
    refine oneU 7 (by kernel_rfl) rfl (fun K hK => ?_)
    refine step_store_row rfl 71 (.tmp 8) (.tmp 38) rfl (gX + 1 + 1 + 1) (pairV (dblN Y T).1 (dblN Y T).2).toArray rfl rfl 71 _ ((hM9.get 1 rfl).rowFar (by omega) _) (sizePA _ _) (sameP _ _ _ _) (oneP _ _) ?_
    refine hK.out _ _ (fun h => absurd (show 7 ∈ [6, 7] by decide) h) ?_
    clear hK K
    refine done2U (by kernel_rfl) ?_ _
    have hM10 := Ms.set2 (ds := (pairV (difN u Y T X Z).1 (difN u Y T X Z).2).toArray) (ds' := (pairV (dblN Y T).1 (dblN Y T).2).toArray) hM9 (by have h1 := Hg1.out; omega) (by have h1 := Hg1.out; omega) (by omega) (by have h1 := Hg1.out; have h2 := Hg2.out; simp only [List.mem_cons, List.not_mem_nil, or_false]; rintro p (rfl | rfl | rfl | rfl | rfl) <;> (show _ ≠ _; simp only [ne_eq]; omega)) (by have h1 := Hg1.out; have h2 := Hg2.out; simp only [List.mem_cons, List.not_mem_nil, or_false]; rintro p (rfl | rfl | rfl | rfl | rfl) <;> (show _ ≠ _; simp only [ne_eq]; omega))
    clear hM hM9 hkeep hS hE hx1 hx2
    go_wp2_with fail
    exact ⟨⟨j + 1, Hj.out, by rw [Hnext.out], by rw [Hst.out]; exact hM10⟩, by have := Hj.out; simp [intOf]⟩
  ·
   obtain rfl : j = 255 := by omega
   rw [show (254 : Int) - ((255 : Nat) : Int) = -1 from rfl]
   have Hans := Lib.hid (show mltN kc u = mlN (ladN u kc 255).1.1 (invN (ladN u kc 255).1.2 255) from rfl)
   generalize ladN u kc 255 = st at *
   obtain ⟨⟨X, Z⟩, ⟨Y, T⟩⟩ := st
   obtain ⟨hX, hZ, hY, hT⟩ := hlo
   simp only at hX hZ hY hT hM Hans
   have hun := Tryz.underlying68
   have hkeep : ∀ wx : World, Below wr.heap.size wr wx → wx.rangeAt (gX + 1 + 1) 0 (numV X) ∧ wx.rangeAt (gX + 1 + 1) 16 (numV Z) := fun wx hb => ⟨((hM.get 0 rfl).call hb).fst, ((hM.get 0 rfl).call hb).snd⟩
   go_wp2_with fail
   refine beginT (fun wx => wx.rangeAt (gX + 1 + 1) 0 (numV X) ∧ wx.rangeAt (gX + 1 + 1) 16 (numV Z)) 7 (by kernel_rfl) ?_
   have hS := hkeep _ (c_drew (c_refl _))
   refine tk 0 (some 45) (.pointer (some ⟨gX + 1 + 1, 0, none⟩)) (fun _ _ _ h => h) hS ?_
   simp only [Act.put, sA, sZ, sS]
   refine ldQ 1 (some 46) 68 (.tmp 45) (gX + 1 + 1) 0 (numV X) (fun wx hSw => hSw.1) hun (sizeV _) (fun _ _ _ h => h) hS ?_
   simp only [Act.put, sA, sZ, sS]
   refine tk 2 (some 47) (.pointer (some ⟨gX + 1 + 1, 16, none⟩)) (fun _ _ _ h => h) hS ?_
   simp only [Act.put, sA, sZ, sS]
   refine ldQ 3 (some 48) 68 (.tmp 47) (gX + 1 + 1) 16 (numV Z) (fun wx hSw => hSw.2) hun (sizeV _) (fun _ _ _ h => h) hS ?_
   simp only [Act.put, sA, sZ, sS]
   refine on1 4 fun K hK => ?_
   go_simp
   refine (InvertV Z _ hZ).mono ?_
   rintro e x1 ⟨rfl, hx1⟩
   refine kp hK hkeep ?_
   clear hK K
   refine on1 5 fun K hK => ?_
   go_simp
   refine (MulV X (invN Z 255) _ hX (invN_lt _ _)).mono ?_
   rintro e x2 ⟨rfl, hx2⟩
   refine kp hK hkeep ?_
   clear hK K
   refine on1 6 fun K hK => ?_
   go_simp
   refine (BytesV (mlN X (invN Z 255)) _).mono ?_
   rintro e x3 ⟨rfl, hx3⟩
   refine kp hK hkeep ?_
   clear hK K
   have hE : Below wr.heap.size wr x3 := bl
   have hM9 := hM.call hE
   refine on1 7 fun K hK => ?_
   refine step_store_row rfl 23 (.tmp 4) (.tmp 51) rfl (w.heap.size + 1 + 1) (keyC (keyB (mlN X (invN Z 255)))) rfl rfl 23 _ (hM9.get 6 rfl) (sizeKey (keyB_len _)) (by rw [keyC_size, keyB_len]; rfl) (one_keyF _) ?_
   refine hK.out _ _ (fun h => absurd rfl h) ?_
   clear hK K
   refine doneT (by kernel_rfl) ?_ _
   go_wp2_with fail
   exact bodyPost_ret (results_cell_one rfl _ _ (w.heap.size + 1 + 1) 23 _ _ rfl ((hM9.get 6 rfl).row _) Tryz.underlying23 rfl (sizeKey (keyB_len _))) rfl ⟨by rw [Hans.out], below_setRow hM9.old (by omega) _⟩
end Go.Proofs.YtbiijdboolpaeaaGreatDoor
