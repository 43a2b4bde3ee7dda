/-
  CONTRACTS of the program's small functions of package curve: Clamp, bitOf, sums and products without their errors, and a quotient in bytes.
-/
import Derived.Test.YtimgnpcojamafaaRefCrvC
import Derived.Test.YtimgnpcojamafaaFeG
import Derived.Test.YtimgnpcojamafaaFeI
set_option linter.unusedVariables false
namespace Go.Proofs.Ytimgnpcojamafaa
open Go.RowKit

theorem and248 : ∀ x : Fin 256, bits .and .u8 ((x.val : Nat) : Int) 248 = ((x.val / 8 * 8 : Nat) : Int) := by decide +kernel
theorem and127 : ∀ x : Fin 256, bits .and .u8 ((x.val : Nat) : Int) 127 = ((x.val % 128 : Nat) : Int) := by decide +kernel
theorem or64 : ∀ x : Fin 128, bits .or .u8 ((x.val : Nat) : Int) 64 = ((x.val % 64 + 64 : Nat) : Int) := by decide +kernel

set_option maxRecDepth 100000 in
set_option maxHeartbeats 2000000 in
theorem PClamp_any (l : List UInt8) (w : World) (hl : l.length = 32) :
    Calls Try.prog 9 #[.agg (keyC l)] w fun e w' => e = .returned (.agg (keyC (clampL l))) ∧ Below w.heap.size w w' := by
  have hMb := (((Ms.nil w).box 23 (keyC l)).box 23 #[.int .u8 0, .int .u8 0, .int .u8 0, .int .u8 0, .int .u8 0, .int .u8 0, .int .u8 0, .int .u8 0, .int .u8 0, .int .u8 0, .int .u8 0, .int .u8 0, .int .u8 0, .int .u8 0, .int .u8 0, .int .u8 0, .int .u8 0, .int .u8 0, .int .u8 0, .int .u8 0, .int .u8 0, .int .u8 0, .int .u8 0, .int .u8 0, .int .u8 0, .int .u8 0, .int .u8 0, .int .u8 0, .int .u8 0, .int .u8 0, .int .u8 0, .int .u8 0]).swap
  simp only [World.size_alloc] at hMb
  go_enter Try.func9, Try.ntmps9
  go_upto_region 1 with (fail)
  refine wp_gen (fun wx => Ms w wx [(w.heap.size, 23, keyC l), (w.heap.size + 1, 23, #[.int .u8 0, .int .u8 0, .int .u8 0, .int .u8 0, .int .u8 0, .int .u8 0, .int .u8 0, .int .u8 0, .int .u8 0, .int .u8 0, .int .u8 0, .int .u8 0, .int .u8 0, .int .u8 0, .int .u8 0, .int .u8 0, .int .u8 0, .int .u8 0, .int .u8 0, .int .u8 0, .int .u8 0, .int .u8 0, .int .u8 0, .int .u8 0, .int .u8 0, .int .u8 0, .int .u8 0, .int .u8 0, .int .u8 0, .int .u8 0, .int .u8 0, .int .u8 0])]) hMb ?_
  clear hMb
  rintro v0 hM0
  have Hl := Lib.hid hl
  have c0 := (hM0.get 0 rfl).cell (keyC_at (byteK_at (l := l) (k := 0) (by omega)))
  have f0 := (hM0.get 0 rfl).frozen 0
  have hM1 := hM0.setCell (Nat.le_refl _) (by simp) 0 (.int .u8 ((byteK l 0 / 8 * 8).toNat : Int))
  rw [keyC_set] at hM1
  have hb31 : byteK (l.set 0 (byteK l 0 / 8 * 8)) 31 = byteK l 31 := by
    unfold byteK
    simp [List.getD]
  have c1 := (hM1.get 0 rfl).cell (keyC_at (byteK_at (l := l.set 0 (byteK l 0 / 8 * 8)) (k := 31) (by simp; omega)))
  rw [hb31] at c1
  have f1 := (hM1.get 0 rfl).frozen 31
  have hM2 := hM1.setCell (Nat.le_refl _) (by simp) 31 (.int .u8 ((byteK l 31 % 64 + 64).toNat : Int))
  rw [keyC_set, show (l.set 0 (byteK l 0 / 8 * 8)).set 31 (byteK l 31 % 64 + 64) = clampL l from rfl] at hM2
  have b0 : (byteK l 0).toNat < 256 := (byteK l 0).toBitVec.isLt
  have b1 : (byteK l 31).toNat < 256 := (byteK l 31).toBitVec.isLt
  have e0 := and248 ⟨_, b0⟩
  have e1 := and127 ⟨_, b1⟩
  have e2 := or64 ⟨(byteK l 31).toNat % 128, Nat.mod_lt _ (by omega)⟩
  simp only at e0 e1 e2
  rw [← u8_div8] at e0
  rw [show (byteK l 31).toNat % 128 % 64 = (byteK l 31).toNat % 64 by omega, ← u8_mod64] at e2
  have hs := Lib.hid (sizeKey (clampL_len hl))
  have ho := Lib.hid (one_keyF (clampL l))
  have hz := Lib.hid (show (#[.int .u8 0, .int .u8 0, .int .u8 0, .int .u8 0, .int .u8 0, .int .u8 0, .int .u8 0, .int .u8 0, .int .u8 0, .int .u8 0, .int .u8 0, .int .u8 0, .int .u8 0, .int .u8 0, .int .u8 0, .int .u8 0, .int .u8 0, .int .u8 0, .int .u8 0, .int .u8 0, .int .u8 0, .int .u8 0, .int .u8 0, .int .u8 0, .int .u8 0, .int .u8 0, .int .u8 0, .int .u8 0, .int .u8 0, .int .u8 0, .int .u8 0, .int .u8 0] : Array Value).size = (keyC (clampL l)).size by rw [keyC_size, clampL_len hl]; rfl)
  clear hM0 hM1 hb31 b0 b1 hl
  generalize hcc : keyC (clampL l) = cc at *
  have Hcc := Lib.hid hcc
  clear hcc
  generalize ((byteK l 31 % 64 + 64).toNat : Int) = y1 at *
  generalize ((byteK l 0 / 8 * 8).toNat : Int) = y0 at *
  generalize (byteK l 31).toNat % 128 = z1 at *
  generalize (byteK l 0).toNat = x0 at *
  generalize (byteK l 31).toNat = x1 at *
  go_wp2_with (first
    | ((with_reducible show wpList _ _ _ (⟨some 15, _, _, _, _, _⟩ :: _) _ _); refine wpList_loadC (by kernel_rfl) 23 (.tmp 1) rfl (w.heap.size) rfl 23 cc _ (hM2.get 0 rfl) Try.underlying23 rfl hs.out ?_)
    | ((with_reducible show wpList _ _ _ (⟨none, Op.store 23 _ _, _, _, _, _⟩ :: _) _ _); refine wpList_store_row rfl 23 (.tmp 2) (.tmp 15) rfl (w.heap.size + 1) cc rfl rfl 23 _ (hM2.get 1 rfl) hs.out hz.out ho.out ?_))
  exact bodyPost_ret (results_cell_one rfl _ _ (w.heap.size + 1) 23 cc _ rfl ((hM2.get 1 rfl).row cc) Try.underlying23 rfl hs.out) rfl ⟨by rw [Hcc.out], below_setRow hM2.old (by omega) _⟩

/-- a bit as a number -/
def bitI (b : Bool) : Int := if b then 1 else 0
set_option maxRecDepth 100000 in
set_option maxHeartbeats 2000000 in
theorem bitOf_any (l : List UInt8) (n : Nat) (w : World) (hl : l.length = 32) (hn : n ≤ 254) :
    Calls Try.prog 23 #[.agg (keyC l), .int .i64 (n : Int)] w fun e w' => e = .returned (.int .u64 (bitI (bitK l n))) ∧ Below w.heap.size w w' := by
  have hM0 := (Ms.nil w).box 23 (keyC l)
  have hcell := (hM0.get 0 rfl).cell (keyC_at (byteK_at (l := l) (k := n / 8) (by omega)))
  have hb : (byteK l (n / 8)).toNat < 256 := (byteK l (n / 8)).toBitVec.isLt
  have hbit : bitK l n = ((byteK l (n / 8)).toNat / 2 ^ (n % 8) % 2 == 1) := rfl
  have d8 : (n : Int) / 8 = ((n / 8 : Nat) : Int) := by omega
  have d8' : Int.tdiv (n : Int) 8 = ((n / 8 : Nat) : Int) := by rw [Int.tdiv_eq_ediv_of_nonneg (by omega)]; exact d8
  have m8 : (n : Int) % 8 = ((n % 8 : Nat) : Int) := by omega
  have m8' : Int.tmod (n : Int) 8 = ((n % 8 : Nat) : Int) := by rw [Int.tmod_eq_emod_of_nonneg (by omega)]; exact m8
  have w8 : IntKind.i64.wrap ((n / 8 : Nat) : Int) = ((n / 8 : Nat) : Int) := by rw [IntKind.wrap_i64]; omega
  have j0 : 0 ≤ ((n / 8 : Nat) : Int) := by omega
  have j1 : ((n / 8 : Nat) : Int) < 32 := by omega
  have j2 : 0 ≤ (n : Int) := by omega
  have j3 : 0 ≤ ((n % 8 : Nat) : Int) := by omega
  have hsh : ((byteK l (n / 8)).toNat : Int) / 2 ^ (n % 8) = (((byteK l (n / 8)).toNat / 2 ^ (n % 8) : Nat) : Int) := by simp
  have hlow : (byteK l (n / 8)).toNat / 2 ^ (n % 8) < 256 := Nat.lt_of_le_of_lt (Nat.div_le_self _ _) hb
  have hw : IntKind.u64.wrap (((byteK l (n / 8)).toNat / 2 ^ (n % 8) : Nat) : Int) = (((byteK l (n / 8)).toNat / 2 ^ (n % 8) : Nat) : Int) := wrap_nat rfl (by omega)
  have ha : bits .and .u64 (((byteK l (n / 8)).toNat / 2 ^ (n % 8) : Nat) : Int) 1 = bitI (bitK l n) := by
    have h := bits_and_u64_nat ((byteK l (n / 8)).toNat / 2 ^ (n % 8)) 1 (by omega) (by omega)
    rw [show ((1 : Nat) : Int) = 1 from rfl] at h
    rw [h, Nat.and_one_is_mod, hbit]
    generalize (byteK l (n / 8)).toNat / 2 ^ (n % 8) = q
    rcases Nat.mod_two_eq_zero_or_one q with h | h <;> rw [h] <;> rfl
  have Ho := Lib.hid hM0.old
  clear hbit hb hlow hM0 hl hn
  generalize bitI (bitK l n) = r at *
  generalize (byteK l (n / 8)).toNat / 2 ^ (n % 8) = y at *
  generalize (byteK l (n / 8)).toNat = x at *
  generalize n / 8 = q at *
  generalize n % 8 = s at *
  generalize keyC l = lc at *
  go_enter Try.func23, Try.ntmps23
  go_wp2_with fail
  go_ret
  exact ⟨rfl, Ho.out⟩

set_option maxRecDepth 100000 in
set_option maxHeartbeats 2000000 in
theorem cvadded_any (a b : Fe5) (w : World) (ha : MayF a) (hb : MayF b) :
    Calls Try.prog 19 #[.agg (feC a), .agg (feC b)] w fun e w' => e = .returned (.agg (feC (addQ a b))) ∧ Below w.heap.size w w' := by
  have hM0 := (((Ms.nil w).box 35 (feC a)).box 35 (feC b)).box 35 #[.int .u64 0, .int .u64 0, .int .u64 0, .int .u64 0, .int .u64 0]
  simp only [World.size_alloc] at hM0
  have hs := Lib.hid (sizeFe (addQ a b))
  have ho := Lib.hid (one_fe (addQ a b))
  have hz := Lib.hid (fe_zero (addQ a b))
  have hs0 := Lib.hid (sizeFe a)
  have hs1 := Lib.hid (sizeFe b)
  have hp := fun wx => Add_ok a b wx ha hb
  clear ha hb
  generalize feC (addQ a b) = fa at *
  generalize feC a = ca at *
  generalize feC b = cb at *
  go_enter Try.func19, Try.ntmps19
  go_wp2_with (first
    | ((with_reducible show wpList _ _ _ (⟨some 8, _, _, _, _, _⟩ :: _) _ _); refine wpList_loadC (by kernel_rfl) 35 (.tmp 2) rfl (w.heap.size) rfl 35 ca _ (hM0.get 2 rfl) Try.underlying35 rfl hs0.out ?_)
    | ((with_reducible show wpList _ _ _ (⟨some 9, _, _, _, _, _⟩ :: _) _ _); refine wpList_loadC (by kernel_rfl) 35 (.tmp 3) rfl (w.heap.size + 1) rfl 35 cb _ (hM0.get 1 rfl) Try.underlying35 rfl hs1.out ?_))
  refine (hp _).mono ?_
  rintro e w1 ⟨rfl, hb1⟩
  have hM1 := hM0.call hb1
  clear hM0 hb1
  have hP1 := hM1.put 35 #[.int .u64 0, .int .u64 0, .int .u64 0, .int .u64 0, .int .u64 0] fa
  go_wp2_with (first
    | ((with_reducible show wpList _ _ _ (⟨none, Op.store 35 _ _, _, _, _, _⟩ :: _) _ _); refine wpList_store_row rfl 35 (.tmp 5) (.tmp 11) rfl (w1.heap.size) fa rfl rfl 35 _ (RowC.new _ _ _) hs.out hz.out ho.out ?_)
    | ((with_reducible show wpList _ _ _ (⟨some 13, _, _, _, _, _⟩ :: _) _ _); refine wpList_loadC (by kernel_rfl) 35 (.tmp 5) rfl (w1.heap.size) rfl 35 fa _ (hP1.get 0 rfl) Try.underlying35 rfl hs.out ?_)
    | ((with_reducible show wpList _ _ _ (⟨none, Op.store 35 _ _, _, _, _, _⟩ :: _) _ _); refine wpList_store_row rfl 35 (.tmp 4) (.tmp 13) rfl (w.heap.size + 1 + 1) fa rfl rfl 35 _ (hP1.get 1 rfl) hs.out hz.out ho.out ?_))
  exact bodyPost_ret (results_cell_one rfl _ _ (w.heap.size + 1 + 1) 35 _ _ rfl ((hP1.get 1 rfl).row _) Try.underlying35 rfl hs.out) rfl ⟨rfl, below_setRow hP1.old (by omega) _⟩

set_option maxRecDepth 100000 in
set_option maxHeartbeats 2000000 in
theorem cvless_any (a b : Fe5) (w : World) (ha : MayF a) (hb : MayF b) :
    Calls Try.prog 20 #[.agg (feC a), .agg (feC b)] w fun e w' => e = .returned (.agg (feC (subQ a b))) ∧ Below w.heap.size w w' := by
  have hM0 := (((Ms.nil w).box 35 (feC a)).box 35 (feC b)).box 35 #[.int .u64 0, .int .u64 0, .int .u64 0, .int .u64 0, .int .u64 0]
  simp only [World.size_alloc] at hM0
  have hs := Lib.hid (sizeFe (subQ a b))
  have ho := Lib.hid (one_fe (subQ a b))
  have hz := Lib.hid (fe_zero (subQ a b))
  have hs0 := Lib.hid (sizeFe a)
  have hs1 := Lib.hid (sizeFe b)
  have hp := fun wx => Sub_ok a b wx ha hb
  clear ha hb
  generalize feC (subQ a b) = fa at *
  generalize feC a = ca at *
  generalize feC b = cb at *
  go_enter Try.func20, Try.ntmps20
  go_wp2_with (first
    | ((with_reducible show wpList _ _ _ (⟨some 8, _, _, _, _, _⟩ :: _) _ _); refine wpList_loadC (by kernel_rfl) 35 (.tmp 2) rfl (w.heap.size) rfl 35 ca _ (hM0.get 2 rfl) Try.underlying35 rfl hs0.out ?_)
    | ((with_reducible show wpList _ _ _ (⟨some 9, _, _, _, _, _⟩ :: _) _ _); refine wpList_loadC (by kernel_rfl) 35 (.tmp 3) rfl (w.heap.size + 1) rfl 35 cb _ (hM0.get 1 rfl) Try.underlying35 rfl hs1.out ?_))
  refine (hp _).mono ?_
  rintro e w1 ⟨rfl, hb1⟩
  have hM1 := hM0.call hb1
  clear hM0 hb1
  have hP1 := hM1.put 35 #[.int .u64 0, .int .u64 0, .int .u64 0, .int .u64 0, .int .u64 0] fa
  go_wp2_with (first
    | ((with_reducible show wpList _ _ _ (⟨none, Op.store 35 _ _, _, _, _, _⟩ :: _) _ _); refine wpList_store_row rfl 35 (.tmp 5) (.tmp 11) rfl (w1.heap.size) fa rfl rfl 35 _ (RowC.new _ _ _) hs.out hz.out ho.out ?_)
    | ((with_reducible show wpList _ _ _ (⟨some 13, _, _, _, _, _⟩ :: _) _ _); refine wpList_loadC (by kernel_rfl) 35 (.tmp 5) rfl (w1.heap.size) rfl 35 fa _ (hP1.get 0 rfl) Try.underlying35 rfl hs.out ?_)
    | ((with_reducible show wpList _ _ _ (⟨none, Op.store 35 _ _, _, _, _, _⟩ :: _) _ _); refine wpList_store_row rfl 35 (.tmp 4) (.tmp 13) rfl (w.heap.size + 1 + 1) fa rfl rfl 35 _ (hP1.get 1 rfl) hs.out hz.out ho.out ?_))
  exact bodyPost_ret (results_cell_one rfl _ _ (w.heap.size + 1 + 1) 35 _ _ rfl ((hP1.get 1 rfl).row _) Try.underlying35 rfl hs.out) rfl ⟨rfl, below_setRow hP1.old (by omega) _⟩

set_option maxRecDepth 100000 in
set_option maxHeartbeats 2000000 in
theorem cvtimes_any (a b : Fe5) (w : World) (ha : MayF a) (hb : MayF b) :
    Calls Try.prog 21 #[.agg (feC a), .agg (feC b)] w fun e w' => e = .returned (.agg (feC (mulQ a b))) ∧ Below w.heap.size w w' := by
  have hM0 := (((Ms.nil w).box 35 (feC a)).box 35 (feC b)).box 35 #[.int .u64 0, .int .u64 0, .int .u64 0, .int .u64 0, .int .u64 0]
  simp only [World.size_alloc] at hM0
  have hs := Lib.hid (sizeFe (mulQ a b))
  have ho := Lib.hid (one_fe (mulQ a b))
  have hz := Lib.hid (fe_zero (mulQ a b))
  have hs0 := Lib.hid (sizeFe a)
  have hs1 := Lib.hid (sizeFe b)
  have hp := fun wx => Mul_ok a b wx ha hb
  clear ha hb
  generalize feC (mulQ a b) = fa at *
  generalize feC a = ca at *
  generalize feC b = cb at *
  go_enter Try.func21, Try.ntmps21
  go_wp2_with (first
    | ((with_reducible show wpList _ _ _ (⟨some 8, _, _, _, _, _⟩ :: _) _ _); refine wpList_loadC (by kernel_rfl) 35 (.tmp 2) rfl (w.heap.size) rfl 35 ca _ (hM0.get 2 rfl) Try.underlying35 rfl hs0.out ?_)
    | ((with_reducible show wpList _ _ _ (⟨some 9, _, _, _, _, _⟩ :: _) _ _); refine wpList_loadC (by kernel_rfl) 35 (.tmp 3) rfl (w.heap.size + 1) rfl 35 cb _ (hM0.get 1 rfl) Try.underlying35 rfl hs1.out ?_))
  refine (hp _).mono ?_
  rintro e w1 ⟨rfl, hb1⟩
  have hM1 := hM0.call hb1
  clear hM0 hb1
  have hP1 := hM1.put 35 #[.int .u64 0, .int .u64 0, .int .u64 0, .int .u64 0, .int .u64 0] fa
  go_wp2_with (first
    | ((with_reducible show wpList _ _ _ (⟨none, Op.store 35 _ _, _, _, _, _⟩ :: _) _ _); refine wpList_store_row rfl 35 (.tmp 5) (.tmp 11) rfl (w1.heap.size) fa rfl rfl 35 _ (RowC.new _ _ _) hs.out hz.out ho.out ?_)
    | ((with_reducible show wpList _ _ _ (⟨some 13, _, _, _, _, _⟩ :: _) _ _); refine wpList_loadC (by kernel_rfl) 35 (.tmp 5) rfl (w1.heap.size) rfl 35 fa _ (hP1.get 0 rfl) Try.underlying35 rfl hs.out ?_)
    | ((with_reducible show wpList _ _ _ (⟨none, Op.store 35 _ _, _, _, _, _⟩ :: _) _ _); refine wpList_store_row rfl 35 (.tmp 4) (.tmp 13) rfl (w.heap.size + 1 + 1) fa rfl rfl 35 _ (hP1.get 1 rfl) hs.out hz.out ho.out ?_))
  exact bodyPost_ret (results_cell_one rfl _ _ (w.heap.size + 1 + 1) 35 _ _ rfl ((hP1.get 1 rfl).row _) Try.underlying35 rfl hs.out) rfl ⟨rfl, below_setRow hP1.old (by omega) _⟩

set_option maxRecDepth 100000 in
set_option maxHeartbeats 2000000 in
theorem cvsquared_any (a : Fe5) (w : World) (ha : MayF a) :
    Calls Try.prog 22 #[.agg (feC a)] w fun e w' => e = .returned (.agg (feC (sqU a 1))) ∧ Below w.heap.size w w' := by
  have hM0 := ((Ms.nil w).box 35 (feC a)).box 35 #[.int .u64 0, .int .u64 0, .int .u64 0, .int .u64 0, .int .u64 0]
  simp only [World.size_alloc] at hM0
  have hs := Lib.hid (sizeFe (sqU a 1))
  have ho := Lib.hid (one_fe (sqU a 1))
  have hz := Lib.hid (fe_zero (sqU a 1))
  have hs0 := Lib.hid (sizeFe a)
  have hp := fun wx => Square_ok a 1 wx ha (by omega)
  rw [show ((1 : Nat) : Int) = 1 from rfl] at hp
  clear ha
  generalize feC (sqU a 1) = fa at *
  generalize feC a = ca at *
  go_enter Try.func22, Try.ntmps22
  go_wp2_with ((with_reducible show wpList _ _ _ (⟨some 6, _, _, _, _, _⟩ :: _) _ _); refine wpList_loadC (by kernel_rfl) 35 (.tmp 1) rfl (w.heap.size) rfl 35 ca _ (hM0.get 1 rfl) Try.underlying35 rfl hs0.out ?_)
  refine (hp _).mono ?_
  rintro e w1 ⟨rfl, hb1⟩
  have hM1 := hM0.call hb1
  clear hM0 hb1
  have hP1 := hM1.put 35 #[.int .u64 0, .int .u64 0, .int .u64 0, .int .u64 0, .int .u64 0] fa
  go_wp2_with (first
    | ((with_reducible show wpList _ _ _ (⟨none, Op.store 35 _ _, _, _, _, _⟩ :: _) _ _); refine wpList_store_row rfl 35 (.tmp 3) (.tmp 8) rfl (w1.heap.size) fa rfl rfl 35 _ (RowC.new _ _ _) hs.out hz.out ho.out ?_)
    | ((with_reducible show wpList _ _ _ (⟨some 10, _, _, _, _, _⟩ :: _) _ _); refine wpList_loadC (by kernel_rfl) 35 (.tmp 3) rfl (w1.heap.size) rfl 35 fa _ (hP1.get 0 rfl) Try.underlying35 rfl hs.out ?_)
    | ((with_reducible show wpList _ _ _ (⟨none, Op.store 35 _ _, _, _, _, _⟩ :: _) _ _); refine wpList_store_row rfl 35 (.tmp 2) (.tmp 10) rfl (w.heap.size + 1) fa rfl rfl 35 _ (hP1.get 1 rfl) hs.out hz.out ho.out ?_))
  exact bodyPost_ret (results_cell_one rfl _ _ (w.heap.size + 1) 35 _ _ rfl ((hP1.get 1 rfl).row _) Try.underlying35 rfl hs.out) rfl ⟨rfl, below_setRow hP1.old (by omega) _⟩

/-- two numbers beside each other -/
def rtL (x z : Fe5) : List Nat := [x.a0, x.a1, x.a2, x.a3, x.a4, z.a0, z.a1, z.a2, z.a3, z.a4]
def rtC (x z : Fe5) : Array Value := qC (rtL x z)
theorem infoRt : (Try.prog.info? 38).map (·.size) = some 10 := by kernel_rfl
theorem sizeRt (l : List Nat) (h : l.length = 10) : (Try.prog.info? 38).map (·.size) = some (qC l).size := by rw [infoRt, qC_size, h]
theorem sizeR (x z : Fe5) : (Try.prog.info? 38).map (·.size) = some (rtC x z).size := infoRt
theorem oneR (x z : Fe5) : (rtC x z).all (·.oneCell') = true := qC_one _
theorem zeroR (x z : Fe5) : (#[.int .u64 0, .int .u64 0, .int .u64 0, .int .u64 0, .int .u64 0, .int .u64 0, .int .u64 0, .int .u64 0, .int .u64 0, .int .u64 0] : Array Value).size = (rtC x z).size := rfl
theorem sameR (x z y t : Fe5) : (rtC x z).size = (rtC y t).size := rfl
theorem rtC_eq (x z : Fe5) : rtC x z = ((feC x).toList ++ (feC z).toList).toArray := rfl
theorem RowC.rfst {w : World} {g : Nat} {t : TypeId} {x z : Fe5} (h : RowC w g t (rtC x z)) : w.rangeAt g 0 (feC x).toList := fun j u hu => by
  rw [Nat.zero_add]
  refine h.cell ?_
  have := (List.getElem?_eq_some_iff.1 hu).1
  rw [rtC_eq]
  simp only [List.getElem?_toArray]
  rw [List.getElem?_append_left this]
  exact hu
theorem RowC.rsnd {w : World} {g : Nat} {t : TypeId} {x z : Fe5} (h : RowC w g t (rtC x z)) : w.rangeAt g 5 (feC z).toList := fun j u hu => by
  refine h.cell ?_
  rw [rtC_eq]
  simp only [List.getElem?_toArray]
  rw [List.getElem?_append_right (show (feC x).toList.length ≤ 5 + j from Nat.le_add_right 5 j), show (feC x).toList.length = 5 from rfl, show 5 + j - 5 = j by omega]
  exact hu
theorem sizeFeL (x : Fe5) : (Try.prog.info? 35).map (·.size) = some (feC x).toList.length := infoFe

set_option maxRecDepth 100000 in
set_option maxHeartbeats 2000000 in
theorem divided_any (x z : Fe5) (w : World) (hx : MayF x) (hz : MayF z) :
    Calls Try.prog 24 #[.agg (rtC x z)] w fun e w' => e = .returned (.agg (keyC (keyB (valF (mulQ x (invU z)) % P25)))) ∧ Below w.heap.size w w' := by
  have hM0 := ((Ms.nil w).box 38 (rtC x z)).box 23 #[.int .u8 0, .int .u8 0, .int .u8 0, .int .u8 0, .int .u8 0, .int .u8 0, .int .u8 0, .int .u8 0, .int .u8 0, .int .u8 0, .int .u8 0, .int .u8 0, .int .u8 0, .int .u8 0, .int .u8 0, .int .u8 0, .int .u8 0, .int .u8 0, .int .u8 0, .int .u8 0, .int .u8 0, .int .u8 0, .int .u8 0, .int .u8 0, .int .u8 0, .int .u8 0, .int .u8 0, .int .u8 0, .int .u8 0, .int .u8 0, .int .u8 0, .int .u8 0]
  simp only [World.size_alloc] at hM0
  have Hx := Lib.hid hx
  have Hz := Lib.hid hz
  have hs := Lib.hid (sizeKey (keyB_len (valF (mulQ x (invU z)) % P25)))
  have ho := Lib.hid (one_keyF (keyB (valF (mulQ x (invU z)) % P25)))
  have hzz := Lib.hid (show (#[.int .u8 0, .int .u8 0, .int .u8 0, .int .u8 0, .int .u8 0, .int .u8 0, .int .u8 0, .int .u8 0, .int .u8 0, .int .u8 0, .int .u8 0, .int .u8 0, .int .u8 0, .int .u8 0, .int .u8 0, .int .u8 0, .int .u8 0, .int .u8 0, .int .u8 0, .int .u8 0, .int .u8 0, .int .u8 0, .int .u8 0, .int .u8 0, .int .u8 0, .int .u8 0, .int .u8 0, .int .u8 0, .int .u8 0, .int .u8 0, .int .u8 0, .int .u8 0] : Array Value).size = (keyC (keyB (valF (mulQ x (invU z)) % P25))).size by rw [keyC_size, keyB_len]; rfl)
  have hi := fun wx => Invert_ok z wx Hz.out
  have ht := fun wx => cvtimes_any x (invU z) wx Hx.out (invU_may Hz.out)
  have hb := fun wx => Bytes_ok (mulQ x (invU z)) wx (mulQ_may Hx.out (invU_may Hz.out))
  generalize keyC (keyB (valF (mulQ x (invU z)) % P25)) = ck at *
  clear hx hz
  go_enter Try.func24, Try.ntmps24
  go_wp2_with ((with_reducible show wpList _ _ _ (⟨some 9, _, _, _, _, _⟩ :: _) _ _); refine wpList_load_mid rfl 35 (.tmp 8) rfl (w.heap.size) 5 rfl ((feC (z)).toList) _ ((hM0.get 1 rfl).rsnd) Try.underlying35 rfl (sizeFeL _) ?_)
  refine (hi _).mono ?_
  rintro e w1 ⟨rfl, hb1⟩
  have hP1 := (hM0.call hb1).put 35 #[.int .u64 0, .int .u64 0, .int .u64 0, .int .u64 0, .int .u64 0] (feC (invU z))
  go_wp2_with (first
    | ((with_reducible show wpList _ _ _ (⟨none, Op.store 35 _ _, _, _, _, _⟩ :: _) _ _); refine wpList_store_row rfl 35 (.tmp 3) (.tmp 11) rfl (w1.heap.size) (feC (invU z)) rfl rfl 35 _ (RowC.new _ _ _) (sizeFe _) (fe_zero _) (one_fe _) ?_)
    | ((with_reducible show wpList _ _ _ (⟨some 15, _, _, _, _, _⟩ :: _) _ _); refine wpList_load_mid rfl 35 (.tmp 14) rfl (w.heap.size) 0 rfl ((feC (x)).toList) _ ((hP1.get 2 rfl).rfst) Try.underlying35 rfl (sizeFeL _) ?_)
    | ((with_reducible show wpList _ _ _ (⟨some 16, _, _, _, _, _⟩ :: _) _ _); refine wpList_loadC (by kernel_rfl) 35 (.tmp 3) rfl (w1.heap.size) rfl 35 (feC (invU z)) _ (hP1.get 0 rfl) Try.underlying35 rfl (sizeFe _) ?_))
  refine (ht _).mono ?_
  rintro e w2 ⟨rfl, hb2⟩
  have hM2 := hP1.call hb2
  clear hP1 hM0 hb1 hb2
  go_wp2_with fail
  refine (hb _).mono ?_
  rintro e w3 ⟨rfl, hb3⟩
  have hP3 := (hM2.call hb3).put 23 #[.int .u8 0, .int .u8 0, .int .u8 0, .int .u8 0, .int .u8 0, .int .u8 0, .int .u8 0, .int .u8 0, .int .u8 0, .int .u8 0, .int .u8 0, .int .u8 0, .int .u8 0, .int .u8 0, .int .u8 0, .int .u8 0, .int .u8 0, .int .u8 0, .int .u8 0, .int .u8 0, .int .u8 0, .int .u8 0, .int .u8 0, .int .u8 0, .int .u8 0, .int .u8 0, .int .u8 0, .int .u8 0, .int .u8 0, .int .u8 0, .int .u8 0, .int .u8 0] ck
  clear hM2 hb3
  go_wp2_with (first
    | ((with_reducible show wpList _ _ _ (⟨none, Op.store 23 _ _, _, _, _, _⟩ :: _) _ _); refine wpList_store_row rfl 23 (.tmp 5) (.tmp 19) rfl (w3.heap.size) ck rfl rfl 23 _ (RowC.new _ _ _) hs.out hzz.out ho.out ?_)
    | ((with_reducible show wpList _ _ _ (⟨some 21, _, _, _, _, _⟩ :: _) _ _); refine wpList_loadC (by kernel_rfl) 23 (.tmp 5) rfl (w3.heap.size) rfl 23 ck _ (hP3.get 0 rfl) Try.underlying23 rfl hs.out ?_)
    | ((with_reducible show wpList _ _ _ (⟨none, Op.store 23 _ _, _, _, _, _⟩ :: _) _ _); refine wpList_store_row rfl 23 (.tmp 2) (.tmp 21) rfl (w.heap.size + 1) ck rfl rfl 23 _ (hP3.get 2 rfl) hs.out hzz.out ho.out ?_))
  exact bodyPost_ret (results_cell_one rfl _ _ (w.heap.size + 1) 23 _ _ rfl ((hP3.get 2 rfl).row _) Try.underlying23 rfl hs.out) rfl ⟨rfl, below_setRow hP3.old (by omega) _⟩

end Go.Proofs.Ytimgnpcojamafaa
