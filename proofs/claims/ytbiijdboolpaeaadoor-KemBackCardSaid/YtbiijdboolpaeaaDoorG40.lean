import Derived.Test.YtbiijdboolpaeaaDoorG24
import Derived.Test.YtbiijdboolpaeaaDoorG18
import Derived.Test.YtbiijdboolpaeaaDoorG04
set_option linter.unusedVariables false
namespace Go.Proofs.YtbiijdboolpaeaaDoor
open Go.RowKit
theorem and248 : ∀ x : Fin 256, bits .and .u8 ((x.val : Nat) : Int) 248 = ((x.val / 8 * 8 : Nat) : Int) := by decide +kernel
theorem and127 : ∀ x : Fin 256, bits .and .u8 ((x.val : Nat) : Int) 127 = ((x.val % 128 : Nat) : Int) := by decide +kernel
theorem or64 : ∀ x : Fin 128, bits .or .u8 ((x.val : Nat) : Int) 64 = ((x.val % 64 + 64 : Nat) : Int) := by decide +kernel
set_option maxRecDepth 100000 in
set_option maxHeartbeats 2000000 in
theorem PClamp_any (l : List UInt8) (w : World) (hl : l.length = 32) :
  Calls Tryd.prog 24 #[.agg (keyC l)] w fun e w' => e = .returned (.agg (keyC (clampL l))) ∧ Below w.heap.size w w' := by
 have hMb := (((Ms.nil w).box 23 (keyC l)).box 23 #[.int .u8 0, .int .u8 0, .int .u8 0, .int .u8 0, .int .u8 0, .int .u8 0, .int .u8 0, .int .u8 0, .int .u8 0, .int .u8 0, .int .u8 0, .int .u8 0, .int .u8 0, .int .u8 0, .int .u8 0, .int .u8 0, .int .u8 0, .int .u8 0, .int .u8 0, .int .u8 0, .int .u8 0, .int .u8 0, .int .u8 0, .int .u8 0, .int .u8 0, .int .u8 0, .int .u8 0, .int .u8 0, .int .u8 0, .int .u8 0, .int .u8 0, .int .u8 0]).swap
 simp only [World.size_alloc] at hMb
 go_enter Tryd.func24, Tryd.ntmps24
 go_upto_region 1 with (fail)
 refine wp_gen (fun wx => Ms w wx [(w.heap.size, 23, keyC l), (w.heap.size + 1, 23, #[.int .u8 0, .int .u8 0, .int .u8 0, .int .u8 0, .int .u8 0, .int .u8 0, .int .u8 0, .int .u8 0, .int .u8 0, .int .u8 0, .int .u8 0, .int .u8 0, .int .u8 0, .int .u8 0, .int .u8 0, .int .u8 0, .int .u8 0, .int .u8 0, .int .u8 0, .int .u8 0, .int .u8 0, .int .u8 0, .int .u8 0, .int .u8 0, .int .u8 0, .int .u8 0, .int .u8 0, .int .u8 0, .int .u8 0, .int .u8 0, .int .u8 0, .int .u8 0])]) hMb ?_
 clear hMb
 rintro v0 hM0
 have Hl := Lib.hid hl
 have c0 := (hM0.get 0 rfl).cell (keyC_at (byteK_at (l := l) (k := 0) (by omega)))
 have f0 := (hM0.get 0 rfl).frozen 0
 have hM1 := hM0.setCell (Nat.le_refl _) (by simp) 0 (.int .u8 ((byteK l 0 / 8 * 8).toNat : Int))
 rw [keyC_set] at hM1
 have hb31 : byteK (l.set 0 (byteK l 0 / 8 * 8)) 31 = byteK l 31 := by
  unfold byteK
  simp [List.getD]
 have c1 := (hM1.get 0 rfl).cell (keyC_at (byteK_at (l := l.set 0 (byteK l 0 / 8 * 8)) (k := 31) (by simp; omega)))
 rw [hb31] at c1
 have f1 := (hM1.get 0 rfl).frozen 31
 have hM2 := hM1.setCell (Nat.le_refl _) (by simp) 31 (.int .u8 ((byteK l 31 % 64 + 64).toNat : Int))
 rw [keyC_set, show (l.set 0 (byteK l 0 / 8 * 8)).set 31 (byteK l 31 % 64 + 64) = clampL l from rfl] at hM2
 have b0 : (byteK l 0).toNat < 256 := (byteK l 0).toBitVec.isLt
 have b1 : (byteK l 31).toNat < 256 := (byteK l 31).toBitVec.isLt
 have e0 := and248 ⟨_, b0⟩
 have e1 := and127 ⟨_, b1⟩
 have e2 := or64 ⟨(byteK l 31).toNat % 128, Nat.mod_lt _ (by omega)⟩
 simp only at e0 e1 e2
 rw [← u8_div8] at e0
 rw [show (byteK l 31).toNat % 128 % 64 = (byteK l 31).toNat % 64 by omega, ← u8_mod64] at e2
 have hs := Lib.hid (sizeKey (clampL_len hl))
 have ho := Lib.hid (one_keyF (clampL l))
 have hz := Lib.hid (zkS (l := (clampL l)) (by rw [clampL_len hl]))
 clear hM0 hM1 hb31 b0 b1 hl
 generalize hcc : keyC (clampL l) = cc at *
 have Hcc := Lib.hid hcc
 clear hcc
 generalize ((byteK l 31 % 64 + 64).toNat : Int) = y1 at *
 generalize ((byteK l 0 / 8 * 8).toNat : Int) = y0 at *
 generalize (byteK l 31).toNat % 128 = z1 at *
 generalize (byteK l 0).toNat = x0 at *
 generalize (byteK l 31).toNat = x1 at *
 go_wp2_with (first
  | ((with_reducible refine tdQ 15 ?_); refine lcQ 23 (.tmp 1) (w.heap.size) cc (hM2.get 0 rfl) Tryd.underlying23 hs.out ?_)
  | ((with_reducible refine tsQ 23 ?_); refine srQ 23 (.tmp 2) (.tmp 15) (w.heap.size + 1) cc _ (hM2.get 1 rfl) hs.out hz.out ho.out ?_))
 exact bodyPost_ret (results_cell_one rfl _ _ (w.heap.size + 1) 23 cc _ rfl ((hM2.get 1 rfl).row cc) Tryd.underlying23 rfl hs.out) rfl ⟨by rw [Hcc.out], below_setRow hM2.old (by omega) _⟩
def bitI (b : Bool) : Int := if b then 1 else 0
set_option maxRecDepth 100000 in
set_option maxHeartbeats 2000000 in
theorem bitOf_any (l : List UInt8) (n : Nat) (w : World) (hl : l.length = 32) (hn : n ≤ 254) :
  Calls Tryd.prog 32 #[.agg (keyC l), .int .i64 (n : Int)] w fun e w' => e = .returned (.int .u64 (bitI (bitK l n))) ∧ Below w.heap.size w w' := by
 have hM0 := (Ms.nil w).box 23 (keyC l)
 have hcell := (hM0.get 0 rfl).cell (keyC_at (byteK_at (l := l) (k := n / 8) (by omega)))
 have hb : (byteK l (n / 8)).toNat < 256 := (byteK l (n / 8)).toBitVec.isLt
 have hbit : bitK l n = ((byteK l (n / 8)).toNat / 2 ^ (n % 8) % 2 == 1) := rfl
 have d8 : (n : Int) / 8 = ((n / 8 : Nat) : Int) := by omega
 have d8' : Int.tdiv (n : Int) 8 = ((n / 8 : Nat) : Int) := by rw [Int.tdiv_eq_ediv_of_nonneg (by omega)]; exact d8
 have m8 : (n : Int) % 8 = ((n % 8 : Nat) : Int) := by omega
 have m8' : Int.tmod (n : Int) 8 = ((n % 8 : Nat) : Int) := by rw [Int.tmod_eq_emod_of_nonneg (by omega)]; exact m8
 have w8 : IntKind.i64.wrap ((n / 8 : Nat) : Int) = ((n / 8 : Nat) : Int) := by rw [IntKind.wrap_i64]; omega
 have j0 : 0 ≤ ((n / 8 : Nat) : Int) := by omega
 have j1 : ((n / 8 : Nat) : Int) < 32 := by omega
 have j2 : 0 ≤ (n : Int) := by omega
 have j3 : 0 ≤ ((n % 8 : Nat) : Int) := by omega
 have hsh : ((byteK l (n / 8)).toNat : Int) / 2 ^ (n % 8) = (((byteK l (n / 8)).toNat / 2 ^ (n % 8) : Nat) : Int) := by simp
 have hlow : (byteK l (n / 8)).toNat / 2 ^ (n % 8) < 256 := Nat.lt_of_le_of_lt (Nat.div_le_self _ _) hb
 have hw : IntKind.u64.wrap (((byteK l (n / 8)).toNat / 2 ^ (n % 8) : Nat) : Int) = (((byteK l (n / 8)).toNat / 2 ^ (n % 8) : Nat) : Int) := wrap_nat rfl (by omega)
 have ha : bits .and .u64 (((byteK l (n / 8)).toNat / 2 ^ (n % 8) : Nat) : Int) 1 = bitI (bitK l n) := by
  have h := bits_and_u64_nat ((byteK l (n / 8)).toNat / 2 ^ (n % 8)) 1 (by omega) (by omega)
  rw [show ((1 : Nat) : Int) = 1 from rfl] at h
  rw [h, Nat.and_one_is_mod, hbit]
  generalize (byteK l (n / 8)).toNat / 2 ^ (n % 8) = q
  rcases Nat.mod_two_eq_zero_or_one q with h | h <;> rw [h] <;> rfl
 have Ho := Lib.hid hM0.old
 clear hbit hb hlow hM0 hl hn
 generalize bitI (bitK l n) = r at *
 generalize (byteK l (n / 8)).toNat / 2 ^ (n % 8) = y at *
 generalize (byteK l (n / 8)).toNat = x at *
 generalize n / 8 = q at *
 generalize n % 8 = s at *
 generalize keyC l = lc at *
 go_enter Tryd.func32, Tryd.ntmps32
 go_wp2_with fail
 go_ret
 exact ⟨rfl, Ho.out⟩
set_option maxRecDepth 100000 in
set_option maxHeartbeats 2000000 in
theorem cvadded_any (a b : Fe5) (w : World) (ha : MayF a) (hb : MayF b) :
  Calls Tryd.prog 28 #[.agg (feC a), .agg (feC b)] w fun e w' => e = .returned (.agg (feC (addQ a b))) ∧ Below w.heap.size w w' := by
 have hM0 := (((Ms.nil w).box 50 (feC a)).box 50 (feC b)).box 50 #[.int .u64 0, .int .u64 0, .int .u64 0, .int .u64 0, .int .u64 0]
 simp only [World.size_alloc] at hM0
 have hs := Lib.hid (sizeFe (addQ a b))
 have ho := Lib.hid (one_fe (addQ a b))
 have hz := Lib.hid (fe_zero (addQ a b))
 have hs0 := Lib.hid (sizeFe a)
 have hs1 := Lib.hid (sizeFe b)
 have hp := fun wx => Add_ok a b wx ha hb
 clear ha hb
 generalize feC (addQ a b) = fa at *
 generalize feC a = ca at *
 generalize feC b = cb at *
 go_enter Tryd.func28, Tryd.ntmps28
 go_wp2_with (first
  | ((with_reducible refine tdQ 8 ?_); refine lcQ 50 (.tmp 2) (w.heap.size) ca (hM0.get 2 rfl) Tryd.underlying50 hs0.out ?_)
  | ((with_reducible refine tdQ 9 ?_); refine lcQ 50 (.tmp 3) (w.heap.size + 1) cb (hM0.get 1 rfl) Tryd.underlying50 hs1.out ?_))
 refine (hp _).mono ?_
 rintro e w1 ⟨rfl, hb1⟩
 have hM1 := hM0.call hb1
 clear hM0 hb1
 have hP1 := hM1.put 50 #[.int .u64 0, .int .u64 0, .int .u64 0, .int .u64 0, .int .u64 0] fa
 go_wp2_with (first
  | ((with_reducible refine tsQ 50 ?_); refine srQ 50 (.tmp 5) (.tmp 11) (w1.heap.size) fa _ (RowC.new _ _ _) hs.out hz.out ho.out ?_)
  | ((with_reducible refine tdQ 13 ?_); refine lcQ 50 (.tmp 5) (w1.heap.size) fa (hP1.get 0 rfl) Tryd.underlying50 hs.out ?_)
  | ((with_reducible refine tsQ 50 ?_); refine srQ 50 (.tmp 4) (.tmp 13) (w.heap.size + 1 + 1) fa _ (hP1.get 1 rfl) hs.out hz.out ho.out ?_))
 exact bodyPost_ret (results_cell_one rfl _ _ (w.heap.size + 1 + 1) 50 _ _ rfl ((hP1.get 1 rfl).row _) Tryd.underlying50 rfl hs.out) rfl ⟨rfl, below_setRow hP1.old (by omega) _⟩
set_option maxRecDepth 100000 in
set_option maxHeartbeats 2000000 in
theorem cvless_any (a b : Fe5) (w : World) (ha : MayF a) (hb : MayF b) :
  Calls Tryd.prog 29 #[.agg (feC a), .agg (feC b)] w fun e w' => e = .returned (.agg (feC (subQ a b))) ∧ Below w.heap.size w w' := by
 have hM0 := (((Ms.nil w).box 50 (feC a)).box 50 (feC b)).box 50 #[.int .u64 0, .int .u64 0, .int .u64 0, .int .u64 0, .int .u64 0]
 simp only [World.size_alloc] at hM0
 have hs := Lib.hid (sizeFe (subQ a b))
 have ho := Lib.hid (one_fe (subQ a b))
 have hz := Lib.hid (fe_zero (subQ a b))
 have hs0 := Lib.hid (sizeFe a)
 have hs1 := Lib.hid (sizeFe b)
 have hp := fun wx => Sub_ok a b wx ha hb
 clear ha hb
 generalize feC (subQ a b) = fa at *
 generalize feC a = ca at *
 generalize feC b = cb at *
 go_enter Tryd.func29, Tryd.ntmps29
 go_wp2_with (first
  | ((with_reducible refine tdQ 8 ?_); refine lcQ 50 (.tmp 2) (w.heap.size) ca (hM0.get 2 rfl) Tryd.underlying50 hs0.out ?_)
  | ((with_reducible refine tdQ 9 ?_); refine lcQ 50 (.tmp 3) (w.heap.size + 1) cb (hM0.get 1 rfl) Tryd.underlying50 hs1.out ?_))
 refine (hp _).mono ?_
 rintro e w1 ⟨rfl, hb1⟩
 have hM1 := hM0.call hb1
 clear hM0 hb1
 have hP1 := hM1.put 50 #[.int .u64 0, .int .u64 0, .int .u64 0, .int .u64 0, .int .u64 0] fa
 go_wp2_with (first
  | ((with_reducible refine tsQ 50 ?_); refine srQ 50 (.tmp 5) (.tmp 11) (w1.heap.size) fa _ (RowC.new _ _ _) hs.out hz.out ho.out ?_)
  | ((with_reducible refine tdQ 13 ?_); refine lcQ 50 (.tmp 5) (w1.heap.size) fa (hP1.get 0 rfl) Tryd.underlying50 hs.out ?_)
  | ((with_reducible refine tsQ 50 ?_); refine srQ 50 (.tmp 4) (.tmp 13) (w.heap.size + 1 + 1) fa _ (hP1.get 1 rfl) hs.out hz.out ho.out ?_))
 exact bodyPost_ret (results_cell_one rfl _ _ (w.heap.size + 1 + 1) 50 _ _ rfl ((hP1.get 1 rfl).row _) Tryd.underlying50 rfl hs.out) rfl ⟨rfl, below_setRow hP1.old (by omega) _⟩
set_option maxRecDepth 100000 in
set_option maxHeartbeats 2000000 in
theorem cvtimes_any (a b : Fe5) (w : World) (ha : MayF a) (hb : MayF b) :
  Calls Tryd.prog 30 #[.agg (feC a), .agg (feC b)] w fun e w' => e = .returned (.agg (feC (mulQ a b))) ∧ Below w.heap.size w w' := by
 have hM0 := (((Ms.nil w).box 50 (feC a)).box 50 (feC b)).box 50 #[.int .u64 0, .int .u64 0, .int .u64 0, .int .u64 0, .int .u64 0]
 simp only [World.size_alloc] at hM0
 have hs := Lib.hid (sizeFe (mulQ a b))
 have ho := Lib.hid (one_fe (mulQ a b))
 have hz := Lib.hid (fe_zero (mulQ a b))
 have hs0 := Lib.hid (sizeFe a)
 have hs1 := Lib.hid (sizeFe b)
 have hp := fun wx => Mul_ok a b wx ha hb
 clear ha hb
 generalize feC (mulQ a b) = fa at *
 generalize feC a = ca at *
 generalize feC b = cb at *
 go_enter Tryd.func30, Tryd.ntmps30
 go_wp2_with (first
  | ((with_reducible refine tdQ 8 ?_); refine lcQ 50 (.tmp 2) (w.heap.size) ca (hM0.get 2 rfl) Tryd.underlying50 hs0.out ?_)
  | ((with_reducible refine tdQ 9 ?_); refine lcQ 50 (.tmp 3) (w.heap.size + 1) cb (hM0.get 1 rfl) Tryd.underlying50 hs1.out ?_))
 refine (hp _).mono ?_
 rintro e w1 ⟨rfl, hb1⟩
 have hM1 := hM0.call hb1
 clear hM0 hb1
 have hP1 := hM1.put 50 #[.int .u64 0, .int .u64 0, .int .u64 0, .int .u64 0, .int .u64 0] fa
 go_wp2_with (first
  | ((with_reducible refine tsQ 50 ?_); refine srQ 50 (.tmp 5) (.tmp 11) (w1.heap.size) fa _ (RowC.new _ _ _) hs.out hz.out ho.out ?_)
  | ((with_reducible refine tdQ 13 ?_); refine lcQ 50 (.tmp 5) (w1.heap.size) fa (hP1.get 0 rfl) Tryd.underlying50 hs.out ?_)
  | ((with_reducible refine tsQ 50 ?_); refine srQ 50 (.tmp 4) (.tmp 13) (w.heap.size + 1 + 1) fa _ (hP1.get 1 rfl) hs.out hz.out ho.out ?_))
 exact bodyPost_ret (results_cell_one rfl _ _ (w.heap.size + 1 + 1) 50 _ _ rfl ((hP1.get 1 rfl).row _) Tryd.underlying50 rfl hs.out) rfl ⟨rfl, below_setRow hP1.old (by omega) _⟩
set_option maxRecDepth 100000 in
set_option maxHeartbeats 2000000 in
theorem cvsquared_any (a : Fe5) (w : World) (ha : MayF a) :
  Calls Tryd.prog 31 #[.agg (feC a)] w fun e w' => e = .returned (.agg (feC (sqU a 1))) ∧ Below w.heap.size w w' := by
 have hM0 := ((Ms.nil w).box 50 (feC a)).box 50 #[.int .u64 0, .int .u64 0, .int .u64 0, .int .u64 0, .int .u64 0]
 simp only [World.size_alloc] at hM0
 have hs := Lib.hid (sizeFe (sqU a 1))
 have ho := Lib.hid (one_fe (sqU a 1))
 have hz := Lib.hid (fe_zero (sqU a 1))
 have hs0 := Lib.hid (sizeFe a)
 have hp := fun wx => Square_ok a 1 wx ha (by omega)
 rw [show ((1 : Nat) : Int) = 1 from rfl] at hp
 clear ha
 generalize feC (sqU a 1) = fa at *
 generalize feC a = ca at *
 go_enter Tryd.func31, Tryd.ntmps31
 go_wp2_with ((with_reducible refine tdQ 6 ?_); refine lcQ 50 (.tmp 1) (w.heap.size) ca (hM0.get 1 rfl) Tryd.underlying50 hs0.out ?_)
 refine (hp _).mono ?_
 rintro e w1 ⟨rfl, hb1⟩
 have hM1 := hM0.call hb1
 clear hM0 hb1
 have hP1 := hM1.put 50 #[.int .u64 0, .int .u64 0, .int .u64 0, .int .u64 0, .int .u64 0] fa
 go_wp2_with (first
  | ((with_reducible refine tsQ 50 ?_); refine srQ 50 (.tmp 3) (.tmp 8) (w1.heap.size) fa _ (RowC.new _ _ _) hs.out hz.out ho.out ?_)
  | ((with_reducible refine tdQ 10 ?_); refine lcQ 50 (.tmp 3) (w1.heap.size) fa (hP1.get 0 rfl) Tryd.underlying50 hs.out ?_)
  | ((with_reducible refine tsQ 50 ?_); refine srQ 50 (.tmp 2) (.tmp 10) (w.heap.size + 1) fa _ (hP1.get 1 rfl) hs.out hz.out ho.out ?_))
 exact bodyPost_ret (results_cell_one rfl _ _ (w.heap.size + 1) 50 _ _ rfl ((hP1.get 1 rfl).row _) Tryd.underlying50 rfl hs.out) rfl ⟨rfl, below_setRow hP1.old (by omega) _⟩
def rtL (x z : Fe5) : List Nat := [x.a0, x.a1, x.a2, x.a3, x.a4, z.a0, z.a1, z.a2, z.a3, z.a4]
def rtC (x z : Fe5) : Array Value := qC (rtL x z)
theorem infoRt : (Tryd.prog.info? 53).map (·.size) = some 10 := by kernel_rfl
theorem sizeR (x z : Fe5) : (Tryd.prog.info? 53).map (·.size) = some (rtC x z).size := infoRt
theorem oneR (x z : Fe5) : (rtC x z).all (·.oneCell') = true := qC_one _
theorem zeroR (x z : Fe5) : (#[.int .u64 0, .int .u64 0, .int .u64 0, .int .u64 0, .int .u64 0, .int .u64 0, .int .u64 0, .int .u64 0, .int .u64 0, .int .u64 0] : Array Value).size = (rtC x z).size := rfl
theorem sameR (x z y t : Fe5) : (rtC x z).size = (rtC y t).size := rfl
theorem rtC_eq (x z : Fe5) : rtC x z = ((feC x).toList ++ (feC z).toList).toArray := rfl
theorem RowC.rfst {w : World} {g : Nat} {t : TypeId} {x z : Fe5} (h : RowC w g t (rtC x z)) : w.rangeAt g 0 (feC x).toList := fun j u hu => by
 rw [Nat.zero_add]
 refine h.cell ?_
 have := (List.getElem?_eq_some_iff.1 hu).1
 rw [rtC_eq]
 simp only [List.getElem?_toArray]
 rw [List.getElem?_append_left this]
 exact hu
theorem RowC.rsnd {w : World} {g : Nat} {t : TypeId} {x z : Fe5} (h : RowC w g t (rtC x z)) : w.rangeAt g 5 (feC z).toList := fun j u hu => by
 refine h.cell ?_
 rw [rtC_eq]
 simp only [List.getElem?_toArray]
 rw [List.getElem?_append_right (show (feC x).toList.length ≤ 5 + j from Nat.le_add_right 5 j), show (feC x).toList.length = 5 from rfl, show 5 + j - 5 = j by omega]
 exact hu
theorem sizeFeL (x : Fe5) : (Tryd.prog.info? 50).map (·.size) = some (feC x).toList.length := infoFe
set_option maxRecDepth 100000 in
set_option maxHeartbeats 2000000 in
theorem divided_any (x z : Fe5) (w : World) (hx : MayF x) (hz : MayF z) :
  Calls Tryd.prog 33 #[.agg (rtC x z)] w fun e w' => e = .returned (.agg (keyC (keyB (valF (mulQ x (invU z)) % P25)))) ∧ Below w.heap.size w w' := by
 have hM0 := ((Ms.nil w).box 53 (rtC x z)).box 23 #[.int .u8 0, .int .u8 0, .int .u8 0, .int .u8 0, .int .u8 0, .int .u8 0, .int .u8 0, .int .u8 0, .int .u8 0, .int .u8 0, .int .u8 0, .int .u8 0, .int .u8 0, .int .u8 0, .int .u8 0, .int .u8 0, .int .u8 0, .int .u8 0, .int .u8 0, .int .u8 0, .int .u8 0, .int .u8 0, .int .u8 0, .int .u8 0, .int .u8 0, .int .u8 0, .int .u8 0, .int .u8 0, .int .u8 0, .int .u8 0, .int .u8 0, .int .u8 0]
 simp only [World.size_alloc] at hM0
 have Hx := Lib.hid hx
 have Hz := Lib.hid hz
 have hs := Lib.hid (sizeKey (keyB_len (valF (mulQ x (invU z)) % P25)))
 have ho := Lib.hid (one_keyF (keyB (valF (mulQ x (invU z)) % P25)))
 have hzz := Lib.hid (zkS (l := (keyB (valF (mulQ x (invU z)) % P25))) (by rw [keyB_len]))
 have hi := fun wx => Invert_ok z wx Hz.out
 have ht := fun wx => cvtimes_any x (invU z) wx Hx.out (invU_may Hz.out)
 have hb := fun wx => Bytes_ok (mulQ x (invU z)) wx (mulQ_may Hx.out (invU_may Hz.out))
 generalize keyC (keyB (valF (mulQ x (invU z)) % P25)) = ck at *
 clear hx hz
 go_enter Tryd.func33, Tryd.ntmps33
 go_wp2_with ((with_reducible refine tdQ 9 ?_); refine wpList_load_mid rfl 50 (.tmp 8) rfl (w.heap.size) 5 rfl ((feC (z)).toList) _ ((hM0.get 1 rfl).rsnd) Tryd.underlying50 rfl (sizeFeL _) ?_)
 refine (hi _).mono ?_
 rintro e w1 ⟨rfl, hb1⟩
 have hP1 := (hM0.call hb1).put 50 #[.int .u64 0, .int .u64 0, .int .u64 0, .int .u64 0, .int .u64 0] (feC (invU z))
 go_wp2_with (first
  | ((with_reducible refine tsQ 50 ?_); refine srQ 50 (.tmp 3) (.tmp 11) (w1.heap.size) (feC (invU z)) _ (RowC.new _ _ _) (sizeFe _) (fe_zero _) (one_fe _) ?_)
  | ((with_reducible refine tdQ 15 ?_); refine wpList_load_mid rfl 50 (.tmp 14) rfl (w.heap.size) 0 rfl ((feC (x)).toList) _ ((hP1.get 2 rfl).rfst) Tryd.underlying50 rfl (sizeFeL _) ?_)
  | ((with_reducible refine tdQ 16 ?_); refine lcQ 50 (.tmp 3) (w1.heap.size) (feC (invU z)) (hP1.get 0 rfl) Tryd.underlying50 (sizeFe _) ?_))
 refine (ht _).mono ?_
 rintro e w2 ⟨rfl, hb2⟩
 have hM2 := hP1.call hb2
 clear hP1 hM0 hb1 hb2
 go_wp2_with fail
 refine (hb _).mono ?_
 rintro e w3 ⟨rfl, hb3⟩
 have hP3 := (hM2.call hb3).put 23 #[.int .u8 0, .int .u8 0, .int .u8 0, .int .u8 0, .int .u8 0, .int .u8 0, .int .u8 0, .int .u8 0, .int .u8 0, .int .u8 0, .int .u8 0, .int .u8 0, .int .u8 0, .int .u8 0, .int .u8 0, .int .u8 0, .int .u8 0, .int .u8 0, .int .u8 0, .int .u8 0, .int .u8 0, .int .u8 0, .int .u8 0, .int .u8 0, .int .u8 0, .int .u8 0, .int .u8 0, .int .u8 0, .int .u8 0, .int .u8 0, .int .u8 0, .int .u8 0] ck
 clear hM2 hb3
 go_wp2_with (first
  | ((with_reducible refine tsQ 23 ?_); refine srQ 23 (.tmp 5) (.tmp 19) (w3.heap.size) ck _ (RowC.new _ _ _) hs.out hzz.out ho.out ?_)
  | ((with_reducible refine tdQ 21 ?_); refine lcQ 23 (.tmp 5) (w3.heap.size) ck (hP3.get 0 rfl) Tryd.underlying23 hs.out ?_)
  | ((with_reducible refine tsQ 23 ?_); refine srQ 23 (.tmp 2) (.tmp 21) (w.heap.size + 1) ck _ (hP3.get 2 rfl) hs.out hzz.out ho.out ?_))
 exact bodyPost_ret (results_cell_one rfl _ _ (w.heap.size + 1) 23 _ _ rfl ((hP3.get 2 rfl).row _) Tryd.underlying23 rfl hs.out) rfl ⟨rfl, below_setRow hP3.old (by omega) _⟩
def Ans2 (f : FuncId) (a b c : Fe5) : Prop := ∀ w : World, Calls Tryd.prog f #[.agg (feC a), .agg (feC b)] w fun e w' => e = .returned (.agg (feC c)) ∧ Below w.heap.size w w'
def Ans1 (f : FuncId) (a c : Fe5) : Prop := ∀ w : World, Calls Tryd.prog f #[.agg (feC a)] w fun e w' => e = .returned (.agg (feC c)) ∧ Below w.heap.size w w'
def AnsX (β : Int) (a b c d a' b' c' d' : Fe5) : Prop := ∀ w : World, Calls Tryd.prog 27 #[.agg (rtC a b), .agg (rtC c d), .int .u64 β] w fun e w' => e = .returned (.tuple #[.agg (rtC a' b'), .agg (rtC c' d')]) ∧ Below w.heap.size w w'
def termF : Fe5 := ⟨121665, 0, 0, 0, 0⟩
theorem build_term (w : World) : (Instr.build 50 #[(0, .int .u64 121665)]).run Tryd.prog w = .ok (.agg (feC termF)) w := by kernel_rfl
set_option maxRecDepth 100000 in
theorem build_rt (x z : Fe5) (w : World) : (Instr.build 53 #[(0, .agg (feC x)), (1, .agg (feC z))]).run Tryd.prog w = .ok (.agg (rtC x z)) w := by kernel_rfl
theorem step_buildR {P : Program} {w : World} {ops : Array Oper} {o : Oper} {a : Act} {K : Act → World → Prop} {Q : Exit → Act → World → Prop} {E : Prop} (hgd : Region.wanted o (yielded ops a.tmps) = true) (dst : Option Tmp) (hd : o.dst = dst) (t : TypeId) (parts : Array (Nat × Operand)) (ho : o.op = .build t parts)
  (vals : Array (Nat × Value)) (hv : (parts.map fun (i, x) => (i, a.eval x)) = vals) (cells : Array Value) (hf : (Instr.build t vals).run P w = .ok (.agg cells) w)
  (h : K (a.put dst (.agg cells)) w) : if Region.wanted o (yielded ops a.tmps) = true then Oper.wp P o a w K Q else E := by
 subst hv hd
 rw [if_pos hgd]
 unfold Oper.wp execOp
 simp only [ho, Sem.run_bind, hf, Result.andThen_ok, Sem.run_pure]
 exact h
set_option maxRecDepth 1000000 in
set_option maxHeartbeats 20000000 in
theorem step_calls (w0 w : World) (L : List (Nat × TypeId × Array Value)) (gN gX gP : Nat) (β : Int) (ax az bx bz rx rz sx sz nx nz xx xz P A B C D DA CB AA BB E S1 X3 D1 Q1 Z3 X2 M1 M2 Z2 : Fe5)
  (kX : AnsX β ax az bx bz nx nz xx xz) (kY : AnsX β X2 Z2 X3 Z3 rx rz sx sz)
  (kA : Ans2 28 nx nz A) (kB : Ans2 29 nx nz B) (kC : Ans2 28 xx xz C) (kD : Ans2 29 xx xz D) (kDA : Ans2 30 D A DA) (kCB : Ans2 30 C B CB)
  (kE : Ans2 29 AA BB E) (kS1 : Ans2 28 DA CB S1) (kD1 : Ans2 29 DA CB D1) (kZ3 : Ans2 30 P Q1 Z3) (kX2 : Ans2 30 AA BB X2) (kM1 : Ans2 30 termF E M1)
  (kM2 : Ans2 28 AA M1 M2) (kZ2 : Ans2 30 E M2 Z2) (kAA : Ans1 31 A AA) (kBB : Ans1 31 B BB) (kX3 : Ans1 31 S1 X3) (kQ1 : Ans1 31 D1 Q1)
  (hNX : gN ≠ gX) (hNP : gN ≠ gP) (hXP : gX ≠ gP) (h0N : w0.heap.size ≤ gN) (h0X : w0.heap.size ≤ gX) (hL : ∀ p ∈ L, p.1 ≠ gN ∧ p.1 ≠ gX)
  (hM0 : Ms w0 w ((gN, 53, rtC ax az) :: (gX, 53, rtC bx bz) :: (gP, 50, feC P) :: L)) :
  Calls Tryd.prog 26 #[.int .u64 β, .pointer (some ⟨gN, 0, none⟩), .pointer (some ⟨gX, 0, none⟩), .pointer (some ⟨gP, 0, none⟩)] w fun e w' => e = .returned (.tuple #[]) ∧ Ms w0 w' ((gN, 53, rtC rx rz) :: (gX, 53, rtC sx sz) :: (gP, 50, feC P) :: L) ∧ w.heap.size ≤ w'.heap.size := by
 have hltN := (hM0.get 0 rfl).lt
 have hltX := (hM0.get 1 rfl).lt
 have hltP := (hM0.get 2 rfl).lt
 have HL := Lib.hid hL
 clear hL
 go_enter Tryd.func26, Tryd.ntmps26
 go_wp2_with (first
  | ((with_reducible refine tdQ 15 ?_); refine lcQ 53 (.tmp 1) (gN) (rtC ax az) (hM0.get 0 rfl) Tryd.underlying53 (sizeR _ _) ?_)
  | ((with_reducible refine tdQ 16 ?_); refine lcQ 53 (.tmp 2) (gX) (rtC bx bz) (hM0.get 1 rfl) Tryd.underlying53 (sizeR _ _) ?_))
 refine (kX _).mono ?_
 rintro e w1 ⟨rfl, hb1⟩
 have hM1 := hM0.call hb1
 have hv1 : w.heap.size ≤ w1.heap.size := by have := hb1.size; skip; omega
 clear hM0 hb1
 have hM9 := Ms.set2 (ds := (rtC nx nz)) (ds' := (rtC xx xz)) hM1 h0N h0X hNX (by simp only [List.forall_mem_cons]; exact ⟨by omega, fun p hp => (HL.out p hp).1⟩) (by simp only [List.forall_mem_cons]; exact ⟨by omega, fun p hp => (HL.out p hp).2⟩)
 go_upto_region 1 with (first
  | ((with_reducible refine tsQ 53 ?_); refine srQ 53 (.tmp 1) (.tmp 19) (gN) (rtC nx nz) _ (hM1.get 0 rfl) (sizeR _ _) (sameR _ _ _ _) (oneR _ _) ?_)
  | ((with_reducible refine tsQ 53 ?_); refine srQ 53 (.tmp 2) (.tmp 20) (gX) (rtC xx xz) _ ((hM1.get 1 rfl).rowFar (Ne.symm hNX) _) (sizeR _ _) (sameR _ _ _ _) (oneR _ _) ?_))
 clear hM1
 try simp only [Act.put]
 refine wp_gen (fun wx => Ms w0 wx ((gN, 53, (rtC nx nz)) :: (gX, 53, (rtC xx xz)) :: (gP, 50, (feC P)) :: L) ∧ w.heap.size ≤ wx.heap.size) ⟨hM9, by simp [World.setRow]; omega⟩ ?_
 clear hM9
 rintro v0 ⟨hMvv0, hvv0⟩
 go_cut [5, 6] (fun p q wx => ∃ g g' : Nat, p = .pointer (some ⟨g, 0, none⟩) ∧ q = .pointer (some ⟨g', 0, none⟩) ∧ w.heap.size ≤ g ∧ w.heap.size ≤ g' ∧ w.heap.size ≤ wx.heap.size ∧ Ms w0 wx ((g, 50, (feC A)) :: (g', 50, (feC B)) :: (gN, 53, (rtC nx nz)) :: (gX, 53, (rtC xx xz)) :: (gP, 50, (feC P)) :: L))
 case first =>
  have hkeep : ∀ wx : World, Below v0.heap.size v0 wx → wx.rangeAt (gN) 0 (feC nx).toList ∧ wx.rangeAt (gN) 5 (feC nz).toList := fun wx hb => ⟨((hMvv0.get 0 rfl).call hb).rfst, ((hMvv0.get 0 rfl).call hb).rsnd⟩
  have hun := Tryd.underlying50
  refine beginT (fun wx => wx.rangeAt (gN) 0 (feC nx).toList ∧ wx.rangeAt (gN) 5 (feC nz).toList) 13 (by kernel_rfl) ?_
  have hS := hkeep _ (c_drew (c_refl _))
  refine tk 0 (some 21) (.pointer (some ⟨gN, 0, none⟩)) (fun _ _ _ h => h) hS ?_
  simp only [Act.put, sA, sZ, sS]
  refine ldQ 1 (some 22) 50 (.tmp 21) (gN) 0 (feC nx).toList (fun wx hSw => hSw.1) hun (sizeFeL _) (fun _ _ _ h => h) hS ?_
  simp only [Act.put, sA, sZ, sS, Array.toArray_toList]
  refine tk 2 (some 23) (.pointer (some ⟨gN, 5, none⟩)) (fun _ _ _ h => h) hS ?_
  simp only [Act.put, sA, sZ, sS]
  refine ldQ 3 (some 24) 50 (.tmp 23) (gN) 5 (feC nz).toList (fun wx hSw => hSw.2) hun (sizeFeL _) (fun _ _ _ h => h) hS ?_
  simp only [Act.put, sA, sZ, sS, Array.toArray_toList]
  refine tk 5 (some 26) (.pointer (some ⟨gN, 0, none⟩)) (fun _ _ _ h => h) hS ?_
  simp only [Act.put, sA, sZ, sS]
  refine ldQ 6 (some 27) 50 (.tmp 26) (gN) 0 (feC nx).toList (fun wx hSw => hSw.1) hun (sizeFeL _) (fun _ _ _ h => h) hS ?_
  simp only [Act.put, sA, sZ, sS, Array.toArray_toList]
  refine tk 7 (some 28) (.pointer (some ⟨gN, 5, none⟩)) (fun _ _ _ h => h) hS ?_
  simp only [Act.put, sA, sZ, sS]
  refine ldQ 8 (some 29) 50 (.tmp 28) (gN) 5 (feC nz).toList (fun wx hSw => hSw.2) hun (sizeFeL _) (fun _ _ _ h => h) hS ?_
  simp only [Act.put, sA, sZ, sS, Array.toArray_toList]
  have hD := hMvv0.drew
  refine readyT [4, 10, 11] (by kernel_rfl) (by simp) (AllReadyT.cons rfl (fun K hK => ?_) (AllReadyT.cons rfl (fun K hK => ?_) (AllReadyT.cons rfl (fun K hK => ?_) AllReadyT.nil)))
  ·
   go_simp
   refine (kA _).mono ?_
   rintro e x1 ⟨rfl, hx1⟩
   refine kp hK hkeep ?_
   clear hK K
   have hN1 := hD.call hx1
   refine readyT [9, 10, 11] (by kernel_rfl) (by simp) (AllReadyT.cons rfl (fun K hK => ?_) (AllReadyT.cons rfl (fun K hK => ?_) (AllReadyT.cons rfl (fun K hK => ?_) AllReadyT.nil)))
   ·
    go_simp
    refine (kB _).mono ?_
    rintro e x2 ⟨rfl, hx2⟩
    refine kp hK hkeep ?_
    clear hK K
    have hN2 := hN1.call hx2
    refine rd2 10 11 (fun K hK => ?_) fun K hK => ?_
    ·
     go_simp
     refine kp hK hkeep ?_
     clear hK K
     have hn1 := fun p hp => Nat.ne_of_lt ((hN2.rows p hp).lt)
     have hg1 := hN2.old.size
     have hN3 := hN2.box 50 #[.int .u64 0, .int .u64 0, .int .u64 0, .int .u64 0, .int .u64 0]
     try simp only [World.size_alloc] at hN3 hn1 hg1
     have hk1 : v0.heap.size ≤ x2.heap.size := (show Below v0.heap.size v0 x2 from bl).size
     refine on1 11 fun K hK => ?_
     go_simp
     refine kp hK hkeep ?_
     clear hK K
     have hn2 := fun p hp => Nat.ne_of_lt ((hN3.rows p hp).lt)
     have hg2 := hN3.old.size
     have hN4 := hN3.box 50 #[.int .u64 0, .int .u64 0, .int .u64 0, .int .u64 0, .int .u64 0]
     try simp only [World.size_alloc] at hN4 hn2 hg2
     have hk2 : v0.heap.size ≤ x2.heap.size + 1 := Nat.le_trans (show Below v0.heap.size v0 x2 from bl).size (Nat.le_succ _)
     have hsz : w.heap.size ≤ x2.heap.size + 1 + 1 := Nat.le_trans hvv0 (Nat.le_trans hk2 (Nat.le_succ _))
     have hne : (x2.heap.size : Nat) ≠ x2.heap.size + 1 := hn2 _ List.mem_cons_self
     have hset := Ms.set2 (ds := (feC A)) (ds' := (feC B)) (hN4.swap) hg1 hg2 hne hn1 (fun p hp => hn2 p (List.mem_cons_of_mem _ hp))
     refine on1 12 fun K hK => ?_
     refine step_store_row rfl 50 (.tmp 5) (.tmp 25) rfl (x2.heap.size) (feC A) rfl rfl 50 _ (hN4.get 1 rfl) (sizeFe _) (fe_zero _) (one_fe _) ?_
     refine kp hK hkeep ?_
     clear hK K
     refine on1 13 fun K hK => ?_
     refine step_store_row rfl 50 (.tmp 6) (.tmp 30) rfl (x2.heap.size + 1) (feC B) rfl rfl 50 _ ((hN4.get 0 rfl).rowFar (Ne.symm hne) _) (sizeFe _) (fe_zero _) (one_fe _) ?_
     refine hK.out _ _ (fun h => absurd rfl h) ?_
     clear hK K
     refine doneT (by kernel_rfl) ?_ _
     go_wp2_with fail
     go_meet
     exact ⟨_, _, rfl, rfl, Nat.le_trans hvv0 hk1, Nat.le_trans hvv0 hk2, by have := hsz; simp [World.setRow] at this ⊢; omega, hset⟩
    ·
     go_simp
     refine kp hK hkeep ?_
     clear hK K
     have hn1 := fun p hp => Nat.ne_of_lt ((hN2.rows p hp).lt)
     have hg1 := hN2.old.size
     have hN3 := hN2.box 50 #[.int .u64 0, .int .u64 0, .int .u64 0, .int .u64 0, .int .u64 0]
     try simp only [World.size_alloc] at hN3 hn1 hg1
     have hk1 : v0.heap.size ≤ x2.heap.size := (show Below v0.heap.size v0 x2 from bl).size
     refine on1 10 fun K hK => ?_
     go_simp
     refine kp hK hkeep ?_
     clear hK K
     have hn2 := fun p hp => Nat.ne_of_lt ((hN3.rows p hp).lt)
     have hg2 := hN3.old.size
     have hN4 := hN3.box 50 #[.int .u64 0, .int .u64 0, .int .u64 0, .int .u64 0, .int .u64 0]
     try simp only [World.size_alloc] at hN4 hn2 hg2
     have hk2 : v0.heap.size ≤ x2.heap.size + 1 := Nat.le_trans (show Below v0.heap.size v0 x2 from bl).size (Nat.le_succ _)
     have hsz : w.heap.size ≤ x2.heap.size + 1 + 1 := Nat.le_trans hvv0 (Nat.le_trans hk2 (Nat.le_succ _))
     have hne : (x2.heap.size : Nat) ≠ x2.heap.size + 1 := hn2 _ List.mem_cons_self
     have hset := Ms.set2 (ds := (feC A)) (ds' := (feC B)) (hN4) hg2 hg1 (Ne.symm hne) (fun p hp => hn2 p (List.mem_cons_of_mem _ hp)) hn1
     refine on1 12 fun K hK => ?_
     refine step_store_row rfl 50 (.tmp 5) (.tmp 25) rfl (x2.heap.size + 1) (feC A) rfl rfl 50 _ (hN4.get 0 rfl) (sizeFe _) (fe_zero _) (one_fe _) ?_
     refine kp hK hkeep ?_
     clear hK K
     refine on1 13 fun K hK => ?_
     refine step_store_row rfl 50 (.tmp 6) (.tmp 30) rfl (x2.heap.size) (feC B) rfl rfl 50 _ ((hN4.get 1 rfl).rowFar hne _) (sizeFe _) (fe_zero _) (one_fe _) ?_
     refine hK.out _ _ (fun h => absurd rfl h) ?_
     clear hK K
     refine doneT (by kernel_rfl) ?_ _
     go_wp2_with fail
     go_meet
     exact ⟨_, _, rfl, rfl, Nat.le_trans hvv0 hk2, Nat.le_trans hvv0 hk1, by have := hsz; simp [World.setRow] at this ⊢; omega, hset⟩
   ·
    go_simp
    refine kp hK hkeep ?_
    clear hK K
    have hn1 := fun p hp => Nat.ne_of_lt ((hN1.rows p hp).lt)
    have hg1 := hN1.old.size
    have hN2 := hN1.box 50 #[.int .u64 0, .int .u64 0, .int .u64 0, .int .u64 0, .int .u64 0]
    try simp only [World.size_alloc] at hN2 hn1 hg1
    have hk1 : v0.heap.size ≤ x1.heap.size := (show Below v0.heap.size v0 x1 from bl).size
    refine rd2 9 11 (fun K hK => ?_) fun K hK => ?_
    ·
     go_simp
     refine (kB _).mono ?_
     rintro e x3 ⟨rfl, hx3⟩
     refine kp hK hkeep ?_
     clear hK K
     have hN3 := hN2.call hx3
     refine on1 11 fun K hK => ?_
     go_simp
     refine kp hK hkeep ?_
     clear hK K
     have hn2 := fun p hp => Nat.ne_of_lt ((hN3.rows p hp).lt)
     have hg2 := hN3.old.size
     have hN4 := hN3.box 50 #[.int .u64 0, .int .u64 0, .int .u64 0, .int .u64 0, .int .u64 0]
     try simp only [World.size_alloc] at hN4 hn2 hg2
     have hk2 : v0.heap.size ≤ x3.heap.size := (show Below v0.heap.size v0 x3 from bl).size
     have hsz : w.heap.size ≤ x3.heap.size + 1 := Nat.le_trans hvv0 (Nat.le_trans hk2 (Nat.le_succ _))
     have hne : (x1.heap.size : Nat) ≠ x3.heap.size := hn2 _ List.mem_cons_self
     have hset := Ms.set2 (ds := (feC A)) (ds' := (feC B)) (hN4.swap) hg1 hg2 hne hn1 (fun p hp => hn2 p (List.mem_cons_of_mem _ hp))
     refine on1 12 fun K hK => ?_
     refine step_store_row rfl 50 (.tmp 5) (.tmp 25) rfl (x1.heap.size) (feC A) rfl rfl 50 _ (hN4.get 1 rfl) (sizeFe _) (fe_zero _) (one_fe _) ?_
     refine kp hK hkeep ?_
     clear hK K
     refine on1 13 fun K hK => ?_
     refine step_store_row rfl 50 (.tmp 6) (.tmp 30) rfl (x3.heap.size) (feC B) rfl rfl 50 _ ((hN4.get 0 rfl).rowFar (Ne.symm hne) _) (sizeFe _) (fe_zero _) (one_fe _) ?_
     refine hK.out _ _ (fun h => absurd rfl h) ?_
     clear hK K
     refine doneT (by kernel_rfl) ?_ _
     go_wp2_with fail
     go_meet
     exact ⟨_, _, rfl, rfl, Nat.le_trans hvv0 hk1, Nat.le_trans hvv0 hk2, by have := hsz; simp [World.setRow] at this ⊢; omega, hset⟩
    ·
     go_simp
     refine kp hK hkeep ?_
     clear hK K
     have hn2 := fun p hp => Nat.ne_of_lt ((hN2.rows p hp).lt)
     have hg2 := hN2.old.size
     have hN3 := hN2.box 50 #[.int .u64 0, .int .u64 0, .int .u64 0, .int .u64 0, .int .u64 0]
     try simp only [World.size_alloc] at hN3 hn2 hg2
     have hk2 : v0.heap.size ≤ x1.heap.size + 1 := Nat.le_trans (show Below v0.heap.size v0 x1 from bl).size (Nat.le_succ _)
     refine on1 9 fun K hK => ?_
     go_simp
     refine (kB _).mono ?_
     rintro e x4 ⟨rfl, hx4⟩
     refine kp hK hkeep ?_
     clear hK K
     have hN4 := hN3.call hx4
     have hsz : w.heap.size ≤ x4.heap.size := Nat.le_trans hvv0 (show Below v0.heap.size v0 x4 from bl).size
     have hne : (x1.heap.size : Nat) ≠ x1.heap.size + 1 := hn2 _ List.mem_cons_self
     have hset := Ms.set2 (ds := (feC A)) (ds' := (feC B)) (hN4.swap) hg1 hg2 hne hn1 (fun p hp => hn2 p (List.mem_cons_of_mem _ hp))
     refine on1 12 fun K hK => ?_
     refine step_store_row rfl 50 (.tmp 5) (.tmp 25) rfl (x1.heap.size) (feC A) rfl rfl 50 _ (hN4.get 1 rfl) (sizeFe _) (fe_zero _) (one_fe _) ?_
     refine kp hK hkeep ?_
     clear hK K
     refine on1 13 fun K hK => ?_
     refine step_store_row rfl 50 (.tmp 6) (.tmp 30) rfl (x1.heap.size + 1) (feC B) rfl rfl 50 _ ((hN4.get 0 rfl).rowFar (Ne.symm hne) _) (sizeFe _) (fe_zero _) (one_fe _) ?_
     refine hK.out _ _ (fun h => absurd rfl h) ?_
     clear hK K
     refine doneT (by kernel_rfl) ?_ _
     go_wp2_with fail
     go_meet
     exact ⟨_, _, rfl, rfl, Nat.le_trans hvv0 hk1, Nat.le_trans hvv0 hk2, by have := hsz; simp [World.setRow] at this ⊢; omega, hset⟩
   ·
    go_simp
    refine kp hK hkeep ?_
    clear hK K
    have hn1 := fun p hp => Nat.ne_of_lt ((hN1.rows p hp).lt)
    have hg1 := hN1.old.size
    have hN2 := hN1.box 50 #[.int .u64 0, .int .u64 0, .int .u64 0, .int .u64 0, .int .u64 0]
    try simp only [World.size_alloc] at hN2 hn1 hg1
    have hk1 : v0.heap.size ≤ x1.heap.size := (show Below v0.heap.size v0 x1 from bl).size
    refine rd2 9 10 (fun K hK => ?_) fun K hK => ?_
    ·
     go_simp
     refine (kB _).mono ?_
     rintro e x3 ⟨rfl, hx3⟩
     refine kp hK hkeep ?_
     clear hK K
     have hN3 := hN2.call hx3
     refine on1 10 fun K hK => ?_
     go_simp
     refine kp hK hkeep ?_
     clear hK K
     have hn2 := fun p hp => Nat.ne_of_lt ((hN3.rows p hp).lt)
     have hg2 := hN3.old.size
     have hN4 := hN3.box 50 #[.int .u64 0, .int .u64 0, .int .u64 0, .int .u64 0, .int .u64 0]
     try simp only [World.size_alloc] at hN4 hn2 hg2
     have hk2 : v0.heap.size ≤ x3.heap.size := (show Below v0.heap.size v0 x3 from bl).size
     have hsz : w.heap.size ≤ x3.heap.size + 1 := Nat.le_trans hvv0 (Nat.le_trans hk2 (Nat.le_succ _))
     have hne : (x1.heap.size : Nat) ≠ x3.heap.size := hn2 _ List.mem_cons_self
     have hset := Ms.set2 (ds := (feC A)) (ds' := (feC B)) (hN4) hg2 hg1 (Ne.symm hne) (fun p hp => hn2 p (List.mem_cons_of_mem _ hp)) hn1
     refine on1 12 fun K hK => ?_
     refine step_store_row rfl 50 (.tmp 5) (.tmp 25) rfl (x3.heap.size) (feC A) rfl rfl 50 _ (hN4.get 0 rfl) (sizeFe _) (fe_zero _) (one_fe _) ?_
     refine kp hK hkeep ?_
     clear hK K
     refine on1 13 fun K hK => ?_
     refine step_store_row rfl 50 (.tmp 6) (.tmp 30) rfl (x1.heap.size) (feC B) rfl rfl 50 _ ((hN4.get 1 rfl).rowFar hne _) (sizeFe _) (fe_zero _) (one_fe _) ?_
     refine hK.out _ _ (fun h => absurd rfl h) ?_
     clear hK K
     refine doneT (by kernel_rfl) ?_ _
     go_wp2_with fail
     go_meet
     exact ⟨_, _, rfl, rfl, Nat.le_trans hvv0 hk2, Nat.le_trans hvv0 hk1, by have := hsz; simp [World.setRow] at this ⊢; omega, hset⟩
    ·
     go_simp
     refine kp hK hkeep ?_
     clear hK K
     have hn2 := fun p hp => Nat.ne_of_lt ((hN2.rows p hp).lt)
     have hg2 := hN2.old.size
     have hN3 := hN2.box 50 #[.int .u64 0, .int .u64 0, .int .u64 0, .int .u64 0, .int .u64 0]
     try simp only [World.size_alloc] at hN3 hn2 hg2
     have hk2 : v0.heap.size ≤ x1.heap.size + 1 := Nat.le_trans (show Below v0.heap.size v0 x1 from bl).size (Nat.le_succ _)
     refine on1 9 fun K hK => ?_
     go_simp
     refine (kB _).mono ?_
     rintro e x4 ⟨rfl, hx4⟩
     refine kp hK hkeep ?_
     clear hK K
     have hN4 := hN3.call hx4
     have hsz : w.heap.size ≤ x4.heap.size := Nat.le_trans hvv0 (show Below v0.heap.size v0 x4 from bl).size
     have hne : (x1.heap.size : Nat) ≠ x1.heap.size + 1 := hn2 _ List.mem_cons_self
     have hset := Ms.set2 (ds := (feC A)) (ds' := (feC B)) (hN4) hg2 hg1 (Ne.symm hne) (fun p hp => hn2 p (List.mem_cons_of_mem _ hp)) hn1
     refine on1 12 fun K hK => ?_
     refine step_store_row rfl 50 (.tmp 5) (.tmp 25) rfl (x1.heap.size + 1) (feC A) rfl rfl 50 _ (hN4.get 0 rfl) (sizeFe _) (fe_zero _) (one_fe _) ?_
     refine kp hK hkeep ?_
     clear hK K
     refine on1 13 fun K hK => ?_
     refine step_store_row rfl 50 (.tmp 6) (.tmp 30) rfl (x1.heap.size) (feC B) rfl rfl 50 _ ((hN4.get 1 rfl).rowFar hne _) (sizeFe _) (fe_zero _) (one_fe _) ?_
     refine hK.out _ _ (fun h => absurd rfl h) ?_
     clear hK K
     refine doneT (by kernel_rfl) ?_ _
     go_wp2_with fail
     go_meet
     exact ⟨_, _, rfl, rfl, Nat.le_trans hvv0 hk2, Nat.le_trans hvv0 hk1, by have := hsz; simp [World.setRow] at this ⊢; omega, hset⟩
  ·
   go_simp
   refine kp hK hkeep ?_
   clear hK K
   have hn1 := fun p hp => Nat.ne_of_lt ((hD.rows p hp).lt)
   have hg1 := hD.old.size
   have hN1 := hD.box 50 #[.int .u64 0, .int .u64 0, .int .u64 0, .int .u64 0, .int .u64 0]
   try simp only [World.size_alloc] at hN1 hn1 hg1
   have hk1 : v0.heap.size ≤ v0.heap.size := Nat.le_refl _
   refine rd2 4 11 (fun K hK => ?_) fun K hK => ?_
   ·
    go_simp
    refine (kA _).mono ?_
    rintro e x2 ⟨rfl, hx2⟩
    refine kp hK hkeep ?_
    clear hK K
    have hN2 := hN1.call hx2
    refine rd2 9 11 (fun K hK => ?_) fun K hK => ?_
    ·
     go_simp
     refine (kB _).mono ?_
     rintro e x3 ⟨rfl, hx3⟩
     refine kp hK hkeep ?_
     clear hK K
     have hN3 := hN2.call hx3
     refine on1 11 fun K hK => ?_
     go_simp
     refine kp hK hkeep ?_
     clear hK K
     have hn2 := fun p hp => Nat.ne_of_lt ((hN3.rows p hp).lt)
     have hg2 := hN3.old.size
     have hN4 := hN3.box 50 #[.int .u64 0, .int .u64 0, .int .u64 0, .int .u64 0, .int .u64 0]
     try simp only [World.size_alloc] at hN4 hn2 hg2
     have hk2 : v0.heap.size ≤ x3.heap.size := (show Below v0.heap.size v0 x3 from bl).size
     have hsz : w.heap.size ≤ x3.heap.size + 1 := Nat.le_trans hvv0 (Nat.le_trans hk2 (Nat.le_succ _))
     have hne : (v0.heap.size : Nat) ≠ x3.heap.size := hn2 _ List.mem_cons_self
     have hset := Ms.set2 (ds := (feC A)) (ds' := (feC B)) (hN4.swap) hg1 hg2 hne hn1 (fun p hp => hn2 p (List.mem_cons_of_mem _ hp))
     refine on1 12 fun K hK => ?_
     refine step_store_row rfl 50 (.tmp 5) (.tmp 25) rfl (v0.heap.size) (feC A) rfl rfl 50 _ (hN4.get 1 rfl) (sizeFe _) (fe_zero _) (one_fe _) ?_
     refine kp hK hkeep ?_
     clear hK K
     refine on1 13 fun K hK => ?_
     refine step_store_row rfl 50 (.tmp 6) (.tmp 30) rfl (x3.heap.size) (feC B) rfl rfl 50 _ ((hN4.get 0 rfl).rowFar (Ne.symm hne) _) (sizeFe _) (fe_zero _) (one_fe _) ?_
     refine hK.out _ _ (fun h => absurd rfl h) ?_
     clear hK K
     refine doneT (by kernel_rfl) ?_ _
     go_wp2_with fail
     go_meet
     exact ⟨_, _, rfl, rfl, Nat.le_trans hvv0 hk1, Nat.le_trans hvv0 hk2, by have := hsz; simp [World.setRow] at this ⊢; omega, hset⟩
    ·
     go_simp
     refine kp hK hkeep ?_
     clear hK K
     have hn2 := fun p hp => Nat.ne_of_lt ((hN2.rows p hp).lt)
     have hg2 := hN2.old.size
     have hN3 := hN2.box 50 #[.int .u64 0, .int .u64 0, .int .u64 0, .int .u64 0, .int .u64 0]
     try simp only [World.size_alloc] at hN3 hn2 hg2
     have hk2 : v0.heap.size ≤ x2.heap.size := (show Below v0.heap.size v0 x2 from bl).size
     refine on1 9 fun K hK => ?_
     go_simp
     refine (kB _).mono ?_
     rintro e x4 ⟨rfl, hx4⟩
     refine kp hK hkeep ?_
     clear hK K
     have hN4 := hN3.call hx4
     have hsz : w.heap.size ≤ x4.heap.size := Nat.le_trans hvv0 (show Below v0.heap.size v0 x4 from bl).size
     have hne : (v0.heap.size : Nat) ≠ x2.heap.size := hn2 _ List.mem_cons_self
     have hset := Ms.set2 (ds := (feC A)) (ds' := (feC B)) (hN4.swap) hg1 hg2 hne hn1 (fun p hp => hn2 p (List.mem_cons_of_mem _ hp))
     refine on1 12 fun K hK => ?_
     refine step_store_row rfl 50 (.tmp 5) (.tmp 25) rfl (v0.heap.size) (feC A) rfl rfl 50 _ (hN4.get 1 rfl) (sizeFe _) (fe_zero _) (one_fe _) ?_
     refine kp hK hkeep ?_
     clear hK K
     refine on1 13 fun K hK => ?_
     refine step_store_row rfl 50 (.tmp 6) (.tmp 30) rfl (x2.heap.size) (feC B) rfl rfl 50 _ ((hN4.get 0 rfl).rowFar (Ne.symm hne) _) (sizeFe _) (fe_zero _) (one_fe _) ?_
     refine hK.out _ _ (fun h => absurd rfl h) ?_
     clear hK K
     refine doneT (by kernel_rfl) ?_ _
     go_wp2_with fail
     go_meet
     exact ⟨_, _, rfl, rfl, Nat.le_trans hvv0 hk1, Nat.le_trans hvv0 hk2, by have := hsz; simp [World.setRow] at this ⊢; omega, hset⟩
   ·
    go_simp
    refine kp hK hkeep ?_
    clear hK K
    have hn2 := fun p hp => Nat.ne_of_lt ((hN1.rows p hp).lt)
    have hg2 := hN1.old.size
    have hN2 := hN1.box 50 #[.int .u64 0, .int .u64 0, .int .u64 0, .int .u64 0, .int .u64 0]
    try simp only [World.size_alloc] at hN2 hn2 hg2
    have hk2 : v0.heap.size ≤ v0.heap.size + 1 := Nat.le_succ _
    refine on1 4 fun K hK => ?_
    go_simp
    refine (kA _).mono ?_
    rintro e x3 ⟨rfl, hx3⟩
    refine kp hK hkeep ?_
    clear hK K
    have hN3 := hN2.call hx3
    refine on1 9 fun K hK => ?_
    go_simp
    refine (kB _).mono ?_
    rintro e x4 ⟨rfl, hx4⟩
    refine kp hK hkeep ?_
    clear hK K
    have hN4 := hN3.call hx4
    have hsz : w.heap.size ≤ x4.heap.size := Nat.le_trans hvv0 (show Below v0.heap.size v0 x4 from bl).size
    have hne : (v0.heap.size : Nat) ≠ v0.heap.size + 1 := hn2 _ List.mem_cons_self
    have hset := Ms.set2 (ds := (feC A)) (ds' := (feC B)) (hN4.swap) hg1 hg2 hne hn1 (fun p hp => hn2 p (List.mem_cons_of_mem _ hp))
    refine on1 12 fun K hK => ?_
    refine step_store_row rfl 50 (.tmp 5) (.tmp 25) rfl (v0.heap.size) (feC A) rfl rfl 50 _ (hN4.get 1 rfl) (sizeFe _) (fe_zero _) (one_fe _) ?_
    refine kp hK hkeep ?_
    clear hK K
    refine on1 13 fun K hK => ?_
    refine step_store_row rfl 50 (.tmp 6) (.tmp 30) rfl (v0.heap.size + 1) (feC B) rfl rfl 50 _ ((hN4.get 0 rfl).rowFar (Ne.symm hne) _) (sizeFe _) (fe_zero _) (one_fe _) ?_
    refine hK.out _ _ (fun h => absurd rfl h) ?_
    clear hK K
    refine doneT (by kernel_rfl) ?_ _
    go_wp2_with fail
    go_meet
    exact ⟨_, _, rfl, rfl, Nat.le_trans hvv0 hk1, Nat.le_trans hvv0 hk2, by have := hsz; simp [World.setRow] at this ⊢; omega, hset⟩
  ·
   go_simp
   refine kp hK hkeep ?_
   clear hK K
   have hn1 := fun p hp => Nat.ne_of_lt ((hD.rows p hp).lt)
   have hg1 := hD.old.size
   have hN1 := hD.box 50 #[.int .u64 0, .int .u64 0, .int .u64 0, .int .u64 0, .int .u64 0]
   try simp only [World.size_alloc] at hN1 hn1 hg1
   have hk1 : v0.heap.size ≤ v0.heap.size := Nat.le_refl _
   refine rd2 4 10 (fun K hK => ?_) fun K hK => ?_
   ·
    go_simp
    refine (kA _).mono ?_
    rintro e x2 ⟨rfl, hx2⟩
    refine kp hK hkeep ?_
    clear hK K
    have hN2 := hN1.call hx2
    refine rd2 9 10 (fun K hK => ?_) fun K hK => ?_
    ·
     go_simp
     refine (kB _).mono ?_
     rintro e x3 ⟨rfl, hx3⟩
     refine kp hK hkeep ?_
     clear hK K
     have hN3 := hN2.call hx3
     refine on1 10 fun K hK => ?_
     go_simp
     refine kp hK hkeep ?_
     clear hK K
     have hn2 := fun p hp => Nat.ne_of_lt ((hN3.rows p hp).lt)
     have hg2 := hN3.old.size
     have hN4 := hN3.box 50 #[.int .u64 0, .int .u64 0, .int .u64 0, .int .u64 0, .int .u64 0]
     try simp only [World.size_alloc] at hN4 hn2 hg2
     have hk2 : v0.heap.size ≤ x3.heap.size := (show Below v0.heap.size v0 x3 from bl).size
     have hsz : w.heap.size ≤ x3.heap.size + 1 := Nat.le_trans hvv0 (Nat.le_trans hk2 (Nat.le_succ _))
     have hne : (v0.heap.size : Nat) ≠ x3.heap.size := hn2 _ List.mem_cons_self
     have hset := Ms.set2 (ds := (feC A)) (ds' := (feC B)) (hN4) hg2 hg1 (Ne.symm hne) (fun p hp => hn2 p (List.mem_cons_of_mem _ hp)) hn1
     refine on1 12 fun K hK => ?_
     refine step_store_row rfl 50 (.tmp 5) (.tmp 25) rfl (x3.heap.size) (feC A) rfl rfl 50 _ (hN4.get 0 rfl) (sizeFe _) (fe_zero _) (one_fe _) ?_
     refine kp hK hkeep ?_
     clear hK K
     refine on1 13 fun K hK => ?_
     refine step_store_row rfl 50 (.tmp 6) (.tmp 30) rfl (v0.heap.size) (feC B) rfl rfl 50 _ ((hN4.get 1 rfl).rowFar hne _) (sizeFe _) (fe_zero _) (one_fe _) ?_
     refine hK.out _ _ (fun h => absurd rfl h) ?_
     clear hK K
     refine doneT (by kernel_rfl) ?_ _
     go_wp2_with fail
     go_meet
     exact ⟨_, _, rfl, rfl, Nat.le_trans hvv0 hk2, Nat.le_trans hvv0 hk1, by have := hsz; simp [World.setRow] at this ⊢; omega, hset⟩
    ·
     go_simp
     refine kp hK hkeep ?_
     clear hK K
     have hn2 := fun p hp => Nat.ne_of_lt ((hN2.rows p hp).lt)
     have hg2 := hN2.old.size
     have hN3 := hN2.box 50 #[.int .u64 0, .int .u64 0, .int .u64 0, .int .u64 0, .int .u64 0]
     try simp only [World.size_alloc] at hN3 hn2 hg2
     have hk2 : v0.heap.size ≤ x2.heap.size := (show Below v0.heap.size v0 x2 from bl).size
     refine on1 9 fun K hK => ?_
     go_simp
     refine (kB _).mono ?_
     rintro e x4 ⟨rfl, hx4⟩
     refine kp hK hkeep ?_
     clear hK K
     have hN4 := hN3.call hx4
     have hsz : w.heap.size ≤ x4.heap.size := Nat.le_trans hvv0 (show Below v0.heap.size v0 x4 from bl).size
     have hne : (v0.heap.size : Nat) ≠ x2.heap.size := hn2 _ List.mem_cons_self
     have hset := Ms.set2 (ds := (feC A)) (ds' := (feC B)) (hN4) hg2 hg1 (Ne.symm hne) (fun p hp => hn2 p (List.mem_cons_of_mem _ hp)) hn1
     refine on1 12 fun K hK => ?_
     refine step_store_row rfl 50 (.tmp 5) (.tmp 25) rfl (x2.heap.size) (feC A) rfl rfl 50 _ (hN4.get 0 rfl) (sizeFe _) (fe_zero _) (one_fe _) ?_
     refine kp hK hkeep ?_
     clear hK K
     refine on1 13 fun K hK => ?_
     refine step_store_row rfl 50 (.tmp 6) (.tmp 30) rfl (v0.heap.size) (feC B) rfl rfl 50 _ ((hN4.get 1 rfl).rowFar hne _) (sizeFe _) (fe_zero _) (one_fe _) ?_
     refine hK.out _ _ (fun h => absurd rfl h) ?_
     clear hK K
     refine doneT (by kernel_rfl) ?_ _
     go_wp2_with fail
     go_meet
     exact ⟨_, _, rfl, rfl, Nat.le_trans hvv0 hk2, Nat.le_trans hvv0 hk1, by have := hsz; simp [World.setRow] at this ⊢; omega, hset⟩
   ·
    go_simp
    refine kp hK hkeep ?_
    clear hK K
    have hn2 := fun p hp => Nat.ne_of_lt ((hN1.rows p hp).lt)
    have hg2 := hN1.old.size
    have hN2 := hN1.box 50 #[.int .u64 0, .int .u64 0, .int .u64 0, .int .u64 0, .int .u64 0]
    try simp only [World.size_alloc] at hN2 hn2 hg2
    have hk2 : v0.heap.size ≤ v0.heap.size + 1 := Nat.le_succ _
    refine on1 4 fun K hK => ?_
    go_simp
    refine (kA _).mono ?_
    rintro e x3 ⟨rfl, hx3⟩
    refine kp hK hkeep ?_
    clear hK K
    have hN3 := hN2.call hx3
    refine on1 9 fun K hK => ?_
    go_simp
    refine (kB _).mono ?_
    rintro e x4 ⟨rfl, hx4⟩
    refine kp hK hkeep ?_
    clear hK K
    have hN4 := hN3.call hx4
    have hsz : w.heap.size ≤ x4.heap.size := Nat.le_trans hvv0 (show Below v0.heap.size v0 x4 from bl).size
    have hne : (v0.heap.size : Nat) ≠ v0.heap.size + 1 := hn2 _ List.mem_cons_self
    have hset := Ms.set2 (ds := (feC A)) (ds' := (feC B)) (hN4) hg2 hg1 (Ne.symm hne) (fun p hp => hn2 p (List.mem_cons_of_mem _ hp)) hn1
    refine on1 12 fun K hK => ?_
    refine step_store_row rfl 50 (.tmp 5) (.tmp 25) rfl (v0.heap.size + 1) (feC A) rfl rfl 50 _ (hN4.get 0 rfl) (sizeFe _) (fe_zero _) (one_fe _) ?_
    refine kp hK hkeep ?_
    clear hK K
    refine on1 13 fun K hK => ?_
    refine step_store_row rfl 50 (.tmp 6) (.tmp 30) rfl (v0.heap.size) (feC B) rfl rfl 50 _ ((hN4.get 1 rfl).rowFar hne _) (sizeFe _) (fe_zero _) (one_fe _) ?_
    refine hK.out _ _ (fun h => absurd rfl h) ?_
    clear hK K
    refine doneT (by kernel_rfl) ?_ _
    go_wp2_with fail
    go_meet
    exact ⟨_, _, rfl, rfl, Nat.le_trans hvv0 hk2, Nat.le_trans hvv0 hk1, by have := hsz; simp [World.setRow] at this ⊢; omega, hset⟩
 case rest =>
  obtain ⟨gA, gB, rfl, rfl, hggA, hggB, hsc1, hMc1⟩ := hcut
  clear hMvv0
  go_upto_region 2 with (fail)
  try simp only [Act.put]
  refine wp_gen (fun wx => Ms w0 wx ((gA, 50, (feC A)) :: (gB, 50, (feC B)) :: (gN, 53, (rtC nx nz)) :: (gX, 53, (rtC xx xz)) :: (gP, 50, (feC P)) :: L) ∧ w.heap.size ≤ wx.heap.size) ⟨hMc1, hsc1⟩ ?_
  clear hMc1
  rintro v1 ⟨hMvv1, hvv1⟩
  go_cut [7, 8] (fun p q wx => ∃ g g' : Nat, p = .pointer (some ⟨g, 0, none⟩) ∧ q = .pointer (some ⟨g', 0, none⟩) ∧ w.heap.size ≤ g ∧ w.heap.size ≤ g' ∧ w.heap.size ≤ wx.heap.size ∧ Ms w0 wx ((g, 50, (feC C)) :: (g', 50, (feC D)) :: (gA, 50, (feC A)) :: (gB, 50, (feC B)) :: (gN, 53, (rtC nx nz)) :: (gX, 53, (rtC xx xz)) :: (gP, 50, (feC P)) :: L))
  case first =>
   have hkeep : ∀ wx : World, Below v1.heap.size v1 wx → wx.rangeAt (gX) 0 (feC xx).toList ∧ wx.rangeAt (gX) 5 (feC xz).toList := fun wx hb => ⟨((hMvv1.get 3 rfl).call hb).rfst, ((hMvv1.get 3 rfl).call hb).rsnd⟩
   have hun := Tryd.underlying50
   refine beginT (fun wx => wx.rangeAt (gX) 0 (feC xx).toList ∧ wx.rangeAt (gX) 5 (feC xz).toList) 13 (by kernel_rfl) ?_
   have hS := hkeep _ (c_drew (c_refl _))
   refine tk 0 (some 31) (.pointer (some ⟨gX, 0, none⟩)) (fun _ _ _ h => h) hS ?_
   simp only [Act.put, sA, sZ, sS]
   refine ldQ 1 (some 32) 50 (.tmp 31) (gX) 0 (feC xx).toList (fun wx hSw => hSw.1) hun (sizeFeL _) (fun _ _ _ h => h) hS ?_
   simp only [Act.put, sA, sZ, sS, Array.toArray_toList]
   refine tk 2 (some 33) (.pointer (some ⟨gX, 5, none⟩)) (fun _ _ _ h => h) hS ?_
   simp only [Act.put, sA, sZ, sS]
   refine ldQ 3 (some 34) 50 (.tmp 33) (gX) 5 (feC xz).toList (fun wx hSw => hSw.2) hun (sizeFeL _) (fun _ _ _ h => h) hS ?_
   simp only [Act.put, sA, sZ, sS, Array.toArray_toList]
   refine tk 5 (some 36) (.pointer (some ⟨gX, 0, none⟩)) (fun _ _ _ h => h) hS ?_
   simp only [Act.put, sA, sZ, sS]
   refine ldQ 6 (some 37) 50 (.tmp 36) (gX) 0 (feC xx).toList (fun wx hSw => hSw.1) hun (sizeFeL _) (fun _ _ _ h => h) hS ?_
   simp only [Act.put, sA, sZ, sS, Array.toArray_toList]
   refine tk 7 (some 38) (.pointer (some ⟨gX, 5, none⟩)) (fun _ _ _ h => h) hS ?_
   simp only [Act.put, sA, sZ, sS]
   refine ldQ 8 (some 39) 50 (.tmp 38) (gX) 5 (feC xz).toList (fun wx hSw => hSw.2) hun (sizeFeL _) (fun _ _ _ h => h) hS ?_
   simp only [Act.put, sA, sZ, sS, Array.toArray_toList]
   have hD := hMvv1.drew
   refine readyT [4, 10, 11] (by kernel_rfl) (by simp) (AllReadyT.cons rfl (fun K hK => ?_) (AllReadyT.cons rfl (fun K hK => ?_) (AllReadyT.cons rfl (fun K hK => ?_) AllReadyT.nil)))
   ·
    go_simp
    refine (kC _).mono ?_
    rintro e x1 ⟨rfl, hx1⟩
    refine kp hK hkeep ?_
    clear hK K
    have hN1 := hD.call hx1
    refine readyT [9, 10, 11] (by kernel_rfl) (by simp) (AllReadyT.cons rfl (fun K hK => ?_) (AllReadyT.cons rfl (fun K hK => ?_) (AllReadyT.cons rfl (fun K hK => ?_) AllReadyT.nil)))
    ·
     go_simp
     refine (kD _).mono ?_
     rintro e x2 ⟨rfl, hx2⟩
     refine kp hK hkeep ?_
     clear hK K
     have hN2 := hN1.call hx2
     refine rd2 10 11 (fun K hK => ?_) fun K hK => ?_
     ·
      go_simp
      refine kp hK hkeep ?_
      clear hK K
      have hn1 := fun p hp => Nat.ne_of_lt ((hN2.rows p hp).lt)
      have hg1 := hN2.old.size
      have hN3 := hN2.box 50 #[.int .u64 0, .int .u64 0, .int .u64 0, .int .u64 0, .int .u64 0]
      try simp only [World.size_alloc] at hN3 hn1 hg1
      have hk1 : v1.heap.size ≤ x2.heap.size := (show Below v1.heap.size v1 x2 from bl).size
      refine on1 11 fun K hK => ?_
      go_simp
      refine kp hK hkeep ?_
      clear hK K
      have hn2 := fun p hp => Nat.ne_of_lt ((hN3.rows p hp).lt)
      have hg2 := hN3.old.size
      have hN4 := hN3.box 50 #[.int .u64 0, .int .u64 0, .int .u64 0, .int .u64 0, .int .u64 0]
      try simp only [World.size_alloc] at hN4 hn2 hg2
      have hk2 : v1.heap.size ≤ x2.heap.size + 1 := Nat.le_trans (show Below v1.heap.size v1 x2 from bl).size (Nat.le_succ _)
      have hsz : w.heap.size ≤ x2.heap.size + 1 + 1 := Nat.le_trans hvv1 (Nat.le_trans hk2 (Nat.le_succ _))
      have hne : (x2.heap.size : Nat) ≠ x2.heap.size + 1 := hn2 _ List.mem_cons_self
      have hset := Ms.set2 (ds := (feC C)) (ds' := (feC D)) (hN4.swap) hg1 hg2 hne hn1 (fun p hp => hn2 p (List.mem_cons_of_mem _ hp))
      refine on1 12 fun K hK => ?_
      refine step_store_row rfl 50 (.tmp 7) (.tmp 35) rfl (x2.heap.size) (feC C) rfl rfl 50 _ (hN4.get 1 rfl) (sizeFe _) (fe_zero _) (one_fe _) ?_
      refine kp hK hkeep ?_
      clear hK K
      refine on1 13 fun K hK => ?_
      refine step_store_row rfl 50 (.tmp 8) (.tmp 40) rfl (x2.heap.size + 1) (feC D) rfl rfl 50 _ ((hN4.get 0 rfl).rowFar (Ne.symm hne) _) (sizeFe _) (fe_zero _) (one_fe _) ?_
      refine hK.out _ _ (fun h => absurd rfl h) ?_
      clear hK K
      refine doneT (by kernel_rfl) ?_ _
      go_wp2_with fail
      go_meet
      exact ⟨_, _, rfl, rfl, Nat.le_trans hvv1 hk1, Nat.le_trans hvv1 hk2, by have := hsz; simp [World.setRow] at this ⊢; omega, hset⟩
     ·
      go_simp
      refine kp hK hkeep ?_
      clear hK K
      have hn1 := fun p hp => Nat.ne_of_lt ((hN2.rows p hp).lt)
      have hg1 := hN2.old.size
      have hN3 := hN2.box 50 #[.int .u64 0, .int .u64 0, .int .u64 0, .int .u64 0, .int .u64 0]
      try simp only [World.size_alloc] at hN3 hn1 hg1
      have hk1 : v1.heap.size ≤ x2.heap.size := (show Below v1.heap.size v1 x2 from bl).size
      refine on1 10 fun K hK => ?_
      go_simp
      refine kp hK hkeep ?_
      clear hK K
      have hn2 := fun p hp => Nat.ne_of_lt ((hN3.rows p hp).lt)
      have hg2 := hN3.old.size
      have hN4 := hN3.box 50 #[.int .u64 0, .int .u64 0, .int .u64 0, .int .u64 0, .int .u64 0]
      try simp only [World.size_alloc] at hN4 hn2 hg2
      have hk2 : v1.heap.size ≤ x2.heap.size + 1 := Nat.le_trans (show Below v1.heap.size v1 x2 from bl).size (Nat.le_succ _)
      have hsz : w.heap.size ≤ x2.heap.size + 1 + 1 := Nat.le_trans hvv1 (Nat.le_trans hk2 (Nat.le_succ _))
      have hne : (x2.heap.size : Nat) ≠ x2.heap.size + 1 := hn2 _ List.mem_cons_self
      have hset := Ms.set2 (ds := (feC C)) (ds' := (feC D)) (hN4) hg2 hg1 (Ne.symm hne) (fun p hp => hn2 p (List.mem_cons_of_mem _ hp)) hn1
      refine on1 12 fun K hK => ?_
      refine step_store_row rfl 50 (.tmp 7) (.tmp 35) rfl (x2.heap.size + 1) (feC C) rfl rfl 50 _ (hN4.get 0 rfl) (sizeFe _) (fe_zero _) (one_fe _) ?_
      refine kp hK hkeep ?_
      clear hK K
      refine on1 13 fun K hK => ?_
      refine step_store_row rfl 50 (.tmp 8) (.tmp 40) rfl (x2.heap.size) (feC D) rfl rfl 50 _ ((hN4.get 1 rfl).rowFar hne _) (sizeFe _) (fe_zero _) (one_fe _) ?_
      refine hK.out _ _ (fun h => absurd rfl h) ?_
      clear hK K
      refine doneT (by kernel_rfl) ?_ _
      go_wp2_with fail
      go_meet
      exact ⟨_, _, rfl, rfl, Nat.le_trans hvv1 hk2, Nat.le_trans hvv1 hk1, by have := hsz; simp [World.setRow] at this ⊢; omega, hset⟩
    ·
     go_simp
     refine kp hK hkeep ?_
     clear hK K
     have hn1 := fun p hp => Nat.ne_of_lt ((hN1.rows p hp).lt)
     have hg1 := hN1.old.size
     have hN2 := hN1.box 50 #[.int .u64 0, .int .u64 0, .int .u64 0, .int .u64 0, .int .u64 0]
     try simp only [World.size_alloc] at hN2 hn1 hg1
     have hk1 : v1.heap.size ≤ x1.heap.size := (show Below v1.heap.size v1 x1 from bl).size
     refine rd2 9 11 (fun K hK => ?_) fun K hK => ?_
     ·
      go_simp
      refine (kD _).mono ?_
      rintro e x3 ⟨rfl, hx3⟩
      refine kp hK hkeep ?_
      clear hK K
      have hN3 := hN2.call hx3
      refine on1 11 fun K hK => ?_
      go_simp
      refine kp hK hkeep ?_
      clear hK K
      have hn2 := fun p hp => Nat.ne_of_lt ((hN3.rows p hp).lt)
      have hg2 := hN3.old.size
      have hN4 := hN3.box 50 #[.int .u64 0, .int .u64 0, .int .u64 0, .int .u64 0, .int .u64 0]
      try simp only [World.size_alloc] at hN4 hn2 hg2
      have hk2 : v1.heap.size ≤ x3.heap.size := (show Below v1.heap.size v1 x3 from bl).size
      have hsz : w.heap.size ≤ x3.heap.size + 1 := Nat.le_trans hvv1 (Nat.le_trans hk2 (Nat.le_succ _))
      have hne : (x1.heap.size : Nat) ≠ x3.heap.size := hn2 _ List.mem_cons_self
      have hset := Ms.set2 (ds := (feC C)) (ds' := (feC D)) (hN4.swap) hg1 hg2 hne hn1 (fun p hp => hn2 p (List.mem_cons_of_mem _ hp))
      refine on1 12 fun K hK => ?_
      refine step_store_row rfl 50 (.tmp 7) (.tmp 35) rfl (x1.heap.size) (feC C) rfl rfl 50 _ (hN4.get 1 rfl) (sizeFe _) (fe_zero _) (one_fe _) ?_
      refine kp hK hkeep ?_
      clear hK K
      refine on1 13 fun K hK => ?_
      refine step_store_row rfl 50 (.tmp 8) (.tmp 40) rfl (x3.heap.size) (feC D) rfl rfl 50 _ ((hN4.get 0 rfl).rowFar (Ne.symm hne) _) (sizeFe _) (fe_zero _) (one_fe _) ?_
      refine hK.out _ _ (fun h => absurd rfl h) ?_
      clear hK K
      refine doneT (by kernel_rfl) ?_ _
      go_wp2_with fail
      go_meet
      exact ⟨_, _, rfl, rfl, Nat.le_trans hvv1 hk1, Nat.le_trans hvv1 hk2, by have := hsz; simp [World.setRow] at this ⊢; omega, hset⟩
     ·
      go_simp
      refine kp hK hkeep ?_
      clear hK K
      have hn2 := fun p hp => Nat.ne_of_lt ((hN2.rows p hp).lt)
      have hg2 := hN2.old.size
      have hN3 := hN2.box 50 #[.int .u64 0, .int .u64 0, .int .u64 0, .int .u64 0, .int .u64 0]
      try simp only [World.size_alloc] at hN3 hn2 hg2
      have hk2 : v1.heap.size ≤ x1.heap.size + 1 := Nat.le_trans (show Below v1.heap.size v1 x1 from bl).size (Nat.le_succ _)
      refine on1 9 fun K hK => ?_
      go_simp
      refine (kD _).mono ?_
      rintro e x4 ⟨rfl, hx4⟩
      refine kp hK hkeep ?_
      clear hK K
      have hN4 := hN3.call hx4
      have hsz : w.heap.size ≤ x4.heap.size := Nat.le_trans hvv1 (show Below v1.heap.size v1 x4 from bl).size
      have hne : (x1.heap.size : Nat) ≠ x1.heap.size + 1 := hn2 _ List.mem_cons_self
      have hset := Ms.set2 (ds := (feC C)) (ds' := (feC D)) (hN4.swap) hg1 hg2 hne hn1 (fun p hp => hn2 p (List.mem_cons_of_mem _ hp))
      refine on1 12 fun K hK => ?_
      refine step_store_row rfl 50 (.tmp 7) (.tmp 35) rfl (x1.heap.size) (feC C) rfl rfl 50 _ (hN4.get 1 rfl) (sizeFe _) (fe_zero _) (one_fe _) ?_
      refine kp hK hkeep ?_
      clear hK K
      refine on1 13 fun K hK => ?_
      refine step_store_row rfl 50 (.tmp 8) (.tmp 40) rfl (x1.heap.size + 1) (feC D) rfl rfl 50 _ ((hN4.get 0 rfl).rowFar (Ne.symm hne) _) (sizeFe _) (fe_zero _) (one_fe _) ?_
      refine hK.out _ _ (fun h => absurd rfl h) ?_
      clear hK K
      refine doneT (by kernel_rfl) ?_ _
      go_wp2_with fail
      go_meet
      exact ⟨_, _, rfl, rfl, Nat.le_trans hvv1 hk1, Nat.le_trans hvv1 hk2, by have := hsz; simp [World.setRow] at this ⊢; omega, hset⟩
    ·
     go_simp
     refine kp hK hkeep ?_
     clear hK K
     have hn1 := fun p hp => Nat.ne_of_lt ((hN1.rows p hp).lt)
     have hg1 := hN1.old.size
     have hN2 := hN1.box 50 #[.int .u64 0, .int .u64 0, .int .u64 0, .int .u64 0, .int .u64 0]
     try simp only [World.size_alloc] at hN2 hn1 hg1
     have hk1 : v1.heap.size ≤ x1.heap.size := (show Below v1.heap.size v1 x1 from bl).size
     refine rd2 9 10 (fun K hK => ?_) fun K hK => ?_
     ·
      go_simp
      refine (kD _).mono ?_
      rintro e x3 ⟨rfl, hx3⟩
      refine kp hK hkeep ?_
      clear hK K
      have hN3 := hN2.call hx3
      refine on1 10 fun K hK => ?_
      go_simp
      refine kp hK hkeep ?_
      clear hK K
      have hn2 := fun p hp => Nat.ne_of_lt ((hN3.rows p hp).lt)
      have hg2 := hN3.old.size
      have hN4 := hN3.box 50 #[.int .u64 0, .int .u64 0, .int .u64 0, .int .u64 0, .int .u64 0]
      try simp only [World.size_alloc] at hN4 hn2 hg2
      have hk2 : v1.heap.size ≤ x3.heap.size := (show Below v1.heap.size v1 x3 from bl).size
      have hsz : w.heap.size ≤ x3.heap.size + 1 := Nat.le_trans hvv1 (Nat.le_trans hk2 (Nat.le_succ _))
      have hne : (x1.heap.size : Nat) ≠ x3.heap.size := hn2 _ List.mem_cons_self
      have hset := Ms.set2 (ds := (feC C)) (ds' := (feC D)) (hN4) hg2 hg1 (Ne.symm hne) (fun p hp => hn2 p (List.mem_cons_of_mem _ hp)) hn1
      refine on1 12 fun K hK => ?_
      refine step_store_row rfl 50 (.tmp 7) (.tmp 35) rfl (x3.heap.size) (feC C) rfl rfl 50 _ (hN4.get 0 rfl) (sizeFe _) (fe_zero _) (one_fe _) ?_
      refine kp hK hkeep ?_
      clear hK K
      refine on1 13 fun K hK => ?_
      refine step_store_row rfl 50 (.tmp 8) (.tmp 40) rfl (x1.heap.size) (feC D) rfl rfl 50 _ ((hN4.get 1 rfl).rowFar hne _) (sizeFe _) (fe_zero _) (one_fe _) ?_
      refine hK.out _ _ (fun h => absurd rfl h) ?_
      clear hK K
      refine doneT (by kernel_rfl) ?_ _
      go_wp2_with fail
      go_meet
      exact ⟨_, _, rfl, rfl, Nat.le_trans hvv1 hk2, Nat.le_trans hvv1 hk1, by have := hsz; simp [World.setRow] at this ⊢; omega, hset⟩
     ·
      go_simp
      refine kp hK hkeep ?_
      clear hK K
      have hn2 := fun p hp => Nat.ne_of_lt ((hN2.rows p hp).lt)
      have hg2 := hN2.old.size
      have hN3 := hN2.box 50 #[.int .u64 0, .int .u64 0, .int .u64 0, .int .u64 0, .int .u64 0]
      try simp only [World.size_alloc] at hN3 hn2 hg2
      have hk2 : v1.heap.size ≤ x1.heap.size + 1 := Nat.le_trans (show Below v1.heap.size v1 x1 from bl).size (Nat.le_succ _)
      refine on1 9 fun K hK => ?_
      go_simp
      refine (kD _).mono ?_
      rintro e x4 ⟨rfl, hx4⟩
      refine kp hK hkeep ?_
      clear hK K
      have hN4 := hN3.call hx4
      have hsz : w.heap.size ≤ x4.heap.size := Nat.le_trans hvv1 (show Below v1.heap.size v1 x4 from bl).size
      have hne : (x1.heap.size : Nat) ≠ x1.heap.size + 1 := hn2 _ List.mem_cons_self
      have hset := Ms.set2 (ds := (feC C)) (ds' := (feC D)) (hN4) hg2 hg1 (Ne.symm hne) (fun p hp => hn2 p (List.mem_cons_of_mem _ hp)) hn1
      refine on1 12 fun K hK => ?_
      refine step_store_row rfl 50 (.tmp 7) (.tmp 35) rfl (x1.heap.size + 1) (feC C) rfl rfl 50 _ (hN4.get 0 rfl) (sizeFe _) (fe_zero _) (one_fe _) ?_
      refine kp hK hkeep ?_
      clear hK K
      refine on1 13 fun K hK => ?_
      refine step_store_row rfl 50 (.tmp 8) (.tmp 40) rfl (x1.heap.size) (feC D) rfl rfl 50 _ ((hN4.get 1 rfl).rowFar hne _) (sizeFe _) (fe_zero _) (one_fe _) ?_
      refine hK.out _ _ (fun h => absurd rfl h) ?_
      clear hK K
      refine doneT (by kernel_rfl) ?_ _
      go_wp2_with fail
      go_meet
      exact ⟨_, _, rfl, rfl, Nat.le_trans hvv1 hk2, Nat.le_trans hvv1 hk1, by have := hsz; simp [World.setRow] at this ⊢; omega, hset⟩
   ·
    go_simp
    refine kp hK hkeep ?_
    clear hK K
    have hn1 := fun p hp => Nat.ne_of_lt ((hD.rows p hp).lt)
    have hg1 := hD.old.size
    have hN1 := hD.box 50 #[.int .u64 0, .int .u64 0, .int .u64 0, .int .u64 0, .int .u64 0]
    try simp only [World.size_alloc] at hN1 hn1 hg1
    have hk1 : v1.heap.size ≤ v1.heap.size := Nat.le_refl _
    refine rd2 4 11 (fun K hK => ?_) fun K hK => ?_
    ·
     go_simp
     refine (kC _).mono ?_
     rintro e x2 ⟨rfl, hx2⟩
     refine kp hK hkeep ?_
     clear hK K
     have hN2 := hN1.call hx2
     refine rd2 9 11 (fun K hK => ?_) fun K hK => ?_
     ·
      go_simp
      refine (kD _).mono ?_
      rintro e x3 ⟨rfl, hx3⟩
      refine kp hK hkeep ?_
      clear hK K
      have hN3 := hN2.call hx3
      refine on1 11 fun K hK => ?_
      go_simp
      refine kp hK hkeep ?_
      clear hK K
      have hn2 := fun p hp => Nat.ne_of_lt ((hN3.rows p hp).lt)
      have hg2 := hN3.old.size
      have hN4 := hN3.box 50 #[.int .u64 0, .int .u64 0, .int .u64 0, .int .u64 0, .int .u64 0]
      try simp only [World.size_alloc] at hN4 hn2 hg2
      have hk2 : v1.heap.size ≤ x3.heap.size := (show Below v1.heap.size v1 x3 from bl).size
      have hsz : w.heap.size ≤ x3.heap.size + 1 := Nat.le_trans hvv1 (Nat.le_trans hk2 (Nat.le_succ _))
      have hne : (v1.heap.size : Nat) ≠ x3.heap.size := hn2 _ List.mem_cons_self
      have hset := Ms.set2 (ds := (feC C)) (ds' := (feC D)) (hN4.swap) hg1 hg2 hne hn1 (fun p hp => hn2 p (List.mem_cons_of_mem _ hp))
      refine on1 12 fun K hK => ?_
      refine step_store_row rfl 50 (.tmp 7) (.tmp 35) rfl (v1.heap.size) (feC C) rfl rfl 50 _ (hN4.get 1 rfl) (sizeFe _) (fe_zero _) (one_fe _) ?_
      refine kp hK hkeep ?_
      clear hK K
      refine on1 13 fun K hK => ?_
      refine step_store_row rfl 50 (.tmp 8) (.tmp 40) rfl (x3.heap.size) (feC D) rfl rfl 50 _ ((hN4.get 0 rfl).rowFar (Ne.symm hne) _) (sizeFe _) (fe_zero _) (one_fe _) ?_
      refine hK.out _ _ (fun h => absurd rfl h) ?_
      clear hK K
      refine doneT (by kernel_rfl) ?_ _
      go_wp2_with fail
      go_meet
      exact ⟨_, _, rfl, rfl, Nat.le_trans hvv1 hk1, Nat.le_trans hvv1 hk2, by have := hsz; simp [World.setRow] at this ⊢; omega, hset⟩
     ·
      go_simp
      refine kp hK hkeep ?_
      clear hK K
      have hn2 := fun p hp => Nat.ne_of_lt ((hN2.rows p hp).lt)
      have hg2 := hN2.old.size
      have hN3 := hN2.box 50 #[.int .u64 0, .int .u64 0, .int .u64 0, .int .u64 0, .int .u64 0]
      try simp only [World.size_alloc] at hN3 hn2 hg2
      have hk2 : v1.heap.size ≤ x2.heap.size := (show Below v1.heap.size v1 x2 from bl).size
      refine on1 9 fun K hK => ?_
      go_simp
      refine (kD _).mono ?_
      rintro e x4 ⟨rfl, hx4⟩
      refine kp hK hkeep ?_
      clear hK K
      have hN4 := hN3.call hx4
      have hsz : w.heap.size ≤ x4.heap.size := Nat.le_trans hvv1 (show Below v1.heap.size v1 x4 from bl).size
      have hne : (v1.heap.size : Nat) ≠ x2.heap.size := hn2 _ List.mem_cons_self
      have hset := Ms.set2 (ds := (feC C)) (ds' := (feC D)) (hN4.swap) hg1 hg2 hne hn1 (fun p hp => hn2 p (List.mem_cons_of_mem _ hp))
      refine on1 12 fun K hK => ?_
      refine step_store_row rfl 50 (.tmp 7) (.tmp 35) rfl (v1.heap.size) (feC C) rfl rfl 50 _ (hN4.get 1 rfl) (sizeFe _) (fe_zero _) (one_fe _) ?_
      refine kp hK hkeep ?_
      clear hK K
      refine on1 13 fun K hK => ?_
      refine step_store_row rfl 50 (.tmp 8) (.tmp 40) rfl (x2.heap.size) (feC D) rfl rfl 50 _ ((hN4.get 0 rfl).rowFar (Ne.symm hne) _) (sizeFe _) (fe_zero _) (one_fe _) ?_
      refine hK.out _ _ (fun h => absurd rfl h) ?_
      clear hK K
      refine doneT (by kernel_rfl) ?_ _
      go_wp2_with fail
      go_meet
      exact ⟨_, _, rfl, rfl, Nat.le_trans hvv1 hk1, Nat.le_trans hvv1 hk2, by have := hsz; simp [World.setRow] at this ⊢; omega, hset⟩
    ·
     go_simp
     refine kp hK hkeep ?_
     clear hK K
     have hn2 := fun p hp => Nat.ne_of_lt ((hN1.rows p hp).lt)
     have hg2 := hN1.old.size
     have hN2 := hN1.box 50 #[.int .u64 0, .int .u64 0, .int .u64 0, .int .u64 0, .int .u64 0]
     try simp only [World.size_alloc] at hN2 hn2 hg2
     have hk2 : v1.heap.size ≤ v1.heap.size + 1 := Nat.le_succ _
     refine on1 4 fun K hK => ?_
     go_simp
     refine (kC _).mono ?_
     rintro e x3 ⟨rfl, hx3⟩
     refine kp hK hkeep ?_
     clear hK K
     have hN3 := hN2.call hx3
     refine on1 9 fun K hK => ?_
     go_simp
     refine (kD _).mono ?_
     rintro e x4 ⟨rfl, hx4⟩
     refine kp hK hkeep ?_
     clear hK K
     have hN4 := hN3.call hx4
     have hsz : w.heap.size ≤ x4.heap.size := Nat.le_trans hvv1 (show Below v1.heap.size v1 x4 from bl).size
     have hne : (v1.heap.size : Nat) ≠ v1.heap.size + 1 := hn2 _ List.mem_cons_self
     have hset := Ms.set2 (ds := (feC C)) (ds' := (feC D)) (hN4.swap) hg1 hg2 hne hn1 (fun p hp => hn2 p (List.mem_cons_of_mem _ hp))
     refine on1 12 fun K hK => ?_
     refine step_store_row rfl 50 (.tmp 7) (.tmp 35) rfl (v1.heap.size) (feC C) rfl rfl 50 _ (hN4.get 1 rfl) (sizeFe _) (fe_zero _) (one_fe _) ?_
     refine kp hK hkeep ?_
     clear hK K
     refine on1 13 fun K hK => ?_
     refine step_store_row rfl 50 (.tmp 8) (.tmp 40) rfl (v1.heap.size + 1) (feC D) rfl rfl 50 _ ((hN4.get 0 rfl).rowFar (Ne.symm hne) _) (sizeFe _) (fe_zero _) (one_fe _) ?_
     refine hK.out _ _ (fun h => absurd rfl h) ?_
     clear hK K
     refine doneT (by kernel_rfl) ?_ _
     go_wp2_with fail
     go_meet
     exact ⟨_, _, rfl, rfl, Nat.le_trans hvv1 hk1, Nat.le_trans hvv1 hk2, by have := hsz; simp [World.setRow] at this ⊢; omega, hset⟩
   ·
    go_simp
    refine kp hK hkeep ?_
    clear hK K
    have hn1 := fun p hp => Nat.ne_of_lt ((hD.rows p hp).lt)
    have hg1 := hD.old.size
    have hN1 := hD.box 50 #[.int .u64 0, .int .u64 0, .int .u64 0, .int .u64 0, .int .u64 0]
    try simp only [World.size_alloc] at hN1 hn1 hg1
    have hk1 : v1.heap.size ≤ v1.heap.size := Nat.le_refl _
    refine rd2 4 10 (fun K hK => ?_) fun K hK => ?_
    ·
     go_simp
     refine (kC _).mono ?_
     rintro e x2 ⟨rfl, hx2⟩
     refine kp hK hkeep ?_
     clear hK K
     have hN2 := hN1.call hx2
     refine rd2 9 10 (fun K hK => ?_) fun K hK => ?_
     ·
      go_simp
      refine (kD _).mono ?_
      rintro e x3 ⟨rfl, hx3⟩
      refine kp hK hkeep ?_
      clear hK K
      have hN3 := hN2.call hx3
      refine on1 10 fun K hK => ?_
      go_simp
      refine kp hK hkeep ?_
      clear hK K
      have hn2 := fun p hp => Nat.ne_of_lt ((hN3.rows p hp).lt)
      have hg2 := hN3.old.size
      have hN4 := hN3.box 50 #[.int .u64 0, .int .u64 0, .int .u64 0, .int .u64 0, .int .u64 0]
      try simp only [World.size_alloc] at hN4 hn2 hg2
      have hk2 : v1.heap.size ≤ x3.heap.size := (show Below v1.heap.size v1 x3 from bl).size
      have hsz : w.heap.size ≤ x3.heap.size + 1 := Nat.le_trans hvv1 (Nat.le_trans hk2 (Nat.le_succ _))
      have hne : (v1.heap.size : Nat) ≠ x3.heap.size := hn2 _ List.mem_cons_self
      have hset := Ms.set2 (ds := (feC C)) (ds' := (feC D)) (hN4) hg2 hg1 (Ne.symm hne) (fun p hp => hn2 p (List.mem_cons_of_mem _ hp)) hn1
      refine on1 12 fun K hK => ?_
      refine step_store_row rfl 50 (.tmp 7) (.tmp 35) rfl (x3.heap.size) (feC C) rfl rfl 50 _ (hN4.get 0 rfl) (sizeFe _) (fe_zero _) (one_fe _) ?_
      refine kp hK hkeep ?_
      clear hK K
      refine on1 13 fun K hK => ?_
      refine step_store_row rfl 50 (.tmp 8) (.tmp 40) rfl (v1.heap.size) (feC D) rfl rfl 50 _ ((hN4.get 1 rfl).rowFar hne _) (sizeFe _) (fe_zero _) (one_fe _) ?_
      refine hK.out _ _ (fun h => absurd rfl h) ?_
      clear hK K
      refine doneT (by kernel_rfl) ?_ _
      go_wp2_with fail
      go_meet
      exact ⟨_, _, rfl, rfl, Nat.le_trans hvv1 hk2, Nat.le_trans hvv1 hk1, by have := hsz; simp [World.setRow] at this ⊢; omega, hset⟩
     ·
      go_simp
      refine kp hK hkeep ?_
      clear hK K
      have hn2 := fun p hp => Nat.ne_of_lt ((hN2.rows p hp).lt)
      have hg2 := hN2.old.size
      have hN3 := hN2.box 50 #[.int .u64 0, .int .u64 0, .int .u64 0, .int .u64 0, .int .u64 0]
      try simp only [World.size_alloc] at hN3 hn2 hg2
      have hk2 : v1.heap.size ≤ x2.heap.size := (show Below v1.heap.size v1 x2 from bl).size
      refine on1 9 fun K hK => ?_
      go_simp
      refine (kD _).mono ?_
      rintro e x4 ⟨rfl, hx4⟩
      refine kp hK hkeep ?_
      clear hK K
      have hN4 := hN3.call hx4
      have hsz : w.heap.size ≤ x4.heap.size := Nat.le_trans hvv1 (show Below v1.heap.size v1 x4 from bl).size
      have hne : (v1.heap.size : Nat) ≠ x2.heap.size := hn2 _ List.mem_cons_self
      have hset := Ms.set2 (ds := (feC C)) (ds' := (feC D)) (hN4) hg2 hg1 (Ne.symm hne) (fun p hp => hn2 p (List.mem_cons_of_mem _ hp)) hn1
      refine on1 12 fun K hK => ?_
      refine step_store_row rfl 50 (.tmp 7) (.tmp 35) rfl (x2.heap.size) (feC C) rfl rfl 50 _ (hN4.get 0 rfl) (sizeFe _) (fe_zero _) (one_fe _) ?_
      refine kp hK hkeep ?_
      clear hK K
      refine on1 13 fun K hK => ?_
      refine step_store_row rfl 50 (.tmp 8) (.tmp 40) rfl (v1.heap.size) (feC D) rfl rfl 50 _ ((hN4.get 1 rfl).rowFar hne _) (sizeFe _) (fe_zero _) (one_fe _) ?_
      refine hK.out _ _ (fun h => absurd rfl h) ?_
      clear hK K
      refine doneT (by kernel_rfl) ?_ _
      go_wp2_with fail
      go_meet
      exact ⟨_, _, rfl, rfl, Nat.le_trans hvv1 hk2, Nat.le_trans hvv1 hk1, by have := hsz; simp [World.setRow] at this ⊢; omega, hset⟩
    ·
     go_simp
     refine kp hK hkeep ?_
     clear hK K
     have hn2 := fun p hp => Nat.ne_of_lt ((hN1.rows p hp).lt)
     have hg2 := hN1.old.size
     have hN2 := hN1.box 50 #[.int .u64 0, .int .u64 0, .int .u64 0, .int .u64 0, .int .u64 0]
     try simp only [World.size_alloc] at hN2 hn2 hg2
     have hk2 : v1.heap.size ≤ v1.heap.size + 1 := Nat.le_succ _
     refine on1 4 fun K hK => ?_
     go_simp
     refine (kC _).mono ?_
     rintro e x3 ⟨rfl, hx3⟩
     refine kp hK hkeep ?_
     clear hK K
     have hN3 := hN2.call hx3
     refine on1 9 fun K hK => ?_
     go_simp
     refine (kD _).mono ?_
     rintro e x4 ⟨rfl, hx4⟩
     refine kp hK hkeep ?_
     clear hK K
     have hN4 := hN3.call hx4
     have hsz : w.heap.size ≤ x4.heap.size := Nat.le_trans hvv1 (show Below v1.heap.size v1 x4 from bl).size
     have hne : (v1.heap.size : Nat) ≠ v1.heap.size + 1 := hn2 _ List.mem_cons_self
     have hset := Ms.set2 (ds := (feC C)) (ds' := (feC D)) (hN4) hg2 hg1 (Ne.symm hne) (fun p hp => hn2 p (List.mem_cons_of_mem _ hp)) hn1
     refine on1 12 fun K hK => ?_
     refine step_store_row rfl 50 (.tmp 7) (.tmp 35) rfl (v1.heap.size + 1) (feC C) rfl rfl 50 _ (hN4.get 0 rfl) (sizeFe _) (fe_zero _) (one_fe _) ?_
     refine kp hK hkeep ?_
     clear hK K
     refine on1 13 fun K hK => ?_
     refine step_store_row rfl 50 (.tmp 8) (.tmp 40) rfl (v1.heap.size) (feC D) rfl rfl 50 _ ((hN4.get 1 rfl).rowFar hne _) (sizeFe _) (fe_zero _) (one_fe _) ?_
     refine hK.out _ _ (fun h => absurd rfl h) ?_
     clear hK K
     refine doneT (by kernel_rfl) ?_ _
     go_wp2_with fail
     go_meet
     exact ⟨_, _, rfl, rfl, Nat.le_trans hvv1 hk2, Nat.le_trans hvv1 hk1, by have := hsz; simp [World.setRow] at this ⊢; omega, hset⟩
  case rest =>
   obtain ⟨gC, gD, rfl, rfl, hggC, hggD, hsc2, hMc2⟩ := hcut
   clear hMvv1
   go_upto_region 3 with (fail)
   try simp only [Act.put]
   refine wp_gen (fun wx => Ms w0 wx ((gC, 50, (feC C)) :: (gD, 50, (feC D)) :: (gA, 50, (feC A)) :: (gB, 50, (feC B)) :: (gN, 53, (rtC nx nz)) :: (gX, 53, (rtC xx xz)) :: (gP, 50, (feC P)) :: L) ∧ w.heap.size ≤ wx.heap.size) ⟨hMc2, hsc2⟩ ?_
   clear hMc2
   rintro v2 ⟨hMvv2, hvv2⟩
   go_cut [9, 10] (fun p q wx => ∃ g g' : Nat, p = .pointer (some ⟨g, 0, none⟩) ∧ q = .pointer (some ⟨g', 0, none⟩) ∧ w.heap.size ≤ g ∧ w.heap.size ≤ g' ∧ w.heap.size ≤ wx.heap.size ∧ Ms w0 wx ((g, 50, (feC DA)) :: (g', 50, (feC CB)) :: (gC, 50, (feC C)) :: (gD, 50, (feC D)) :: (gA, 50, (feC A)) :: (gB, 50, (feC B)) :: (gN, 53, (rtC nx nz)) :: (gX, 53, (rtC xx xz)) :: (gP, 50, (feC P)) :: L))
   case first =>
    have hkeep : ∀ wx : World, Below v2.heap.size v2 wx → wx.rangeAt (gD) 0 (feC D).toList ∧ wx.rangeAt (gA) 0 (feC A).toList ∧ wx.rangeAt (gC) 0 (feC C).toList ∧ wx.rangeAt (gB) 0 (feC B).toList := fun wx hb => ⟨((hMvv2.get 1 rfl).call hb).range, ((hMvv2.get 2 rfl).call hb).range, ((hMvv2.get 0 rfl).call hb).range, ((hMvv2.get 3 rfl).call hb).range⟩
    have hun := Tryd.underlying50
    refine beginT (fun wx => wx.rangeAt (gD) 0 (feC D).toList ∧ wx.rangeAt (gA) 0 (feC A).toList ∧ wx.rangeAt (gC) 0 (feC C).toList ∧ wx.rangeAt (gB) 0 (feC B).toList) 9 (by kernel_rfl) ?_
    have hS := hkeep _ (c_drew (c_refl _))
    refine ldQ 0 (some 41) 50 (.tmp 8) (gD) 0 (feC D).toList (fun wx hSw => hSw.1) hun (sizeFeL _) (fun _ _ _ h => h) hS ?_
    simp only [Act.put, sA, sZ, sS, Array.toArray_toList]
    refine ldQ 1 (some 42) 50 (.tmp 5) (gA) 0 (feC A).toList (fun wx hSw => hSw.2.1) hun (sizeFeL _) (fun _ _ _ h => h) hS ?_
    simp only [Act.put, sA, sZ, sS, Array.toArray_toList]
    refine ldQ 3 (some 44) 50 (.tmp 7) (gC) 0 (feC C).toList (fun wx hSw => hSw.2.2.1) hun (sizeFeL _) (fun _ _ _ h => h) hS ?_
    simp only [Act.put, sA, sZ, sS, Array.toArray_toList]
    refine ldQ 4 (some 45) 50 (.tmp 6) (gB) 0 (feC B).toList (fun wx hSw => hSw.2.2.2) hun (sizeFeL _) (fun _ _ _ h => h) hS ?_
    simp only [Act.put, sA, sZ, sS, Array.toArray_toList]
    have hD := hMvv2.drew
    refine readyT [2, 6, 7] (by kernel_rfl) (by simp) (AllReadyT.cons rfl (fun K hK => ?_) (AllReadyT.cons rfl (fun K hK => ?_) (AllReadyT.cons rfl (fun K hK => ?_) AllReadyT.nil)))
    ·
     go_simp
     refine (kDA _).mono ?_
     rintro e x1 ⟨rfl, hx1⟩
     refine kp hK hkeep ?_
     clear hK K
     have hN1 := hD.call hx1
     refine readyT [5, 6, 7] (by kernel_rfl) (by simp) (AllReadyT.cons rfl (fun K hK => ?_) (AllReadyT.cons rfl (fun K hK => ?_) (AllReadyT.cons rfl (fun K hK => ?_) AllReadyT.nil)))
     ·
      go_simp
      refine (kCB _).mono ?_
      rintro e x2 ⟨rfl, hx2⟩
      refine kp hK hkeep ?_
      clear hK K
      have hN2 := hN1.call hx2
      refine rd2 6 7 (fun K hK => ?_) fun K hK => ?_
      ·
       go_simp
       refine kp hK hkeep ?_
       clear hK K
       have hn1 := fun p hp => Nat.ne_of_lt ((hN2.rows p hp).lt)
       have hg1 := hN2.old.size
       have hN3 := hN2.box 50 #[.int .u64 0, .int .u64 0, .int .u64 0, .int .u64 0, .int .u64 0]
       try simp only [World.size_alloc] at hN3 hn1 hg1
       have hk1 : v2.heap.size ≤ x2.heap.size := (show Below v2.heap.size v2 x2 from bl).size
       refine on1 7 fun K hK => ?_
       go_simp
       refine kp hK hkeep ?_
       clear hK K
       have hn2 := fun p hp => Nat.ne_of_lt ((hN3.rows p hp).lt)
       have hg2 := hN3.old.size
       have hN4 := hN3.box 50 #[.int .u64 0, .int .u64 0, .int .u64 0, .int .u64 0, .int .u64 0]
       try simp only [World.size_alloc] at hN4 hn2 hg2
       have hk2 : v2.heap.size ≤ x2.heap.size + 1 := Nat.le_trans (show Below v2.heap.size v2 x2 from bl).size (Nat.le_succ _)
       have hsz : w.heap.size ≤ x2.heap.size + 1 + 1 := Nat.le_trans hvv2 (Nat.le_trans hk2 (Nat.le_succ _))
       have hne : (x2.heap.size : Nat) ≠ x2.heap.size + 1 := hn2 _ List.mem_cons_self
       have hset := Ms.set2 (ds := (feC DA)) (ds' := (feC CB)) (hN4.swap) hg1 hg2 hne hn1 (fun p hp => hn2 p (List.mem_cons_of_mem _ hp))
       refine on1 8 fun K hK => ?_
       refine step_store_row rfl 50 (.tmp 9) (.tmp 43) rfl (x2.heap.size) (feC DA) rfl rfl 50 _ (hN4.get 1 rfl) (sizeFe _) (fe_zero _) (one_fe _) ?_
       refine kp hK hkeep ?_
       clear hK K
       refine on1 9 fun K hK => ?_
       refine step_store_row rfl 50 (.tmp 10) (.tmp 46) rfl (x2.heap.size + 1) (feC CB) rfl rfl 50 _ ((hN4.get 0 rfl).rowFar (Ne.symm hne) _) (sizeFe _) (fe_zero _) (one_fe _) ?_
       refine hK.out _ _ (fun h => absurd rfl h) ?_
       clear hK K
       refine doneT (by kernel_rfl) ?_ _
       go_wp2_with fail
       go_meet
       exact ⟨_, _, rfl, rfl, Nat.le_trans hvv2 hk1, Nat.le_trans hvv2 hk2, by have := hsz; simp [World.setRow] at this ⊢; omega, hset⟩
      ·
       go_simp
       refine kp hK hkeep ?_
       clear hK K
       have hn1 := fun p hp => Nat.ne_of_lt ((hN2.rows p hp).lt)
       have hg1 := hN2.old.size
       have hN3 := hN2.box 50 #[.int .u64 0, .int .u64 0, .int .u64 0, .int .u64 0, .int .u64 0]
       try simp only [World.size_alloc] at hN3 hn1 hg1
       have hk1 : v2.heap.size ≤ x2.heap.size := (show Below v2.heap.size v2 x2 from bl).size
       refine on1 6 fun K hK => ?_
       go_simp
       refine kp hK hkeep ?_
       clear hK K
       have hn2 := fun p hp => Nat.ne_of_lt ((hN3.rows p hp).lt)
       have hg2 := hN3.old.size
       have hN4 := hN3.box 50 #[.int .u64 0, .int .u64 0, .int .u64 0, .int .u64 0, .int .u64 0]
       try simp only [World.size_alloc] at hN4 hn2 hg2
       have hk2 : v2.heap.size ≤ x2.heap.size + 1 := Nat.le_trans (show Below v2.heap.size v2 x2 from bl).size (Nat.le_succ _)
       have hsz : w.heap.size ≤ x2.heap.size + 1 + 1 := Nat.le_trans hvv2 (Nat.le_trans hk2 (Nat.le_succ _))
       have hne : (x2.heap.size : Nat) ≠ x2.heap.size + 1 := hn2 _ List.mem_cons_self
       have hset := Ms.set2 (ds := (feC DA)) (ds' := (feC CB)) (hN4) hg2 hg1 (Ne.symm hne) (fun p hp => hn2 p (List.mem_cons_of_mem _ hp)) hn1
       refine on1 8 fun K hK => ?_
       refine step_store_row rfl 50 (.tmp 9) (.tmp 43) rfl (x2.heap.size + 1) (feC DA) rfl rfl 50 _ (hN4.get 0 rfl) (sizeFe _) (fe_zero _) (one_fe _) ?_
       refine kp hK hkeep ?_
       clear hK K
       refine on1 9 fun K hK => ?_
       refine step_store_row rfl 50 (.tmp 10) (.tmp 46) rfl (x2.heap.size) (feC CB) rfl rfl 50 _ ((hN4.get 1 rfl).rowFar hne _) (sizeFe _) (fe_zero _) (one_fe _) ?_
       refine hK.out _ _ (fun h => absurd rfl h) ?_
       clear hK K
       refine doneT (by kernel_rfl) ?_ _
       go_wp2_with fail
       go_meet
       exact ⟨_, _, rfl, rfl, Nat.le_trans hvv2 hk2, Nat.le_trans hvv2 hk1, by have := hsz; simp [World.setRow] at this ⊢; omega, hset⟩
     ·
      go_simp
      refine kp hK hkeep ?_
      clear hK K
      have hn1 := fun p hp => Nat.ne_of_lt ((hN1.rows p hp).lt)
      have hg1 := hN1.old.size
      have hN2 := hN1.box 50 #[.int .u64 0, .int .u64 0, .int .u64 0, .int .u64 0, .int .u64 0]
      try simp only [World.size_alloc] at hN2 hn1 hg1
      have hk1 : v2.heap.size ≤ x1.heap.size := (show Below v2.heap.size v2 x1 from bl).size
      refine rd2 5 7 (fun K hK => ?_) fun K hK => ?_
      ·
       go_simp
       refine (kCB _).mono ?_
       rintro e x3 ⟨rfl, hx3⟩
       refine kp hK hkeep ?_
       clear hK K
       have hN3 := hN2.call hx3
       refine on1 7 fun K hK => ?_
       go_simp
       refine kp hK hkeep ?_
       clear hK K
       have hn2 := fun p hp => Nat.ne_of_lt ((hN3.rows p hp).lt)
       have hg2 := hN3.old.size
       have hN4 := hN3.box 50 #[.int .u64 0, .int .u64 0, .int .u64 0, .int .u64 0, .int .u64 0]
       try simp only [World.size_alloc] at hN4 hn2 hg2
       have hk2 : v2.heap.size ≤ x3.heap.size := (show Below v2.heap.size v2 x3 from bl).size
       have hsz : w.heap.size ≤ x3.heap.size + 1 := Nat.le_trans hvv2 (Nat.le_trans hk2 (Nat.le_succ _))
       have hne : (x1.heap.size : Nat) ≠ x3.heap.size := hn2 _ List.mem_cons_self
       have hset := Ms.set2 (ds := (feC DA)) (ds' := (feC CB)) (hN4.swap) hg1 hg2 hne hn1 (fun p hp => hn2 p (List.mem_cons_of_mem _ hp))
       refine on1 8 fun K hK => ?_
       refine step_store_row rfl 50 (.tmp 9) (.tmp 43) rfl (x1.heap.size) (feC DA) rfl rfl 50 _ (hN4.get 1 rfl) (sizeFe _) (fe_zero _) (one_fe _) ?_
       refine kp hK hkeep ?_
       clear hK K
       refine on1 9 fun K hK => ?_
       refine step_store_row rfl 50 (.tmp 10) (.tmp 46) rfl (x3.heap.size) (feC CB) rfl rfl 50 _ ((hN4.get 0 rfl).rowFar (Ne.symm hne) _) (sizeFe _) (fe_zero _) (one_fe _) ?_
       refine hK.out _ _ (fun h => absurd rfl h) ?_
       clear hK K
       refine doneT (by kernel_rfl) ?_ _
       go_wp2_with fail
       go_meet
       exact ⟨_, _, rfl, rfl, Nat.le_trans hvv2 hk1, Nat.le_trans hvv2 hk2, by have := hsz; simp [World.setRow] at this ⊢; omega, hset⟩
      ·
       go_simp
       refine kp hK hkeep ?_
       clear hK K
       have hn2 := fun p hp => Nat.ne_of_lt ((hN2.rows p hp).lt)
       have hg2 := hN2.old.size
       have hN3 := hN2.box 50 #[.int .u64 0, .int .u64 0, .int .u64 0, .int .u64 0, .int .u64 0]
       try simp only [World.size_alloc] at hN3 hn2 hg2
       have hk2 : v2.heap.size ≤ x1.heap.size + 1 := Nat.le_trans (show Below v2.heap.size v2 x1 from bl).size (Nat.le_succ _)
       refine on1 5 fun K hK => ?_
       go_simp
       refine (kCB _).mono ?_
       rintro e x4 ⟨rfl, hx4⟩
       refine kp hK hkeep ?_
       clear hK K
       have hN4 := hN3.call hx4
       have hsz : w.heap.size ≤ x4.heap.size := Nat.le_trans hvv2 (show Below v2.heap.size v2 x4 from bl).size
       have hne : (x1.heap.size : Nat) ≠ x1.heap.size + 1 := hn2 _ List.mem_cons_self
       have hset := Ms.set2 (ds := (feC DA)) (ds' := (feC CB)) (hN4.swap) hg1 hg2 hne hn1 (fun p hp => hn2 p (List.mem_cons_of_mem _ hp))
       refine on1 8 fun K hK => ?_
       refine step_store_row rfl 50 (.tmp 9) (.tmp 43) rfl (x1.heap.size) (feC DA) rfl rfl 50 _ (hN4.get 1 rfl) (sizeFe _) (fe_zero _) (one_fe _) ?_
       refine kp hK hkeep ?_
       clear hK K
       refine on1 9 fun K hK => ?_
       refine step_store_row rfl 50 (.tmp 10) (.tmp 46) rfl (x1.heap.size + 1) (feC CB) rfl rfl 50 _ ((hN4.get 0 rfl).rowFar (Ne.symm hne) _) (sizeFe _) (fe_zero _) (one_fe _) ?_
       refine hK.out _ _ (fun h => absurd rfl h) ?_
       clear hK K
       refine doneT (by kernel_rfl) ?_ _
       go_wp2_with fail
       go_meet
       exact ⟨_, _, rfl, rfl, Nat.le_trans hvv2 hk1, Nat.le_trans hvv2 hk2, by have := hsz; simp [World.setRow] at this ⊢; omega, hset⟩
     ·
      go_simp
      refine kp hK hkeep ?_
      clear hK K
      have hn1 := fun p hp => Nat.ne_of_lt ((hN1.rows p hp).lt)
      have hg1 := hN1.old.size
      have hN2 := hN1.box 50 #[.int .u64 0, .int .u64 0, .int .u64 0, .int .u64 0, .int .u64 0]
      try simp only [World.size_alloc] at hN2 hn1 hg1
      have hk1 : v2.heap.size ≤ x1.heap.size := (show Below v2.heap.size v2 x1 from bl).size
      refine rd2 5 6 (fun K hK => ?_) fun K hK => ?_
      ·
       go_simp
       refine (kCB _).mono ?_
       rintro e x3 ⟨rfl, hx3⟩
       refine kp hK hkeep ?_
       clear hK K
       have hN3 := hN2.call hx3
       refine on1 6 fun K hK => ?_
       go_simp
       refine kp hK hkeep ?_
       clear hK K
       have hn2 := fun p hp => Nat.ne_of_lt ((hN3.rows p hp).lt)
       have hg2 := hN3.old.size
       have hN4 := hN3.box 50 #[.int .u64 0, .int .u64 0, .int .u64 0, .int .u64 0, .int .u64 0]
       try simp only [World.size_alloc] at hN4 hn2 hg2
       have hk2 : v2.heap.size ≤ x3.heap.size := (show Below v2.heap.size v2 x3 from bl).size
       have hsz : w.heap.size ≤ x3.heap.size + 1 := Nat.le_trans hvv2 (Nat.le_trans hk2 (Nat.le_succ _))
       have hne : (x1.heap.size : Nat) ≠ x3.heap.size := hn2 _ List.mem_cons_self
       have hset := Ms.set2 (ds := (feC DA)) (ds' := (feC CB)) (hN4) hg2 hg1 (Ne.symm hne) (fun p hp => hn2 p (List.mem_cons_of_mem _ hp)) hn1
       refine on1 8 fun K hK => ?_
       refine step_store_row rfl 50 (.tmp 9) (.tmp 43) rfl (x3.heap.size) (feC DA) rfl rfl 50 _ (hN4.get 0 rfl) (sizeFe _) (fe_zero _) (one_fe _) ?_
       refine kp hK hkeep ?_
       clear hK K
       refine on1 9 fun K hK => ?_
       refine step_store_row rfl 50 (.tmp 10) (.tmp 46) rfl (x1.heap.size) (feC CB) rfl rfl 50 _ ((hN4.get 1 rfl).rowFar hne _) (sizeFe _) (fe_zero _) (one_fe _) ?_
       refine hK.out _ _ (fun h => absurd rfl h) ?_
       clear hK K
       refine doneT (by kernel_rfl) ?_ _
       go_wp2_with fail
       go_meet
       exact ⟨_, _, rfl, rfl, Nat.le_trans hvv2 hk2, Nat.le_trans hvv2 hk1, by have := hsz; simp [World.setRow] at this ⊢; omega, hset⟩
      ·
       go_simp
       refine kp hK hkeep ?_
       clear hK K
       have hn2 := fun p hp => Nat.ne_of_lt ((hN2.rows p hp).lt)
       have hg2 := hN2.old.size
       have hN3 := hN2.box 50 #[.int .u64 0, .int .u64 0, .int .u64 0, .int .u64 0, .int .u64 0]
       try simp only [World.size_alloc] at hN3 hn2 hg2
       have hk2 : v2.heap.size ≤ x1.heap.size + 1 := Nat.le_trans (show Below v2.heap.size v2 x1 from bl).size (Nat.le_succ _)
       refine on1 5 fun K hK => ?_
       go_simp
       refine (kCB _).mono ?_
       rintro e x4 ⟨rfl, hx4⟩
       refine kp hK hkeep ?_
       clear hK K
       have hN4 := hN3.call hx4
       have hsz : w.heap.size ≤ x4.heap.size := Nat.le_trans hvv2 (show Below v2.heap.size v2 x4 from bl).size
       have hne : (x1.heap.size : Nat) ≠ x1.heap.size + 1 := hn2 _ List.mem_cons_self
       have hset := Ms.set2 (ds := (feC DA)) (ds' := (feC CB)) (hN4) hg2 hg1 (Ne.symm hne) (fun p hp => hn2 p (List.mem_cons_of_mem _ hp)) hn1
       refine on1 8 fun K hK => ?_
       refine step_store_row rfl 50 (.tmp 9) (.tmp 43) rfl (x1.heap.size + 1) (feC DA) rfl rfl 50 _ (hN4.get 0 rfl) (sizeFe _) (fe_zero _) (one_fe _) ?_
       refine kp hK hkeep ?_
       clear hK K
       refine on1 9 fun K hK => ?_
       refine step_store_row rfl 50 (.tmp 10) (.tmp 46) rfl (x1.heap.size) (feC CB) rfl rfl 50 _ ((hN4.get 1 rfl).rowFar hne _) (sizeFe _) (fe_zero _) (one_fe _) ?_
       refine hK.out _ _ (fun h => absurd rfl h) ?_
       clear hK K
       refine doneT (by kernel_rfl) ?_ _
       go_wp2_with fail
       go_meet
       exact ⟨_, _, rfl, rfl, Nat.le_trans hvv2 hk2, Nat.le_trans hvv2 hk1, by have := hsz; simp [World.setRow] at this ⊢; omega, hset⟩
    ·
     go_simp
     refine kp hK hkeep ?_
     clear hK K
     have hn1 := fun p hp => Nat.ne_of_lt ((hD.rows p hp).lt)
     have hg1 := hD.old.size
     have hN1 := hD.box 50 #[.int .u64 0, .int .u64 0, .int .u64 0, .int .u64 0, .int .u64 0]
     try simp only [World.size_alloc] at hN1 hn1 hg1
     have hk1 : v2.heap.size ≤ v2.heap.size := Nat.le_refl _
     refine rd2 2 7 (fun K hK => ?_) fun K hK => ?_
     ·
      go_simp
      refine (kDA _).mono ?_
      rintro e x2 ⟨rfl, hx2⟩
      refine kp hK hkeep ?_
      clear hK K
      have hN2 := hN1.call hx2
      refine rd2 5 7 (fun K hK => ?_) fun K hK => ?_
      ·
       go_simp
       refine (kCB _).mono ?_
       rintro e x3 ⟨rfl, hx3⟩
       refine kp hK hkeep ?_
       clear hK K
       have hN3 := hN2.call hx3
       refine on1 7 fun K hK => ?_
       go_simp
       refine kp hK hkeep ?_
       clear hK K
       have hn2 := fun p hp => Nat.ne_of_lt ((hN3.rows p hp).lt)
       have hg2 := hN3.old.size
       have hN4 := hN3.box 50 #[.int .u64 0, .int .u64 0, .int .u64 0, .int .u64 0, .int .u64 0]
       try simp only [World.size_alloc] at hN4 hn2 hg2
       have hk2 : v2.heap.size ≤ x3.heap.size := (show Below v2.heap.size v2 x3 from bl).size
       have hsz : w.heap.size ≤ x3.heap.size + 1 := Nat.le_trans hvv2 (Nat.le_trans hk2 (Nat.le_succ _))
       have hne : (v2.heap.size : Nat) ≠ x3.heap.size := hn2 _ List.mem_cons_self
       have hset := Ms.set2 (ds := (feC DA)) (ds' := (feC CB)) (hN4.swap) hg1 hg2 hne hn1 (fun p hp => hn2 p (List.mem_cons_of_mem _ hp))
       refine on1 8 fun K hK => ?_
       refine step_store_row rfl 50 (.tmp 9) (.tmp 43) rfl (v2.heap.size) (feC DA) rfl rfl 50 _ (hN4.get 1 rfl) (sizeFe _) (fe_zero _) (one_fe _) ?_
       refine kp hK hkeep ?_
       clear hK K
       refine on1 9 fun K hK => ?_
       refine step_store_row rfl 50 (.tmp 10) (.tmp 46) rfl (x3.heap.size) (feC CB) rfl rfl 50 _ ((hN4.get 0 rfl).rowFar (Ne.symm hne) _) (sizeFe _) (fe_zero _) (one_fe _) ?_
       refine hK.out _ _ (fun h => absurd rfl h) ?_
       clear hK K
       refine doneT (by kernel_rfl) ?_ _
       go_wp2_with fail
       go_meet
       exact ⟨_, _, rfl, rfl, Nat.le_trans hvv2 hk1, Nat.le_trans hvv2 hk2, by have := hsz; simp [World.setRow] at this ⊢; omega, hset⟩
      ·
       go_simp
       refine kp hK hkeep ?_
       clear hK K
       have hn2 := fun p hp => Nat.ne_of_lt ((hN2.rows p hp).lt)
       have hg2 := hN2.old.size
       have hN3 := hN2.box 50 #[.int .u64 0, .int .u64 0, .int .u64 0, .int .u64 0, .int .u64 0]
       try simp only [World.size_alloc] at hN3 hn2 hg2
       have hk2 : v2.heap.size ≤ x2.heap.size := (show Below v2.heap.size v2 x2 from bl).size
       refine on1 5 fun K hK => ?_
       go_simp
       refine (kCB _).mono ?_
       rintro e x4 ⟨rfl, hx4⟩
       refine kp hK hkeep ?_
       clear hK K
       have hN4 := hN3.call hx4
       have hsz : w.heap.size ≤ x4.heap.size := Nat.le_trans hvv2 (show Below v2.heap.size v2 x4 from bl).size
       have hne : (v2.heap.size : Nat) ≠ x2.heap.size := hn2 _ List.mem_cons_self
       have hset := Ms.set2 (ds := (feC DA)) (ds' := (feC CB)) (hN4.swap) hg1 hg2 hne hn1 (fun p hp => hn2 p (List.mem_cons_of_mem _ hp))
       refine on1 8 fun K hK => ?_
       refine step_store_row rfl 50 (.tmp 9) (.tmp 43) rfl (v2.heap.size) (feC DA) rfl rfl 50 _ (hN4.get 1 rfl) (sizeFe _) (fe_zero _) (one_fe _) ?_
       refine kp hK hkeep ?_
       clear hK K
       refine on1 9 fun K hK => ?_
       refine step_store_row rfl 50 (.tmp 10) (.tmp 46) rfl (x2.heap.size) (feC CB) rfl rfl 50 _ ((hN4.get 0 rfl).rowFar (Ne.symm hne) _) (sizeFe _) (fe_zero _) (one_fe _) ?_
       refine hK.out _ _ (fun h => absurd rfl h) ?_
       clear hK K
       refine doneT (by kernel_rfl) ?_ _
       go_wp2_with fail
       go_meet
       exact ⟨_, _, rfl, rfl, Nat.le_trans hvv2 hk1, Nat.le_trans hvv2 hk2, by have := hsz; simp [World.setRow] at this ⊢; omega, hset⟩
     ·
      go_simp
      refine kp hK hkeep ?_
      clear hK K
      have hn2 := fun p hp => Nat.ne_of_lt ((hN1.rows p hp).lt)
      have hg2 := hN1.old.size
      have hN2 := hN1.box 50 #[.int .u64 0, .int .u64 0, .int .u64 0, .int .u64 0, .int .u64 0]
      try simp only [World.size_alloc] at hN2 hn2 hg2
      have hk2 : v2.heap.size ≤ v2.heap.size + 1 := Nat.le_succ _
      refine on1 2 fun K hK => ?_
      go_simp
      refine (kDA _).mono ?_
      rintro e x3 ⟨rfl, hx3⟩
      refine kp hK hkeep ?_
      clear hK K
      have hN3 := hN2.call hx3
      refine on1 5 fun K hK => ?_
      go_simp
      refine (kCB _).mono ?_
      rintro e x4 ⟨rfl, hx4⟩
      refine kp hK hkeep ?_
      clear hK K
      have hN4 := hN3.call hx4
      have hsz : w.heap.size ≤ x4.heap.size := Nat.le_trans hvv2 (show Below v2.heap.size v2 x4 from bl).size
      have hne : (v2.heap.size : Nat) ≠ v2.heap.size + 1 := hn2 _ List.mem_cons_self
      have hset := Ms.set2 (ds := (feC DA)) (ds' := (feC CB)) (hN4.swap) hg1 hg2 hne hn1 (fun p hp => hn2 p (List.mem_cons_of_mem _ hp))
      refine on1 8 fun K hK => ?_
      refine step_store_row rfl 50 (.tmp 9) (.tmp 43) rfl (v2.heap.size) (feC DA) rfl rfl 50 _ (hN4.get 1 rfl) (sizeFe _) (fe_zero _) (one_fe _) ?_
      refine kp hK hkeep ?_
      clear hK K
      refine on1 9 fun K hK => ?_
      refine step_store_row rfl 50 (.tmp 10) (.tmp 46) rfl (v2.heap.size + 1) (feC CB) rfl rfl 50 _ ((hN4.get 0 rfl).rowFar (Ne.symm hne) _) (sizeFe _) (fe_zero _) (one_fe _) ?_
      refine hK.out _ _ (fun h => absurd rfl h) ?_
      clear hK K
      refine doneT (by kernel_rfl) ?_ _
      go_wp2_with fail
      go_meet
      exact ⟨_, _, rfl, rfl, Nat.le_trans hvv2 hk1, Nat.le_trans hvv2 hk2, by have := hsz; simp [World.setRow] at this ⊢; omega, hset⟩
    ·
     go_simp
     refine kp hK hkeep ?_
     clear hK K
     have hn1 := fun p hp => Nat.ne_of_lt ((hD.rows p hp).lt)
     have hg1 := hD.old.size
     have hN1 := hD.box 50 #[.int .u64 0, .int .u64 0, .int .u64 0, .int .u64 0, .int .u64 0]
     try simp only [World.size_alloc] at hN1 hn1 hg1
     have hk1 : v2.heap.size ≤ v2.heap.size := Nat.le_refl _
     refine rd2 2 6 (fun K hK => ?_) fun K hK => ?_
     ·
      go_simp
      refine (kDA _).mono ?_
      rintro e x2 ⟨rfl, hx2⟩
      refine kp hK hkeep ?_
      clear hK K
      have hN2 := hN1.call hx2
      refine rd2 5 6 (fun K hK => ?_) fun K hK => ?_
      ·
       go_simp
       refine (kCB _).mono ?_
       rintro e x3 ⟨rfl, hx3⟩
       refine kp hK hkeep ?_
       clear hK K
       have hN3 := hN2.call hx3
       refine on1 6 fun K hK => ?_
       go_simp
       refine kp hK hkeep ?_
       clear hK K
       have hn2 := fun p hp => Nat.ne_of_lt ((hN3.rows p hp).lt)
       have hg2 := hN3.old.size
       have hN4 := hN3.box 50 #[.int .u64 0, .int .u64 0, .int .u64 0, .int .u64 0, .int .u64 0]
       try simp only [World.size_alloc] at hN4 hn2 hg2
       have hk2 : v2.heap.size ≤ x3.heap.size := (show Below v2.heap.size v2 x3 from bl).size
       have hsz : w.heap.size ≤ x3.heap.size + 1 := Nat.le_trans hvv2 (Nat.le_trans hk2 (Nat.le_succ _))
       have hne : (v2.heap.size : Nat) ≠ x3.heap.size := hn2 _ List.mem_cons_self
       have hset := Ms.set2 (ds := (feC DA)) (ds' := (feC CB)) (hN4) hg2 hg1 (Ne.symm hne) (fun p hp => hn2 p (List.mem_cons_of_mem _ hp)) hn1
       refine on1 8 fun K hK => ?_
       refine step_store_row rfl 50 (.tmp 9) (.tmp 43) rfl (x3.heap.size) (feC DA) rfl rfl 50 _ (hN4.get 0 rfl) (sizeFe _) (fe_zero _) (one_fe _) ?_
       refine kp hK hkeep ?_
       clear hK K
       refine on1 9 fun K hK => ?_
       refine step_store_row rfl 50 (.tmp 10) (.tmp 46) rfl (v2.heap.size) (feC CB) rfl rfl 50 _ ((hN4.get 1 rfl).rowFar hne _) (sizeFe _) (fe_zero _) (one_fe _) ?_
       refine hK.out _ _ (fun h => absurd rfl h) ?_
       clear hK K
       refine doneT (by kernel_rfl) ?_ _
       go_wp2_with fail
       go_meet
       exact ⟨_, _, rfl, rfl, Nat.le_trans hvv2 hk2, Nat.le_trans hvv2 hk1, by have := hsz; simp [World.setRow] at this ⊢; omega, hset⟩
      ·
       go_simp
       refine kp hK hkeep ?_
       clear hK K
       have hn2 := fun p hp => Nat.ne_of_lt ((hN2.rows p hp).lt)
       have hg2 := hN2.old.size
       have hN3 := hN2.box 50 #[.int .u64 0, .int .u64 0, .int .u64 0, .int .u64 0, .int .u64 0]
       try simp only [World.size_alloc] at hN3 hn2 hg2
       have hk2 : v2.heap.size ≤ x2.heap.size := (show Below v2.heap.size v2 x2 from bl).size
       refine on1 5 fun K hK => ?_
       go_simp
       refine (kCB _).mono ?_
       rintro e x4 ⟨rfl, hx4⟩
       refine kp hK hkeep ?_
       clear hK K
       have hN4 := hN3.call hx4
       have hsz : w.heap.size ≤ x4.heap.size := Nat.le_trans hvv2 (show Below v2.heap.size v2 x4 from bl).size
       have hne : (v2.heap.size : Nat) ≠ x2.heap.size := hn2 _ List.mem_cons_self
       have hset := Ms.set2 (ds := (feC DA)) (ds' := (feC CB)) (hN4) hg2 hg1 (Ne.symm hne) (fun p hp => hn2 p (List.mem_cons_of_mem _ hp)) hn1
       refine on1 8 fun K hK => ?_
       refine step_store_row rfl 50 (.tmp 9) (.tmp 43) rfl (x2.heap.size) (feC DA) rfl rfl 50 _ (hN4.get 0 rfl) (sizeFe _) (fe_zero _) (one_fe _) ?_
       refine kp hK hkeep ?_
       clear hK K
       refine on1 9 fun K hK => ?_
       refine step_store_row rfl 50 (.tmp 10) (.tmp 46) rfl (v2.heap.size) (feC CB) rfl rfl 50 _ ((hN4.get 1 rfl).rowFar hne _) (sizeFe _) (fe_zero _) (one_fe _) ?_
       refine hK.out _ _ (fun h => absurd rfl h) ?_
       clear hK K
       refine doneT (by kernel_rfl) ?_ _
       go_wp2_with fail
       go_meet
       exact ⟨_, _, rfl, rfl, Nat.le_trans hvv2 hk2, Nat.le_trans hvv2 hk1, by have := hsz; simp [World.setRow] at this ⊢; omega, hset⟩
     ·
      go_simp
      refine kp hK hkeep ?_
      clear hK K
      have hn2 := fun p hp => Nat.ne_of_lt ((hN1.rows p hp).lt)
      have hg2 := hN1.old.size
      have hN2 := hN1.box 50 #[.int .u64 0, .int .u64 0, .int .u64 0, .int .u64 0, .int .u64 0]
      try simp only [World.size_alloc] at hN2 hn2 hg2
      have hk2 : v2.heap.size ≤ v2.heap.size + 1 := Nat.le_succ _
      refine on1 2 fun K hK => ?_
      go_simp
      refine (kDA _).mono ?_
      rintro e x3 ⟨rfl, hx3⟩
      refine kp hK hkeep ?_
      clear hK K
      have hN3 := hN2.call hx3
      refine on1 5 fun K hK => ?_
      go_simp
      refine (kCB _).mono ?_
      rintro e x4 ⟨rfl, hx4⟩
      refine kp hK hkeep ?_
      clear hK K
      have hN4 := hN3.call hx4
      have hsz : w.heap.size ≤ x4.heap.size := Nat.le_trans hvv2 (show Below v2.heap.size v2 x4 from bl).size
      have hne : (v2.heap.size : Nat) ≠ v2.heap.size + 1 := hn2 _ List.mem_cons_self
      have hset := Ms.set2 (ds := (feC DA)) (ds' := (feC CB)) (hN4) hg2 hg1 (Ne.symm hne) (fun p hp => hn2 p (List.mem_cons_of_mem _ hp)) hn1
      refine on1 8 fun K hK => ?_
      refine step_store_row rfl 50 (.tmp 9) (.tmp 43) rfl (v2.heap.size + 1) (feC DA) rfl rfl 50 _ (hN4.get 0 rfl) (sizeFe _) (fe_zero _) (one_fe _) ?_
      refine kp hK hkeep ?_
      clear hK K
      refine on1 9 fun K hK => ?_
      refine step_store_row rfl 50 (.tmp 10) (.tmp 46) rfl (v2.heap.size) (feC CB) rfl rfl 50 _ ((hN4.get 1 rfl).rowFar hne _) (sizeFe _) (fe_zero _) (one_fe _) ?_
      refine hK.out _ _ (fun h => absurd rfl h) ?_
      clear hK K
      refine doneT (by kernel_rfl) ?_ _
      go_wp2_with fail
      go_meet
      exact ⟨_, _, rfl, rfl, Nat.le_trans hvv2 hk2, Nat.le_trans hvv2 hk1, by have := hsz; simp [World.setRow] at this ⊢; omega, hset⟩
   case rest =>
    obtain ⟨gDA, gCB, rfl, rfl, hggDA, hggCB, hsc3, hMc3⟩ := hcut
    clear hMvv2
    go_upto_region 4 with (fail)
    try simp only [Act.put]
    refine wp_gen (fun wx => Ms w0 wx ((gDA, 50, (feC DA)) :: (gCB, 50, (feC CB)) :: (gC, 50, (feC C)) :: (gD, 50, (feC D)) :: (gA, 50, (feC A)) :: (gB, 50, (feC B)) :: (gN, 53, (rtC nx nz)) :: (gX, 53, (rtC xx xz)) :: (gP, 50, (feC P)) :: L) ∧ w.heap.size ≤ wx.heap.size) ⟨hMc3, hsc3⟩ ?_
    clear hMc3
    rintro v3 ⟨hMvv3, hvv3⟩
    go_cut [11, 12] (fun p q wx => ∃ g g' : Nat, p = .pointer (some ⟨g, 0, none⟩) ∧ q = .pointer (some ⟨g', 0, none⟩) ∧ w.heap.size ≤ g ∧ w.heap.size ≤ g' ∧ w.heap.size ≤ wx.heap.size ∧ Ms w0 wx ((g, 50, (feC AA)) :: (g', 50, (feC BB)) :: (gDA, 50, (feC DA)) :: (gCB, 50, (feC CB)) :: (gC, 50, (feC C)) :: (gD, 50, (feC D)) :: (gA, 50, (feC A)) :: (gB, 50, (feC B)) :: (gN, 53, (rtC nx nz)) :: (gX, 53, (rtC xx xz)) :: (gP, 50, (feC P)) :: L))
    case first =>
     have hkeep : ∀ wx : World, Below v3.heap.size v3 wx → wx.rangeAt (gA) 0 (feC A).toList ∧ wx.rangeAt (gB) 0 (feC B).toList := fun wx hb => ⟨((hMvv3.get 4 rfl).call hb).range, ((hMvv3.get 5 rfl).call hb).range⟩
     have hun := Tryd.underlying50
     refine beginT (fun wx => wx.rangeAt (gA) 0 (feC A).toList ∧ wx.rangeAt (gB) 0 (feC B).toList) 7 (by kernel_rfl) ?_
     have hS := hkeep _ (c_drew (c_refl _))
     refine ldQ 0 (some 47) 50 (.tmp 5) (gA) 0 (feC A).toList (fun wx hSw => hSw.1) hun (sizeFeL _) (fun _ _ _ h => h) hS ?_
     simp only [Act.put, sA, sZ, sS, Array.toArray_toList]
     refine ldQ 2 (some 49) 50 (.tmp 6) (gB) 0 (feC B).toList (fun wx hSw => hSw.2) hun (sizeFeL _) (fun _ _ _ h => h) hS ?_
     simp only [Act.put, sA, sZ, sS, Array.toArray_toList]
     have hD := hMvv3.drew
     refine readyT [1, 4, 5] (by kernel_rfl) (by simp) (AllReadyT.cons rfl (fun K hK => ?_) (AllReadyT.cons rfl (fun K hK => ?_) (AllReadyT.cons rfl (fun K hK => ?_) AllReadyT.nil)))
     ·
      go_simp
      refine (kAA _).mono ?_
      rintro e x1 ⟨rfl, hx1⟩
      refine kp hK hkeep ?_
      clear hK K
      have hN1 := hD.call hx1
      refine readyT [3, 4, 5] (by kernel_rfl) (by simp) (AllReadyT.cons rfl (fun K hK => ?_) (AllReadyT.cons rfl (fun K hK => ?_) (AllReadyT.cons rfl (fun K hK => ?_) AllReadyT.nil)))
      ·
       go_simp
       refine (kBB _).mono ?_
       rintro e x2 ⟨rfl, hx2⟩
       refine kp hK hkeep ?_
       clear hK K
       have hN2 := hN1.call hx2
       refine rd2 4 5 (fun K hK => ?_) fun K hK => ?_
       ·
        go_simp
        refine kp hK hkeep ?_
        clear hK K
        have hn1 := fun p hp => Nat.ne_of_lt ((hN2.rows p hp).lt)
        have hg1 := hN2.old.size
        have hN3 := hN2.box 50 #[.int .u64 0, .int .u64 0, .int .u64 0, .int .u64 0, .int .u64 0]
        try simp only [World.size_alloc] at hN3 hn1 hg1
        have hk1 : v3.heap.size ≤ x2.heap.size := (show Below v3.heap.size v3 x2 from bl).size
        refine on1 5 fun K hK => ?_
        go_simp
        refine kp hK hkeep ?_
        clear hK K
        have hn2 := fun p hp => Nat.ne_of_lt ((hN3.rows p hp).lt)
        have hg2 := hN3.old.size
        have hN4 := hN3.box 50 #[.int .u64 0, .int .u64 0, .int .u64 0, .int .u64 0, .int .u64 0]
        try simp only [World.size_alloc] at hN4 hn2 hg2
        have hk2 : v3.heap.size ≤ x2.heap.size + 1 := Nat.le_trans (show Below v3.heap.size v3 x2 from bl).size (Nat.le_succ _)
        have hsz : w.heap.size ≤ x2.heap.size + 1 + 1 := Nat.le_trans hvv3 (Nat.le_trans hk2 (Nat.le_succ _))
        have hne : (x2.heap.size : Nat) ≠ x2.heap.size + 1 := hn2 _ List.mem_cons_self
        have hset := Ms.set2 (ds := (feC AA)) (ds' := (feC BB)) (hN4.swap) hg1 hg2 hne hn1 (fun p hp => hn2 p (List.mem_cons_of_mem _ hp))
        refine on1 6 fun K hK => ?_
        refine step_store_row rfl 50 (.tmp 11) (.tmp 48) rfl (x2.heap.size) (feC AA) rfl rfl 50 _ (hN4.get 1 rfl) (sizeFe _) (fe_zero _) (one_fe _) ?_
        refine kp hK hkeep ?_
        clear hK K
        refine on1 7 fun K hK => ?_
        refine step_store_row rfl 50 (.tmp 12) (.tmp 50) rfl (x2.heap.size + 1) (feC BB) rfl rfl 50 _ ((hN4.get 0 rfl).rowFar (Ne.symm hne) _) (sizeFe _) (fe_zero _) (one_fe _) ?_
        refine hK.out _ _ (fun h => absurd rfl h) ?_
        clear hK K
        refine doneT (by kernel_rfl) ?_ _
        go_wp2_with fail
        go_meet
        exact ⟨_, _, rfl, rfl, Nat.le_trans hvv3 hk1, Nat.le_trans hvv3 hk2, by have := hsz; simp [World.setRow] at this ⊢; omega, hset⟩
       ·
        go_simp
        refine kp hK hkeep ?_
        clear hK K
        have hn1 := fun p hp => Nat.ne_of_lt ((hN2.rows p hp).lt)
        have hg1 := hN2.old.size
        have hN3 := hN2.box 50 #[.int .u64 0, .int .u64 0, .int .u64 0, .int .u64 0, .int .u64 0]
        try simp only [World.size_alloc] at hN3 hn1 hg1
        have hk1 : v3.heap.size ≤ x2.heap.size := (show Below v3.heap.size v3 x2 from bl).size
        refine on1 4 fun K hK => ?_
        go_simp
        refine kp hK hkeep ?_
        clear hK K
        have hn2 := fun p hp => Nat.ne_of_lt ((hN3.rows p hp).lt)
        have hg2 := hN3.old.size
        have hN4 := hN3.box 50 #[.int .u64 0, .int .u64 0, .int .u64 0, .int .u64 0, .int .u64 0]
        try simp only [World.size_alloc] at hN4 hn2 hg2
        have hk2 : v3.heap.size ≤ x2.heap.size + 1 := Nat.le_trans (show Below v3.heap.size v3 x2 from bl).size (Nat.le_succ _)
        have hsz : w.heap.size ≤ x2.heap.size + 1 + 1 := Nat.le_trans hvv3 (Nat.le_trans hk2 (Nat.le_succ _))
        have hne : (x2.heap.size : Nat) ≠ x2.heap.size + 1 := hn2 _ List.mem_cons_self
        have hset := Ms.set2 (ds := (feC AA)) (ds' := (feC BB)) (hN4) hg2 hg1 (Ne.symm hne) (fun p hp => hn2 p (List.mem_cons_of_mem _ hp)) hn1
        refine on1 6 fun K hK => ?_
        refine step_store_row rfl 50 (.tmp 11) (.tmp 48) rfl (x2.heap.size + 1) (feC AA) rfl rfl 50 _ (hN4.get 0 rfl) (sizeFe _) (fe_zero _) (one_fe _) ?_
        refine kp hK hkeep ?_
        clear hK K
        refine on1 7 fun K hK => ?_
        refine step_store_row rfl 50 (.tmp 12) (.tmp 50) rfl (x2.heap.size) (feC BB) rfl rfl 50 _ ((hN4.get 1 rfl).rowFar hne _) (sizeFe _) (fe_zero _) (one_fe _) ?_
        refine hK.out _ _ (fun h => absurd rfl h) ?_
        clear hK K
        refine doneT (by kernel_rfl) ?_ _
        go_wp2_with fail
        go_meet
        exact ⟨_, _, rfl, rfl, Nat.le_trans hvv3 hk2, Nat.le_trans hvv3 hk1, by have := hsz; simp [World.setRow] at this ⊢; omega, hset⟩
      ·
       go_simp
       refine kp hK hkeep ?_
       clear hK K
       have hn1 := fun p hp => Nat.ne_of_lt ((hN1.rows p hp).lt)
       have hg1 := hN1.old.size
       have hN2 := hN1.box 50 #[.int .u64 0, .int .u64 0, .int .u64 0, .int .u64 0, .int .u64 0]
       try simp only [World.size_alloc] at hN2 hn1 hg1
       have hk1 : v3.heap.size ≤ x1.heap.size := (show Below v3.heap.size v3 x1 from bl).size
       refine rd2 3 5 (fun K hK => ?_) fun K hK => ?_
       ·
        go_simp
        refine (kBB _).mono ?_
        rintro e x3 ⟨rfl, hx3⟩
        refine kp hK hkeep ?_
        clear hK K
        have hN3 := hN2.call hx3
        refine on1 5 fun K hK => ?_
        go_simp
        refine kp hK hkeep ?_
        clear hK K
        have hn2 := fun p hp => Nat.ne_of_lt ((hN3.rows p hp).lt)
        have hg2 := hN3.old.size
        have hN4 := hN3.box 50 #[.int .u64 0, .int .u64 0, .int .u64 0, .int .u64 0, .int .u64 0]
        try simp only [World.size_alloc] at hN4 hn2 hg2
        have hk2 : v3.heap.size ≤ x3.heap.size := (show Below v3.heap.size v3 x3 from bl).size
        have hsz : w.heap.size ≤ x3.heap.size + 1 := Nat.le_trans hvv3 (Nat.le_trans hk2 (Nat.le_succ _))
        have hne : (x1.heap.size : Nat) ≠ x3.heap.size := hn2 _ List.mem_cons_self
        have hset := Ms.set2 (ds := (feC AA)) (ds' := (feC BB)) (hN4.swap) hg1 hg2 hne hn1 (fun p hp => hn2 p (List.mem_cons_of_mem _ hp))
        refine on1 6 fun K hK => ?_
        refine step_store_row rfl 50 (.tmp 11) (.tmp 48) rfl (x1.heap.size) (feC AA) rfl rfl 50 _ (hN4.get 1 rfl) (sizeFe _) (fe_zero _) (one_fe _) ?_
        refine kp hK hkeep ?_
        clear hK K
        refine on1 7 fun K hK => ?_
        refine step_store_row rfl 50 (.tmp 12) (.tmp 50) rfl (x3.heap.size) (feC BB) rfl rfl 50 _ ((hN4.get 0 rfl).rowFar (Ne.symm hne) _) (sizeFe _) (fe_zero _) (one_fe _) ?_
        refine hK.out _ _ (fun h => absurd rfl h) ?_
        clear hK K
        refine doneT (by kernel_rfl) ?_ _
        go_wp2_with fail
        go_meet
        exact ⟨_, _, rfl, rfl, Nat.le_trans hvv3 hk1, Nat.le_trans hvv3 hk2, by have := hsz; simp [World.setRow] at this ⊢; omega, hset⟩
       ·
        go_simp
        refine kp hK hkeep ?_
        clear hK K
        have hn2 := fun p hp => Nat.ne_of_lt ((hN2.rows p hp).lt)
        have hg2 := hN2.old.size
        have hN3 := hN2.box 50 #[.int .u64 0, .int .u64 0, .int .u64 0, .int .u64 0, .int .u64 0]
        try simp only [World.size_alloc] at hN3 hn2 hg2
        have hk2 : v3.heap.size ≤ x1.heap.size + 1 := Nat.le_trans (show Below v3.heap.size v3 x1 from bl).size (Nat.le_succ _)
        refine on1 3 fun K hK => ?_
        go_simp
        refine (kBB _).mono ?_
        rintro e x4 ⟨rfl, hx4⟩
        refine kp hK hkeep ?_
        clear hK K
        have hN4 := hN3.call hx4
        have hsz : w.heap.size ≤ x4.heap.size := Nat.le_trans hvv3 (show Below v3.heap.size v3 x4 from bl).size
        have hne : (x1.heap.size : Nat) ≠ x1.heap.size + 1 := hn2 _ List.mem_cons_self
        have hset := Ms.set2 (ds := (feC AA)) (ds' := (feC BB)) (hN4.swap) hg1 hg2 hne hn1 (fun p hp => hn2 p (List.mem_cons_of_mem _ hp))
        refine on1 6 fun K hK => ?_
        refine step_store_row rfl 50 (.tmp 11) (.tmp 48) rfl (x1.heap.size) (feC AA) rfl rfl 50 _ (hN4.get 1 rfl) (sizeFe _) (fe_zero _) (one_fe _) ?_
        refine kp hK hkeep ?_
        clear hK K
        refine on1 7 fun K hK => ?_
        refine step_store_row rfl 50 (.tmp 12) (.tmp 50) rfl (x1.heap.size + 1) (feC BB) rfl rfl 50 _ ((hN4.get 0 rfl).rowFar (Ne.symm hne) _) (sizeFe _) (fe_zero _) (one_fe _) ?_
        refine hK.out _ _ (fun h => absurd rfl h) ?_
        clear hK K
        refine doneT (by kernel_rfl) ?_ _
        go_wp2_with fail
        go_meet
        exact ⟨_, _, rfl, rfl, Nat.le_trans hvv3 hk1, Nat.le_trans hvv3 hk2, by have := hsz; simp [World.setRow] at this ⊢; omega, hset⟩
      ·
       go_simp
       refine kp hK hkeep ?_
       clear hK K
       have hn1 := fun p hp => Nat.ne_of_lt ((hN1.rows p hp).lt)
       have hg1 := hN1.old.size
       have hN2 := hN1.box 50 #[.int .u64 0, .int .u64 0, .int .u64 0, .int .u64 0, .int .u64 0]
       try simp only [World.size_alloc] at hN2 hn1 hg1
       have hk1 : v3.heap.size ≤ x1.heap.size := (show Below v3.heap.size v3 x1 from bl).size
       refine rd2 3 4 (fun K hK => ?_) fun K hK => ?_
       ·
        go_simp
        refine (kBB _).mono ?_
        rintro e x3 ⟨rfl, hx3⟩
        refine kp hK hkeep ?_
        clear hK K
        have hN3 := hN2.call hx3
        refine on1 4 fun K hK => ?_
        go_simp
        refine kp hK hkeep ?_
        clear hK K
        have hn2 := fun p hp => Nat.ne_of_lt ((hN3.rows p hp).lt)
        have hg2 := hN3.old.size
        have hN4 := hN3.box 50 #[.int .u64 0, .int .u64 0, .int .u64 0, .int .u64 0, .int .u64 0]
        try simp only [World.size_alloc] at hN4 hn2 hg2
        have hk2 : v3.heap.size ≤ x3.heap.size := (show Below v3.heap.size v3 x3 from bl).size
        have hsz : w.heap.size ≤ x3.heap.size + 1 := Nat.le_trans hvv3 (Nat.le_trans hk2 (Nat.le_succ _))
        have hne : (x1.heap.size : Nat) ≠ x3.heap.size := hn2 _ List.mem_cons_self
        have hset := Ms.set2 (ds := (feC AA)) (ds' := (feC BB)) (hN4) hg2 hg1 (Ne.symm hne) (fun p hp => hn2 p (List.mem_cons_of_mem _ hp)) hn1
        refine on1 6 fun K hK => ?_
        refine step_store_row rfl 50 (.tmp 11) (.tmp 48) rfl (x3.heap.size) (feC AA) rfl rfl 50 _ (hN4.get 0 rfl) (sizeFe _) (fe_zero _) (one_fe _) ?_
        refine kp hK hkeep ?_
        clear hK K
        refine on1 7 fun K hK => ?_
        refine step_store_row rfl 50 (.tmp 12) (.tmp 50) rfl (x1.heap.size) (feC BB) rfl rfl 50 _ ((hN4.get 1 rfl).rowFar hne _) (sizeFe _) (fe_zero _) (one_fe _) ?_
        refine hK.out _ _ (fun h => absurd rfl h) ?_
        clear hK K
        refine doneT (by kernel_rfl) ?_ _
        go_wp2_with fail
        go_meet
        exact ⟨_, _, rfl, rfl, Nat.le_trans hvv3 hk2, Nat.le_trans hvv3 hk1, by have := hsz; simp [World.setRow] at this ⊢; omega, hset⟩
       ·
        go_simp
        refine kp hK hkeep ?_
        clear hK K
        have hn2 := fun p hp => Nat.ne_of_lt ((hN2.rows p hp).lt)
        have hg2 := hN2.old.size
        have hN3 := hN2.box 50 #[.int .u64 0, .int .u64 0, .int .u64 0, .int .u64 0, .int .u64 0]
        try simp only [World.size_alloc] at hN3 hn2 hg2
        have hk2 : v3.heap.size ≤ x1.heap.size + 1 := Nat.le_trans (show Below v3.heap.size v3 x1 from bl).size (Nat.le_succ _)
        refine on1 3 fun K hK => ?_
        go_simp
        refine (kBB _).mono ?_
        rintro e x4 ⟨rfl, hx4⟩
        refine kp hK hkeep ?_
        clear hK K
        have hN4 := hN3.call hx4
        have hsz : w.heap.size ≤ x4.heap.size := Nat.le_trans hvv3 (show Below v3.heap.size v3 x4 from bl).size
        have hne : (x1.heap.size : Nat) ≠ x1.heap.size + 1 := hn2 _ List.mem_cons_self
        have hset := Ms.set2 (ds := (feC AA)) (ds' := (feC BB)) (hN4) hg2 hg1 (Ne.symm hne) (fun p hp => hn2 p (List.mem_cons_of_mem _ hp)) hn1
        refine on1 6 fun K hK => ?_
        refine step_store_row rfl 50 (.tmp 11) (.tmp 48) rfl (x1.heap.size + 1) (feC AA) rfl rfl 50 _ (hN4.get 0 rfl) (sizeFe _) (fe_zero _) (one_fe _) ?_
        refine kp hK hkeep ?_
        clear hK K
        refine on1 7 fun K hK => ?_
        refine step_store_row rfl 50 (.tmp 12) (.tmp 50) rfl (x1.heap.size) (feC BB) rfl rfl 50 _ ((hN4.get 1 rfl).rowFar hne _) (sizeFe _) (fe_zero _) (one_fe _) ?_
        refine hK.out _ _ (fun h => absurd rfl h) ?_
        clear hK K
        refine doneT (by kernel_rfl) ?_ _
        go_wp2_with fail
        go_meet
        exact ⟨_, _, rfl, rfl, Nat.le_trans hvv3 hk2, Nat.le_trans hvv3 hk1, by have := hsz; simp [World.setRow] at this ⊢; omega, hset⟩
     ·
      go_simp
      refine kp hK hkeep ?_
      clear hK K
      have hn1 := fun p hp => Nat.ne_of_lt ((hD.rows p hp).lt)
      have hg1 := hD.old.size
      have hN1 := hD.box 50 #[.int .u64 0, .int .u64 0, .int .u64 0, .int .u64 0, .int .u64 0]
      try simp only [World.size_alloc] at hN1 hn1 hg1
      have hk1 : v3.heap.size ≤ v3.heap.size := Nat.le_refl _
      refine rd2 1 5 (fun K hK => ?_) fun K hK => ?_
      ·
       go_simp
       refine (kAA _).mono ?_
       rintro e x2 ⟨rfl, hx2⟩
       refine kp hK hkeep ?_
       clear hK K
       have hN2 := hN1.call hx2
       refine rd2 3 5 (fun K hK => ?_) fun K hK => ?_
       ·
        go_simp
        refine (kBB _).mono ?_
        rintro e x3 ⟨rfl, hx3⟩
        refine kp hK hkeep ?_
        clear hK K
        have hN3 := hN2.call hx3
        refine on1 5 fun K hK => ?_
        go_simp
        refine kp hK hkeep ?_
        clear hK K
        have hn2 := fun p hp => Nat.ne_of_lt ((hN3.rows p hp).lt)
        have hg2 := hN3.old.size
        have hN4 := hN3.box 50 #[.int .u64 0, .int .u64 0, .int .u64 0, .int .u64 0, .int .u64 0]
        try simp only [World.size_alloc] at hN4 hn2 hg2
        have hk2 : v3.heap.size ≤ x3.heap.size := (show Below v3.heap.size v3 x3 from bl).size
        have hsz : w.heap.size ≤ x3.heap.size + 1 := Nat.le_trans hvv3 (Nat.le_trans hk2 (Nat.le_succ _))
        have hne : (v3.heap.size : Nat) ≠ x3.heap.size := hn2 _ List.mem_cons_self
        have hset := Ms.set2 (ds := (feC AA)) (ds' := (feC BB)) (hN4.swap) hg1 hg2 hne hn1 (fun p hp => hn2 p (List.mem_cons_of_mem _ hp))
        refine on1 6 fun K hK => ?_
        refine step_store_row rfl 50 (.tmp 11) (.tmp 48) rfl (v3.heap.size) (feC AA) rfl rfl 50 _ (hN4.get 1 rfl) (sizeFe _) (fe_zero _) (one_fe _) ?_
        refine kp hK hkeep ?_
        clear hK K
        refine on1 7 fun K hK => ?_
        refine step_store_row rfl 50 (.tmp 12) (.tmp 50) rfl (x3.heap.size) (feC BB) rfl rfl 50 _ ((hN4.get 0 rfl).rowFar (Ne.symm hne) _) (sizeFe _) (fe_zero _) (one_fe _) ?_
        refine hK.out _ _ (fun h => absurd rfl h) ?_
        clear hK K
        refine doneT (by kernel_rfl) ?_ _
        go_wp2_with fail
        go_meet
        exact ⟨_, _, rfl, rfl, Nat.le_trans hvv3 hk1, Nat.le_trans hvv3 hk2, by have := hsz; simp [World.setRow] at this ⊢; omega, hset⟩
       ·
        go_simp
        refine kp hK hkeep ?_
        clear hK K
        have hn2 := fun p hp => Nat.ne_of_lt ((hN2.rows p hp).lt)
        have hg2 := hN2.old.size
        have hN3 := hN2.box 50 #[.int .u64 0, .int .u64 0, .int .u64 0, .int .u64 0, .int .u64 0]
        try simp only [World.size_alloc] at hN3 hn2 hg2
        have hk2 : v3.heap.size ≤ x2.heap.size := (show Below v3.heap.size v3 x2 from bl).size
        refine on1 3 fun K hK => ?_
        go_simp
        refine (kBB _).mono ?_
        rintro e x4 ⟨rfl, hx4⟩
        refine kp hK hkeep ?_
        clear hK K
        have hN4 := hN3.call hx4
        have hsz : w.heap.size ≤ x4.heap.size := Nat.le_trans hvv3 (show Below v3.heap.size v3 x4 from bl).size
        have hne : (v3.heap.size : Nat) ≠ x2.heap.size := hn2 _ List.mem_cons_self
        have hset := Ms.set2 (ds := (feC AA)) (ds' := (feC BB)) (hN4.swap) hg1 hg2 hne hn1 (fun p hp => hn2 p (List.mem_cons_of_mem _ hp))
        refine on1 6 fun K hK => ?_
        refine step_store_row rfl 50 (.tmp 11) (.tmp 48) rfl (v3.heap.size) (feC AA) rfl rfl 50 _ (hN4.get 1 rfl) (sizeFe _) (fe_zero _) (one_fe _) ?_
        refine kp hK hkeep ?_
        clear hK K
        refine on1 7 fun K hK => ?_
        refine step_store_row rfl 50 (.tmp 12) (.tmp 50) rfl (x2.heap.size) (feC BB) rfl rfl 50 _ ((hN4.get 0 rfl).rowFar (Ne.symm hne) _) (sizeFe _) (fe_zero _) (one_fe _) ?_
        refine hK.out _ _ (fun h => absurd rfl h) ?_
        clear hK K
        refine doneT (by kernel_rfl) ?_ _
        go_wp2_with fail
        go_meet
        exact ⟨_, _, rfl, rfl, Nat.le_trans hvv3 hk1, Nat.le_trans hvv3 hk2, by have := hsz; simp [World.setRow] at this ⊢; omega, hset⟩
      ·
       go_simp
       refine kp hK hkeep ?_
       clear hK K
       have hn2 := fun p hp => Nat.ne_of_lt ((hN1.rows p hp).lt)
       have hg2 := hN1.old.size
       have hN2 := hN1.box 50 #[.int .u64 0, .int .u64 0, .int .u64 0, .int .u64 0, .int .u64 0]
       try simp only [World.size_alloc] at hN2 hn2 hg2
       have hk2 : v3.heap.size ≤ v3.heap.size + 1 := Nat.le_succ _
       refine on1 1 fun K hK => ?_
       go_simp
       refine (kAA _).mono ?_
       rintro e x3 ⟨rfl, hx3⟩
       refine kp hK hkeep ?_
       clear hK K
       have hN3 := hN2.call hx3
       refine on1 3 fun K hK => ?_
       go_simp
       refine (kBB _).mono ?_
       rintro e x4 ⟨rfl, hx4⟩
       refine kp hK hkeep ?_
       clear hK K
       have hN4 := hN3.call hx4
       have hsz : w.heap.size ≤ x4.heap.size := Nat.le_trans hvv3 (show Below v3.heap.size v3 x4 from bl).size
       have hne : (v3.heap.size : Nat) ≠ v3.heap.size + 1 := hn2 _ List.mem_cons_self
       have hset := Ms.set2 (ds := (feC AA)) (ds' := (feC BB)) (hN4.swap) hg1 hg2 hne hn1 (fun p hp => hn2 p (List.mem_cons_of_mem _ hp))
       refine on1 6 fun K hK => ?_
       refine step_store_row rfl 50 (.tmp 11) (.tmp 48) rfl (v3.heap.size) (feC AA) rfl rfl 50 _ (hN4.get 1 rfl) (sizeFe _) (fe_zero _) (one_fe _) ?_
       refine kp hK hkeep ?_
       clear hK K
       refine on1 7 fun K hK => ?_
       refine step_store_row rfl 50 (.tmp 12) (.tmp 50) rfl (v3.heap.size + 1) (feC BB) rfl rfl 50 _ ((hN4.get 0 rfl).rowFar (Ne.symm hne) _) (sizeFe _) (fe_zero _) (one_fe _) ?_
       refine hK.out _ _ (fun h => absurd rfl h) ?_
       clear hK K
       refine doneT (by kernel_rfl) ?_ _
       go_wp2_with fail
       go_meet
       exact ⟨_, _, rfl, rfl, Nat.le_trans hvv3 hk1, Nat.le_trans hvv3 hk2, by have := hsz; simp [World.setRow] at this ⊢; omega, hset⟩
     ·
      go_simp
      refine kp hK hkeep ?_
      clear hK K
      have hn1 := fun p hp => Nat.ne_of_lt ((hD.rows p hp).lt)
      have hg1 := hD.old.size
      have hN1 := hD.box 50 #[.int .u64 0, .int .u64 0, .int .u64 0, .int .u64 0, .int .u64 0]
      try simp only [World.size_alloc] at hN1 hn1 hg1
      have hk1 : v3.heap.size ≤ v3.heap.size := Nat.le_refl _
      refine rd2 1 4 (fun K hK => ?_) fun K hK => ?_
      ·
       go_simp
       refine (kAA _).mono ?_
       rintro e x2 ⟨rfl, hx2⟩
       refine kp hK hkeep ?_
       clear hK K
       have hN2 := hN1.call hx2
       refine rd2 3 4 (fun K hK => ?_) fun K hK => ?_
       ·
        go_simp
        refine (kBB _).mono ?_
        rintro e x3 ⟨rfl, hx3⟩
        refine kp hK hkeep ?_
        clear hK K
        have hN3 := hN2.call hx3
        refine on1 4 fun K hK => ?_
        go_simp
        refine kp hK hkeep ?_
        clear hK K
        have hn2 := fun p hp => Nat.ne_of_lt ((hN3.rows p hp).lt)
        have hg2 := hN3.old.size
        have hN4 := hN3.box 50 #[.int .u64 0, .int .u64 0, .int .u64 0, .int .u64 0, .int .u64 0]
        try simp only [World.size_alloc] at hN4 hn2 hg2
        have hk2 : v3.heap.size ≤ x3.heap.size := (show Below v3.heap.size v3 x3 from bl).size
        have hsz : w.heap.size ≤ x3.heap.size + 1 := Nat.le_trans hvv3 (Nat.le_trans hk2 (Nat.le_succ _))
        have hne : (v3.heap.size : Nat) ≠ x3.heap.size := hn2 _ List.mem_cons_self
        have hset := Ms.set2 (ds := (feC AA)) (ds' := (feC BB)) (hN4) hg2 hg1 (Ne.symm hne) (fun p hp => hn2 p (List.mem_cons_of_mem _ hp)) hn1
        refine on1 6 fun K hK => ?_
        refine step_store_row rfl 50 (.tmp 11) (.tmp 48) rfl (x3.heap.size) (feC AA) rfl rfl 50 _ (hN4.get 0 rfl) (sizeFe _) (fe_zero _) (one_fe _) ?_
        refine kp hK hkeep ?_
        clear hK K
        refine on1 7 fun K hK => ?_
        refine step_store_row rfl 50 (.tmp 12) (.tmp 50) rfl (v3.heap.size) (feC BB) rfl rfl 50 _ ((hN4.get 1 rfl).rowFar hne _) (sizeFe _) (fe_zero _) (one_fe _) ?_
        refine hK.out _ _ (fun h => absurd rfl h) ?_
        clear hK K
        refine doneT (by kernel_rfl) ?_ _
        go_wp2_with fail
        go_meet
        exact ⟨_, _, rfl, rfl, Nat.le_trans hvv3 hk2, Nat.le_trans hvv3 hk1, by have := hsz; simp [World.setRow] at this ⊢; omega, hset⟩
       ·
        go_simp
        refine kp hK hkeep ?_
        clear hK K
        have hn2 := fun p hp => Nat.ne_of_lt ((hN2.rows p hp).lt)
        have hg2 := hN2.old.size
        have hN3 := hN2.box 50 #[.int .u64 0, .int .u64 0, .int .u64 0, .int .u64 0, .int .u64 0]
        try simp only [World.size_alloc] at hN3 hn2 hg2
        have hk2 : v3.heap.size ≤ x2.heap.size := (show Below v3.heap.size v3 x2 from bl).size
        refine on1 3 fun K hK => ?_
        go_simp
        refine (kBB _).mono ?_
        rintro e x4 ⟨rfl, hx4⟩
        refine kp hK hkeep ?_
        clear hK K
        have hN4 := hN3.call hx4
        have hsz : w.heap.size ≤ x4.heap.size := Nat.le_trans hvv3 (show Below v3.heap.size v3 x4 from bl).size
        have hne : (v3.heap.size : Nat) ≠ x2.heap.size := hn2 _ List.mem_cons_self
        have hset := Ms.set2 (ds := (feC AA)) (ds' := (feC BB)) (hN4) hg2 hg1 (Ne.symm hne) (fun p hp => hn2 p (List.mem_cons_of_mem _ hp)) hn1
        refine on1 6 fun K hK => ?_
        refine step_store_row rfl 50 (.tmp 11) (.tmp 48) rfl (x2.heap.size) (feC AA) rfl rfl 50 _ (hN4.get 0 rfl) (sizeFe _) (fe_zero _) (one_fe _) ?_
        refine kp hK hkeep ?_
        clear hK K
        refine on1 7 fun K hK => ?_
        refine step_store_row rfl 50 (.tmp 12) (.tmp 50) rfl (v3.heap.size) (feC BB) rfl rfl 50 _ ((hN4.get 1 rfl).rowFar hne _) (sizeFe _) (fe_zero _) (one_fe _) ?_
        refine hK.out _ _ (fun h => absurd rfl h) ?_
        clear hK K
        refine doneT (by kernel_rfl) ?_ _
        go_wp2_with fail
        go_meet
        exact ⟨_, _, rfl, rfl, Nat.le_trans hvv3 hk2, Nat.le_trans hvv3 hk1, by have := hsz; simp [World.setRow] at this ⊢; omega, hset⟩
      ·
       go_simp
       refine kp hK hkeep ?_
       clear hK K
       have hn2 := fun p hp => Nat.ne_of_lt ((hN1.rows p hp).lt)
       have hg2 := hN1.old.size
       have hN2 := hN1.box 50 #[.int .u64 0, .int .u64 0, .int .u64 0, .int .u64 0, .int .u64 0]
       try simp only [World.size_alloc] at hN2 hn2 hg2
       have hk2 : v3.heap.size ≤ v3.heap.size + 1 := Nat.le_succ _
       refine on1 1 fun K hK => ?_
       go_simp
       refine (kAA _).mono ?_
       rintro e x3 ⟨rfl, hx3⟩
       refine kp hK hkeep ?_
       clear hK K
       have hN3 := hN2.call hx3
       refine on1 3 fun K hK => ?_
       go_simp
       refine (kBB _).mono ?_
       rintro e x4 ⟨rfl, hx4⟩
       refine kp hK hkeep ?_
       clear hK K
       have hN4 := hN3.call hx4
       have hsz : w.heap.size ≤ x4.heap.size := Nat.le_trans hvv3 (show Below v3.heap.size v3 x4 from bl).size
       have hne : (v3.heap.size : Nat) ≠ v3.heap.size + 1 := hn2 _ List.mem_cons_self
       have hset := Ms.set2 (ds := (feC AA)) (ds' := (feC BB)) (hN4) hg2 hg1 (Ne.symm hne) (fun p hp => hn2 p (List.mem_cons_of_mem _ hp)) hn1
       refine on1 6 fun K hK => ?_
       refine step_store_row rfl 50 (.tmp 11) (.tmp 48) rfl (v3.heap.size + 1) (feC AA) rfl rfl 50 _ (hN4.get 0 rfl) (sizeFe _) (fe_zero _) (one_fe _) ?_
       refine kp hK hkeep ?_
       clear hK K
       refine on1 7 fun K hK => ?_
       refine step_store_row rfl 50 (.tmp 12) (.tmp 50) rfl (v3.heap.size) (feC BB) rfl rfl 50 _ ((hN4.get 1 rfl).rowFar hne _) (sizeFe _) (fe_zero _) (one_fe _) ?_
       refine hK.out _ _ (fun h => absurd rfl h) ?_
       clear hK K
       refine doneT (by kernel_rfl) ?_ _
       go_wp2_with fail
       go_meet
       exact ⟨_, _, rfl, rfl, Nat.le_trans hvv3 hk2, Nat.le_trans hvv3 hk1, by have := hsz; simp [World.setRow] at this ⊢; omega, hset⟩
    case rest =>
     obtain ⟨gAA, gBB, rfl, rfl, hggAA, hggBB, hsc4, hMc4⟩ := hcut
     clear hMvv3
     go_wp2_with (first
      | ((with_reducible refine tdQ 51 ?_); refine lcQ 50 (.tmp 11) (gAA) (feC AA) (hMc4.get 0 rfl) Tryd.underlying50 (sizeFe _) ?_)
      | ((with_reducible refine tdQ 52 ?_); refine lcQ 50 (.tmp 12) (gBB) (feC BB) (hMc4.get 1 rfl) Tryd.underlying50 (sizeFe _) ?_))
     refine (kE _).mono ?_
     rintro e w2 ⟨rfl, hb2⟩
     have hM2 := hMc4.call hb2
     have hv2 : w.heap.size ≤ w2.heap.size := Nat.le_trans hsc4 hb2.size
     clear hMc4 hb2
     have hP2 := hM2.put 50 #[.int .u64 0, .int .u64 0, .int .u64 0, .int .u64 0, .int .u64 0] (feC E)
     go_upto_region 6 with ((with_reducible refine tsQ 50 ?_); refine srQ 50 (.tmp 13) (.tmp 53) (w2.heap.size) (feC E) _ (RowC.new _ _ _) (sizeFe _) (fe_zero _) (one_fe _) ?_)
     try simp only [Act.put]
     refine wp_gen (fun wx => Ms w0 wx ((w2.heap.size, 50, (feC E)) :: (gAA, 50, (feC AA)) :: (gBB, 50, (feC BB)) :: (gDA, 50, (feC DA)) :: (gCB, 50, (feC CB)) :: (gC, 50, (feC C)) :: (gD, 50, (feC D)) :: (gA, 50, (feC A)) :: (gB, 50, (feC B)) :: (gN, 53, (rtC nx nz)) :: (gX, 53, (rtC xx xz)) :: (gP, 50, (feC P)) :: L) ∧ w.heap.size ≤ wx.heap.size) ⟨hP2, by simp [World.setRow]; omega⟩ ?_
     clear hP2
     rintro v5 ⟨hMvv5, hvv5⟩
     generalize w2.heap.size = gE at *
     have hkeep : ∀ wx : World, Below v5.heap.size v5 wx → wx.rangeAt (gDA) 0 (feC DA).toList ∧ wx.rangeAt (gCB) 0 (feC CB).toList ∧ wx.rangeAt (gP) 0 (feC P).toList := fun wx hb => ⟨((hMvv5.get 3 rfl).call hb).range, ((hMvv5.get 4 rfl).call hb).range, ((hMvv5.get 11 rfl).call hb).range⟩
     have hun := Tryd.underlying50
     refine beginT (fun wx => wx.rangeAt (gDA) 0 (feC DA).toList ∧ wx.rangeAt (gCB) 0 (feC CB).toList ∧ wx.rangeAt (gP) 0 (feC P).toList) 11 (by kernel_rfl) ?_
     have hS := hkeep _ (c_drew (c_refl _))
     refine ldQ 0 (some 54) 50 (.tmp 9) (gDA) 0 (feC DA).toList (fun wx hSw => hSw.1) hun (sizeFeL _) (fun _ _ _ h => h) hS ?_
     simp only [Act.put, sA, sZ, sS, Array.toArray_toList]
     refine ldQ 1 (some 55) 50 (.tmp 10) (gCB) 0 (feC CB).toList (fun wx hSw => hSw.2.1) hun (sizeFeL _) (fun _ _ _ h => h) hS ?_
     simp only [Act.put, sA, sZ, sS, Array.toArray_toList]
     refine ldQ 4 (some 58) 50 (.tmp 3) (gP) 0 (feC P).toList (fun wx hSw => hSw.2.2) hun (sizeFeL _) (fun _ _ _ h => h) hS ?_
     simp only [Act.put, sA, sZ, sS, Array.toArray_toList]
     refine ldQ 5 (some 59) 50 (.tmp 9) (gDA) 0 (feC DA).toList (fun wx hSw => hSw.1) hun (sizeFeL _) (fun _ _ _ h => h) hS ?_
     simp only [Act.put, sA, sZ, sS, Array.toArray_toList]
     refine ldQ 6 (some 60) 50 (.tmp 10) (gCB) 0 (feC CB).toList (fun wx hSw => hSw.2.1) hun (sizeFeL _) (fun _ _ _ h => h) hS ?_
     simp only [Act.put, sA, sZ, sS, Array.toArray_toList]
     refine on1 2 fun K hK => ?_
     go_simp
     refine (kS1 _).mono ?_
     rintro e x1 ⟨rfl, hx1⟩
     refine kp hK hkeep ?_
     clear hK K
     refine on1 3 fun K hK => ?_
     go_simp
     refine (kX3 _).mono ?_
     rintro e x2 ⟨rfl, hx2⟩
     refine kp hK hkeep ?_
     clear hK K
     refine on1 7 fun K hK => ?_
     go_simp
     refine (kD1 _).mono ?_
     rintro e x3 ⟨rfl, hx3⟩
     refine kp hK hkeep ?_
     clear hK K
     refine on1 8 fun K hK => ?_
     go_simp
     refine (kQ1 _).mono ?_
     rintro e x4 ⟨rfl, hx4⟩
     refine kp hK hkeep ?_
     clear hK K
     refine on1 9 fun K hK => ?_
     go_simp
     refine (kZ3 _).mono ?_
     rintro e x5 ⟨rfl, hx5⟩
     refine kp hK hkeep ?_
     clear hK K
     refine on1 10 fun K hK => ?_
     refine step_buildR (by kernel_rfl) (some 64) rfl 53 _ rfl #[(0, .agg (feC X3)), (1, .agg (feC Z3))] (by kernel_rfl) _ (build_rt _ _ _) ?_
     simp only [Act.put, sA, sZ, sS]
     refine kp hK hkeep ?_
     clear hK K
     have hE : Below v5.heap.size v5 x5 := bl
     have hM9 := hMvv5.call hE
     refine on1 11 fun K hK => ?_
     refine step_store_row rfl 53 (.tmp 2) (.tmp 64) rfl (gX) (rtC X3 Z3) rfl rfl 53 _ (hM9.get 10 rfl) (sizeR _ _) (sameR _ _ _ _) (oneR _ _) ?_
     refine hK.out _ _ (fun h => absurd rfl h) ?_
     clear hK K
     refine doneT (by kernel_rfl) ?_ _
     have hM8 := Ms.set (Ms.sub (L' := (gX, 53, (rtC xx xz)) :: (gE, 50, (feC E)) :: (gAA, 50, (feC AA)) :: (gBB, 50, (feC BB)) :: (gDA, 50, (feC DA)) :: (gCB, 50, (feC CB)) :: (gC, 50, (feC C)) :: (gD, 50, (feC D)) :: (gA, 50, (feC A)) :: (gB, 50, (feC B)) :: (gN, 53, (rtC nx nz)) :: (gP, 50, (feC P)) :: L) hM9 (by intro p hp; simp only [List.mem_cons] at hp ⊢; rcases hp with h | h | h | h | h | h | h | h | h | h | h | h | h <;> simp [h])) h0X (by simp only [List.forall_mem_cons]; exact ⟨by omega, by omega, by omega, by omega, by omega, by omega, by omega, by omega, by omega, by omega, by omega, fun p hp => (HL.out p hp).2⟩) (rtC X3 Z3)
     have hvE : w.heap.size ≤ x5.heap.size := Nat.le_trans hvv5 hE.size
     clear hM9 hMvv5 hkeep hS
     go_upto_region 7 with (fail)
     try simp only [Act.put]
     refine wp_gen (fun wx => Ms w0 wx ((gX, 53, (rtC X3 Z3)) :: (gE, 50, (feC E)) :: (gAA, 50, (feC AA)) :: (gBB, 50, (feC BB)) :: (gDA, 50, (feC DA)) :: (gCB, 50, (feC CB)) :: (gC, 50, (feC C)) :: (gD, 50, (feC D)) :: (gA, 50, (feC A)) :: (gB, 50, (feC B)) :: (gN, 53, (rtC nx nz)) :: (gP, 50, (feC P)) :: L) ∧ w.heap.size ≤ wx.heap.size) ⟨hM8, by simp [World.setRow]; omega⟩ ?_
     clear hM8
     rintro v6 ⟨hMvv6, hvv6⟩
     have hkeep : ∀ wx : World, Below v6.heap.size v6 wx → wx.rangeAt (gAA) 0 (feC AA).toList ∧ wx.rangeAt (gBB) 0 (feC BB).toList ∧ wx.rangeAt (gE) 0 (feC E).toList := fun wx hb => ⟨((hMvv6.get 2 rfl).call hb).range, ((hMvv6.get 3 rfl).call hb).range, ((hMvv6.get 1 rfl).call hb).range⟩
     have hun := Tryd.underlying50
     refine beginT (fun wx => wx.rangeAt (gAA) 0 (feC AA).toList ∧ wx.rangeAt (gBB) 0 (feC BB).toList ∧ wx.rangeAt (gE) 0 (feC E).toList) 11 (by kernel_rfl) ?_
     have hS := hkeep _ (c_drew (c_refl _))
     refine ldQ 0 (some 65) 50 (.tmp 11) (gAA) 0 (feC AA).toList (fun wx hSw => hSw.1) hun (sizeFeL _) (fun _ _ _ h => h) hS ?_
     simp only [Act.put, List.setIfInBounds_toArray, Array.toArray_toList]
     refine ldQ 1 (some 66) 50 (.tmp 12) (gBB) 0 (feC BB).toList (fun wx hSw => hSw.2.1) hun (sizeFeL _) (fun _ _ _ h => h) hS ?_
     simp only [Act.put, Array.toArray_toList]
     refine ldQ 3 (some 68) 50 (.tmp 13) (gE) 0 (feC E).toList (fun wx hSw => hSw.2.2) hun (sizeFeL _) (fun _ _ _ h => h) hS ?_
     simp only [Act.put, Array.toArray_toList]
     refine ldQ 4 (some 69) 50 (.tmp 11) (gAA) 0 (feC AA).toList (fun wx hSw => hSw.1) hun (sizeFeL _) (fun _ _ _ h => h) hS ?_
     simp only [Act.put, Array.toArray_toList]
     refine ldQ 6 (some 71) 50 (.tmp 13) (gE) 0 (feC E).toList (fun wx hSw => hSw.2.2) hun (sizeFeL _) (fun _ _ _ h => h) hS ?_
     simp only [Act.put, Array.toArray_toList]
     refine takeD 5 (some 70) (.agg (feC termF)) rfl rfl (by kernel_rfl) (by kernel_rfl) (by kernel_rfl) (by kernel_rfl) (fun _ _ _ h => h) (yields_build (by kernel_rfl) 50 _ rfl #[(0, .int .u64 121665)] (by kernel_rfl) _ build_term) hS ?_
     simp only [Act.put]
     refine on1 2 fun K hK => ?_
     go_simp
     refine (kX2 _).mono ?_
     rintro e x1 ⟨rfl, hx1⟩
     refine kp hK hkeep ?_
     clear hK K
     refine on1 7 fun K hK => ?_
     go_simp
     refine (kM1 _).mono ?_
     rintro e x2 ⟨rfl, hx2⟩
     refine kp hK hkeep ?_
     clear hK K
     refine on1 8 fun K hK => ?_
     go_simp
     refine (kM2 _).mono ?_
     rintro e x3 ⟨rfl, hx3⟩
     refine kp hK hkeep ?_
     clear hK K
     refine on1 9 fun K hK => ?_
     go_simp
     refine (kZ2 _).mono ?_
     rintro e x4 ⟨rfl, hx4⟩
     refine kp hK hkeep ?_
     clear hK K
     refine on1 10 fun K hK => ?_
     refine step_buildR (by kernel_rfl) (some 75) rfl 53 _ rfl #[(0, .agg (feC X2)), (1, .agg (feC Z2))] (by kernel_rfl) _ (build_rt _ _ _) ?_
     simp only [Act.put, sA, sZ, sS]
     refine kp hK hkeep ?_
     clear hK K
     have hE : Below v6.heap.size v6 x4 := bl
     have hM9 := hMvv6.call hE
     refine on1 11 fun K hK => ?_
     refine step_store_row rfl 53 (.tmp 1) (.tmp 75) rfl (gN) (rtC X2 Z2) rfl rfl 53 _ (hM9.get 10 rfl) (sizeR _ _) (sameR _ _ _ _) (oneR _ _) ?_
     refine hK.out _ _ (fun h => absurd rfl h) ?_
     clear hK K
     refine doneT (by kernel_rfl) ?_ _
     have hM8 := Ms.set (Ms.sub (L' := (gN, 53, (rtC nx nz)) :: (gX, 53, (rtC X3 Z3)) :: (gE, 50, (feC E)) :: (gAA, 50, (feC AA)) :: (gBB, 50, (feC BB)) :: (gDA, 50, (feC DA)) :: (gCB, 50, (feC CB)) :: (gC, 50, (feC C)) :: (gD, 50, (feC D)) :: (gA, 50, (feC A)) :: (gB, 50, (feC B)) :: (gP, 50, (feC P)) :: L) hM9 (by intro p hp; simp only [List.mem_cons] at hp ⊢; rcases hp with h | h | h | h | h | h | h | h | h | h | h | h | h <;> simp [h])) h0N (by simp only [List.forall_mem_cons]; exact ⟨by omega, by omega, by omega, by omega, by omega, by omega, by omega, by omega, by omega, by omega, by omega, fun p hp => (HL.out p hp).1⟩) (rtC X2 Z2)
     have hvE : w.heap.size ≤ x4.heap.size := Nat.le_trans hvv6 hE.size
     clear hM9 hMvv6 hkeep hS
     go_upto_region 8 with (fail)
     try simp only [Act.put]
     refine wp_gen (fun wx => Ms w0 wx ((gN, 53, (rtC X2 Z2)) :: (gX, 53, (rtC X3 Z3)) :: (gE, 50, (feC E)) :: (gAA, 50, (feC AA)) :: (gBB, 50, (feC BB)) :: (gDA, 50, (feC DA)) :: (gCB, 50, (feC CB)) :: (gC, 50, (feC C)) :: (gD, 50, (feC D)) :: (gA, 50, (feC A)) :: (gB, 50, (feC B)) :: (gP, 50, (feC P)) :: L) ∧ w.heap.size ≤ wx.heap.size) ⟨hM8, by simp [World.setRow]; omega⟩ ?_
     clear hM8
     rintro v7 ⟨hMvv7, hvv7⟩
     have hMz := Ms.sub (L' := (gN, 53, (rtC X2 Z2)) :: (gX, 53, (rtC X3 Z3)) :: (gP, 50, feC P) :: L) hMvv7 (by intro p hp; simp only [List.mem_cons] at hp ⊢; rcases hp with h | h | h | h <;> simp [h])
     clear hMvv7
     go_wp2_with (first
      | ((with_reducible refine tdQ 77 ?_); refine lcQ 53 (.tmp 1) (gN) (rtC X2 Z2) (hMz.get 0 rfl) Tryd.underlying53 (sizeR _ _) ?_)
      | ((with_reducible refine tdQ 78 ?_); refine lcQ 53 (.tmp 2) (gX) (rtC X3 Z3) (hMz.get 1 rfl) Tryd.underlying53 (sizeR _ _) ?_))
     refine (kY _).mono ?_
     rintro e w3 ⟨rfl, hb3⟩
     have hM3 := hMz.call hb3
     have hv3 : w.heap.size ≤ w3.heap.size := Nat.le_trans hvv7 hb3.size
     clear hMz hb3
     have hM9 := Ms.set2 (ds := (rtC rx rz)) (ds' := (rtC sx sz)) hM3 h0N h0X hNX (by simp only [List.forall_mem_cons]; exact ⟨by omega, fun p hp => (HL.out p hp).1⟩) (by simp only [List.forall_mem_cons]; exact ⟨by omega, fun p hp => (HL.out p hp).2⟩)
     go_wp2_with (first
      | ((with_reducible refine tsQ 53 ?_); refine srQ 53 (.tmp 1) (.tmp 81) (gN) (rtC rx rz) _ (hM3.get 0 rfl) (sizeR _ _) (sameR _ _ _ _) (oneR _ _) ?_)
      | ((with_reducible refine tsQ 53 ?_); refine srQ 53 (.tmp 2) (.tmp 82) (gX) (rtC sx sz) _ ((hM3.get 1 rfl).rowFar (Ne.symm hNX) _) (sizeR _ _) (sameR _ _ _ _) (oneR _ _) ?_))
     try simp only [Act.put]
     exact Go.Great.bodyPost_end0 rfl rfl ⟨rfl, hM9, by simp [World.setRow]; omega⟩
end Go.Proofs.YtbiijdboolpaeaaDoor
