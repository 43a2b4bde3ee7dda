import Derived.Test.YtbiijdboolpaeaaDoorG04
import Derived.Test.YtbiijdboolpaeaaDoorG16
import Derived.Test.YtbiijdboolpaeaaDoorG17
set_option linter.unusedVariables false
namespace Go.Proofs.YtbiijdboolpaeaaDoor
open Go.RowKit
theorem keyZ : keyC (keyB 0) = #[.int .u8 0, .int .u8 0, .int .u8 0, .int .u8 0, .int .u8 0, .int .u8 0, .int .u8 0, .int .u8 0, .int .u8 0, .int .u8 0, .int .u8 0, .int .u8 0, .int .u8 0, .int .u8 0, .int .u8 0, .int .u8 0, .int .u8 0, .int .u8 0, .int .u8 0, .int .u8 0, .int .u8 0, .int .u8 0, .int .u8 0, .int .u8 0, .int .u8 0, .int .u8 0, .int .u8 0, .int .u8 0, .int .u8 0, .int .u8 0, .int .u8 0, .int .u8 0] := by kernel_rfl
theorem prt_parts (v : Nat) {i : Nat} (hi : i < 5) : prt (partsU v) i = v / 2 ^ (51 * i) % 2251799813685248 := by
 have h : i = 0 ∨ i = 1 ∨ i = 2 ∨ i = 3 ∨ i = 4 := by omega
 rcases h with rfl | rfl | rfl | rfl | rfl
 ·
  show v % _ = _; simp
 all_goals rfl
theorem low_step (v i : Nat) : v % 2 ^ (51 * (i + 1)) = v % 2 ^ (51 * i) + v / 2 ^ (51 * i) % 2251799813685248 * 2 ^ (51 * i) := by
 rw [Nat.mul_add, Nat.mul_one, Nat.pow_add, Nat.mod_mul, Nat.mul_comm (2 ^ (51 * i))]
theorem place_pow (i : Nat) : 2 ^ (51 * i) = 2 ^ (51 * i % 8) * 256 ^ (51 * i / 8) := by
 rw [show (256 : Nat) = 2 ^ 8 from rfl, ← Nat.pow_mul, ← Nat.pow_add]
 congr 1
 omega
theorem room {q i m : Nat} (hi : i < 5) (hq : q < 2251799813685248) (hm : ¬ q * 2 ^ (51 * i % 8) / 256 ^ m = 0) : 51 * i / 8 + m < 32 := by
 have hp : 0 < 256 ^ m := Nat.pow_pos (by omega)
 have h1 : 256 ^ m ≤ q * 2 ^ (51 * i % 8) := by
  rcases Nat.lt_or_ge (q * 2 ^ (51 * i % 8)) (256 ^ m) with h | h
  ·
   exact absurd (Nat.div_eq_of_lt h) hm
  ·
   exact h
 have h2 : q * 2 ^ (51 * i % 8) < 256 ^ (32 - 51 * i / 8) := by
  have h : i = 0 ∨ i = 1 ∨ i = 2 ∨ i = 3 ∨ i = 4 := by omega
  rcases h with rfl | rfl | rfl | rfl | rfl <;> simp <;> omega
 have h3 := (Nat.pow_lt_pow_iff_right (show 1 < 256 by omega)).1 (Nat.lt_of_le_of_lt h1 h2)
 omega
theorem shl_fits {q s : Nat} (hq : q < 2251799813685248) (hs : s ≤ 7) : q * 2 ^ s < 18446744073709551616 := by
 have h8 : (2 : Nat) ^ s ≤ 128 := Nat.le_trans (Nat.pow_le_pow_right (by omega) hs) (by decide)
 have := Nat.mul_le_mul (Nat.le_of_lt hq) h8
 omega
set_option maxRecDepth 100000 in
set_option maxHeartbeats 1000000 in
theorem Bytes_ok (f : Fe5) (w : World) (hf : MayF f) :
  Calls Tryd.prog 47 #[.agg (feC f)] w fun e w' => e = .returned (.tuple #[.agg (keyC (keyB (valF f % P25))), .int .i64 0]) ∧ Below w.heap.size w w' := by
 have hM0 := ((Ms.nil w).box 50 (feC f)).box 23 (keyC (keyB 0))
 simp only [World.size_alloc] at hM0
 have hma := fun wx => mayBe_any f wx hf.word
 rw [show mayB f = true from decide_eq_true hf] at hma
 have hle := fun wx => least_any f wx hf
 have hs0 := Lib.hid (sizeFe f)
 rw [show leastU f = partsU (valF f % P25) from rfl, feC_q (partsU (valF f % P25))] at hle
 have hV := P25_lt (valF f)
 generalize valF f % P25 = V at *
 have hi5 := fun k (hk : k < 5) => qC_at (prt_at (partsU V) hk)
 clear hf
 rw [keyZ] at hM0
 generalize qC [(partsU V).a0, (partsU V).a1, (partsU V).a2, (partsU V).a3, (partsU V).a4] = cc at *
 generalize feC f = ca at *
 obtain ⟨i0, hi0⟩ := quad_info
 have HV := Lib.hid hV
 have Hi5 := Lib.hid hi5
 clear hV hi5
 go_enter Tryd.func47, Tryd.ntmps47
 go_wp2_with ((with_reducible refine tdQ 10 ?_); refine lcQ 50 (.tmp 1) w.heap.size ca (hM0.get 1 rfl) Tryd.underlying50 hs0.out ?_)
 refine (hma _).mono ?_
 rintro e w1 ⟨rfl, hb1⟩
 have hM1 := (hM0.call hb1).box 23 (keyC (keyB 0))
 have hg : w.heap.size + 1 < w1.heap.size := ((hM0.call hb1).get 0 rfl).lt
 rw [keyZ] at hM1
 clear hM0 hb1
 go_wp2_with ((with_reducible refine tdQ 14 ?_); refine lcQ 50 (.tmp 1) w.heap.size ca (hM1.get 2 rfl) Tryd.underlying50 hs0.out ?_)
 refine (hle _).mono ?_
 rintro e w2 ⟨rfl, hb2⟩
 have hM2 := hM1.call hb2
 clear hM1 hb2
 generalize w1.heap.size = gB at *
 have hM3 : Ms w w2 [(gB, 23, keyC (keyB (V % 2 ^ (51 * 0)))), (w.heap.size + 1, 23, keyC (keyB 0)), (w.heap.size, 50, ca)] := by
  rw [show V % 2 ^ (51 * 0) = 0 by simp [Nat.mod_one], keyZ]
  exact hM2
 clear hM2
 go_wp2_with fail
 go_loopw [16] (fun i wr => ∃ n : Nat, n ≤ 5 ∧ i = .int .i64 (n : Int) ∧ Ms w wr [(gB, 23, keyC (keyB (V % 2 ^ (51 * n)))), (w.heap.size + 1, 23, keyC (keyB 0)), (w.heap.size, 50, ca)]) (fun i _ => (5 - intOf i).toNat)
 case atStart => exact ⟨0, by omega, rfl, hM3⟩
 case round =>
  obtain ⟨n, hn, rfl, hM⟩ := hrel
  by_cases hlt : n < 5
  ·
   have hix := Hi5.out n hlt
   have hq : prt (partsU V) n < 2251799813685248 := by rw [prt_parts V hlt]; exact Nat.mod_lt _ (by omega)
   have Hq := Lib.hid hq
   have Hstep := Lib.hid (low_step V n)
   have Hp := Lib.hid (prt_parts V hlt)
   have hpl := fun wx => place_any n wx hlt
   have hs7 : 51 * n % 8 ≤ 7 := by omega
   have Hlow := Lib.hid (Nat.mod_lt V (show 0 < 2 ^ (51 * n) from Nat.pow_pos (by omega)))
   have Hpow := Lib.hid (place_pow n)
   have Hroom := fun m => Lib.hid (room (m := m) hlt hq)
   have Hfit := Lib.hid (shl_fits hq hs7)
   generalize prt (partsU V) n = q at *
   have j0 : 0 ≤ (n : Int) := by omega
   have j1 : (n : Int) < 5 := by omega
   generalize 51 * n / 8 = a at *
   generalize 51 * n % 8 = s at *
   obtain ⟨r0, hr0⟩ : ∃ r, r = q * 2 ^ s := ⟨_, rfl⟩
   have hsh : IntKind.u64.wrap ((q : Int) * 2 ^ s) = ((r0 : Nat) : Int) := wrap_nat (by rw [hr0]; simp) (by rw [hr0]; exact Hfit.out)
   have Hr0 := Lib.hid hr0
   clear hq hr0
   go_wp2_with ((with_reducible refine tdQ 19 ?_); refine wpList_index_cell rfl (some 19) rfl 50 (.tmp 15) (.tmp 16) rfl cc rfl n rfl 5 48 Tryd.underlying50 quad_plain i0 hi0 quadCells _ hix hlt ?_)
   refine (hpl _).mono ?_
   rintro e w3 ⟨rfl, rfl⟩
   go_wp2_with fail
   have Hs7 := Lib.hid hs7
   clear hsh hpl hix hs7
   go_loopw [7, 9] (fun p r wr => ∃ m : Nat, p = .int .i64 ((a + m : Nat) : Int) ∧ r = .int .u64 ((r0 / 256 ^ m : Nat) : Int) ∧ Ms w wr [(gB, 23, keyC (keyB (wroteU (V % 2 ^ (51 * n)) q s a m))), (w.heap.size + 1, 23, keyC (keyB 0)), (w.heap.size, 50, ca)]) (fun _ r _ => (intOf r).toNat)
   case atStart => exact ⟨0, by simp, by simp, by rw [wroteU_zero]; exact hM⟩
   case round =>
    obtain ⟨m, rfl, rfl, hM⟩ := hrel
    by_cases hz : r0 / 256 ^ m = 0
    ·
     have Hz := Lib.hid hz
     rw [hz, show ((0 : Nat) : Int) = 0 from rfl]
     clear hz
     rw [wroteU_end (by rw [← Hr0.out]; exact Hz.out)] at hM
     go_wp2_with fail
     refine ⟨⟨n + 1, by omega, by go_num, ?_⟩, by simp [intOf]; omega⟩
     rw [Hstep.out, ← Hp.out, Hpow.out, ← Nat.mul_assoc]
     rw [Hpow.out] at hM
     exact hM
    ·
     have hp32 := (Hroom m).out (by rw [← Hr0.out]; exact hz)
     have hws := wrote_step (V := V % 2 ^ (51 * n)) (q := q) (s := s) (a := a) (m := m) Hs7.out (by have := Hlow.out; rwa [Hpow.out] at this ⊢)
     rw [← Hr0.out] at hws
     obtain ⟨o1, o2, o3⟩ := hws
     have hset := keyB_set _ _ _ hp32 o2 _ rfl
     rw [← o3] at hset
     have hc := (hM.get 0 rfl).cell (keyC_at (keyB_at (wroteU (V % 2 ^ (51 * n)) q s a m) hp32))
     have hf := (hM.get 0 rfl).frozen (a + m)
     have hnew := hM.setCell (by omega) (by simp; omega) (a + m) (.int .u8 ((wroteU (V % 2 ^ (51 * n)) q s a m / 256 ^ (a + m) % 256 + r0 / 256 ^ m % 256 : Nat) : Int))
     rw [show ((wroteU (V % 2 ^ (51 * n)) q s a m / 256 ^ (a + m) % 256 + r0 / 256 ^ m % 256 : Nat) : Int) = ((UInt8.ofNat (wroteU (V % 2 ^ (51 * n)) q s a m / 256 ^ (a + m) % 256 + r0 / 256 ^ m % 256)).toNat : Int) by rw [ofNat_lt o2], keyC_set, hset, ofNat_lt o2] at hnew
     rw [UInt8.toNat_ofNat'] at hc
     have hor : bits .or .u8 ((wroteU (V % 2 ^ (51 * n)) q s a m / 256 ^ (a + m) % 256 : Nat) : Int) ((r0 / 256 ^ m % 256 : Nat) : Int) = ((wroteU (V % 2 ^ (51 * n)) q s a m / 256 ^ (a + m) % 256 + r0 / 256 ^ m % 256 : Nat) : Int) := by
      rw [u8_or_nat _ _ (Nat.mod_lt _ (by omega)) (Nat.mod_lt _ (by omega)), o1]
     have hdiv : r0 / 256 ^ (m + 1) = r0 / 256 ^ m / 256 := by rw [Nat.pow_succ, Nat.div_div_eq_div_mul]
     have Hdiv := Lib.hid hdiv
     have hcv : IntKind.u8.wrap ((r0 / 256 ^ m : Nat) : Int) = ((r0 / 256 ^ m % 256 : Nat) : Int) := by rw [IntKind.wrap_u8]; omega
     have Hnew := Lib.hid hnew
     clear o1 o2 o3 hset hnew hdiv
     generalize hW : wroteU (V % 2 ^ (51 * n)) q s a m / 256 ^ (a + m) % 256 + r0 / 256 ^ m % 256 = sm at *
     generalize wroteU (V % 2 ^ (51 * n)) q s a m / 256 ^ (a + m) % 256 = b at *
     generalize r0 / 256 ^ m % 256 = d at *
     generalize r0 / 256 ^ m = rm at *
     clear hW
     have hrm : ¬ (rm : Int) = 0 := by omega
     generalize ham : a + m = am at *
     have Ham := Lib.hid ham
     clear ham
     have k0 : 0 ≤ (am : Int) := by omega
     have k1 : (am : Int) < 32 := by omega
     go_wp2_with fail
     refine ⟨⟨m + 1, by rw [← Ham.out, ← Nat.add_assoc]; simp, by rw [Hdiv.out]; simp, Hnew.out⟩, ?_⟩
     simp only [intOf]
     omega
  ·
   obtain rfl : n = 5 := by omega
   rw [show ((5 : Nat) : Int) = 5 from rfl]
   rw [Nat.mod_eq_of_lt (Nat.lt_trans HV.out (by decide +kernel))] at hM
   have hz := Lib.hid (sizeKey (keyB_len V))
   have hzo := Lib.hid (one_keyF (keyB V))
   have hzz := Lib.hid (show (keyC (keyB 0)).size = (keyC (keyB V)).size by rw [keyC_size, keyC_size, keyB_len, keyB_len])
   clear hM3 Hi5 HV
   generalize hkc : keyC (keyB V) = kc at *
   have Hkc := Lib.hid hkc
   clear hkc
   generalize keyC (keyB 0) = kz at *
   go_wp2_with (first
    | ((with_reducible refine tdQ 42 ?_); refine lcQ 23 (.tmp 4) gB kc (hM.get 0 rfl) Tryd.underlying23 hz.out ?_)
    | ((with_reducible refine tsQ 23 ?_); refine srQ 23 (.tmp 2) (.tmp 42) (w.heap.size + 1) kc kz (hM.get 1 rfl) hz.out hzz.out hzo.out ?_))
   exact bodyPost_ret (results_cell_two rfl _ _ (w.heap.size + 1) 23 kc _ rfl ((hM.get 1 rfl).row kc) Tryd.underlying23 rfl hz.out) rfl ⟨(by rw [Hkc.out]; first | done | rfl), below_setRow hM.old (by omega) _⟩
theorem parts_low (v : Nat) : partsU (v % 57896044618658097711785492504343953926634992332820282019728792003956564819968) = partsU v := by
 simp only [partsU, Fe5.mk.injEq]
 refine ⟨by omega, by omega, by omega, by omega, by omega⟩
def ofU (l : List UInt8) : Fe5 := partsU (keyV l)
theorem ofU_may (l : List UInt8) : MayF (ofU l) := partsU_may _
theorem ofU_val (l : List UInt8) : valF (ofU l) = keyV l % 57896044618658097711785492504343953926634992332820282019728792003956564819968 := by
 rw [ofU, ← parts_low, partsU_val (Nat.mod_lt _ (by omega))]
theorem word_more (l : List UInt8) {a j : Nat} (h : a + j < l.length) : keyV ((l.drop a).take (j + 1)) = keyV ((l.drop a).take j) + (l[a + j]).toNat * 256 ^ j := by
 have hj : j < (l.drop a).length := by rw [List.length_drop]; omega
 rw [← List.take_append_getElem hj, keyV_append, List.length_take, Nat.min_eq_left (by omega), List.getElem_drop]
 simp [keyV, Nat.mul_comm]
theorem word_or {W x j : Nat} (hW : W < 256 ^ j) : W ||| x * 256 ^ j = W + x * 256 ^ j := by
 have e : (256 : Nat) ^ j = 2 ^ (8 * j) := by rw [Nat.pow_mul]
 rw [e] at hW ⊢
 have := Nat.two_pow_add_eq_or_of_lt hW x
 rw [Nat.or_comm, Nat.mul_comm x, ← this, Nat.add_comm]
theorem pow8F (j : Nat) : ((2 : Int) ^ (8 * j)) = ((256 ^ j : Nat) : Int) := by
 rw [Int.pow_mul, Int.natCast_pow]; rfl
theorem word_lt (l : List UInt8) (a j : Nat) : keyV ((l.drop a).take j) < 256 ^ j :=
 Nat.lt_of_lt_of_le (keyV_lt _) (Nat.pow_le_pow_right (by omega) (by rw [List.length_take]; exact Nat.min_le_left _ _))
theorem fits8 {j x : Nat} (hj : j < 8) (hx : x < 256) : x * 256 ^ j < 18446744073709551616 := by
 have h1 : 256 ^ j ≤ 256 ^ 7 := Nat.pow_le_pow_right (by omega) (by omega)
 have h2 := Nat.mul_le_mul (show x ≤ 255 by omega) h1
 omega
theorem word_part0 (l : List UInt8) : keyV ((l.drop 0).take 8) / 1 % 2251799813685248 = prt (partsU (keyV l)) 0 := by
 rw [keyV_take, keyV_drop]
 simp only [prt, partsU, List.getD_cons_zero]
 rw [show (256 : Nat) ^ 0 = 1 from rfl, show (256 : Nat) ^ 8 = 18446744073709551616 from rfl]
 omega
theorem word_part1 (l : List UInt8) : keyV ((l.drop 6).take 8) / 8 % 2251799813685248 = prt (partsU (keyV l)) 1 := by
 rw [keyV_take, keyV_drop]
 simp only [prt, partsU, List.getD_cons_zero, List.getD_cons_succ]
 rw [show (256 : Nat) ^ 6 = 281474976710656 from rfl, show (256 : Nat) ^ 8 = 18446744073709551616 from rfl]
 omega
theorem word_part2 (l : List UInt8) : keyV ((l.drop 12).take 8) / 64 % 2251799813685248 = prt (partsU (keyV l)) 2 := by
 rw [keyV_take, keyV_drop]
 simp only [prt, partsU, List.getD_cons_zero, List.getD_cons_succ]
 rw [show (256 : Nat) ^ 12 = 79228162514264337593543950336 from rfl, show (256 : Nat) ^ 8 = 18446744073709551616 from rfl]
 omega
theorem word_part3 (l : List UInt8) : keyV ((l.drop 19).take 8) / 2 % 2251799813685248 = prt (partsU (keyV l)) 3 := by
 rw [keyV_take, keyV_drop]
 simp only [prt, partsU, List.getD_cons_zero, List.getD_cons_succ]
 rw [show (256 : Nat) ^ 19 = 5708990770823839524233143877797980545530986496 from rfl, show (256 : Nat) ^ 8 = 18446744073709551616 from rfl]
 omega
theorem word_part4 (l : List UInt8) : keyV ((l.drop 25).take 7) / 16 % 2251799813685248 = prt (partsU (keyV l)) 4 := by
 rw [keyV_take, keyV_drop]
 simp only [prt, partsU, List.getD_cons_zero, List.getD_cons_succ]
 rw [show (256 : Nat) ^ 25 = 1606938044258990275541962092341162602522202993782792835301376 from rfl, show (256 : Nat) ^ 7 = 72057594037927936 from rfl]
 omega
set_option maxRecDepth 100000 in
set_option maxHeartbeats 4000000 in
theorem Of_any (l : List UInt8) (w : World) (hl : l.length = 32) :
  Calls Tryd.prog 25 #[.agg (keyC l)] w fun e w' => e = .returned (.agg (feC (ofU l))) ∧ Below w.heap.size w w' := by
 have hM0 := (((Ms.nil w).box 23 (keyC l)).box 50 (qC (uptoN (prt (ofU l)) (fun _ => 0) 5 0))).box 50 (qC (uptoN (prt (ofU l)) (fun _ => 0) 5 0))
 simp only [World.size_alloc] at hM0
 have HZ := Lib.hid (show qC (uptoN (prt (ofU l)) (fun _ => 0) 5 0) = #[.int .u64 0, .int .u64 0, .int .u64 0, .int .u64 0, .int .u64 0] from rfl)
 have Hl := Lib.hid hl
 rw [HZ.out] at hM0
 clear hl
 go_enter Tryd.func25, Tryd.ntmps25
 go_wp2_with fail
 go_loopw [10] (fun i wr => ∃ n : Nat, n ≤ 5 ∧ i = .int .i64 (n : Int) ∧ Ms w wr [(w.heap.size + 1 + 1, 50, qC (uptoN (prt (ofU l)) (fun _ => 0) 5 n)), (w.heap.size + 1, 50, #[.int .u64 0, .int .u64 0, .int .u64 0, .int .u64 0, .int .u64 0]), (w.heap.size, 23, keyC l)]) (fun i _ => (5 - intOf i).toNat)
 case atStart => exact ⟨0, by omega, rfl, by rw [HZ.out]; exact hM0⟩
 case round =>
  obtain ⟨n, hn, rfl, hM⟩ := hrel
  clear hM0 HZ
  have h6 : n = 0 ∨ n = 1 ∨ n = 2 ∨ n = 3 ∨ n = 4 ∨ n = 5 := by omega
  rcases h6 with rfl | rfl | rfl | rfl | rfl | rfl
  ·
   have hpl : ∀ wx, Calls Tryd.prog 41 #[.int .i64 0] wx fun e w' => e = .returned (.tuple #[.int .i64 0, .int .i64 0]) ∧ w' = wx := fun wx => place_any 0 wx (by omega)
   have hrow := hM.get 2 rfl
   have hmin : min (8 : Int) 32 = 8 := by decide
   go_wp2_with fail
   refine (hpl _).mono ?_
   rintro e w3 ⟨rfl, rfl⟩
   go_wp2_with fail
   go_loopw [24, 7] (fun p r wr => ∃ j : Nat, j ≤ 8 ∧ p = .int .i64 (j : Int) ∧ r = .int .u64 ((keyV ((l.drop 0).take j) : Nat) : Int) ∧ w3 = wr) (fun p _ _ => (8 - intOf p).toNat)
   case atStart => exact ⟨0, by omega, rfl, by simp [keyV], rfl⟩
   case round =>
    obtain ⟨j, hj, rfl, rfl, rfl⟩ := hrel
    by_cases hlt : j < 8
    ·
     have hjl : 0 + j < l.length := by rw [Hl.out]; omega
     have hc := hrow.cell (i := j) (keyC_at (show l[j]? = some (l[0 + j]) by rw [List.getElem?_eq_getElem (by omega)]; simp))
     have hwx : IntKind.u64.wrap ((l[0 + j]).toNat : Int) = ((l[0 + j]).toNat : Int) := wrap_nat rfl (by have : (l[0 + j]).toNat < 256 := (l[0 + j]).toBitVec.isLt; omega)
     have hx : (l[0 + j]).toNat < 256 := (l[0 + j]).toBitVec.isLt
     have Hm := Lib.hid (word_more l hjl)
     have hW := word_lt l 0 j
     have h3 := fits8 (show j < 8 by omega) hx
     have h4 : (256 : Nat) ^ j ≤ 256 ^ 7 := Nat.pow_le_pow_right (by omega) (by omega)
     have hsh : IntKind.u64.wrap (((l[0 + j]).toNat : Int) * 2 ^ (8 * j)) = (((l[0 + j]).toNat * 256 ^ j : Nat) : Int) := wrap_nat (by rw [pow8F, Int.natCast_mul]) h3
     have hor : bits .or .u64 ((keyV ((l.drop 0).take j) : Nat) : Int) (((l[0 + j]).toNat * 256 ^ j : Nat) : Int) = ((keyV ((l.drop 0).take j) + (l[0 + j]).toNat * 256 ^ j : Nat) : Int) := by
      rw [bits_or_u64_nat _ _ (by omega) h3, word_or hW]
     have h8 : ((8 : Int) * (j : Int)).toNat = 8 * j := by omega
     rw [← Hm.out] at hor
     clear hW h3 h4 hx
     generalize hW1 : keyV ((l.drop 0).take (j + 1)) = W1 at *
     have HW1 := Lib.hid hW1
     clear hW1
     generalize keyV ((l.drop 0).take j) = W0 at *
     generalize (l[0 + j]).toNat * 256 ^ j = X at *
     generalize (l[0 + j]).toNat = x at *
     have k0 : 0 ≤ (j : Int) := by omega
     have k1 : (j : Int) < 8 := by omega
     go_wp2_with fail
     exact ⟨⟨j + 1, by omega, by go_num, by rw [HW1.out], trivial⟩, by simp [intOf]; omega⟩
    ·
     obtain rfl : j = 8 := by omega
     rw [show ((8 : Nat) : Int) = 8 from rfl]
     have Hwp := Lib.hid (word_part0 l)
     have hmk : bits .and .u64 (((keyV ((l.drop 0).take 8) : Nat) : Int)) 2251799813685247 = ((prt (partsU (keyV l)) 0 : Nat) : Int) := by
      rw [show ((keyV ((l.drop 0).take 8) : Nat) : Int) = ((keyV ((l.drop 0).take 8) / 1 : Nat) : Int) by omega, mask51 (Nat.lt_of_le_of_lt (Nat.div_le_self _ _) (Nat.lt_of_lt_of_le (word_lt l 0 8) (by decide))), Hwp.out]
     rw [show partsU (keyV l) = ofU l from rfl] at hmk
     have hcf := (hM.get 0 rfl).cell (qC_at (uptoN_old (prt (ofU l)) (fun _ => 0) (show 0 < 5 by omega) (Nat.le_refl _)))
     rw [show ((0 : Nat) : Int) = 0 from rfl] at hcf
     have hff := (hM.get 0 rfl).frozen 0
     have hnew := hM.setCell (by omega) (by simp; try omega) 0 (.int .u64 ((prt (ofU l) 0 : Nat) : Int))
     rw [qC_set, ← uptoN_succ] at hnew
     clear hM Hwp
     generalize keyV ((l.drop 0).take 8) = W at *
     go_wp2_with fail
     exact ⟨⟨1, by omega, rfl, hnew⟩, by simp [intOf]⟩
  ·
   have hpl : ∀ wx, Calls Tryd.prog 41 #[.int .i64 1] wx fun e w' => e = .returned (.tuple #[.int .i64 6, .int .i64 3]) ∧ w' = wx := fun wx => place_any 1 wx (by omega)
   have hrow := hM.get 2 rfl
   have hmin : min (14 : Int) 32 = 14 := by decide
   go_wp2_with fail
   refine (hpl _).mono ?_
   rintro e w3 ⟨rfl, rfl⟩
   go_wp2_with fail
   go_loopw [24, 7] (fun p r wr => ∃ j : Nat, j ≤ 8 ∧ p = .int .i64 (j : Int) ∧ r = .int .u64 ((keyV ((l.drop 6).take j) : Nat) : Int) ∧ w3 = wr) (fun p _ _ => (8 - intOf p).toNat)
   case atStart => exact ⟨0, by omega, rfl, by simp [keyV], rfl⟩
   case round =>
    obtain ⟨j, hj, rfl, rfl, rfl⟩ := hrel
    by_cases hlt : j < 8
    ·
     have hjl : 6 + j < l.length := by rw [Hl.out]; omega
     have hc := hrow.cell (keyC_at (List.getElem?_eq_getElem hjl))
     have hwx : IntKind.u64.wrap ((l[6 + j]).toNat : Int) = ((l[6 + j]).toNat : Int) := wrap_nat rfl (by have : (l[6 + j]).toNat < 256 := (l[6 + j]).toBitVec.isLt; omega)
     have hx : (l[6 + j]).toNat < 256 := (l[6 + j]).toBitVec.isLt
     have Hm := Lib.hid (word_more l hjl)
     have hW := word_lt l 6 j
     have h3 := fits8 (show j < 8 by omega) hx
     have h4 : (256 : Nat) ^ j ≤ 256 ^ 7 := Nat.pow_le_pow_right (by omega) (by omega)
     have hsh : IntKind.u64.wrap (((l[6 + j]).toNat : Int) * 2 ^ (8 * j)) = (((l[6 + j]).toNat * 256 ^ j : Nat) : Int) := wrap_nat (by rw [pow8F, Int.natCast_mul]) h3
     have hor : bits .or .u64 ((keyV ((l.drop 6).take j) : Nat) : Int) (((l[6 + j]).toNat * 256 ^ j : Nat) : Int) = ((keyV ((l.drop 6).take j) + (l[6 + j]).toNat * 256 ^ j : Nat) : Int) := by
      rw [bits_or_u64_nat _ _ (by omega) h3, word_or hW]
     have h8 : ((8 : Int) * (j : Int)).toNat = 8 * j := by omega
     rw [← Hm.out] at hor
     clear hW h3 h4 hx
     generalize hW1 : keyV ((l.drop 6).take (j + 1)) = W1 at *
     have HW1 := Lib.hid hW1
     clear hW1
     generalize keyV ((l.drop 6).take j) = W0 at *
     generalize (l[6 + j]).toNat * 256 ^ j = X at *
     generalize (l[6 + j]).toNat = x at *
     have k0 : 0 ≤ (j : Int) := by omega
     have k1 : (j : Int) < 8 := by omega
     go_wp2_with fail
     exact ⟨⟨j + 1, by omega, by go_num, by rw [HW1.out], trivial⟩, by simp [intOf]; omega⟩
    ·
     obtain rfl : j = 8 := by omega
     rw [show ((8 : Nat) : Int) = 8 from rfl]
     have Hwp := Lib.hid (word_part1 l)
     have hmk : bits .and .u64 (((keyV ((l.drop 6).take 8) : Nat) : Int) / 8) 2251799813685247 = ((prt (partsU (keyV l)) 1 : Nat) : Int) := by
      rw [show ((keyV ((l.drop 6).take 8) : Nat) : Int) / 8 = ((keyV ((l.drop 6).take 8) / 8 : Nat) : Int) by omega, mask51 (Nat.lt_of_le_of_lt (Nat.div_le_self _ _) (Nat.lt_of_lt_of_le (word_lt l 6 8) (by decide))), Hwp.out]
     rw [show partsU (keyV l) = ofU l from rfl] at hmk
     have hcf := (hM.get 0 rfl).cell (qC_at (uptoN_old (prt (ofU l)) (fun _ => 0) (show 1 < 5 by omega) (Nat.le_refl _)))
     rw [show ((0 : Nat) : Int) = 0 from rfl] at hcf
     have hff := (hM.get 0 rfl).frozen 1
     have hnew := hM.setCell (by omega) (by simp; try omega) 1 (.int .u64 ((prt (ofU l) 1 : Nat) : Int))
     rw [qC_set, ← uptoN_succ] at hnew
     clear hM Hwp
     generalize keyV ((l.drop 6).take 8) = W at *
     go_wp2_with fail
     exact ⟨⟨2, by omega, rfl, hnew⟩, by simp [intOf]⟩
  ·
   have hpl : ∀ wx, Calls Tryd.prog 41 #[.int .i64 2] wx fun e w' => e = .returned (.tuple #[.int .i64 12, .int .i64 6]) ∧ w' = wx := fun wx => place_any 2 wx (by omega)
   have hrow := hM.get 2 rfl
   have hmin : min (20 : Int) 32 = 20 := by decide
   go_wp2_with fail
   refine (hpl _).mono ?_
   rintro e w3 ⟨rfl, rfl⟩
   go_wp2_with fail
   go_loopw [24, 7] (fun p r wr => ∃ j : Nat, j ≤ 8 ∧ p = .int .i64 (j : Int) ∧ r = .int .u64 ((keyV ((l.drop 12).take j) : Nat) : Int) ∧ w3 = wr) (fun p _ _ => (8 - intOf p).toNat)
   case atStart => exact ⟨0, by omega, rfl, by simp [keyV], rfl⟩
   case round =>
    obtain ⟨j, hj, rfl, rfl, rfl⟩ := hrel
    by_cases hlt : j < 8
    ·
     have hjl : 12 + j < l.length := by rw [Hl.out]; omega
     have hc := hrow.cell (keyC_at (List.getElem?_eq_getElem hjl))
     have hwx : IntKind.u64.wrap ((l[12 + j]).toNat : Int) = ((l[12 + j]).toNat : Int) := wrap_nat rfl (by have : (l[12 + j]).toNat < 256 := (l[12 + j]).toBitVec.isLt; omega)
     have hx : (l[12 + j]).toNat < 256 := (l[12 + j]).toBitVec.isLt
     have Hm := Lib.hid (word_more l hjl)
     have hW := word_lt l 12 j
     have h3 := fits8 (show j < 8 by omega) hx
     have h4 : (256 : Nat) ^ j ≤ 256 ^ 7 := Nat.pow_le_pow_right (by omega) (by omega)
     have hsh : IntKind.u64.wrap (((l[12 + j]).toNat : Int) * 2 ^ (8 * j)) = (((l[12 + j]).toNat * 256 ^ j : Nat) : Int) := wrap_nat (by rw [pow8F, Int.natCast_mul]) h3
     have hor : bits .or .u64 ((keyV ((l.drop 12).take j) : Nat) : Int) (((l[12 + j]).toNat * 256 ^ j : Nat) : Int) = ((keyV ((l.drop 12).take j) + (l[12 + j]).toNat * 256 ^ j : Nat) : Int) := by
      rw [bits_or_u64_nat _ _ (by omega) h3, word_or hW]
     have h8 : ((8 : Int) * (j : Int)).toNat = 8 * j := by omega
     rw [← Hm.out] at hor
     clear hW h3 h4 hx
     generalize hW1 : keyV ((l.drop 12).take (j + 1)) = W1 at *
     have HW1 := Lib.hid hW1
     clear hW1
     generalize keyV ((l.drop 12).take j) = W0 at *
     generalize (l[12 + j]).toNat * 256 ^ j = X at *
     generalize (l[12 + j]).toNat = x at *
     have k0 : 0 ≤ (j : Int) := by omega
     have k1 : (j : Int) < 8 := by omega
     go_wp2_with fail
     exact ⟨⟨j + 1, by omega, by go_num, by rw [HW1.out], trivial⟩, by simp [intOf]; omega⟩
    ·
     obtain rfl : j = 8 := by omega
     rw [show ((8 : Nat) : Int) = 8 from rfl]
     have Hwp := Lib.hid (word_part2 l)
     have hmk : bits .and .u64 (((keyV ((l.drop 12).take 8) : Nat) : Int) / 64) 2251799813685247 = ((prt (partsU (keyV l)) 2 : Nat) : Int) := by
      rw [show ((keyV ((l.drop 12).take 8) : Nat) : Int) / 64 = ((keyV ((l.drop 12).take 8) / 64 : Nat) : Int) by omega, mask51 (Nat.lt_of_le_of_lt (Nat.div_le_self _ _) (Nat.lt_of_lt_of_le (word_lt l 12 8) (by decide))), Hwp.out]
     rw [show partsU (keyV l) = ofU l from rfl] at hmk
     have hcf := (hM.get 0 rfl).cell (qC_at (uptoN_old (prt (ofU l)) (fun _ => 0) (show 2 < 5 by omega) (Nat.le_refl _)))
     rw [show ((0 : Nat) : Int) = 0 from rfl] at hcf
     have hff := (hM.get 0 rfl).frozen 2
     have hnew := hM.setCell (by omega) (by simp; try omega) 2 (.int .u64 ((prt (ofU l) 2 : Nat) : Int))
     rw [qC_set, ← uptoN_succ] at hnew
     clear hM Hwp
     generalize keyV ((l.drop 12).take 8) = W at *
     go_wp2_with fail
     exact ⟨⟨3, by omega, rfl, hnew⟩, by simp [intOf]⟩
  ·
   have hpl : ∀ wx, Calls Tryd.prog 41 #[.int .i64 3] wx fun e w' => e = .returned (.tuple #[.int .i64 19, .int .i64 1]) ∧ w' = wx := fun wx => place_any 3 wx (by omega)
   have hrow := hM.get 2 rfl
   have hmin : min (27 : Int) 32 = 27 := by decide
   go_wp2_with fail
   refine (hpl _).mono ?_
   rintro e w3 ⟨rfl, rfl⟩
   go_wp2_with fail
   go_loopw [24, 7] (fun p r wr => ∃ j : Nat, j ≤ 8 ∧ p = .int .i64 (j : Int) ∧ r = .int .u64 ((keyV ((l.drop 19).take j) : Nat) : Int) ∧ w3 = wr) (fun p _ _ => (8 - intOf p).toNat)
   case atStart => exact ⟨0, by omega, rfl, by simp [keyV], rfl⟩
   case round =>
    obtain ⟨j, hj, rfl, rfl, rfl⟩ := hrel
    by_cases hlt : j < 8
    ·
     have hjl : 19 + j < l.length := by rw [Hl.out]; omega
     have hc := hrow.cell (keyC_at (List.getElem?_eq_getElem hjl))
     have hwx : IntKind.u64.wrap ((l[19 + j]).toNat : Int) = ((l[19 + j]).toNat : Int) := wrap_nat rfl (by have : (l[19 + j]).toNat < 256 := (l[19 + j]).toBitVec.isLt; omega)
     have hx : (l[19 + j]).toNat < 256 := (l[19 + j]).toBitVec.isLt
     have Hm := Lib.hid (word_more l hjl)
     have hW := word_lt l 19 j
     have h3 := fits8 (show j < 8 by omega) hx
     have h4 : (256 : Nat) ^ j ≤ 256 ^ 7 := Nat.pow_le_pow_right (by omega) (by omega)
     have hsh : IntKind.u64.wrap (((l[19 + j]).toNat : Int) * 2 ^ (8 * j)) = (((l[19 + j]).toNat * 256 ^ j : Nat) : Int) := wrap_nat (by rw [pow8F, Int.natCast_mul]) h3
     have hor : bits .or .u64 ((keyV ((l.drop 19).take j) : Nat) : Int) (((l[19 + j]).toNat * 256 ^ j : Nat) : Int) = ((keyV ((l.drop 19).take j) + (l[19 + j]).toNat * 256 ^ j : Nat) : Int) := by
      rw [bits_or_u64_nat _ _ (by omega) h3, word_or hW]
     have h8 : ((8 : Int) * (j : Int)).toNat = 8 * j := by omega
     rw [← Hm.out] at hor
     clear hW h3 h4 hx
     generalize hW1 : keyV ((l.drop 19).take (j + 1)) = W1 at *
     have HW1 := Lib.hid hW1
     clear hW1
     generalize keyV ((l.drop 19).take j) = W0 at *
     generalize (l[19 + j]).toNat * 256 ^ j = X at *
     generalize (l[19 + j]).toNat = x at *
     have k0 : 0 ≤ (j : Int) := by omega
     have k1 : (j : Int) < 8 := by omega
     go_wp2_with fail
     exact ⟨⟨j + 1, by omega, by go_num, by rw [HW1.out], trivial⟩, by simp [intOf]; omega⟩
    ·
     obtain rfl : j = 8 := by omega
     rw [show ((8 : Nat) : Int) = 8 from rfl]
     have Hwp := Lib.hid (word_part3 l)
     have hmk : bits .and .u64 (((keyV ((l.drop 19).take 8) : Nat) : Int) / 2) 2251799813685247 = ((prt (partsU (keyV l)) 3 : Nat) : Int) := by
      rw [show ((keyV ((l.drop 19).take 8) : Nat) : Int) / 2 = ((keyV ((l.drop 19).take 8) / 2 : Nat) : Int) by omega, mask51 (Nat.lt_of_le_of_lt (Nat.div_le_self _ _) (Nat.lt_of_lt_of_le (word_lt l 19 8) (by decide))), Hwp.out]
     rw [show partsU (keyV l) = ofU l from rfl] at hmk
     have hcf := (hM.get 0 rfl).cell (qC_at (uptoN_old (prt (ofU l)) (fun _ => 0) (show 3 < 5 by omega) (Nat.le_refl _)))
     rw [show ((0 : Nat) : Int) = 0 from rfl] at hcf
     have hff := (hM.get 0 rfl).frozen 3
     have hnew := hM.setCell (by omega) (by simp; try omega) 3 (.int .u64 ((prt (ofU l) 3 : Nat) : Int))
     rw [qC_set, ← uptoN_succ] at hnew
     clear hM Hwp
     generalize keyV ((l.drop 19).take 8) = W at *
     go_wp2_with fail
     exact ⟨⟨4, by omega, rfl, hnew⟩, by simp [intOf]⟩
  ·
   have hpl : ∀ wx, Calls Tryd.prog 41 #[.int .i64 4] wx fun e w' => e = .returned (.tuple #[.int .i64 25, .int .i64 4]) ∧ w' = wx := fun wx => place_any 4 wx (by omega)
   have hrow := hM.get 2 rfl
   have hmin : min (33 : Int) 32 = 32 := by decide
   go_wp2_with fail
   refine (hpl _).mono ?_
   rintro e w3 ⟨rfl, rfl⟩
   go_wp2_with fail
   go_loopw [24, 7] (fun p r wr => ∃ j : Nat, j ≤ 7 ∧ p = .int .i64 (j : Int) ∧ r = .int .u64 ((keyV ((l.drop 25).take j) : Nat) : Int) ∧ w3 = wr) (fun p _ _ => (7 - intOf p).toNat)
   case atStart => exact ⟨0, by omega, rfl, by simp [keyV], rfl⟩
   case round =>
    obtain ⟨j, hj, rfl, rfl, rfl⟩ := hrel
    by_cases hlt : j < 7
    ·
     have hjl : 25 + j < l.length := by rw [Hl.out]; omega
     have hc := hrow.cell (keyC_at (List.getElem?_eq_getElem hjl))
     have hwx : IntKind.u64.wrap ((l[25 + j]).toNat : Int) = ((l[25 + j]).toNat : Int) := wrap_nat rfl (by have : (l[25 + j]).toNat < 256 := (l[25 + j]).toBitVec.isLt; omega)
     have hx : (l[25 + j]).toNat < 256 := (l[25 + j]).toBitVec.isLt
     have Hm := Lib.hid (word_more l hjl)
     have hW := word_lt l 25 j
     have h3 := fits8 (show j < 8 by omega) hx
     have h4 : (256 : Nat) ^ j ≤ 256 ^ 7 := Nat.pow_le_pow_right (by omega) (by omega)
     have hsh : IntKind.u64.wrap (((l[25 + j]).toNat : Int) * 2 ^ (8 * j)) = (((l[25 + j]).toNat * 256 ^ j : Nat) : Int) := wrap_nat (by rw [pow8F, Int.natCast_mul]) h3
     have hor : bits .or .u64 ((keyV ((l.drop 25).take j) : Nat) : Int) (((l[25 + j]).toNat * 256 ^ j : Nat) : Int) = ((keyV ((l.drop 25).take j) + (l[25 + j]).toNat * 256 ^ j : Nat) : Int) := by
      rw [bits_or_u64_nat _ _ (by omega) h3, word_or hW]
     have h8 : ((8 : Int) * (j : Int)).toNat = 8 * j := by omega
     rw [← Hm.out] at hor
     clear hW h3 h4 hx
     generalize hW1 : keyV ((l.drop 25).take (j + 1)) = W1 at *
     have HW1 := Lib.hid hW1
     clear hW1
     generalize keyV ((l.drop 25).take j) = W0 at *
     generalize (l[25 + j]).toNat * 256 ^ j = X at *
     generalize (l[25 + j]).toNat = x at *
     have k0 : 0 ≤ (j : Int) := by omega
     have k1 : (j : Int) < 7 := by omega
     go_wp2_with fail
     exact ⟨⟨j + 1, by omega, by go_num, by rw [HW1.out], trivial⟩, by simp [intOf]; omega⟩
    ·
     obtain rfl : j = 7 := by omega
     rw [show ((7 : Nat) : Int) = 7 from rfl]
     have Hwp := Lib.hid (word_part4 l)
     have hmk : bits .and .u64 (((keyV ((l.drop 25).take 7) : Nat) : Int) / 16) 2251799813685247 = ((prt (partsU (keyV l)) 4 : Nat) : Int) := by
      rw [show ((keyV ((l.drop 25).take 7) : Nat) : Int) / 16 = ((keyV ((l.drop 25).take 7) / 16 : Nat) : Int) by omega, mask51 (Nat.lt_of_le_of_lt (Nat.div_le_self _ _) (Nat.lt_of_lt_of_le (word_lt l 25 7) (by decide))), Hwp.out]
     rw [show partsU (keyV l) = ofU l from rfl] at hmk
     have hcf := (hM.get 0 rfl).cell (qC_at (uptoN_old (prt (ofU l)) (fun _ => 0) (show 4 < 5 by omega) (Nat.le_refl _)))
     rw [show ((0 : Nat) : Int) = 0 from rfl] at hcf
     have hff := (hM.get 0 rfl).frozen 4
     have hnew := hM.setCell (by omega) (by simp; try omega) 4 (.int .u64 ((prt (ofU l) 4 : Nat) : Int))
     rw [qC_set, ← uptoN_succ] at hnew
     clear hM Hwp
     generalize keyV ((l.drop 25).take 7) = W at *
     go_wp2_with fail
     exact ⟨⟨5, by omega, rfl, hnew⟩, by simp [intOf]⟩
  ·
   have hs5 : qC (uptoN (prt (ofU l)) (fun _ => 0) 5 5) = feC (ofU l) := by rw [feC_q]; rfl
   rw [hs5] at hM
   have hz := Lib.hid (sizeFe (ofU l))
   have hzz := Lib.hid (show (#[.int .u64 0, .int .u64 0, .int .u64 0, .int .u64 0, .int .u64 0] : Array Value).size = (feC (ofU l)).size from rfl)
   have hzo := Lib.hid (one_fe (ofU l))
   clear hs5
   generalize hfa : feC (ofU l) = fa at *
   have Hfa := Lib.hid hfa
   clear hfa
   rw [show ((5 : Nat) : Int) = 5 from rfl]
   go_wp2_with (first
    | ((with_reducible refine tdQ 44 ?_); refine lcQ 50 (.tmp 3) (w.heap.size + 1 + 1) fa (hM.get 0 rfl) Tryd.underlying50 hz.out ?_)
    | ((with_reducible refine tsQ 50 ?_); refine srQ 50 (.tmp 2) (.tmp 44) (w.heap.size + 1) fa _ (hM.get 1 rfl) hz.out hzz.out hzo.out ?_))
   exact bodyPost_ret (results_cell_one rfl _ _ (w.heap.size + 1) 50 fa _ rfl ((hM.get 1 rfl).row fa) Tryd.underlying50 rfl hz.out) rfl ⟨by rw [Hfa.out], below_setRow hM.old (by omega) _⟩
def kA : List UInt8 := [236, 255, 255, 255, 255, 255, 255, 255, 255, 255, 255, 255, 255, 255, 255, 255, 255, 255, 255, 255, 255, 255, 255, 255, 255, 255, 255, 255, 255, 255, 255, 127]
def kB : List UInt8 := [235, 255, 255, 255, 255, 255, 255, 255, 255, 255, 255, 255, 255, 255, 255, 255, 255, 255, 255, 255, 255, 255, 255, 255, 255, 255, 255, 255, 255, 255, 255, 127]
theorem fe_same (a b : Fe5) : (feC a).size = (feC b).size := rfl
theorem fe_zero (a : Fe5) : (#[.int .u64 0, .int .u64 0, .int .u64 0, .int .u64 0, .int .u64 0] : Array Value).size = (feC a).size := rfl
set_option maxRecDepth 100000 in
set_option maxHeartbeats 1000000 in
theorem squared_any (a : Fe5) (t : Nat) (w : World) (ha : MayF a) (ht : t ≤ 300) :
  Calls Tryd.prog 66 #[.agg (feC a), .int .i64 (t : Int)] w fun e w' => e = .returned (.agg (feC (sqU a t))) ∧ Below w.heap.size w w' := by
 have hM0 := (((Ms.nil w).box 50 (feC a)).box 50 #[.int .u64 0, .int .u64 0, .int .u64 0, .int .u64 0, .int .u64 0]).swap
 simp only [World.size_alloc] at hM0
 have Ha := Lib.hid ha
 have Hs := fun n => Lib.hid (sizeFe (sqU a n))
 have Ho := fun n => Lib.hid (one_fe (sqU a n))
 have He := fun n => Lib.hid (fe_same (sqU a n) (sqU a (n + 1)))
 have Hz := Lib.hid (fe_zero (sqU a t))
 have hp := fun wx n => product_any (sqU a n) (sqU a n) wx (sqU_may ha n) (sqU_may ha n)
 clear ha
 go_enter Tryd.func66, Tryd.ntmps66
 go_wp2_with fail
 go_loopw [6] (fun i wr => ∃ n : Nat, n ≤ t ∧ i = .int .i64 (n : Int) ∧ Ms w wr [(w.heap.size, 50, feC (sqU a n)), (w.heap.size + 1, 50, #[.int .u64 0, .int .u64 0, .int .u64 0, .int .u64 0, .int .u64 0])]) (fun i _ => (t - intOf i).toNat)
 case atStart => exact ⟨0, by omega, rfl, hM0⟩
 case round =>
  obtain ⟨n, hn, rfl, hM⟩ := hrel
  by_cases hlt : n < t
  ·
   have hs := Hs n
   have hs2 := Hs (n + 1)
   have ho := Ho (n + 1)
   have he := He n
   have hpn := fun wx => hp wx n
   rw [show mulQ (sqU a n) (sqU a n) = sqU a (n + 1) from rfl] at hpn
   have hM2 : ∀ w2 : World, Below wr.heap.size wr w2 → Ms w w2 [(w.heap.size, 50, feC (sqU a n)), (w.heap.size + 1, 50, #[.int .u64 0, .int .u64 0, .int .u64 0, .int .u64 0, .int .u64 0])] := fun w2 hb => hM.call hb
   have hM3 : ∀ w2 : World, Below wr.heap.size wr w2 → Ms w (w2.setRow w.heap.size (feC (sqU a (n + 1)))) [(w.heap.size, 50, feC (sqU a (n + 1))), (w.heap.size + 1, 50, #[.int .u64 0, .int .u64 0, .int .u64 0, .int .u64 0, .int .u64 0])] := fun w2 hb => (hM2 w2 hb).set (Nat.le_refl _) (by simp) _
   clear Hs Ho He Hz hp hM0
   have H3 := Lib.hid hM3
   have H2 := Lib.hid hM2
   clear hM2 hM3
   generalize hc1 : feC (sqU a (n + 1)) = c1 at *
   have Hc1 := Lib.hid hc1
   clear hc1
   generalize feC (sqU a n) = c0 at *
   have j0 : 0 ≤ (n : Int) := by omega
   have j1 : (n : Int) < (t : Int) := by omega
   go_wp2_with (first
    | ((with_reducible refine tdQ 8 ?_); refine lcQ 50 (.tmp 2) (w.heap.size) c0 (hM.get 0 rfl) Tryd.underlying50 hs.out ?_)
    | ((with_reducible refine tdQ 9 ?_); refine lcQ 50 (.tmp 2) (w.heap.size) c0 (hM.get 0 rfl) Tryd.underlying50 hs.out ?_))
   refine (hpn _).mono ?_
   rintro e w2 ⟨rfl, hb2⟩
   go_wp2_with ((with_reducible refine tsQ 50 ?_); refine srQ 50 (.tmp 2) (.tmp 10) (w.heap.size) c1 _ ((H2.out w2 hb2).get 0 rfl) hs2.out he.out ho.out ?_)
   exact ⟨⟨n + 1, by omega, by go_num, by rw [Hc1.out]; exact H3.out w2 hb2⟩, by simp [intOf]; omega⟩
  ·
   obtain rfl : n = t := by omega
   have hs := Hs n
   have ho := Ho n
   clear Hs Ho He hp hM0
   generalize hc0 : feC (sqU a n) = c0 at *
   have Hc0 := Lib.hid hc0
   clear hc0
   go_wp2_with (first
    | ((with_reducible refine tdQ 12 ?_); refine lcQ 50 (.tmp 2) (w.heap.size) c0 (hM.get 0 rfl) Tryd.underlying50 hs.out ?_)
    | ((with_reducible refine tsQ 50 ?_); refine srQ 50 (.tmp 4) (.tmp 12) (w.heap.size + 1) c0 _ (hM.get 1 rfl) hs.out Hz.out ho.out ?_))
   exact bodyPost_ret (results_cell_one rfl _ _ (w.heap.size + 1) 50 c0 _ rfl ((hM.get 1 rfl).row c0) Tryd.underlying50 rfl hs.out) rfl ⟨by rw [Hc0.out], below_setRow hM.old (by omega) _⟩
set_option maxRecDepth 100000 in
theorem Square_ok (a : Fe5) (t : Nat) (w : World) (ha : MayF a) (ht : t ≤ 300) :
  Calls Tryd.prog 45 #[.agg (feC a), .int .i64 (t : Int)] w fun e w' => e = .returned (.tuple #[.agg (feC (sqU a t)), .int .i64 0]) ∧ Below w.heap.size w w' := by
 have hM0 := ((Ms.nil w).box 50 (feC a)).box 50 #[.int .u64 0, .int .u64 0, .int .u64 0, .int .u64 0, .int .u64 0]
 simp only [World.size_alloc] at hM0
 have hs0 := Lib.hid (sizeFe a)
 have hz := Lib.hid (sizeFe (sqU a t))
 have hzz := Lib.hid (fe_zero (sqU a t))
 have hzo := Lib.hid (one_fe (sqU a t))
 have hma := fun wx => mayBe_any a wx ha.word
 rw [mayB_true ha] at hma
 have hp := fun wx => squared_any a t wx ha ht
 have hb1 : decide ((t : Int) < 0) = false := decide_eq_false (by omega)
 have hb2 : decide ((300 : Int) < (t : Int)) = false := decide_eq_false (by omega)
 clear ha ht
 generalize feC (sqU a t) = fa at *
 generalize feC a = ca at *
 go_enter Tryd.func45, Tryd.ntmps45
 go_wp2_with ((with_reducible refine tdQ 6 ?_); refine lcQ 50 (.tmp 2) (w.heap.size) ca (hM0.get 1 rfl) Tryd.underlying50 hs0.out ?_)
 refine (hma _).mono ?_
 rintro e w1 ⟨rfl, hb9⟩
 have hM1 := hM0.call hb9
 go_wp2_with ((with_reducible refine tdQ 18 ?_); refine lcQ 50 (.tmp 2) (w.heap.size) ca (hM1.get 1 rfl) Tryd.underlying50 hs0.out ?_)
 refine (hp _).mono ?_
 rintro e w2 ⟨rfl, hb8⟩
 have hM2 := hM1.call hb8
 go_wp2_with ((with_reducible refine tsQ 50 ?_); refine srQ 50 (.tmp 4) (.tmp 20) (w.heap.size + 1) fa _ (hM2.get 0 rfl) hz.out hzz.out hzo.out ?_)
 exact bodyPost_ret (results_cell_two rfl _ _ (w.heap.size + 1) 50 _ _ rfl ((hM2.get 0 rfl).row _) Tryd.underlying50 rfl hz.out) rfl ⟨rfl, below_setRow hM2.old (by omega) _⟩
set_option maxRecDepth 100000 in
set_option maxHeartbeats 1000000 in
theorem behind_any (p t : Fe5) (n gp : Nat) (w : World) (hp : MayF p) (ht : MayF t) (hn : n ≤ 300) (hr : RowC w gp 50 (feC p)) :
  Calls Tryd.prog 86 #[.agg (feC t), .int .i64 (n : Int), .pointer (some ⟨gp, 0, none⟩)] w fun e w' => e = .returned (.agg (feC (behU p t n))) ∧ RowC w' gp 50 (feC (behU p t n)) ∧ (∀ k, k ≠ gp → k < w.heap.size → w'.heap[k]? = w.heap[k]?) ∧ ∀ B, B ≤ gp → Below B w w' := by
 have hlt := hr.lt
 have hM0 := ((Ms.nil w).box 50 (feC t)).box 50 #[.int .u64 0, .int .u64 0, .int .u64 0, .int .u64 0, .int .u64 0]
 simp only [World.size_alloc] at hM0
 have hs1 := fun wx => squared_any p n wx hp hn
 have hs2 := fun wx => product_any (sqU p n) t wx (sqU_may hp n) ht
 rw [show mulQ (sqU p n) t = behU p t n from rfl] at hs2
 have Hp := Lib.hid (sizeFe p)
 have Ht := Lib.hid (sizeFe t)
 have Hb := Lib.hid (sizeFe (behU p t n))
 have Hbo := Lib.hid (one_fe (behU p t n))
 have Hbs := Lib.hid (fe_same p (behU p t n))
 have Hbz := Lib.hid (fe_zero (behU p t n))
 clear hp ht hn
 generalize feC (behU p t n) = cb at *
 generalize feC (sqU p n) = cq at *
 generalize feC p = cp at *
 generalize feC t = ct at *
 have hR0 := (hr.alloc (.cells ct 50)).alloc (.cells #[.int .u64 0, .int .u64 0, .int .u64 0, .int .u64 0, .int .u64 0] 50)
 go_enter Tryd.func86, Tryd.ntmps86
 go_wp2_with fail
 refine wp_gen (fun wx => Ms w wx [(w.heap.size + 1, 50, #[.int .u64 0, .int .u64 0, .int .u64 0, .int .u64 0, .int .u64 0]), (w.heap.size, 50, ct)] ∧ RowC wx gp 50 cp) ⟨hM0, hR0⟩ ?_
 clear hM0 hR0
 rintro v1 ⟨hM1, hR1⟩
 have hkeep : ∀ wx : World, Below v1.heap.size v1 wx → (fun wx : World => wx.rangeAt gp 0 cp.toList ∧ wx.rangeAt w.heap.size 0 ct.toList) wx := fun wx hb => ⟨(hR1.call hb).range, ((hM1.get 1 rfl).call hb).range⟩
 have hu := Tryd.underlying50
 have hent1 : ∀ args w, (callFunc 66 args).run Tryd.prog w = .ok (.enter 66 args) w := enters_of Tryd.func66 (by kernel_rfl) rfl
 have hent2 : ∀ args w, (callFunc 65 args).run Tryd.prog w = .ok (.enter 65 args) w := enters_of Tryd.func65 (by kernel_rfl) rfl
 refine beginT (fun wx : World => wx.rangeAt gp 0 cp.toList ∧ wx.rangeAt w.heap.size 0 ct.toList) 5 (by kernel_rfl) ?_
 have hS := hkeep _ (c_drew (c_refl _))
 refine ldQ 0 (some 6) 50 (.tmp 2) (gp) 0 cp.toList (fun wx hSw => hSw.1) hu (by simpa using Hp.out) (fun _ _ _ h => h) hS ?_
 simp only [Act.put, sA, sZ, sS]
 refine tk 1 (some 7) (.int .i64 (n : Int)) (fun _ _ _ h => h) hS ?_
 simp only [Act.put, sA, sZ, sS]
 refine ldQ 3 (some 9) 50 (.tmp 3) (w.heap.size) 0 ct.toList (fun wx hSw => hSw.2) hu (by simpa using Ht.out) (fun _ _ _ h => h) hS ?_
 simp only [Act.put, sA, sZ, sS]
 have et : ct.toList.toArray = ct := by simp
 have ep : cp.toList.toArray = cp := by simp
 rw [et, ep]
 refine on1 2 fun K hK => ?_
 refine step_callF (by rfl) (some 8) rfl 66 _ _ rfl [.agg cp, .int .i64 (n : Int)] rfl hent1 _ (hs1 _) ?_
 rintro e wm1 ⟨rfl, hc1⟩
 refine ⟨_, rfl, ?_⟩
 simp only [Act.put, sA, sZ, sS]
 refine kp hK hkeep ?_
 clear hK K
 have hS1 := hkeep wm1 bl
 refine on1 4 fun K hK => ?_
 refine step_callF (by rfl) (some 10) rfl 65 _ _ rfl [.agg cq, .agg ct] rfl hent2 _ (hs2 _) ?_
 rintro e wm2 ⟨rfl, hc2⟩
 refine ⟨_, rfl, ?_⟩
 simp only [Act.put, sA, sZ, sS]
 refine kp hK hkeep ?_
 clear hK K
 have hS2 := hkeep wm2 bl
 have hE : Below v1.heap.size v1 wm2 := bl
 have hM2 := hM1.call hE
 have hR2 := hR1.call hE
 clear hkeep hS hS1 hS2 et ep
 refine on1 5 fun K hK => ?_
 refine step_store_row rfl 50 (.tmp 2) (.tmp 10) rfl gp cb rfl rfl 50 cp hR2 Hb.out Hbs.out Hbo.out ?_
 refine hK.out _ _ (fun h => absurd rfl h) ?_
 clear hK K
 refine doneT (by kernel_rfl) ?_ _
 have hM3 : Ms w wm2 [(w.heap.size + 1, 50, #[.int .u64 0, .int .u64 0, .int .u64 0, .int .u64 0, .int .u64 0]), (w.heap.size, 50, ct)] := hM2
 have g0 := (hM2.get 0 rfl).rowFar (g' := gp) (by omega) cb
 have g1 := hR2.row cb
 go_wp2_with (first
  | ((with_reducible refine tdQ 11 ?_); refine lcQ 50 (.tmp 2) (gp) cb (g1) Tryd.underlying50 Hb.out ?_)
  | ((with_reducible refine tsQ 50 ?_); refine wpList_store_row rfl 50 (.tmp 5) (.tmp 11) rfl (w.heap.size + 1) cb rfl rfl 50 _ (g0) Hb.out Hbz.out Hbo.out ?_))
 refine bodyPost_ret (results_cell_one rfl _ _ (w.heap.size + 1) 50 cb _ rfl (g0.row cb) Tryd.underlying50 rfl Hb.out) rfl ⟨rfl, g1.rowFar (by omega) cb, fun k hk hkl => ?_, fun B hB => ?_⟩
 ·
  rw [setRow_other _ _ _ _ (by omega), setRow_other _ _ _ _ hk]
  exact hM3.old.block k hkl
 ·
  exact below_setRow (below_setRow (hM3.old.mono (by omega)) hB _) (by omega) _
set_option maxRecDepth 100000 in
set_option maxHeartbeats 4000000 in
theorem feInverse_any (a : Fe5) (w : World) (ha : MayF a) :
  Calls Tryd.prog 67 #[.agg (feC a)] w fun e w' => e = .returned (.agg (feC (invU a))) ∧ Below w.heap.size w w' := by
 have hM0 := ((Ms.nil w).box 50 (feC a)).box 50 #[.int .u64 0, .int .u64 0, .int .u64 0, .int .u64 0, .int .u64 0]
 have hP0 := hM0.put 50 #[.int .u64 0, .int .u64 0, .int .u64 0, .int .u64 0, .int .u64 0] (feC a)
 simp only [World.size_alloc] at hM0 hP0
 have hsz := fun x => Lib.hid (sizeFe x)
 have hso := fun x => Lib.hid (one_fe x)
 have hzz := fun x => Lib.hid (fe_zero x)
 have Ha := Lib.hid ha
 clear ha
 have hnew : RowC (((w.alloc (.cells (feC a) 50)).alloc (.cells #[.int .u64 0, .int .u64 0, .int .u64 0, .int .u64 0, .int .u64 0] 50)).alloc (.cells #[.int .u64 0, .int .u64 0, .int .u64 0, .int .u64 0, .int .u64 0] 50)) (w.heap.size + 1 + 1) 50 #[.int .u64 0, .int .u64 0, .int .u64 0, .int .u64 0, .int .u64 0] := RowC.mk_ _ _ _ (by simp)
 go_enter Tryd.func67, Tryd.ntmps67
 go_wp2_with (first
  | ((with_reducible refine tdQ 11 ?_); refine lcQ 50 (.tmp 1) (w.heap.size) (feC a) (hM0.get 1 rfl) Tryd.underlying50 (hsz a).out ?_)
  | ((with_reducible refine tsQ 50 ?_); refine wpList_store_row rfl 50 (.tmp 3) (.tmp 11) rfl (w.heap.size + 1 + 1) (feC a) rfl rfl 50 _ (hnew) (hsz a).out (hzz a).out (hso a).out ?_)
  | ((with_reducible refine tdQ 14 ?_); refine lcQ 50 (.tmp 1) (w.heap.size) (feC a) (hP0.get 2 rfl) Tryd.underlying50 (hsz a).out ?_))
 refine calls_gen (fun wx => Ms w wx [(w.heap.size + 1 + 1, 50, feC (a)), (w.heap.size + 1, 50, #[.int .u64 0, .int .u64 0, .int .u64 0, .int .u64 0, .int .u64 0]), (w.heap.size, 50, feC (a))]) hP0 ?_
 clear hP0 hM0 hnew
 rintro v1 hV1
 have hk1 := behind_any (a) (a) 1 (w.heap.size + 1 + 1) v1 Ha.out Ha.out (by omega) (hV1.get 0 rfl)
 rw [show behU (a) (a) 1 = i2U a from rfl, show ((1 : Nat) : Int) = 1 from rfl] at hk1
 refine hk1.mono ?_
 clear hk1
 rintro e w1 ⟨rfl, hr1, hf1, hb1⟩
 have hM1 := hV1.beh (by omega) (fun p hp => by simp only [List.mem_cons, List.not_mem_nil, or_false] at hp; rcases hp with rfl | rfl <;> simp only <;> omega) hr1 hf1 hb1
 clear hV1 hr1 hf1 hb1
 have hl1 := (hM1.get 0 rfl).lt
 have hP1 := (hM1.put 50 #[.int .u64 0, .int .u64 0, .int .u64 0, .int .u64 0, .int .u64 0] (feC (i2U a))).swap
 go_wp2_with (first
  | ((with_reducible refine tsQ 50 ?_); refine srQ 50 (.tmp 5) (.tmp 15) (w1.heap.size) (feC (i2U a)) _ (RowC.new _ _ _) (hsz _).out (hzz _).out (hso _).out ?_)
  | ((with_reducible refine tdQ 17 ?_); refine lcQ 50 (.tmp 5) (w1.heap.size) (feC (i2U a)) (hP1.get 1 rfl) Tryd.underlying50 (hsz _).out ?_))
 refine calls_gen (fun wx => Ms w wx [(w.heap.size + 1 + 1, 50, feC (i2U a)), (w1.heap.size, 50, feC (i2U a)), (w.heap.size + 1, 50, #[.int .u64 0, .int .u64 0, .int .u64 0, .int .u64 0, .int .u64 0]), (w.heap.size, 50, feC (a))]) hP1 ?_
 clear hP1
 rintro v2 hV2
 have hk2 := behind_any (i2U a) (i2U a) 2 (w.heap.size + 1 + 1) v2 (i2U_may Ha.out) (i2U_may Ha.out) (by omega) (hV2.get 0 rfl)
 rw [show ((2 : Nat) : Int) = 2 from rfl] at hk2
 refine hk2.mono ?_
 clear hk2
 rintro e w2 ⟨rfl, hr2, hf2, hb2⟩
 have hM2 := hV2.beh (by omega) (fun p hp => by simp only [List.mem_cons, List.not_mem_nil, or_false] at hp; rcases hp with rfl | rfl | rfl <;> simp only <;> omega) hr2 hf2 hb2
 clear hV2 hr2 hf2 hb2
 go_wp2_with (first
  | ((with_reducible refine tdQ 20 ?_); refine lcQ 50 (.tmp 1) (w.heap.size) (feC (a)) (hM2.get 3 rfl) Tryd.underlying50 (hsz _).out ?_))
 refine calls_gen (fun wx => Ms w wx [(w.heap.size + 1 + 1, 50, feC (behU (i2U a) (i2U a) 2)), (w1.heap.size, 50, feC (i2U a)), (w.heap.size + 1, 50, #[.int .u64 0, .int .u64 0, .int .u64 0, .int .u64 0, .int .u64 0]), (w.heap.size, 50, feC (a))]) hM2 ?_
 clear hM2
 rintro v3 hV3
 have hk3 := behind_any (behU (i2U a) (i2U a) 2) (a) 1 (w.heap.size + 1 + 1) v3 (behU_may (i2U_may Ha.out) (i2U_may Ha.out) 2) Ha.out (by omega) (hV3.get 0 rfl)
 rw [show behU (behU (i2U a) (i2U a) 2) (a) 1 = i5U a from rfl, show ((1 : Nat) : Int) = 1 from rfl] at hk3
 refine hk3.mono ?_
 clear hk3
 rintro e w3 ⟨rfl, hr3, hf3, hb3⟩
 have hM3 := hV3.beh (by omega) (fun p hp => by simp only [List.mem_cons, List.not_mem_nil, or_false] at hp; rcases hp with rfl | rfl | rfl <;> simp only <;> omega) hr3 hf3 hb3
 clear hV3 hr3 hf3 hb3
 have hl3 := (hM3.get 0 rfl).lt
 have hP3 := (hM3.put 50 #[.int .u64 0, .int .u64 0, .int .u64 0, .int .u64 0, .int .u64 0] (feC (i5U a))).swap
 go_wp2_with (first
  | ((with_reducible refine tsQ 50 ?_); refine srQ 50 (.tmp 6) (.tmp 21) (w3.heap.size) (feC (i5U a)) _ (RowC.new _ _ _) (hsz _).out (hzz _).out (hso _).out ?_)
  | ((with_reducible refine tdQ 23 ?_); refine lcQ 50 (.tmp 6) (w3.heap.size) (feC (i5U a)) (hP3.get 1 rfl) Tryd.underlying50 (hsz _).out ?_))
 refine calls_gen (fun wx => Ms w wx [(w.heap.size + 1 + 1, 50, feC (i5U a)), (w3.heap.size, 50, feC (i5U a)), (w1.heap.size, 50, feC (i2U a)), (w.heap.size + 1, 50, #[.int .u64 0, .int .u64 0, .int .u64 0, .int .u64 0, .int .u64 0]), (w.heap.size, 50, feC (a))]) hP3 ?_
 clear hP3
 rintro v4 hV4
 have hk4 := behind_any (i5U a) (i5U a) 5 (w.heap.size + 1 + 1) v4 (i5U_may Ha.out) (i5U_may Ha.out) (by omega) (hV4.get 0 rfl)
 rw [show behU (i5U a) (i5U a) 5 = i10U a from rfl, show ((5 : Nat) : Int) = 5 from rfl] at hk4
 refine hk4.mono ?_
 clear hk4
 rintro e w4 ⟨rfl, hr4, hf4, hb4⟩
 have hM4 := hV4.beh (by omega) (fun p hp => by simp only [List.mem_cons, List.not_mem_nil, or_false] at hp; rcases hp with rfl | rfl | rfl | rfl <;> simp only <;> omega) hr4 hf4 hb4
 clear hV4 hr4 hf4 hb4
 have hl4 := (hM4.get 0 rfl).lt
 have hP4 := (hM4.put 50 #[.int .u64 0, .int .u64 0, .int .u64 0, .int .u64 0, .int .u64 0] (feC (i10U a))).swap
 go_wp2_with (first
  | ((with_reducible refine tsQ 50 ?_); refine srQ 50 (.tmp 7) (.tmp 24) (w4.heap.size) (feC (i10U a)) _ (RowC.new _ _ _) (hsz _).out (hzz _).out (hso _).out ?_)
  | ((with_reducible refine tdQ 26 ?_); refine lcQ 50 (.tmp 7) (w4.heap.size) (feC (i10U a)) (hP4.get 1 rfl) Tryd.underlying50 (hsz _).out ?_))
 refine calls_gen (fun wx => Ms w wx [(w.heap.size + 1 + 1, 50, feC (i10U a)), (w4.heap.size, 50, feC (i10U a)), (w3.heap.size, 50, feC (i5U a)), (w1.heap.size, 50, feC (i2U a)), (w.heap.size + 1, 50, #[.int .u64 0, .int .u64 0, .int .u64 0, .int .u64 0, .int .u64 0]), (w.heap.size, 50, feC (a))]) hP4 ?_
 clear hP4
 rintro v5 hV5
 have hk5 := behind_any (i10U a) (i10U a) 10 (w.heap.size + 1 + 1) v5 (i10U_may Ha.out) (i10U_may Ha.out) (by omega) (hV5.get 0 rfl)
 rw [show behU (i10U a) (i10U a) 10 = i20U a from rfl, show ((10 : Nat) : Int) = 10 from rfl] at hk5
 refine hk5.mono ?_
 clear hk5
 rintro e w5 ⟨rfl, hr5, hf5, hb5⟩
 have hM5 := hV5.beh (by omega) (fun p hp => by simp only [List.mem_cons, List.not_mem_nil, or_false] at hp; rcases hp with rfl | rfl | rfl | rfl | rfl <;> simp only <;> omega) hr5 hf5 hb5
 clear hV5 hr5 hf5 hb5
 have hl5 := (hM5.get 0 rfl).lt
 have hP5 := (hM5.put 50 #[.int .u64 0, .int .u64 0, .int .u64 0, .int .u64 0, .int .u64 0] (feC (i20U a))).swap
 go_wp2_with (first
  | ((with_reducible refine tsQ 50 ?_); refine srQ 50 (.tmp 8) (.tmp 27) (w5.heap.size) (feC (i20U a)) _ (RowC.new _ _ _) (hsz _).out (hzz _).out (hso _).out ?_)
  | ((with_reducible refine tdQ 29 ?_); refine lcQ 50 (.tmp 8) (w5.heap.size) (feC (i20U a)) (hP5.get 1 rfl) Tryd.underlying50 (hsz _).out ?_))
 refine calls_gen (fun wx => Ms w wx [(w.heap.size + 1 + 1, 50, feC (i20U a)), (w5.heap.size, 50, feC (i20U a)), (w4.heap.size, 50, feC (i10U a)), (w3.heap.size, 50, feC (i5U a)), (w1.heap.size, 50, feC (i2U a)), (w.heap.size + 1, 50, #[.int .u64 0, .int .u64 0, .int .u64 0, .int .u64 0, .int .u64 0]), (w.heap.size, 50, feC (a))]) hP5 ?_
 clear hP5
 rintro v6 hV6
 have hk6 := behind_any (i20U a) (i20U a) 20 (w.heap.size + 1 + 1) v6 (i20U_may Ha.out) (i20U_may Ha.out) (by omega) (hV6.get 0 rfl)
 rw [show behU (i20U a) (i20U a) 20 = i40U a from rfl, show ((20 : Nat) : Int) = 20 from rfl] at hk6
 refine hk6.mono ?_
 clear hk6
 rintro e w6 ⟨rfl, hr6, hf6, hb6⟩
 have hM6 := hV6.beh (by omega) (fun p hp => by simp only [List.mem_cons, List.not_mem_nil, or_false] at hp; rcases hp with rfl | rfl | rfl | rfl | rfl | rfl <;> simp only <;> omega) hr6 hf6 hb6
 clear hV6 hr6 hf6 hb6
 go_wp2_with (first
  | ((with_reducible refine tdQ 32 ?_); refine lcQ 50 (.tmp 7) (w4.heap.size) (feC (i10U a)) (hM6.get 2 rfl) Tryd.underlying50 (hsz _).out ?_))
 refine calls_gen (fun wx => Ms w wx [(w.heap.size + 1 + 1, 50, feC (i40U a)), (w5.heap.size, 50, feC (i20U a)), (w4.heap.size, 50, feC (i10U a)), (w3.heap.size, 50, feC (i5U a)), (w1.heap.size, 50, feC (i2U a)), (w.heap.size + 1, 50, #[.int .u64 0, .int .u64 0, .int .u64 0, .int .u64 0, .int .u64 0]), (w.heap.size, 50, feC (a))]) hM6 ?_
 clear hM6
 rintro v7 hV7
 have hk7 := behind_any (i40U a) (i10U a) 10 (w.heap.size + 1 + 1) v7 (i40U_may Ha.out) (i10U_may Ha.out) (by omega) (hV7.get 0 rfl)
 rw [show behU (i40U a) (i10U a) 10 = i50U a from rfl, show ((10 : Nat) : Int) = 10 from rfl] at hk7
 refine hk7.mono ?_
 clear hk7
 rintro e w7 ⟨rfl, hr7, hf7, hb7⟩
 have hM7 := hV7.beh (by omega) (fun p hp => by simp only [List.mem_cons, List.not_mem_nil, or_false] at hp; rcases hp with rfl | rfl | rfl | rfl | rfl | rfl <;> simp only <;> omega) hr7 hf7 hb7
 clear hV7 hr7 hf7 hb7
 have hl7 := (hM7.get 0 rfl).lt
 have hP7 := (hM7.put 50 #[.int .u64 0, .int .u64 0, .int .u64 0, .int .u64 0, .int .u64 0] (feC (i50U a))).swap
 go_wp2_with (first
  | ((with_reducible refine tsQ 50 ?_); refine srQ 50 (.tmp 9) (.tmp 33) (w7.heap.size) (feC (i50U a)) _ (RowC.new _ _ _) (hsz _).out (hzz _).out (hso _).out ?_)
  | ((with_reducible refine tdQ 35 ?_); refine lcQ 50 (.tmp 9) (w7.heap.size) (feC (i50U a)) (hP7.get 1 rfl) Tryd.underlying50 (hsz _).out ?_))
 refine calls_gen (fun wx => Ms w wx [(w.heap.size + 1 + 1, 50, feC (i50U a)), (w7.heap.size, 50, feC (i50U a)), (w5.heap.size, 50, feC (i20U a)), (w4.heap.size, 50, feC (i10U a)), (w3.heap.size, 50, feC (i5U a)), (w1.heap.size, 50, feC (i2U a)), (w.heap.size + 1, 50, #[.int .u64 0, .int .u64 0, .int .u64 0, .int .u64 0, .int .u64 0]), (w.heap.size, 50, feC (a))]) hP7 ?_
 clear hP7
 rintro v8 hV8
 have hk8 := behind_any (i50U a) (i50U a) 50 (w.heap.size + 1 + 1) v8 (i50U_may Ha.out) (i50U_may Ha.out) (by omega) (hV8.get 0 rfl)
 rw [show behU (i50U a) (i50U a) 50 = i100U a from rfl, show ((50 : Nat) : Int) = 50 from rfl] at hk8
 refine hk8.mono ?_
 clear hk8
 rintro e w8 ⟨rfl, hr8, hf8, hb8⟩
 have hM8 := hV8.beh (by omega) (fun p hp => by simp only [List.mem_cons, List.not_mem_nil, or_false] at hp; rcases hp with rfl | rfl | rfl | rfl | rfl | rfl | rfl <;> simp only <;> omega) hr8 hf8 hb8
 clear hV8 hr8 hf8 hb8
 have hl8 := (hM8.get 0 rfl).lt
 have hP8 := (hM8.put 50 #[.int .u64 0, .int .u64 0, .int .u64 0, .int .u64 0, .int .u64 0] (feC (i100U a))).swap
 go_wp2_with (first
  | ((with_reducible refine tsQ 50 ?_); refine srQ 50 (.tmp 10) (.tmp 36) (w8.heap.size) (feC (i100U a)) _ (RowC.new _ _ _) (hsz _).out (hzz _).out (hso _).out ?_)
  | ((with_reducible refine tdQ 38 ?_); refine lcQ 50 (.tmp 10) (w8.heap.size) (feC (i100U a)) (hP8.get 1 rfl) Tryd.underlying50 (hsz _).out ?_))
 refine calls_gen (fun wx => Ms w wx [(w.heap.size + 1 + 1, 50, feC (i100U a)), (w8.heap.size, 50, feC (i100U a)), (w7.heap.size, 50, feC (i50U a)), (w5.heap.size, 50, feC (i20U a)), (w4.heap.size, 50, feC (i10U a)), (w3.heap.size, 50, feC (i5U a)), (w1.heap.size, 50, feC (i2U a)), (w.heap.size + 1, 50, #[.int .u64 0, .int .u64 0, .int .u64 0, .int .u64 0, .int .u64 0]), (w.heap.size, 50, feC (a))]) hP8 ?_
 clear hP8
 rintro v9 hV9
 have hk9 := behind_any (i100U a) (i100U a) 100 (w.heap.size + 1 + 1) v9 (i100U_may Ha.out) (i100U_may Ha.out) (by omega) (hV9.get 0 rfl)
 rw [show behU (i100U a) (i100U a) 100 = i200U a from rfl, show ((100 : Nat) : Int) = 100 from rfl] at hk9
 refine hk9.mono ?_
 clear hk9
 rintro e w9 ⟨rfl, hr9, hf9, hb9⟩
 have hM9 := hV9.beh (by omega) (fun p hp => by simp only [List.mem_cons, List.not_mem_nil, or_false] at hp; rcases hp with rfl | rfl | rfl | rfl | rfl | rfl | rfl | rfl <;> simp only <;> omega) hr9 hf9 hb9
 clear hV9 hr9 hf9 hb9
 go_wp2_with (first
  | ((with_reducible refine tdQ 41 ?_); refine lcQ 50 (.tmp 9) (w7.heap.size) (feC (i50U a)) (hM9.get 2 rfl) Tryd.underlying50 (hsz _).out ?_))
 refine calls_gen (fun wx => Ms w wx [(w.heap.size + 1 + 1, 50, feC (i200U a)), (w8.heap.size, 50, feC (i100U a)), (w7.heap.size, 50, feC (i50U a)), (w5.heap.size, 50, feC (i20U a)), (w4.heap.size, 50, feC (i10U a)), (w3.heap.size, 50, feC (i5U a)), (w1.heap.size, 50, feC (i2U a)), (w.heap.size + 1, 50, #[.int .u64 0, .int .u64 0, .int .u64 0, .int .u64 0, .int .u64 0]), (w.heap.size, 50, feC (a))]) hM9 ?_
 clear hM9
 rintro v10 hV10
 have hk10 := behind_any (i200U a) (i50U a) 50 (w.heap.size + 1 + 1) v10 (i200U_may Ha.out) (i50U_may Ha.out) (by omega) (hV10.get 0 rfl)
 rw [show behU (i200U a) (i50U a) 50 = i250U a from rfl, show ((50 : Nat) : Int) = 50 from rfl] at hk10
 refine hk10.mono ?_
 clear hk10
 rintro e w10 ⟨rfl, hr10, hf10, hb10⟩
 have hM10 := hV10.beh (by omega) (fun p hp => by simp only [List.mem_cons, List.not_mem_nil, or_false] at hp; rcases hp with rfl | rfl | rfl | rfl | rfl | rfl | rfl | rfl <;> simp only <;> omega) hr10 hf10 hb10
 clear hV10 hr10 hf10 hb10
 go_wp2_with (first
  | ((with_reducible refine tdQ 44 ?_); refine lcQ 50 (.tmp 1) (w.heap.size) (feC (a)) (hM10.get 8 rfl) Tryd.underlying50 (hsz _).out ?_))
 refine calls_gen (fun wx => Ms w wx [(w.heap.size + 1 + 1, 50, feC (i250U a)), (w8.heap.size, 50, feC (i100U a)), (w7.heap.size, 50, feC (i50U a)), (w5.heap.size, 50, feC (i20U a)), (w4.heap.size, 50, feC (i10U a)), (w3.heap.size, 50, feC (i5U a)), (w1.heap.size, 50, feC (i2U a)), (w.heap.size + 1, 50, #[.int .u64 0, .int .u64 0, .int .u64 0, .int .u64 0, .int .u64 0]), (w.heap.size, 50, feC (a))]) hM10 ?_
 clear hM10
 rintro v11 hV11
 have hk11 := behind_any (i250U a) (a) 2 (w.heap.size + 1 + 1) v11 (i250U_may Ha.out) Ha.out (by omega) (hV11.get 0 rfl)
 rw [show behU (i250U a) (a) 2 = i252U a from rfl, show ((2 : Nat) : Int) = 2 from rfl] at hk11
 refine hk11.mono ?_
 clear hk11
 rintro e w11 ⟨rfl, hr11, hf11, hb11⟩
 have hM11 := hV11.beh (by omega) (fun p hp => by simp only [List.mem_cons, List.not_mem_nil, or_false] at hp; rcases hp with rfl | rfl | rfl | rfl | rfl | rfl | rfl | rfl <;> simp only <;> omega) hr11 hf11 hb11
 clear hV11 hr11 hf11 hb11
 go_wp2_with (first
  | ((with_reducible refine tdQ 47 ?_); refine lcQ 50 (.tmp 5) (w1.heap.size) (feC (i2U a)) (hM11.get 6 rfl) Tryd.underlying50 (hsz _).out ?_))
 refine calls_gen (fun wx => Ms w wx [(w.heap.size + 1 + 1, 50, feC (i252U a)), (w8.heap.size, 50, feC (i100U a)), (w7.heap.size, 50, feC (i50U a)), (w5.heap.size, 50, feC (i20U a)), (w4.heap.size, 50, feC (i10U a)), (w3.heap.size, 50, feC (i5U a)), (w1.heap.size, 50, feC (i2U a)), (w.heap.size + 1, 50, #[.int .u64 0, .int .u64 0, .int .u64 0, .int .u64 0, .int .u64 0]), (w.heap.size, 50, feC (a))]) hM11 ?_
 clear hM11
 rintro v12 hV12
 have hk12 := behind_any (i252U a) (i2U a) 3 (w.heap.size + 1 + 1) v12 (i252U_may Ha.out) (i2U_may Ha.out) (by omega) (hV12.get 0 rfl)
 rw [show behU (i252U a) (i2U a) 3 = invU a from rfl, show ((3 : Nat) : Int) = 3 from rfl] at hk12
 refine hk12.mono ?_
 clear hk12
 rintro e w12 ⟨rfl, hr12, hf12, hb12⟩
 have hM12 := hV12.beh (by omega) (fun p hp => by simp only [List.mem_cons, List.not_mem_nil, or_false] at hp; rcases hp with rfl | rfl | rfl | rfl | rfl | rfl | rfl | rfl <;> simp only <;> omega) hr12 hf12 hb12
 clear hV12 hr12 hf12 hb12
 go_wp2_with ((with_reducible refine tsQ 50 ?_); refine srQ 50 (.tmp 2) (.tmp 48) (w.heap.size + 1) (feC (invU a)) _ (hM12.get 7 rfl) (hsz _).out (hzz _).out (hso _).out ?_)
 exact bodyPost_ret (results_cell_one rfl _ _ (w.heap.size + 1) 50 _ _ rfl ((hM12.get 7 rfl).row _) Tryd.underlying50 rfl (hsz _).out) rfl ⟨rfl, below_setRow hM12.old (by omega) _⟩
set_option maxRecDepth 100000 in
theorem Invert_ok (a : Fe5) (w : World) (ha : MayF a) :
  Calls Tryd.prog 46 #[.agg (feC a)] w fun e w' => e = .returned (.tuple #[.agg (feC (invU a)), .int .i64 0]) ∧ Below w.heap.size w w' := by
 have hM0 := ((Ms.nil w).box 50 (feC a)).box 50 #[.int .u64 0, .int .u64 0, .int .u64 0, .int .u64 0, .int .u64 0]
 simp only [World.size_alloc] at hM0
 have hs0 := Lib.hid (sizeFe a)
 have hz := Lib.hid (sizeFe (invU a))
 have hzz := Lib.hid (fe_zero (invU a))
 have hzo := Lib.hid (one_fe (invU a))
 have hma := fun wx => mayBe_any a wx ha.word
 rw [mayB_true ha] at hma
 have hp := fun wx => feInverse_any a wx ha
 clear ha
 generalize feC (invU a) = fa at *
 generalize feC a = ca at *
 go_enter Tryd.func46, Tryd.ntmps46
 go_wp2_with ((with_reducible refine tdQ 4 ?_); refine lcQ 50 (.tmp 1) (w.heap.size) ca (hM0.get 1 rfl) Tryd.underlying50 hs0.out ?_)
 refine (hma _).mono ?_
 rintro e w1 ⟨rfl, hb9⟩
 have hM1 := hM0.call hb9
 go_wp2_with ((with_reducible refine tdQ 8 ?_); refine lcQ 50 (.tmp 1) (w.heap.size) ca (hM1.get 1 rfl) Tryd.underlying50 hs0.out ?_)
 refine (hp _).mono ?_
 rintro e w2 ⟨rfl, hb8⟩
 have hM2 := hM1.call hb8
 go_wp2_with ((with_reducible refine tsQ 50 ?_); refine srQ 50 (.tmp 2) (.tmp 9) (w.heap.size + 1) fa _ (hM2.get 0 rfl) hz.out hzz.out hzo.out ?_)
 exact bodyPost_ret (results_cell_two rfl _ _ (w.heap.size + 1) 50 _ _ rfl ((hM2.get 0 rfl).row _) Tryd.underlying50 rfl hz.out) rfl ⟨rfl, below_setRow hM2.old (by omega) _⟩
def oneF : Fe5 := ⟨1, 0, 0, 0, 0⟩
theorem oneF_may : MayF oneF := by decide
end Go.Proofs.YtbiijdboolpaeaaDoor
