/-
  CONTRACTS of the program's Bytes (package fe).
-/
import Derived.Test.YtimgnpcojamafaaFeD
import Derived.Test.YtimgnpcojamafaaKey
set_option linter.unusedVariables false
namespace Go.Proofs.Ytimgnpcojamafaa
open Go.RowKit

/-- 32 bytes as cells -/
def keyC (l : List UInt8) : Array Value := (l.map bv).toArray
theorem infoKey : (Try.prog.info? 23).map (·.size) = some 32 := by kernel_rfl
theorem keyC_size (l : List UInt8) : (keyC l).size = l.length := by simp [keyC]
theorem sizeKey {l : List UInt8} (h : l.length = 32) : (Try.prog.info? 23).map (·.size) = some (keyC l).size := by rw [infoKey, keyC_size, h]
theorem one_keyF (l : List UInt8) : (keyC l).all (·.oneCell') = true := one_bvA l
theorem keyC_at {l : List UInt8} {i : Nat} {x : UInt8} (h : l[i]? = some x) : (keyC l)[i]? = some (.int .u8 (x.toNat : Int)) := by simp [keyC, h, bv]
theorem keyC_set (l : List UInt8) (i : Nat) (x : UInt8) : (keyC l).setIfInBounds i (.int .u8 (x.toNat : Int)) = keyC (l.set i x) := by simp [keyC, List.map_set, bv]
theorem keyZ : keyC (keyB 0) = #[.int .u8 0, .int .u8 0, .int .u8 0, .int .u8 0, .int .u8 0, .int .u8 0, .int .u8 0, .int .u8 0, .int .u8 0, .int .u8 0, .int .u8 0, .int .u8 0, .int .u8 0, .int .u8 0, .int .u8 0, .int .u8 0, .int .u8 0, .int .u8 0, .int .u8 0, .int .u8 0, .int .u8 0, .int .u8 0, .int .u8 0, .int .u8 0, .int .u8 0, .int .u8 0, .int .u8 0, .int .u8 0, .int .u8 0, .int .u8 0, .int .u8 0, .int .u8 0] := by kernel_rfl
theorem Ms.setCell {w0 w : World} {g : Nat} {t : TypeId} {cs : Array Value} {L : List (Nat × TypeId × Array Value)} (h : Ms w0 w ((g, t, cs) :: L)) (hg : w0.heap.size ≤ g) (hne : ∀ p ∈ L, p.1 ≠ g) (i : Nat) (v : Value) :
    Ms w0 (w.setCell ⟨g, i, none⟩ v) ((g, t, cs.setIfInBounds i v) :: L) :=
  ⟨h.old.setCell hg _, fun p hp => by
    rcases List.mem_cons.1 hp with rfl | hp
    · exact (h.rows (g, t, cs) (by simp)).set_ i v
    · exact (h.rows p (by simp [hp])).far (hne p hp) v⟩

theorem prt_parts (v : Nat) {i : Nat} (hi : i < 5) : prt (partsU v) i = v / 2 ^ (51 * i) % 2251799813685248 := by
  have h : i = 0 ∨ i = 1 ∨ i = 2 ∨ i = 3 ∨ i = 4 := by omega
  rcases h with rfl | rfl | rfl | rfl | rfl
  · show v % _ = _; simp
  all_goals rfl
theorem low_step (v i : Nat) : v % 2 ^ (51 * (i + 1)) = v % 2 ^ (51 * i) + v / 2 ^ (51 * i) % 2251799813685248 * 2 ^ (51 * i) := by
  rw [Nat.mul_add, Nat.mul_one, Nat.pow_add, Nat.mod_mul, Nat.mul_comm (2 ^ (51 * i))]
theorem place_pow (i : Nat) : 2 ^ (51 * i) = 2 ^ (51 * i % 8) * 256 ^ (51 * i / 8) := by
  rw [show (256 : Nat) = 2 ^ 8 from rfl, ← Nat.pow_mul, ← Nat.pow_add]
  congr 1
  omega
theorem room {q i m : Nat} (hi : i < 5) (hq : q < 2251799813685248) (hm : ¬ q * 2 ^ (51 * i % 8) / 256 ^ m = 0) : 51 * i / 8 + m < 32 := by
  have hp : 0 < 256 ^ m := Nat.pow_pos (by omega)
  have h1 : 256 ^ m ≤ q * 2 ^ (51 * i % 8) := by
    rcases Nat.lt_or_ge (q * 2 ^ (51 * i % 8)) (256 ^ m) with h | h
    · exact absurd (Nat.div_eq_of_lt h) hm
    · exact h
  have h2 : q * 2 ^ (51 * i % 8) < 256 ^ (32 - 51 * i / 8) := by
    have h : i = 0 ∨ i = 1 ∨ i = 2 ∨ i = 3 ∨ i = 4 := by omega
    rcases h with rfl | rfl | rfl | rfl | rfl <;> simp <;> omega
  have h3 := (Nat.pow_lt_pow_iff_right (show 1 < 256 by omega)).1 (Nat.lt_of_le_of_lt h1 h2)
  omega

theorem shl_fits {q s : Nat} (hq : q < 2251799813685248) (hs : s ≤ 7) : q * 2 ^ s < 18446744073709551616 := by
  have h8 : (2 : Nat) ^ s ≤ 128 := Nat.le_trans (Nat.pow_le_pow_right (by omega) hs) (by decide)
  have := Nat.mul_le_mul (Nat.le_of_lt hq) h8
  omega

set_option maxRecDepth 100000 in
set_option maxHeartbeats 1000000 in
theorem Bytes_ok (f : Fe5) (w : World) (hf : MayF f) :
    Calls Try.prog 15 #[.agg (feC f)] w fun e w' => e = .returned (.tuple #[.agg (keyC (keyB (valF f % P25))), .int .i64 0]) ∧ Below w.heap.size w w' := by
  have hM0 := ((Ms.nil w).box 35 (feC f)).box 23 (keyC (keyB 0))
  simp only [World.size_alloc] at hM0
  have hma := fun wx => mayBe_any f wx hf.word
  rw [show mayB f = true from decide_eq_true hf] at hma
  have hle := fun wx => least_any f wx hf
  have hs0 := Lib.hid (sizeFe f)
  rw [show leastU f = partsU (valF f % P25) from rfl, feC_q (partsU (valF f % P25))] at hle
  have hV := P25_lt (valF f)
  generalize valF f % P25 = V at *
  have hi5 := fun k (hk : k < 5) => qC_at (prt_at (partsU V) hk)
  clear hf
  rw [keyZ] at hM0
  generalize qC [(partsU V).a0, (partsU V).a1, (partsU V).a2, (partsU V).a3, (partsU V).a4] = cc at *
  generalize feC f = ca at *
  obtain ⟨i0, hi0⟩ := quad_info
  have HV := Lib.hid hV
  have Hi5 := Lib.hid hi5
  clear hV hi5
  go_enter Try.func15, Try.ntmps15
  go_wp2_with ((with_reducible show wpList _ _ _ (⟨some 10, _, _, _, _, _⟩ :: _) _ _); refine wpList_loadC (by kernel_rfl) 35 (.tmp 1) rfl w.heap.size rfl 35 ca _ (hM0.get 1 rfl) Try.underlying35 rfl hs0.out ?_)
  refine (hma _).mono ?_
  rintro e w1 ⟨rfl, hb1⟩
  have hM1 := (hM0.call hb1).box 23 (keyC (keyB 0))
  have hg : w.heap.size + 1 < w1.heap.size := ((hM0.call hb1).get 0 rfl).lt
  rw [keyZ] at hM1
  clear hM0 hb1
  go_wp2_with ((with_reducible show wpList _ _ _ (⟨some 14, _, _, _, _, _⟩ :: _) _ _); refine wpList_loadC (by kernel_rfl) 35 (.tmp 1) rfl w.heap.size rfl 35 ca _ (hM1.get 2 rfl) Try.underlying35 rfl hs0.out ?_)
  refine (hle _).mono ?_
  rintro e w2 ⟨rfl, hb2⟩
  have hM2 := hM1.call hb2
  clear hM1 hb2
  generalize w1.heap.size = gB at *
  have hM3 : Ms w w2 [(gB, 23, keyC (keyB (V % 2 ^ (51 * 0)))), (w.heap.size + 1, 23, keyC (keyB 0)), (w.heap.size, 35, ca)] := by
    rw [show V % 2 ^ (51 * 0) = 0 by simp [Nat.mod_one], keyZ]
    exact hM2
  clear hM2
  go_wp2_with fail
  go_loopw [16] (fun i wr => ∃ n : Nat, n ≤ 5 ∧ i = .int .i64 (n : Int) ∧ Ms w wr [(gB, 23, keyC (keyB (V % 2 ^ (51 * n)))), (w.heap.size + 1, 23, keyC (keyB 0)), (w.heap.size, 35, ca)]) (fun i _ => (5 - intOf i).toNat)
  case atStart => exact ⟨0, by omega, rfl, hM3⟩
  case round =>
    obtain ⟨n, hn, rfl, hM⟩ := hrel
    by_cases hlt : n < 5
    · have hix := Hi5.out n hlt
      have hq : prt (partsU V) n < 2251799813685248 := by rw [prt_parts V hlt]; exact Nat.mod_lt _ (by omega)
      have Hq := Lib.hid hq
      have Hstep := Lib.hid (low_step V n)
      have Hp := Lib.hid (prt_parts V hlt)
      have hpl := fun wx => place_any n wx hlt
      have hs7 : 51 * n % 8 ≤ 7 := by omega
      have Hlow := Lib.hid (Nat.mod_lt V (show 0 < 2 ^ (51 * n) from Nat.pow_pos (by omega)))
      have Hpow := Lib.hid (place_pow n)
      have Hroom := fun m => Lib.hid (room (m := m) hlt hq)
      have Hfit := Lib.hid (shl_fits hq hs7)
      generalize prt (partsU V) n = q at *
      have j0 : 0 ≤ (n : Int) := by omega
      have j1 : (n : Int) < 5 := by omega
      generalize 51 * n / 8 = a at *
      generalize 51 * n % 8 = s at *
      obtain ⟨r0, hr0⟩ : ∃ r, r = q * 2 ^ s := ⟨_, rfl⟩
      have hsh : IntKind.u64.wrap ((q : Int) * 2 ^ s) = ((r0 : Nat) : Int) := wrap_nat (by rw [hr0]; simp) (by rw [hr0]; exact Hfit.out)
      have Hr0 := Lib.hid hr0
      clear hq hr0
      go_wp2_with ((with_reducible show wpList _ _ _ (⟨some 19, _, _, _, _, _⟩ :: _) _ _); refine wpList_index_cell rfl (some 19) rfl 35 (.tmp 15) (.tmp 16) rfl cc rfl n rfl 5 33 Try.underlying35 quad_plain i0 hi0 quadCells _ hix hlt ?_)
      refine (hpl _).mono ?_
      rintro e w3 ⟨rfl, rfl⟩
      go_wp2_with fail
      have Hs7 := Lib.hid hs7
      clear hsh hpl hix hs7
      go_loopw [7, 9] (fun p r wr => ∃ m : Nat, p = .int .i64 ((a + m : Nat) : Int) ∧ r = .int .u64 ((r0 / 256 ^ m : Nat) : Int) ∧ Ms w wr [(gB, 23, keyC (keyB (wroteU (V % 2 ^ (51 * n)) q s a m))), (w.heap.size + 1, 23, keyC (keyB 0)), (w.heap.size, 35, ca)]) (fun _ r _ => (intOf r).toNat)
      case atStart => exact ⟨0, by simp, by simp, by rw [wroteU_zero]; exact hM⟩
      case round =>
        obtain ⟨m, rfl, rfl, hM⟩ := hrel
        by_cases hz : r0 / 256 ^ m = 0
        · have Hz := Lib.hid hz
          rw [hz, show ((0 : Nat) : Int) = 0 from rfl]
          clear hz
          rw [wroteU_end (by rw [← Hr0.out]; exact Hz.out)] at hM
          go_wp2_with fail
          refine ⟨⟨n + 1, by omega, by go_num, ?_⟩, by simp [intOf]; omega⟩
          rw [Hstep.out, ← Hp.out, Hpow.out, ← Nat.mul_assoc]
          rw [Hpow.out] at hM
          exact hM
        · have hp32 := (Hroom m).out (by rw [← Hr0.out]; exact hz)
          have hws := wrote_step (V := V % 2 ^ (51 * n)) (q := q) (s := s) (a := a) (m := m) Hs7.out (by have := Hlow.out; rwa [Hpow.out] at this ⊢)
          rw [← Hr0.out] at hws
          obtain ⟨o1, o2, o3⟩ := hws
          have hset := keyB_set _ _ _ hp32 o2 _ rfl
          rw [← o3] at hset
          have hc := (hM.get 0 rfl).cell (keyC_at (keyB_at (wroteU (V % 2 ^ (51 * n)) q s a m) hp32))
          have hf := (hM.get 0 rfl).frozen (a + m)
          have hnew := hM.setCell (by omega) (by simp; omega) (a + m) (.int .u8 ((wroteU (V % 2 ^ (51 * n)) q s a m / 256 ^ (a + m) % 256 + r0 / 256 ^ m % 256 : Nat) : Int))
          rw [show ((wroteU (V % 2 ^ (51 * n)) q s a m / 256 ^ (a + m) % 256 + r0 / 256 ^ m % 256 : Nat) : Int) = ((UInt8.ofNat (wroteU (V % 2 ^ (51 * n)) q s a m / 256 ^ (a + m) % 256 + r0 / 256 ^ m % 256)).toNat : Int) by rw [ofNat_lt o2], keyC_set, hset, ofNat_lt o2] at hnew
          rw [UInt8.toNat_ofNat'] at hc
          have hor : bits .or .u8 ((wroteU (V % 2 ^ (51 * n)) q s a m / 256 ^ (a + m) % 256 : Nat) : Int) ((r0 / 256 ^ m % 256 : Nat) : Int) = ((wroteU (V % 2 ^ (51 * n)) q s a m / 256 ^ (a + m) % 256 + r0 / 256 ^ m % 256 : Nat) : Int) := by
            rw [u8_or_nat _ _ (Nat.mod_lt _ (by omega)) (Nat.mod_lt _ (by omega)), o1]
          have hdiv : r0 / 256 ^ (m + 1) = r0 / 256 ^ m / 256 := by rw [Nat.pow_succ, Nat.div_div_eq_div_mul]
          have Hdiv := Lib.hid hdiv
          have hcv : IntKind.u8.wrap ((r0 / 256 ^ m : Nat) : Int) = ((r0 / 256 ^ m % 256 : Nat) : Int) := by rw [IntKind.wrap_u8]; omega
          have Hnew := Lib.hid hnew
          clear o1 o2 o3 hset hnew hdiv
          generalize hW : wroteU (V % 2 ^ (51 * n)) q s a m / 256 ^ (a + m) % 256 + r0 / 256 ^ m % 256 = sm at *
          generalize wroteU (V % 2 ^ (51 * n)) q s a m / 256 ^ (a + m) % 256 = b at *
          generalize r0 / 256 ^ m % 256 = d at *
          generalize r0 / 256 ^ m = rm at *
          clear hW
          have hrm : ¬ (rm : Int) = 0 := by omega
          generalize ham : a + m = am at *
          have Ham := Lib.hid ham
          clear ham
          have k0 : 0 ≤ (am : Int) := by omega
          have k1 : (am : Int) < 32 := by omega
          go_wp2_with fail
          refine ⟨⟨m + 1, by rw [← Ham.out, ← Nat.add_assoc]; simp, by rw [Hdiv.out]; simp, Hnew.out⟩, ?_⟩
          simp only [intOf]
          omega
    · obtain rfl : n = 5 := by omega
      rw [show ((5 : Nat) : Int) = 5 from rfl]
      rw [Nat.mod_eq_of_lt (Nat.lt_trans HV.out (by decide +kernel))] at hM
      have hz := Lib.hid (sizeKey (keyB_len V))
      have hzo := Lib.hid (one_keyF (keyB V))
      have hzz := Lib.hid (show (keyC (keyB 0)).size = (keyC (keyB V)).size by rw [keyC_size, keyC_size, keyB_len, keyB_len])
      clear hM3 Hi5 HV
      generalize hkc : keyC (keyB V) = kc at *
      have Hkc := Lib.hid hkc
      clear hkc
      generalize keyC (keyB 0) = kz at *
      go_wp2_with (first
        | ((with_reducible show wpList _ _ _ (⟨some 42, _, _, _, _, _⟩ :: _) _ _); refine wpList_loadC (by kernel_rfl) 23 (.tmp 4) rfl gB rfl 23 kc _ (hM.get 0 rfl) Try.underlying23 rfl hz.out ?_)
        | ((with_reducible show wpList _ _ _ (⟨none, Op.store 23 _ _, _, _, _, _⟩ :: _) _ _); refine wpList_store_row rfl 23 (.tmp 2) (.tmp 42) rfl (w.heap.size + 1) kc rfl rfl 23 kz (hM.get 1 rfl) hz.out hzz.out hzo.out ?_))
      exact bodyPost_ret (results_cell_two rfl _ _ (w.heap.size + 1) 23 kc _ rfl ((hM.get 1 rfl).row kc) Try.underlying23 rfl hz.out) rfl ⟨(by rw [Hkc.out]; first | done | rfl), below_setRow hM.old (by omega) _⟩

set_option maxRecDepth 100000 in
theorem Bytes_bad (f : Fe5) (w : World) (hf : WordF f) (h : ¬ MayF f) :
    Calls Try.prog 15 #[.agg (feC f)] w fun e w' => e = .returned (.tuple #[.agg (keyC (keyB 0)), .int .i64 1]) ∧ Below w.heap.size w w' := by
  have hM0 := ((Ms.nil w).box 35 (feC f)).box 23 (keyC (keyB 0))
  simp only [World.size_alloc] at hM0
  have hma := fun wx => mayBe_any f wx hf
  rw [show mayB f = false from decide_eq_false h] at hma
  have hs0 := Lib.hid (sizeFe f)
  have hz := Lib.hid (sizeKey (keyB_len 0))
  have hzo := Lib.hid (one_keyF (keyB 0))
  clear hf h
  generalize feC f = ca at *
  have Hk := Lib.hid keyZ
  rw [keyZ] at hM0 hz hzo ⊢
  clear Hk
  go_enter Try.func15, Try.ntmps15
  go_wp2_with ((with_reducible show wpList _ _ _ (⟨some 10, _, _, _, _, _⟩ :: _) _ _); refine wpList_loadC (by kernel_rfl) 35 (.tmp 1) rfl w.heap.size rfl 35 ca _ (hM0.get 1 rfl) Try.underlying35 rfl hs0.out ?_)
  refine (hma _).mono ?_
  rintro e w1 ⟨rfl, hb1⟩
  have hM1 := hM0.call hb1
  have hrow := hM1.get 0 rfl
  go_wp2_with ((with_reducible show wpList _ _ _ (⟨none, Op.store 23 _ _, _, _, _, _⟩ :: _) _ _); refine wpList_store_row rfl 23 (.tmp 2) (.tmp 13) rfl (w.heap.size + 1) _ rfl rfl 23 _ hrow hz.out rfl hzo.out ?_)
  exact bodyPost_ret (results_cell_two rfl _ _ (w.heap.size + 1) 23 _ _ rfl (hrow.row _) Try.underlying23 rfl hz.out) rfl ⟨rfl, below_setRow hM1.old (by omega) _⟩

end Go.Proofs.Ytimgnpcojamafaa
