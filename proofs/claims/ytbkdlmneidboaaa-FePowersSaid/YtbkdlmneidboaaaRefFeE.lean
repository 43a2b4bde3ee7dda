/-
  CONTRACTS of the document's Bytes, Of (coterieref05).
-/
import Derived.Test.YtbkdlmneidboaaaRefFeD
import Derived.StillTailTactics
set_option linter.unusedVariables false
namespace Go.Proofs.Ytbkdlmneidboaaa
open Go.RowKit

def bytU (v j : Nat) : UInt8 := UInt8.ofNat (v / 256 ^ j)
theorem byt_low (v n : Nat) : numF v n % 256 = (bytU v (2 * n)).toNat := by
  rw [bytU, UInt8.toNat_ofNat', numF, Nat.pow_mul, show (256 : Nat) ^ 2 = 65536 from rfl]
  omega
theorem byt_high (v n : Nat) : numF v n / 256 = (bytU v (2 * n + 1)).toNat := by
  rw [bytU, UInt8.toNat_ofNat', numF, Nat.pow_succ, Nat.pow_mul, show (256 : Nat) ^ 2 = 65536 from rfl, ← Nat.div_div_eq_div_mul]
  omega
def bytL (v j : Nat) : List UInt8 := uptoN (bytU v) (fun _ => 0) 32 j
theorem bytL_all (v : Nat) : bytL v 32 = keyB v := uptoN_all _ _
theorem bytL_old (v : Nat) {j : Nat} (h : j < 32) : (bytL v j)[j]? = some 0 := uptoN_old _ _ h (Nat.le_refl _)
theorem bytL_set (v j : Nat) : (bytL v j).set j (bytU v j) = bytL v (j + 1) := (uptoN_succ _ _).symm

set_option maxRecDepth 100000 in
set_option maxHeartbeats 4000000 in
theorem BytesN_any (v : Nat) (w : World) :
    Calls Try.prog 45 #[.agg (numC (numF v))] w fun e w' => e = .returned (.agg (keyC (keyB v))) ∧ Below w.heap.size w w' := by
  have hM0 := (((Ms.nil w).box 43 (numC (numF v))).box 39 (keyC (keyB 0))).box 39 (keyC (keyB 0))
  simp only [World.size_alloc] at hM0
  have Hkz := Lib.hid keyZ
  rw [keyZ] at hM0
  have Hi := fun k (hk : k < 16) => Lib.hid (numC_at (numF v) hk)
  have Hs := Lib.hid (sizeNum (numF v))
  generalize numC (numF v) = cn at *
  obtain ⟨i0, hi0⟩ := quad_info
  have HB0 := Lib.hid (show keyC (bytL v 0) = keyC (keyB 0) from by rw [show bytL v 0 = (List.range 32).map (fun _ => 0) from uptoN_zero _ _]; rfl)
  go_enter Try.func45, Try.ntmps45
  go_wp2_with ((with_reducible show wpList _ _ _ (⟨some 6, _, _, _, _, _⟩ :: _) _ _); refine wpList_loadC (by kernel_rfl) 43 (.tmp 1) rfl (w.heap.size) rfl 43 cn _ (hM0.get 2 rfl) Try.underlying43 rfl Hs.out ?_)
  go_loopw [7] (fun i wr => ∃ n : Nat, n ≤ 16 ∧ i = .int .i64 (n : Int) ∧ Ms w wr [(w.heap.size + 1 + 1, 39, keyC (bytL v (2 * n))), (w.heap.size + 1, 39, keyC (keyB 0)), (w.heap.size, 43, cn)]) (fun i _ => (16 - intOf i).toNat)
  case atStart => exact ⟨0, by omega, rfl, by rw [show 2 * 0 = 0 from rfl, HB0.out, Hkz.out]; exact hM0⟩
  case round =>
    clear hM0
    obtain ⟨n, hn, rfl, hM⟩ := hrel
    by_cases hlt : n < 16
    · have hix := (Hi n hlt).out
      have e1 := byt_low v n
      have e2 := byt_high v n
      have hx := numF_lt v n
      have hc0 := (hM.get 0 rfl).cell (keyC_at (bytL_old v (show 2 * n < 32 by omega)))
      have hf0 := (hM.get 0 rfl).frozen (2 * n)
      have hM1 := hM.setCell (by omega) (by simp; omega) (2 * n) (.int .u8 ((bytU v (2 * n)).toNat : Int))
      rw [keyC_set, bytL_set] at hM1
      have hc1 := (hM1.get 0 rfl).cell (keyC_at (bytL_old v (show 2 * n + 1 < 32 by omega)))
      have hf1 := (hM1.get 0 rfl).frozen (2 * n + 1)
      have hM2 := hM1.setCell (by omega) (by simp; omega) (2 * n + 1) (.int .u8 ((bytU v (2 * n + 1)).toNat : Int))
      rw [keyC_set, bytL_set, show 2 * n + 1 + 1 = 2 * (n + 1) by omega] at hM2
      have HM2 := Lib.hid hM2
      have q1 : (bytU v (2 * n)).toNat < 256 := (bytU v (2 * n)).toBitVec.isLt
      have q2 : (bytU v (2 * n + 1)).toNat < 256 := (bytU v (2 * n + 1)).toBitVec.isLt
      have hw1 : ((numF v n : Nat) : Int) % 256 = ((bytU v (2 * n)).toNat : Int) := by omega
      have hw1t : Int.tmod ((numF v n : Nat) : Int) 256 = ((bytU v (2 * n)).toNat : Int) := by rw [Int.tmod_eq_emod_of_nonneg (by omega)]; exact hw1
      have hw2 : ((numF v n : Nat) : Int) / 256 = ((bytU v (2 * n + 1)).toNat : Int) := by omega
      have hw3 : IntKind.u8.wrap ((bytU v (2 * n)).toNat : Int) = ((bytU v (2 * n)).toNat : Int) := by rw [IntKind.wrap_u8]; omega
      have hw4 : IntKind.u8.wrap ((bytU v (2 * n + 1)).toNat : Int) = ((bytU v (2 * n + 1)).toNat : Int) := by rw [IntKind.wrap_u8]; omega
      have hw5 : IntKind.u64.wrap ((bytU v (2 * n + 1)).toNat : Int) = ((bytU v (2 * n + 1)).toNat : Int) := by rw [IntKind.wrap_u64]; omega
      have hw6 : IntKind.i64.wrap (2 * (n : Int)) = ((2 * n : Nat) : Int) := by rw [IntKind.wrap_i64]; omega
      have hw7 : IntKind.i64.wrap (((2 * n : Nat) : Int) + 1) = ((2 * n + 1 : Nat) : Int) := by rw [IntKind.wrap_i64]; omega
      have j0 : 0 ≤ (n : Int) := by omega
      have j1 : (n : Int) < 16 := by omega
      have j2 : 0 ≤ ((2 * n : Nat) : Int) := by omega
      have j3 : ((2 * n : Nat) : Int) < 32 := by omega
      have j4 : 0 ≤ ((2 * n + 1 : Nat) : Int) := by omega
      have j5 : ((2 * n + 1 : Nat) : Int) < 32 := by omega
      clear e1 e2 hx hM hM1 hM2 q1 q2
      have Hlt := Lib.hid hlt
      generalize hbl : bytL v (2 * (n + 1)) = bl at *
      have Hbl := Lib.hid hbl
      clear hbl
      generalize ((bytU v (2 * n)).toNat : Int) = y0 at *
      generalize ((bytU v (2 * n + 1)).toNat : Int) = y1 at *
      generalize 2 * n + 1 = p1 at *
      generalize 2 * n = p0 at *
      generalize numF v n = x at *
      go_wp2_with ((with_reducible show wpList _ _ _ (⟨some 10, _, _, _, _, _⟩ :: _) _ _); refine wpList_index_cell rfl (some 10) rfl 43 (.tmp 6) (.tmp 7) rfl cn rfl n rfl 16 35 Try.underlying43 quad_plain i0 hi0 quadCells _ hix hlt ?_)
      exact ⟨⟨n + 1, by have := Hlt.out; omega, by go_num, by rw [Hbl.out]; exact HM2.out⟩, by have := Hlt.out; simp [intOf]; omega⟩
    · obtain rfl : n = 16 := by omega
      rw [show 2 * 16 = 32 from rfl, bytL_all] at hM
      rw [show ((16 : Nat) : Int) = 16 from rfl]
      have hs := Lib.hid (sizeKey (keyB_len v))
      have hz := Lib.hid (show (keyC (keyB 0)).size = (keyC (keyB v)).size by rw [keyC_size, keyC_size, keyB_len, keyB_len])
      go_wp2_with (first
        | ((with_reducible show wpList _ _ _ (⟨some 25, _, _, _, _, _⟩ :: _) _ _); refine wpList_loadC (by kernel_rfl) 39 (.tmp 3) rfl (w.heap.size + 1 + 1) rfl 39 (keyC (keyB v)) _ (hM.get 0 rfl) Try.underlying39 rfl hs.out ?_)
        | ((with_reducible show wpList _ _ _ (⟨none, Op.store 39 _ _, _, _, _, _⟩ :: _) _ _); refine wpList_store_row rfl 39 (.tmp 2) (.tmp 25) rfl (w.heap.size + 1) (keyC (keyB v)) rfl rfl 39 _ (hM.get 1 rfl) hs.out hz.out (one_key _) ?_))
      exact bodyPost_ret (results_cell_one rfl _ _ (w.heap.size + 1) 39 _ _ rfl ((hM.get 1 rfl).row _) Try.underlying39 rfl hs.out) rfl ⟨rfl, below_setRow hM.old (by omega) _⟩

/-- a number's first parts -/
def preF (f : Fe5) : Nat → Nat
  | 0 => 0
  | n + 1 => preF f n + prt f n * 2 ^ (51 * n)
theorem preF_all (f : Fe5) : preF f 5 = valF f := by
  obtain ⟨a, b, c, d, e⟩ := f
  show 0 + a * 2 ^ (51 * 0) + b * 2 ^ (51 * 1) + c * 2 ^ (51 * 2) + d * 2 ^ (51 * 3) + e * 2 ^ (51 * 4) = _
  simp only [valF]
  omega
def BndO (r : Nat → Nat) (m : Nat) : Prop := ∀ j, j < 32 → r j ≤ m * 32768
theorem BndO.up {r : Nat → Nat} {m : Nat} (h : BndO r m) : BndO r (m + 1) := fun j hj => Nat.le_trans (h j hj) (Nat.mul_le_mul_right _ (Nat.le_succ m))
theorem BndO.add {r : Nat → Nat} {m q t : Nat} (h : BndO r m) (ht : t ≤ 32768) : BndO (addAt r q t) (m + 1) := fun j hj => by
  unfold addAt
  split
  · rw [Nat.add_mul, Nat.one_mul]
    exact Nat.add_le_add (h j hj) ht
  · exact h.up j hj
theorem bit_up (x b : Nat) : x % 2 ^ (b + 1) = x % 2 ^ b + 2 ^ b * (x / 2 ^ b % 2) := by rw [Nat.pow_succ, Nat.mod_mul]
theorem pow_at (m : Nat) : 2 ^ (m % 16) * 65536 ^ (m / 16) = 2 ^ m := by
  rw [show (65536 : Nat) = 2 ^ 16 from rfl, ← Nat.pow_mul, ← Nat.pow_add]
  congr 1
  omega
theorem pow_16 (m : Nat) : 2 ^ (m % 16) ≤ 32768 := Nat.le_trans (Nat.pow_le_pow_right (by omega) (show m % 16 ≤ 15 by omega)) (by decide)

set_option maxRecDepth 100000 in
set_option maxHeartbeats 8000000 in
theorem OfN_any (f : Fe5) (w : World) (hf : MayF f) :
    Calls Try.prog 27 #[.agg (feC f)] w fun e w' => e = .returned (.agg (numC (numF (valF f % P25)))) ∧ Below w.heap.size w w' := by
  have hM0 := (((Ms.nil w).box 37 (feC f)).box 43 ZN).box 78 (wC (fun _ => 0))
  simp only [World.size_alloc] at hM0
  have Hf := Lib.hid hf
  have Hs := Lib.hid (sizeFe f)
  have Hi := fun k (hk : k < 5) => Lib.hid (qC_at (prt_at f hk))
  have Hall := Lib.hid (preF_all f)
  clear hf
  rw [feC_q] at hM0 Hs ⊢
  generalize qC [f.a0, f.a1, f.a2, f.a3, f.a4] = cf at *
  obtain ⟨i0, hi0⟩ := quad_info
  have HW0 := Lib.hid (show wC (fun _ => 0) = #[.int .u64 0, .int .u64 0, .int .u64 0, .int .u64 0, .int .u64 0, .int .u64 0, .int .u64 0, .int .u64 0, .int .u64 0, .int .u64 0, .int .u64 0, .int .u64 0, .int .u64 0, .int .u64 0, .int .u64 0, .int .u64 0, .int .u64 0, .int .u64 0, .int .u64 0, .int .u64 0, .int .u64 0, .int .u64 0, .int .u64 0, .int .u64 0, .int .u64 0, .int .u64 0, .int .u64 0, .int .u64 0, .int .u64 0, .int .u64 0, .int .u64 0, .int .u64 0] from by kernel_rfl)
  have HZN := Lib.hid (show ZN = #[.int .u64 0, .int .u64 0, .int .u64 0, .int .u64 0, .int .u64 0, .int .u64 0, .int .u64 0, .int .u64 0, .int .u64 0, .int .u64 0, .int .u64 0, .int .u64 0, .int .u64 0, .int .u64 0, .int .u64 0, .int .u64 0] from rfl)
  rw [HW0.out, HZN.out] at hM0
  go_enter Try.func27, Try.ntmps27
  go_wp2_with ((with_reducible show wpList _ _ _ (⟨some 8, _, _, _, _, _⟩ :: _) _ _); refine wpList_loadC (by kernel_rfl) 37 (.tmp 1) rfl (w.heap.size) rfl 37 cf _ (hM0.get 2 rfl) Try.underlying37 rfl Hs.out ?_)
  go_loopw [9] (fun i wr => ∃ (n : Nat) (r : Nat → Nat), n ≤ 5 ∧ i = .int .i64 (n : Int) ∧ Hid (BndO r (52 * n)) ∧ Hid (sumF r 32 = preF f n) ∧ Ms w wr [(w.heap.size + 1 + 1, 78, wC r), (w.heap.size + 1, 43, ZN), (w.heap.size, 37, cf)]) (fun i _ => (5 - intOf i).toNat)
  case atStart => exact ⟨0, fun _ => 0, by omega, rfl, Lib.hid (fun j hj => by simp), Lib.hid (by rw [sum_zero]; rfl), by rw [HW0.out, HZN.out]; exact hM0⟩
  case round =>
    clear hM0
    obtain ⟨n, r, hn, rfl, HBd, HS, hM⟩ := hrel
    by_cases hlt : n < 5
    · have hix := (Hi n hlt).out
      have Hx := Lib.hid (prt_lt Hf.out n)
      have Hpre := Lib.hid (show preF f (n + 1) = preF f n + prt f n * 2 ^ (51 * n) from rfl)
      have Hlt := Lib.hid hlt
      have j0 : 0 ≤ (n : Int) := by omega
      have j1 : (n : Int) < 5 := by omega
      generalize prt f n = x at *
      generalize preF f n = S at *
      go_wp2_with ((with_reducible show wpList _ _ _ (⟨some 12, _, _, _, _, _⟩ :: _) _ _); refine wpList_index_cell rfl (some 12) rfl 37 (.tmp 8) (.tmp 9) rfl cf rfl n rfl 5 35 Try.underlying37 quad_plain i0 hi0 quadCells _ hix hlt ?_)
      go_loopw [13] (fun i wr => ∃ (b : Nat) (r : Nat → Nat), b ≤ 52 ∧ i = .int .i64 (b : Int) ∧ Hid (BndO r (52 * n + b)) ∧ Hid (sumF r 32 = S + x % 2 ^ b * 2 ^ (51 * n)) ∧ Ms w wr [(w.heap.size + 1 + 1, 78, wC r), (w.heap.size + 1, 43, ZN), (w.heap.size, 37, cf)]) (fun i _ => (52 - intOf i).toNat)
      case atStart => exact ⟨0, r, by omega, rfl, HBd, Lib.hid (by rw [HS.out, Nat.pow_zero, Nat.mod_one, Nat.zero_mul, Nat.add_zero]), hM⟩
      case round =>
        clear hM HBd HS hix
        obtain ⟨b, r, hb, rfl, HBd, HS, hM⟩ := hrel
        by_cases hlb : b < 52
        · have hsh : (x : Int) / 2 ^ b = ((x / 2 ^ b : Nat) : Int) := by simp
          have hbit : x / 2 ^ b % 2 = 0 ∨ x / 2 ^ b % 2 = 1 := by omega
          have Hup := Lib.hid (bit_up x b)
          have Hb := Lib.hid hlb
          have jb : (b : Int) < 52 := by omega
          rcases hbit with h0 | h1
          · have hrem : ((x / 2 ^ b : Nat) : Int) % 2 = 0 := by omega
            have hremt : Int.tmod ((x / 2 ^ b : Nat) : Int) 2 = 0 := by rw [Int.tmod_eq_emod_of_nonneg (Int.natCast_nonneg _)]; exact hrem
            have Hs2 := Lib.hid (show sumF r 32 = S + x % 2 ^ (b + 1) * 2 ^ (51 * n) by rw [HS.out, Hup.out, h0, Nat.mul_zero, Nat.add_zero])
            have Hb2 := Lib.hid (show BndO r (52 * n + (b + 1)) from HBd.out.up)
            clear h0 hlt hlb
            generalize x / 2 ^ b = y at *
            go_wp2_with fail
            exact ⟨⟨b + 1, r, by have := Hb.out; omega, by go_num, Hb2, Hs2, hM⟩, by have := Hb.out; simp [intOf]; omega⟩
          · have hrem : ((x / 2 ^ b : Nat) : Int) % 2 = 1 := by omega
            have hremt : Int.tmod ((x / 2 ^ b : Nat) : Int) 2 = 1 := by rw [Int.tmod_eq_emod_of_nonneg (Int.natCast_nonneg _)]; exact hrem
            have hq : (51 * n + b) / 16 < 32 := by omega
            have hp16 := pow_16 (51 * n + b)
            have hr := HBd.out _ hq
            have Hs2 := Lib.hid (show sumF (addAt r ((51 * n + b) / 16) (2 ^ ((51 * n + b) % 16))) 32 = S + x % 2 ^ (b + 1) * 2 ^ (51 * n) by
              rw [addAt_sum r 32 hq, HS.out, Hup.out, h1, Nat.mul_one, Nat.add_mul, pow_at, Nat.pow_add, Nat.add_assoc, Nat.mul_comm (2 ^ b)])
            have Hb2 := Lib.hid (show BndO (addAt r ((51 * n + b) / 16) (2 ^ ((51 * n + b) % 16))) (52 * n + (b + 1)) from HBd.out.add hp16)
            have hnew := hM.drew.setCell (by omega) (by simp; omega) ((51 * n + b) / 16) (.int .u64 ((r ((51 * n + b) / 16) + 2 ^ ((51 * n + b) % 16) : Nat) : Int))
            rw [wC_add r hq] at hnew
            have Hnew := Lib.hid hnew
            have hcl := (hM.get 0 rfl).cell (wC_at r hq)
            have hfl := (hM.get 0 rfl).frozen ((51 * n + b) / 16)
            have hkeep : ∀ wx : World, Below wr.heap.size wr wx → wx.cell? ⟨w.heap.size + 1 + 1, (51 * n + b) / 16, none⟩ = some (.int .u64 ((r ((51 * n + b) / 16) : Nat) : Int)) := fun wx hb => ((hM.get 0 rfl).call hb).cell (wC_at r hq)
            have hw1 : IntKind.i64.wrap (51 * (n : Int)) = ((51 * n : Nat) : Int) := by rw [IntKind.wrap_i64]; omega
            have hw2 : IntKind.i64.wrap (((51 * n : Nat) : Int) + (b : Int)) = ((51 * n + b : Nat) : Int) := by rw [IntKind.wrap_i64]; omega
            have hw3 : ((51 * n + b : Nat) : Int) / 16 = (((51 * n + b) / 16 : Nat) : Int) := by omega
            have hw4 : ((51 * n + b : Nat) : Int) % 16 = (((51 * n + b) % 16 : Nat) : Int) := by omega
            have hw4t : Int.tmod ((51 * n + b : Nat) : Int) 16 = (((51 * n + b) % 16 : Nat) : Int) := by rw [Int.tmod_eq_emod_of_nonneg (by omega)]; exact hw4
            have hw5 : IntKind.u64.wrap (2 ^ ((51 * n + b) % 16)) = ((2 ^ ((51 * n + b) % 16) : Nat) : Int) := wrap_nat (by simp) (by omega)
            have hw6 : IntKind.u64.wrap (((r ((51 * n + b) / 16) : Nat) : Int) + ((2 ^ ((51 * n + b) % 16) : Nat) : Int)) = ((r ((51 * n + b) / 16) + 2 ^ ((51 * n + b) % 16) : Nat) : Int) := wrap_nat (by simp) (by omega)
            have j2 : 0 ≤ (((51 * n + b) / 16 : Nat) : Int) := by omega
            have j3 : (((51 * n + b) / 16 : Nat) : Int) < 32 := by omega
            have j4 : 0 ≤ (b : Int) := by omega
            have hwq : IntKind.i64.wrap (((51 * n + b) / 16 : Nat) : Int) = (((51 * n + b) / 16 : Nat) : Int) := by rw [IntKind.wrap_i64]; omega
            clear h1 hlt hlb hp16 hr hnew hM hq
            generalize addAt r ((51 * n + b) / 16) (2 ^ ((51 * n + b) % 16)) = r2 at *
            generalize r ((51 * n + b) / 16) + 2 ^ ((51 * n + b) % 16) = t2 at *
            generalize r ((51 * n + b) / 16) = t0 at *
            generalize ht1 : 2 ^ ((51 * n + b) % 16) = t1 at *
            have Ht1 := Lib.hid ht1
            clear ht1
            generalize (51 * n + b) / 16 = q at *
            generalize (51 * n + b) % 16 = s at *
            generalize 51 * n + b = m at *
            generalize 51 * n = m0 at *
            generalize x / 2 ^ b = y at *
            go_wp2_with fail
            go_still_tail 9, (by kernel_rfl)
            go_wp2_with fail
            exact ⟨⟨b + 1, r2, by have := Hb.out; omega, by go_num, Hb2, Hs2, Hnew.out⟩, by have := Hb.out; simp [intOf]; omega⟩
        · obtain rfl : b = 52 := by omega
          rw [show ((52 : Nat) : Int) = 52 from rfl]
          have Hs2 := Lib.hid (show sumF r 32 = preF f (n + 1) by rw [HS.out, Nat.mod_eq_of_lt Hx.out, Hpre.out])
          have Hb2 := Lib.hid (show BndO r (52 * (n + 1)) from HBd.out)
          clear hlt hlb
          go_wp2_with fail
          exact ⟨⟨n + 1, r, by have := Hlt.out; omega, by go_num, Hb2, Hs2, hM⟩, by have := Hlt.out; simp [intOf]; omega⟩
    · obtain rfl : n = 5 := by omega
      rw [show ((5 : Nat) : Int) = 5 from rfl]
      have hf := fun wx => Fold_any r wx (fun k hk => Nat.lt_of_le_of_lt (HBd.out k hk) (by omega))
      rw [HS.out, Hall.out] at hf
      have hs := Lib.hid (sizeNum (numF (valF f % P25)))
      have ho := Lib.hid (one_num (numF (valF f % P25)))
      have hz := Lib.hid (show ZN.size = (numC (numF (valF f % P25))).size by rw [numC_size]; rfl)
      generalize hfa : numC (numF (valF f % P25)) = fa at *
      have Hfa := Lib.hid hfa
      clear hfa HBd HS
      go_wp2_with ((with_reducible show wpList _ _ _ (⟨some 36, _, _, _, _, _⟩ :: _) _ _); refine wpList_loadC (by kernel_rfl) 78 (.tmp 3) rfl (w.heap.size + 1 + 1) rfl 78 (wC r) _ (hM.get 0 rfl) Try.underlying78 rfl (sizeW r) ?_)
      refine (hf _).mono ?_
      rintro e w5 ⟨rfl, hb5⟩
      have hM5 := hM.call hb5
      clear hM hb5 hf
      go_wp2_with ((with_reducible show wpList _ _ _ (⟨none, Op.store 43 _ _, _, _, _, _⟩ :: _) _ _); refine wpList_store_row rfl 43 (.tmp 2) (.tmp 37) rfl (w.heap.size + 1) fa rfl rfl 43 _ (hM5.get 1 rfl) hs.out hz.out ho.out ?_)
      exact bodyPost_ret (results_cell_one rfl _ _ (w.heap.size + 1) 43 fa _ rfl ((hM5.get 1 rfl).row fa) Try.underlying43 rfl hs.out) rfl ⟨by rw [Hfa.out], below_setRow hM5.old (by omega) _⟩

end Go.Proofs.Ytbkdlmneidboaaa
