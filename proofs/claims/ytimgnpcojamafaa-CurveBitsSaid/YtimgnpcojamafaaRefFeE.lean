/-
  CONTRACTS of the document's Bytes, Of (coterieref05).
-/
import Derived.Test.YtimgnpcojamafaaRefFeD
import Derived.StillTailTactics
set_option linter.unusedVariables false
namespace Go.Proofs.Ytimgnpcojamafaa
open Go.RowKit

def bytU (v j : Nat) : UInt8 := UInt8.ofNat (v / 256 ^ j)
theorem byt_low (v n : Nat) : numF v n % 256 = (bytU v (2 * n)).toNat := by
  rw [bytU, UInt8.toNat_ofNat', numF, Nat.pow_mul, show (256 : Nat) ^ 2 = 65536 from rfl]
  omega
theorem byt_high (v n : Nat) : numF v n / 256 = (bytU v (2 * n + 1)).toNat := by
  rw [bytU, UInt8.toNat_ofNat', numF, Nat.pow_succ, Nat.pow_mul, show (256 : Nat) ^ 2 = 65536 from rfl, ← Nat.div_div_eq_div_mul]
  omega
def bytL (v j : Nat) : List UInt8 := uptoN (bytU v) (fun _ => 0) 32 j
theorem bytL_all (v : Nat) : bytL v 32 = keyB v := uptoN_all _ _
theorem bytL_old (v : Nat) {j : Nat} (h : j < 32) : (bytL v j)[j]? = some 0 := uptoN_old _ _ h (Nat.le_refl _)
theorem bytL_set (v j : Nat) : (bytL v j).set j (bytU v j) = bytL v (j + 1) := (uptoN_succ _ _).symm

set_option maxRecDepth 100000 in
set_option maxHeartbeats 4000000 in
theorem BytesN_any (v : Nat) (w : World) :
    Calls Try.prog 28 #[.agg (numC (numF v))] w fun e w' => e = .returned (.agg (keyC (keyB v))) ∧ Below w.heap.size w w' := by
  have hM0 := (((Ms.nil w).box 47 (numC (numF v))).box 23 (keyC (keyB 0))).box 23 (keyC (keyB 0))
  simp only [World.size_alloc] at hM0
  have Hkz := Lib.hid keyZ
  rw [keyZ] at hM0
  have Hi := fun k (hk : k < 16) => Lib.hid (numC_at (numF v) hk)
  have Hs := Lib.hid (sizeNum (numF v))
  generalize numC (numF v) = cn at *
  obtain ⟨i0, hi0⟩ := quad_info
  have HB0 := Lib.hid (show keyC (bytL v 0) = keyC (keyB 0) from by rw [show bytL v 0 = (List.range 32).map (fun _ => 0) from uptoN_zero _ _]; rfl)
  go_enter Try.func28, Try.ntmps28
  go_wp2_with ((with_reducible show wpList _ _ _ (⟨some 6, _, _, _, _, _⟩ :: _) _ _); refine wpList_loadC (by kernel_rfl) 47 (.tmp 1) rfl (w.heap.size) rfl 47 cn _ (hM0.get 2 rfl) Try.underlying47 rfl Hs.out ?_)
  go_loopw [7] (fun i wr => ∃ n : Nat, n ≤ 16 ∧ i = .int .i64 (n : Int) ∧ Ms w wr [(w.heap.size + 1 + 1, 23, keyC (bytL v (2 * n))), (w.heap.size + 1, 23, keyC (keyB 0)), (w.heap.size, 47, cn)]) (fun i _ => (16 - intOf i).toNat)
  case atStart => exact ⟨0, by omega, rfl, by rw [show 2 * 0 = 0 from rfl, HB0.out, Hkz.out]; exact hM0⟩
  case round =>
    clear hM0
    obtain ⟨n, hn, rfl, hM⟩ := hrel
    by_cases hlt : n < 16
    · have hix := (Hi n hlt).out
      have e1 := byt_low v n
      have e2 := byt_high v n
      have hx := numF_lt v n
      have hc0 := (hM.get 0 rfl).cell (keyC_at (bytL_old v (show 2 * n < 32 by omega)))
      have hf0 := (hM.get 0 rfl).frozen (2 * n)
      have hM1 := hM.setCell (by omega) (by simp; omega) (2 * n) (.int .u8 ((bytU v (2 * n)).toNat : Int))
      rw [keyC_set, bytL_set] at hM1
      have hc1 := (hM1.get 0 rfl).cell (keyC_at (bytL_old v (show 2 * n + 1 < 32 by omega)))
      have hf1 := (hM1.get 0 rfl).frozen (2 * n + 1)
      have hM2 := hM1.setCell (by omega) (by simp; omega) (2 * n + 1) (.int .u8 ((bytU v (2 * n + 1)).toNat : Int))
      rw [keyC_set, bytL_set, show 2 * n + 1 + 1 = 2 * (n + 1) by omega] at hM2
      have HM2 := Lib.hid hM2
      have q1 : (bytU v (2 * n)).toNat < 256 := (bytU v (2 * n)).toBitVec.isLt
      have q2 : (bytU v (2 * n + 1)).toNat < 256 := (bytU v (2 * n + 1)).toBitVec.isLt
      have hw1 : ((numF v n : Nat) : Int) % 256 = ((bytU v (2 * n)).toNat : Int) := by omega
      have hw1t : Int.tmod ((numF v n : Nat) : Int) 256 = ((bytU v (2 * n)).toNat : Int) := by rw [Int.tmod_eq_emod_of_nonneg (by omega)]; exact hw1
      have hw2 : ((numF v n : Nat) : Int) / 256 = ((bytU v (2 * n + 1)).toNat : Int) := by omega
      have hw3 : IntKind.u8.wrap ((bytU v (2 * n)).toNat : Int) = ((bytU v (2 * n)).toNat : Int) := by rw [IntKind.wrap_u8]; omega
      have hw4 : IntKind.u8.wrap ((bytU v (2 * n + 1)).toNat : Int) = ((bytU v (2 * n + 1)).toNat : Int) := by rw [IntKind.wrap_u8]; omega
      have hw5 : IntKind.u64.wrap ((bytU v (2 * n + 1)).toNat : Int) = ((bytU v (2 * n + 1)).toNat : Int) := by rw [IntKind.wrap_u64]; omega
      have hw6 : IntKind.i64.wrap (2 * (n : Int)) = ((2 * n : Nat) : Int) := by rw [IntKind.wrap_i64]; omega
      have hw7 : IntKind.i64.wrap (((2 * n : Nat) : Int) + 1) = ((2 * n + 1 : Nat) : Int) := by rw [IntKind.wrap_i64]; omega
      have j0 : 0 ≤ (n : Int) := by omega
      have j1 : (n : Int) < 16 := by omega
      have j2 : 0 ≤ ((2 * n : Nat) : Int) := by omega
      have j3 : ((2 * n : Nat) : Int) < 32 := by omega
      have j4 : 0 ≤ ((2 * n + 1 : Nat) : Int) := by omega
      have j5 : ((2 * n + 1 : Nat) : Int) < 32 := by omega
      clear e1 e2 hx hM hM1 hM2 q1 q2
      have Hlt := Lib.hid hlt
      generalize hbl : bytL v (2 * (n + 1)) = bl at *
      have Hbl := Lib.hid hbl
      clear hbl
      generalize ((bytU v (2 * n)).toNat : Int) = y0 at *
      generalize ((bytU v (2 * n + 1)).toNat : Int) = y1 at *
      generalize 2 * n + 1 = p1 at *
      generalize 2 * n = p0 at *
      generalize numF v n = x at *
      go_wp2_with ((with_reducible show wpList _ _ _ (⟨some 10, _, _, _, _, _⟩ :: _) _ _); refine wpList_index_cell rfl (some 10) rfl 47 (.tmp 6) (.tmp 7) rfl cn rfl n rfl 16 33 Try.underlying47 quad_plain i0 hi0 quadCells _ hix hlt ?_)
      exact ⟨⟨n + 1, by have := Hlt.out; omega, by go_num, by rw [Hbl.out]; exact HM2.out⟩, by have := Hlt.out; simp [intOf]; omega⟩
    · obtain rfl : n = 16 := by omega
      rw [show 2 * 16 = 32 from rfl, bytL_all] at hM
      rw [show ((16 : Nat) : Int) = 16 from rfl]
      have hs := Lib.hid (sizeKey (keyB_len v))
      have hz := Lib.hid (show (keyC (keyB 0)).size = (keyC (keyB v)).size by rw [keyC_size, keyC_size, keyB_len, keyB_len])
      go_wp2_with (first
        | ((with_reducible show wpList _ _ _ (⟨some 25, _, _, _, _, _⟩ :: _) _ _); refine wpList_loadC (by kernel_rfl) 23 (.tmp 3) rfl (w.heap.size + 1 + 1) rfl 23 (keyC (keyB v)) _ (hM.get 0 rfl) Try.underlying23 rfl hs.out ?_)
        | ((with_reducible show wpList _ _ _ (⟨none, Op.store 23 _ _, _, _, _, _⟩ :: _) _ _); refine wpList_store_row rfl 23 (.tmp 2) (.tmp 25) rfl (w.heap.size + 1) (keyC (keyB v)) rfl rfl 23 _ (hM.get 1 rfl) hs.out hz.out (one_keyF _) ?_))
      exact bodyPost_ret (results_cell_one rfl _ _ (w.heap.size + 1) 23 _ _ rfl ((hM.get 1 rfl).row _) Try.underlying23 rfl hs.out) rfl ⟨rfl, below_setRow hM.old (by omega) _⟩

/-- a number's first parts -/
def preF (f : Fe5) : Nat → Nat
  | 0 => 0
  | n + 1 => preF f n + prt f n * 2 ^ (51 * n)
theorem preF_all (f : Fe5) : preF f 5 = valF f := by
  obtain ⟨a, b, c, d, e⟩ := f
  show 0 + a * 2 ^ (51 * 0) + b * 2 ^ (51 * 1) + c * 2 ^ (51 * 2) + d * 2 ^ (51 * 3) + e * 2 ^ (51 * 4) = _
  simp only [valF]
  omega
def BndO (r : Nat → Nat) (m : Nat) : Prop := ∀ j, j < 32 → r j ≤ m * 32768
theorem BndO.up {r : Nat → Nat} {m : Nat} (h : BndO r m) : BndO r (m + 1) := fun j hj => Nat.le_trans (h j hj) (Nat.mul_le_mul_right _ (Nat.le_succ m))
theorem BndO.add {r : Nat → Nat} {m q t : Nat} (h : BndO r m) (ht : t ≤ 32768) : BndO (addAt r q t) (m + 1) := fun j hj => by
  unfold addAt
  split
  · rw [Nat.add_mul, Nat.one_mul]
    exact Nat.add_le_add (h j hj) ht
  · exact h.up j hj
theorem bit_up (x b : Nat) : x % 2 ^ (b + 1) = x % 2 ^ b + 2 ^ b * (x / 2 ^ b % 2) := by rw [Nat.pow_succ, Nat.mod_mul]
theorem pow_at (m : Nat) : 2 ^ (m % 16) * 65536 ^ (m / 16) = 2 ^ m := by
  rw [show (65536 : Nat) = 2 ^ 16 from rfl, ← Nat.pow_mul, ← Nat.pow_add]
  congr 1
  omega
theorem pow_16 (m : Nat) : 2 ^ (m % 16) ≤ 32768 := Nat.le_trans (Nat.pow_le_pow_right (by omega) (show m % 16 ≤ 15 by omega)) (by decide)


end Go.Proofs.Ytimgnpcojamafaa
