import Derived.Test.YtbiijdboolpaeaaDoorG22
import Derived.Test.YtbiijdboolpaeaaDoorG23
set_option linter.unusedVariables false
namespace Go.Proofs.YtbiijdboolpaeaaDoor
open Go.RowKit
theorem fi_ad (x y : Nat) : Crv.fi (adN x y) = Crv.fi x + Crv.fi y := by rw [adN, Crv.fi_mod, Crv.fi_add]
theorem fi_ml (x y : Nat) : Crv.fi (mlN x y) = Crv.fi x * Crv.fi y := by rw [mlN, Crv.fi_mod, Crv.fi_mul]
theorem fi_sb {x y : Nat} (hy : y < P25) : Crv.fi (sbN x y) = Crv.fi x - Crv.fi y := by
 refine Crv.fi_sub ?_
 rw [sbN, Nat.mod_add_mod, Nat.add_assoc, Nat.sub_add_cancel (Nat.le_of_lt hy), Nat.add_mod_right]
def fq (q : Nat × Nat) : Fin P25 × Fin P25 := (Crv.fi q.1, Crv.fi q.2)
theorem fq_dbl {x z : Nat} (hz : z < P25) : fq (dblN x z) = Crv.dbl Crv.a24 (Crv.fi x, Crv.fi z) := by
 simp only [fq, dblN, Crv.dbl, Crv.a24, fi_ad, fi_ml, fi_sb (mlN_lt _ _), fi_sb hz]
theorem fq_dif {u x z y t : Nat} (hz : z < P25) (ht : t < P25) : fq (difN u x z y t) = Crv.dif (Crv.fi u) (Crv.fi x, Crv.fi z) (Crv.fi y, Crv.fi t) := by
 simp only [fq, difN, Crv.dif, fi_ad, fi_ml, fi_sb (mlN_lt _ _), fi_sb hz, fi_sb ht]
def bitsTo (l : List UInt8) (j : Nat) : List Bool := (List.range j).map fun i => bitK l (254 - i)
theorem bitsTo_succ (l : List UInt8) (j : Nat) : bitsTo l (j + 1) = bitsTo l j ++ [bitK l (254 - j)] := by simp [bitsTo, List.range_succ]
theorem fq_lad {u : Nat} (hu : u < P25) (l : List UInt8) : ∀ j, (fq (ladN u l j).1, fq (ladN u l j).2) = Crv.lad Crv.a24 (Crv.fi u) (bitsTo l j)
 | 0 => rfl
 | j + 1 => by
  have ih := fq_lad hu l j
  obtain ⟨h1, h2, h3, h4⟩ := ladN_low hu l j
  rw [bitsTo_succ, Crv.lad, List.foldl_append]
  rw [Crv.lad] at ih
  rw [← ih, ladN]
  generalize ladN u l j = st at *
  obtain ⟨⟨X, Z⟩, ⟨Y, T⟩⟩ := st
  simp only at h1 h2 h3 h4
  cases bitK l (254 - j) with
  | false =>
   show (fq (dblN X Z), fq (difN u X Z Y T)) = (Crv.dbl Crv.a24 (Crv.fi X, Crv.fi Z), Crv.dif (Crv.fi u) (Crv.fi X, Crv.fi Z) (Crv.fi Y, Crv.fi T))
   rw [fq_dbl h2, fq_dif h2 h4]
  | true =>
   show (fq (difN u Y T X Z), fq (dblN Y T)) = (Crv.dif (Crv.fi u) (Crv.fi Y, Crv.fi T) (Crv.fi X, Crv.fi Z), Crv.dbl Crv.a24 (Crv.fi Y, Crv.fi T))
   rw [fq_dbl h4, fq_dif h4 h2]
theorem fi_inv (v : Nat) : Crv.fi (invN v 255) = Crv.inF (Crv.fi v) := by rw [invN_val, expN_all, Crv.fi_mod, Crv.inF_fi]
theorem mlt_field {u : Nat} (hu : u < P25) (l : List UInt8) : Crv.fi (mltN l u) = Crv.mulF Crv.inF Crv.a24 (Crv.fi u) (bitsTo l 255) := by
 have h := fq_lad hu l 255
 rw [mltN, fi_ml, fi_inv, Crv.mulF, ← h]
 rfl
theorem mltN_lt (l : List UInt8) (u : Nat) : mltN l u < P25 := mlN_lt _ _
theorem byteK_set0 (l : List UInt8) (x : UInt8) (h : l.length = 32) : byteK ((l.set 0 x).set 31 (byteK l 31 % 64 + 64)) 0 = x := by
 unfold byteK
 simp [List.getD, h]
theorem clamp_bit0 {l : List UInt8} (h : l.length = 32) : bitK (clampL l) 0 = false := by
 have e : byteK (clampL l) 0 = byteK l 0 / 8 * 8 := by
  rw [clampL]
  exact byteK_set0 l _ h
 rw [bitK, show 0 / 8 = 0 from rfl, e, u8_div8]
 simp
 omega
theorem clamp_even {l : List UInt8} (h : l.length = 32) : ∃ i, Crv.numB (bitsTo (clampL l) 255) = 2 * i := by
 refine ⟨Crv.numB (bitsTo (clampL l) 254), ?_⟩
 rw [bitsTo_succ, show 254 - 254 = 0 from rfl, clamp_bit0 h, Crv.numB, List.foldl_append]
 rfl
theorem mlt_turns {u : Nat} (hu : u < P25) {k l : List UInt8} (hk : k.length = 32) (hl : l.length = 32) : mltN (clampL k) (mltN (clampL l) u) = mltN (clampL l) (mltN (clampL k) u) := by
 obtain ⟨i, hi⟩ := clamp_even hk
 obtain ⟨j, hj⟩ := clamp_even hl
 have h : Crv.fi (mltN (clampL k) (mltN (clampL l) u)) = Crv.fi (mltN (clampL l) (mltN (clampL k) u)) := by
  rw [mlt_field (mltN_lt _ _), mlt_field (mltN_lt _ _), mlt_field hu, mlt_field hu]
  exact Crv.turns25 (Crv.fi u) hj hi
 rw [Crv.fi_eq, Nat.mod_eq_of_lt (mltN_lt _ _), Nat.mod_eq_of_lt (mltN_lt _ _)] at h
 exact h
def pntN (l : List UInt8) : Nat := keyV l % 57896044618658097711785492504343953926634992332820282019728792003956564819968 % P25
def mltK (k l : List UInt8) : List UInt8 := keyB (mltN (clampL k) (pntN l))
theorem pntN_lt (l : List UInt8) : pntN l < P25 := P25_lt _
theorem P25_le : P25 < 57896044618658097711785492504343953926634992332820282019728792003956564819968 := by decide +kernel
theorem P25_le2 : P25 < 256 ^ 32 := by decide +kernel
theorem pnt_key {v : Nat} (h : v < P25) : pntN (keyB v) = v := by
 rw [pntN, keyV_keyB (Nat.lt_trans h P25_le2), Nat.mod_eq_of_lt (Nat.lt_trans h P25_le), Nat.mod_eq_of_lt h]
theorem mltK_len (k l : List UInt8) : (mltK k l).length = 32 := keyB_len _
theorem mltK_turns {a b u : List UInt8} (ha : a.length = 32) (hb : b.length = 32) : mltK a (mltK b u) = mltK b (mltK a u) := by
 rw [mltK, mltK, mltK, mltK, pnt_key (mltN_lt _ _), pnt_key (mltN_lt _ _), mlt_turns (pntN_lt u) ha hb]
def nineL : List UInt8 := 9 :: List.replicate 31 0
theorem nine_lit : keyC nineL = #[.int .u8 9, .int .u8 0, .int .u8 0, .int .u8 0, .int .u8 0, .int .u8 0, .int .u8 0, .int .u8 0, .int .u8 0, .int .u8 0, .int .u8 0, .int .u8 0, .int .u8 0, .int .u8 0, .int .u8 0, .int .u8 0, .int .u8 0, .int .u8 0, .int .u8 0, .int .u8 0, .int .u8 0, .int .u8 0, .int .u8 0, .int .u8 0, .int .u8 0, .int .u8 0, .int .u8 0, .int .u8 0, .int .u8 0, .int .u8 0, .int .u8 0, .int .u8 0] := by kernel_rfl
end Go.Proofs.YtbiijdboolpaeaaDoor
