/-
  WHAT CLAMPING, AND A POINT's HIGHEST BIT, CHANGE OF A PRODUCT: nothing (numbers alone).
-/
import Derived.Test.YtimgnpcojamafaaRefCrvC
set_option linter.unusedVariables false
namespace Go.Proofs.Ytimgnpcojamafaa
open Go.RowKit

def lowC (k : List UInt8) : List UInt8 := k.set 31 (byteK k 31 % 128)
theorem lowC_len {k : List UInt8} (h : k.length = 32) : (lowC k).length = 32 := by rw [lowC, List.length_set, h]
theorem lowC_val {k : List UInt8} (h : k.length = 32) : keyV (lowC k) = keyV k % 57896044618658097711785492504343953926634992332820282019728792003956564819968 := by
  have e : lowC k = k.take 31 ++ [byteK k 31 % 128] := by
    rw [lowC, List.set_eq_take_append_cons_drop, if_pos (by omega), show k.drop (31 + 1) = [] from List.drop_of_length_le (by omega)]
  have e2 : k = k.take 31 ++ [byteK k 31] := by
    have h3 := List.take_append_getElem (show 31 < k.length by omega)
    have h32 : k.take 32 = k := List.take_of_length_le (by omega)
    rw [show 31 + 1 = 32 from rfl, h32] at h3
    have h4 : k[31] = byteK k 31 := by
      have := byteK_at (l := k) (k := 31) (by omega)
      rw [List.getElem?_eq_getElem (by omega)] at this
      exact Option.some.inj this
    rw [h4] at h3
    exact h3.symm
  have h1 := keyV_lt (k.take 31)
  have hl : (k.take 31).length = 31 := by rw [List.length_take]; omega
  have h5 : (byteK k 31 % 128).toNat = (byteK k 31).toNat % 128 := by rw [UInt8.toNat_mod]; rfl
  rw [hl] at h1
  rw [e, keyV_append, hl]
  conv => rhs; rw [e2]
  rw [keyV_append, hl]
  simp only [keyV, Nat.mul_zero, Nat.add_zero, h5]
  rw [show (256 : Nat) ^ 31 = 452312848583266388373324160190187140051835877600158453279131187530910662656 from rfl] at *
  have h6 : (byteK k 31).toNat < 256 := (byteK k 31).toBitVec.isLt
  generalize keyV (k.take 31) = M at *
  omega

theorem byteK_31 (l : List UInt8) (x y : UInt8) (h : l.length = 32) : byteK ((l.set 0 x).set 31 y) 31 = y := by
  unfold byteK
  simp [List.getD, h]
theorem u8_div8_twice (x : UInt8) : x / 8 * 8 / 8 * 8 = x / 8 * 8 := by
  apply UInt8.toNat_inj.1
  rw [u8_div8, u8_div8]
  omega
theorem u8_mod64_twice (x : UInt8) : (x % 64 + 64) % 64 + 64 = x % 64 + 64 := by
  apply UInt8.toNat_inj.1
  rw [u8_mod64, u8_mod64]
  omega
theorem clamp_twice {k : List UInt8} (h : k.length = 32) : clampL (clampL k) = clampL k := by
  have e0 : byteK (clampL k) 0 = byteK k 0 / 8 * 8 := byteK_set0 k _ h
  have e1 : byteK (clampL k) 31 = byteK k 31 % 64 + 64 := byteK_31 k _ _ h
  rw [clampL, e0, e1, u8_div8_twice, u8_mod64_twice]
  have h1 : (clampL k).set 0 (byteK k 0 / 8 * 8) = clampL k := by
    rw [clampL]
    apply List.ext_getElem?
    intro i
    rw [List.getElem?_set]
    by_cases hi : 0 = i
    · subst hi
      simp [h]
    · rw [if_neg hi]
  rw [h1]
  apply List.ext_getElem?
  intro i
  rw [List.getElem?_set]
  by_cases hi : 31 = i
  · subst hi
    simp [clampL, h]
  · rw [if_neg hi]
theorem mltK_clamp {k : List UInt8} (h : k.length = 32) (u : List UInt8) : mltK (clampL k) u = mltK k u := by rw [mltK, clamp_twice h, mltK]
theorem clamp_low {k : List UInt8} (h : k.length = 32) : (byteK (clampL k) 0).toNat % 8 = 0 := by
  rw [show byteK (clampL k) 0 = byteK k 0 / 8 * 8 from byteK_set0 k _ h, u8_div8]
  omega
theorem clamp_high {k : List UInt8} (h : k.length = 32) : (byteK (clampL k) 31).toNat / 64 = 1 := by
  rw [show byteK (clampL k) 31 = byteK k 31 % 64 + 64 from byteK_31 k _ _ h, u8_mod64]
  omega
theorem xor_top (x : UInt8) : (x ^^^ 128) % 128 = x % 128 := by
  have h : ∀ n, n < 256 → (n ^^^ 128) % 128 = n % 128 := by decide +kernel
  apply UInt8.toNat_inj.1
  rw [UInt8.toNat_mod, UInt8.toNat_mod, UInt8.toNat_xor]
  exact h x.toNat x.toBitVec.isLt
/-- a point with its highest bit turned -/
def topL (u : List UInt8) : List UInt8 := u.set 31 (byteK u 31 ^^^ 128)
theorem topL_len {u : List UInt8} (h : u.length = 32) : (topL u).length = 32 := by rw [topL, List.length_set, h]
theorem low_top {u : List UInt8} (h : u.length = 32) : lowC (topL u) = lowC u := by
  have e : byteK (topL u) 31 = byteK u 31 ^^^ 128 := by
    unfold byteK topL
    simp [List.getD, h, byteK]
  rw [lowC, e, xor_top, topL, List.set_set, lowC]
theorem pnt_top {u : List UInt8} (h : u.length = 32) : pntN (topL u) = pntN u := by rw [pntN, ← lowC_val (topL_len h), low_top h, lowC_val h, pntN]
theorem mltK_top {u : List UInt8} (h : u.length = 32) (k : List UInt8) : mltK k (topL u) = mltK k u := by rw [mltK, pnt_top h, mltK]
/-- a point told once more -/
def onceL (u : List UInt8) : List UInt8 := keyB (valF (ofU u) % P25)
theorem once_pnt (u : List UInt8) : onceL u = keyB (pntN u) := by rw [onceL, ofU_val, pntN]
theorem mltK_once (k u : List UInt8) : mltK k (onceL u) = mltK k u := by rw [mltK, once_pnt, pnt_key (pntN_lt u), mltK]
theorem once_mlt (k u : List UInt8) : onceL (mltK k u) = mltK k u := by rw [once_pnt, mltK, pnt_key (mltN_lt _ _)]

end Go.Proofs.Ytimgnpcojamafaa
