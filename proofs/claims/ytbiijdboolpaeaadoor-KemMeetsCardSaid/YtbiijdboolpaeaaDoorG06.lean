import Derived.Test.YtbiijdboolpaeaaDoorG05
import Derived.Lib.SmallJoins
set_option linter.unusedVariables false
namespace Go.Proofs.YtbiijdboolpaeaaDoor
open Go.RowKit
def zeroKey : List UInt8 := List.replicate 32 0
theorem one_key : ((zeroKey.map bv).toArray).all (·.oneCell') = true := one_bvA _
theorem sumU_len (l : List UInt8) : (sumU l).length = 32 := by rw [sumU, bytesU_len, blocksTo_len rfl]
def padK (key : List UInt8) : List UInt8 := if key.length ≤ 64 then key ++ List.replicate (64 - key.length) 0 else sumU key ++ List.replicate 32 0
theorem padK_len (key : List UInt8) : (padK key).length = 64 := by
 unfold padK
 split
 ·
  simp; omega
 ·
  simp [sumU_len]
def xorK (key : List UInt8) (by_ : UInt8) : List UInt8 := (padK key).map (· ^^^ by_)
theorem xorK_len (key : List UInt8) (x : UInt8) : (xorK key x).length = 64 := by simp [xorK, padK_len]
def innerU (key l : List UInt8) : List UInt8 := sumU (xorK key 54 ++ l)
def macU (key l : List UInt8) : List UInt8 := sumU (xorK key 92 ++ innerU key l)
theorem macU_len (key l : List UInt8) : (macU key l).length = 32 := sumU_len _
theorem innerU_len (key l : List UInt8) : (innerU key l).length = 32 := sumU_len _
def stepU (k info : List UInt8) : Nat → List UInt8
 | 0 => []
 | i + 1 => macU k (stepU k info i ++ info ++ [UInt8.ofNat (i + 1)])
theorem stepU_succ (k info : List UInt8) (i : Nat) : stepU k info (i + 1) = macU k (stepU k info i ++ info ++ [UInt8.ofNat (i + 1)]) := rfl
theorem stepU_len (k info : List UInt8) (i : Nat) : (stepU k info (i + 1)).length = 32 := macU_len _ _
theorem stepU_le (k info : List UInt8) : ∀ i, (stepU k info i).length ≤ 32
 | 0 => by simp [stepU]
 | i + 1 => Nat.le_of_eq (stepU_len k info i)
def outU (k info : List UInt8) : Nat → List UInt8
 | 0 => []
 | j + 1 => outU k info j ++ stepU k info (j + 1)
theorem outU_succ (k info : List UInt8) (j : Nat) : outU k info (j + 1) = outU k info j ++ stepU k info (j + 1) := rfl
theorem outU_len (k info : List UInt8) : ∀ j, (outU k info j).length = 32 * j
 | 0 => rfl
 | j + 1 => by rw [outU, List.length_append, outU_len k info j, stepU_len]; omega
theorem outU_take (k info : List UInt8) (n i : Nat) : ∀ d, n ≤ 32 * i → (outU k info (i + d)).take n = (outU k info i).take n
 | 0, _ => rfl
 | d + 1, h => by
  rw [← Nat.add_assoc, outU, List.take_append_of_le_length (by rw [outU_len]; omega)]
  exact outU_take k info n i d h
def expandU (k info : List UInt8) (n : Nat) : List UInt8 := (outU k info ((n + 31) / 32)).take n
theorem expandU_len (k info : List UInt8) (n : Nat) : (expandU k info n).length = n := by
 unfold expandU
 rw [List.length_take, outU_len]; omega
theorem expandU_of (k info : List UInt8) (n j : Nat) (h1 : n ≤ 32 * j) : (outU k info j).take n = expandU k info n := by
 unfold expandU
 have := outU_take k info n ((n + 31) / 32) (j - (n + 31) / 32) (by omega)
 rw [show (n + 31) / 32 + (j - (n + 31) / 32) = j from by omega] at this
 exact this
def nameU : List UInt8 := [99, 111, 116, 101, 114, 105, 101]
theorem name_len : nameU.length = 7 := rfl
def infoU (label : List UInt8) (ts : List (List UInt8)) : List UInt8 := txs (nameU :: label :: ts)
def fitD (label : List UInt8) (ts : List (List UInt8)) : Prop := GoodT (nameU :: label :: ts) ∧ (infoU label ts).length ≤ 1048576
def deriveU (k label : List UInt8) (ts : List (List UInt8)) : List UInt8 := expandU k (infoU label ts) 32
theorem deriveU_len (k label : List UInt8) (ts : List (List UInt8)) : (deriveU k label ts).length = 32 := expandU_len _ _ _
end Go.Proofs.YtbiijdboolpaeaaDoor
