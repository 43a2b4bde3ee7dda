import Derived.Test.YtgjeamapgdakcaaDoorG16
import Derived.Lib.SmallJoins
/-
  THE WALK of the laws' live (coterielaw02): the chapter's two examples.
-/
set_option linter.unusedVariables false
namespace Go.Proofs.YtgjeamapgdakcaaDoor
open Go.RowKit

theorem sum_nothing : (sumU []).take 4 = [0xe3, 0xb0, 0xc4, 0x42] := by decide +kernel
theorem sum_abc : (sumU [97, 98, 99]).take 4 = [0xba, 0x78, 0x16, 0xbf] := by decide +kernel
theorem sumU_len (l : List UInt8) : (sumU l).length = 32 := by rw [sumU, bytesU_len, blocksTo_len rfl]

theorem take4 {l : List UInt8} {a b c d : UInt8} (h : l.take 4 = [a, b, c, d]) : l[0]? = some a ∧ l[1]? = some b ∧ l[2]? = some c ∧ l[3]? = some d := by
  have h0 : ∀ i, i < 4 → l[i]? = [a, b, c, d][i]? := fun i hi => by rw [← h, List.getElem?_take_of_lt hi]
  exact ⟨h0 0 (by omega), h0 1 (by omega), h0 2 (by omega), h0 3 (by omega)⟩

theorem al22 (w : World) (o o' : Obj) : w.heap.size + 1 + 1 ≤ ((w.alloc o).alloc o').heap.size := by simp
end Go.Proofs.YtgjeamapgdakcaaDoor

/-
  HMAC AND HKDF as Lean functions of lists of bytes, over sumU (SHA-256); what layer 3's laws ask of them.
-/
set_option linter.unusedVariables false
namespace Go.Proofs.YtgjeamapgdakcaaDoor
open Go.RowKit

/-- a key of 64 bytes: zeros behind it, or its sum with zeros behind -/
def padK (key : List UInt8) : List UInt8 := if key.length ≤ 64 then key ++ List.replicate (64 - key.length) 0 else sumU key ++ List.replicate 32 0
theorem padK_len (key : List UInt8) : (padK key).length = 64 := by
  unfold padK
  split
  · simp; omega
  · simp [sumU_len]
def xorK (key : List UInt8) (by_ : UInt8) : List UInt8 := (padK key).map (· ^^^ by_)
theorem xorK_len (key : List UInt8) (x : UInt8) : (xorK key x).length = 64 := by simp [xorK, padK_len]
def innerU (key l : List UInt8) : List UInt8 := sumU (xorK key 54 ++ l)
def macU (key l : List UInt8) : List UInt8 := sumU (xorK key 92 ++ innerU key l)
theorem macU_len (key l : List UInt8) : (macU key l).length = 32 := sumU_len _
theorem innerU_len (key l : List UInt8) : (innerU key l).length = 32 := sumU_len _

theorem padK_zeros (key : List UInt8) (z : Nat) (h : key.length + z ≤ 64) : padK (key ++ List.replicate z 0) = padK key := by
  unfold padK
  rw [if_pos (by simp; omega), if_pos (by omega), List.append_assoc, List.replicate_append_replicate]
  congr 2
  simp; omega
theorem macU_zeros (key l : List UInt8) (z : Nat) (h : key.length + z ≤ 64) : macU (key ++ List.replicate z 0) l = macU key l := by
  unfold macU innerU xorK
  rw [padK_zeros key z h]
theorem padK_sum (key : List UInt8) (h : 64 < key.length) : padK (sumU key) = padK key := by
  unfold padK
  rw [if_pos (by rw [sumU_len]; omega), if_neg (by omega), sumU_len]
theorem macU_sum (key l : List UInt8) (h : 64 < key.length) : macU (sumU key) l = macU key l := by
  unfold macU innerU xorK
  rw [padK_sum key h]

/-- T(i) of a key by info; T(0) is nothing -/
def stepU (k info : List UInt8) : Nat → List UInt8
  | 0 => []
  | i + 1 => macU k (stepU k info i ++ info ++ [UInt8.ofNat (i + 1)])
theorem stepU_succ (k info : List UInt8) (i : Nat) : stepU k info (i + 1) = macU k (stepU k info i ++ info ++ [UInt8.ofNat (i + 1)]) := rfl
theorem stepU_len (k info : List UInt8) (i : Nat) : (stepU k info (i + 1)).length = 32 := macU_len _ _
theorem stepU_le (k info : List UInt8) : ∀ i, (stepU k info i).length ≤ 32
  | 0 => by simp [stepU]
  | i + 1 => Nat.le_of_eq (stepU_len k info i)
/-- T(1), .., T(j), one behind the other -/
def outU (k info : List UInt8) : Nat → List UInt8
  | 0 => []
  | j + 1 => outU k info j ++ stepU k info (j + 1)
theorem outU_succ (k info : List UInt8) (j : Nat) : outU k info (j + 1) = outU k info j ++ stepU k info (j + 1) := rfl
theorem outU_len (k info : List UInt8) : ∀ j, (outU k info j).length = 32 * j
  | 0 => rfl
  | j + 1 => by rw [outU, List.length_append, outU_len k info j, stepU_len]; omega
theorem outU_take (k info : List UInt8) (n i : Nat) : ∀ d, n ≤ 32 * i → (outU k info (i + d)).take n = (outU k info i).take n
  | 0, _ => rfl
  | d + 1, h => by
    rw [← Nat.add_assoc, outU, List.take_append_of_le_length (by rw [outU_len]; omega)]
    exact outU_take k info n i d h
/-- n bytes of a key by info -/
def expandU (k info : List UInt8) (n : Nat) : List UInt8 := (outU k info ((n + 31) / 32)).take n
theorem expandU_len (k info : List UInt8) (n : Nat) : (expandU k info n).length = n := by
  unfold expandU
  rw [List.length_take, outU_len]; omega
theorem expandU_of (k info : List UInt8) (n j : Nat) (h1 : n ≤ 32 * j) : (outU k info j).take n = expandU k info n := by
  unfold expandU
  have := outU_take k info n ((n + 31) / 32) (j - (n + 31) / 32) (by omega)
  rw [show (n + 31) / 32 + (j - (n + 31) / 32) = j from by omega] at this
  exact this
theorem expandU_take (k info : List UInt8) (n m : Nat) (h : n ≤ m) : (expandU k info m).take n = expandU k info n := by
  have h2 := expandU_of k info n ((m + 31) / 32) (by omega)
  rw [← h2]
  unfold expandU
  rw [List.take_take, Nat.min_eq_left h]

/-- 'coterie' -/
def nameU : List UInt8 := [99, 111, 116, 101, 114, 105, 101]
theorem name_len : nameU.length = 7 := rfl
def infoU (label : List UInt8) (ts : List (List UInt8)) : List UInt8 := txs (nameU :: label :: ts)
/-- may a key be derived by these -/
def fitD (label : List UInt8) (ts : List (List UInt8)) : Prop := GoodT (nameU :: label :: ts) ∧ (infoU label ts).length ≤ 1048576
def deriveU (k label : List UInt8) (ts : List (List UInt8)) : List UInt8 := expandU k (infoU label ts) 32
theorem deriveU_len (k label : List UInt8) (ts : List (List UInt8)) : (deriveU k label ts).length = 32 := expandU_len _ _ _

theorem mac_live : (macU [107, 101, 121] ([84, 104, 101, 32, 113, 117, 105, 99, 107, 32, 98, 114, 111, 119, 110, 32, 102, 111, 120, 32] ++ [106, 117, 109, 112, 115, 32, 111, 118, 101, 114, 32, 116, 104, 101, 32, 108, 97, 122, 121, 32, 100, 111, 103])).take 4 = [0xf7, 0xbc, 0x83, 0xf4] := by decide +kernel

end Go.Proofs.YtgjeamapgdakcaaDoor

/-
  Drawing secrets as functions: what is drawn of a source, and another source of it (layer 9).
-/
set_option linter.unusedVariables false
namespace Go.Proofs.YtgjeamapgdakcaaDoor
open Go.RowKit

/-- 'draw', and 'fork' -/
def drawL : List UInt8 := [100, 114, 97, 119]
def forkL : List UInt8 := [102, 111, 114, 107]
/-- what a source's seed is made of texts -/
def newK (ts : List (List UInt8)) : List UInt8 := sumU (txs ts)
/-- the secret that is drawn where N were -/
def drawU (s : List UInt8) (N : Nat) : List UInt8 := deriveU s drawL [be 8 N]
/-- another source's seed -/
def forkU (s l : List UInt8) (N : Nat) : List UInt8 := deriveU s forkL [be 8 N, l]
theorem drawU_len (s : List UInt8) (N : Nat) : (drawU s N).length = 32 := deriveU_len _ _ _
theorem forkU_len (s l : List UInt8) (N : Nat) : (forkU s l N).length = 32 := deriveU_len _ _ _
/-- n secrets, one behind the other -/
def keysU (s : List UInt8) : Nat → Nat → List UInt8
  | _, 0 => []
  | N, n + 1 => drawU s N ++ keysU s (N + 1) n
theorem keysU_len (s : List UInt8) : ∀ n N, (keysU s N n).length = n * 32
  | 0, _ => by simp [keysU]
  | n + 1, N => by rw [keysU, List.length_append, drawU_len, keysU_len s n]; omega
theorem keysU_add (s : List UInt8) (k : Nat) : ∀ i N, keysU s N (i + k) = keysU s N i ++ keysU s (N + i) k
  | 0, N => by simp [keysU]
  | i + 1, N => by rw [show i + 1 + k = (i + k) + 1 by omega, keysU, keysU, keysU_add s k i, List.append_assoc, show N + 1 + i = N + (i + 1) by omega]
theorem keysU_succ (s : List UInt8) (N n : Nat) : keysU s N (n + 1) = keysU s N n ++ drawU s (N + n) := by
  rw [keysU_add]
  simp [keysU]
theorem fit_draw (N : Nat) : fitD drawL [be 8 N] := by
  refine ⟨fun i t h => ?_, ?_⟩
  · match i, h with
    | 0, h => simp at h; subst h; simp [nameU]
    | 1, h => simp at h; subst h; simp [drawL]
    | 2, h => simp at h; subst h; simp [be_length]
  · simp [infoU, txs, be_length, nameU, drawL]
theorem fit_fork (l : List UInt8) (N : Nat) : fitD forkL [be 8 N, l] ↔ l.length ≤ 65535 := by
  refine ⟨fun h => h.1 3 l rfl, fun hl => ⟨fun i t h => ?_, ?_⟩⟩
  · match i, h with
    | 0, h => simp at h; subst h; simp [nameU]
    | 1, h => simp at h; subst h; simp [forkL]
    | 2, h => simp at h; subst h; simp [be_length]
    | 3, h => simp at h; subst h; exact hl
  · simp [infoU, txs, be_length, nameU, forkL]
    omega

/-- a source as a value -/
def drC (s : List UInt8) (N : Nat) : Array Value := (s.map bv ++ [Value.int .u64 (N : Int)]).toArray
def zeroD : List UInt8 := List.replicate 32 0
theorem drC_size {s : List UInt8} (N : Nat) (h : s.length = 32) : (drC s N).size = 33 := by simp [drC, h]
/-- why no more is drawn -/
def errN (N : Nat) : Int := if 4294967296 < N then 1 else if N = 4294967296 then 8 else 0
def errM (N : Nat) (n : Int) : Int := if 4294967296 < N ∨ n < 0 ∨ 1000 < n then 1 else if (4294967296 : Int) < N + n then 8 else 0
def errF (N : Nat) (l : List UInt8) : Int := if 4294967296 < N then 1 else if 65535 < l.length then 4 else 0
def chkV (N : Nat) : Int := if 4294967296 < N then 1 else 0
def newV (ts : List (List UInt8)) (e : Value) : Prop :=
  (GoodT ts ∧ e = .tuple #[.agg (drC (newK ts) 0), .int .i64 0]) ∨ (¬ GoodT ts ∧ e = .tuple #[.agg (drC zeroD 0), .int .i64 4])
def nextV (s : List UInt8) (N : Nat) : Value := if errN N = 0 then .tuple #[.agg ((drawU s N).map bv).toArray, .agg (drC s (N + 1)), .int .i64 0] else .tuple #[.agg (zeroD.map bv).toArray, .agg (drC zeroD 0), .int .i64 (errN N)]
def forkV (s : List UInt8) (N : Nat) (l : List UInt8) : Value := if errF N l = 0 then .tuple #[.agg (drC (forkU s l N) 0), .int .i64 0] else .tuple #[.agg (drC zeroD 0), .int .i64 (errF N l)]

theorem draw_live : drawU (newK [[97]]) 0 ≠ zeroD := by decide +kernel

end Go.Proofs.YtgjeamapgdakcaaDoor

