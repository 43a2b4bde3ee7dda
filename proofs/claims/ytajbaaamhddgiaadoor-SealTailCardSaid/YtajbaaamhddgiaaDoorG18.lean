import Derived.Test.YtajbaaamhddgiaaDoorG08
/-
  AES-128 AS FUNCTIONS ON BYTES: twice, products, boxes, rows, columns, keys, blocks; and what the walk writes of bytes. Nothing of the program.
-/
set_option linter.unusedVariables false
namespace Go.Proofs.YtajbaaamhddgiaaDoor
open Go.RowKit

def twU (x : UInt8) : UInt8 := x <<< 1 ^^^ (x >>> 7) * 27

theorem b_shl (x : UInt8) (k : Nat) (hk : k < 8) : (x.toNat : Int) * 2 ^ k % 256 = ((x <<< UInt8.ofNat k).toNat : Int) := by
  rw [UInt8.toNat_shiftLeft, UInt8.toNat_ofNat', Nat.mod_eq_of_lt (show k < 2 ^ 8 by omega), Nat.mod_eq_of_lt hk, Nat.shiftLeft_eq, Int.natCast_emod, Int.natCast_mul, Int.natCast_pow]
  rfl
theorem b_shr (x : UInt8) (k : Nat) (hk : k < 8) : (x.toNat : Int) / 2 ^ k = ((x >>> UInt8.ofNat k).toNat : Int) := by
  rw [UInt8.toNat_shiftRight, UInt8.toNat_ofNat', Nat.mod_eq_of_lt (show k < 2 ^ 8 by omega), Nat.mod_eq_of_lt hk, Nat.shiftRight_eq_div_pow, Int.natCast_ediv, Int.natCast_pow]
  rfl
theorem b_mul (x y : UInt8) : (x.toNat : Int) * (y.toNat : Int) % 256 = ((x * y).toNat : Int) := by
  rw [UInt8.toNat_mul]
  omega
theorem b_and (a b : UInt8) : bits .and .u8 (a.toNat : Int) (b.toNat : Int) = ((a &&& b).toNat : Int) := by
  rw [u8_and_nat _ _ (b_lt a) (b_lt b), UInt8.toNat_and]
theorem b_orr (a b : UInt8) : bits .or .u8 (a.toNat : Int) (b.toNat : Int) = ((a ||| b).toNat : Int) := by
  rw [u8_or_nat _ _ (b_lt a) (b_lt b), UInt8.toNat_or]

/-- bytes multiplied, bit by bit of the second one -/
def tmU : Nat → UInt8 → UInt8 → UInt8 → UInt8
  | 0, p, _, _ => p
  | n + 1, p, a, b => tmU n (p ^^^ a * (b &&& 1)) (twU a) (b >>> 1)
def timesU (a b : UInt8) : UInt8 := tmU 8 0 a b

theorem tmU_zero : ∀ n p a, tmU n p a 0 = p
  | 0, _, _ => rfl
  | n + 1, p, a => by
    rw [tmU, show (0 : UInt8) &&& 1 = 0 from rfl, show (0 : UInt8) >>> 1 = 0 from rfl, UInt8.mul_zero, UInt8.xor_zero]
    exact tmU_zero n p _

def rotU (x : UInt8) (k : Nat) : UInt8 := x <<< UInt8.ofNat k ||| x >>> UInt8.ofNat (8 - k)
def spTo (x : UInt8) : Nat → UInt8
  | 0 => x ^^^ 99
  | n + 1 => spTo x n ^^^ rotU x (n + 1)
def spU (x : UInt8) : UInt8 := spTo x 4

/-- powers of 3, and of its inverse -/
def pwU : Nat → UInt8
  | 0 => 1
  | n + 1 => timesU (pwU n) 3
def ivU : Nat → UInt8
  | 0 => 1
  | n + 1 => timesU (ivU n) 246
def tabTo : Nat → List UInt8
  | 0 => List.replicate 256 0
  | n + 1 => (tabTo n).set (pwU (n + 1)).toNat (spU (ivU (n + 1)))
/-- each byte's box -/
def boxT : List UInt8 := (tabTo 255).set 0 (spU 0)

theorem tabTo_len : ∀ n, (tabTo n).length = 256
  | 0 => List.length_replicate
  | n + 1 => by rw [tabTo, List.length_set, tabTo_len n]
theorem boxT_len : boxT.length = 256 := by rw [boxT, List.length_set, tabTo_len]

def boxU (x : UInt8) : UInt8 := boxT.getD x.toNat 0
theorem boxU_at (x : UInt8) : boxT[x.toNat]? = some (boxU x) := by
  have h : x.toNat < boxT.length := by rw [boxT_len]; exact b_lt x
  rw [boxU, List.getD_eq_getElem?_getD, List.getElem?_eq_getElem h]
  rfl

/-- the first j of n places by f, the others by z -/
def upto (f z : Nat → UInt8) (n j : Nat) : List UInt8 := (List.range n).map fun i => if i < j then f i else z i
theorem upto_len (f z : Nat → UInt8) (n j : Nat) : (upto f z n j).length = n := by simp [upto]
theorem upto_at (f z : Nat → UInt8) {n j i : Nat} (hi : i < n) : (upto f z n j)[i]? = some (if i < j then f i else z i) := by simp [upto, hi]
theorem upto_old (f z : Nat → UInt8) {n j i : Nat} (hi : i < n) (hj : j ≤ i) : (upto f z n j)[i]? = some (z i) := by rw [upto_at f z hi, if_neg (by omega)]
theorem upto_done (f z : Nat → UInt8) {n j i : Nat} (hi : i < n) (hj : i < j) : (upto f z n j)[i]? = some (f i) := by rw [upto_at f z hi, if_pos hj]
theorem upto_succ (f z : Nat → UInt8) (n j : Nat) : upto f z n (j + 1) = (upto f z n j).set j (f j) := by
  apply List.ext_getElem (by simp [upto])
  intro i h1 h2
  rw [List.getElem_set]
  simp only [upto, List.getElem_map, List.getElem_range]
  by_cases h : j = i
  · subst h; simp
  · rw [if_neg h]
    by_cases h3 : i < j
    · rw [if_pos (by omega), if_pos h3]
    · rw [if_neg (by omega), if_neg h3]
theorem upto_all (f z : Nat → UInt8) (n : Nat) : upto f z n n = (List.range n).map f := by
  apply List.ext_getElem (by simp [upto])
  intro i h1 h2
  simp only [upto, List.getElem_map, List.getElem_range]
  rw [if_pos (by simpa [upto] using h1)]
theorem upto_zero (f z : Nat → UInt8) (n : Nat) : upto f z n 0 = (List.range n).map z := by
  simp [upto]

/-- a list's place (0 outside) -/
def at0 (l : List UInt8) (i : Nat) : UInt8 := l.getD i 0
theorem at0_of {l : List UInt8} {i : Nat} (h : i < l.length) : l[i]? = some (at0 l i) := by
  rw [at0, List.getD_eq_getElem?_getD, List.getElem?_eq_getElem h]
  rfl
theorem map_at0 {l : List UInt8} {n : Nat} (h : l.length = n) : (List.range n).map (at0 l) = l := by
  apply List.ext_getElem (by simp [h])
  intro i h1 h2
  simp only [List.getElem_map, List.getElem_range]
  have := at0_of h2
  rw [List.getElem?_eq_getElem h2] at this
  exact (Option.some.inj this).symm
theorem at0_map (f : Nat → UInt8) {n i : Nat} (h : i < n) : at0 ((List.range n).map f) i = f i := by
  simp [at0, List.getD_eq_getElem?_getD, h]

def addF (b k : List UInt8) (i : Nat) : UInt8 := at0 b i ^^^ at0 k i
def addU (b k : List UInt8) : List UInt8 := (List.range 16).map (addF b k)
def boxF (b : List UInt8) (i : Nat) : UInt8 := boxU (at0 b i)
def boxL (b : List UInt8) : List UInt8 := (List.range 16).map (boxF b)
def turnF (b : List UInt8) (i : Nat) : UInt8 := at0 b (i % 4 + 4 * ((i / 4 + i % 4) % 4))
def turnU (b : List UInt8) : List UInt8 := (List.range 16).map (turnF b)
def mixF (b : List UInt8) (i : Nat) : UInt8 :=
  twU (at0 b i) ^^^ twU (at0 b (4 * (i / 4) + (i % 4 + 1) % 4)) ^^^ at0 b (4 * (i / 4) + (i % 4 + 1) % 4) ^^^ at0 b (4 * (i / 4) + (i % 4 + 2) % 4) ^^^ at0 b (4 * (i / 4) + (i % 4 + 3) % 4)
def mixU (b : List UInt8) : List UInt8 := (List.range 16).map (mixF b)

theorem mixF_at (b : List UInt8) {c r : Nat} (hc : c < 4) (hr : r < 4) :
    mixF b (4 * c + r) = twU (at0 b (4 * c + r)) ^^^ twU (at0 b (4 * c + (r + 1) % 4)) ^^^ at0 b (4 * c + (r + 1) % 4) ^^^ at0 b (4 * c + (r + 2) % 4) ^^^ at0 b (4 * c + (r + 3) % 4) := by
  unfold mixF
  rw [show (4 * c + r) / 4 = c by omega, show (4 * c + r) % 4 = r by omega]

/-- the word ahead of column c of the next key, at row r -/
def wordK (was : List UInt8) (mark : UInt8) : Nat → Nat → UInt8
  | 0, r => boxU (at0 was (12 + (r + 1) % 4)) ^^^ (if r = 0 then mark else 0)
  | c + 1, r => wordK was mark c r ^^^ at0 was (r + 4 * c)
def nextF (was : List UInt8) (mark : UInt8) (i : Nat) : UInt8 := wordK was mark (i / 4 + 1) (i % 4)
def nextU (was : List UInt8) (mark : UInt8) : List UInt8 := (List.range 16).map (nextF was mark)

/-- the j-th key, its mark -/
def markU : Nat → UInt8
  | 0 => 1
  | n + 1 => twU (markU n)
def keyU (k : List UInt8) : Nat → List UInt8
  | 0 => k
  | n + 1 => nextU (keyU k n) (markU n)
def keysU (k : List UInt8) : List UInt8 := ((List.range 11).map (keyU k)).flatten

/-- a block behind i rounds -/
def encTo (k b : List UInt8) : Nat → List UInt8
  | 0 => addU b k
  | n + 1 => addU (mixU (turnU (boxL (encTo k b n)))) (keyU k (n + 1))
def encU (k b : List UInt8) : List UInt8 := addU (turnU (boxL (encTo k b 9))) (keyU k 10)

theorem range16_len (f : Nat → UInt8) : ((List.range 16).map f).length = 16 := by simp
theorem addU_len (b k : List UInt8) : (addU b k).length = 16 := range16_len _
theorem boxL_len (b : List UInt8) : (boxL b).length = 16 := range16_len _
theorem turnU_len (b : List UInt8) : (turnU b).length = 16 := range16_len _
theorem mixU_len (b : List UInt8) : (mixU b).length = 16 := range16_len _
theorem nextU_len (b : List UInt8) (m : UInt8) : (nextU b m).length = 16 := range16_len _
theorem keyU_len {k : List UInt8} (h : k.length = 16) : ∀ n, (keyU k n).length = 16
  | 0 => h
  | n + 1 => nextU_len _ _
theorem encTo_len (k b : List UInt8) : ∀ n, (encTo k b n).length = 16
  | 0 => addU_len _ _
  | n + 1 => addU_len _ _
theorem encU_len (k b : List UInt8) : (encU k b).length = 16 := addU_len _ _

end Go.Proofs.YtajbaaamhddgiaaDoor

/-
  CONTRACTS of the program's twice, times, spread (package aes), and of bits.RotateLeft8 as it is called there.
-/
set_option linter.unusedVariables false
namespace Go.Proofs.YtajbaaamhddgiaaDoor
open Go.RowKit

theorem ret_u8 {a b : Int} (h : a = b) : Ending.returned (.int .u8 a) = .returned (.int .u8 b) := by rw [h]

theorem tw_val (x : UInt8) : bits .xor .u8 ((x.toNat : Int) * 2 % 256) ((x.toNat : Int) / 128 * 27) = ((twU x).toNat : Int) := by
  have hx := b_lt x
  have e : (x.toNat : Int) / 128 * 27 = (x.toNat : Int) / 128 * 27 % 256 := by omega
  rw [e, show ((x.toNat : Int) * 2 % 256) = (x.toNat : Int) * 2 ^ 1 % 256 from rfl, b_shl x 1 (by omega), show ((x.toNat : Int) / 128) = (x.toNat : Int) / 2 ^ 7 from rfl, b_shr x 7 (by omega),
    show (27 : Int) = (((27 : UInt8).toNat : Nat) : Int) from rfl, b_mul, b_xor]
  rfl

theorem twice_any (x : UInt8) (w : World) :
    Calls Tryd.prog 55 #[.int .u8 (x.toNat : Int)] w fun e w' => e = .returned (.int .u8 ((twU x).toNat : Int)) ∧ w = w' := by
  have hx := b_lt x
  go_enter Tryd.func55, Tryd.ntmps55
  go_wp2_with fail
  go_ret
  exact ⟨ret_u8 (tw_val x), rfl⟩

theorem times_any (a b : UInt8) (w : World) :
    Calls Tryd.prog 85 #[.int .u8 (a.toNat : Int), .int .u8 (b.toNat : Int)] w fun e w' => e = .returned (.int .u8 ((timesU a b).toNat : Int)) ∧ w = w' := by
  go_enter Tryd.func85, Tryd.ntmps85
  go_wp2_with fail
  go_loopw [0, 1, 5] (fun sa sb sp wr => ∃ (n : Nat) (p a1 b1 : UInt8), sa = .int .u8 (a1.toNat : Int) ∧ sb = .int .u8 (b1.toNat : Int) ∧ sp = .int .u8 (p.toNat : Int) ∧ b1.toNat < 2 ^ n ∧ Hid (tmU n p a1 b1 = timesU a b) ∧ w = wr) (fun _ sb _ _ => (intOf sb).toNat)
  case atStart => exact ⟨8, 0, a, b, rfl, rfl, rfl, b_lt b, rfl, rfl⟩
  case round =>
    obtain ⟨n, p, a1, b1, rfl, rfl, rfl, hn, Ht, rfl⟩ := hrel
    have h1 := b_lt a1
    have h2 := b_lt b1
    by_cases hlt : b1.toNat = 0
    · obtain rfl : b1 = 0 := UInt8.toNat_inj.1 hlt
      have Hp := Lib.hid (show p = timesU a b by rw [← Ht.out, tmU_zero])
      rw [show (((0 : UInt8).toNat : Nat) : Int) = 0 from rfl]
      go_wp2_with fail
      rw [Hp.out]
      go_ret
      exact ⟨rfl, rfl⟩
    · have hb : ¬ (b1.toNat : Int) = 0 := by omega
      obtain ⟨m, rfl⟩ : ∃ m, n = m + 1 := ⟨n - 1, by
        rcases n with _ | n
        · simp at hn; omega
        · rfl⟩
      have Hs := Lib.hid (show tmU m (p ^^^ a1 * (b1 &&& 1)) (twU a1) (b1 >>> 1) = timesU a b by rw [← Ht.out, tmU])
      have E1 := Lib.hid (show bits .and .u8 (b1.toNat : Int) 1 = ((b1 &&& 1).toNat : Int) from b_and b1 1)
      have E4 := Lib.hid (show (b1.toNat : Int) / (2 : Int) = ((b1 >>> 1).toNat : Int) by
        have := b_shr b1 1 (by omega)
        rwa [show (2 : Int) ^ 1 = 2 from rfl] at this)
      have e5 : (b1 >>> 1).toNat = b1.toNat / 2 := by rw [UInt8.toNat_shiftRight]; exact Nat.shiftRight_eq_div_pow _ _
      go_wp2_with (go_at_call 55; refine (twice_any a1 _).mono ?_; rintro e w' ⟨rfl, rfl⟩)
      refine ⟨⟨m, p ^^^ a1 * (b1 &&& 1), twU a1, b1 >>> 1, rfl, by rw [E4.out], ?_, ?_, Hs, trivial⟩, ?_⟩
      · rw [E1.out, b_mul, b_xor]
      · rw [e5]
        rw [Nat.pow_succ] at hn
        omega
      · simp [intOf]; omega

theorem or_rot (x : UInt8) (k : Nat) (h1 : 1 ≤ k) (h2 : k ≤ 7) :
    bits .or .u8 ((x.toNat : Int) * 2 ^ k % 256) ((x.toNat : Int) / 2 ^ (8 - k)) = ((rotU x k).toNat : Int) := by
  rw [b_shl x k (by omega), b_shr x (8 - k) (by omega), b_orr]
  rfl

theorem rot8_any (x : UInt8) (d : Int) (w : World) (h : d = 1 ∨ d = 2 ∨ d = 3 ∨ d = 4) :
    Calls Tryd.prog 86 #[.int .u8 (x.toNat : Int), .int .i64 d] w fun e w' => e = .returned (.int .u8 ((rotU x d.toNat).toNat : Int)) ∧ w = w' := by
  have hx := b_lt x
  go_enter Tryd.func86, Tryd.ntmps86
  have a1 : bits .and .u64 1 7 = 1 := by decide
  have a2 : bits .and .u64 2 7 = 2 := by decide
  have a3 : bits .and .u64 3 7 = 3 := by decide
  have a4 : bits .and .u64 4 7 = 4 := by decide
  rcases h with rfl | rfl | rfl | rfl
  · go_wp2_with fail
    go_ret
    exact ⟨ret_u8 (or_rot x 1 (by omega) (by omega)), rfl⟩
  · go_wp2_with fail
    go_ret
    exact ⟨ret_u8 (or_rot x 2 (by omega) (by omega)), rfl⟩
  · go_wp2_with fail
    go_ret
    exact ⟨ret_u8 (or_rot x 3 (by omega) (by omega)), rfl⟩
  · go_wp2_with fail
    go_ret
    exact ⟨ret_u8 (or_rot x 4 (by omega) (by omega)), rfl⟩

theorem spreadA_any (x : UInt8) (w : World) :
    Calls Tryd.prog 75 #[.int .u8 (x.toNat : Int)] w fun e w' => e = .returned (.int .u8 ((spU x).toNat : Int)) ∧ w = w' := by
  have hx := b_lt x
  go_enter Tryd.func75, Tryd.ntmps75
  go_wp2_with fail
  go_loopw [3, 7] (fun o i wr => ∃ n : Nat, n ≤ 4 ∧ i = .int .i64 (n : Int) ∧ o = .int .u8 ((spTo x n).toNat : Int) ∧ w = wr) (fun _ i _ => (4 - intOf i).toNat)
  case atStart => exact ⟨0, by omega, rfl, by rw [spTo, ← b_xor]; rfl, rfl⟩
  case round =>
    obtain ⟨n, hn, rfl, rfl, rfl⟩ := hrel
    by_cases hlt : n < 4
    · have hs : spTo x (n + 1) = spTo x n ^^^ rotU x (n + 1) := rfl
      have Hs := Lib.hid hs
      clear hs
      generalize spTo x n = y at *
      have hy := b_lt y
      have e2 : ((n : Int) + 1).toNat = n + 1 := by omega
      go_wp2_with (go_at_call 86; refine (rot8_any x _ _ (by omega)).mono ?_; rintro e w' ⟨rfl, rfl⟩)
      refine ⟨⟨n + 1, by omega, by go_num, ?_, trivial⟩, by simp [intOf]; omega⟩
      rw [Hs.out, ← b_xor]
    · obtain rfl : n = 4 := by omega
      rw [show ((4 : Nat) : Int) = 4 from rfl]
      go_wp2_with fail
      go_ret
      exact ⟨rfl, rfl⟩

end Go.Proofs.YtajbaaamhddgiaaDoor

