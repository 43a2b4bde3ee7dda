import Derived.Test.YtbiijdboolpaeaaDoorG04
import Derived.StillTailTactics
import Derived.Laws.Cover3
set_option linter.unusedVariables false
namespace Go.Proofs.YtbiijdboolpaeaaDoor
open Go.RowKit
def twU (x : UInt8) : UInt8 := x <<< 1 ^^^ (x >>> 7) * 27
theorem b_shl (x : UInt8) (k : Nat) (hk : k < 8) : (x.toNat : Int) * 2 ^ k % 256 = ((x <<< UInt8.ofNat k).toNat : Int) := by
 rw [UInt8.toNat_shiftLeft, UInt8.toNat_ofNat', Nat.mod_eq_of_lt (show k < 2 ^ 8 by omega), Nat.mod_eq_of_lt hk, Nat.shiftLeft_eq, Int.natCast_emod, Int.natCast_mul, Int.natCast_pow]
 rfl
theorem b_shr (x : UInt8) (k : Nat) (hk : k < 8) : (x.toNat : Int) / 2 ^ k = ((x >>> UInt8.ofNat k).toNat : Int) := by
 rw [UInt8.toNat_shiftRight, UInt8.toNat_ofNat', Nat.mod_eq_of_lt (show k < 2 ^ 8 by omega), Nat.mod_eq_of_lt hk, Nat.shiftRight_eq_div_pow, Int.natCast_ediv, Int.natCast_pow]
 rfl
theorem b_mul (x y : UInt8) : (x.toNat : Int) * (y.toNat : Int) % 256 = ((x * y).toNat : Int) := by
 rw [UInt8.toNat_mul]
 omega
theorem b_and (a b : UInt8) : bits .and .u8 (a.toNat : Int) (b.toNat : Int) = ((a &&& b).toNat : Int) := by
 rw [u8_and_nat _ _ (b_lt a) (b_lt b), UInt8.toNat_and]
theorem b_orr (a b : UInt8) : bits .or .u8 (a.toNat : Int) (b.toNat : Int) = ((a ||| b).toNat : Int) := by
 rw [u8_or_nat _ _ (b_lt a) (b_lt b), UInt8.toNat_or]
def tmU : Nat → UInt8 → UInt8 → UInt8 → UInt8
 | 0, p, _, _ => p
 | n + 1, p, a, b => tmU n (p ^^^ a * (b &&& 1)) (twU a) (b >>> 1)
def timesU (a b : UInt8) : UInt8 := tmU 8 0 a b
theorem tmU_zero : ∀ n p a, tmU n p a 0 = p
 | 0, _, _ => rfl
 | n + 1, p, a => by
  rw [tmU, show (0 : UInt8) &&& 1 = 0 from rfl, show (0 : UInt8) >>> 1 = 0 from rfl, UInt8.mul_zero, UInt8.xor_zero]
  exact tmU_zero n p _
def rotU (x : UInt8) (k : Nat) : UInt8 := x <<< UInt8.ofNat k ||| x >>> UInt8.ofNat (8 - k)
def spTo (x : UInt8) : Nat → UInt8
 | 0 => x ^^^ 99
 | n + 1 => spTo x n ^^^ rotU x (n + 1)
def spU (x : UInt8) : UInt8 := spTo x 4
def pwU : Nat → UInt8
 | 0 => 1
 | n + 1 => timesU (pwU n) 3
def ivU : Nat → UInt8
 | 0 => 1
 | n + 1 => timesU (ivU n) 246
def tabTo : Nat → List UInt8
 | 0 => List.replicate 256 0
 | n + 1 => (tabTo n).set (pwU (n + 1)).toNat (spU (ivU (n + 1)))
def boxT : List UInt8 := (tabTo 255).set 0 (spU 0)
theorem tabTo_len : ∀ n, (tabTo n).length = 256
 | 0 => List.length_replicate
 | n + 1 => by rw [tabTo, List.length_set, tabTo_len n]
theorem boxT_len : boxT.length = 256 := by rw [boxT, List.length_set, tabTo_len]
def boxU (x : UInt8) : UInt8 := boxT.getD x.toNat 0
theorem boxU_at (x : UInt8) : boxT[x.toNat]? = some (boxU x) := by
 have h : x.toNat < boxT.length := by rw [boxT_len]; exact b_lt x
 rw [boxU, List.getD_eq_getElem?_getD, List.getElem?_eq_getElem h]
 rfl
def upto (f z : Nat → UInt8) (n j : Nat) : List UInt8 := (List.range n).map fun i => if i < j then f i else z i
theorem upto_at (f z : Nat → UInt8) {n j i : Nat} (hi : i < n) : (upto f z n j)[i]? = some (if i < j then f i else z i) := by simp [upto, hi]
theorem upto_old (f z : Nat → UInt8) {n j i : Nat} (hi : i < n) (hj : j ≤ i) : (upto f z n j)[i]? = some (z i) := by rw [upto_at f z hi, if_neg (by omega)]
theorem upto_done (f z : Nat → UInt8) {n j i : Nat} (hi : i < n) (hj : i < j) : (upto f z n j)[i]? = some (f i) := by rw [upto_at f z hi, if_pos hj]
theorem upto_succ (f z : Nat → UInt8) (n j : Nat) : upto f z n (j + 1) = (upto f z n j).set j (f j) := by
 apply List.ext_getElem (by simp [upto])
 intro i h1 h2
 rw [List.getElem_set]
 simp only [upto, List.getElem_map, List.getElem_range]
 by_cases h : j = i
 ·
  subst h; simp
 ·
  rw [if_neg h]
  by_cases h3 : i < j
  ·
   rw [if_pos (by omega), if_pos h3]
  ·
   rw [if_neg (by omega), if_neg h3]
theorem upto_all (f z : Nat → UInt8) (n : Nat) : upto f z n n = (List.range n).map f := by
 apply List.ext_getElem (by simp [upto])
 intro i h1 h2
 simp only [upto, List.getElem_map, List.getElem_range]
 rw [if_pos (by simpa [upto] using h1)]
theorem upto_zero (f z : Nat → UInt8) (n : Nat) : upto f z n 0 = (List.range n).map z := by
 simp [upto]
def at0 (l : List UInt8) (i : Nat) : UInt8 := l.getD i 0
theorem at0_of {l : List UInt8} {i : Nat} (h : i < l.length) : l[i]? = some (at0 l i) := by
 rw [at0, List.getD_eq_getElem?_getD, List.getElem?_eq_getElem h]
 rfl
theorem map_at0 {l : List UInt8} {n : Nat} (h : l.length = n) : (List.range n).map (at0 l) = l := by
 apply List.ext_getElem (by simp [h])
 intro i h1 h2
 simp only [List.getElem_map, List.getElem_range]
 have := at0_of h2
 rw [List.getElem?_eq_getElem h2] at this
 exact (Option.some.inj this).symm
def addF (b k : List UInt8) (i : Nat) : UInt8 := at0 b i ^^^ at0 k i
def addU (b k : List UInt8) : List UInt8 := (List.range 16).map (addF b k)
def boxF (b : List UInt8) (i : Nat) : UInt8 := boxU (at0 b i)
def boxL (b : List UInt8) : List UInt8 := (List.range 16).map (boxF b)
def turnF (b : List UInt8) (i : Nat) : UInt8 := at0 b (i % 4 + 4 * ((i / 4 + i % 4) % 4))
def turnU (b : List UInt8) : List UInt8 := (List.range 16).map (turnF b)
def mixF (b : List UInt8) (i : Nat) : UInt8 :=
 twU (at0 b i) ^^^ twU (at0 b (4 * (i / 4) + (i % 4 + 1) % 4)) ^^^ at0 b (4 * (i / 4) + (i % 4 + 1) % 4) ^^^ at0 b (4 * (i / 4) + (i % 4 + 2) % 4) ^^^ at0 b (4 * (i / 4) + (i % 4 + 3) % 4)
def mixU (b : List UInt8) : List UInt8 := (List.range 16).map (mixF b)
theorem mixF_at (b : List UInt8) {c r : Nat} (hc : c < 4) (hr : r < 4) :
  mixF b (4 * c + r) = twU (at0 b (4 * c + r)) ^^^ twU (at0 b (4 * c + (r + 1) % 4)) ^^^ at0 b (4 * c + (r + 1) % 4) ^^^ at0 b (4 * c + (r + 2) % 4) ^^^ at0 b (4 * c + (r + 3) % 4) := by
 unfold mixF
 rw [show (4 * c + r) / 4 = c by omega, show (4 * c + r) % 4 = r by omega]
def wordK (was : List UInt8) (mark : UInt8) : Nat → Nat → UInt8
 | 0, r => boxU (at0 was (12 + (r + 1) % 4)) ^^^ (if r = 0 then mark else 0)
 | c + 1, r => wordK was mark c r ^^^ at0 was (r + 4 * c)
def nextF (was : List UInt8) (mark : UInt8) (i : Nat) : UInt8 := wordK was mark (i / 4 + 1) (i % 4)
def nextU (was : List UInt8) (mark : UInt8) : List UInt8 := (List.range 16).map (nextF was mark)
def markU : Nat → UInt8
 | 0 => 1
 | n + 1 => twU (markU n)
def keyU (k : List UInt8) : Nat → List UInt8
 | 0 => k
 | n + 1 => nextU (keyU k n) (markU n)
def keysU (k : List UInt8) : List UInt8 := ((List.range 11).map (keyU k)).flatten
def encTo (k b : List UInt8) : Nat → List UInt8
 | 0 => addU b k
 | n + 1 => addU (mixU (turnU (boxL (encTo k b n)))) (keyU k (n + 1))
def encU (k b : List UInt8) : List UInt8 := addU (turnU (boxL (encTo k b 9))) (keyU k 10)
theorem range16_len (f : Nat → UInt8) : ((List.range 16).map f).length = 16 := by simp
theorem addU_len (b k : List UInt8) : (addU b k).length = 16 := range16_len _
theorem boxL_len (b : List UInt8) : (boxL b).length = 16 := range16_len _
theorem turnU_len (b : List UInt8) : (turnU b).length = 16 := range16_len _
theorem mixU_len (b : List UInt8) : (mixU b).length = 16 := range16_len _
theorem nextU_len (b : List UInt8) (m : UInt8) : (nextU b m).length = 16 := range16_len _
theorem keyU_len {k : List UInt8} (h : k.length = 16) : ∀ n, (keyU k n).length = 16
 | 0 => h
 | n + 1 => nextU_len _ _
theorem encTo_len (k b : List UInt8) : ∀ n, (encTo k b n).length = 16
 | 0 => addU_len _ _
 | n + 1 => addU_len _ _
theorem encU_len (k b : List UInt8) : (encU k b).length = 16 := addU_len _ _
theorem ret_u8 {a b : Int} (h : a = b) : Ending.returned (.int .u8 a) = .returned (.int .u8 b) := by rw [h]
theorem tw_val (x : UInt8) : bits .xor .u8 ((x.toNat : Int) * 2 % 256) ((x.toNat : Int) / 128 * 27) = ((twU x).toNat : Int) := by
 have hx := b_lt x
 have e : (x.toNat : Int) / 128 * 27 = (x.toNat : Int) / 128 * 27 % 256 := by omega
 rw [e, show ((x.toNat : Int) * 2 % 256) = (x.toNat : Int) * 2 ^ 1 % 256 from rfl, b_shl x 1 (by omega), show ((x.toNat : Int) / 128) = (x.toNat : Int) / 2 ^ 7 from rfl, b_shr x 7 (by omega),
  show (27 : Int) = (((27 : UInt8).toNat : Nat) : Int) from rfl, b_mul, b_xor]
 rfl
theorem twice_any (x : UInt8) (w : World) :
  Calls Tryd.prog 76 #[.int .u8 (x.toNat : Int)] w fun e w' => e = .returned (.int .u8 ((twU x).toNat : Int)) ∧ w = w' := by
 have hx := b_lt x
 go_enter Tryd.func76, Tryd.ntmps76
 go_wp2_with fail
 go_ret
 exact ⟨ret_u8 (tw_val x), rfl⟩
theorem times_any (a b : UInt8) (w : World) :
  Calls Tryd.prog 98 #[.int .u8 (a.toNat : Int), .int .u8 (b.toNat : Int)] w fun e w' => e = .returned (.int .u8 ((timesU a b).toNat : Int)) ∧ w = w' := by
 go_enter Tryd.func98, Tryd.ntmps98
 go_wp2_with fail
 go_loopw [0, 1, 5] (fun sa sb sp wr => ∃ (n : Nat) (p a1 b1 : UInt8), sa = .int .u8 (a1.toNat : Int) ∧ sb = .int .u8 (b1.toNat : Int) ∧ sp = .int .u8 (p.toNat : Int) ∧ b1.toNat < 2 ^ n ∧ Hid (tmU n p a1 b1 = timesU a b) ∧ w = wr) (fun _ sb _ _ => (intOf sb).toNat)
 case atStart => exact ⟨8, 0, a, b, rfl, rfl, rfl, b_lt b, rfl, rfl⟩
 case round =>
  obtain ⟨n, p, a1, b1, rfl, rfl, rfl, hn, Ht, rfl⟩ := hrel
  have h1 := b_lt a1
  have h2 := b_lt b1
  by_cases hlt : b1.toNat = 0
  ·
   obtain rfl : b1 = 0 := UInt8.toNat_inj.1 hlt
   have Hp := Lib.hid (show p = timesU a b by rw [← Ht.out, tmU_zero])
   rw [show (((0 : UInt8).toNat : Nat) : Int) = 0 from rfl]
   go_wp2_with fail
   rw [Hp.out]
   go_ret
   exact ⟨rfl, rfl⟩
  ·
   have hb : ¬ (b1.toNat : Int) = 0 := by omega
   obtain ⟨m, rfl⟩ : ∃ m, n = m + 1 := ⟨n - 1, by
    rcases n with _ | n
    ·
     simp at hn; omega
    ·
     rfl⟩
   have Hs := Lib.hid (show tmU m (p ^^^ a1 * (b1 &&& 1)) (twU a1) (b1 >>> 1) = timesU a b by rw [← Ht.out, tmU])
   have E1 := Lib.hid (show bits .and .u8 (b1.toNat : Int) 1 = ((b1 &&& 1).toNat : Int) from b_and b1 1)
   have E4 := Lib.hid (show (b1.toNat : Int) / (2 : Int) = ((b1 >>> 1).toNat : Int) by
    have := b_shr b1 1 (by omega)
    rwa [show (2 : Int) ^ 1 = 2 from rfl] at this)
   have e5 : (b1 >>> 1).toNat = b1.toNat / 2 := by rw [UInt8.toNat_shiftRight]; exact Nat.shiftRight_eq_div_pow _ _
   go_wp2_with (go_at_call 76; refine (twice_any a1 _).mono ?_; rintro e w' ⟨rfl, rfl⟩)
   refine ⟨⟨m, p ^^^ a1 * (b1 &&& 1), twU a1, b1 >>> 1, rfl, by rw [E4.out], ?_, ?_, Hs, trivial⟩, ?_⟩
   ·
    rw [E1.out, b_mul, b_xor]
   ·
    rw [e5]
    rw [Nat.pow_succ] at hn
    omega
   ·
    simp [intOf]; omega
theorem or_rot (x : UInt8) (k : Nat) (h1 : 1 ≤ k) (h2 : k ≤ 7) :
  bits .or .u8 ((x.toNat : Int) * 2 ^ k % 256) ((x.toNat : Int) / 2 ^ (8 - k)) = ((rotU x k).toNat : Int) := by
 rw [b_shl x k (by omega), b_shr x (8 - k) (by omega), b_orr]
 rfl
theorem rot8_any (x : UInt8) (d : Int) (w : World) (h : d = 1 ∨ d = 2 ∨ d = 3 ∨ d = 4) :
  Calls Tryd.prog 99 #[.int .u8 (x.toNat : Int), .int .i64 d] w fun e w' => e = .returned (.int .u8 ((rotU x d.toNat).toNat : Int)) ∧ w = w' := by
 have hx := b_lt x
 go_enter Tryd.func99, Tryd.ntmps99
 have a1 : bits .and .u64 1 7 = 1 := by decide
 have a2 : bits .and .u64 2 7 = 2 := by decide
 have a3 : bits .and .u64 3 7 = 3 := by decide
 have a4 : bits .and .u64 4 7 = 4 := by decide
 rcases h with rfl | rfl | rfl | rfl
 ·
  go_wp2_with fail
  go_ret
  exact ⟨ret_u8 (or_rot x 1 (by omega) (by omega)), rfl⟩
 ·
  go_wp2_with fail
  go_ret
  exact ⟨ret_u8 (or_rot x 2 (by omega) (by omega)), rfl⟩
 ·
  go_wp2_with fail
  go_ret
  exact ⟨ret_u8 (or_rot x 3 (by omega) (by omega)), rfl⟩
 ·
  go_wp2_with fail
  go_ret
  exact ⟨ret_u8 (or_rot x 4 (by omega) (by omega)), rfl⟩
theorem spreadA_any (x : UInt8) (w : World) :
  Calls Tryd.prog 91 #[.int .u8 (x.toNat : Int)] w fun e w' => e = .returned (.int .u8 ((spU x).toNat : Int)) ∧ w = w' := by
 have hx := b_lt x
 go_enter Tryd.func91, Tryd.ntmps91
 go_wp2_with fail
 go_loopw [3, 7] (fun o i wr => ∃ n : Nat, n ≤ 4 ∧ i = .int .i64 (n : Int) ∧ o = .int .u8 ((spTo x n).toNat : Int) ∧ w = wr) (fun _ i _ => (4 - intOf i).toNat)
 case atStart => exact ⟨0, by omega, rfl, by rw [spTo, ← b_xor]; rfl, rfl⟩
 case round =>
  obtain ⟨n, hn, rfl, rfl, rfl⟩ := hrel
  by_cases hlt : n < 4
  ·
   have hs : spTo x (n + 1) = spTo x n ^^^ rotU x (n + 1) := rfl
   have Hs := Lib.hid hs
   clear hs
   generalize spTo x n = y at *
   have hy := b_lt y
   have e2 : ((n : Int) + 1).toNat = n + 1 := by omega
   go_wp2_with (go_at_call 99; refine (rot8_any x _ _ (by omega)).mono ?_; rintro e w' ⟨rfl, rfl⟩)
   refine ⟨⟨n + 1, by omega, by go_num, ?_, trivial⟩, by simp [intOf]; omega⟩
   rw [Hs.out, ← b_xor]
  ·
   obtain rfl : n = 4 := by omega
   rw [show ((4 : Nat) : Int) = 4 from rfl]
   go_wp2_with fail
   go_ret
   exact ⟨rfl, rfl⟩
def Cell8 (w : World) (g : Nat) (x : UInt8) : Prop := ArrB w g 5 [x]
theorem Cell8.cell {w : World} {g : Nat} {x : UInt8} (h : Cell8 w g x) : w.cell? ⟨g, 0, none⟩ = some (.int .u8 (x.toNat : Int)) := ArrB.cell h rfl
theorem still_flip8 {v : Value} {w : World} (e : Ending) (w' : World) (h : e = .returned v ∧ w = w') : e = .returned v ∧ w' = w := ⟨h.1, h.2.symm⟩
theorem times_k (a : UInt8) (d : Int) (w : World) (h : 0 ≤ d ∧ d < 256) :
  Calls Tryd.prog 98 #[.int .u8 (a.toNat : Int), .int .u8 d] w fun e w' => e = .returned (.int .u8 ((timesU a (UInt8.ofNat d.toNat)).toNat : Int)) ∧ w' = w := by
 have e : d = ((UInt8.ofNat d.toNat).toNat : Int) := by
  rw [UInt8.toNat_ofNat']
  omega
 have k := times_any a (UInt8.ofNat d.toNat) w
 rw [← e] at k
 exact k.mono fun _ _ ⟨h1, h2⟩ => ⟨h1, h2.symm⟩
set_option maxRecDepth 100000 in
set_option maxHeartbeats 400000 in
theorem inv1_any (g1 g2 : Nat) (x y : UInt8) (w : World) (hne : g1 ≠ g2) (h1 : Cell8 w g1 x) (h2 : Cell8 w g2 y) :
  Calls Tryd.prog 97 #[.pointer (some ⟨g1, 0, none⟩), .pointer (some ⟨g2, 0, none⟩)] w fun e w' =>
   e = .returned (.tuple #[.int .u8 ((timesU x 3).toNat : Int), .int .u8 ((timesU y 246).toNat : Int)]) ∧ Cell8 w' g1 (timesU x 3) ∧ Cell8 w' g2 (timesU y 246) ∧ ∀ B, B ≤ g1 → B ≤ g2 → Below B w w' := by
 have c1 := h1.cell
 have c2 := h2.cell
 have f1 := ArrB.frozen h1 0
 have f2 := ArrB.frozen h2 0
 go_enter Tryd.func97, Tryd.ntmps97
 go_wp2_with fail
 refine wp_region_still_tail 4 (by kernel_rfl) (by kernel_rfl) ?_
 simp only [List.take_succ_cons, List.take_zero, List.drop_succ_cons, List.drop_zero]
 repeat (first | (refine wpStill_step (fun K hK => ?_); go_simp; refine ⟨_, (times_k _ _ _ (by omega)), hK _ ?_⟩; clear hK K) | still_step)
 refine wpStill_nil ?_
 change wpList _ _ _ _ _ w.drew
 go_wp2_with fail
 go_quiet (fail)
 go_wp2_with fail
 go_ret2
 refine ⟨rfl, ?_, ?_, fun B hB1 hB2 => ?_⟩
 ·
  exact ((ArrB.set_ h1 0 (timesU x 3)).far (by simpa using hne) _)
 ·
  exact (ArrB.set_ (h2.far (by simpa using hne.symm) _) 0 (timesU y 246))
 ·
  exact (((Below.refl B w).setCell (p := ⟨g1, 0, none⟩) hB1 _).setCell (p := ⟨g2, 0, none⟩) hB2 _ : Below B w _).trans ⟨rfl, rfl, rfl, Nat.le_refl _, fun _ _ => rfl⟩
theorem inverses_any (w : World) :
  Calls Tryd.prog 90 #[] w fun e w' =>
   e = .returned (.func (.func 97) #[] #[.pointer (some ⟨w.heap.size, 0, none⟩), .pointer (some ⟨w.heap.size + 1, 0, none⟩)]) ∧
    Cell8 w' w.heap.size 1 ∧ Cell8 w' (w.heap.size + 1) 1 ∧ w'.heap.size = w.heap.size + 2 ∧ Below w.heap.size w w' := by
 go_enter Tryd.func90, Tryd.ntmps90
 go_wp2_with fail
 go_ret
 exact ⟨rfl, (ArrB.mk_ w _ _ [1] rfl rfl).alloc _, ArrB.mk_ _ _ _ [1] (by simp) rfl, by simp, ((Below.refl _ _).alloc (Nat.le_refl _) _).alloc (al0 _ _) _⟩
def cz (n : Nat) : Array Value := Array.replicate n (.int .u8 0)
theorem cz_size (n : Nat) : (cz n).size = n := by simp [cz]
theorem cz_list (n : Nat) : ((List.replicate n (0 : UInt8)).map bv).toArray = cz n := by rw [List.map_replicate, List.toArray_replicate]; rfl
theorem cz_ne : ∀ n, ¬ cz (n + 1) = #[] := fun n h => by have := congrArg Array.size h; simp [cz] at this
theorem run_zero_of {P : Program} {t : TypeId} {i : TypeInfo} {z : Value} (hi : P.info? t = some i) (hz : i.zero = some z) (w : World) : (zeroValue t).run P w = .ok z w := by simp [zeroValue, typeInfo, hi, hz]
theorem info256 : (Tryd.prog.info? 111).map (fun i => (i.zero, i.size, i.bytes)) = some (some (.agg (cz 256)), 256, 256) := by kernel_rfl
theorem zero256 (w : World) : (zeroValue 111).run Tryd.prog w = .ok (.agg (cz 256)) w := by
 obtain ⟨i0, hi0, hz0, hz1, hz2⟩ := info_parts info256
 exact run_zero_of hi0 hz0 w
theorem size256 : (Tryd.prog.info? 111).map (·.size) = some 256 := by kernel_rfl
set_option maxRecDepth 1000000 in
set_option maxHeartbeats 1000000 in
theorem boxes_any (w : World) :
  Calls Tryd.prog 74 #[] w fun e w' => e = .returned (.agg (boxT.map bv).toArray) ∧ Below w.heap.size w w' := by
 have hz := zero256
 have hc := cz_ne 255
 have Hrep := Lib.hid (cz_list 256)
 generalize cz 256 = zs at *
 go_enter Tryd.func74, Tryd.ntmps74
 go_wp2_with fail
 refine (inverses_any _).mono ?_
 rintro e w2 ⟨rfl, i1, i2, hs2, hb2⟩
 have ha0 : ArrB w2 w.heap.size 111 (tabTo 0) := ((ArrB.mk_ w _ _ (tabTo 0) rfl Hrep.out).alloc _).below hb2 (by simp; omega)
 have ha1 : ArrB w2 (w.heap.size + 1) 111 (tabTo 0) := (ArrB.mk_ _ _ _ (tabTo 0) (by simp) Hrep.out).below hb2 (by simp)
 have hB2 : Below w.heap.size w w2 := (((Below.refl _ _).alloc (Nat.le_refl _) _).alloc (al0 _ _) _).trans (hb2.mono (by simp; omega))
 simp only [World.size_alloc] at i1 i2 hs2
 clear hz hc Hrep hb2
 go_wp2_with fail
 go_loopw [6] (fun i wr => ∃ n : Nat, n ≤ 255 ∧ i = .int .i64 (n : Int) ∧ ArrB wr w.heap.size 111 (tabTo 0) ∧ ArrB wr (w.heap.size + 1) 111 (tabTo n) ∧ Cell8 wr (w.heap.size + 1 + 1) (pwU n) ∧ Cell8 wr (w.heap.size + 1 + 1 + 1) (ivU n) ∧ Below w.heap.size w wr) (fun i _ => (255 - intOf i).toNat)
 case atStart => exact ⟨0, by omega, rfl, ha0, ha1, i1, i2, hB2⟩
 case round =>
  obtain ⟨n, hn, rfl, ha0, ha1, i1, i2, hB⟩ := hrel
  by_cases hlt : n < 255
  ·
   go_wp2_with fail
   refine (inv1_any _ _ _ _ _ (by omega) i1 i2).mono ?_
   rintro e w3 ⟨rfl, i1', i2', hb3⟩
   have hb3' := hb3 (w.heap.size + 1 + 1) (Nat.le_refl _) (by omega)
   have ha0' := ha0.below hb3' (by omega)
   have ha1' := ha1.below hb3' (by omega)
   have hB3 := hB.trans (hb3 w.heap.size (by omega) (by omega))
   rw [show timesU (pwU n) 3 = pwU (n + 1) from rfl] at *
   rw [show timesU (ivU n) 246 = ivU (n + 1) from rfl] at *
   have Hst := Lib.hid (show tabTo (n + 1) = (tabTo n).set (pwU (n + 1)).toNat (spU (ivU (n + 1))) from rfl)
   obtain ⟨y, hy⟩ : ∃ y, (tabTo n)[(pwU (n + 1)).toNat]? = some y := ⟨_, List.getElem?_eq_getElem (by rw [tabTo_len]; exact b_lt _)⟩
   have cy := ha1'.cell hy
   have fy := ha1'.frozen (pwU (n + 1)).toNat
   have hs := ha1'.set_ (pwU (n + 1)).toNat (spU (ivU (n + 1)))
   rw [← Hst.out] at hs
   have hi := i1'
   have hj := i2'
   generalize hp0 : pwU (n + 1) = p at *
   generalize hq0 : ivU (n + 1) = q at *
   have Hp := Lib.hid hp0
   have Hq := Lib.hid hq0
   clear hp0 hq0
   have hp := b_lt p
   clear hy i1 i2 ha0 ha1 hb3 hb3'
   go_wp2_with fail
   refine (spreadA_any q _).mono ?_
   rintro e w4 ⟨rfl, rfl⟩
   go_wp2_with fail
   refine ⟨⟨n + 1, by omega, by go_num, ha0'.far (by simp) _, hs, by rw [Hp.out]; exact ArrB.far hi (by simp; try omega) _, by rw [Hq.out]; exact ArrB.far hj (by simp; try omega) _, hB3.setCell (by simp) _⟩, by simp [intOf]; omega⟩
  ·
   obtain rfl : n = 255 := by omega
   rw [show ((255 : Nat) : Int) = 255 from rfl]
   obtain ⟨y, hy⟩ : ∃ y, (tabTo 255)[0]? = some y := ⟨_, List.getElem?_eq_getElem (by rw [tabTo_len]; omega)⟩
   have cy := ha1.cell hy
   have fy := ha1.frozen 0
   have h0 := ha1.set_ 0 (spU 0)
   have Hb := Lib.hid (show (tabTo 255).set 0 (spU 0) = boxT from rfl)
   rw [Hb.out] at h0
   rw [show (((spU 0).toNat : Nat) : Int) = 99 by kernel_rfl] at h0
   have hsp := spreadA_any 0 wr
   rw [show (((spU 0).toNat : Nat) : Int) = 99 by kernel_rfl, show (((0 : UInt8).toNat : Nat) : Int) = 0 from rfl] at hsp
   have Hl := Lib.hid (show (boxT.map bv).toArray.size = 256 by simp [boxT_len])
   have Hlz := Lib.hid (show ((tabTo 0).map bv).toArray.size = (boxT.map bv).toArray.size by simp [boxT_len, tabTo_len])
   have Hi := Lib.hid (show (Tryd.prog.info? 111).map (·.size) = some (boxT.map bv).toArray.size by rw [size256, Hl.out])
   have Ho := Lib.hid (one_bvA boxT)
   clear hy ha1 i1 i2
   generalize htb : boxT = tb at *
   have Htb := Lib.hid htb
   clear htb
   generalize tabTo 0 = t0 at *
   go_wp2_with fail
   refine hsp.mono ?_
   rintro e w4 ⟨rfl, rfl⟩
   go_wp2_with (first
    | ((with_reducible refine tdQ 20 ?_); refine wpList_load_row rfl 111 (.tmp 1) rfl (w.heap.size + 1) rfl 111 (tb.map bv).toArray (0, 0) _ h0 Tryd.underlying111 rfl Hi.out ?_)
    | ((with_reducible refine tsQ 111 ?_); refine wpList_store_row rfl 111 (.tmp 0) (.tmp 20) rfl w.heap.size (tb.map bv).toArray rfl rfl 111 _ (ha0.far (by simp) _) Hi.out Hlz.out Ho.out ?_))
   exact bodyPost_ret (results_cell_row rfl _ _ w.heap.size 111 _ (0, 0) _ rfl ((ha0.far (by simp) _).row tb) Tryd.underlying111 rfl Hi.out) rfl ⟨by rw [Htb.out], below_setRow (hB.setCell (by simp) _) (Nat.le_refl _) _⟩
theorem byte_plain : Tryd.prog.plainKey 5 = true := by kernel_rfl
theorem info16 : (Tryd.prog.info? 69).map (·.size) = some 16 := by kernel_rfl
theorem size16 {l : List UInt8} (h : l.length = 16) : (Tryd.prog.info? 69).map (·.size) = some (l.map bv).toArray.size := by rw [info16]; simp [h]
theorem size16L {l : List UInt8} (h : l.length = 16) : (Tryd.prog.info? 69).map (·.size) = some (l.map bv).length := by rw [info16]; simp [h]
theorem same16 {l m : List UInt8} (h : l.length = 16) (k : m.length = 16) : (m.map bv).toArray.size = (l.map bv).toArray.size := by simp [h, k]
def zero16 : List UInt8 := List.replicate 16 0
theorem zero16_len : zero16.length = 16 := by simp [zero16]
set_option maxRecDepth 100000 in
set_option maxHeartbeats 800000 in
theorem added_any (b k : List UInt8) (w : World) (hb : b.length = 16) (hk : k.length = 16) :
  Calls Tryd.prog 78 #[.agg (b.map bv).toArray, .agg (k.map bv).toArray] w fun e w' => e = .returned (.agg ((addU b k).map bv).toArray) ∧ Below w.heap.size w w' := by
 have Hib := Lib.hid (size16 hb)
 have Hik := Lib.hid (size16 hk)
 have Hiz := Lib.hid (size16 (addU_len b k))
 have Hsz := Lib.hid (same16 (addU_len b k) zero16_len)
 have Hb := Lib.hid hb
 have Hk := Lib.hid hk
 obtain ⟨i0, hi0⟩ := byte_info
 clear hb hk
 go_enter Tryd.func78, Tryd.ntmps78
 go_wp2_with ((with_reducible refine tdQ 7 ?_); refine wpList_load_row rfl 69 (.tmp 3) rfl (w.heap.size + 1) rfl 69 (k.map bv).toArray (0, 0) _ ((ArrB.mk_ _ _ _ k (by simp) rfl).alloc _) Tryd.underlying69 rfl Hik.out ?_)
 go_loopw [8] (fun i wr => ∃ j : Nat, j ≤ 16 ∧ i = .int .i64 (j : Int) ∧ ArrB wr w.heap.size 69 (upto (addF b k) (at0 b) 16 j) ∧ ArrB wr (w.heap.size + 1 + 1) 69 zero16 ∧ Below w.heap.size w wr) (fun i _ => (16 - intOf i).toNat)
 case atStart =>
  refine ⟨0, by omega, rfl, ?_, ArrB.mk_ _ _ _ _ (by simp) rfl, (((Below.refl _ _).alloc (Nat.le_refl _) _).alloc (al0 _ _) _).alloc (by simp; omega) _⟩
  rw [upto_zero, map_at0 Hb.out]
  exact ((ArrB.mk_ w _ _ b rfl rfl).alloc _).alloc _
 case round =>
  obtain ⟨j, hj, rfl, g0, g2, hbel⟩ := hrel
  by_cases hlt : j < 16
  ·
   have c0 := g0.cell (upto_old _ _ hlt (Nat.le_refl j))
   have f0 := g0.frozen j
   have hs := g0.set_ j (addF b k j)
   rw [← upto_succ, addF] at hs
   have hik : ((k.map bv).toArray)[j]? = some (.int .u8 ((at0 k j).toNat : Int)) := by simp [at0_of (show j < k.length by rw [Hk.out]; exact hlt), bv]
   have j0 : 0 ≤ (j : Int) := by omega
   have j1 : (j : Int) < 16 := by omega
   go_wp2_with ((with_reducible refine tdQ 11 ?_); refine wpList_index_cell rfl (some 11) rfl 69 (.tmp 7) (.tmp 8) rfl (k.map bv).toArray rfl j rfl 16 5 Tryd.underlying69 byte_plain i0 hi0 byteCells _ hik hlt ?_)
   rw [b_xor]
   exact ⟨⟨j + 1, by omega, by go_num, hs, g2.far (by simp; try omega) _, hbel.setCell (by simp) _⟩, by simp [intOf]; omega⟩
  ·
   obtain rfl : j = 16 := by omega
   rw [show ((16 : Nat) : Int) = 16 from rfl]
   rw [upto_all] at g0
   rw [show (List.range 16).map (addF b k) = addU b k from rfl] at g0
   generalize hq : addU b k = q at *
   have Hq := Lib.hid hq
   clear hq
   go_wp2_with (first
    | ((with_reducible refine tdQ 19 ?_); refine wpList_load_row rfl 69 (.tmp 2) rfl w.heap.size rfl 69 (q.map bv).toArray (0, 0) _ g0 Tryd.underlying69 rfl Hiz.out ?_)
    | ((with_reducible refine tsQ 69 ?_); refine wpList_store_row rfl 69 (.tmp 4) (.tmp 19) rfl (w.heap.size + 1 + 1) (q.map bv).toArray rfl rfl 69 _ g2 Hiz.out Hsz.out (one_bvA q) ?_))
   exact bodyPost_ret (results_cell_row rfl _ _ (w.heap.size + 1 + 1) 69 _ (0, 0) _ rfl (g2.row q) Tryd.underlying69 rfl Hiz.out) rfl ⟨by rw [Hq.out], below_setRow hbel (by omega) _⟩
def CipAt (w : World) (g : Nat) (K : List UInt8) : Prop := ArrB w g 115 (boxT ++ K)
theorem CipAt.box {w : World} {g : Nat} {K : List UInt8} (h : CipAt w g K) (x : UInt8) : w.cell? ⟨g, x.toNat, none⟩ = some (.int .u8 ((boxU x).toNat : Int)) :=
 ArrB.cell h (by rw [List.getElem?_append_left (by rw [boxT_len]; exact b_lt x)]; exact boxU_at x)
set_option maxRecDepth 100000 in
set_option maxHeartbeats 800000 in
theorem boxed_any (g : Nat) (K b : List UInt8) (w : World) (hC : CipAt w g K) (hb : b.length = 16) :
  Calls Tryd.prog 81 #[.pointer (some ⟨g, 0, none⟩), .agg (b.map bv).toArray] w fun e w' => e = .returned (.agg ((boxL b).map bv).toArray) ∧ Below w.heap.size w w' := by
 have Hib := Lib.hid (size16 hb)
 have Hiz := Lib.hid (size16 (boxL_len b))
 have Hsz := Lib.hid (same16 (boxL_len b) zero16_len)
 have Hb := Lib.hid hb
 obtain ⟨i0, hi0⟩ := byte_info
 have hg := ArrB.lt hC
 clear hb
 go_enter Tryd.func81, Tryd.ntmps81
 go_wp2_with ((with_reducible refine tdQ 7 ?_); refine wpList_load_row rfl 69 (.tmp 3) rfl w.heap.size rfl 69 (b.map bv).toArray (0, 0) _ ((ArrB.mk_ w _ _ b rfl rfl).alloc _) Tryd.underlying69 rfl Hib.out ?_)
 go_loopw [8] (fun i wr => ∃ j : Nat, j ≤ 16 ∧ i = .int .i64 (j : Int) ∧ ArrB wr w.heap.size 69 (upto (boxF b) (at0 b) 16 j) ∧ ArrB wr (w.heap.size + 1) 69 zero16 ∧ Below w.heap.size w wr) (fun i _ => (16 - intOf i).toNat)
 case atStart =>
  refine ⟨0, by omega, rfl, ?_, ArrB.mk_ _ _ _ _ (by simp) rfl, ((Below.refl _ _).alloc (Nat.le_refl _) _).alloc (al0 _ _) _⟩
  rw [upto_zero, map_at0 Hb.out]
  exact (ArrB.mk_ w _ _ b rfl rfl).alloc _
 case round =>
  obtain ⟨j, hj, rfl, g0, g2, hbel⟩ := hrel
  by_cases hlt : j < 16
  ·
   have c0 := g0.cell (upto_old _ _ hlt (Nat.le_refl j))
   have f0 := g0.frozen j
   have hs := g0.set_ j (boxF b j)
   rw [← upto_succ, boxF] at hs
   have cb := CipAt.box (ArrB.below hC hbel hg) (at0 b j)
   have hik : ((b.map bv).toArray)[j]? = some (.int .u8 ((at0 b j).toNat : Int)) := by simp [at0_of (show j < b.length by rw [Hb.out]; exact hlt), bv]
   have hx := b_lt (at0 b j)
   have j0 : 0 ≤ (j : Int) := by omega
   have j1 : (j : Int) < 16 := by omega
   generalize at0 b j = x at *
   generalize boxU x = y at *
   go_wp2_with ((with_reducible refine tdQ 11 ?_); refine wpList_index_cell rfl (some 11) rfl 69 (.tmp 7) (.tmp 8) rfl (b.map bv).toArray rfl j rfl 16 5 Tryd.underlying69 byte_plain i0 hi0 byteCells _ hik hlt ?_)
   exact ⟨⟨j + 1, by omega, by go_num, hs, g2.far (by simp; try omega) _, hbel.setCell (by simp) _⟩, by simp [intOf]; omega⟩
  ·
   obtain rfl : j = 16 := by omega
   rw [show ((16 : Nat) : Int) = 16 from rfl]
   rw [upto_all] at g0
   rw [show (List.range 16).map (boxF b) = boxL b from rfl] at g0
   generalize hq : boxL b = q at *
   have Hq := Lib.hid hq
   clear hq
   go_wp2_with (first
    | ((with_reducible refine tdQ 21 ?_); refine wpList_load_row rfl 69 (.tmp 3) rfl w.heap.size rfl 69 (q.map bv).toArray (0, 0) _ g0 Tryd.underlying69 rfl Hiz.out ?_)
    | ((with_reducible refine tsQ 69 ?_); refine wpList_store_row rfl 69 (.tmp 4) (.tmp 21) rfl (w.heap.size + 1) (q.map bv).toArray rfl rfl 69 _ g2 Hiz.out Hsz.out (one_bvA q) ?_))
   exact bodyPost_ret (results_cell_row rfl _ _ (w.heap.size + 1) 69 _ (0, 0) _ rfl (g2.row q) Tryd.underlying69 rfl Hiz.out) rfl ⟨by rw [Hq.out], below_setRow hbel (by omega) _⟩
set_option maxRecDepth 100000 in
set_option maxHeartbeats 1600000 in
theorem turned_any (b : List UInt8) (w : World) (hb : b.length = 16) :
  Calls Tryd.prog 80 #[.agg (b.map bv).toArray] w fun e w' => e = .returned (.agg ((turnU b).map bv).toArray) ∧ Below w.heap.size w w' := by
 have Hiz := Lib.hid (size16 (turnU_len b))
 have Hsz := Lib.hid (same16 (turnU_len b) zero16_len)
 have Hb := Lib.hid hb
 clear hb
 go_enter Tryd.func80, Tryd.ntmps80
 go_wp2_with fail
 go_loopw [6] (fun i wr => ∃ c : Nat, c ≤ 4 ∧ i = .int .i64 (c : Int) ∧ ArrB wr w.heap.size 69 b ∧ ArrB wr (w.heap.size + 1) 69 zero16 ∧ ArrB wr (w.heap.size + 1 + 1) 69 (upto (turnF b) (fun _ => 0) 16 (0 + 4 * c)) ∧ Below w.heap.size w wr) (fun i _ => (4 - intOf i).toNat)
 case atStart =>
  refine ⟨0, by omega, rfl, ((ArrB.mk_ w _ _ b rfl rfl).alloc _).alloc _, (ArrB.mk_ _ _ _ zero16 (by simp) rfl).alloc _, ArrB.mk_ _ _ _ _ (by simp) (by rw [show 0 + 4 * 0 = 0 from rfl, upto_zero]; rfl), (((Below.refl _ _).alloc (Nat.le_refl _) _).alloc (al0 _ _) _).alloc (by simp; omega) _⟩
 case round =>
  obtain ⟨c, hc, rfl, g0, g1, g2, hbel⟩ := hrel
  by_cases hlt : c < 4
  ·
   go_wp2_with fail
   go_loopw [9] (fun i wr => ∃ r : Nat, r ≤ 4 ∧ i = .int .i64 (r : Int) ∧ ArrB wr w.heap.size 69 b ∧ ArrB wr (w.heap.size + 1) 69 zero16 ∧ ArrB wr (w.heap.size + 1 + 1) 69 (upto (turnF b) (fun _ => 0) 16 (r + 4 * c)) ∧ Below w.heap.size w wr) (fun i _ => (4 - intOf i).toNat)
   case atStart => exact ⟨0, by omega, rfl, g0, g1, g2, hbel⟩
   case round =>
    obtain ⟨r, hr, rfl, g0, g1, g2, hbel⟩ := hrel
    by_cases hlr : r < 4
    ·
     have hq : r + 4 * ((c + r) % 4) < 16 := by omega
     have cs := g0.cell (at0_of (show r + 4 * ((c + r) % 4) < b.length by rw [Hb.out]; exact hq))
     have c2 := g2.cell (upto_old (turnF b) (fun _ => 0) (show r + 4 * c < 16 by omega) (Nat.le_refl _))
     have f2 := g2.frozen (r + 4 * c)
     have hs := g2.set_ (r + 4 * c) (turnF b (r + 4 * c))
     rw [← upto_succ, turnF, show (r + 4 * c) % 4 = r by omega, show (r + 4 * c) / 4 = c by omega] at hs
     have j0 : 0 ≤ (c : Int) := by omega
     have j1 : (c : Int) < 4 := by omega
     have j2 : 0 ≤ (r : Int) := by omega
     have j3 : (r : Int) < 4 := by omega
     go_wp2_with fail
     refine ⟨⟨r + 1, by omega, by go_num, g0.far (by simp; try omega) _, g1.far (by simp; try omega) _, ?_, hbel.setCell (by simp; try omega) _⟩, by simp [intOf]; omega⟩
     rw [show r + 1 + 4 * c = r + 4 * c + 1 by omega]
     exact hs
    ·
     obtain rfl : r = 4 := by omega
     rw [show ((4 : Nat) : Int) = 4 from rfl]
     go_wp2_with fail
     refine ⟨⟨c + 1, by omega, by go_num, g0, g1, ?_, hbel⟩, by simp [intOf]; omega⟩
     rw [show 0 + 4 * (c + 1) = 4 + 4 * c by omega]
     exact g2
  ·
   obtain rfl : c = 4 := by omega
   rw [show ((4 : Nat) : Int) = 4 from rfl]
   rw [show 0 + 4 * 4 = 16 from rfl, upto_all, show (List.range 16).map (turnF b) = turnU b from rfl] at g2
   generalize hq : turnU b = q at *
   have Hq := Lib.hid hq
   clear hq
   go_wp2_with (first
    | ((with_reducible refine tdQ 28 ?_); refine wpList_load_row rfl 69 (.tmp 3) rfl (w.heap.size + 1 + 1) rfl 69 (q.map bv).toArray (0, 0) _ g2 Tryd.underlying69 rfl Hiz.out ?_)
    | ((with_reducible refine tsQ 69 ?_); refine wpList_store_row rfl 69 (.tmp 2) (.tmp 28) rfl (w.heap.size + 1) (q.map bv).toArray rfl rfl 69 _ g1 Hiz.out Hsz.out (one_bvA q) ?_))
   exact bodyPost_ret (results_cell_row rfl _ _ (w.heap.size + 1) 69 _ (0, 0) _ rfl (g1.row q) Tryd.underlying69 rfl Hiz.out) rfl ⟨by rw [Hq.out], below_setRow hbel (by omega) _⟩
def colU (b : List UInt8) (c : Nat) : List UInt8 := (List.range 4).map fun r => at0 b (4 * c + r)
theorem colU_at (b : List UInt8) (c : Nat) {r : Nat} (h : r < 4) : (colU b c)[r]? = some (at0 b (4 * c + r)) := by simp [colU, h]
theorem colU_len (b : List UInt8) (c : Nat) : (colU b c).length = 4 := by simp [colU]
theorem info4 : (Tryd.prog.info? 121).map (·.size) = some 4 := by kernel_rfl
theorem size4L {l : List UInt8} (h : l.length = 4) : (Tryd.prog.info? 121).map (·.size) = some (l.map bv).length := by rw [info4]; simp [h]
theorem upto_rangeAt {w : World} {g : Nat} {t : TypeId} {f : Nat → UInt8} {b : List UInt8} {c : Nat} (h : ArrB w g t (upto f (at0 b) 16 (4 * c))) (hc : c < 4) : w.rangeAt g (4 * c) ((colU b c).map bv) := by
 intro j u hu
 have hj : j < 4 := by have := (List.getElem?_eq_some_iff.1 hu).1; simpa [colU] using this
 rw [List.getElem?_map, colU_at b c hj] at hu
 obtain rfl : bv (at0 b (4 * c + j)) = u := by simpa using hu
 exact h.cell (upto_old f (at0 b) (by omega) (by omega))
set_option maxRecDepth 100000 in
set_option maxHeartbeats 1600000 in
theorem mixedA_any (b : List UInt8) (w : World) (hb : b.length = 16) :
  Calls Tryd.prog 79 #[.agg (b.map bv).toArray] w fun e w' => e = .returned (.agg ((mixU b).map bv).toArray) ∧ Below w.heap.size w w' := by
 have Hiz := Lib.hid (size16 (mixU_len b))
 have Hsz := Lib.hid (same16 (mixU_len b) zero16_len)
 have Hb := Lib.hid hb
 clear hb
 go_enter Tryd.func79, Tryd.ntmps79
 go_wp2_with fail
 go_loopw [8] (fun i wr => ∃ c : Nat, c ≤ 4 ∧ i = .int .i64 (c : Int) ∧ ArrB wr w.heap.size 69 (upto (mixF b) (at0 b) 16 (4 * c)) ∧ ArrB wr (w.heap.size + 1) 69 zero16 ∧ Below w.heap.size w wr) (fun i _ => (4 - intOf i).toNat)
 case atStart =>
  refine ⟨0, by omega, rfl, ?_, ArrB.mk_ _ _ _ zero16 (by simp) rfl, ((Below.refl _ _).alloc (Nat.le_refl _) _).alloc (al0 _ _) _⟩
  rw [show 4 * 0 = 0 from rfl, upto_zero, map_at0 Hb.out]
  exact (ArrB.mk_ w _ _ b rfl rfl).alloc _
 case round =>
  obtain ⟨c, hc, rfl, g0, g1, hbel⟩ := hrel
  obtain ⟨wo, rfl⟩ : ∃ wo, wo = wr := ⟨_, rfl⟩
  by_cases hlt : c < 4
  ·
   have hsz := hbel.size
   have hr := upto_rangeAt g0 hlt
   have s4 := size4L (colU_len b c)
   have hlen4 := colU_len b c
   have j0 : 0 ≤ (c : Int) := by omega
   have j1 : (c : Int) < 4 := by omega
   have i0 : 0 ≤ 4 * (c : Int) := by omega
   have i1 : 4 * (c : Int) ≤ 16 := by omega
   have i2 : ¬ 16 = 4 * c := by omega
   have i3 : (4 * (c : Int)).toNat = 4 * c := by omega
   have i4 : 4 ≤ 16 - 4 * c := by omega
   have i5 : ¬ 16 - 4 * c < 4 := by omega
   have hat : ∀ wx, (Instr.arrayAt 121 (.slice (some ⟨w.heap.size, 4 * c, none⟩) (16 - 4 * c) (16 - 4 * c))).run Tryd.prog wx = .ok (.pointer (some ⟨w.heap.size, 4 * c, none⟩)) wx := fun wx => run_arrayAt wx _ _ 4 _ _ _ Tryd.underlying121 i4
   have Hcol := Lib.hid (fun (r : Nat) (h : r < 4) => colU_at b c h)
   have hA := ArrB.mk_ wo 121 _ (colU b c) rfl rfl
   have g0' := g0.alloc (.cells ((colU b c).map bv).toArray 121)
   have g1' := g1.alloc (.cells ((colU b c).map bv).toArray 121)
   have hb' : Below w.heap.size w (wo.alloc (.cells ((colU b c).map bv).toArray 121)) := hbel.alloc hsz _
   generalize colU b c = col at *
   go_wp2_with (first
    | ((with_reducible refine tdQ 16 ?_); refine wpList_load_mid rfl 121 (.tmp 15) rfl w.heap.size (4 * c) rfl (col.map bv) _ hr Tryd.underlying121 rfl s4 ?_)
    | ((with_reducible refine tsQ 121 ?_); refine srQ 121 (.tmp 5) (.tmp 16) wo.heap.size (col.map bv).toArray _ (heap_alloc_new _ _) (by simpa using s4) (by simp [hlen4]) (one_bvA col) ?_; rw [World.setRow_alloc_new]))
   have hga := g1.lt
   refine wp_gen (fun wx => ArrB wx wo.heap.size 121 col ∧ ArrB wx w.heap.size 69 (upto (mixF b) (at0 b) 16 (4 * c)) ∧ ArrB wx (w.heap.size + 1) 69 zero16 ∧ Below w.heap.size w wx) ⟨hA, g0', g1', hb'⟩ ?_
   clear hat hr s4 hlen4 hA g0' g1' hb' i0 i1 i2 i3 i4 i5
   rintro wy ⟨kA, k0, k1, kb⟩
   go_loopw [17] (fun i wx => ∃ r : Nat, r ≤ 4 ∧ i = .int .i64 (r : Int) ∧ ArrB wx wo.heap.size 121 col ∧ ArrB wx w.heap.size 69 (upto (mixF b) (at0 b) 16 (4 * c + r)) ∧ ArrB wx (w.heap.size + 1) 69 zero16 ∧ Below w.heap.size w wx) (fun i _ => (4 - intOf i).toNat)
   case atStart => exact ⟨0, by omega, rfl, kA, k0, k1, kb⟩
   case round =>
    obtain ⟨r, hr, rfl, kA, k0, k1, kb⟩ := hrel
    by_cases hlr : r < 4
    ·
     have c0 := kA.cell (Hcol.out r hlr)
     have c1 := kA.cell (Hcol.out ((r + 1) % 4) (Nat.mod_lt _ (by omega)))
     have c2 := kA.cell (Hcol.out ((r + 2) % 4) (Nat.mod_lt _ (by omega)))
     have c3 := kA.cell (Hcol.out ((r + 3) % 4) (Nat.mod_lt _ (by omega)))
     have cs := k0.cell (upto_old (mixF b) (at0 b) (show 4 * c + r < 16 by omega) (Nat.le_refl _))
     have fs := k0.frozen (4 * c + r)
     have hs := k0.set_ (4 * c + r) (mixF b (4 * c + r))
     rw [← upto_succ, mixF_at b hlt hlr] at hs
     generalize at0 b (4 * c + r) = x0 at *
     generalize at0 b (4 * c + (r + 1) % 4) = x1 at *
     generalize at0 b (4 * c + (r + 2) % 4) = x2 at *
     generalize at0 b (4 * c + (r + 3) % 4) = x3 at *
     have j2 : 0 ≤ (r : Int) := by omega
     have j3 : (r : Int) < 4 := by omega
     have v1 : IntKind.i64.wrap (4 * (c : Int) + (r : Int)) = 4 * (c : Int) + (r : Int) := IntWalk.i64_in _ (by omega)
     have v2 : IntKind.i64.wrap ((r : Int) + 2) = (r : Int) + 2 := IntWalk.i64_in _ (by omega)
     have v3 : IntKind.i64.wrap ((r : Int) + 3) = (r : Int) + 3 := IntWalk.i64_in _ (by omega)
     have v4 : ((r : Int) + 2).tmod 4 = ((r : Int) + 2) % 4 := Int.tmod_eq_emod_of_nonneg (by omega)
     have v5 : ((r : Int) + 3).tmod 4 = ((r : Int) + 3) % 4 := Int.tmod_eq_emod_of_nonneg (by omega)
     have v6 : 0 ≤ ((r : Int) + 2) % 4 := by omega
     have v7 : ((r : Int) + 2) % 4 < 4 := by omega
     have v8 : (((r : Int) + 2) % 4).toNat = (r + 2) % 4 := by omega
     have v9 : 0 ≤ ((r : Int) + 3) % 4 := by omega
     have u1 : ((r : Int) + 3) % 4 < 4 := by omega
     have u2 : (((r : Int) + 3) % 4).toNat = (r + 3) % 4 := by omega
     have u3 : 0 ≤ 4 * (c : Int) + (r : Int) := by omega
     have u4 : 4 * (c : Int) + (r : Int) < 16 := by omega
     have u5 : (4 * (c : Int) + (r : Int)).toNat = 4 * c + r := by omega
     go_wp2_with fail
     refine wp_region_still_tail 25 (by kernel_rfl) (by kernel_rfl) ?_
     simp only [List.take_succ_cons, List.take_zero, List.drop_succ_cons, List.drop_zero]
     repeat (first | (refine wpStill_step (fun K hK => ?_); go_simp; first | (refine ⟨_, (twice_any _ _).mono still_flip8, hK _ ?_⟩); clear hK K) | still_step)
     refine wpStill_nil ?_
     change wpList _ _ _ _ _ wr.drew
     rw [b_xor, b_xor, b_xor, b_xor]
     clear v1 v2 v3 v4 v5 v6 v7 v8 v9 u1 u2 u3 u4 u5 c0 c1 c2 c3
     go_wp2_with fail
     refine ⟨⟨r + 1, by omega, by go_num, (kA.far (by simp; omega) _).drew, hs.drew, (k1.far (by simp; try omega) _).drew, (kb.setCell (by simp; try omega) _).drew⟩, by simp [intOf]; omega⟩
    ·
     obtain rfl : r = 4 := by omega
     rw [show ((4 : Nat) : Int) = 4 from rfl]
     go_wp2_with fail
     exact ⟨⟨c + 1, by omega, by go_num, k0, k1, kb⟩, by simp [intOf]; omega⟩
  ·
   obtain rfl : c = 4 := by omega
   rw [show ((4 : Nat) : Int) = 4 from rfl]
   rw [show 4 * 4 = 16 from rfl, upto_all, show (List.range 16).map (mixF b) = mixU b from rfl] at g0
   generalize hq : mixU b = q at *
   have Hq := Lib.hid hq
   clear hq
   go_wp2_with (first
    | ((with_reducible refine tdQ 52 ?_); refine wpList_load_row rfl 69 (.tmp 1) rfl w.heap.size rfl 69 (q.map bv).toArray (0, 0) _ g0 Tryd.underlying69 rfl Hiz.out ?_)
    | ((with_reducible refine tsQ 69 ?_); refine wpList_store_row rfl 69 (.tmp 2) (.tmp 52) rfl (w.heap.size + 1) (q.map bv).toArray rfl rfl 69 _ g1 Hiz.out Hsz.out (one_bvA q) ?_))
   exact bodyPost_ret (results_cell_row rfl _ _ (w.heap.size + 1) 69 _ (0, 0) _ rfl (g1.row q) Tryd.underlying69 rfl Hiz.out) rfl ⟨by rw [Hq.out], below_setRow hbel (by omega) _⟩
def lastF (was : List UInt8) (r : Nat) : UInt8 := boxU (at0 was (12 + (r + 1) % 4))
theorem word0 (was : List UInt8) (mark : UInt8) :
  (upto (lastF was) (fun _ => 0) 4 4).set 0 (lastF was 0 ^^^ mark) = upto (wordK was mark 1) (wordK was mark 0) 4 0 := by
 simp only [upto, List.range, List.range.loop, List.map, lastF, wordK, List.set]
 simp
theorem wordNext (was : List UInt8) (mark : UInt8) (c : Nat) : upto (wordK was mark (c + 1)) (wordK was mark c) 4 4 = upto (wordK was mark (c + 2)) (wordK was mark (c + 1)) 4 0 := by
 simp only [upto]
 apply List.map_congr_left
 intro i hi
 rw [List.mem_range] at hi
 rw [if_pos hi, if_neg (by omega)]
theorem nextF_at (was : List UInt8) (mark : UInt8) {c r : Nat} (hr : r < 4) : nextF was mark (r + 4 * c) = wordK was mark (c + 1) r := by
 unfold nextF
 rw [show (r + 4 * c) / 4 = c by omega, show (r + 4 * c) % 4 = r by omega]
set_option maxRecDepth 100000 in
set_option maxHeartbeats 3000000 in
theorem nextKey_any (g : Nat) (K was : List UInt8) (mark : UInt8) (w : World) (hC : CipAt w g K) (hb : was.length = 16) :
  Calls Tryd.prog 75 #[.pointer (some ⟨g, 0, none⟩), .agg (was.map bv).toArray, .int .u8 (mark.toNat : Int)] w fun e w' => e = .returned (.agg ((nextU was mark).map bv).toArray) ∧ Below w.heap.size w w' := by
 have Hiz := Lib.hid (size16 (nextU_len was mark))
 have Hsz := Lib.hid (same16 (nextU_len was mark) zero16_len)
 have Hb := Lib.hid hb
 have hg := ArrB.lt hC
 clear hb
 go_enter Tryd.func75, Tryd.ntmps75
 go_wp2_with fail
 go_loopw [13] (fun i wr => ∃ r : Nat, r ≤ 4 ∧ i = .int .i64 (r : Int) ∧ ArrB wr w.heap.size 69 was ∧ ArrB wr (w.heap.size + 1) 69 zero16 ∧ ArrB wr (w.heap.size + 1 + 1) 69 zero16 ∧ ArrB wr (w.heap.size + 1 + 1 + 1) 121 (upto (lastF was) (fun _ => 0) 4 r) ∧ Below w.heap.size w wr) (fun i _ => (4 - intOf i).toNat)
 case atStart =>
  exact ⟨0, by omega, rfl, (((ArrB.mk_ w _ _ was rfl rfl).alloc _).alloc _).alloc _, ((ArrB.mk_ _ _ _ zero16 (by simp) rfl).alloc _).alloc _, (ArrB.mk_ _ _ _ zero16 (by simp) rfl).alloc _, ArrB.mk_ _ _ _ _ (by simp) (by rw [upto_zero]; rfl),
   ((((Below.refl _ _).alloc (Nat.le_refl _) _).alloc (al0 _ _) _).alloc (by simp; omega) _).alloc (by simp; omega) _⟩
 case round =>
  obtain ⟨r, hr, rfl, g0, g1, g2, g3, hbel⟩ := hrel
  by_cases hlr : r < 4
  ·
   have c0 := g0.cell (at0_of (show 12 + (r + 1) % 4 < was.length by rw [Hb.out]; omega))
   have cb := CipAt.box (ArrB.below hC hbel hg) (at0 was (12 + (r + 1) % 4))
   have cs := g3.cell (upto_old (lastF was) (fun _ => 0) hlr (Nat.le_refl _))
   have fs := g3.frozen r
   have hs := g3.set_ r (lastF was r)
   rw [← upto_succ, lastF] at hs
   have hx := b_lt (at0 was (12 + (r + 1) % 4))
   generalize at0 was (12 + (r + 1) % 4) = x at *
   generalize boxU x = y at *
   have j2 : 0 ≤ (r : Int) := by omega
   have j3 : (r : Int) < 4 := by omega
   have hx1 : (x.toNat : Int) < 256 := by omega
   have hx0 : 0 ≤ (x.toNat : Int) := by omega
   have v1 : IntKind.i64.wrap ((r : Int) + 1) = (r : Int) + 1 := IntWalk.i64_in _ (by omega)
   have v2 : ((r : Int) + 1).tmod 4 = ((r : Int) + 1) % 4 := Int.tmod_eq_emod_of_nonneg (by omega)
   have v3 : IntKind.i64.wrap (12 + ((r : Int) + 1) % 4) = 12 + ((r : Int) + 1) % 4 := IntWalk.i64_in _ (by omega)
   have v4 : 0 ≤ 12 + ((r : Int) + 1) % 4 := by omega
   have v5 : 12 + ((r : Int) + 1) % 4 < 16 := by omega
   have v6 : (12 + ((r : Int) + 1) % 4).toNat = 12 + (r + 1) % 4 := by omega
   go_wp2_with fail
   go_still_tail 13, (by kernel_rfl)
   change wpList _ _ _ _ _ wr.drew
   clear c0 cb v1 v2 v3 v4 v5 v6
   go_wp2_with fail
   exact ⟨⟨r + 1, by omega, by go_num, (g0.far (by simp; try omega) _).drew, (g1.far (by simp; try omega) _).drew, (g2.far (by simp; try omega) _).drew, hs.drew, (hbel.setCell (by simp; try omega) _).drew⟩, by simp [intOf]; omega⟩
  ·
   obtain rfl : r = 4 := by omega
   rw [show ((4 : Nat) : Int) = 4 from rfl]
   have c0 := g3.cell (upto_done (lastF was) (fun _ => 0) (show 0 < 4 by omega) (show 0 < 4 by omega))
   have f0 := g3.frozen 0
   have hs := g3.set_ 0 (lastF was 0 ^^^ mark)
   rw [word0] at hs
   generalize lastF was 0 = x at *
   go_wp2_with fail
   rw [b_xor]
   generalize x ^^^ mark = y0 at *
   refine wp_gen (fun wx => ArrB wx w.heap.size 69 was ∧ ArrB wx (w.heap.size + 1) 69 zero16 ∧ ArrB wx (w.heap.size + 1 + 1) 69 zero16 ∧ ArrB wx (w.heap.size + 1 + 1 + 1) 121 (upto (wordK was mark 1) (wordK was mark 0) 4 0) ∧ Below w.heap.size w wx)
    ⟨g0.far (by simp; try omega) _, g1.far (by simp; try omega) _, g2.far (by simp; try omega) _, hs, hbel.setCell (by simp; try omega) _⟩ ?_
   clear g0 g1 g2 g3 hbel c0 f0 hs
   rintro wy ⟨g0, g1, g2, g3, hbel⟩
   go_loopw [35] (fun i wr => ∃ c : Nat, c ≤ 4 ∧ i = .int .i64 (c : Int) ∧ ArrB wr w.heap.size 69 was ∧ ArrB wr (w.heap.size + 1) 69 zero16 ∧ ArrB wr (w.heap.size + 1 + 1) 69 (upto (nextF was mark) (fun _ => 0) 16 (0 + 4 * c)) ∧ ArrB wr (w.heap.size + 1 + 1 + 1) 121 (upto (wordK was mark (c + 1)) (wordK was mark c) 4 0) ∧ Below w.heap.size w wr) (fun i _ => (4 - intOf i).toNat)
   case atStart => exact ⟨0, by omega, rfl, g0, g1, by rw [show 0 + 4 * 0 = 0 from rfl, upto_zero]; exact g2, g3, hbel⟩
   case round =>
    obtain ⟨c, hc, rfl, g0, g1, g2, g3, hbel⟩ := hrel
    by_cases hlt : c < 4
    ·
     have j0 : 0 ≤ (c : Int) := by omega
     have j1 : (c : Int) < 4 := by omega
     go_wp2_with fail
     go_loopw [38] (fun i wr => ∃ r : Nat, r ≤ 4 ∧ i = .int .i64 (r : Int) ∧ ArrB wr w.heap.size 69 was ∧ ArrB wr (w.heap.size + 1) 69 zero16 ∧ ArrB wr (w.heap.size + 1 + 1) 69 (upto (nextF was mark) (fun _ => 0) 16 (r + 4 * c)) ∧ ArrB wr (w.heap.size + 1 + 1 + 1) 121 (upto (wordK was mark (c + 1)) (wordK was mark c) 4 r) ∧ Below w.heap.size w wr) (fun i _ => (4 - intOf i).toNat)
     case atStart => exact ⟨0, by omega, rfl, g0, g1, g2, g3, hbel⟩
     case round =>
      obtain ⟨r, hr, rfl, g0, g1, g2, g3, hbel⟩ := hrel
      by_cases hlr : r < 4
      ·
       have cw := g0.cell (at0_of (show r + 4 * c < was.length by rw [Hb.out]; omega))
       have c3 := g3.cell (upto_old (wordK was mark (c + 1)) (wordK was mark c) hlr (Nat.le_refl _))
       have f3 := g3.frozen r
       have h3 := g3.set_ r (wordK was mark (c + 1) r)
       rw [← upto_succ] at h3
       have c2 := g2.cell (upto_old (nextF was mark) (fun _ => 0) (show r + 4 * c < 16 by omega) (Nat.le_refl _))
       have f2 := g2.frozen (r + 4 * c)
       have h2 := (g2.far (p := ⟨w.heap.size + 1 + 1 + 1, r, none⟩) (by simp; try omega) (.int .u8 ((wordK was mark (c + 1) r).toNat : Int))).set_ (r + 4 * c) (nextF was mark (r + 4 * c))
       rw [← upto_succ, nextF_at was mark hlr] at h2
       have Hw := Lib.hid (show wordK was mark (c + 1) r = wordK was mark c r ^^^ at0 was (r + 4 * c) from rfl)
       generalize wordK was mark (c + 1) r = y at *
       generalize wordK was mark c r = x at *
       generalize at0 was (r + 4 * c) = z at *
       have j2 : 0 ≤ (r : Int) := by omega
       have j3 : (r : Int) < 4 := by omega
       have u3 : 0 ≤ (r : Int) + 4 * (c : Int) := by omega
       have u4 : (r : Int) + 4 * (c : Int) < 16 := by omega
       have u5 : ((r : Int) + 4 * (c : Int)).toNat = r + 4 * c := by omega
       go_wp2_with fail
       go_still_tail 8, (by kernel_rfl)
       change wpList _ _ _ _ _ wr.drew
       rw [b_xor, ← Hw.out]
       clear cw
       go_wp2_with fail
       refine ⟨⟨r + 1, by omega, by go_num, ((g0.far (p := ⟨w.heap.size + 1 + 1 + 1, r, none⟩) (by simp; try omega) _).far (p := ⟨w.heap.size + 1 + 1, r + 4 * c, none⟩) (by simp; try omega) _).drew, ((g1.far (p := ⟨w.heap.size + 1 + 1 + 1, r, none⟩) (by simp; try omega) _).far (p := ⟨w.heap.size + 1 + 1, r + 4 * c, none⟩) (by simp; try omega) _).drew, ?_, (h3.far (p := ⟨w.heap.size + 1 + 1, r + 4 * c, none⟩) (by simp; try omega) _).drew, ((hbel.setCell (p := ⟨w.heap.size + 1 + 1 + 1, r, none⟩) (by simp; try omega) _).setCell (p := ⟨w.heap.size + 1 + 1, r + 4 * c, none⟩) (by simp; try omega) _).drew⟩, by simp [intOf]; omega⟩
       rw [show r + 1 + 4 * c = r + 4 * c + 1 by omega]
       exact h2.drew
      ·
       obtain rfl : r = 4 := by omega
       rw [show ((4 : Nat) : Int) = 4 from rfl]
       rw [wordNext] at g3
       go_wp2_with fail
       refine ⟨⟨c + 1, by omega, by go_num, g0, g1, ?_, g3, hbel⟩, by simp [intOf]; omega⟩
       rw [show 0 + 4 * (c + 1) = 4 + 4 * c by omega]
       exact g2
    ·
     obtain rfl : c = 4 := by omega
     rw [show ((4 : Nat) : Int) = 4 from rfl]
     rw [show 0 + 4 * 4 = 16 from rfl, upto_all, show (List.range 16).map (nextF was mark) = nextU was mark from rfl] at g2
     generalize hq : nextU was mark = q at *
     have Hq := Lib.hid hq
     clear hq
     go_wp2_with (first
      | ((with_reducible refine tdQ 60 ?_); refine wpList_load_row rfl 69 (.tmp 7) rfl (w.heap.size + 1 + 1) rfl 69 (q.map bv).toArray (0, 0) _ g2 Tryd.underlying69 rfl Hiz.out ?_)
      | ((with_reducible refine tsQ 69 ?_); refine wpList_store_row rfl 69 (.tmp 6) (.tmp 60) rfl (w.heap.size + 1) (q.map bv).toArray rfl rfl 69 _ g1 Hiz.out Hsz.out (one_bvA q) ?_))
     exact bodyPost_ret (results_cell_row rfl _ _ (w.heap.size + 1) 69 _ (0, 0) _ rfl (g1.row q) Tryd.underlying69 rfl Hiz.out) rfl ⟨by rw [Hq.out], below_setRow hbel (by omega) _⟩
end Go.Proofs.YtbiijdboolpaeaaDoor
