import Derived.Test.YtbiijdboolpaeaaDoorG01
set_option linter.unusedVariables false
namespace Go.Proofs.YtbiijdboolpaeaaDoor
def be : Nat → Nat → List UInt8
 | 0, _ => []
 | k + 1, n => be k (n / 256) ++ [UInt8.ofNat n]
theorem be_length : ∀ k n, (be k n).length = k
 | 0, _ => rfl
 | k + 1, n => by simp [be, be_length k]
theorem be_step (j m n : Nat) : be (j + 1) (n / 256 ^ m) = be j (n / 256 ^ (m + 1)) ++ [UInt8.ofNat (n / 256 ^ m)] := by
 rw [be, Nat.div_div_eq_div_mul, Nat.pow_succ]
theorem pow256 (m : Nat) : 2 ^ (8 * m) = 256 ^ m := by rw [Nat.pow_mul]
theorem byteAt (n m : Nat) : (n : Int) / 2 ^ (8 * m) % 256 = ((UInt8.ofNat (n / 256 ^ m)).toNat : Int) := by
 have e : ((2 : Int) ^ (8 * m)) = ((256 ^ m : Nat) : Int) := by
  rw [← pow256]
  exact (Int.natCast_pow 2 (8 * m)).symm
 rw [e]
 simp [UInt8.toNat_ofNat']
theorem pow256i (m : Nat) : ((2 : Int) ^ (8 * m)) = ((256 ^ m : Nat) : Int) := by
 rw [← pow256]
 exact (Int.natCast_pow 2 (8 * m)).symm
theorem fitsB (n m : Nat) (h : n < 256 ^ m) : ((n : Int) / 2 ^ (8 * m) == 0) = true := by
 rw [pow256i, beq_iff_eq]
 exact_mod_cast Nat.div_eq_of_lt h
theorem fitsNotB (n m : Nat) (h : 256 ^ m ≤ n) : ((n : Int) / 2 ^ (8 * m) == 0) = false := by
 rw [pow256i, beq_eq_false_iff_ne]
 have : n / 256 ^ m ≠ 0 := by
  have := Nat.div_pos h (Nat.pow_pos (by omega))
  omega
 exact_mod_cast this
def Good (width : Int) (ns : List Nat) : Prop := 1 ≤ width ∧ width ≤ 8 ∧ ∀ i x : Nat, ns[i]? = some x → x < 256 ^ width.toNat
def nums (width : Nat) (ns : List Nat) : List UInt8 := (ns.map (be width)).flatten
theorem nums_snoc (width : Nat) (ns : List Nat) (x : Nat) : nums width (ns ++ [x]) = nums width ns ++ be width x := by simp [nums]
def txs (ts : List (List UInt8)) : List UInt8 := (ts.map fun t => be 2 t.length ++ t).flatten
theorem txs_snoc (ts : List (List UInt8)) (t : List UInt8) : txs (ts ++ [t]) = txs ts ++ (be 2 t.length ++ t) := by simp [txs]
theorem txs_cons (t : List UInt8) (ts : List (List UInt8)) : txs (t :: ts) = be 2 t.length ++ t ++ txs ts := by simp [txs]
def GoodT (ts : List (List UInt8)) : Prop := ∀ (i : Nat) (t : List UInt8), ts[i]? = some t → t.length ≤ 65535
def AllShort (ts : List (List UInt8)) (j : Nat) : Prop := ∀ (i : Nat) (t : List UInt8), i < j → ts[i]? = some t → t.length ≤ 65535
theorem AllShort.zero (ts : List (List UInt8)) : AllShort ts 0 := fun i t hi => absurd hi (by omega)
theorem AllShort.snoc {ts : List (List UInt8)} {j : Nat} {x : List UInt8} (h : AllShort ts j) (hx : ts[j]? = some x) (hf : x.length ≤ 65535) : AllShort ts (j + 1) := by
 intro i y hi hy
 rcases Nat.lt_or_ge i j with h1 | h1
 ·
  exact h i y h1 hy
 ·
  obtain rfl : i = j := by omega
  rw [hx] at hy
  injection hy with hy
  subst hy
  exact hf
theorem AllShort.all {ts : List (List UInt8)} {j : Nat} (h : AllShort ts j) (hl : ts.length = j) : GoodT ts :=
 fun i t hi => h i t (by have := (List.getElem?_eq_some_iff.1 hi).1; omega) hi
theorem txs_short : ∀ (ts : List (List UInt8)), GoodT ts → (txs ts).length ≤ 65537 * ts.length
 | [], _ => by simp [txs]
 | t :: ts, h => by
  have h1 := h 0 t rfl
  have h2 := txs_short ts (fun i u hu => h (i + 1) u hu)
  rw [txs_cons]
  simp only [List.length_append, be_length, List.length_cons]
  omega
theorem AllShort.take {ts : List (List UInt8)} {j : Nat} (h : AllShort ts j) : (txs (ts.take j)).length ≤ 65537 * j := by
 have h1 := txs_short (ts.take j) (fun i t hi => by
  rw [List.getElem?_take] at hi
  split at hi
  ·
   exact h i t (by assumption) hi
  ·
   cases hi)
 have h2 : (ts.take j).length ≤ j := List.length_take_le _ _
 omega
theorem take_succ_of {α : Type} {l : List α} {j : Nat} {x : α} (h : l[j]? = some x) : l.take (j + 1) = l.take j ++ [x] := by
 rw [List.take_add_one, h]; rfl
def val (l : List UInt8) : Nat := l.foldl (fun a x => a * 256 + x.toNat) 0
theorem be_mod : ∀ m a, be m (a % 256 ^ m) = be m a
 | 0, _ => rfl
 | m + 1, a => by
  have e1 : a % 256 ^ (m + 1) / 256 = a / 256 % 256 ^ m := by
   rw [Nat.pow_succ', Nat.mod_mul_right_div_self]
  have e2 : UInt8.ofNat (a % 256 ^ (m + 1)) = UInt8.ofNat a := by
   apply UInt8.toNat_inj.1
   rw [UInt8.toNat_ofNat', UInt8.toNat_ofNat', show (2 : Nat) ^ 8 = 256 from rfl, Nat.pow_succ']
   exact Nat.mod_mul_right_mod a 256 (256 ^ m)
  rw [be, be, e1, e2, be_mod m]
end Go.Proofs.YtbiijdboolpaeaaDoor
namespace Go.Proofs.YtbiijdboolpaeaaDoor
def kU : List UInt32 := [1116352408, 1899447441, 3049323471, 3921009573, 961987163, 1508970993, 2453635748, 2870763221, 3624381080, 310598401, 607225278, 1426881987, 1925078388, 2162078206, 2614888103, 3248222580, 3835390401, 4022224774, 264347078, 604807628, 770255983, 1249150122, 1555081692, 1996064986, 2554220882, 2821834349, 2952996808, 3210313671, 3336571891, 3584528711, 113926993, 338241895, 666307205, 773529912, 1294757372, 1396182291, 1695183700, 1986661051, 2177026350, 2456956037, 2730485921, 2820302411, 3259730800, 3345764771, 3516065817, 3600352804, 4094571909, 275423344, 430227734, 506948616, 659060556, 883997877, 958139571, 1322822218, 1537002063, 1747873779, 1955562222, 2024104815, 2227730452, 2361852424, 2428436474, 2756734187, 3204031479, 3329325298]
def firstU : List UInt32 := [1779033703, 3144134277, 1013904242, 2773480762, 1359893119, 2600822924, 528734635, 1541459225]
theorem kU_len : kU.length = 64 := rfl
def S0 (x : UInt32) : UInt32 := rorU x 2 ^^^ rorU x 13 ^^^ rorU x 22
def S1 (x : UInt32) : UInt32 := rorU x 6 ^^^ rorU x 11 ^^^ rorU x 25
def chU (e f g : UInt32) : UInt32 := e &&& f ^^^ ~~~e &&& g
def majU (a b c : UInt32) : UInt32 := a &&& b ^^^ a &&& c ^^^ b &&& c
def T1 (e f g h k w : UInt32) : UInt32 := h + S1 e + chU e f g + k + w
def T2 (a b c : UInt32) : UInt32 := S0 a + majU a b c
def roundU (k w : UInt32) : List UInt32 → List UInt32
 | [a, b, c, d, e, f, g, h] => [T1 e f g h k w + T2 a b c, a, b, c, d + T1 e f g h k w, e, f, g]
 | l => l
def roundsTo (h ws : List UInt32) : Nat → List UInt32
 | 0 => h
 | t + 1 => roundU (kU.getD t 0) (ws.getD t 0) (roundsTo h ws t)
theorem eight {l : List UInt32} (h : l.length = 8) : ∃ a b c d e f g i, l = [a, b, c, d, e, f, g, i] := by
 match l, h with
 | [a, b, c, d, e, f, g, i], _ => exact ⟨a, b, c, d, e, f, g, i, rfl⟩
def addTo (h v : List UInt32) (j : Nat) : List UInt32 := (List.range 8).map fun i => if i < j then h.getD i 0 + v.getD i 0 else h.getD i 0
def blockW (h ws : List UInt32) : List UInt32 := addTo h (roundsTo h ws 64) 8
theorem addTo_len (h v : List UInt32) (j : Nat) : (addTo h v j).length = 8 := by simp [addTo]
end Go.Proofs.YtbiijdboolpaeaaDoor
