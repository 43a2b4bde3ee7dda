
/-
  PLAIN MATHEMATICS: a number's bytes of a width, the highest first ('be'), and what bytes come to ('val'). Nothing of the program.
-/
set_option linter.unusedVariables false
namespace Go.Proofs.YtlidhdljgnijaaaDoor

def be : Nat → Nat → List UInt8
  | 0, _ => []
  | k + 1, n => be k (n / 256) ++ [UInt8.ofNat n]

theorem be_length : ∀ k n, (be k n).length = k
  | 0, _ => rfl
  | k + 1, n => by simp [be, be_length k]

theorem be_step (j m n : Nat) : be (j + 1) (n / 256 ^ m) = be j (n / 256 ^ (m + 1)) ++ [UInt8.ofNat (n / 256 ^ m)] := by
  rw [be, Nat.div_div_eq_div_mul, Nat.pow_succ]

theorem pow256 (m : Nat) : 2 ^ (8 * m) = 256 ^ m := by rw [Nat.pow_mul]

theorem byteAt (n m : Nat) : (n : Int) / 2 ^ (8 * m) % 256 = ((UInt8.ofNat (n / 256 ^ m)).toNat : Int) := by
  have e : ((2 : Int) ^ (8 * m)) = ((256 ^ m : Nat) : Int) := by
    rw [← pow256]
    exact (Int.natCast_pow 2 (8 * m)).symm
  rw [e]
  simp [UInt8.toNat_ofNat']

theorem pow256i (m : Nat) : ((2 : Int) ^ (8 * m)) = ((256 ^ m : Nat) : Int) := by
  rw [← pow256]
  exact (Int.natCast_pow 2 (8 * m)).symm

theorem fitsB (n m : Nat) (h : n < 256 ^ m) : ((n : Int) / 2 ^ (8 * m) == 0) = true := by
  rw [pow256i, beq_iff_eq]
  exact_mod_cast Nat.div_eq_of_lt h

theorem fitsNotB (n m : Nat) (h : 256 ^ m ≤ n) : ((n : Int) / 2 ^ (8 * m) == 0) = false := by
  rw [pow256i, beq_eq_false_iff_ne]
  have : n / 256 ^ m ≠ 0 := by
    have := Nat.div_pos h (Nat.pow_pos (by omega))
    omega
  exact_mod_cast this

theorem be_cons (j n : Nat) : be (j + 1) n = UInt8.ofNat (n / 256 ^ j) :: be j n := by
  induction j generalizing n with
  | zero => simp [be]
  | succ j ih =>
    have e : be (j + 1) n = be j (n / 256) ++ [UInt8.ofNat n] := rfl
    rw [e, be, ih (n / 256), List.cons_append, Nat.div_div_eq_div_mul, ← Nat.pow_succ']

/-- which numbers a width holds -/
def Good (width : Int) (ns : List Nat) : Prop := 1 ≤ width ∧ width ≤ 8 ∧ ∀ i x : Nat, ns[i]? = some x → x < 256 ^ width.toNat

/-- the first 'j' numbers, a width each -/
def nums (width : Nat) (ns : List Nat) : List UInt8 := (ns.map (be width)).flatten

theorem nums_snoc (width : Nat) (ns : List Nat) (x : Nat) : nums width (ns ++ [x]) = nums width ns ++ be width x := by simp [nums]

/-- texts, each behind how many bytes it has -/
def txs (ts : List (List UInt8)) : List UInt8 := (ts.map fun t => be 2 t.length ++ t).flatten

theorem txs_snoc (ts : List (List UInt8)) (t : List UInt8) : txs (ts ++ [t]) = txs ts ++ (be 2 t.length ++ t) := by simp [txs]
theorem txs_cons (t : List UInt8) (ts : List (List UInt8)) : txs (t :: ts) = be 2 t.length ++ t ++ txs ts := by simp [txs]

def GoodT (ts : List (List UInt8)) : Prop := ∀ (i : Nat) (t : List UInt8), ts[i]? = some t → t.length ≤ 65535

/-- the first 'j' texts are none too long -/
def AllShort (ts : List (List UInt8)) (j : Nat) : Prop := ∀ (i : Nat) (t : List UInt8), i < j → ts[i]? = some t → t.length ≤ 65535
theorem AllShort.zero (ts : List (List UInt8)) : AllShort ts 0 := fun i t hi => absurd hi (by omega)
theorem AllShort.snoc {ts : List (List UInt8)} {j : Nat} {x : List UInt8} (h : AllShort ts j) (hx : ts[j]? = some x) (hf : x.length ≤ 65535) : AllShort ts (j + 1) := by
  intro i y hi hy
  rcases Nat.lt_or_ge i j with h1 | h1
  · exact h i y h1 hy
  · obtain rfl : i = j := by omega
    rw [hx] at hy
    injection hy with hy
    subst hy
    exact hf
theorem AllShort.all {ts : List (List UInt8)} {j : Nat} (h : AllShort ts j) (hl : ts.length = j) : GoodT ts :=
  fun i t hi => h i t (by have := (List.getElem?_eq_some_iff.1 hi).1; omega) hi

theorem txs_short : ∀ (ts : List (List UInt8)), GoodT ts → (txs ts).length ≤ 65537 * ts.length
  | [], _ => by simp [txs]
  | t :: ts, h => by
    have h1 := h 0 t rfl
    have h2 := txs_short ts (fun i u hu => h (i + 1) u hu)
    rw [txs_cons]
    simp only [List.length_append, be_length, List.length_cons]
    omega

theorem AllShort.take {ts : List (List UInt8)} {j : Nat} (h : AllShort ts j) : (txs (ts.take j)).length ≤ 65537 * j := by
  have h1 := txs_short (ts.take j) (fun i t hi => by
    rw [List.getElem?_take] at hi
    split at hi
    · exact h i t (by assumption) hi
    · cases hi)
  have h2 : (ts.take j).length ≤ j := List.length_take_le _ _
  omega

theorem take_succ_of {α : Type} {l : List α} {j : Nat} {x : α} (h : l[j]? = some x) : l.take (j + 1) = l.take j ++ [x] := by
  rw [List.take_add_one, h]; rfl

def val (l : List UInt8) : Nat := l.foldl (fun a x => a * 256 + x.toNat) 0

theorem val_snoc (l : List UInt8) (x : UInt8) : val (l ++ [x]) = val l * 256 + x.toNat := by simp [val]


theorem val_lt (l : List UInt8) : val l < 256 ^ l.length := by
  suffices h : ∀ n (l : List UInt8), l.length = n → val l < 256 ^ n from h _ l rfl
  intro n
  induction n with
  | zero => intro l hl; obtain rfl := List.eq_nil_of_length_eq_zero hl; simp [val]
  | succ n ih =>
    intro l hl
    have hne : l ≠ [] := by rintro rfl; simp at hl
    obtain ⟨a, x, rfl⟩ : ∃ a x, l = a ++ [x] := ⟨l.dropLast, l.getLast hne, (List.dropLast_concat_getLast hne).symm⟩
    have h := ih a (by simpa using hl)
    have hx := x.toNat_lt
    rw [val_snoc, Nat.pow_succ]
    omega

theorem val_be : ∀ m n, val (be m n) = n % 256 ^ m
  | 0, n => by simp [be, val, Nat.mod_one]
  | m + 1, n => by
    rw [be, val_snoc, val_be m (n / 256), UInt8.toNat_ofNat', show (2 : Nat) ^ 8 = 256 from rfl, Nat.pow_succ']
    have h := Nat.mod_mul (x := n) (a := 256) (b := 256 ^ m)
    omega

theorem be_mod : ∀ m a, be m (a % 256 ^ m) = be m a
  | 0, _ => rfl
  | m + 1, a => by
    have e1 : a % 256 ^ (m + 1) / 256 = a / 256 % 256 ^ m := by
      rw [Nat.pow_succ', Nat.mod_mul_right_div_self]
    have e2 : UInt8.ofNat (a % 256 ^ (m + 1)) = UInt8.ofNat a := by
      apply UInt8.toNat_inj.1
      rw [UInt8.toNat_ofNat', UInt8.toNat_ofNat', show (2 : Nat) ^ 8 = 256 from rfl, Nat.pow_succ']
      exact Nat.mod_mul_right_mod a 256 (256 ^ m)
    rw [be, be, e1, e2, be_mod m]

/-- TakeNum: the error, the number, the place behind -/
def tnE (k : Nat) (d wd : Int) : Int := if d < 0 ∨ k < d ∨ wd < 1 ∨ 8 < wd then 1 else if k - d < wd then 2 else 0
def tnV (l : List UInt8) (d wd : Int) : Nat := if tnE l.length d wd = 0 then val ((l.drop d.toNat).take wd.toNat) else 0
def tnN (k : Nat) (d wd : Int) : Int := if tnE k d wd = 0 then d + wd else 0

theorem tnE_of {k : Nat} {d wd : Int} (h0 : 0 ≤ d) (h1 : 1 ≤ wd) (h2 : wd ≤ 8) (h3 : d + wd ≤ k) : tnE k d wd = 0 := by
  unfold tnE
  rw [if_neg (by omega), if_neg (by omega)]

end Go.Proofs.YtlidhdljgnijaaaDoor

