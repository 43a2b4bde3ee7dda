/-
  CONTRACTS of the program's Check, mayBe, carried, place (package fe), of math/bits.Mul64 and Add64.
-/
import Derived.Test.YtimgnpcojamafaaFeSpec
import Derived.Test.YtimgnpcojamafaaRowM
import Derived.WalkKit
import Derived.BigRegion
import Derived.Lib.Hide
import Derived.Lib.Mul64
import Derived.Laws.Bits64b
import Derived.Laws.Externs
import Derived.Laws.Rows
set_option linter.unusedVariables false
namespace Go.Proofs.Ytimgnpcojamafaa
open Go.RowKit

/-- a number's parts as cells -/
def feC (f : Fe5) : Array Value := #[.int .u64 (f.a0 : Int), .int .u64 (f.a1 : Int), .int .u64 (f.a2 : Int), .int .u64 (f.a3 : Int), .int .u64 (f.a4 : Int)]
theorem feC_size (f : Fe5) : (feC f).size = 5 := rfl

theorem mask51 {x : Nat} (hx : x < 18446744073709551616) : bits .and .u64 (x : Int) 2251799813685247 = ((x % 2251799813685248 : Nat) : Int) := by
  have h := bits_and_u64_nat x 2251799813685247 hx (by omega)
  have e : x &&& 2251799813685247 = x % 2251799813685248 := Nat.and_two_pow_sub_one_eq_mod x 51
  rw [e] at h
  exact h
theorem mask32 {x : Nat} (hx : x < 18446744073709551616) : bits .and .u64 (x : Int) 4294967295 = ((x % 4294967296 : Nat) : Int) := by
  have h := bits_and_u64_nat x 4294967295 hx (by omega)
  have e : x &&& 4294967295 = x % 4294967296 := Nat.and_two_pow_sub_one_eq_mod x 32
  rw [e] at h
  exact h
theorem wrap_nat {x : Int} {n : Nat} (h : x = (n : Int)) (hn : n < 18446744073709551616) : IntKind.u64.wrap x = (n : Int) := by
  rw [IntKind.wrap_u64, h]
  omega
theorem infoFe : (Try.prog.info? 35).map (·.size) = some 5 := by kernel_rfl
theorem sizeFe (f : Fe5) : (Try.prog.info? 35).map (·.size) = some (feC f).size := infoFe
theorem one_fe (f : Fe5) : (feC f).all (·.oneCell') = true := by simp [feC, Value.oneCell']

theorem heap_at1 (w : World) (o o' : Obj) : ((w.alloc o).alloc o').heap[w.heap.size + 1]? = some o' := by
  have := heap_alloc_new (w.alloc o) o'
  rwa [World.size_alloc] at this

theorem ret_fe {fn : Func} {p : Tmp} (h : fn.results = #[.cell p 35]) (tmps : Array Value) (w : World) (g : Nat) (t : TypeId) (c0 c1 c2 c3 c4 : Value) (fr : Nat × Nat)
    (hp : tmps.getD p undef = .pointer (some ⟨g, 0, none⟩)) (hg : w.heap[g]? = some (.cells #[c0, c1, c2, c3, c4] t fr)) : (results fn tmps).run Try.prog w = .ok (.agg #[c0, c1, c2, c3, c4]) w :=
  results_cell_row h tmps w g t _ fr _ hp hg Try.underlying35 rfl infoFe

set_option maxHeartbeats 400000 in
theorem carried_any (f : Fe5) (w : World) (hf : WordF f) :
    Calls Try.prog 43 #[.agg (feC f)] w fun e w' => e = .returned (.agg (feC (carU f))) ∧ Below w.heap.size w w' := by
  obtain ⟨x0, x1, x2, x3, x4⟩ := f
  obtain ⟨h0, h1, h2, h3, h4⟩ := hf
  simp only at h0 h1 h2 h3 h4
  simp only [feC, carU]
  go_enter Try.func43, Try.ntmps43
  go_wp2_with fail
  refine bodyPost_ret (ret_fe rfl _ _ (w.heap.size + 1) _ _ _ _ _ _ (0, 0) rfl (heap_at1 _ _ _)) rfl ⟨?_, ((Below.refl _ _).alloc (Nat.le_refl _) _).alloc (al0 _ _) _⟩
  have k0 := mask51 h0
  have k1 := mask51 h1
  have k2 := mask51 h2
  have k3 := mask51 h3
  have k4 := mask51 h4
  rw [k0, k1, k2, k3, k4]
  rw [wrap_nat (n := x0 % 2251799813685248 + 19 * (x4 / 2251799813685248)) (by omega) (by omega), wrap_nat (n := x1 % 2251799813685248 + x0 / 2251799813685248) (by omega) (by omega), wrap_nat (n := x2 % 2251799813685248 + x1 / 2251799813685248) (by omega) (by omega), wrap_nat (n := x3 % 2251799813685248 + x2 / 2251799813685248) (by omega) (by omega), wrap_nat (n := x4 % 2251799813685248 + x3 / 2251799813685248) (by omega) (by omega)]

theorem or_lt52 (a b : Nat) : a ||| b < 4503599627370496 ↔ a < 4503599627370496 ∧ b < 4503599627370496 := by
  constructor
  · intro h
    exact ⟨Nat.lt_of_le_of_lt Nat.left_le_or h, Nat.lt_of_le_of_lt Nat.right_le_or h⟩
  · intro ⟨h1, h2⟩
    exact Nat.or_lt_two_pow (n := 52) h1 h2
theorem or_lt64 {a b : Nat} (h1 : a < 18446744073709551616) (h2 : b < 18446744073709551616) : a ||| b < 18446744073709551616 := Nat.or_lt_two_pow (n := 64) h1 h2

def errU (f : Fe5) : Int := if MayF f then 0 else 1

set_option maxRecDepth 100000 in
theorem FeCheck_any (f : Fe5) (w : World) (hf : WordF f) :
    Calls Try.prog 42 #[.agg (feC f)] w fun e w' => e = .returned (.int .i64 (errU f)) ∧ Below w.heap.size w w' := by
  obtain ⟨x0, x1, x2, x3, x4⟩ := f
  obtain ⟨h0, h1, h2, h3, h4⟩ := hf
  simp only at h0 h1 h2 h3 h4
  have o1 := bits_or_u64_nat x0 x1 h0 h1
  have o2 := bits_or_u64_nat _ x2 (or_lt64 h0 h1) h2
  have o3 := bits_or_u64_nat _ x3 (or_lt64 (or_lt64 h0 h1) h2) h3
  have o4 := bits_or_u64_nat _ x4 (or_lt64 (or_lt64 (or_lt64 h0 h1) h2) h3) h4
  have Hm : MayF ⟨x0, x1, x2, x3, x4⟩ ↔ (x0 ||| x1 ||| x2 ||| x3 ||| x4) < 4503599627370496 := by
    rw [or_lt52, or_lt52, or_lt52, or_lt52]
    simp only [MayF]
    omega
  simp only [feC]
  unfold errU
  generalize x0 ||| x1 ||| x2 ||| x3 ||| x4 = y4 at *
  generalize x0 ||| x1 ||| x2 ||| x3 = y3 at *
  generalize x0 ||| x1 ||| x2 = y2 at *
  generalize x0 ||| x1 = y1 at *
  by_cases hm : MayF ⟨x0, x1, x2, x3, x4⟩
  · rw [if_pos hm]
    have hb : decide ((4503599627370496 : Int) ≤ (y4 : Int)) = false := by
      have := Hm.1 hm
      exact decide_eq_false (by omega)
    clear Hm hm
    go_enter Try.func42, Try.ntmps42
    go_wp2_with fail
    go_ret
    exact ⟨rfl, (Below.refl _ _).alloc (Nat.le_refl _) _⟩
  · rw [if_neg hm]
    have hb : decide ((4503599627370496 : Int) ≤ (y4 : Int)) = true := by
      have := mt Hm.2 hm
      exact decide_eq_true (by omega)
    clear Hm hm
    go_enter Try.func42, Try.ntmps42
    go_wp2_with fail
    go_ret
    exact ⟨rfl, (Below.refl _ _).alloc (Nat.le_refl _) _⟩

def mayB (f : Fe5) : Bool := decide (MayF f)

theorem mayBe_any (f : Fe5) (w : World) (hf : WordF f) :
    Calls Try.prog 31 #[.agg (feC f)] w fun e w' => e = .returned (.bool (mayB f)) ∧ Below w.heap.size w w' := by
  have Hf := Lib.hid hf
  have He : ((errU f) == 0) = mayB f := by
    unfold errU mayB
    by_cases h : MayF f
    · rw [if_pos h, decide_eq_true h]; rfl
    · rw [if_neg h, decide_eq_false h]; rfl
  have hs := sizeFe f
  clear hf
  generalize hc : feC f = cs at *
  go_enter Try.func31, Try.ntmps31
  go_wp2_with ((with_reducible show wpList _ _ _ (⟨some 3, _, _, _, _, _⟩ :: _) _ _); refine wpList_loadC (by rfl) 35 (.tmp 1) rfl w.heap.size rfl 35 cs _ (RowC.new _ _ _) Try.underlying35 rfl hs ?_)
  have k := FeCheck_any f (w.alloc (.cells cs 35)) Hf.out
  rw [hc] at k
  refine k.mono ?_
  rintro e w2 ⟨rfl, hb2⟩
  go_wp2_with fail
  go_ret
  exact ⟨rfl, ((Below.refl _ _).alloc (Nat.le_refl _) _).trans (hb2.mono (al0 _ _))⟩

theorem place_any (i : Nat) (w : World) (hi : i < 5) :
    Calls Try.prog 33 #[.int .i64 (i : Int)] w fun e w' => e = .returned (.tuple #[.int .i64 ((51 * i / 8 : Nat) : Int), .int .i64 ((51 * i % 8 : Nat) : Int)]) ∧ w' = w := by
  go_enter Try.func33, Try.ntmps33
  go_wp2_with fail
  go_ret2
  exact ⟨rfl, rfl⟩

end Go.Proofs.Ytimgnpcojamafaa
