/-
  WHAT THE LAWS OF LAYER 5 ARE WALKED BY: the document's May; the program's calls as they answer for numbers that may be; congruences.
-/
import Derived.Test.YtbkdlmneidboaaaFeLive
import Derived.Test.YtbkdlmneidboaaaFeG
set_option linter.unusedVariables false
namespace Go.Proofs.Ytbkdlmneidboaaa
open Go.RowKit

set_option maxRecDepth 100000 in
theorem May_any (f : Fe5) (w : World) (hf : WordF f) :
    Calls Try.prog 24 #[.agg (feC f)] w fun e w' => e = .returned (.bool (mayB f)) ∧ Below w.heap.size w w' := by
  have hM0 := (Ms.nil w).box 37 (feC f)
  have hs0 := Lib.hid (sizeFe f)
  have hi5 := fun k (hk : k < 5) => qC_at (prt_at f hk)
  have Hi5 := Lib.hid hi5
  have Hall : (∀ k, k < 5 → prt f k < 4503599627370496) → MayF f := fun h => ⟨h 0 (by omega), h 1 (by omega), h 2 (by omega), h 3 (by omega), h 4 (by omega)⟩
  have Hnot : ∀ k, k < 5 → ¬ prt f k < 4503599627370496 → ¬ MayF f := fun k hk h hm => h (prt_lt hm k)
  rw [feC_q] at hM0 hs0 ⊢
  clear hi5 hf
  generalize qC [f.a0, f.a1, f.a2, f.a3, f.a4] = cc at *
  obtain ⟨i0, hi0⟩ := quad_info
  go_enter Try.func24, Try.ntmps24
  go_wp2_with ((with_reducible show wpList _ _ _ (⟨some 5, _, _, _, _, _⟩ :: _) _ _); refine wpList_loadC (by kernel_rfl) 37 (.tmp 1) rfl w.heap.size rfl 37 cc _ (hM0.get 0 rfl) Try.underlying37 rfl hs0.out ?_)
  have hold := hM0.old
  clear hM0 hs0
  generalize w.alloc (.cells cc 37) = w1 at *
  go_loopw [6] (fun i wr => ∃ n : Nat, n ≤ 5 ∧ i = .int .i64 (n : Int) ∧ (∀ k, k < n → prt f k < 4503599627370496) ∧ w1 = wr) (fun i _ => (5 - intOf i).toNat)
  case atStart => exact ⟨0, by omega, rfl, fun k hk => by omega, rfl⟩
  case round =>
    obtain ⟨n, hn, rfl, Hlow, rfl⟩ := hrel
    by_cases hlt : n < 5
    · have hix := Hi5.out n hlt
      have j0 : 0 ≤ (n : Int) := by omega
      have j1 : (n : Int) < 5 := by omega
      have Hlow' := Lib.hid Hlow
      by_cases hq : prt f n < 4503599627370496
      · have Hq := Lib.hid hq
        have hb : decide ((4503599627370496 : Int) ≤ (prt f n : Int)) = false := decide_eq_false (by omega)
        clear hq Hlow Hall Hnot
        generalize hx : prt f n = x at *
        have Hx := Lib.hid hx
        clear hx
        go_wp2_with ((with_reducible show wpList _ _ _ (⟨some 8, _, _, _, _, _⟩ :: _) _ _); refine wpList_index_cell rfl (some 8) rfl 37 (.tmp 5) (.tmp 6) rfl cc rfl n rfl 5 35 Try.underlying37 quad_plain i0 hi0 quadCells _ hix hlt ?_)
        refine ⟨⟨n + 1, by omega, by go_num, fun k hk => ?_, trivial⟩, by simp [intOf]; omega⟩
        rcases Nat.lt_or_ge k n with h | h
        · exact Hlow'.out k h
        · obtain rfl : k = n := by omega
          rw [Hx.out]
          exact Hq.out
      · have Hnm := Lib.hid (Hnot n hlt hq)
        have hb : decide ((4503599627370496 : Int) ≤ (prt f n : Int)) = true := decide_eq_true (by omega)
        clear hq Hlow Hall Hnot
        generalize prt f n = x at *
        go_wp2_with ((with_reducible show wpList _ _ _ (⟨some 8, _, _, _, _, _⟩ :: _) _ _); refine wpList_index_cell rfl (some 8) rfl 37 (.tmp 5) (.tmp 6) rfl cc rfl n rfl 5 35 Try.underlying37 quad_plain i0 hi0 quadCells _ hix hlt ?_)
        go_ret
        exact ⟨by rw [mayB_false Hnm.out]; rfl, hold⟩
    · obtain rfl : n = 5 := by omega
      have Hm := Lib.hid (Hall Hlow)
      rw [show ((5 : Nat) : Int) = 5 from rfl]
      clear Hlow Hall Hnot
      go_wp2_with fail
      go_ret
      exact ⟨by rw [mayB_true Hm.out]; rfl, hold⟩

theorem May_true (f : Fe5) (w : World) (hf : MayF f) : Calls Try.prog 24 #[.agg (feC f)] w fun e w' => e = .returned (.bool true) ∧ Below w.heap.size w w' := by
  have := May_any f w hf.word
  rwa [mayB_true hf] at this
theorem May_false (f : Fe5) (w : World) (hw : WordF f) (hf : ¬ MayF f) : Calls Try.prog 24 #[.agg (feC f)] w fun e w' => e = .returned (.bool false) ∧ Below w.heap.size w w' := by
  have := May_any f w hw
  rwa [mayB_false hf] at this

theorem same_of {x y : Fe5} (hx : MayF x) (hy : MayF y) (h : valF x % P25 = valF y % P25) : sameU x y = true := by
  rw [sameU, mayB_true hx, mayB_true hy, h]
  simp
theorem Same_true (x y : Fe5) (w : World) (hx : MayF x) (hy : MayF y) (h : valF x % P25 = valF y % P25) :
    Calls Try.prog 26 #[.agg (feC x), .agg (feC y)] w fun e w' => e = .returned (.bool true) ∧ Below w.heap.size w w' := by
  have := FeSame_any x y w hx.word hy.word
  rwa [same_of hx hy h] at this
theorem Same_val (x y : Fe5) (w : World) (hx : MayF x) (hy : MayF y) (b : Bool) (h : (valF x % P25 == valF y % P25) = b) :
    Calls Try.prog 26 #[.agg (feC x), .agg (feC y)] w fun e w' => e = .returned (.bool b) ∧ Below w.heap.size w w' := by
  have := FeSame_any x y w hx.word hy.word
  rwa [show sameU x y = b by rw [sameU, mayB_true hx, mayB_true hy, h]; simp] at this

theorem add_cong {n a b c d : Nat} (h : a % n = b % n) (k : c % n = d % n) : (a + c) % n = (b + d) % n := by
  rw [Nat.add_mod, h, k, ← Nat.add_mod]
theorem add_cancel {a b c : Nat} (h : (a + c) % P25 = (b + c) % P25) : a % P25 = b % P25 := by
  unfold P25 at *
  omega
theorem fermatP : Fermat P25 := fermat255
theorem fermat25 {a : Nat} (h : a % P25 ≠ 0) : a ^ (P25 - 1) % P25 = 1 % P25 := fermatP a h

def oneF : Fe5 := ⟨1, 0, 0, 0, 0⟩
def twoF : Fe5 := ⟨2, 0, 0, 0, 0⟩
theorem oneF_may : MayF oneF := by decide
theorem twoF_may : MayF twoF := by decide
theorem cells_zero : feC zeroF = #[.int .u64 0, .int .u64 0, .int .u64 0, .int .u64 0, .int .u64 0] := rfl
theorem cells_one : feC oneF = #[.int .u64 1, .int .u64 0, .int .u64 0, .int .u64 0, .int .u64 0] := rfl
theorem cells_two : feC twoF = #[.int .u64 2, .int .u64 0, .int .u64 0, .int .u64 0, .int .u64 0] := rfl

end Go.Proofs.Ytbkdlmneidboaaa
