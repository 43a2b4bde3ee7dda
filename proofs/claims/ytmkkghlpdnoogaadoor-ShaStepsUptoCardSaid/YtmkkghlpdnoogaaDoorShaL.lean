/-
  CONTRACTS of New, Check (package sha): the program's.
-/
import Derived.Test.YtmkkghlpdnoogaaDoorShaK
import Derived.Test.YtmkkghlpdnoogaaDoorEq
import Derived.Deep.RegionHeld3
set_option linter.unusedVariables false
namespace Go.Proofs.YtmkkghlpdnoogaaDoor
open Go.RowKit

theorem hfirst : firstU.length = 8 := rfl
theorem newCells : (shaL firstU 0 (.slice none 0 0)).length = 10 := rfl

set_option maxRecDepth 1000000 in
theorem New_any (w : World) :
    Calls Tryd.prog 22 #[] w fun e w' => e = .returned (.agg (shaL firstU 0 (.slice none 0 0)).toArray) ∧ Below w.heap.size w w' := by
  go_enter Tryd.func22, Tryd.ntmps22
  go_wp2_with ((with_reducible show wpList _ _ _ (⟨none, _, _, _, _, _⟩ :: _) _ _)
               refine wpList_store_row rfl 27 (.tmp 0) (.tmp 2) rfl w.heap.size (shaL firstU 0 (.slice none 0 0)).toArray rfl rfl 27 _ (heap_alloc_new _ _) infoSha rfl (one_sha _ _ _ _ _) ?_
               rw [World.setRow_alloc_new])
  exact bodyPost_ret (results_cell_row rfl _ _ w.heap.size 27 _ (0, 0) _ rfl (heap_alloc_new _ _) Tryd.underlying27 rfl infoSha) rfl ⟨rfl, (Below.refl _ _).alloc (Nat.le_refl _) _⟩

def chkU (h : List UInt32) (n k : Nat) : Bool := decide (n ≤ 1099511627776) && (k == n % 64) && (decide (64 ≤ n) || h == firstU)
def errC (b : Bool) : Int := if b then 0 else 1

theorem chk1 {h : List UInt32} {n k : Nat} (h1 : 1099511627776 < n) : chkU h n k = false := by simp [chkU]; omega
theorem chk2 {h : List UInt32} {n k : Nat} (h1 : ¬ k = n % 64) : chkU h n k = false := by simp [chkU, h1]
theorem chk3 {h : List UInt32} {n k : Nat} (h0 : n ≤ 1099511627776) (h1 : k = n % 64) (h2 : 64 ≤ n) : chkU h n k = true := by simp [chkU, h0, h1, h2]
theorem chk4 {h : List UInt32} {n k : Nat} (h0 : n ≤ 1099511627776) (h1 : k = n % 64) (h2 : n < 64) : chkU h n k = (h == firstU) := by simp [chkU, h0, h1]; omega

set_option maxRecDepth 1000000 in
set_option maxHeartbeats 1000000 in
theorem Check_any (h : List UInt32) (n : Nat) (A : Option Addr) (k c : Nat) (w : World) (hh : h.length = 8) (hn : n < 18446744073709551616) (hk : k ≤ 9223372036854775807) :
    Calls Tryd.prog 19 #[.agg (shaL h n (.slice A k c)).toArray] w fun e w' => e = .returned (.int .i64 (errC (chkU h n k))) ∧ Below w.heap.size w w' := by
  have hS : ShaAt (w.alloc (.cells (shaL h n (.slice A k c)).toArray 27)) w.heap.size h n (.slice A k c) := ⟨hh, heap_alloc_new _ _⟩
  have cN := hS.cellN
  have cV := hS.cellV
  have rW := hS.words
  have hB : Below w.heap.size w (w.alloc (.cells (shaL h n (.slice A k c)).toArray 27)) := (Below.refl _ _).alloc (Nat.le_refl _) _
  by_cases h1 : 1099511627776 < n
  · have d1 : (1099511627776 : Int) < (n : Int) := by omega
    go_enter Tryd.func19, Tryd.ntmps19
    go_wp2_with fail
    go_ret
    rw [chk1 h1]
    exact ⟨rfl, hB⟩
  · have d1 : ¬ (1099511627776 : Int) < (n : Int) := by omega
    by_cases h2 : k = n % 64
    · have d2 : ((k : Int) != (n : Int) % 64) = false := by simp; omega
      have H2 := Lib.hid h2
      clear h2
      by_cases h3 : 64 ≤ n
      · have d3 : decide ((n : Int) < 64) = false := by simp; omega
        go_enter Tryd.func19, Tryd.ntmps19
        go_wp2_with fail
        go_quiet (fail)
        go_wp2_with fail
        go_ret
        rw [chk3 (by omega) H2.out h3]
        exact ⟨rfl, hB.trans ⟨rfl, rfl, rfl, Nat.le_refl _, fun _ _ => rfl⟩⟩
      · have d3 : (n : Int) < 64 := by omega
        rw [chk4 (by omega) H2.out (by omega)]
        obtain ⟨a0, a1, a2, a3, a4, a5, a6, a7, rfl⟩ := eight hh
        have hlt := hS.lt
        have m0 := hS.word (i := 0) (x := a0) rfl
        have m1 := hS.word (i := 1) (x := a1) rfl
        have m2 := hS.word (i := 2) (x := a2) rfl
        have m3 := hS.word (i := 3) (x := a3) rfl
        have m4 := hS.word (i := 4) (x := a4) rfl
        have m5 := hS.word (i := 5) (x := a5) rfl
        have m6 := hS.word (i := 6) (x := a6) rfl
        have m7 := hS.word (i := 7) (x := a7) rfl
        have hnq : ∀ wx : World, (binOp .neq 23 (.agg #[.int .u32 (a0.toNat : Int), .int .u32 (a1.toNat : Int), .int .u32 (a2.toNat : Int), .int .u32 (a3.toNat : Int), .int .u32 (a4.toNat : Int), .int .u32 (a5.toNat : Int), .int .u32 (a6.toNat : Int), .int .u32 (a7.toNat : Int)]) (.agg #[.int .u32 1779033703, .int .u32 3144134277, .int .u32 1013904242, .int .u32 2773480762, .int .u32 1359893119, .int .u32 2600822924, .int .u32 528734635, .int .u32 1541459225])).run Tryd.prog wx = .ok (.bool (!([a0, a1, a2, a3, a4, a5, a6, a7] == firstU))) wx :=
          fun wx => neq_words wx [a0, a1, a2, a3, a4, a5, a6, a7] firstU rfl rfl
        have hfd : ∀ wx : World, (Instr.field 27 (.agg (shaL firstU 0 (.slice none 0 0)).toArray) 0).run Tryd.prog wx = .ok (.agg #[.int .u32 1779033703, .int .u32 3144134277, .int .u32 1013904242, .int .u32 2773480762, .int .u32 1359893119, .int .u32 2600822924, .int .u32 528734635, .int .u32 1541459225]) wx := fun wx => by kernel_rfl
        clear rW
        generalize ([a0, a1, a2, a3, a4, a5, a6, a7] == firstU) = bb at *
        go_enter Tryd.func19, Tryd.ntmps19
        go_wp2_with fail
        refine wp_gen (fun w' => (w'.cell? ⟨w.heap.size, 8, none⟩ = some (.int .u64 (n : Int)) ∧ w'.cell? ⟨w.heap.size, 0, none⟩ = some (.int .u32 (a0.toNat : Int)) ∧ w'.cell? ⟨w.heap.size, 1, none⟩ = some (.int .u32 (a1.toNat : Int)) ∧ w'.cell? ⟨w.heap.size, 2, none⟩ = some (.int .u32 (a2.toNat : Int)) ∧ w'.cell? ⟨w.heap.size, 3, none⟩ = some (.int .u32 (a3.toNat : Int)) ∧ w'.cell? ⟨w.heap.size, 4, none⟩ = some (.int .u32 (a4.toNat : Int)) ∧ w'.cell? ⟨w.heap.size, 5, none⟩ = some (.int .u32 (a5.toNat : Int)) ∧ w'.cell? ⟨w.heap.size, 6, none⟩ = some (.int .u32 (a6.toNat : Int)) ∧ w'.cell? ⟨w.heap.size, 7, none⟩ = some (.int .u32 (a7.toNat : Int))) ∧ w.heap.size < w'.heap.size ∧ Below w.heap.size w w') ⟨⟨cN, m0, m1, m2, m3, m4, m5, m6, m7⟩, hlt, hB⟩ ?_
        clear cN cV hB hS hlt m0 m1 m2 m3 m4 m5 m6 m7
        rintro w1 ⟨⟨cN, m0, m1, m2, m3, m4, m5, m6, m7⟩, hlt, hB⟩
        go_region_held3 (fun w' => w'.cell? ⟨w.heap.size, 8, none⟩ = some (.int .u64 (n : Int)) ∧ w'.cell? ⟨w.heap.size, 0, none⟩ = some (.int .u32 (a0.toNat : Int)) ∧ w'.cell? ⟨w.heap.size, 1, none⟩ = some (.int .u32 (a1.toNat : Int)) ∧ w'.cell? ⟨w.heap.size, 2, none⟩ = some (.int .u32 (a2.toNat : Int)) ∧ w'.cell? ⟨w.heap.size, 3, none⟩ = some (.int .u32 (a3.toNat : Int)) ∧ w'.cell? ⟨w.heap.size, 4, none⟩ = some (.int .u32 (a4.toNat : Int)) ∧ w'.cell? ⟨w.heap.size, 5, none⟩ = some (.int .u32 (a5.toNat : Int)) ∧ w'.cell? ⟨w.heap.size, 6, none⟩ = some (.int .u32 (a6.toNat : Int)) ∧ w'.cell? ⟨w.heap.size, 7, none⟩ = some (.int .u32 (a7.toNat : Int)))
          (first | go_keep | (go_split_ands; refine ⟨?_, ?_, ?_, ?_, ?_, ?_, ?_, ?_, ?_⟩ <;> (rw [hb2.cell (by simp; omega)]; assumption)))
          (first | (go_at_call 22; refine (New_any _).mono ?_; rintro e w2 ⟨rfl, hb2⟩))
        have hB2 : Below w.heap.size w w2 := hB.trans ((⟨rfl, rfl, rfl, Nat.le_refl _, fun _ _ => rfl⟩ : Below w.heap.size w1 w1.drew).trans (hb2.mono (by simp; omega)))
        cases bb
        all_goals
          go_wp2_with fail
          go_ret
          exact ⟨rfl, hB2⟩
    · have d2 : ((k : Int) != (n : Int) % 64) = true := by simp; omega
      go_enter Tryd.func19, Tryd.ntmps19
      go_wp2_with fail
      go_ret
      rw [chk2 h2]
      exact ⟨rfl, hB⟩

end Go.Proofs.YtmkkghlpdnoogaaDoor
