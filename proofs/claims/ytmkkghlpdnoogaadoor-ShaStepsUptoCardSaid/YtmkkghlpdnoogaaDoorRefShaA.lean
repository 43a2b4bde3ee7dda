/-
  CONTRACTS of the document's own New and Check (coterieref02).
-/
import Derived.Test.YtmkkghlpdnoogaaDoorShaQ
import Derived.Test.YtmkkghlpdnoogaaDoorShaE
import Derived.Deep.RegionHeld3
set_option linter.unusedVariables false
namespace Go.Proofs.YtmkkghlpdnoogaaDoor
open Go.RowKit

set_option maxRecDepth 1000000 in
theorem rNew_any (w : World) :
    Calls Tryd.prog 23 #[] w fun e w' => e = .returned (.agg (shaL firstU 0 (.slice none 0 0)).toArray) ∧ Below w.heap.size w w' := by
  go_enter Tryd.func23, Tryd.ntmps23
  go_wp2_with fail
  refine (First_any _).mono ?_
  rintro e w2 ⟨rfl, hb2⟩
  have hR2 : w2.heap[w.heap.size]? = some (.cells zeroSha.toArray 27 (0, 0)) := (hb2.block _ (by simp)).trans (heap_alloc_new _ _)
  have hB2 : Below w.heap.size w w2 := ((Below.refl _ _).alloc (Nat.le_refl _) _).trans (hb2.mono (al0 _ _))
  go_wp2_with ((with_reducible show wpList _ _ _ (⟨none, _, _, _, _, _⟩ :: _) _ _)
               refine wpList_store_row rfl 27 (.tmp 0) (.tmp 2) rfl w.heap.size (shaL firstU 0 (.slice none 0 0)).toArray rfl rfl 27 _ hR2 infoSha rfl (one_sha _ _ _ _ _) ?_)
  exact bodyPost_ret (results_cell_row rfl _ _ w.heap.size 27 _ (0, 0) _ rfl (setRow_heap _ _ _ _ _ _ hR2) Tryd.underlying27 rfl infoSha) rfl ⟨rfl, below_setRow hB2 (Nat.le_refl _) _⟩

set_option maxRecDepth 1000000 in
set_option maxHeartbeats 2000000 in
theorem rCheck_any (h : List UInt32) (n : Nat) (A : Option Addr) (k c : Nat) (w : World) (hh : h.length = 8) (hn : n < 18446744073709551616) (hk : k ≤ 9223372036854775807) :
    Calls Tryd.prog 20 #[.agg (shaL h n (.slice A k c)).toArray] w fun e w' => e = .returned (.int .i64 (errC (chkU h n k))) ∧ Below w.heap.size w w' := by
  have hS : ShaAt (w.alloc (.cells (shaL h n (.slice A k c)).toArray 27)) w.heap.size h n (.slice A k c) := ⟨hh, heap_alloc_new _ _⟩
  have cN := hS.cellN
  have cV := hS.cellV
  have hB : Below w.heap.size w (w.alloc (.cells (shaL h n (.slice A k c)).toArray 27)) := (Below.refl _ _).alloc (Nat.le_refl _) _
  obtain ⟨a0, a1, a2, a3, a4, a5, a6, a7, rfl⟩ := eight hh
  have hlt := hS.lt
  have m0 := hS.word (i := 0) (x := a0) rfl
  have m1 := hS.word (i := 1) (x := a1) rfl
  have m2 := hS.word (i := 2) (x := a2) rfl
  have m3 := hS.word (i := 3) (x := a3) rfl
  have m4 := hS.word (i := 4) (x := a4) rfl
  have m5 := hS.word (i := 5) (x := a5) rfl
  have m6 := hS.word (i := 6) (x := a6) rfl
  have m7 := hS.word (i := 7) (x := a7) rfl
  have hnq : ∀ wx : World, (binOp .neq 23 (.agg #[.int .u32 (a0.toNat : Int), .int .u32 (a1.toNat : Int), .int .u32 (a2.toNat : Int), .int .u32 (a3.toNat : Int), .int .u32 (a4.toNat : Int), .int .u32 (a5.toNat : Int), .int .u32 (a6.toNat : Int), .int .u32 (a7.toNat : Int)]) (.agg #[.int .u32 1779033703, .int .u32 3144134277, .int .u32 1013904242, .int .u32 2773480762, .int .u32 1359893119, .int .u32 2600822924, .int .u32 528734635, .int .u32 1541459225])).run Tryd.prog wx = .ok (.bool (!([a0, a1, a2, a3, a4, a5, a6, a7] == firstU))) wx :=
    fun wx => neq_words wx [a0, a1, a2, a3, a4, a5, a6, a7] firstU rfl rfl
  have hnq2 : ∀ wx : World, (binOp .neq 23 (.agg #[.int .u32 (a0.toNat : Int), .int .u32 (a1.toNat : Int), .int .u32 (a2.toNat : Int), .int .u32 (a3.toNat : Int), .int .u32 (a4.toNat : Int), .int .u32 (a5.toNat : Int), .int .u32 (a6.toNat : Int), .int .u32 (a7.toNat : Int)]) (.agg (firstU.map wv).toArray)).run Tryd.prog wx = .ok (.bool (!([a0, a1, a2, a3, a4, a5, a6, a7] == firstU))) wx :=
    fun wx => neq_words wx [a0, a1, a2, a3, a4, a5, a6, a7] firstU rfl rfl
  have hE : ∃ b : Bool, b = chkU [a0, a1, a2, a3, a4, a5, a6, a7] n k := ⟨_, rfl⟩
  obtain ⟨b, hb⟩ := hE
  rw [← hb]
  have Hb1 := Lib.hid (fun h1 : 1099511627776 < n => hb.trans (chk1 h1))
  have Hb2 := Lib.hid (fun h1 : ¬ k = n % 64 => hb.trans (chk2 h1))
  have Hb3 := Lib.hid (fun (h0 : n ≤ 1099511627776) (h1 : k = n % 64) (h2 : 64 ≤ n) => hb.trans (chk3 h0 h1 h2))
  have Hb4 := Lib.hid (fun (h0 : n ≤ 1099511627776) (h1 : k = n % 64) (h2 : n < 64) => hb.trans (chk4 h0 h1 h2))
  clear hb
  generalize ([a0, a1, a2, a3, a4, a5, a6, a7] == firstU) = bb at *
  go_enter Tryd.func20, Tryd.ntmps20
  go_wp2_with fail
  refine wp_gen (fun w' => (w'.cell? ⟨w.heap.size, 8, none⟩ = some (.int .u64 (n : Int)) ∧ w'.cell? ⟨w.heap.size, 0, none⟩ = some (.int .u32 (a0.toNat : Int)) ∧ w'.cell? ⟨w.heap.size, 1, none⟩ = some (.int .u32 (a1.toNat : Int)) ∧ w'.cell? ⟨w.heap.size, 2, none⟩ = some (.int .u32 (a2.toNat : Int)) ∧ w'.cell? ⟨w.heap.size, 3, none⟩ = some (.int .u32 (a3.toNat : Int)) ∧ w'.cell? ⟨w.heap.size, 4, none⟩ = some (.int .u32 (a4.toNat : Int)) ∧ w'.cell? ⟨w.heap.size, 5, none⟩ = some (.int .u32 (a5.toNat : Int)) ∧ w'.cell? ⟨w.heap.size, 6, none⟩ = some (.int .u32 (a6.toNat : Int)) ∧ w'.cell? ⟨w.heap.size, 7, none⟩ = some (.int .u32 (a7.toNat : Int)) ∧ w'.cell? ⟨w.heap.size, 9, none⟩ = some (.slice A k c)) ∧ w.heap.size < w'.heap.size ∧ Below w.heap.size w w') ⟨⟨cN, m0, m1, m2, m3, m4, m5, m6, m7, cV⟩, hlt, hB⟩ ?_
  clear cN cV hB hS hlt m0 m1 m2 m3 m4 m5 m6 m7
  rintro w1 ⟨⟨cN, m0, m1, m2, m3, m4, m5, m6, m7, cV⟩, hlt, hB⟩
  have h3 : (1099511627776 < n) ∨ (n ≤ 1099511627776 ∧ ¬ k = n % 64) ∨ (n ≤ 1099511627776 ∧ k = n % 64 ∧ 64 ≤ n) ∨ (n ≤ 1099511627776 ∧ k = n % 64 ∧ n < 64) := by omega
  rcases h3 with h1 | ⟨h1, h2⟩ | ⟨h1, h2, h3⟩ | ⟨h1, h2, h3⟩
  · have d1 : (1099511627776 : Int) < (n : Int) := by omega
    obtain rfl := Hb1.out h1
    clear Hb1 Hb2 Hb3 Hb4
    go_quiet (fail)
    go_wp2_with fail
    go_ret
    exact ⟨rfl, hB.trans ⟨rfl, rfl, rfl, Nat.le_refl _, fun _ _ => rfl⟩⟩
  · have d1 : ¬ (1099511627776 : Int) < (n : Int) := by omega
    have d2 : ((k : Int) != (n : Int) % 64) = true := by simp; omega
    obtain rfl := Hb2.out h2
    clear Hb1 Hb2 Hb3 Hb4
    go_quiet (fail)
    go_wp2_with fail
    go_ret
    exact ⟨rfl, hB.trans ⟨rfl, rfl, rfl, Nat.le_refl _, fun _ _ => rfl⟩⟩
  · have d1 : ¬ (1099511627776 : Int) < (n : Int) := by omega
    have d2 : ((k : Int) != (n : Int) % 64) = false := by simp; omega
    have d3 : decide ((n : Int) < 64) = false := by simp; omega
    obtain rfl := Hb3.out h1 h2 h3
    clear Hb1 Hb2 Hb3 Hb4 h2
    go_quiet (fail)
    go_wp2_with fail
    go_ret
    exact ⟨rfl, hB.trans ⟨rfl, rfl, rfl, Nat.le_refl _, fun _ _ => rfl⟩⟩
  · have d1 : ¬ (1099511627776 : Int) < (n : Int) := by omega
    have d2 : ((k : Int) != (n : Int) % 64) = false := by simp; omega
    have d3 : (n : Int) < 64 := by omega
    have d4 : (IntKind.u64.wrap (k : Int) != Int.tmod (n : Int) 64) = false := by
      have e1 : IntKind.u64.wrap (k : Int) = k := by rw [IntKind.wrap_u64]; omega
      have e2 : Int.tmod (n : Int) 64 = (n : Int) % 64 := Int.tmod_eq_emod_of_nonneg (by omega)
      rw [e1, e2]; exact d2
    obtain rfl := Hb4.out h1 h2 h3
    clear Hb1 Hb2 Hb3 Hb4 h2
    go_region_held3 (fun w' => w'.cell? ⟨w.heap.size, 8, none⟩ = some (.int .u64 (n : Int)) ∧ w'.cell? ⟨w.heap.size, 0, none⟩ = some (.int .u32 (a0.toNat : Int)) ∧ w'.cell? ⟨w.heap.size, 1, none⟩ = some (.int .u32 (a1.toNat : Int)) ∧ w'.cell? ⟨w.heap.size, 2, none⟩ = some (.int .u32 (a2.toNat : Int)) ∧ w'.cell? ⟨w.heap.size, 3, none⟩ = some (.int .u32 (a3.toNat : Int)) ∧ w'.cell? ⟨w.heap.size, 4, none⟩ = some (.int .u32 (a4.toNat : Int)) ∧ w'.cell? ⟨w.heap.size, 5, none⟩ = some (.int .u32 (a5.toNat : Int)) ∧ w'.cell? ⟨w.heap.size, 6, none⟩ = some (.int .u32 (a6.toNat : Int)) ∧ w'.cell? ⟨w.heap.size, 7, none⟩ = some (.int .u32 (a7.toNat : Int)) ∧ w'.cell? ⟨w.heap.size, 9, none⟩ = some (.slice A k c))
      (first | go_keep | (go_split_ands; refine ⟨?_, ?_, ?_, ?_, ?_, ?_, ?_, ?_, ?_, ?_⟩ <;> (rw [hb2.cell (by simp; omega)]; assumption)))
      (first | (go_at_call 44; refine (First_any _).mono ?_; rintro e w2 ⟨rfl, hb2⟩))
    have hB2 : Below w.heap.size w w2 := hB.trans ((⟨rfl, rfl, rfl, Nat.le_refl _, fun _ _ => rfl⟩ : Below w.heap.size w1 w1.drew).trans (hb2.mono (by simp; omega)))
    cases b
    all_goals
      go_wp2_with fail
      go_ret
      exact ⟨rfl, hB2⟩

end Go.Proofs.YtmkkghlpdnoogaaDoor
