/-
  CONTRACTS of the program's Add, Sub, Mul (package fe).
-/
import Derived.Test.YtimgnpcojamafaaFeC
import Derived.Test.YtimgnpcojamafaaFeD
set_option linter.unusedVariables false
namespace Go.Proofs.Ytimgnpcojamafaa
open Go.RowKit

def zeroF : Fe5 := ⟨0, 0, 0, 0, 0⟩
theorem zeroF_may : MayF zeroF := by decide
theorem mayB_true {f : Fe5} (h : MayF f) : mayB f = true := decide_eq_true h
theorem mayB_false {f : Fe5} (h : ¬ MayF f) : mayB f = false := decide_eq_false h

set_option maxRecDepth 100000 in
theorem Add_bad1 (a b : Fe5) (w : World) (ha : WordF a) (hb : WordF b) (h : ¬ MayF a) :
    Calls Try.prog 34 #[.agg (feC a), .agg (feC b)] w fun e w' => e = .returned (.tuple #[.agg (feC zeroF), .int .i64 1]) ∧ Below w.heap.size w w' := by
  have hM0 := (((Ms.nil w).box 35 (feC a)).box 35 (feC b)).box 35 #[.int .u64 0, .int .u64 0, .int .u64 0, .int .u64 0, .int .u64 0]
  simp only [World.size_alloc] at hM0
  have hs0 := Lib.hid (sizeFe a)
  have hs1 := Lib.hid (sizeFe b)
  have hz := Lib.hid (sizeFe zeroF)
  have hzo := Lib.hid (one_fe zeroF)
  have hzc : feC zeroF = #[.int .u64 0, .int .u64 0, .int .u64 0, .int .u64 0, .int .u64 0] := rfl
  have hma := fun wx => mayBe_any a wx ha
  rw [mayB_false h] at hma
  rw [hzc] at hz hzo ⊢
  clear ha hb h hzc
  generalize feC a = ca at *
  generalize feC b = cb at *
  go_enter Try.func34, Try.ntmps34
  go_wp2_with ((with_reducible show wpList _ _ _ (⟨some 6, _, _, _, _, _⟩ :: _) _ _); refine wpList_loadC (by kernel_rfl) 35 (.tmp 2) rfl (w.heap.size) rfl 35 ca _ (hM0.get 2 rfl) Try.underlying35 rfl hs0.out ?_)
  refine (hma _).mono ?_
  rintro e w1 ⟨rfl, hb1⟩
  have hM1 := hM0.call hb1
  go_wp2_with ((with_reducible show wpList _ _ _ (⟨none, Op.store 35 _ _, _, _, _, _⟩ :: _) _ _); refine wpList_store_row rfl 35 (.tmp 4) (.tmp 14) rfl (w.heap.size + 1 + 1) #[.int .u64 0, .int .u64 0, .int .u64 0, .int .u64 0, .int .u64 0] rfl rfl 35 _ (hM1.get 0 rfl) hz.out rfl hzo.out ?_)
  exact bodyPost_ret (results_cell_two rfl _ _ (w.heap.size + 1 + 1) 35 _ _ rfl ((hM1.get 0 rfl).row _) Try.underlying35 rfl hz.out) rfl ⟨rfl, below_setRow hM1.old (by omega) _⟩

set_option maxRecDepth 100000 in
theorem Add_bad2 (a b : Fe5) (w : World) (ha : WordF a) (hb : WordF b) (h1 : MayF a) (h : ¬ MayF b) :
    Calls Try.prog 34 #[.agg (feC a), .agg (feC b)] w fun e w' => e = .returned (.tuple #[.agg (feC zeroF), .int .i64 1]) ∧ Below w.heap.size w w' := by
  have hM0 := (((Ms.nil w).box 35 (feC a)).box 35 (feC b)).box 35 #[.int .u64 0, .int .u64 0, .int .u64 0, .int .u64 0, .int .u64 0]
  simp only [World.size_alloc] at hM0
  have hs0 := Lib.hid (sizeFe a)
  have hs1 := Lib.hid (sizeFe b)
  have hz := Lib.hid (sizeFe zeroF)
  have hzo := Lib.hid (one_fe zeroF)
  have hzc : feC zeroF = #[.int .u64 0, .int .u64 0, .int .u64 0, .int .u64 0, .int .u64 0] := rfl
  have hma := fun wx => mayBe_any a wx ha
  rw [mayB_true h1] at hma
  have hmb := fun wx => mayBe_any b wx hb
  rw [mayB_false h] at hmb
  rw [hzc] at hz hzo ⊢
  clear ha hb h hzc h1
  generalize feC a = ca at *
  generalize feC b = cb at *
  go_enter Try.func34, Try.ntmps34
  go_wp2_with ((with_reducible show wpList _ _ _ (⟨some 6, _, _, _, _, _⟩ :: _) _ _); refine wpList_loadC (by kernel_rfl) 35 (.tmp 2) rfl (w.heap.size) rfl 35 ca _ (hM0.get 2 rfl) Try.underlying35 rfl hs0.out ?_)
  refine (hma _).mono ?_
  rintro e w1 ⟨rfl, hb1⟩
  have hM1 := hM0.call hb1
  go_wp2_with ((with_reducible show wpList _ _ _ (⟨some 10, _, _, _, _, _⟩ :: _) _ _); refine wpList_loadC (by kernel_rfl) 35 (.tmp 3) rfl (w.heap.size + 1) rfl 35 cb _ (hM1.get 1 rfl) Try.underlying35 rfl hs1.out ?_)
  refine (hmb _).mono ?_
  rintro e w2 ⟨rfl, hb2⟩
  have hM2 := hM1.call hb2
  go_wp2_with ((with_reducible show wpList _ _ _ (⟨none, Op.store 35 _ _, _, _, _, _⟩ :: _) _ _); refine wpList_store_row rfl 35 (.tmp 4) (.tmp 14) rfl (w.heap.size + 1 + 1) #[.int .u64 0, .int .u64 0, .int .u64 0, .int .u64 0, .int .u64 0] rfl rfl 35 _ (hM2.get 0 rfl) hz.out rfl hzo.out ?_)
  exact bodyPost_ret (results_cell_two rfl _ _ (w.heap.size + 1 + 1) 35 _ _ rfl ((hM2.get 0 rfl).row _) Try.underlying35 rfl hz.out) rfl ⟨rfl, below_setRow hM2.old (by omega) _⟩

set_option maxHeartbeats 1000000 in
set_option maxRecDepth 100000 in
theorem Add_ok (a b : Fe5) (w : World) (ha : MayF a) (hb : MayF b) :
    Calls Try.prog 34 #[.agg (feC a), .agg (feC b)] w fun e w' => e = .returned (.tuple #[.agg (feC (addQ a b)), .int .i64 0]) ∧ Below w.heap.size w w' := by
  have hM0 := (((Ms.nil w).box 35 (feC a)).box 35 (feC b)).box 35 #[.int .u64 0, .int .u64 0, .int .u64 0, .int .u64 0, .int .u64 0]
  simp only [World.size_alloc] at hM0
  have hs0 := Lib.hid (sizeFe a)
  have hs1 := Lib.hid (sizeFe b)
  have hma := fun wx => mayBe_any a wx ha.word
  rw [mayB_true ha] at hma
  have hmb := fun wx => mayBe_any b wx hb.word
  rw [mayB_true hb] at hmb
  have hz := Lib.hid (sizeFe (addQ a b))
  have hzz := Lib.hid (show (#[.int .u64 0, .int .u64 0, .int .u64 0, .int .u64 0, .int .u64 0] : Array Value).size = (feC (addQ a b)).size from rfl)
  have hzo := Lib.hid (one_fe (addQ a b))
  have hp := fun wx => carried_any (addS a b) wx (addS_word ha hb)
  rw [show carU (addS a b) = addQ a b from rfl] at hp
  generalize feC (addQ a b) = fa at *
  obtain ⟨x0, x1, x2, x3, x4⟩ := a
  obtain ⟨y0, y1, y2, y3, y4⟩ := b
  obtain ⟨h0, h1, h2, h3, h4⟩ := ha
  obtain ⟨k0, k1, k2, k3, k4⟩ := hb
  simp only at h0 h1 h2 h3 h4 k0 k1 k2 k3 k4
  simp only [feC, addS] at *
  have e0 : IntKind.u64.wrap ((x0 : Int) + (y0 : Int)) = ((x0 + y0 : Nat) : Int) := wrap_nat (by omega) (by omega)
  have e1 : IntKind.u64.wrap ((x1 : Int) + (y1 : Int)) = ((x1 + y1 : Nat) : Int) := wrap_nat (by omega) (by omega)
  have e2 : IntKind.u64.wrap ((x2 : Int) + (y2 : Int)) = ((x2 + y2 : Nat) : Int) := wrap_nat (by omega) (by omega)
  have e3 : IntKind.u64.wrap ((x3 : Int) + (y3 : Int)) = ((x3 + y3 : Nat) : Int) := wrap_nat (by omega) (by omega)
  have e4 : IntKind.u64.wrap ((x4 : Int) + (y4 : Int)) = ((x4 + y4 : Nat) : Int) := wrap_nat (by omega) (by omega)
  clear h0 h1 h2 h3 h4 k0 k1 k2 k3 k4
  generalize x0 + y0 = s0 at *
  generalize x1 + y1 = s1 at *
  generalize x2 + y2 = s2 at *
  generalize x3 + y3 = s3 at *
  generalize x4 + y4 = s4 at *
  go_enter Try.func34, Try.ntmps34
  go_wp2_with ((with_reducible show wpList _ _ _ (⟨some 6, _, _, _, _, _⟩ :: _) _ _); refine wpList_loadC (by kernel_rfl) 35 (.tmp 2) rfl (w.heap.size) rfl 35 _ _ (hM0.get 2 rfl) Try.underlying35 rfl hs0.out ?_)
  refine (hma _).mono ?_
  rintro e w1 ⟨rfl, hb1⟩
  have hM1 := hM0.call hb1
  go_wp2_with ((with_reducible show wpList _ _ _ (⟨some 10, _, _, _, _, _⟩ :: _) _ _); refine wpList_loadC (by kernel_rfl) 35 (.tmp 3) rfl (w.heap.size + 1) rfl 35 _ _ (hM1.get 1 rfl) Try.underlying35 rfl hs1.out ?_)
  refine (hmb _).mono ?_
  rintro e w2 ⟨rfl, hb2⟩
  have hM2 := hM1.call hb2
  have cx0 := (hM2.get 2 rfl).cell (i := 0) rfl
  have cy0 := (hM2.get 1 rfl).cell (i := 0) rfl
  have cx1 := (hM2.get 2 rfl).cell (i := 1) rfl
  have cy1 := (hM2.get 1 rfl).cell (i := 1) rfl
  have cx2 := (hM2.get 2 rfl).cell (i := 2) rfl
  have cy2 := (hM2.get 1 rfl).cell (i := 2) rfl
  have cx3 := (hM2.get 2 rfl).cell (i := 3) rfl
  have cy3 := (hM2.get 1 rfl).cell (i := 3) rfl
  have cx4 := (hM2.get 2 rfl).cell (i := 4) rfl
  have cy4 := (hM2.get 1 rfl).cell (i := 4) rfl
  go_wp2_with fail
  refine (hp _).mono ?_
  rintro e w3 ⟨rfl, hb3⟩
  have hM3 := hM2.call hb3
  go_wp2_with ((with_reducible show wpList _ _ _ (⟨none, Op.store 35 _ _, _, _, _, _⟩ :: _) _ _); refine wpList_store_row rfl 35 (.tmp 4) (.tmp 41) rfl (w.heap.size + 1 + 1) fa rfl rfl 35 _ (hM3.get 0 rfl) hz.out hzz.out hzo.out ?_)
  exact bodyPost_ret (results_cell_two rfl _ _ (w.heap.size + 1 + 1) 35 fa _ rfl ((hM3.get 0 rfl).row fa) Try.underlying35 rfl hz.out) rfl ⟨rfl, below_setRow hM3.old (by omega) _⟩

set_option maxRecDepth 100000 in
theorem Sub_bad1 (a b : Fe5) (w : World) (ha : WordF a) (hb : WordF b) (h : ¬ MayF a) :
    Calls Try.prog 35 #[.agg (feC a), .agg (feC b)] w fun e w' => e = .returned (.tuple #[.agg (feC zeroF), .int .i64 1]) ∧ Below w.heap.size w w' := by
  have hM0 := (((Ms.nil w).box 35 (feC a)).box 35 (feC b)).box 35 #[.int .u64 0, .int .u64 0, .int .u64 0, .int .u64 0, .int .u64 0]
  simp only [World.size_alloc] at hM0
  have hs0 := Lib.hid (sizeFe a)
  have hs1 := Lib.hid (sizeFe b)
  have hz := Lib.hid (sizeFe zeroF)
  have hzo := Lib.hid (one_fe zeroF)
  have hzc : feC zeroF = #[.int .u64 0, .int .u64 0, .int .u64 0, .int .u64 0, .int .u64 0] := rfl
  have hma := fun wx => mayBe_any a wx ha
  rw [mayB_false h] at hma
  rw [hzc] at hz hzo ⊢
  clear ha hb h hzc
  generalize feC a = ca at *
  generalize feC b = cb at *
  go_enter Try.func35, Try.ntmps35
  go_wp2_with ((with_reducible show wpList _ _ _ (⟨some 6, _, _, _, _, _⟩ :: _) _ _); refine wpList_loadC (by kernel_rfl) 35 (.tmp 2) rfl (w.heap.size) rfl 35 ca _ (hM0.get 2 rfl) Try.underlying35 rfl hs0.out ?_)
  refine (hma _).mono ?_
  rintro e w1 ⟨rfl, hb1⟩
  have hM1 := hM0.call hb1
  go_wp2_with ((with_reducible show wpList _ _ _ (⟨none, Op.store 35 _ _, _, _, _, _⟩ :: _) _ _); refine wpList_store_row rfl 35 (.tmp 4) (.tmp 14) rfl (w.heap.size + 1 + 1) #[.int .u64 0, .int .u64 0, .int .u64 0, .int .u64 0, .int .u64 0] rfl rfl 35 _ (hM1.get 0 rfl) hz.out rfl hzo.out ?_)
  exact bodyPost_ret (results_cell_two rfl _ _ (w.heap.size + 1 + 1) 35 _ _ rfl ((hM1.get 0 rfl).row _) Try.underlying35 rfl hz.out) rfl ⟨rfl, below_setRow hM1.old (by omega) _⟩

set_option maxRecDepth 100000 in
theorem Sub_bad2 (a b : Fe5) (w : World) (ha : WordF a) (hb : WordF b) (h1 : MayF a) (h : ¬ MayF b) :
    Calls Try.prog 35 #[.agg (feC a), .agg (feC b)] w fun e w' => e = .returned (.tuple #[.agg (feC zeroF), .int .i64 1]) ∧ Below w.heap.size w w' := by
  have hM0 := (((Ms.nil w).box 35 (feC a)).box 35 (feC b)).box 35 #[.int .u64 0, .int .u64 0, .int .u64 0, .int .u64 0, .int .u64 0]
  simp only [World.size_alloc] at hM0
  have hs0 := Lib.hid (sizeFe a)
  have hs1 := Lib.hid (sizeFe b)
  have hz := Lib.hid (sizeFe zeroF)
  have hzo := Lib.hid (one_fe zeroF)
  have hzc : feC zeroF = #[.int .u64 0, .int .u64 0, .int .u64 0, .int .u64 0, .int .u64 0] := rfl
  have hma := fun wx => mayBe_any a wx ha
  rw [mayB_true h1] at hma
  have hmb := fun wx => mayBe_any b wx hb
  rw [mayB_false h] at hmb
  rw [hzc] at hz hzo ⊢
  clear ha hb h hzc h1
  generalize feC a = ca at *
  generalize feC b = cb at *
  go_enter Try.func35, Try.ntmps35
  go_wp2_with ((with_reducible show wpList _ _ _ (⟨some 6, _, _, _, _, _⟩ :: _) _ _); refine wpList_loadC (by kernel_rfl) 35 (.tmp 2) rfl (w.heap.size) rfl 35 ca _ (hM0.get 2 rfl) Try.underlying35 rfl hs0.out ?_)
  refine (hma _).mono ?_
  rintro e w1 ⟨rfl, hb1⟩
  have hM1 := hM0.call hb1
  go_wp2_with ((with_reducible show wpList _ _ _ (⟨some 10, _, _, _, _, _⟩ :: _) _ _); refine wpList_loadC (by kernel_rfl) 35 (.tmp 3) rfl (w.heap.size + 1) rfl 35 cb _ (hM1.get 1 rfl) Try.underlying35 rfl hs1.out ?_)
  refine (hmb _).mono ?_
  rintro e w2 ⟨rfl, hb2⟩
  have hM2 := hM1.call hb2
  go_wp2_with ((with_reducible show wpList _ _ _ (⟨none, Op.store 35 _ _, _, _, _, _⟩ :: _) _ _); refine wpList_store_row rfl 35 (.tmp 4) (.tmp 14) rfl (w.heap.size + 1 + 1) #[.int .u64 0, .int .u64 0, .int .u64 0, .int .u64 0, .int .u64 0] rfl rfl 35 _ (hM2.get 0 rfl) hz.out rfl hzo.out ?_)
  exact bodyPost_ret (results_cell_two rfl _ _ (w.heap.size + 1 + 1) 35 _ _ rfl ((hM2.get 0 rfl).row _) Try.underlying35 rfl hz.out) rfl ⟨rfl, below_setRow hM2.old (by omega) _⟩

set_option maxHeartbeats 1000000 in
set_option maxRecDepth 100000 in
theorem Sub_ok (a b : Fe5) (w : World) (ha : MayF a) (hb : MayF b) :
    Calls Try.prog 35 #[.agg (feC a), .agg (feC b)] w fun e w' => e = .returned (.tuple #[.agg (feC (subQ a b)), .int .i64 0]) ∧ Below w.heap.size w w' := by
  have hM0 := (((Ms.nil w).box 35 (feC a)).box 35 (feC b)).box 35 #[.int .u64 0, .int .u64 0, .int .u64 0, .int .u64 0, .int .u64 0]
  simp only [World.size_alloc] at hM0
  have hs0 := Lib.hid (sizeFe a)
  have hs1 := Lib.hid (sizeFe b)
  have hma := fun wx => mayBe_any a wx ha.word
  rw [mayB_true ha] at hma
  have hmb := fun wx => mayBe_any b wx hb.word
  rw [mayB_true hb] at hmb
  have hz := Lib.hid (sizeFe (subQ a b))
  have hzz := Lib.hid (show (#[.int .u64 0, .int .u64 0, .int .u64 0, .int .u64 0, .int .u64 0] : Array Value).size = (feC (subQ a b)).size from rfl)
  have hzo := Lib.hid (one_fe (subQ a b))
  have hp := fun wx => carried_any (subS a b) wx (subS_word ha hb)
  rw [show carU (subS a b) = subQ a b from rfl] at hp
  generalize feC (subQ a b) = fa at *
  obtain ⟨x0, x1, x2, x3, x4⟩ := a
  obtain ⟨y0, y1, y2, y3, y4⟩ := b
  obtain ⟨h0, h1, h2, h3, h4⟩ := ha
  obtain ⟨k0, k1, k2, k3, k4⟩ := hb
  simp only at h0 h1 h2 h3 h4 k0 k1 k2 k3 k4
  simp only [feC, subS] at *
  have d0 : IntKind.u64.wrap (9007199254740916 - (y0 : Int)) = ((9007199254740916 - y0 : Nat) : Int) := wrap_nat (by omega) (by omega)
  have e0 : IntKind.u64.wrap ((x0 : Int) + ((9007199254740916 - y0 : Nat) : Int)) = ((x0 + (9007199254740916 - y0) : Nat) : Int) := wrap_nat (by omega) (by omega)
  have d1 : IntKind.u64.wrap (9007199254740988 - (y1 : Int)) = ((9007199254740988 - y1 : Nat) : Int) := wrap_nat (by omega) (by omega)
  have e1 : IntKind.u64.wrap ((x1 : Int) + ((9007199254740988 - y1 : Nat) : Int)) = ((x1 + (9007199254740988 - y1) : Nat) : Int) := wrap_nat (by omega) (by omega)
  have d2 : IntKind.u64.wrap (9007199254740988 - (y2 : Int)) = ((9007199254740988 - y2 : Nat) : Int) := wrap_nat (by omega) (by omega)
  have e2 : IntKind.u64.wrap ((x2 : Int) + ((9007199254740988 - y2 : Nat) : Int)) = ((x2 + (9007199254740988 - y2) : Nat) : Int) := wrap_nat (by omega) (by omega)
  have d3 : IntKind.u64.wrap (9007199254740988 - (y3 : Int)) = ((9007199254740988 - y3 : Nat) : Int) := wrap_nat (by omega) (by omega)
  have e3 : IntKind.u64.wrap ((x3 : Int) + ((9007199254740988 - y3 : Nat) : Int)) = ((x3 + (9007199254740988 - y3) : Nat) : Int) := wrap_nat (by omega) (by omega)
  have d4 : IntKind.u64.wrap (9007199254740988 - (y4 : Int)) = ((9007199254740988 - y4 : Nat) : Int) := wrap_nat (by omega) (by omega)
  have e4 : IntKind.u64.wrap ((x4 : Int) + ((9007199254740988 - y4 : Nat) : Int)) = ((x4 + (9007199254740988 - y4) : Nat) : Int) := wrap_nat (by omega) (by omega)
  clear h0 h1 h2 h3 h4 k0 k1 k2 k3 k4
  generalize x0 + (9007199254740916 - y0) = s0 at *
  generalize 9007199254740916 - y0 = t0 at *
  generalize x1 + (9007199254740988 - y1) = s1 at *
  generalize 9007199254740988 - y1 = t1 at *
  generalize x2 + (9007199254740988 - y2) = s2 at *
  generalize 9007199254740988 - y2 = t2 at *
  generalize x3 + (9007199254740988 - y3) = s3 at *
  generalize 9007199254740988 - y3 = t3 at *
  generalize x4 + (9007199254740988 - y4) = s4 at *
  generalize 9007199254740988 - y4 = t4 at *
  go_enter Try.func35, Try.ntmps35
  go_wp2_with ((with_reducible show wpList _ _ _ (⟨some 6, _, _, _, _, _⟩ :: _) _ _); refine wpList_loadC (by kernel_rfl) 35 (.tmp 2) rfl (w.heap.size) rfl 35 _ _ (hM0.get 2 rfl) Try.underlying35 rfl hs0.out ?_)
  refine (hma _).mono ?_
  rintro e w1 ⟨rfl, hb1⟩
  have hM1 := hM0.call hb1
  go_wp2_with ((with_reducible show wpList _ _ _ (⟨some 10, _, _, _, _, _⟩ :: _) _ _); refine wpList_loadC (by kernel_rfl) 35 (.tmp 3) rfl (w.heap.size + 1) rfl 35 _ _ (hM1.get 1 rfl) Try.underlying35 rfl hs1.out ?_)
  refine (hmb _).mono ?_
  rintro e w2 ⟨rfl, hb2⟩
  have hM2 := hM1.call hb2
  have cx0 := (hM2.get 2 rfl).cell (i := 0) rfl
  have cy0 := (hM2.get 1 rfl).cell (i := 0) rfl
  have cx1 := (hM2.get 2 rfl).cell (i := 1) rfl
  have cy1 := (hM2.get 1 rfl).cell (i := 1) rfl
  have cx2 := (hM2.get 2 rfl).cell (i := 2) rfl
  have cy2 := (hM2.get 1 rfl).cell (i := 2) rfl
  have cx3 := (hM2.get 2 rfl).cell (i := 3) rfl
  have cy3 := (hM2.get 1 rfl).cell (i := 3) rfl
  have cx4 := (hM2.get 2 rfl).cell (i := 4) rfl
  have cy4 := (hM2.get 1 rfl).cell (i := 4) rfl
  go_wp2_with fail
  refine (hp _).mono ?_
  rintro e w3 ⟨rfl, hb3⟩
  have hM3 := hM2.call hb3
  go_wp2_with ((with_reducible show wpList _ _ _ (⟨none, Op.store 35 _ _, _, _, _, _⟩ :: _) _ _); refine wpList_store_row rfl 35 (.tmp 4) (.tmp 46) rfl (w.heap.size + 1 + 1) fa rfl rfl 35 _ (hM3.get 0 rfl) hz.out hzz.out hzo.out ?_)
  exact bodyPost_ret (results_cell_two rfl _ _ (w.heap.size + 1 + 1) 35 fa _ rfl ((hM3.get 0 rfl).row fa) Try.underlying35 rfl hz.out) rfl ⟨rfl, below_setRow hM3.old (by omega) _⟩

set_option maxRecDepth 100000 in
theorem Mul_bad1 (a b : Fe5) (w : World) (ha : WordF a) (hb : WordF b) (h : ¬ MayF a) :
    Calls Try.prog 36 #[.agg (feC a), .agg (feC b)] w fun e w' => e = .returned (.tuple #[.agg (feC zeroF), .int .i64 1]) ∧ Below w.heap.size w w' := by
  have hM0 := (((Ms.nil w).box 35 (feC a)).box 35 (feC b)).box 35 #[.int .u64 0, .int .u64 0, .int .u64 0, .int .u64 0, .int .u64 0]
  simp only [World.size_alloc] at hM0
  have hs0 := Lib.hid (sizeFe a)
  have hs1 := Lib.hid (sizeFe b)
  have hz := Lib.hid (sizeFe zeroF)
  have hzo := Lib.hid (one_fe zeroF)
  have hzc : feC zeroF = #[.int .u64 0, .int .u64 0, .int .u64 0, .int .u64 0, .int .u64 0] := rfl
  have hma := fun wx => mayBe_any a wx ha
  rw [mayB_false h] at hma
  rw [hzc] at hz hzo ⊢
  clear ha hb h hzc
  generalize feC a = ca at *
  generalize feC b = cb at *
  go_enter Try.func36, Try.ntmps36
  go_wp2_with ((with_reducible show wpList _ _ _ (⟨some 6, _, _, _, _, _⟩ :: _) _ _); refine wpList_loadC (by kernel_rfl) 35 (.tmp 2) rfl (w.heap.size) rfl 35 ca _ (hM0.get 2 rfl) Try.underlying35 rfl hs0.out ?_)
  refine (hma _).mono ?_
  rintro e w1 ⟨rfl, hb1⟩
  have hM1 := hM0.call hb1
  go_wp2_with ((with_reducible show wpList _ _ _ (⟨none, Op.store 35 _ _, _, _, _, _⟩ :: _) _ _); refine wpList_store_row rfl 35 (.tmp 4) (.tmp 14) rfl (w.heap.size + 1 + 1) #[.int .u64 0, .int .u64 0, .int .u64 0, .int .u64 0, .int .u64 0] rfl rfl 35 _ (hM1.get 0 rfl) hz.out rfl hzo.out ?_)
  exact bodyPost_ret (results_cell_two rfl _ _ (w.heap.size + 1 + 1) 35 _ _ rfl ((hM1.get 0 rfl).row _) Try.underlying35 rfl hz.out) rfl ⟨rfl, below_setRow hM1.old (by omega) _⟩

set_option maxRecDepth 100000 in
theorem Mul_bad2 (a b : Fe5) (w : World) (ha : WordF a) (hb : WordF b) (h1 : MayF a) (h : ¬ MayF b) :
    Calls Try.prog 36 #[.agg (feC a), .agg (feC b)] w fun e w' => e = .returned (.tuple #[.agg (feC zeroF), .int .i64 1]) ∧ Below w.heap.size w w' := by
  have hM0 := (((Ms.nil w).box 35 (feC a)).box 35 (feC b)).box 35 #[.int .u64 0, .int .u64 0, .int .u64 0, .int .u64 0, .int .u64 0]
  simp only [World.size_alloc] at hM0
  have hs0 := Lib.hid (sizeFe a)
  have hs1 := Lib.hid (sizeFe b)
  have hz := Lib.hid (sizeFe zeroF)
  have hzo := Lib.hid (one_fe zeroF)
  have hzc : feC zeroF = #[.int .u64 0, .int .u64 0, .int .u64 0, .int .u64 0, .int .u64 0] := rfl
  have hma := fun wx => mayBe_any a wx ha
  rw [mayB_true h1] at hma
  have hmb := fun wx => mayBe_any b wx hb
  rw [mayB_false h] at hmb
  rw [hzc] at hz hzo ⊢
  clear ha hb h hzc h1
  generalize feC a = ca at *
  generalize feC b = cb at *
  go_enter Try.func36, Try.ntmps36
  go_wp2_with ((with_reducible show wpList _ _ _ (⟨some 6, _, _, _, _, _⟩ :: _) _ _); refine wpList_loadC (by kernel_rfl) 35 (.tmp 2) rfl (w.heap.size) rfl 35 ca _ (hM0.get 2 rfl) Try.underlying35 rfl hs0.out ?_)
  refine (hma _).mono ?_
  rintro e w1 ⟨rfl, hb1⟩
  have hM1 := hM0.call hb1
  go_wp2_with ((with_reducible show wpList _ _ _ (⟨some 10, _, _, _, _, _⟩ :: _) _ _); refine wpList_loadC (by kernel_rfl) 35 (.tmp 3) rfl (w.heap.size + 1) rfl 35 cb _ (hM1.get 1 rfl) Try.underlying35 rfl hs1.out ?_)
  refine (hmb _).mono ?_
  rintro e w2 ⟨rfl, hb2⟩
  have hM2 := hM1.call hb2
  go_wp2_with ((with_reducible show wpList _ _ _ (⟨none, Op.store 35 _ _, _, _, _, _⟩ :: _) _ _); refine wpList_store_row rfl 35 (.tmp 4) (.tmp 14) rfl (w.heap.size + 1 + 1) #[.int .u64 0, .int .u64 0, .int .u64 0, .int .u64 0, .int .u64 0] rfl rfl 35 _ (hM2.get 0 rfl) hz.out rfl hzo.out ?_)
  exact bodyPost_ret (results_cell_two rfl _ _ (w.heap.size + 1 + 1) 35 _ _ rfl ((hM2.get 0 rfl).row _) Try.underlying35 rfl hz.out) rfl ⟨rfl, below_setRow hM2.old (by omega) _⟩

set_option maxHeartbeats 1000000 in
set_option maxRecDepth 100000 in
theorem Mul_ok (a b : Fe5) (w : World) (ha : MayF a) (hb : MayF b) :
    Calls Try.prog 36 #[.agg (feC a), .agg (feC b)] w fun e w' => e = .returned (.tuple #[.agg (feC (mulQ a b)), .int .i64 0]) ∧ Below w.heap.size w w' := by
  have hM0 := (((Ms.nil w).box 35 (feC a)).box 35 (feC b)).box 35 #[.int .u64 0, .int .u64 0, .int .u64 0, .int .u64 0, .int .u64 0]
  simp only [World.size_alloc] at hM0
  have hs0 := Lib.hid (sizeFe a)
  have hs1 := Lib.hid (sizeFe b)
  have hma := fun wx => mayBe_any a wx ha.word
  rw [mayB_true ha] at hma
  have hmb := fun wx => mayBe_any b wx hb.word
  rw [mayB_true hb] at hmb
  have hz := Lib.hid (sizeFe (mulQ a b))
  have hzz := Lib.hid (show (#[.int .u64 0, .int .u64 0, .int .u64 0, .int .u64 0, .int .u64 0] : Array Value).size = (feC (mulQ a b)).size from rfl)
  have hzo := Lib.hid (one_fe (mulQ a b))
  have hp := fun wx => product_any a b wx ha hb
  generalize feC (mulQ a b) = fa at *
  generalize feC a = ca at *
  generalize feC b = cb at *
  clear ha hb
  go_enter Try.func36, Try.ntmps36
  go_wp2_with ((with_reducible show wpList _ _ _ (⟨some 6, _, _, _, _, _⟩ :: _) _ _); refine wpList_loadC (by kernel_rfl) 35 (.tmp 2) rfl (w.heap.size) rfl 35 ca _ (hM0.get 2 rfl) Try.underlying35 rfl hs0.out ?_)
  refine (hma _).mono ?_
  rintro e w1 ⟨rfl, hb1⟩
  have hM1 := hM0.call hb1
  go_wp2_with ((with_reducible show wpList _ _ _ (⟨some 10, _, _, _, _, _⟩ :: _) _ _); refine wpList_loadC (by kernel_rfl) 35 (.tmp 3) rfl (w.heap.size + 1) rfl 35 cb _ (hM1.get 1 rfl) Try.underlying35 rfl hs1.out ?_)
  refine (hmb _).mono ?_
  rintro e w2 ⟨rfl, hb2⟩
  have hM2 := hM1.call hb2
  go_wp2_with (first
    | ((with_reducible show wpList _ _ _ (⟨some 15, _, _, _, _, _⟩ :: _) _ _); refine wpList_loadC (by kernel_rfl) 35 (.tmp 2) rfl (w.heap.size) rfl 35 ca _ (hM2.get 2 rfl) Try.underlying35 rfl hs0.out ?_)
    | ((with_reducible show wpList _ _ _ (⟨some 16, _, _, _, _, _⟩ :: _) _ _); refine wpList_loadC (by kernel_rfl) 35 (.tmp 3) rfl (w.heap.size + 1) rfl 35 cb _ (hM2.get 1 rfl) Try.underlying35 rfl hs1.out ?_))
  refine (hp _).mono ?_
  rintro e w3 ⟨rfl, hb3⟩
  have hM3 := hM2.call hb3
  go_wp2_with ((with_reducible show wpList _ _ _ (⟨none, Op.store 35 _ _, _, _, _, _⟩ :: _) _ _); refine wpList_store_row rfl 35 (.tmp 4) (.tmp 17) rfl (w.heap.size + 1 + 1) fa rfl rfl 35 _ (hM3.get 0 rfl) hz.out hzz.out hzo.out ?_)
  exact bodyPost_ret (results_cell_two rfl _ _ (w.heap.size + 1 + 1) 35 fa _ rfl ((hM3.get 0 rfl).row fa) Try.underlying35 rfl hz.out) rfl ⟨rfl, below_setRow hM3.old (by omega) _⟩

end Go.Proofs.Ytimgnpcojamafaa
