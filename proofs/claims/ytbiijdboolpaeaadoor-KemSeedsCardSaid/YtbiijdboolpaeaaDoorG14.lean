import Derived.Test.YtbiijdboolpaeaaDoorG13
import Derived.Test.YtbiijdboolpaeaaDoorG01
import Derived.WalkKit
import Derived.BigRegion
import Derived.Lib.Hide
import Derived.Lib.Mul64
import Derived.Laws.Bits64b
import Derived.Laws.Externs
import Derived.Laws.Rows
set_option linter.unusedVariables false
namespace Go.Proofs.YtbiijdboolpaeaaDoor
open Go.RowKit
def feC (f : Fe5) : Array Value := #[.int .u64 (f.a0 : Int), .int .u64 (f.a1 : Int), .int .u64 (f.a2 : Int), .int .u64 (f.a3 : Int), .int .u64 (f.a4 : Int)]
theorem mask51 {x : Nat} (hx : x < 18446744073709551616) : bits .and .u64 (x : Int) 2251799813685247 = ((x % 2251799813685248 : Nat) : Int) := by
 have h := bits_and_u64_nat x 2251799813685247 hx (by omega)
 have e : x &&& 2251799813685247 = x % 2251799813685248 := Nat.and_two_pow_sub_one_eq_mod x 51
 rw [e] at h
 exact h
theorem mask32 {x : Nat} (hx : x < 18446744073709551616) : bits .and .u64 (x : Int) 4294967295 = ((x % 4294967296 : Nat) : Int) := by
 have h := bits_and_u64_nat x 4294967295 hx (by omega)
 have e : x &&& 4294967295 = x % 4294967296 := Nat.and_two_pow_sub_one_eq_mod x 32
 rw [e] at h
 exact h
theorem wrap_nat {x : Int} {n : Nat} (h : x = (n : Int)) (hn : n < 18446744073709551616) : IntKind.u64.wrap x = (n : Int) := by
 rw [IntKind.wrap_u64, h]
 omega
theorem infoFe : (Tryd.prog.info? 50).map (·.size) = some 5 := by kernel_rfl
theorem sizeFe (f : Fe5) : (Tryd.prog.info? 50).map (·.size) = some (feC f).size := infoFe
theorem one_fe (f : Fe5) : (feC f).all (·.oneCell') = true := by simp [feC, Value.oneCell']
theorem heap_at1 (w : World) (o o' : Obj) : ((w.alloc o).alloc o').heap[w.heap.size + 1]? = some o' := by
 have := heap_alloc_new (w.alloc o) o'
 rwa [World.size_alloc] at this
theorem ret_fe {fn : Func} {p : Tmp} (h : fn.results = #[.cell p 50]) (tmps : Array Value) (w : World) (g : Nat) (t : TypeId) (c0 c1 c2 c3 c4 : Value) (fr : Nat × Nat)
  (hp : tmps.getD p undef = .pointer (some ⟨g, 0, none⟩)) (hg : w.heap[g]? = some (.cells #[c0, c1, c2, c3, c4] t fr)) : (results fn tmps).run Tryd.prog w = .ok (.agg #[c0, c1, c2, c3, c4]) w :=
 results_cell_row h tmps w g t _ fr _ hp hg Tryd.underlying50 rfl infoFe
set_option maxHeartbeats 400000 in
theorem carried_any (f : Fe5) (w : World) (hf : WordF f) :
  Calls Tryd.prog 64 #[.agg (feC f)] w fun e w' => e = .returned (.agg (feC (carU f))) ∧ Below w.heap.size w w' := by
 obtain ⟨x0, x1, x2, x3, x4⟩ := f
 obtain ⟨h0, h1, h2, h3, h4⟩ := hf
 simp only at h0 h1 h2 h3 h4
 simp only [feC, carU]
 go_enter Tryd.func64, Tryd.ntmps64
 go_wp2_with fail
 refine bodyPost_ret (ret_fe rfl _ _ (w.heap.size + 1) _ _ _ _ _ _ (0, 0) rfl (heap_at1 _ _ _)) rfl ⟨?_, ((Below.refl _ _).alloc (Nat.le_refl _) _).alloc (al0 _ _) _⟩
 have k0 := mask51 h0
 have k1 := mask51 h1
 have k2 := mask51 h2
 have k3 := mask51 h3
 have k4 := mask51 h4
 rw [k0, k1, k2, k3, k4]
 rw [wrap_nat (n := x0 % 2251799813685248 + 19 * (x4 / 2251799813685248)) (by omega) (by omega), wrap_nat (n := x1 % 2251799813685248 + x0 / 2251799813685248) (by omega) (by omega), wrap_nat (n := x2 % 2251799813685248 + x1 / 2251799813685248) (by omega) (by omega), wrap_nat (n := x3 % 2251799813685248 + x2 / 2251799813685248) (by omega) (by omega), wrap_nat (n := x4 % 2251799813685248 + x3 / 2251799813685248) (by omega) (by omega)]
theorem or_lt52 (a b : Nat) : a ||| b < 4503599627370496 ↔ a < 4503599627370496 ∧ b < 4503599627370496 := by
 constructor
 ·
  intro h
  exact ⟨Nat.lt_of_le_of_lt Nat.left_le_or h, Nat.lt_of_le_of_lt Nat.right_le_or h⟩
 ·
  intro ⟨h1, h2⟩
  exact Nat.or_lt_two_pow (n := 52) h1 h2
theorem or_lt64 {a b : Nat} (h1 : a < 18446744073709551616) (h2 : b < 18446744073709551616) : a ||| b < 18446744073709551616 := Nat.or_lt_two_pow (n := 64) h1 h2
def errU (f : Fe5) : Int := if MayF f then 0 else 1
set_option maxRecDepth 100000 in
theorem FeCheck_any (f : Fe5) (w : World) (hf : WordF f) :
  Calls Tryd.prog 82 #[.agg (feC f)] w fun e w' => e = .returned (.int .i64 (errU f)) ∧ Below w.heap.size w w' := by
 obtain ⟨x0, x1, x2, x3, x4⟩ := f
 obtain ⟨h0, h1, h2, h3, h4⟩ := hf
 simp only at h0 h1 h2 h3 h4
 have o1 := bits_or_u64_nat x0 x1 h0 h1
 have o2 := bits_or_u64_nat _ x2 (or_lt64 h0 h1) h2
 have o3 := bits_or_u64_nat _ x3 (or_lt64 (or_lt64 h0 h1) h2) h3
 have o4 := bits_or_u64_nat _ x4 (or_lt64 (or_lt64 (or_lt64 h0 h1) h2) h3) h4
 have Hm : MayF ⟨x0, x1, x2, x3, x4⟩ ↔ (x0 ||| x1 ||| x2 ||| x3 ||| x4) < 4503599627370496 := by
  rw [or_lt52, or_lt52, or_lt52, or_lt52]
  simp only [MayF]
  omega
 simp only [feC]
 unfold errU
 generalize x0 ||| x1 ||| x2 ||| x3 ||| x4 = y4 at *
 generalize x0 ||| x1 ||| x2 ||| x3 = y3 at *
 generalize x0 ||| x1 ||| x2 = y2 at *
 generalize x0 ||| x1 = y1 at *
 by_cases hm : MayF ⟨x0, x1, x2, x3, x4⟩
 ·
  rw [if_pos hm]
  have hb : decide ((4503599627370496 : Int) ≤ (y4 : Int)) = false := by
   have := Hm.1 hm
   exact decide_eq_false (by omega)
  clear Hm hm
  go_enter Tryd.func82, Tryd.ntmps82
  go_wp2_with fail
  go_ret
  exact ⟨rfl, (Below.refl _ _).alloc (Nat.le_refl _) _⟩
 ·
  rw [if_neg hm]
  have hb : decide ((4503599627370496 : Int) ≤ (y4 : Int)) = true := by
   have := mt Hm.2 hm
   exact decide_eq_true (by omega)
  clear Hm hm
  go_enter Tryd.func82, Tryd.ntmps82
  go_wp2_with fail
  go_ret
  exact ⟨rfl, (Below.refl _ _).alloc (Nat.le_refl _) _⟩
def mayB (f : Fe5) : Bool := decide (MayF f)
theorem mayBe_any (f : Fe5) (w : World) (hf : WordF f) :
  Calls Tryd.prog 63 #[.agg (feC f)] w fun e w' => e = .returned (.bool (mayB f)) ∧ Below w.heap.size w w' := by
 have Hf := Lib.hid hf
 have He : ((errU f) == 0) = mayB f := by
  unfold errU mayB
  by_cases h : MayF f
  ·
   rw [if_pos h, decide_eq_true h]; rfl
  ·
   rw [if_neg h, decide_eq_false h]; rfl
 have hs := sizeFe f
 clear hf
 generalize hc : feC f = cs at *
 go_enter Tryd.func63, Tryd.ntmps63
 go_wp2_with ((with_reducible refine tdQ 3 ?_); refine wpList_loadC (by rfl) 50 (.tmp 1) rfl w.heap.size rfl 50 cs _ (RowC.new _ _ _) Tryd.underlying50 rfl hs ?_)
 have k := FeCheck_any f (w.alloc (.cells cs 50)) Hf.out
 rw [hc] at k
 refine k.mono ?_
 rintro e w2 ⟨rfl, hb2⟩
 go_wp2_with fail
 go_ret
 exact ⟨rfl, ((Below.refl _ _).alloc (Nat.le_refl _) _).trans (hb2.mono (al0 _ _))⟩
theorem place_any (i : Nat) (w : World) (hi : i < 5) :
  Calls Tryd.prog 41 #[.int .i64 (i : Int)] w fun e w' => e = .returned (.tuple #[.int .i64 ((51 * i / 8 : Nat) : Int), .int .i64 ((51 * i % 8 : Nat) : Int)]) ∧ w' = w := by
 go_enter Tryd.func41, Tryd.ntmps41
 go_wp2_with fail
 go_ret2
 exact ⟨rfl, rfl⟩
theorem divN32 (a : Nat) : (a : Int) / 4294967296 = ((a / 4294967296 : Nat) : Int) := by omega
theorem mulNN (a b : Nat) : (a : Int) * (b : Int) = ((a * b : Nat) : Int) := (Int.natCast_mul a b).symm
theorem addN (a b : Nat) : (a : Int) + (b : Int) = ((a + b : Nat) : Int) := (Int.natCast_add a b).symm
theorem wrapN {a : Nat} (ha : a < 18446744073709551616) : IntKind.u64.wrap (a : Int) = (a : Int) := by rw [IntKind.wrap_u64]; omega
theorem wrapM (a : Nat) : IntKind.u64.wrap (a : Int) = ((a % 18446744073709551616 : Nat) : Int) := by rw [IntKind.wrap_u64]; omega
set_option maxHeartbeats 1000000 in
theorem Mul64_any (x y : Nat) (hx : x < 18446744073709551616) (hy : y < 18446744073709551616) (w : World) :
  Calls Tryd.prog 92 #[.int .u64 (x : Int), .int .u64 (y : Int)] w fun e w' => e = .returned (.tuple #[.int .u64 ((x * y / 18446744073709551616 : Nat) : Int), .int .u64 ((x * y % 18446744073709551616 : Nat) : Int)]) ∧ w' = w := by
 obtain ⟨bd, bt, bw, hhi⟩ := Lib.mul64_hi x y hx hy
 have ba := Lib.half_mul_le (a := x / 4294967296) (b := y / 4294967296) (by omega) (by omega)
 have bb := Lib.half_mul_le (a := x / 4294967296) (b := y % 4294967296) (by omega) (by omega)
 have bc := Lib.half_mul_le (a := x % 4294967296) (b := y / 4294967296) (by omega) (by omega)
 have ba' : x / 4294967296 * (y / 4294967296) < 18446744073709551616 := by omega
 have bb' : x / 4294967296 * (y % 4294967296) < 18446744073709551616 := by omega
 have bc' : x % 4294967296 * (y / 4294967296) < 18446744073709551616 := by omega
 have bh1 : x / 4294967296 * (y / 4294967296) + (x / 4294967296 * (y % 4294967296) + x % 4294967296 * (y % 4294967296) / 4294967296) / 4294967296 < 18446744073709551616 := by omega
 have bh : x / 4294967296 * (y / 4294967296) + (x / 4294967296 * (y % 4294967296) + x % 4294967296 * (y % 4294967296) / 4294967296) / 4294967296 + ((x / 4294967296 * (y % 4294967296) + x % 4294967296 * (y % 4294967296) / 4294967296) % 4294967296 + x % 4294967296 * (y / 4294967296)) / 4294967296 < 18446744073709551616 := by
  rw [hhi]
  refine Nat.div_lt_of_lt_mul ?_
  exact Nat.lt_of_lt_of_le (Nat.mul_lt_mul_of_lt_of_lt hx hy) (by omega)
 go_enter Tryd.func92, Tryd.ntmps92
 go_wp2
 simp only [mask32 hx, mask32 hy, divN32, mulNN, addN, wrapN bd, wrapN bb', wrapN bt, mask32 bt, wrapN bc', wrapN bw, wrapN ba', wrapN bh1, wrapN bh, wrapM (x * y)]
 rw [hhi]
 go_ret2
 exact ⟨rfl, rfl⟩
theorem Add64_any (x y c : Nat) (hc : c ≤ 1) (w : World) :
  (callFunc 93 #[.int .u64 (x : Int), .int .u64 (y : Int), .int .u64 (c : Int)]).run Tryd.prog w =
   .ok (.value (.tuple #[.int .u64 (((x + y + c) % 18446744073709551616 : Nat) : Int), .int .u64 (((x + y + c) / 18446744073709551616 : Nat) : Int)])) w := by
 rw [run_callFunc_extern Tryd.func93 (by kernel_rfl) (by kernel_rfl) (by kernel_rfl) (e := add64Entry) (by kernel_rfl), run_add64 x y c (by omega) (by omega) (by omega) (by omega)]
 simp only [Result.andThen]
 congr 5 <;> omega
def wideV (W : Nat) : Value := .agg #[.int .u64 ((W / 18446744073709551616 : Nat) : Int), .int .u64 ((W % 18446744073709551616 : Nat) : Int)]
set_option maxHeartbeats 1000000 in
theorem plus_any (W x y : Nat) (hx : x < 18446744073709551616) (hy : y < 18446744073709551616) (hW : W + x * y < 340282366920938463463374607431768211456) (w : World) :
  Calls Tryd.prog 83 #[wideV W, .int .u64 (x : Int), .int .u64 (y : Int)] w fun e w' => e = .returned (wideV (W + x * y)) ∧ Below w.heap.size w w' := by
 have hm := fun wx => Mul64_any x y hx hy wx
 have e1 : (W + x * y) / 18446744073709551616 = (W / 18446744073709551616 + x * y / 18446744073709551616 + (W % 18446744073709551616 + x * y % 18446744073709551616) / 18446744073709551616) % 18446744073709551616 := by omega
 have e2 : (W + x * y) % 18446744073709551616 = (W % 18446744073709551616 + x * y % 18446744073709551616 + 0) % 18446744073709551616 := by omega
 have hc1 : (W % 18446744073709551616 + x * y % 18446744073709551616 + 0) / 18446744073709551616 ≤ 1 := by omega
 unfold wideV
 rw [e1, e2]
 clear e1 e2 hW
 generalize W / 18446744073709551616 = p at *
 generalize W % 18446744073709551616 = q at *
 generalize x * y / 18446744073709551616 = s at *
 generalize x * y % 18446744073709551616 = t at *
 have ha := fun wx => Add64_any q t 0 (by omega) wx
 rw [show ((0 : Nat) : Int) = 0 from rfl] at ha
 generalize (q + t + 0) / 18446744073709551616 = c at *
 generalize (q + t + 0) % 18446744073709551616 = r at *
 have hb := fun wx => Add64_any p s c hc1 wx
 generalize (p + s + c) / 18446744073709551616 = u at *
 generalize (p + s + c) % 18446744073709551616 = v at *
 clear hc1
 go_enter Tryd.func83, Tryd.ntmps83
 go_wp2_with fail
 refine (hm _).mono ?_
 rintro e w2 ⟨rfl, rfl⟩
 go_wp2_with fail
 refine bodyPost_ret (results_cell_one rfl _ _ (w.heap.size + 1) _ _ _ rfl (heap_at1 _ _ _) Tryd.underlying124 rfl (by kernel_rfl)) rfl ⟨rfl, ((Below.refl _ _).alloc (Nat.le_refl _) _).alloc (al0 _ _) _⟩
theorem kept_any (W : Nat) (w : World) :
  Calls Tryd.prog 84 #[wideV W] w fun e w' => e = .returned (.int .u64 ((W % 2251799813685248 : Nat) : Int)) ∧ Below w.heap.size w w' := by
 have k := mask51 (x := W % 18446744073709551616) (by omega)
 rw [show W % 18446744073709551616 % 2251799813685248 = W % 2251799813685248 by omega] at k
 unfold wideV
 generalize W / 18446744073709551616 = p at *
 generalize W % 18446744073709551616 = q at *
 generalize W % 2251799813685248 = r at *
 go_enter Tryd.func84, Tryd.ntmps84
 go_wp2_with fail
 go_ret
 exact ⟨rfl, (Below.refl _ _).alloc (Nat.le_refl _) _⟩
theorem over_or {p q : Nat} (hp : p < 2251799813685248) (hq : q < 18446744073709551616) : p * 8192 ||| q / 2251799813685248 = p * 8192 + q / 2251799813685248 := by
 have := Nat.two_pow_add_eq_or_of_lt (i := 13) (b := q / 2251799813685248) (by omega) p
 rw [← Nat.mul_comm, ← this]
set_option maxHeartbeats 1000000 in
theorem over_any (W : Nat) (hW : W < 41538374868278621028243970633760768) (w : World) :
  Calls Tryd.prog 85 #[wideV W] w fun e w' => e = .returned (.int .u64 ((W / 2251799813685248 : Nat) : Int)) ∧ Below w.heap.size w w' := by
 have hp : W / 18446744073709551616 < 2251799813685248 := by omega
 have hq : W % 18446744073709551616 < 18446744073709551616 := by omega
 have ho := bits_or_u64_nat (W / 18446744073709551616 * 8192) (W % 18446744073709551616 / 2251799813685248) (by omega) (by omega)
 rw [over_or hp hq, show W / 18446744073709551616 * 8192 + W % 18446744073709551616 / 2251799813685248 = W / 2251799813685248 by omega] at ho
 have e1 : IntKind.u64.wrap (((W / 18446744073709551616 : Nat) : Int) * 8192) = ((W / 18446744073709551616 * 8192 : Nat) : Int) := wrap_nat (by omega) (by omega)
 have e2 : ((W % 18446744073709551616 : Nat) : Int) / 2251799813685248 = ((W % 18446744073709551616 / 2251799813685248 : Nat) : Int) := by omega
 unfold wideV
 go_enter Tryd.func85, Tryd.ntmps85
 go_wp2_with fail
 have ho2 : bits .or .u64 ((W : Int) / 18446744073709551616 * 8192) ((W : Int) % 18446744073709551616 / 2251799813685248) = ((W / 2251799813685248 : Nat) : Int) := by
  rw [← ho]
  congr 1 <;> omega
 rw [ho2]
 go_ret
 exact ⟨rfl, (Below.refl _ _).alloc (Nat.le_refl _) _⟩
end Go.Proofs.YtbiijdboolpaeaaDoor
