/-
  CONTRACT of the program's exchange of two ratios by a bit, which does the same at either bit.
-/
import Derived.Test.YtimgnpcojamafaaCrvP
import Derived.Test.YtimgnpcojamafaaReg
set_option linter.unusedVariables false
namespace Go.Proofs.Ytimgnpcojamafaa
open Go.RowKit

/-- ten numbers -/
def tenL (f : Nat → Nat) : List Nat := [f 0, f 1, f 2, f 3, f 4, f 5, f 6, f 7, f 8, f 9]
/-- those whose places, but for five, are below n by g, the others by f -/
def partT (f g : Nat → Nat) (n : Nat) : Nat → Nat := fun k => if k % 5 < n then g k else f k
theorem partT_zero (f g : Nat → Nat) : tenL (partT f g 0) = tenL f := rfl
theorem partT_all (f g : Nat → Nat) : tenL (partT f g 5) = tenL g := rfl
/-- the mask of a bit, and what is exchanged -/
def maskI (b : Bool) : Int := if b then 18446744073709551615 else 0
def swapV (b : Bool) (x y : Nat) : Int := bits .and .u64 (maskI b) (bits .xor .u64 (x : Int) (y : Int))
theorem mask_neg (b : Bool) : IntKind.u64.wrap (-(bitI b)) = maskI b := by cases b <;> rfl
theorem xor_lt64 {x y : Nat} (hx : x < 18446744073709551616) (hy : y < 18446744073709551616) : x ^^^ y < 18446744073709551616 :=
  Nat.xor_lt_two_pow (n := 64) hx hy
theorem swapV_eq (b : Bool) {x y : Nat} (hx : x < 18446744073709551616) (hy : y < 18446744073709551616) : swapV b x y = ((if b then x ^^^ y else 0 : Nat) : Int) := by
  have h := xor_lt64 hx hy
  unfold swapV maskI
  rw [bits_xor_u64_nat x y hx hy]
  cases b
  · simp only [Bool.false_eq_true, if_false]
    have := bits_and_u64_nat 0 (x ^^^ y) (by omega) h
    rw [show ((0 : Nat) : Int) = 0 from rfl, Nat.zero_and] at this
    rw [this]
  · simp only [if_true]
    have := bits_and_u64_nat 18446744073709551615 (x ^^^ y) (by omega) h
    rw [show ((18446744073709551615 : Nat) : Int) = 18446744073709551615 from rfl] at this
    rw [this, Nat.and_comm, show (18446744073709551615 : Nat) = 2 ^ 64 - 1 from rfl, Nat.and_two_pow_sub_one_eq_mod, Nat.mod_eq_of_lt h]
theorem swap_fst (b : Bool) {x y : Nat} (hx : x < 18446744073709551616) (hy : y < 18446744073709551616) : bits .xor .u64 (x : Int) (swapV b x y) = ((if b then y else x : Nat) : Int) := by
  have h := xor_lt64 hx hy
  rw [swapV_eq b hx hy]
  cases b
  · simp only [Bool.false_eq_true, if_false]
    rw [bits_xor_u64_nat x 0 hx (by omega), Nat.xor_zero]
  · simp only [if_true]
    rw [bits_xor_u64_nat x _ hx h, ← Nat.xor_assoc, Nat.xor_self, Nat.zero_xor]
theorem swap_snd (b : Bool) {x y : Nat} (hx : x < 18446744073709551616) (hy : y < 18446744073709551616) : bits .xor .u64 (y : Int) (swapV b x y) = ((if b then x else y : Nat) : Int) := by
  have h := xor_lt64 hx hy
  rw [swapV_eq b hx hy]
  cases b
  · simp only [Bool.false_eq_true, if_false]
    rw [bits_xor_u64_nat y 0 hy (by omega), Nat.xor_zero]
  · simp only [if_true]
    rw [bits_xor_u64_nat y _ hy h, Nat.xor_comm x y, ← Nat.xor_assoc, Nat.xor_self, Nat.zero_xor]
/-- what is first, and second, when a bit has been looked at -/
def fstT (b : Bool) (f g : Nat → Nat) : Nat → Nat := fun k => if b then g k else f k
def sndT (b : Bool) (f g : Nat → Nat) : Nat → Nat := fun k => if b then f k else g k
theorem tenSize (f : Nat → Nat) : (Try.prog.info? 38).map (·.size) = some (qC (tenL f)).size := infoRt
theorem tenZero (f : Nat → Nat) : (#[.int .u64 0, .int .u64 0, .int .u64 0, .int .u64 0, .int .u64 0, .int .u64 0, .int .u64 0, .int .u64 0, .int .u64 0, .int .u64 0] : Array Value).size = (qC (tenL f)).size := rfl
theorem results_cells2 {P : Program} {fn : Func} {p q : Tmp} {ty : TypeId} (h : fn.results = #[.cell p ty, .cell q ty]) (tmps : Array Value) (w : World) (g g' : Nat) (t : TypeId) (cs cs' : Array Value) (d : TypeDesc)
    (hp : tmps.getD p undef = .pointer (some ⟨g, 0, none⟩)) (hg : RowC w g t cs) (hq : tmps.getD q undef = .pointer (some ⟨g', 0, none⟩)) (hg' : RowC w g' t cs')
    (hu : P.underlying ty = some d) (hd : (match d with | .struct _ | .array _ _ => true | _ => false) = true) (hi : (P.info? ty).map (·.size) = some cs.size) (hi' : (P.info? ty).map (·.size) = some cs'.size) :
    (results fn tmps).run P w = .ok (.tuple #[.agg cs, .agg cs']) w := by
  have hp' : tmps[p]?.getD undef = .pointer (some ⟨g, 0, none⟩) := by simpa using hp
  have hq' : tmps[q]?.getD undef = .pointer (some ⟨g', 0, none⟩) := by simpa using hq
  simp [results, h, hp', hq', asAddr, run_loadVar_row w g t ty cs (0, 0) d hg hu hd hi, run_loadVar_row w g' t ty cs' (0, 0) d hg' hu hd hi']

set_option maxRecDepth 100000 in
set_option maxHeartbeats 8000000 in
theorem exchanged_ten (b : Bool) (f g : Nat → Nat) (w : World) (hf : ∀ k, k < 10 → f k < 18446744073709551616) (hg : ∀ k, k < 10 → g k < 18446744073709551616) :
    Calls Try.prog 18 #[.agg (qC (tenL f)), .agg (qC (tenL g)), .int .u64 (bitI b)] w fun e w' => e = .returned (.tuple #[.agg (qC (tenL (fstT b f g))), .agg (qC (tenL (sndT b f g)))]) ∧ Below w.heap.size w w' := by
  have hMb := ((((Ms.nil w).box 38 (qC (tenL f))).box 38 (qC (tenL g))).box 38 #[.int .u64 0, .int .u64 0, .int .u64 0, .int .u64 0, .int .u64 0, .int .u64 0, .int .u64 0, .int .u64 0, .int .u64 0, .int .u64 0]).box 38 #[.int .u64 0, .int .u64 0, .int .u64 0, .int .u64 0, .int .u64 0, .int .u64 0, .int .u64 0, .int .u64 0, .int .u64 0, .int .u64 0]
  simp only [World.size_alloc] at hMb
  have hM0 := hMb.sub (L' := [(w.heap.size, 38, qC (tenL (partT f (fstT b f g) 0))), (w.heap.size + 1, 38, qC (tenL (partT g (sndT b f g) 0))), (w.heap.size + 1 + 1, 38, #[.int .u64 0, .int .u64 0, .int .u64 0, .int .u64 0, .int .u64 0, .int .u64 0, .int .u64 0, .int .u64 0, .int .u64 0, .int .u64 0]), (w.heap.size + 1 + 1 + 1, 38, #[.int .u64 0, .int .u64 0, .int .u64 0, .int .u64 0, .int .u64 0, .int .u64 0, .int .u64 0, .int .u64 0, .int .u64 0, .int .u64 0])]) (by rw [partT_zero, partT_zero]; intro p hp; simp only [List.mem_cons, List.not_mem_nil, or_false] at hp ⊢; rcases hp with h | h | h | h <;> simp [h])
  clear hMb
  have HF := Lib.hid hf
  have HG := Lib.hid hg
  clear hf hg
  have hneg := mask_neg b
  have hbits := fun n (h : n < 10) => Lib.hid (swap_fst b (HF.out n h) (HG.out n h))
  have hbits2 := fun n (h : n < 10) => Lib.hid (swap_snd b (HF.out n h) (HG.out n h))
  have hval := fun n => Lib.hid (show bits .and .u64 (maskI b) (bits .xor .u64 ((f n : Nat) : Int) ((g n : Nat) : Int)) = swapV b (f n) (g n) from rfl)
  generalize hβ : bitI b = β at *
  generalize hm : maskI b = m at *
  clear hβ hm
  go_enter Try.func18, Try.ntmps18
  go_wp2_with fail
  go_loopw [14] (fun i wr => ∃ n : Nat, n ≤ 5 ∧ i = .int .i64 (n : Int) ∧ Ms w wr [(w.heap.size, 38, qC (tenL (partT f (fstT b f g) n))), (w.heap.size + 1, 38, qC (tenL (partT g (sndT b f g) n))), (w.heap.size + 1 + 1, 38, #[.int .u64 0, .int .u64 0, .int .u64 0, .int .u64 0, .int .u64 0, .int .u64 0, .int .u64 0, .int .u64 0, .int .u64 0, .int .u64 0]), (w.heap.size + 1 + 1 + 1, 38, #[.int .u64 0, .int .u64 0, .int .u64 0, .int .u64 0, .int .u64 0, .int .u64 0, .int .u64 0, .int .u64 0, .int .u64 0, .int .u64 0])]) (fun i _ => (5 - intOf i).toNat)
  case atStart => exact ⟨0, by omega, rfl, hM0⟩
  case round =>
    obtain ⟨n, hn, rfl, hM⟩ := hrel
    clear hM0
    have h6 : n = 0 ∨ n = 1 ∨ n = 2 ∨ n = 3 ∨ n = 4 ∨ n = 5 := by omega
    rcases h6 with rfl | rfl | rfl | rfl | rfl | rfl
    · have hcx := fun wx (hb : Below wr.heap.size wr wx) => ((hM.get 0 rfl).call hb).cell (qC_at (l := tenL (partT f (fstT b f g) 0)) (i := 0) (x := f 0) rfl)
      have hcz := fun wx (hb : Below wr.heap.size wr wx) => ((hM.get 0 rfl).call hb).cell (qC_at (l := tenL (partT f (fstT b f g) 0)) (i := 5) (x := f 5) rfl)
      have hdx := fun wx (hb : Below wr.heap.size wr wx) => ((hM.get 1 rfl).call hb).cell (qC_at (l := tenL (partT g (sndT b f g) 0)) (i := 0) (x := g 0) rfl)
      have hdz := fun wx (hb : Below wr.heap.size wr wx) => ((hM.get 1 rfl).call hb).cell (qC_at (l := tenL (partT g (sndT b f g) 0)) (i := 5) (x := g 5) rfl)
      have v0 := (hval 0).out
      have v1 := (hval 5).out
      have a0 := (hbits 0 (by omega)).out
      have a1 := (hbits 5 (by omega)).out
      have b0 := (hbits2 0 (by omega)).out
      have b1 := (hbits2 5 (by omega)).out
      have hMd := hM
      have x0 := (hMd.get 0 rfl).cell (qC_at (l := tenL (partT f (fstT b f g) 0)) (i := 0) (x := f 0) rfl)
      have f0 := (hMd.get 0 rfl).frozen 0
      have hM1 := (hMd.setCell (Nat.le_refl _) (by simp; try omega) 0 (.int .u64 ((if b then g 0 else f 0 : Nat) : Int))).swap
      have x1 := (hM1.get 0 rfl).cell (qC_at (l := tenL (partT g (sndT b f g) 0)) (i := 0) (x := g 0) rfl)
      have f1 := (hM1.get 0 rfl).frozen 0
      have hM2 := (hM1.setCell (by omega) (by simp; try omega) 0 (.int .u64 ((if b then f 0 else g 0 : Nat) : Int))).swap
      rw [qC_set, qC_set] at hM2
      rw [qC_set] at hM1
      have x2 := (hM2.get 0 rfl).cell (qC_at (l := (tenL (partT f (fstT b f g) 0)).set 0 (if b then g 0 else f 0)) (i := 5) (x := f 5) rfl)
      have f2 := (hM2.get 0 rfl).frozen 5
      have hM3 := (hM2.setCell (Nat.le_refl _) (by simp; try omega) 5 (.int .u64 ((if b then g 5 else f 5 : Nat) : Int))).swap
      rw [qC_set] at hM3
      have x3 := (hM3.get 0 rfl).cell (qC_at (l := (tenL (partT g (sndT b f g) 0)).set 0 (if b then f 0 else g 0)) (i := 5) (x := g 5) rfl)
      have f3 := (hM3.get 0 rfl).frozen 5
      have hM4 := (hM3.setCell (by omega) (by simp; try omega) 5 (.int .u64 ((if b then f 5 else g 5 : Nat) : Int))).swap
      rw [qC_set] at hM4
      have hnew : Ms w _ [(w.heap.size, 38, qC (tenL (partT f (fstT b f g) 1))), (w.heap.size + 1, 38, qC (tenL (partT g (sndT b f g) 1))), (w.heap.size + 1 + 1, 38, #[.int .u64 0, .int .u64 0, .int .u64 0, .int .u64 0, .int .u64 0, .int .u64 0, .int .u64 0, .int .u64 0, .int .u64 0, .int .u64 0]), (w.heap.size + 1 + 1 + 1, 38, #[.int .u64 0, .int .u64 0, .int .u64 0, .int .u64 0, .int .u64 0, .int .u64 0, .int .u64 0, .int .u64 0, .int .u64 0, .int .u64 0])] := hM4
      have Hnew := Lib.hid hnew.drew
      clear hM1 hM2 hM3 hM4 hnew hbits hbits2 hval hMd
      generalize swapV b (f 0) (g 0) = s0 at *
      generalize swapV b (f 5) (g 5) = s1 at *
      generalize ((if b then g 0 else f 0 : Nat) : Int) = y0 at *
      generalize ((if b then f 0 else g 0 : Nat) : Int) = y1 at *
      generalize ((if b then g 5 else f 5 : Nat) : Int) = y2 at *
      generalize ((if b then f 5 else g 5 : Nat) : Int) = y3 at *
      generalize ((f 0 : Nat) : Int) = p0 at *
      generalize ((g 0 : Nat) : Int) = p1 at *
      generalize ((f 5 : Nat) : Int) = p2 at *
      generalize ((g 5 : Nat) : Int) = p3 at *
      go_wp2_with fail
      go_region_held3 (fun wx : World => wx.cell? ⟨w.heap.size, 0, none⟩ = some (.int .u64 p0) ∧ wx.cell? ⟨w.heap.size, 5, none⟩ = some (.int .u64 p2) ∧ wx.cell? ⟨w.heap.size + 1, 0, none⟩ = some (.int .u64 p1) ∧ wx.cell? ⟨w.heap.size + 1, 5, none⟩ = some (.int .u64 p3))
        (refine ⟨hcx _ ?_, hcz _ ?_, hdx _ ?_, hdz _ ?_⟩ <;> ((repeat (first | exact c_refl _ | refine c_drew ?_ | refine c_alloc ?_ _ | refine c_call ?_ (by assumption))); done))
        (fail)
      go_wp2_with fail
      exact ⟨⟨1, by omega, rfl, Hnew.out⟩, by simp [intOf]⟩
    · have hcx := fun wx (hb : Below wr.heap.size wr wx) => ((hM.get 0 rfl).call hb).cell (qC_at (l := tenL (partT f (fstT b f g) 1)) (i := 1) (x := f 1) rfl)
      have hcz := fun wx (hb : Below wr.heap.size wr wx) => ((hM.get 0 rfl).call hb).cell (qC_at (l := tenL (partT f (fstT b f g) 1)) (i := 6) (x := f 6) rfl)
      have hdx := fun wx (hb : Below wr.heap.size wr wx) => ((hM.get 1 rfl).call hb).cell (qC_at (l := tenL (partT g (sndT b f g) 1)) (i := 1) (x := g 1) rfl)
      have hdz := fun wx (hb : Below wr.heap.size wr wx) => ((hM.get 1 rfl).call hb).cell (qC_at (l := tenL (partT g (sndT b f g) 1)) (i := 6) (x := g 6) rfl)
      have v0 := (hval 1).out
      have v1 := (hval 6).out
      have a0 := (hbits 1 (by omega)).out
      have a1 := (hbits 6 (by omega)).out
      have b0 := (hbits2 1 (by omega)).out
      have b1 := (hbits2 6 (by omega)).out
      have hMd := hM
      have x0 := (hMd.get 0 rfl).cell (qC_at (l := tenL (partT f (fstT b f g) 1)) (i := 1) (x := f 1) rfl)
      have f0 := (hMd.get 0 rfl).frozen 1
      have hM1 := (hMd.setCell (Nat.le_refl _) (by simp; try omega) 1 (.int .u64 ((if b then g 1 else f 1 : Nat) : Int))).swap
      have x1 := (hM1.get 0 rfl).cell (qC_at (l := tenL (partT g (sndT b f g) 1)) (i := 1) (x := g 1) rfl)
      have f1 := (hM1.get 0 rfl).frozen 1
      have hM2 := (hM1.setCell (by omega) (by simp; try omega) 1 (.int .u64 ((if b then f 1 else g 1 : Nat) : Int))).swap
      rw [qC_set, qC_set] at hM2
      rw [qC_set] at hM1
      have x2 := (hM2.get 0 rfl).cell (qC_at (l := (tenL (partT f (fstT b f g) 1)).set 1 (if b then g 1 else f 1)) (i := 6) (x := f 6) rfl)
      have f2 := (hM2.get 0 rfl).frozen 6
      have hM3 := (hM2.setCell (Nat.le_refl _) (by simp; try omega) 6 (.int .u64 ((if b then g 6 else f 6 : Nat) : Int))).swap
      rw [qC_set] at hM3
      have x3 := (hM3.get 0 rfl).cell (qC_at (l := (tenL (partT g (sndT b f g) 1)).set 1 (if b then f 1 else g 1)) (i := 6) (x := g 6) rfl)
      have f3 := (hM3.get 0 rfl).frozen 6
      have hM4 := (hM3.setCell (by omega) (by simp; try omega) 6 (.int .u64 ((if b then f 6 else g 6 : Nat) : Int))).swap
      rw [qC_set] at hM4
      have hnew : Ms w _ [(w.heap.size, 38, qC (tenL (partT f (fstT b f g) 2))), (w.heap.size + 1, 38, qC (tenL (partT g (sndT b f g) 2))), (w.heap.size + 1 + 1, 38, #[.int .u64 0, .int .u64 0, .int .u64 0, .int .u64 0, .int .u64 0, .int .u64 0, .int .u64 0, .int .u64 0, .int .u64 0, .int .u64 0]), (w.heap.size + 1 + 1 + 1, 38, #[.int .u64 0, .int .u64 0, .int .u64 0, .int .u64 0, .int .u64 0, .int .u64 0, .int .u64 0, .int .u64 0, .int .u64 0, .int .u64 0])] := hM4
      have Hnew := Lib.hid hnew.drew
      clear hM1 hM2 hM3 hM4 hnew hbits hbits2 hval hMd
      generalize swapV b (f 1) (g 1) = s0 at *
      generalize swapV b (f 6) (g 6) = s1 at *
      generalize ((if b then g 1 else f 1 : Nat) : Int) = y0 at *
      generalize ((if b then f 1 else g 1 : Nat) : Int) = y1 at *
      generalize ((if b then g 6 else f 6 : Nat) : Int) = y2 at *
      generalize ((if b then f 6 else g 6 : Nat) : Int) = y3 at *
      generalize ((f 1 : Nat) : Int) = p0 at *
      generalize ((g 1 : Nat) : Int) = p1 at *
      generalize ((f 6 : Nat) : Int) = p2 at *
      generalize ((g 6 : Nat) : Int) = p3 at *
      go_wp2_with fail
      go_region_held3 (fun wx : World => wx.cell? ⟨w.heap.size, 1, none⟩ = some (.int .u64 p0) ∧ wx.cell? ⟨w.heap.size, 6, none⟩ = some (.int .u64 p2) ∧ wx.cell? ⟨w.heap.size + 1, 1, none⟩ = some (.int .u64 p1) ∧ wx.cell? ⟨w.heap.size + 1, 6, none⟩ = some (.int .u64 p3))
        (refine ⟨hcx _ ?_, hcz _ ?_, hdx _ ?_, hdz _ ?_⟩ <;> ((repeat (first | exact c_refl _ | refine c_drew ?_ | refine c_alloc ?_ _ | refine c_call ?_ (by assumption))); done))
        (fail)
      go_wp2_with fail
      exact ⟨⟨2, by omega, rfl, Hnew.out⟩, by simp [intOf]⟩
    · have hcx := fun wx (hb : Below wr.heap.size wr wx) => ((hM.get 0 rfl).call hb).cell (qC_at (l := tenL (partT f (fstT b f g) 2)) (i := 2) (x := f 2) rfl)
      have hcz := fun wx (hb : Below wr.heap.size wr wx) => ((hM.get 0 rfl).call hb).cell (qC_at (l := tenL (partT f (fstT b f g) 2)) (i := 7) (x := f 7) rfl)
      have hdx := fun wx (hb : Below wr.heap.size wr wx) => ((hM.get 1 rfl).call hb).cell (qC_at (l := tenL (partT g (sndT b f g) 2)) (i := 2) (x := g 2) rfl)
      have hdz := fun wx (hb : Below wr.heap.size wr wx) => ((hM.get 1 rfl).call hb).cell (qC_at (l := tenL (partT g (sndT b f g) 2)) (i := 7) (x := g 7) rfl)
      have v0 := (hval 2).out
      have v1 := (hval 7).out
      have a0 := (hbits 2 (by omega)).out
      have a1 := (hbits 7 (by omega)).out
      have b0 := (hbits2 2 (by omega)).out
      have b1 := (hbits2 7 (by omega)).out
      have hMd := hM
      have x0 := (hMd.get 0 rfl).cell (qC_at (l := tenL (partT f (fstT b f g) 2)) (i := 2) (x := f 2) rfl)
      have f0 := (hMd.get 0 rfl).frozen 2
      have hM1 := (hMd.setCell (Nat.le_refl _) (by simp; try omega) 2 (.int .u64 ((if b then g 2 else f 2 : Nat) : Int))).swap
      have x1 := (hM1.get 0 rfl).cell (qC_at (l := tenL (partT g (sndT b f g) 2)) (i := 2) (x := g 2) rfl)
      have f1 := (hM1.get 0 rfl).frozen 2
      have hM2 := (hM1.setCell (by omega) (by simp; try omega) 2 (.int .u64 ((if b then f 2 else g 2 : Nat) : Int))).swap
      rw [qC_set, qC_set] at hM2
      rw [qC_set] at hM1
      have x2 := (hM2.get 0 rfl).cell (qC_at (l := (tenL (partT f (fstT b f g) 2)).set 2 (if b then g 2 else f 2)) (i := 7) (x := f 7) rfl)
      have f2 := (hM2.get 0 rfl).frozen 7
      have hM3 := (hM2.setCell (Nat.le_refl _) (by simp; try omega) 7 (.int .u64 ((if b then g 7 else f 7 : Nat) : Int))).swap
      rw [qC_set] at hM3
      have x3 := (hM3.get 0 rfl).cell (qC_at (l := (tenL (partT g (sndT b f g) 2)).set 2 (if b then f 2 else g 2)) (i := 7) (x := g 7) rfl)
      have f3 := (hM3.get 0 rfl).frozen 7
      have hM4 := (hM3.setCell (by omega) (by simp; try omega) 7 (.int .u64 ((if b then f 7 else g 7 : Nat) : Int))).swap
      rw [qC_set] at hM4
      have hnew : Ms w _ [(w.heap.size, 38, qC (tenL (partT f (fstT b f g) 3))), (w.heap.size + 1, 38, qC (tenL (partT g (sndT b f g) 3))), (w.heap.size + 1 + 1, 38, #[.int .u64 0, .int .u64 0, .int .u64 0, .int .u64 0, .int .u64 0, .int .u64 0, .int .u64 0, .int .u64 0, .int .u64 0, .int .u64 0]), (w.heap.size + 1 + 1 + 1, 38, #[.int .u64 0, .int .u64 0, .int .u64 0, .int .u64 0, .int .u64 0, .int .u64 0, .int .u64 0, .int .u64 0, .int .u64 0, .int .u64 0])] := hM4
      have Hnew := Lib.hid hnew.drew
      clear hM1 hM2 hM3 hM4 hnew hbits hbits2 hval hMd
      generalize swapV b (f 2) (g 2) = s0 at *
      generalize swapV b (f 7) (g 7) = s1 at *
      generalize ((if b then g 2 else f 2 : Nat) : Int) = y0 at *
      generalize ((if b then f 2 else g 2 : Nat) : Int) = y1 at *
      generalize ((if b then g 7 else f 7 : Nat) : Int) = y2 at *
      generalize ((if b then f 7 else g 7 : Nat) : Int) = y3 at *
      generalize ((f 2 : Nat) : Int) = p0 at *
      generalize ((g 2 : Nat) : Int) = p1 at *
      generalize ((f 7 : Nat) : Int) = p2 at *
      generalize ((g 7 : Nat) : Int) = p3 at *
      go_wp2_with fail
      go_region_held3 (fun wx : World => wx.cell? ⟨w.heap.size, 2, none⟩ = some (.int .u64 p0) ∧ wx.cell? ⟨w.heap.size, 7, none⟩ = some (.int .u64 p2) ∧ wx.cell? ⟨w.heap.size + 1, 2, none⟩ = some (.int .u64 p1) ∧ wx.cell? ⟨w.heap.size + 1, 7, none⟩ = some (.int .u64 p3))
        (refine ⟨hcx _ ?_, hcz _ ?_, hdx _ ?_, hdz _ ?_⟩ <;> ((repeat (first | exact c_refl _ | refine c_drew ?_ | refine c_alloc ?_ _ | refine c_call ?_ (by assumption))); done))
        (fail)
      go_wp2_with fail
      exact ⟨⟨3, by omega, rfl, Hnew.out⟩, by simp [intOf]⟩
    · have hcx := fun wx (hb : Below wr.heap.size wr wx) => ((hM.get 0 rfl).call hb).cell (qC_at (l := tenL (partT f (fstT b f g) 3)) (i := 3) (x := f 3) rfl)
      have hcz := fun wx (hb : Below wr.heap.size wr wx) => ((hM.get 0 rfl).call hb).cell (qC_at (l := tenL (partT f (fstT b f g) 3)) (i := 8) (x := f 8) rfl)
      have hdx := fun wx (hb : Below wr.heap.size wr wx) => ((hM.get 1 rfl).call hb).cell (qC_at (l := tenL (partT g (sndT b f g) 3)) (i := 3) (x := g 3) rfl)
      have hdz := fun wx (hb : Below wr.heap.size wr wx) => ((hM.get 1 rfl).call hb).cell (qC_at (l := tenL (partT g (sndT b f g) 3)) (i := 8) (x := g 8) rfl)
      have v0 := (hval 3).out
      have v1 := (hval 8).out
      have a0 := (hbits 3 (by omega)).out
      have a1 := (hbits 8 (by omega)).out
      have b0 := (hbits2 3 (by omega)).out
      have b1 := (hbits2 8 (by omega)).out
      have hMd := hM
      have x0 := (hMd.get 0 rfl).cell (qC_at (l := tenL (partT f (fstT b f g) 3)) (i := 3) (x := f 3) rfl)
      have f0 := (hMd.get 0 rfl).frozen 3
      have hM1 := (hMd.setCell (Nat.le_refl _) (by simp; try omega) 3 (.int .u64 ((if b then g 3 else f 3 : Nat) : Int))).swap
      have x1 := (hM1.get 0 rfl).cell (qC_at (l := tenL (partT g (sndT b f g) 3)) (i := 3) (x := g 3) rfl)
      have f1 := (hM1.get 0 rfl).frozen 3
      have hM2 := (hM1.setCell (by omega) (by simp; try omega) 3 (.int .u64 ((if b then f 3 else g 3 : Nat) : Int))).swap
      rw [qC_set, qC_set] at hM2
      rw [qC_set] at hM1
      have x2 := (hM2.get 0 rfl).cell (qC_at (l := (tenL (partT f (fstT b f g) 3)).set 3 (if b then g 3 else f 3)) (i := 8) (x := f 8) rfl)
      have f2 := (hM2.get 0 rfl).frozen 8
      have hM3 := (hM2.setCell (Nat.le_refl _) (by simp; try omega) 8 (.int .u64 ((if b then g 8 else f 8 : Nat) : Int))).swap
      rw [qC_set] at hM3
      have x3 := (hM3.get 0 rfl).cell (qC_at (l := (tenL (partT g (sndT b f g) 3)).set 3 (if b then f 3 else g 3)) (i := 8) (x := g 8) rfl)
      have f3 := (hM3.get 0 rfl).frozen 8
      have hM4 := (hM3.setCell (by omega) (by simp; try omega) 8 (.int .u64 ((if b then f 8 else g 8 : Nat) : Int))).swap
      rw [qC_set] at hM4
      have hnew : Ms w _ [(w.heap.size, 38, qC (tenL (partT f (fstT b f g) 4))), (w.heap.size + 1, 38, qC (tenL (partT g (sndT b f g) 4))), (w.heap.size + 1 + 1, 38, #[.int .u64 0, .int .u64 0, .int .u64 0, .int .u64 0, .int .u64 0, .int .u64 0, .int .u64 0, .int .u64 0, .int .u64 0, .int .u64 0]), (w.heap.size + 1 + 1 + 1, 38, #[.int .u64 0, .int .u64 0, .int .u64 0, .int .u64 0, .int .u64 0, .int .u64 0, .int .u64 0, .int .u64 0, .int .u64 0, .int .u64 0])] := hM4
      have Hnew := Lib.hid hnew.drew
      clear hM1 hM2 hM3 hM4 hnew hbits hbits2 hval hMd
      generalize swapV b (f 3) (g 3) = s0 at *
      generalize swapV b (f 8) (g 8) = s1 at *
      generalize ((if b then g 3 else f 3 : Nat) : Int) = y0 at *
      generalize ((if b then f 3 else g 3 : Nat) : Int) = y1 at *
      generalize ((if b then g 8 else f 8 : Nat) : Int) = y2 at *
      generalize ((if b then f 8 else g 8 : Nat) : Int) = y3 at *
      generalize ((f 3 : Nat) : Int) = p0 at *
      generalize ((g 3 : Nat) : Int) = p1 at *
      generalize ((f 8 : Nat) : Int) = p2 at *
      generalize ((g 8 : Nat) : Int) = p3 at *
      go_wp2_with fail
      go_region_held3 (fun wx : World => wx.cell? ⟨w.heap.size, 3, none⟩ = some (.int .u64 p0) ∧ wx.cell? ⟨w.heap.size, 8, none⟩ = some (.int .u64 p2) ∧ wx.cell? ⟨w.heap.size + 1, 3, none⟩ = some (.int .u64 p1) ∧ wx.cell? ⟨w.heap.size + 1, 8, none⟩ = some (.int .u64 p3))
        (refine ⟨hcx _ ?_, hcz _ ?_, hdx _ ?_, hdz _ ?_⟩ <;> ((repeat (first | exact c_refl _ | refine c_drew ?_ | refine c_alloc ?_ _ | refine c_call ?_ (by assumption))); done))
        (fail)
      go_wp2_with fail
      exact ⟨⟨4, by omega, rfl, Hnew.out⟩, by simp [intOf]⟩
    · have hcx := fun wx (hb : Below wr.heap.size wr wx) => ((hM.get 0 rfl).call hb).cell (qC_at (l := tenL (partT f (fstT b f g) 4)) (i := 4) (x := f 4) rfl)
      have hcz := fun wx (hb : Below wr.heap.size wr wx) => ((hM.get 0 rfl).call hb).cell (qC_at (l := tenL (partT f (fstT b f g) 4)) (i := 9) (x := f 9) rfl)
      have hdx := fun wx (hb : Below wr.heap.size wr wx) => ((hM.get 1 rfl).call hb).cell (qC_at (l := tenL (partT g (sndT b f g) 4)) (i := 4) (x := g 4) rfl)
      have hdz := fun wx (hb : Below wr.heap.size wr wx) => ((hM.get 1 rfl).call hb).cell (qC_at (l := tenL (partT g (sndT b f g) 4)) (i := 9) (x := g 9) rfl)
      have v0 := (hval 4).out
      have v1 := (hval 9).out
      have a0 := (hbits 4 (by omega)).out
      have a1 := (hbits 9 (by omega)).out
      have b0 := (hbits2 4 (by omega)).out
      have b1 := (hbits2 9 (by omega)).out
      have hMd := hM
      have x0 := (hMd.get 0 rfl).cell (qC_at (l := tenL (partT f (fstT b f g) 4)) (i := 4) (x := f 4) rfl)
      have f0 := (hMd.get 0 rfl).frozen 4
      have hM1 := (hMd.setCell (Nat.le_refl _) (by simp; try omega) 4 (.int .u64 ((if b then g 4 else f 4 : Nat) : Int))).swap
      have x1 := (hM1.get 0 rfl).cell (qC_at (l := tenL (partT g (sndT b f g) 4)) (i := 4) (x := g 4) rfl)
      have f1 := (hM1.get 0 rfl).frozen 4
      have hM2 := (hM1.setCell (by omega) (by simp; try omega) 4 (.int .u64 ((if b then f 4 else g 4 : Nat) : Int))).swap
      rw [qC_set, qC_set] at hM2
      rw [qC_set] at hM1
      have x2 := (hM2.get 0 rfl).cell (qC_at (l := (tenL (partT f (fstT b f g) 4)).set 4 (if b then g 4 else f 4)) (i := 9) (x := f 9) rfl)
      have f2 := (hM2.get 0 rfl).frozen 9
      have hM3 := (hM2.setCell (Nat.le_refl _) (by simp; try omega) 9 (.int .u64 ((if b then g 9 else f 9 : Nat) : Int))).swap
      rw [qC_set] at hM3
      have x3 := (hM3.get 0 rfl).cell (qC_at (l := (tenL (partT g (sndT b f g) 4)).set 4 (if b then f 4 else g 4)) (i := 9) (x := g 9) rfl)
      have f3 := (hM3.get 0 rfl).frozen 9
      have hM4 := (hM3.setCell (by omega) (by simp; try omega) 9 (.int .u64 ((if b then f 9 else g 9 : Nat) : Int))).swap
      rw [qC_set] at hM4
      have hnew : Ms w _ [(w.heap.size, 38, qC (tenL (partT f (fstT b f g) 5))), (w.heap.size + 1, 38, qC (tenL (partT g (sndT b f g) 5))), (w.heap.size + 1 + 1, 38, #[.int .u64 0, .int .u64 0, .int .u64 0, .int .u64 0, .int .u64 0, .int .u64 0, .int .u64 0, .int .u64 0, .int .u64 0, .int .u64 0]), (w.heap.size + 1 + 1 + 1, 38, #[.int .u64 0, .int .u64 0, .int .u64 0, .int .u64 0, .int .u64 0, .int .u64 0, .int .u64 0, .int .u64 0, .int .u64 0, .int .u64 0])] := hM4
      have Hnew := Lib.hid hnew.drew
      clear hM1 hM2 hM3 hM4 hnew hbits hbits2 hval hMd
      generalize swapV b (f 4) (g 4) = s0 at *
      generalize swapV b (f 9) (g 9) = s1 at *
      generalize ((if b then g 4 else f 4 : Nat) : Int) = y0 at *
      generalize ((if b then f 4 else g 4 : Nat) : Int) = y1 at *
      generalize ((if b then g 9 else f 9 : Nat) : Int) = y2 at *
      generalize ((if b then f 9 else g 9 : Nat) : Int) = y3 at *
      generalize ((f 4 : Nat) : Int) = p0 at *
      generalize ((g 4 : Nat) : Int) = p1 at *
      generalize ((f 9 : Nat) : Int) = p2 at *
      generalize ((g 9 : Nat) : Int) = p3 at *
      go_wp2_with fail
      go_region_held3 (fun wx : World => wx.cell? ⟨w.heap.size, 4, none⟩ = some (.int .u64 p0) ∧ wx.cell? ⟨w.heap.size, 9, none⟩ = some (.int .u64 p2) ∧ wx.cell? ⟨w.heap.size + 1, 4, none⟩ = some (.int .u64 p1) ∧ wx.cell? ⟨w.heap.size + 1, 9, none⟩ = some (.int .u64 p3))
        (refine ⟨hcx _ ?_, hcz _ ?_, hdx _ ?_, hdz _ ?_⟩ <;> ((repeat (first | exact c_refl _ | refine c_drew ?_ | refine c_alloc ?_ _ | refine c_call ?_ (by assumption))); done))
        (fail)
      go_wp2_with fail
      exact ⟨⟨5, by omega, rfl, Hnew.out⟩, by simp [intOf]⟩
    · rw [partT_all, partT_all] at hM
      rw [show ((5 : Nat) : Int) = 5 from rfl]
      have hs := tenSize (fstT b f g)
      have hs' := tenSize (sndT b f g)
      have hz := tenZero (fstT b f g)
      have hz' := tenZero (sndT b f g)
      have ho := qC_one (tenL (fstT b f g))
      have ho' := qC_one (tenL (sndT b f g))
      clear hbits hbits2 hval
      generalize hca : qC (tenL (fstT b f g)) = ca at *
      generalize hcb : qC (tenL (sndT b f g)) = cb at *
      have Hca := Lib.hid hca
      have Hcb := Lib.hid hcb
      clear hca hcb
      have hun := Try.underlying38
      have hsl : (Try.prog.info? 38).map (·.size) = some ca.toList.length := by simpa using hs
      have hsl' : (Try.prog.info? 38).map (·.size) = some cb.toList.length := by simpa using hs'
      have hkeep : ∀ wx : World, Below wr.heap.size wr wx → wx.rangeAt w.heap.size 0 ca.toList ∧ wx.rangeAt (w.heap.size + 1) 0 cb.toList := fun wx hb => ⟨((hM.get 0 rfl).call hb).range, ((hM.get 1 rfl).call hb).range⟩
      have hMd := hM.drew
      go_wp2_with fail
      refine beginT (fun wx => wx.rangeAt w.heap.size 0 ca.toList ∧ wx.rangeAt (w.heap.size + 1) 0 cb.toList) 3 (by kernel_rfl) ?_
      have hS := hkeep _ (c_drew (c_refl _))
      refine loadT 0 (some 72) 38 (.tmp 3) w.heap.size 0 ca.toList rfl rfl (by kernel_rfl) (by kernel_rfl) (by kernel_rfl) (by kernel_rfl) rfl (by kernel_rfl) rfl (fun wx hSw => hSw.1) hun rfl hsl (fun _ _ _ h => h) hS ?_
      simp only [Act.put, List.setIfInBounds_toArray, List.set_cons_zero, List.set_cons_succ, Array.toArray_toList]
      refine loadT 1 (some 73) 38 (.tmp 4) (w.heap.size + 1) 0 cb.toList rfl rfl (by kernel_rfl) (by kernel_rfl) (by kernel_rfl) (by kernel_rfl) rfl (by kernel_rfl) rfl (fun wx hSw => hSw.2) hun rfl hsl' (fun _ _ _ h => h) hS ?_
      simp only [Act.put, List.setIfInBounds_toArray, List.set_cons_zero, List.set_cons_succ, Array.toArray_toList]
      have hsz := hMd.old.size
      refine oneT 2 (by kernel_rfl) rfl (fun K hK => ?_)
      refine step_store_row rfl 38 (.tmp 6) (.tmp 72) rfl (w.heap.size + 1 + 1) ca rfl rfl 38 _ (hMd.get 2 rfl) hs hz ho ?_
      have hc2 : (wr.drew.setRow (w.heap.size + 1 + 1) ca).rangeAt w.heap.size 0 ca.toList ∧ (wr.drew.setRow (w.heap.size + 1 + 1) ca).rangeAt (w.heap.size + 1) 0 cb.toList := ⟨((hMd.get 0 rfl).rowFar (by omega) _).range, ((hMd.get 1 rfl).rowFar (by omega) _).range⟩
      refine hK.out _ _ (fun _ => hc2) ?_
      clear hK K
      refine oneT 3 (by kernel_rfl) rfl (fun K hK => ?_)
      refine step_store_row rfl 38 (.tmp 7) (.tmp 73) rfl (w.heap.size + 1 + 1 + 1) cb rfl rfl 38 _ ((hMd.get 3 rfl).rowFar (by omega) _) hs' hz' ho' ?_
      refine hK.out _ _ (fun h => absurd rfl h) ?_
      clear hK K
      refine doneT (by kernel_rfl) ?_ _
      go_wp2_with fail
      exact bodyPost_ret (results_cells2 rfl _ _ (w.heap.size + 1 + 1) (w.heap.size + 1 + 1 + 1) 38 ca cb _ rfl (((hMd.get 2 rfl).row _).rowFar (by omega) _) rfl (((hMd.get 3 rfl).rowFar (by omega) _).row _) Try.underlying38 rfl hs hs') rfl ⟨by rw [Hca.out, Hcb.out], below_setRow (below_setRow hMd.old (by omega) _) (by omega) _⟩

theorem exchanged_any (b : Bool) (x z y t : Fe5) (w : World) (hx : MayF x) (hz : MayF z) (hy : MayF y) (ht : MayF t) :
    Calls Try.prog 18 #[.agg (rtC x z), .agg (rtC y t), .int .u64 (bitI b)] w fun e w' => e = .returned (.tuple #[.agg (if b then rtC y t else rtC x z), .agg (if b then rtC x z else rtC y t)]) ∧ Below w.heap.size w w' := by
  have low : ∀ {x z : Fe5}, MayF x → MayF z → ∀ k, k < 10 → (rtL x z).getD k 0 < 18446744073709551616 := by
    intro x z hx hz k hk
    obtain ⟨h0, h1, h2, h3, h4⟩ := hx
    obtain ⟨g0, g1, g2, g3, g4⟩ := hz
    have h : k = 0 ∨ k = 1 ∨ k = 2 ∨ k = 3 ∨ k = 4 ∨ k = 5 ∨ k = 6 ∨ k = 7 ∨ k = 8 ∨ k = 9 := by omega
    rcases h with rfl | rfl | rfl | rfl | rfl | rfl | rfl | rfl | rfl | rfl <;> simp only [rtL, List.getD_cons_zero, List.getD_cons_succ] <;> omega
  have h := exchanged_ten b (fun k => (rtL x z).getD k 0) (fun k => (rtL y t).getD k 0) w (low hx hz) (low hy ht)
  have e0 : ∀ x z : Fe5, qC (tenL (fun k => (rtL x z).getD k 0)) = rtC x z := fun _ _ => rfl
  rw [e0, e0] at h
  have e1 : qC (tenL (fstT b (fun k => (rtL x z).getD k 0) (fun k => (rtL y t).getD k 0))) = if b then rtC y t else rtC x z := by cases b <;> rfl
  have e2 : qC (tenL (sndT b (fun k => (rtL x z).getD k 0) (fun k => (rtL y t).getD k 0))) = if b then rtC x z else rtC y t := by cases b <;> rfl
  rw [e1, e2] at h
  exact h

end Go.Proofs.Ytimgnpcojamafaa
