import Derived.Test.YtbiijdboolpaeaaDoorG40
import Derived.Test.YtbiijdboolpaeaaDoorG04
import Derived.Test.YtbiijdboolpaeaaDoorG24
import Derived.Test.YtbiijdboolpaeaaDoorG18
set_option linter.unusedVariables false
namespace Go.Proofs.YtbiijdboolpaeaaDoor
open Go.RowKit
def tenL (f : Nat → Nat) : List Nat := [f 0, f 1, f 2, f 3, f 4, f 5, f 6, f 7, f 8, f 9]
def partT (f g : Nat → Nat) (n : Nat) : Nat → Nat := fun k => if k % 5 < n then g k else f k
theorem partT_zero (f g : Nat → Nat) : tenL (partT f g 0) = tenL f := rfl
theorem partT_all (f g : Nat → Nat) : tenL (partT f g 5) = tenL g := rfl
def maskI (b : Bool) : Int := if b then 18446744073709551615 else 0
def swapV (b : Bool) (x y : Nat) : Int := bits .and .u64 (maskI b) (bits .xor .u64 (x : Int) (y : Int))
theorem mask_neg (b : Bool) : IntKind.u64.wrap (-(bitI b)) = maskI b := by cases b <;> rfl
theorem xor_lt64 {x y : Nat} (hx : x < 18446744073709551616) (hy : y < 18446744073709551616) : x ^^^ y < 18446744073709551616 :=
 Nat.xor_lt_two_pow (n := 64) hx hy
theorem swapV_eq (b : Bool) {x y : Nat} (hx : x < 18446744073709551616) (hy : y < 18446744073709551616) : swapV b x y = ((if b then x ^^^ y else 0 : Nat) : Int) := by
 have h := xor_lt64 hx hy
 unfold swapV maskI
 rw [bits_xor_u64_nat x y hx hy]
 cases b
 ·
  simp only [Bool.false_eq_true, if_false]
  have := bits_and_u64_nat 0 (x ^^^ y) (by omega) h
  rw [show ((0 : Nat) : Int) = 0 from rfl, Nat.zero_and] at this
  rw [this]
 ·
  simp only [if_true]
  have := bits_and_u64_nat 18446744073709551615 (x ^^^ y) (by omega) h
  rw [show ((18446744073709551615 : Nat) : Int) = 18446744073709551615 from rfl] at this
  rw [this, Nat.and_comm, show (18446744073709551615 : Nat) = 2 ^ 64 - 1 from rfl, Nat.and_two_pow_sub_one_eq_mod, Nat.mod_eq_of_lt h]
theorem swap_fst (b : Bool) {x y : Nat} (hx : x < 18446744073709551616) (hy : y < 18446744073709551616) : bits .xor .u64 (x : Int) (swapV b x y) = ((if b then y else x : Nat) : Int) := by
 have h := xor_lt64 hx hy
 rw [swapV_eq b hx hy]
 cases b
 ·
  simp only [Bool.false_eq_true, if_false]
  rw [bits_xor_u64_nat x 0 hx (by omega), Nat.xor_zero]
 ·
  simp only [if_true]
  rw [bits_xor_u64_nat x _ hx h, ← Nat.xor_assoc, Nat.xor_self, Nat.zero_xor]
theorem swap_snd (b : Bool) {x y : Nat} (hx : x < 18446744073709551616) (hy : y < 18446744073709551616) : bits .xor .u64 (y : Int) (swapV b x y) = ((if b then x else y : Nat) : Int) := by
 have h := xor_lt64 hx hy
 rw [swapV_eq b hx hy]
 cases b
 ·
  simp only [Bool.false_eq_true, if_false]
  rw [bits_xor_u64_nat y 0 hy (by omega), Nat.xor_zero]
 ·
  simp only [if_true]
  rw [bits_xor_u64_nat y _ hy h, Nat.xor_comm x y, ← Nat.xor_assoc, Nat.xor_self, Nat.zero_xor]
def fstT (b : Bool) (f g : Nat → Nat) : Nat → Nat := fun k => if b then g k else f k
def sndT (b : Bool) (f g : Nat → Nat) : Nat → Nat := fun k => if b then f k else g k
theorem tenSize (f : Nat → Nat) : (Tryd.prog.info? 53).map (·.size) = some (qC (tenL f)).size := infoRt
theorem tenZero (f : Nat → Nat) : (#[.int .u64 0, .int .u64 0, .int .u64 0, .int .u64 0, .int .u64 0, .int .u64 0, .int .u64 0, .int .u64 0, .int .u64 0, .int .u64 0] : Array Value).size = (qC (tenL f)).size := rfl
theorem results_cells2 {P : Program} {fn : Func} {p q : Tmp} {ty : TypeId} (h : fn.results = #[.cell p ty, .cell q ty]) (tmps : Array Value) (w : World) (g g' : Nat) (t : TypeId) (cs cs' : Array Value) (d : TypeDesc)
  (hp : tmps.getD p undef = .pointer (some ⟨g, 0, none⟩)) (hg : RowC w g t cs) (hq : tmps.getD q undef = .pointer (some ⟨g', 0, none⟩)) (hg' : RowC w g' t cs')
  (hu : P.underlying ty = some d) (hd : (match d with | .struct _ | .array _ _ => true | _ => false) = true) (hi : (P.info? ty).map (·.size) = some cs.size) (hi' : (P.info? ty).map (·.size) = some cs'.size) :
  (results fn tmps).run P w = .ok (.tuple #[.agg cs, .agg cs']) w := by
 have hp' : tmps[p]?.getD undef = .pointer (some ⟨g, 0, none⟩) := by simpa using hp
 have hq' : tmps[q]?.getD undef = .pointer (some ⟨g', 0, none⟩) := by simpa using hq
 simp [results, h, hp', hq', asAddr, run_loadVar_row w g t ty cs (0, 0) d hg hu hd hi, run_loadVar_row w g' t ty cs' (0, 0) d hg' hu hd hi']
set_option maxRecDepth 100000 in
set_option maxHeartbeats 8000000 in
theorem exchanged_ten (b : Bool) (f g : Nat → Nat) (w : World) (hf : ∀ k, k < 10 → f k < 18446744073709551616) (hg : ∀ k, k < 10 → g k < 18446744073709551616) :
  Calls Tryd.prog 27 #[.agg (qC (tenL f)), .agg (qC (tenL g)), .int .u64 (bitI b)] w fun e w' => e = .returned (.tuple #[.agg (qC (tenL (fstT b f g))), .agg (qC (tenL (sndT b f g)))]) ∧ Below w.heap.size w w' := by
 have hMb := ((((Ms.nil w).box 53 (qC (tenL f))).box 53 (qC (tenL g))).box 53 #[.int .u64 0, .int .u64 0, .int .u64 0, .int .u64 0, .int .u64 0, .int .u64 0, .int .u64 0, .int .u64 0, .int .u64 0, .int .u64 0]).box 53 #[.int .u64 0, .int .u64 0, .int .u64 0, .int .u64 0, .int .u64 0, .int .u64 0, .int .u64 0, .int .u64 0, .int .u64 0, .int .u64 0]
 simp only [World.size_alloc] at hMb
 have hM0 := hMb.sub (L' := [(w.heap.size, 53, qC (tenL (partT f (fstT b f g) 0))), (w.heap.size + 1, 53, qC (tenL (partT g (sndT b f g) 0))), (w.heap.size + 1 + 1, 53, #[.int .u64 0, .int .u64 0, .int .u64 0, .int .u64 0, .int .u64 0, .int .u64 0, .int .u64 0, .int .u64 0, .int .u64 0, .int .u64 0]), (w.heap.size + 1 + 1 + 1, 53, #[.int .u64 0, .int .u64 0, .int .u64 0, .int .u64 0, .int .u64 0, .int .u64 0, .int .u64 0, .int .u64 0, .int .u64 0, .int .u64 0])]) (by rw [partT_zero, partT_zero]; intro p hp; simp only [List.mem_cons, List.not_mem_nil, or_false] at hp ⊢; rcases hp with h | h | h | h <;> simp [h])
 clear hMb
 have HF := Lib.hid hf
 have HG := Lib.hid hg
 clear hf hg
 have hneg := mask_neg b
 have hbits := fun n (h : n < 10) => Lib.hid (swap_fst b (HF.out n h) (HG.out n h))
 have hbits2 := fun n (h : n < 10) => Lib.hid (swap_snd b (HF.out n h) (HG.out n h))
 have hval := fun n => Lib.hid (show bits .and .u64 (maskI b) (bits .xor .u64 ((f n : Nat) : Int) ((g n : Nat) : Int)) = swapV b (f n) (g n) from rfl)
 generalize hβ : bitI b = β at *
 generalize hm : maskI b = m at *
 clear hβ hm
 go_enter Tryd.func27, Tryd.ntmps27
 go_wp2_with fail
 go_loopw [14] (fun i wr => ∃ n : Nat, n ≤ 5 ∧ i = .int .i64 (n : Int) ∧ Ms w wr [(w.heap.size, 53, qC (tenL (partT f (fstT b f g) n))), (w.heap.size + 1, 53, qC (tenL (partT g (sndT b f g) n))), (w.heap.size + 1 + 1, 53, #[.int .u64 0, .int .u64 0, .int .u64 0, .int .u64 0, .int .u64 0, .int .u64 0, .int .u64 0, .int .u64 0, .int .u64 0, .int .u64 0]), (w.heap.size + 1 + 1 + 1, 53, #[.int .u64 0, .int .u64 0, .int .u64 0, .int .u64 0, .int .u64 0, .int .u64 0, .int .u64 0, .int .u64 0, .int .u64 0, .int .u64 0])]) (fun i _ => (5 - intOf i).toNat)
 case atStart => exact ⟨0, by omega, rfl, hM0⟩
 case round =>
  obtain ⟨n, hn, rfl, hM⟩ := hrel
  clear hM0
  have h6 : n = 0 ∨ n = 1 ∨ n = 2 ∨ n = 3 ∨ n = 4 ∨ n = 5 := by omega
  rcases h6 with rfl | rfl | rfl | rfl | rfl | rfl
  ·
   have hcx := fun wx (hb : Below wr.heap.size wr wx) => ((hM.get 0 rfl).call hb).cell (qC_at (l := tenL (partT f (fstT b f g) 0)) (i := 0) (x := f 0) rfl)
   have hcz := fun wx (hb : Below wr.heap.size wr wx) => ((hM.get 0 rfl).call hb).cell (qC_at (l := tenL (partT f (fstT b f g) 0)) (i := 5) (x := f 5) rfl)
   have hdx := fun wx (hb : Below wr.heap.size wr wx) => ((hM.get 1 rfl).call hb).cell (qC_at (l := tenL (partT g (sndT b f g) 0)) (i := 0) (x := g 0) rfl)
   have hdz := fun wx (hb : Below wr.heap.size wr wx) => ((hM.get 1 rfl).call hb).cell (qC_at (l := tenL (partT g (sndT b f g) 0)) (i := 5) (x := g 5) rfl)
   have v0 := (hval 0).out
   have v1 := (hval 5).out
   have a0 := (hbits 0 (by omega)).out
   have a1 := (hbits 5 (by omega)).out
   have b0 := (hbits2 0 (by omega)).out
   have b1 := (hbits2 5 (by omega)).out
   have hMd := hM
   have x0 := (hMd.get 0 rfl).cell (qC_at (l := tenL (partT f (fstT b f g) 0)) (i := 0) (x := f 0) rfl)
   have f0 := (hMd.get 0 rfl).frozen 0
   have hM1 := (hMd.setCell (Nat.le_refl _) (by simp; try omega) 0 (.int .u64 ((if b then g 0 else f 0 : Nat) : Int))).swap
   have x1 := (hM1.get 0 rfl).cell (qC_at (l := tenL (partT g (sndT b f g) 0)) (i := 0) (x := g 0) rfl)
   have f1 := (hM1.get 0 rfl).frozen 0
   have hM2 := (hM1.setCell (by omega) (by simp; try omega) 0 (.int .u64 ((if b then f 0 else g 0 : Nat) : Int))).swap
   rw [qC_set, qC_set] at hM2
   rw [qC_set] at hM1
   have x2 := (hM2.get 0 rfl).cell (qC_at (l := (tenL (partT f (fstT b f g) 0)).set 0 (if b then g 0 else f 0)) (i := 5) (x := f 5) rfl)
   have f2 := (hM2.get 0 rfl).frozen 5
   have hM3 := (hM2.setCell (Nat.le_refl _) (by simp; try omega) 5 (.int .u64 ((if b then g 5 else f 5 : Nat) : Int))).swap
   rw [qC_set] at hM3
   have x3 := (hM3.get 0 rfl).cell (qC_at (l := (tenL (partT g (sndT b f g) 0)).set 0 (if b then f 0 else g 0)) (i := 5) (x := g 5) rfl)
   have f3 := (hM3.get 0 rfl).frozen 5
   have hM4 := (hM3.setCell (by omega) (by simp; try omega) 5 (.int .u64 ((if b then f 5 else g 5 : Nat) : Int))).swap
   rw [qC_set] at hM4
   have hnew : Ms w _ [(w.heap.size, 53, qC (tenL (partT f (fstT b f g) 1))), (w.heap.size + 1, 53, qC (tenL (partT g (sndT b f g) 1))), (w.heap.size + 1 + 1, 53, #[.int .u64 0, .int .u64 0, .int .u64 0, .int .u64 0, .int .u64 0, .int .u64 0, .int .u64 0, .int .u64 0, .int .u64 0, .int .u64 0]), (w.heap.size + 1 + 1 + 1, 53, #[.int .u64 0, .int .u64 0, .int .u64 0, .int .u64 0, .int .u64 0, .int .u64 0, .int .u64 0, .int .u64 0, .int .u64 0, .int .u64 0])] := hM4
   have Hnew := Lib.hid hnew.drew
   clear hM1 hM2 hM3 hM4 hnew hbits hbits2 hval hMd
   generalize swapV b (f 0) (g 0) = s0 at *
   generalize swapV b (f 5) (g 5) = s1 at *
   generalize ((if b then g 0 else f 0 : Nat) : Int) = y0 at *
   generalize ((if b then f 0 else g 0 : Nat) : Int) = y1 at *
   generalize ((if b then g 5 else f 5 : Nat) : Int) = y2 at *
   generalize ((if b then f 5 else g 5 : Nat) : Int) = y3 at *
   generalize ((f 0 : Nat) : Int) = p0 at *
   generalize ((g 0 : Nat) : Int) = p1 at *
   generalize ((f 5 : Nat) : Int) = p2 at *
   generalize ((g 5 : Nat) : Int) = p3 at *
   go_wp2_with fail
   go_region_held3 (fun wx : World => wx.cell? ⟨w.heap.size, 0, none⟩ = some (.int .u64 p0) ∧ wx.cell? ⟨w.heap.size, 5, none⟩ = some (.int .u64 p2) ∧ wx.cell? ⟨w.heap.size + 1, 0, none⟩ = some (.int .u64 p1) ∧ wx.cell? ⟨w.heap.size + 1, 5, none⟩ = some (.int .u64 p3))
    (refine ⟨hcx _ ?_, hcz _ ?_, hdx _ ?_, hdz _ ?_⟩ <;> ((repeat (first | exact c_refl _ | refine c_drew ?_ | refine c_alloc ?_ _ | refine c_call ?_ (by assumption))); done))
    (fail)
   go_wp2_with fail
   exact ⟨⟨1, by omega, rfl, Hnew.out⟩, by simp [intOf]⟩
  ·
   have hcx := fun wx (hb : Below wr.heap.size wr wx) => ((hM.get 0 rfl).call hb).cell (qC_at (l := tenL (partT f (fstT b f g) 1)) (i := 1) (x := f 1) rfl)
   have hcz := fun wx (hb : Below wr.heap.size wr wx) => ((hM.get 0 rfl).call hb).cell (qC_at (l := tenL (partT f (fstT b f g) 1)) (i := 6) (x := f 6) rfl)
   have hdx := fun wx (hb : Below wr.heap.size wr wx) => ((hM.get 1 rfl).call hb).cell (qC_at (l := tenL (partT g (sndT b f g) 1)) (i := 1) (x := g 1) rfl)
   have hdz := fun wx (hb : Below wr.heap.size wr wx) => ((hM.get 1 rfl).call hb).cell (qC_at (l := tenL (partT g (sndT b f g) 1)) (i := 6) (x := g 6) rfl)
   have v0 := (hval 1).out
   have v1 := (hval 6).out
   have a0 := (hbits 1 (by omega)).out
   have a1 := (hbits 6 (by omega)).out
   have b0 := (hbits2 1 (by omega)).out
   have b1 := (hbits2 6 (by omega)).out
   have hMd := hM
   have x0 := (hMd.get 0 rfl).cell (qC_at (l := tenL (partT f (fstT b f g) 1)) (i := 1) (x := f 1) rfl)
   have f0 := (hMd.get 0 rfl).frozen 1
   have hM1 := (hMd.setCell (Nat.le_refl _) (by simp; try omega) 1 (.int .u64 ((if b then g 1 else f 1 : Nat) : Int))).swap
   have x1 := (hM1.get 0 rfl).cell (qC_at (l := tenL (partT g (sndT b f g) 1)) (i := 1) (x := g 1) rfl)
   have f1 := (hM1.get 0 rfl).frozen 1
   have hM2 := (hM1.setCell (by omega) (by simp; try omega) 1 (.int .u64 ((if b then f 1 else g 1 : Nat) : Int))).swap
   rw [qC_set, qC_set] at hM2
   rw [qC_set] at hM1
   have x2 := (hM2.get 0 rfl).cell (qC_at (l := (tenL (partT f (fstT b f g) 1)).set 1 (if b then g 1 else f 1)) (i := 6) (x := f 6) rfl)
   have f2 := (hM2.get 0 rfl).frozen 6
   have hM3 := (hM2.setCell (Nat.le_refl _) (by simp; try omega) 6 (.int .u64 ((if b then g 6 else f 6 : Nat) : Int))).swap
   rw [qC_set] at hM3
   have x3 := (hM3.get 0 rfl).cell (qC_at (l := (tenL (partT g (sndT b f g) 1)).set 1 (if b then f 1 else g 1)) (i := 6) (x := g 6) rfl)
   have f3 := (hM3.get 0 rfl).frozen 6
   have hM4 := (hM3.setCell (by omega) (by simp; try omega) 6 (.int .u64 ((if b then f 6 else g 6 : Nat) : Int))).swap
   rw [qC_set] at hM4
   have hnew : Ms w _ [(w.heap.size, 53, qC (tenL (partT f (fstT b f g) 2))), (w.heap.size + 1, 53, qC (tenL (partT g (sndT b f g) 2))), (w.heap.size + 1 + 1, 53, #[.int .u64 0, .int .u64 0, .int .u64 0, .int .u64 0, .int .u64 0, .int .u64 0, .int .u64 0, .int .u64 0, .int .u64 0, .int .u64 0]), (w.heap.size + 1 + 1 + 1, 53, #[.int .u64 0, .int .u64 0, .int .u64 0, .int .u64 0, .int .u64 0, .int .u64 0, .int .u64 0, .int .u64 0, .int .u64 0, .int .u64 0])] := hM4
   have Hnew := Lib.hid hnew.drew
   clear hM1 hM2 hM3 hM4 hnew hbits hbits2 hval hMd
   generalize swapV b (f 1) (g 1) = s0 at *
   generalize swapV b (f 6) (g 6) = s1 at *
   generalize ((if b then g 1 else f 1 : Nat) : Int) = y0 at *
   generalize ((if b then f 1 else g 1 : Nat) : Int) = y1 at *
   generalize ((if b then g 6 else f 6 : Nat) : Int) = y2 at *
   generalize ((if b then f 6 else g 6 : Nat) : Int) = y3 at *
   generalize ((f 1 : Nat) : Int) = p0 at *
   generalize ((g 1 : Nat) : Int) = p1 at *
   generalize ((f 6 : Nat) : Int) = p2 at *
   generalize ((g 6 : Nat) : Int) = p3 at *
   go_wp2_with fail
   go_region_held3 (fun wx : World => wx.cell? ⟨w.heap.size, 1, none⟩ = some (.int .u64 p0) ∧ wx.cell? ⟨w.heap.size, 6, none⟩ = some (.int .u64 p2) ∧ wx.cell? ⟨w.heap.size + 1, 1, none⟩ = some (.int .u64 p1) ∧ wx.cell? ⟨w.heap.size + 1, 6, none⟩ = some (.int .u64 p3))
    (refine ⟨hcx _ ?_, hcz _ ?_, hdx _ ?_, hdz _ ?_⟩ <;> ((repeat (first | exact c_refl _ | refine c_drew ?_ | refine c_alloc ?_ _ | refine c_call ?_ (by assumption))); done))
    (fail)
   go_wp2_with fail
   exact ⟨⟨2, by omega, rfl, Hnew.out⟩, by simp [intOf]⟩
  ·
   have hcx := fun wx (hb : Below wr.heap.size wr wx) => ((hM.get 0 rfl).call hb).cell (qC_at (l := tenL (partT f (fstT b f g) 2)) (i := 2) (x := f 2) rfl)
   have hcz := fun wx (hb : Below wr.heap.size wr wx) => ((hM.get 0 rfl).call hb).cell (qC_at (l := tenL (partT f (fstT b f g) 2)) (i := 7) (x := f 7) rfl)
   have hdx := fun wx (hb : Below wr.heap.size wr wx) => ((hM.get 1 rfl).call hb).cell (qC_at (l := tenL (partT g (sndT b f g) 2)) (i := 2) (x := g 2) rfl)
   have hdz := fun wx (hb : Below wr.heap.size wr wx) => ((hM.get 1 rfl).call hb).cell (qC_at (l := tenL (partT g (sndT b f g) 2)) (i := 7) (x := g 7) rfl)
   have v0 := (hval 2).out
   have v1 := (hval 7).out
   have a0 := (hbits 2 (by omega)).out
   have a1 := (hbits 7 (by omega)).out
   have b0 := (hbits2 2 (by omega)).out
   have b1 := (hbits2 7 (by omega)).out
   have hMd := hM
   have x0 := (hMd.get 0 rfl).cell (qC_at (l := tenL (partT f (fstT b f g) 2)) (i := 2) (x := f 2) rfl)
   have f0 := (hMd.get 0 rfl).frozen 2
   have hM1 := (hMd.setCell (Nat.le_refl _) (by simp; try omega) 2 (.int .u64 ((if b then g 2 else f 2 : Nat) : Int))).swap
   have x1 := (hM1.get 0 rfl).cell (qC_at (l := tenL (partT g (sndT b f g) 2)) (i := 2) (x := g 2) rfl)
   have f1 := (hM1.get 0 rfl).frozen 2
   have hM2 := (hM1.setCell (by omega) (by simp; try omega) 2 (.int .u64 ((if b then f 2 else g 2 : Nat) : Int))).swap
   rw [qC_set, qC_set] at hM2
   rw [qC_set] at hM1
   have x2 := (hM2.get 0 rfl).cell (qC_at (l := (tenL (partT f (fstT b f g) 2)).set 2 (if b then g 2 else f 2)) (i := 7) (x := f 7) rfl)
   have f2 := (hM2.get 0 rfl).frozen 7
   have hM3 := (hM2.setCell (Nat.le_refl _) (by simp; try omega) 7 (.int .u64 ((if b then g 7 else f 7 : Nat) : Int))).swap
   rw [qC_set] at hM3
   have x3 := (hM3.get 0 rfl).cell (qC_at (l := (tenL (partT g (sndT b f g) 2)).set 2 (if b then f 2 else g 2)) (i := 7) (x := g 7) rfl)
   have f3 := (hM3.get 0 rfl).frozen 7
   have hM4 := (hM3.setCell (by omega) (by simp; try omega) 7 (.int .u64 ((if b then f 7 else g 7 : Nat) : Int))).swap
   rw [qC_set] at hM4
   have hnew : Ms w _ [(w.heap.size, 53, qC (tenL (partT f (fstT b f g) 3))), (w.heap.size + 1, 53, qC (tenL (partT g (sndT b f g) 3))), (w.heap.size + 1 + 1, 53, #[.int .u64 0, .int .u64 0, .int .u64 0, .int .u64 0, .int .u64 0, .int .u64 0, .int .u64 0, .int .u64 0, .int .u64 0, .int .u64 0]), (w.heap.size + 1 + 1 + 1, 53, #[.int .u64 0, .int .u64 0, .int .u64 0, .int .u64 0, .int .u64 0, .int .u64 0, .int .u64 0, .int .u64 0, .int .u64 0, .int .u64 0])] := hM4
   have Hnew := Lib.hid hnew.drew
   clear hM1 hM2 hM3 hM4 hnew hbits hbits2 hval hMd
   generalize swapV b (f 2) (g 2) = s0 at *
   generalize swapV b (f 7) (g 7) = s1 at *
   generalize ((if b then g 2 else f 2 : Nat) : Int) = y0 at *
   generalize ((if b then f 2 else g 2 : Nat) : Int) = y1 at *
   generalize ((if b then g 7 else f 7 : Nat) : Int) = y2 at *
   generalize ((if b then f 7 else g 7 : Nat) : Int) = y3 at *
   generalize ((f 2 : Nat) : Int) = p0 at *
   generalize ((g 2 : Nat) : Int) = p1 at *
   generalize ((f 7 : Nat) : Int) = p2 at *
   generalize ((g 7 : Nat) : Int) = p3 at *
   go_wp2_with fail
   go_region_held3 (fun wx : World => wx.cell? ⟨w.heap.size, 2, none⟩ = some (.int .u64 p0) ∧ wx.cell? ⟨w.heap.size, 7, none⟩ = some (.int .u64 p2) ∧ wx.cell? ⟨w.heap.size + 1, 2, none⟩ = some (.int .u64 p1) ∧ wx.cell? ⟨w.heap.size + 1, 7, none⟩ = some (.int .u64 p3))
    (refine ⟨hcx _ ?_, hcz _ ?_, hdx _ ?_, hdz _ ?_⟩ <;> ((repeat (first | exact c_refl _ | refine c_drew ?_ | refine c_alloc ?_ _ | refine c_call ?_ (by assumption))); done))
    (fail)
   go_wp2_with fail
   exact ⟨⟨3, by omega, rfl, Hnew.out⟩, by simp [intOf]⟩
  ·
   have hcx := fun wx (hb : Below wr.heap.size wr wx) => ((hM.get 0 rfl).call hb).cell (qC_at (l := tenL (partT f (fstT b f g) 3)) (i := 3) (x := f 3) rfl)
   have hcz := fun wx (hb : Below wr.heap.size wr wx) => ((hM.get 0 rfl).call hb).cell (qC_at (l := tenL (partT f (fstT b f g) 3)) (i := 8) (x := f 8) rfl)
   have hdx := fun wx (hb : Below wr.heap.size wr wx) => ((hM.get 1 rfl).call hb).cell (qC_at (l := tenL (partT g (sndT b f g) 3)) (i := 3) (x := g 3) rfl)
   have hdz := fun wx (hb : Below wr.heap.size wr wx) => ((hM.get 1 rfl).call hb).cell (qC_at (l := tenL (partT g (sndT b f g) 3)) (i := 8) (x := g 8) rfl)
   have v0 := (hval 3).out
   have v1 := (hval 8).out
   have a0 := (hbits 3 (by omega)).out
   have a1 := (hbits 8 (by omega)).out
   have b0 := (hbits2 3 (by omega)).out
   have b1 := (hbits2 8 (by omega)).out
   have hMd := hM
   have x0 := (hMd.get 0 rfl).cell (qC_at (l := tenL (partT f (fstT b f g) 3)) (i := 3) (x := f 3) rfl)
   have f0 := (hMd.get 0 rfl).frozen 3
   have hM1 := (hMd.setCell (Nat.le_refl _) (by simp; try omega) 3 (.int .u64 ((if b then g 3 else f 3 : Nat) : Int))).swap
   have x1 := (hM1.get 0 rfl).cell (qC_at (l := tenL (partT g (sndT b f g) 3)) (i := 3) (x := g 3) rfl)
   have f1 := (hM1.get 0 rfl).frozen 3
   have hM2 := (hM1.setCell (by omega) (by simp; try omega) 3 (.int .u64 ((if b then f 3 else g 3 : Nat) : Int))).swap
   rw [qC_set, qC_set] at hM2
   rw [qC_set] at hM1
   have x2 := (hM2.get 0 rfl).cell (qC_at (l := (tenL (partT f (fstT b f g) 3)).set 3 (if b then g 3 else f 3)) (i := 8) (x := f 8) rfl)
   have f2 := (hM2.get 0 rfl).frozen 8
   have hM3 := (hM2.setCell (Nat.le_refl _) (by simp; try omega) 8 (.int .u64 ((if b then g 8 else f 8 : Nat) : Int))).swap
   rw [qC_set] at hM3
   have x3 := (hM3.get 0 rfl).cell (qC_at (l := (tenL (partT g (sndT b f g) 3)).set 3 (if b then f 3 else g 3)) (i := 8) (x := g 8) rfl)
   have f3 := (hM3.get 0 rfl).frozen 8
   have hM4 := (hM3.setCell (by omega) (by simp; try omega) 8 (.int .u64 ((if b then f 8 else g 8 : Nat) : Int))).swap
   rw [qC_set] at hM4
   have hnew : Ms w _ [(w.heap.size, 53, qC (tenL (partT f (fstT b f g) 4))), (w.heap.size + 1, 53, qC (tenL (partT g (sndT b f g) 4))), (w.heap.size + 1 + 1, 53, #[.int .u64 0, .int .u64 0, .int .u64 0, .int .u64 0, .int .u64 0, .int .u64 0, .int .u64 0, .int .u64 0, .int .u64 0, .int .u64 0]), (w.heap.size + 1 + 1 + 1, 53, #[.int .u64 0, .int .u64 0, .int .u64 0, .int .u64 0, .int .u64 0, .int .u64 0, .int .u64 0, .int .u64 0, .int .u64 0, .int .u64 0])] := hM4
   have Hnew := Lib.hid hnew.drew
   clear hM1 hM2 hM3 hM4 hnew hbits hbits2 hval hMd
   generalize swapV b (f 3) (g 3) = s0 at *
   generalize swapV b (f 8) (g 8) = s1 at *
   generalize ((if b then g 3 else f 3 : Nat) : Int) = y0 at *
   generalize ((if b then f 3 else g 3 : Nat) : Int) = y1 at *
   generalize ((if b then g 8 else f 8 : Nat) : Int) = y2 at *
   generalize ((if b then f 8 else g 8 : Nat) : Int) = y3 at *
   generalize ((f 3 : Nat) : Int) = p0 at *
   generalize ((g 3 : Nat) : Int) = p1 at *
   generalize ((f 8 : Nat) : Int) = p2 at *
   generalize ((g 8 : Nat) : Int) = p3 at *
   go_wp2_with fail
   go_region_held3 (fun wx : World => wx.cell? ⟨w.heap.size, 3, none⟩ = some (.int .u64 p0) ∧ wx.cell? ⟨w.heap.size, 8, none⟩ = some (.int .u64 p2) ∧ wx.cell? ⟨w.heap.size + 1, 3, none⟩ = some (.int .u64 p1) ∧ wx.cell? ⟨w.heap.size + 1, 8, none⟩ = some (.int .u64 p3))
    (refine ⟨hcx _ ?_, hcz _ ?_, hdx _ ?_, hdz _ ?_⟩ <;> ((repeat (first | exact c_refl _ | refine c_drew ?_ | refine c_alloc ?_ _ | refine c_call ?_ (by assumption))); done))
    (fail)
   go_wp2_with fail
   exact ⟨⟨4, by omega, rfl, Hnew.out⟩, by simp [intOf]⟩
  ·
   have hcx := fun wx (hb : Below wr.heap.size wr wx) => ((hM.get 0 rfl).call hb).cell (qC_at (l := tenL (partT f (fstT b f g) 4)) (i := 4) (x := f 4) rfl)
   have hcz := fun wx (hb : Below wr.heap.size wr wx) => ((hM.get 0 rfl).call hb).cell (qC_at (l := tenL (partT f (fstT b f g) 4)) (i := 9) (x := f 9) rfl)
   have hdx := fun wx (hb : Below wr.heap.size wr wx) => ((hM.get 1 rfl).call hb).cell (qC_at (l := tenL (partT g (sndT b f g) 4)) (i := 4) (x := g 4) rfl)
   have hdz := fun wx (hb : Below wr.heap.size wr wx) => ((hM.get 1 rfl).call hb).cell (qC_at (l := tenL (partT g (sndT b f g) 4)) (i := 9) (x := g 9) rfl)
   have v0 := (hval 4).out
   have v1 := (hval 9).out
   have a0 := (hbits 4 (by omega)).out
   have a1 := (hbits 9 (by omega)).out
   have b0 := (hbits2 4 (by omega)).out
   have b1 := (hbits2 9 (by omega)).out
   have hMd := hM
   have x0 := (hMd.get 0 rfl).cell (qC_at (l := tenL (partT f (fstT b f g) 4)) (i := 4) (x := f 4) rfl)
   have f0 := (hMd.get 0 rfl).frozen 4
   have hM1 := (hMd.setCell (Nat.le_refl _) (by simp; try omega) 4 (.int .u64 ((if b then g 4 else f 4 : Nat) : Int))).swap
   have x1 := (hM1.get 0 rfl).cell (qC_at (l := tenL (partT g (sndT b f g) 4)) (i := 4) (x := g 4) rfl)
   have f1 := (hM1.get 0 rfl).frozen 4
   have hM2 := (hM1.setCell (by omega) (by simp; try omega) 4 (.int .u64 ((if b then f 4 else g 4 : Nat) : Int))).swap
   rw [qC_set, qC_set] at hM2
   rw [qC_set] at hM1
   have x2 := (hM2.get 0 rfl).cell (qC_at (l := (tenL (partT f (fstT b f g) 4)).set 4 (if b then g 4 else f 4)) (i := 9) (x := f 9) rfl)
   have f2 := (hM2.get 0 rfl).frozen 9
   have hM3 := (hM2.setCell (Nat.le_refl _) (by simp; try omega) 9 (.int .u64 ((if b then g 9 else f 9 : Nat) : Int))).swap
   rw [qC_set] at hM3
   have x3 := (hM3.get 0 rfl).cell (qC_at (l := (tenL (partT g (sndT b f g) 4)).set 4 (if b then f 4 else g 4)) (i := 9) (x := g 9) rfl)
   have f3 := (hM3.get 0 rfl).frozen 9
   have hM4 := (hM3.setCell (by omega) (by simp; try omega) 9 (.int .u64 ((if b then f 9 else g 9 : Nat) : Int))).swap
   rw [qC_set] at hM4
   have hnew : Ms w _ [(w.heap.size, 53, qC (tenL (partT f (fstT b f g) 5))), (w.heap.size + 1, 53, qC (tenL (partT g (sndT b f g) 5))), (w.heap.size + 1 + 1, 53, #[.int .u64 0, .int .u64 0, .int .u64 0, .int .u64 0, .int .u64 0, .int .u64 0, .int .u64 0, .int .u64 0, .int .u64 0, .int .u64 0]), (w.heap.size + 1 + 1 + 1, 53, #[.int .u64 0, .int .u64 0, .int .u64 0, .int .u64 0, .int .u64 0, .int .u64 0, .int .u64 0, .int .u64 0, .int .u64 0, .int .u64 0])] := hM4
   have Hnew := Lib.hid hnew.drew
   clear hM1 hM2 hM3 hM4 hnew hbits hbits2 hval hMd
   generalize swapV b (f 4) (g 4) = s0 at *
   generalize swapV b (f 9) (g 9) = s1 at *
   generalize ((if b then g 4 else f 4 : Nat) : Int) = y0 at *
   generalize ((if b then f 4 else g 4 : Nat) : Int) = y1 at *
   generalize ((if b then g 9 else f 9 : Nat) : Int) = y2 at *
   generalize ((if b then f 9 else g 9 : Nat) : Int) = y3 at *
   generalize ((f 4 : Nat) : Int) = p0 at *
   generalize ((g 4 : Nat) : Int) = p1 at *
   generalize ((f 9 : Nat) : Int) = p2 at *
   generalize ((g 9 : Nat) : Int) = p3 at *
   go_wp2_with fail
   go_region_held3 (fun wx : World => wx.cell? ⟨w.heap.size, 4, none⟩ = some (.int .u64 p0) ∧ wx.cell? ⟨w.heap.size, 9, none⟩ = some (.int .u64 p2) ∧ wx.cell? ⟨w.heap.size + 1, 4, none⟩ = some (.int .u64 p1) ∧ wx.cell? ⟨w.heap.size + 1, 9, none⟩ = some (.int .u64 p3))
    (refine ⟨hcx _ ?_, hcz _ ?_, hdx _ ?_, hdz _ ?_⟩ <;> ((repeat (first | exact c_refl _ | refine c_drew ?_ | refine c_alloc ?_ _ | refine c_call ?_ (by assumption))); done))
    (fail)
   go_wp2_with fail
   exact ⟨⟨5, by omega, rfl, Hnew.out⟩, by simp [intOf]⟩
  ·
   rw [partT_all, partT_all] at hM
   rw [show ((5 : Nat) : Int) = 5 from rfl]
   have hs := tenSize (fstT b f g)
   have hs' := tenSize (sndT b f g)
   have hz := tenZero (fstT b f g)
   have hz' := tenZero (sndT b f g)
   have ho := qC_one (tenL (fstT b f g))
   have ho' := qC_one (tenL (sndT b f g))
   clear hbits hbits2 hval
   generalize hca : qC (tenL (fstT b f g)) = ca at *
   generalize hcb : qC (tenL (sndT b f g)) = cb at *
   have Hca := Lib.hid hca
   have Hcb := Lib.hid hcb
   clear hca hcb
   have hun := Tryd.underlying53
   have hsl : (Tryd.prog.info? 53).map (·.size) = some ca.toList.length := by simpa using hs
   have hsl' : (Tryd.prog.info? 53).map (·.size) = some cb.toList.length := by simpa using hs'
   have hkeep : ∀ wx : World, Below wr.heap.size wr wx → wx.rangeAt w.heap.size 0 ca.toList ∧ wx.rangeAt (w.heap.size + 1) 0 cb.toList := fun wx hb => ⟨((hM.get 0 rfl).call hb).range, ((hM.get 1 rfl).call hb).range⟩
   have hMd := hM.drew
   go_wp2_with fail
   refine beginT (fun wx => wx.rangeAt w.heap.size 0 ca.toList ∧ wx.rangeAt (w.heap.size + 1) 0 cb.toList) 3 (by kernel_rfl) ?_
   have hS := hkeep _ (c_drew (c_refl _))
   refine ldQ 0 (some 72) 53 (.tmp 3) w.heap.size 0 ca.toList (fun wx hSw => hSw.1) hun hsl (fun _ _ _ h => h) hS ?_
   simp only [Act.put, sA, sZ, sS, Array.toArray_toList]
   refine ldQ 1 (some 73) 53 (.tmp 4) (w.heap.size + 1) 0 cb.toList (fun wx hSw => hSw.2) hun hsl' (fun _ _ _ h => h) hS ?_
   simp only [Act.put, sA, sZ, sS, Array.toArray_toList]
   have hsz := hMd.old.size
   refine on1 2 fun K hK => ?_
   refine step_store_row rfl 53 (.tmp 6) (.tmp 72) rfl (w.heap.size + 1 + 1) ca rfl rfl 53 _ (hMd.get 2 rfl) hs hz ho ?_
   have hc2 : (wr.drew.setRow (w.heap.size + 1 + 1) ca).rangeAt w.heap.size 0 ca.toList ∧ (wr.drew.setRow (w.heap.size + 1 + 1) ca).rangeAt (w.heap.size + 1) 0 cb.toList := ⟨((hMd.get 0 rfl).rowFar (by omega) _).range, ((hMd.get 1 rfl).rowFar (by omega) _).range⟩
   refine hK.out _ _ (fun _ => hc2) ?_
   clear hK K
   refine on1 3 fun K hK => ?_
   refine step_store_row rfl 53 (.tmp 7) (.tmp 73) rfl (w.heap.size + 1 + 1 + 1) cb rfl rfl 53 _ ((hMd.get 3 rfl).rowFar (by omega) _) hs' hz' ho' ?_
   refine hK.out _ _ (fun h => absurd rfl h) ?_
   clear hK K
   refine doneT (by kernel_rfl) ?_ _
   go_wp2_with fail
   exact bodyPost_ret (results_cells2 rfl _ _ (w.heap.size + 1 + 1) (w.heap.size + 1 + 1 + 1) 53 ca cb _ rfl (((hMd.get 2 rfl).row _).rowFar (by omega) _) rfl (((hMd.get 3 rfl).rowFar (by omega) _).row _) Tryd.underlying53 rfl hs hs') rfl ⟨by rw [Hca.out, Hcb.out], below_setRow (below_setRow hMd.old (by omega) _) (by omega) _⟩
theorem exchanged_any (b : Bool) (x z y t : Fe5) (w : World) (hx : MayF x) (hz : MayF z) (hy : MayF y) (ht : MayF t) :
  Calls Tryd.prog 27 #[.agg (rtC x z), .agg (rtC y t), .int .u64 (bitI b)] w fun e w' => e = .returned (.tuple #[.agg (if b then rtC y t else rtC x z), .agg (if b then rtC x z else rtC y t)]) ∧ Below w.heap.size w w' := by
 have low : ∀ {x z : Fe5}, MayF x → MayF z → ∀ k, k < 10 → (rtL x z).getD k 0 < 18446744073709551616 := by
  intro x z hx hz k hk
  obtain ⟨h0, h1, h2, h3, h4⟩ := hx
  obtain ⟨g0, g1, g2, g3, g4⟩ := hz
  have h : k = 0 ∨ k = 1 ∨ k = 2 ∨ k = 3 ∨ k = 4 ∨ k = 5 ∨ k = 6 ∨ k = 7 ∨ k = 8 ∨ k = 9 := by omega
  rcases h with rfl | rfl | rfl | rfl | rfl | rfl | rfl | rfl | rfl | rfl <;> simp only [rtL, List.getD_cons_zero, List.getD_cons_succ] <;> omega
 have h := exchanged_ten b (fun k => (rtL x z).getD k 0) (fun k => (rtL y t).getD k 0) w (low hx hz) (low hy ht)
 have e0 : ∀ x z : Fe5, qC (tenL (fun k => (rtL x z).getD k 0)) = rtC x z := fun _ _ => rfl
 rw [e0, e0] at h
 have e1 : qC (tenL (fstT b (fun k => (rtL x z).getD k 0) (fun k => (rtL y t).getD k 0))) = if b then rtC y t else rtC x z := by cases b <;> rfl
 have e2 : qC (tenL (sndT b (fun k => (rtL x z).getD k 0) (fun k => (rtL y t).getD k 0))) = if b then rtC x z else rtC y t := by cases b <;> rfl
 rw [e1, e2] at h
 exact h
def vq (a : Fe5) : Nat := valF a % P25
theorem vq_add (a b : Fe5) : vq (addQ a b) = adN (vq a) (vq b) := by
 unfold vq adN
 rw [addQ_val, Nat.add_mod]
theorem vq_sub (a : Fe5) {b : Fe5} (hb : MayF b) : vq (subQ a b) = sbN (vq a) (vq b) := by
 unfold vq sbN
 have h := subQ_val (a := a) hb
 have hl := P25_lt (valF b)
 rw [Nat.add_mod] at h
 have h2 := P25_lt (valF (subQ a b))
 have h3 := P25_lt (valF a)
 generalize valF (subQ a b) % P25 = x at *
 generalize valF a % P25 = y at *
 generalize valF b % P25 = z at *
 unfold P25 at *
 omega
theorem vq_mul (a b : Fe5) : vq (mulQ a b) = mlN (vq a) (vq b) := by
 unfold vq mlN
 rw [mulQ_val, Nat.mul_mod]
theorem vq_sq (a : Fe5) : vq (sqU a 1) = mlN (vq a) (vq a) := by
 unfold vq mlN
 rw [sqU_val, show valF a ^ 2 ^ 1 = valF a * valF a from Nat.pow_two _, Nat.mul_mod]
theorem vq_term : vq termF = 121665 := by decide +kernel
theorem vq_one : vq oneF = 1 := by decide +kernel
theorem vq_zero : vq zeroF = 0 := by decide +kernel
theorem vq_inv (a : Fe5) : vq (invU a) = invN (vq a) 255 := by
 unfold vq
 rw [invU_val, invN_val, expN_all, ← Nat.pow_mod]
theorem termF_may : MayF termF := by decide
def dblQ (p : Fe5 × Fe5) : Fe5 × Fe5 :=
 (mulQ (sqU (addQ p.1 p.2) 1) (sqU (subQ p.1 p.2) 1),
  mulQ (subQ (sqU (addQ p.1 p.2) 1) (sqU (subQ p.1 p.2) 1)) (addQ (sqU (addQ p.1 p.2) 1) (mulQ termF (subQ (sqU (addQ p.1 p.2) 1) (sqU (subQ p.1 p.2) 1)))))
def difQ (u : Fe5) (p q : Fe5 × Fe5) : Fe5 × Fe5 :=
 (sqU (addQ (mulQ (subQ q.1 q.2) (addQ p.1 p.2)) (mulQ (addQ q.1 q.2) (subQ p.1 p.2))) 1,
  mulQ u (sqU (subQ (mulQ (subQ q.1 q.2) (addQ p.1 p.2)) (mulQ (addQ q.1 q.2) (subQ p.1 p.2))) 1))
def May2 (p : Fe5 × Fe5) : Prop := MayF p.1 ∧ MayF p.2
def vq2 (p : Fe5 × Fe5) : Nat × Nat := (vq p.1, vq p.2)
theorem dblQ_may {p : Fe5 × Fe5} (h : May2 p) : May2 (dblQ p) := by
 have ha := addQ_may h.1 h.2
 have hb := subQ_may h.1 h.2
 have haa := sqU_may ha 1
 have hbb := sqU_may hb 1
 have he := subQ_may haa hbb
 exact ⟨mulQ_may haa hbb, mulQ_may he (addQ_may haa (mulQ_may termF_may he))⟩
theorem difQ_may {u : Fe5} {p q : Fe5 × Fe5} (hu : MayF u) (hp : May2 p) (hq : May2 q) : May2 (difQ u p q) := by
 have hda := mulQ_may (subQ_may hq.1 hq.2) (addQ_may hp.1 hp.2)
 have hcb := mulQ_may (addQ_may hq.1 hq.2) (subQ_may hp.1 hp.2)
 exact ⟨sqU_may (addQ_may hda hcb) 1, mulQ_may hu (sqU_may (subQ_may hda hcb) 1)⟩
theorem dblQ_vq {p : Fe5 × Fe5} (h : May2 p) : vq2 (dblQ p) = dblN (vq p.1) (vq p.2) := by
 have ha := addQ_may h.1 h.2
 have hb := subQ_may h.1 h.2
 have haa := sqU_may ha 1
 have hbb := sqU_may hb 1
 unfold vq2 dblQ dblN
 simp only [vq_mul, vq_sq, vq_add, vq_sub _ h.2, vq_sub _ hbb, vq_term]
theorem difQ_vq {u : Fe5} {p q : Fe5 × Fe5} (hu : MayF u) (hp : May2 p) (hq : May2 q) : vq2 (difQ u p q) = difN (vq u) (vq p.1) (vq p.2) (vq q.1) (vq q.2) := by
 have hcb := mulQ_may (addQ_may hq.1 hq.2) (subQ_may hp.1 hp.2)
 unfold vq2 difQ difN
 simp only [vq_mul, vq_sq, vq_add, vq_sub _ hp.2, vq_sub _ hq.2, vq_sub _ hcb]
def stepQ (u : Fe5) (st : (Fe5 × Fe5) × (Fe5 × Fe5)) (b : Bool) : (Fe5 × Fe5) × (Fe5 × Fe5) :=
 if b then (difQ u st.2 st.1, dblQ st.2) else (dblQ st.1, difQ u st.1 st.2)
def ladQ (u : Fe5) (l : List UInt8) : Nat → (Fe5 × Fe5) × (Fe5 × Fe5)
 | 0 => ((oneF, zeroF), (u, oneF))
 | j + 1 => stepQ u (ladQ u l j) (bitK l (254 - j))
def May4 (st : (Fe5 × Fe5) × (Fe5 × Fe5)) : Prop := May2 st.1 ∧ May2 st.2
theorem stepQ_may {u : Fe5} (hu : MayF u) {st : (Fe5 × Fe5) × (Fe5 × Fe5)} (h : May4 st) (b : Bool) : May4 (stepQ u st b) := by
 cases b
 ·
  exact ⟨dblQ_may h.1, difQ_may hu h.1 h.2⟩
 ·
  exact ⟨difQ_may hu h.2 h.1, dblQ_may h.2⟩
theorem ladQ_may {u : Fe5} (hu : MayF u) (l : List UInt8) : ∀ j, May4 (ladQ u l j)
 | 0 => ⟨⟨oneF_may, zeroF_may⟩, ⟨hu, oneF_may⟩⟩
 | j + 1 => stepQ_may hu (ladQ_may hu l j) _
theorem stepQ_vq {u : Fe5} (hu : MayF u) {st : (Fe5 × Fe5) × (Fe5 × Fe5)} (h : May4 st) (b : Bool) :
  (vq2 (stepQ u st b).1, vq2 (stepQ u st b).2) = ladNS (vq u) (vq2 st.1, vq2 st.2) b := by
 cases b
 ·
  show (vq2 (dblQ st.1), vq2 (difQ u st.1 st.2)) = _
  rw [dblQ_vq h.1, difQ_vq hu h.1 h.2]
  rfl
 ·
  show (vq2 (difQ u st.2 st.1), vq2 (dblQ st.2)) = _
  rw [dblQ_vq h.2, difQ_vq hu h.2 h.1]
  rfl
theorem ladQ_vq {u : Fe5} (hu : MayF u) (l : List UInt8) : ∀ j, (vq2 (ladQ u l j).1, vq2 (ladQ u l j).2) = ladN (vq u) l j
 | 0 => by
  show ((vq oneF, vq zeroF), (vq u, vq oneF)) = _
  rw [vq_one, vq_zero]
  rfl
 | j + 1 => by
  rw [ladQ, stepQ_vq hu (ladQ_may hu l j), ladQ_vq hu l j]
  rfl
theorem ladQ_end {u : Fe5} (hu : MayF u) (l : List UInt8) : valF (mulQ (ladQ u l 255).1.1 (invU (ladQ u l 255).1.2)) % P25 = mltN l (vq u) := by
 have h := ladQ_vq hu l 255
 have h1 : vq (ladQ u l 255).1.1 = (ladN (vq u) l 255).1.1 := by rw [← h]; rfl
 have h2 : vq (ladQ u l 255).1.2 = (ladN (vq u) l 255).1.2 := by rw [← h]; rfl
 show vq _ = _
 rw [vq_mul, vq_inv, h1, h2, mltN]
set_option maxHeartbeats 2000000 in
theorem step_any (b : Bool) (u : Fe5) (st : (Fe5 × Fe5) × (Fe5 × Fe5)) (w0 w : World) (L : List (Nat × TypeId × Array Value)) (gN gX gP : Nat) (hu : MayF u) (hst : May4 st)
  (hNX : gN ≠ gX) (hNP : gN ≠ gP) (hXP : gX ≠ gP) (h0N : w0.heap.size ≤ gN) (h0X : w0.heap.size ≤ gX) (hL : ∀ p ∈ L, p.1 ≠ gN ∧ p.1 ≠ gX)
  (hM0 : Ms w0 w ((gN, 53, rtC st.1.1 st.1.2) :: (gX, 53, rtC st.2.1 st.2.2) :: (gP, 50, feC u) :: L)) :
  Calls Tryd.prog 26 #[.int .u64 (bitI b), .pointer (some ⟨gN, 0, none⟩), .pointer (some ⟨gX, 0, none⟩), .pointer (some ⟨gP, 0, none⟩)] w fun e w' => e = .returned (.tuple #[]) ∧ Ms w0 w' ((gN, 53, rtC (stepQ u st b).1.1 (stepQ u st b).1.2) :: (gX, 53, rtC (stepQ u st b).2.1 (stepQ u st b).2.2) :: (gP, 50, feC u) :: L) ∧ w.heap.size ≤ w'.heap.size := by
 obtain ⟨⟨x, z⟩, ⟨y, t⟩⟩ := st
 obtain ⟨⟨hx, hz⟩, ⟨hy, ht⟩⟩ := hst
 cases b
 ·
  have hA := addQ_may hx hz
  have hB := subQ_may hx hz
  have hC := addQ_may hy ht
  have hD := subQ_may hy ht
  have hDA := mulQ_may hD hA
  have hCB := mulQ_may hC hB
  have hAA := sqU_may hA 1
  have hBB := sqU_may hB 1
  have hE := subQ_may hAA hBB
  have hS := addQ_may hDA hCB
  have hDf := subQ_may hDA hCB
  have hQ := sqU_may hDf 1
  have hM1 := mulQ_may termF_may hE
  have hM2 := addQ_may hAA hM1
  have hX2 := mulQ_may hAA hBB
  have hZ2 := mulQ_may hE hM2
  have hX3 := sqU_may hS 1
  have hZ3 := mulQ_may hu hQ
  have kX : AnsX (bitI false) x z y t x z y t := fun wx => exchanged_any false x z y t wx hx hz hy ht
  have kY : AnsX (bitI false) ((dblQ (x, z)).1) ((dblQ (x, z)).2) ((difQ u (x, z) (y, t)).1) ((difQ u (x, z) (y, t)).2) ((dblQ (x, z)).1) ((dblQ (x, z)).2) ((difQ u (x, z) (y, t)).1) ((difQ u (x, z) (y, t)).2) := fun wx => exchanged_any false _ _ _ _ wx hX2 hZ2 hX3 hZ3
  exact step_calls w0 w L gN gX gP (bitI false) x z y t ((dblQ (x, z)).1) ((dblQ (x, z)).2) ((difQ u (x, z) (y, t)).1) ((difQ u (x, z) (y, t)).2) x z y t u _ _ _ _ _ _ _ _ _ _ _ _ _ _ _ _ _ _ kX kY
   (fun wx => cvadded_any _ _ wx hx hz)
   (fun wx => cvless_any _ _ wx hx hz)
   (fun wx => cvadded_any _ _ wx hy ht)
   (fun wx => cvless_any _ _ wx hy ht)
   (fun wx => cvtimes_any _ _ wx hD hA)
   (fun wx => cvtimes_any _ _ wx hC hB)
   (fun wx => cvless_any _ _ wx hAA hBB)
   (fun wx => cvadded_any _ _ wx hDA hCB)
   (fun wx => cvless_any _ _ wx hDA hCB)
   (fun wx => cvtimes_any _ _ wx hu hQ)
   (fun wx => cvtimes_any _ _ wx hAA hBB)
   (fun wx => cvtimes_any _ _ wx termF_may hE)
   (fun wx => cvadded_any _ _ wx hAA hM1)
   (fun wx => cvtimes_any _ _ wx hE hM2)
   (fun wx => cvsquared_any _ wx hA)
   (fun wx => cvsquared_any _ wx hB)
   (fun wx => cvsquared_any _ wx hS)
   (fun wx => cvsquared_any _ wx hDf)
   hNX hNP hXP h0N h0X hL hM0
 ·
  have hA := addQ_may hy ht
  have hB := subQ_may hy ht
  have hC := addQ_may hx hz
  have hD := subQ_may hx hz
  have hDA := mulQ_may hD hA
  have hCB := mulQ_may hC hB
  have hAA := sqU_may hA 1
  have hBB := sqU_may hB 1
  have hE := subQ_may hAA hBB
  have hS := addQ_may hDA hCB
  have hDf := subQ_may hDA hCB
  have hQ := sqU_may hDf 1
  have hM1 := mulQ_may termF_may hE
  have hM2 := addQ_may hAA hM1
  have hX2 := mulQ_may hAA hBB
  have hZ2 := mulQ_may hE hM2
  have hX3 := sqU_may hS 1
  have hZ3 := mulQ_may hu hQ
  have kX : AnsX (bitI true) x z y t y t x z := fun wx => exchanged_any true x z y t wx hx hz hy ht
  have kY : AnsX (bitI true) ((dblQ (y, t)).1) ((dblQ (y, t)).2) ((difQ u (y, t) (x, z)).1) ((difQ u (y, t) (x, z)).2) ((difQ u (y, t) (x, z)).1) ((difQ u (y, t) (x, z)).2) ((dblQ (y, t)).1) ((dblQ (y, t)).2) := fun wx => exchanged_any true _ _ _ _ wx hX2 hZ2 hX3 hZ3
  exact step_calls w0 w L gN gX gP (bitI true) x z y t ((difQ u (y, t) (x, z)).1) ((difQ u (y, t) (x, z)).2) ((dblQ (y, t)).1) ((dblQ (y, t)).2) y t x z u _ _ _ _ _ _ _ _ _ _ _ _ _ _ _ _ _ _ kX kY
   (fun wx => cvadded_any _ _ wx hy ht)
   (fun wx => cvless_any _ _ wx hy ht)
   (fun wx => cvadded_any _ _ wx hx hz)
   (fun wx => cvless_any _ _ wx hx hz)
   (fun wx => cvtimes_any _ _ wx hD hA)
   (fun wx => cvtimes_any _ _ wx hC hB)
   (fun wx => cvless_any _ _ wx hAA hBB)
   (fun wx => cvadded_any _ _ wx hDA hCB)
   (fun wx => cvless_any _ _ wx hDA hCB)
   (fun wx => cvtimes_any _ _ wx hu hQ)
   (fun wx => cvtimes_any _ _ wx hAA hBB)
   (fun wx => cvtimes_any _ _ wx termF_may hE)
   (fun wx => cvadded_any _ _ wx hAA hM1)
   (fun wx => cvtimes_any _ _ wx hE hM2)
   (fun wx => cvsquared_any _ wx hA)
   (fun wx => cvsquared_any _ wx hB)
   (fun wx => cvsquared_any _ wx hS)
   (fun wx => cvsquared_any _ wx hDf)
   hNX hNP hXP h0N h0X hL hM0
theorem build_oneF (w : World) : (Instr.build 50 #[(0, .int .u64 1)]).run Tryd.prog w = .ok (.agg (feC oneF)) w := by kernel_rfl
set_option maxRecDepth 100000 in
theorem build_rt1 (x : Fe5) (w : World) : (Instr.build 53 #[(0, .agg (feC x))]).run Tryd.prog w = .ok (.agg (rtC x zeroF)) w := by kernel_rfl
set_option maxRecDepth 1000000 in
set_option maxHeartbeats 8000000 in
theorem PMult_any (k l : List UInt8) (w : World) (hk : k.length = 32) (hl : l.length = 32) :
  Calls Tryd.prog 17 #[.agg (keyC k), .agg (keyC l)] w fun e w' => e = .returned (.agg (keyC (mltK k l))) ∧ Below w.heap.size w w' := by
 have hM0 := (((((Ms.nil w).box 23 (keyC k)).box 23 (keyC l)).box 23 #[.int .u8 0, .int .u8 0, .int .u8 0, .int .u8 0, .int .u8 0, .int .u8 0, .int .u8 0, .int .u8 0, .int .u8 0, .int .u8 0, .int .u8 0, .int .u8 0, .int .u8 0, .int .u8 0, .int .u8 0, .int .u8 0, .int .u8 0, .int .u8 0, .int .u8 0, .int .u8 0, .int .u8 0, .int .u8 0, .int .u8 0, .int .u8 0, .int .u8 0, .int .u8 0, .int .u8 0, .int .u8 0, .int .u8 0, .int .u8 0, .int .u8 0, .int .u8 0])).sub (L' := [(w.heap.size, 23, keyC k), (w.heap.size + 1, 23, keyC l), (w.heap.size + 1 + 1, 23, #[.int .u8 0, .int .u8 0, .int .u8 0, .int .u8 0, .int .u8 0, .int .u8 0, .int .u8 0, .int .u8 0, .int .u8 0, .int .u8 0, .int .u8 0, .int .u8 0, .int .u8 0, .int .u8 0, .int .u8 0, .int .u8 0, .int .u8 0, .int .u8 0, .int .u8 0, .int .u8 0, .int .u8 0, .int .u8 0, .int .u8 0, .int .u8 0, .int .u8 0, .int .u8 0, .int .u8 0, .int .u8 0, .int .u8 0, .int .u8 0, .int .u8 0, .int .u8 0])]) (by simp only [World.size_alloc]; intro p hp; simp only [List.mem_cons, List.not_mem_nil, or_false] at hp ⊢; rcases hp with h | h | h <;> simp [h])
 have Hsk := Lib.hid (sizeKey hk)
 have Hsl := Lib.hid (sizeKey hl)
 have Hsc := Lib.hid (sizeKey (clampL_len hk))
 have Hoc := Lib.hid (one_keyF (clampL k))
 have Hcl := Lib.hid (clampL_len hk)
 have Hzc := Lib.hid (show (keyC k).size = (keyC (clampL k)).size by rw [keyC_size, keyC_size, hk, clampL_len hk])
 have hcl := fun wx => PClamp_any k wx hk
 have hof := fun wx => Of_any l wx hl
 have Hu := Lib.hid (ofU_may l)
 have Hans := Lib.hid (show keyB (mltN (clampL k) (vq (ofU l))) = mltK k l by unfold mltK pntN vq; rw [ofU_val])
 have Hsm := Lib.hid (sizeKey (mltK_len k l))
 have Hom := Lib.hid (one_keyF (mltK k l))
 have Hzm := Lib.hid (zkS (l := (mltK k l)) (by rw [mltK_len]))
 generalize mltK k l = ml at *
 generalize ofU l = u at *
 generalize clampL k = kc at *
 clear hk hl
 go_enter Tryd.func17, Tryd.ntmps17
 go_wp2_with ((with_reducible refine tdQ 10 ?_); refine lcQ 23 (.tmp 2) (w.heap.size) (keyC k) (hM0.get 0 rfl) Tryd.underlying23 Hsk.out ?_)
 refine (hcl _).mono ?_
 rintro e w1 ⟨rfl, hb1⟩
 have hM1 := hM0.call hb1
 have hM2 := Ms.set hM1 (Nat.le_refl _) (by simp only [List.mem_cons, List.not_mem_nil, or_false]; rintro p (rfl | rfl) <;> (show _ ≠ _; simp only [ne_eq]; omega)) (keyC kc)
 clear hM0 hb1 hcl
 have hrk := hM1.get 0 rfl
 clear hM1
 go_wp2_with (first
  | ((with_reducible refine tsQ 23 ?_); refine wpList_store_row rfl 23 (.tmp 2) (.tmp 11) rfl (w.heap.size) (keyC kc) rfl rfl 23 _ (hrk) Hsc.out Hzc.out Hoc.out ?_)
  | ((with_reducible refine tdQ 12 ?_); refine lcQ 23 (.tmp 3) (w.heap.size + 1) (keyC l) (hM2.get 1 rfl) Tryd.underlying23 Hsl.out ?_))
 refine (hof _).mono ?_
 rintro e w2 ⟨rfl, hb2⟩
 have hM3 := (hM2.call hb2).put 50 #[.int .u64 0, .int .u64 0, .int .u64 0, .int .u64 0, .int .u64 0] (feC u)
 have hgu := (hM2.call hb2).old.size
 have hlt2 := ((hM2.call hb2).get 2 rfl).lt
 clear hM2 hb2 hof hrk
 go_upto_region 3 with ((with_reducible refine tsQ 50 ?_); refine srQ 50 (.tmp 5) (.tmp 13) (w2.heap.size) (feC u) _ (RowC.new _ _ _) (sizeFe _) (fe_zero _) (one_fe _) ?_)
 refine wp_gen (fun wx => Ms w wx [(w2.heap.size, 50, feC u), (w.heap.size, 23, keyC kc), (w.heap.size + 1, 23, keyC l), (w.heap.size + 1 + 1, 23, #[.int .u8 0, .int .u8 0, .int .u8 0, .int .u8 0, .int .u8 0, .int .u8 0, .int .u8 0, .int .u8 0, .int .u8 0, .int .u8 0, .int .u8 0, .int .u8 0, .int .u8 0, .int .u8 0, .int .u8 0, .int .u8 0, .int .u8 0, .int .u8 0, .int .u8 0, .int .u8 0, .int .u8 0, .int .u8 0, .int .u8 0, .int .u8 0, .int .u8 0, .int .u8 0, .int .u8 0, .int .u8 0, .int .u8 0, .int .u8 0, .int .u8 0, .int .u8 0])]) hM3 ?_
 clear hM3
 rintro v3 hM3
 generalize w2.heap.size = gU at *
 try simp only [Act.put]
 go_cut [6, 7] (fun p q wx => ∃ g g' : Nat, p = .pointer (some ⟨g, 0, none⟩) ∧ q = .pointer (some ⟨g', 0, none⟩) ∧ gU < g ∧ gU < g' ∧ g ≠ g' ∧ Ms w wx [(g, 53, rtC oneF zeroF), (g', 53, rtC u oneF), (gU, 50, feC u), (w.heap.size, 23, keyC kc), (w.heap.size + 1, 23, keyC l), (w.heap.size + 1 + 1, 23, #[.int .u8 0, .int .u8 0, .int .u8 0, .int .u8 0, .int .u8 0, .int .u8 0, .int .u8 0, .int .u8 0, .int .u8 0, .int .u8 0, .int .u8 0, .int .u8 0, .int .u8 0, .int .u8 0, .int .u8 0, .int .u8 0, .int .u8 0, .int .u8 0, .int .u8 0, .int .u8 0, .int .u8 0, .int .u8 0, .int .u8 0, .int .u8 0, .int .u8 0, .int .u8 0, .int .u8 0, .int .u8 0, .int .u8 0, .int .u8 0, .int .u8 0, .int .u8 0])])
 case first =>
  have hun := Tryd.underlying50
  have hkeep : ∀ wx : World, Below v3.heap.size v3 wx → wx.rangeAt gU 0 (feC u).toList := fun wx hb => ((hM3.get 0 rfl).call hb).range
  have hltU := (hM3.get 0 rfl).lt
  refine beginT (fun wx => wx.rangeAt gU 0 (feC u).toList) 8 (by kernel_rfl) ?_
  have hS := hkeep _ (c_drew (c_refl _))
  refine takeD 0 (some 14) (.agg (feC oneF)) rfl rfl (by kernel_rfl) (by kernel_rfl) (by kernel_rfl) (by kernel_rfl) (fun _ _ _ h => h) (yields_build (by kernel_rfl) 50 _ rfl #[(0, .int .u64 1)] (by kernel_rfl) _ (build_oneF)) hS ?_
  simp only [Act.put, sA, sZ, sS]
  refine takeD 1 (some 15) (.agg (rtC oneF zeroF)) rfl rfl (by kernel_rfl) (by kernel_rfl) (by kernel_rfl) (by kernel_rfl) (fun _ _ _ h => h) (yields_build (by kernel_rfl) 53 _ rfl #[(0, .agg (feC oneF))] (by kernel_rfl) _ (build_rt1 _)) hS ?_
  simp only [Act.put, sA, sZ, sS]
  refine ldQ 2 (some 16) 50 (.tmp 5) gU 0 (feC u).toList (fun wx hSw => hSw) hun (sizeFeL _) (fun _ _ _ h => h) hS ?_
  simp only [Act.put, sA, sZ, sS, Array.toArray_toList]
  refine takeD 3 (some 17) (.agg (feC oneF)) rfl rfl (by kernel_rfl) (by kernel_rfl) (by kernel_rfl) (by kernel_rfl) (fun _ _ _ h => h) (yields_build (by kernel_rfl) 50 _ rfl #[(0, .int .u64 1)] (by kernel_rfl) _ (build_oneF)) hS ?_
  simp only [Act.put, sA, sZ, sS]
  refine takeD 4 (some 18) (.agg (rtC u oneF)) rfl rfl (by kernel_rfl) (by kernel_rfl) (by kernel_rfl) (by kernel_rfl) (fun _ _ _ h => h) (yields_build (by kernel_rfl) 53 _ rfl #[(0, .agg (feC u)), (1, .agg (feC oneF))] (by kernel_rfl) _ (build_rt _ _)) hS ?_
  simp only [Act.put, sA, sZ, sS]
  have hD := hM3.drew
  have hg1 := hD.old.size
  have hn1 := fun p hp => Nat.ne_of_lt ((hD.rows p hp).lt)
  have hN1 := hD.box 53 #[.int .u64 0, .int .u64 0, .int .u64 0, .int .u64 0, .int .u64 0, .int .u64 0, .int .u64 0, .int .u64 0, .int .u64 0, .int .u64 0]
  have hg2 := hN1.old.size
  have hn2 := fun p hp => Nat.ne_of_lt ((hN1.rows p hp).lt)
  have hN2 := hN1.box 53 #[.int .u64 0, .int .u64 0, .int .u64 0, .int .u64 0, .int .u64 0, .int .u64 0, .int .u64 0, .int .u64 0, .int .u64 0, .int .u64 0]
  simp only [World.size_alloc] at hN2 hn2 hg2
  have hs0 : v3.drew.heap.size = v3.heap.size := rfl
  have hne : v3.drew.heap.size ≠ v3.drew.heap.size + 1 := by omega
  refine rd2 5 6 (fun K hK => ?_) fun K hK => ?_
  ·
   go_simp
   refine kp hK hkeep ?_
   clear hK K
   refine on1 6 fun K hK => ?_
   go_simp
   refine kp hK hkeep ?_
   clear hK K
   have hset := Ms.set2 (ds := rtC oneF zeroF) (ds' := rtC u oneF) (hN2.swap) hg1 hg2 hne hn1 (fun p hp => hn2 p (List.mem_cons_of_mem _ hp))
   refine on1 7 fun K hK => ?_
   refine step_store_row rfl 53 (.tmp 6) (.tmp 15) rfl (v3.drew.heap.size) (rtC oneF zeroF) rfl rfl 53 _ (hN2.get 1 rfl) (sizeR _ _) (zeroR _ _) (oneR _ _) ?_
   refine kp hK hkeep ?_
   clear hK K
   refine on1 8 fun K hK => ?_
   refine step_store_row rfl 53 (.tmp 7) (.tmp 18) rfl (v3.drew.heap.size + 1) (rtC u oneF) rfl rfl 53 _ ((hN2.get 0 rfl).rowFar (Ne.symm hne) _) (sizeR _ _) (zeroR _ _) (oneR _ _) ?_
   refine hK.out _ _ (fun h => absurd rfl h) ?_
   clear hK K
   refine doneT (by kernel_rfl) ?_ _
   go_wp2_with fail
   go_meet
   exact ⟨_, _, rfl, rfl, by omega, by omega, hne, hset⟩
  ·
   go_simp
   refine kp hK hkeep ?_
   clear hK K
   refine on1 5 fun K hK => ?_
   go_simp
   refine kp hK hkeep ?_
   clear hK K
   have hset := Ms.set2 (ds := rtC oneF zeroF) (ds' := rtC u oneF) hN2 hg2 hg1 (Ne.symm hne) (fun p hp => hn2 p (List.mem_cons_of_mem _ hp)) hn1
   refine on1 7 fun K hK => ?_
   refine step_store_row rfl 53 (.tmp 6) (.tmp 15) rfl (v3.drew.heap.size + 1) (rtC oneF zeroF) rfl rfl 53 _ (hN2.get 0 rfl) (sizeR _ _) (zeroR _ _) (oneR _ _) ?_
   refine kp hK hkeep ?_
   clear hK K
   refine on1 8 fun K hK => ?_
   refine step_store_row rfl 53 (.tmp 7) (.tmp 18) rfl (v3.drew.heap.size) (rtC u oneF) rfl rfl 53 _ ((hN2.get 1 rfl).rowFar hne _) (sizeR _ _) (zeroR _ _) (oneR _ _) ?_
   refine hK.out _ _ (fun h => absurd rfl h) ?_
   clear hK K
   refine doneT (by kernel_rfl) ?_ _
   go_wp2_with fail
   go_meet
   exact ⟨_, _, rfl, rfl, by omega, by omega, Ne.symm hne, hset⟩
 case rest =>
  obtain ⟨gN, gX, rfl, rfl, hN, hX, hNX, hM4⟩ := hcut
  clear hM3
  have Hst := Lib.hid (ladQ_may Hu.out kc)
  have Hend := Lib.hid (ladQ_end Hu.out kc)
  have Hg := Lib.hid (And.intro hgu (And.intro hlt2 (And.intro hN (And.intro hX hNX))))
  clear hgu hlt2 hN hX hNX
  go_wp2_with fail
  go_loopw [20] (fun i wr => ∃ j : Nat, j ≤ 255 ∧ i = .int .i64 (j : Int) ∧ Ms w wr [(gN, 53, rtC (ladQ u kc j).1.1 (ladQ u kc j).1.2), (gX, 53, rtC (ladQ u kc j).2.1 (ladQ u kc j).2.2), (gU, 50, feC u), (w.heap.size, 23, keyC kc), (w.heap.size + 1, 23, keyC l), (w.heap.size + 1 + 1, 23, #[.int .u8 0, .int .u8 0, .int .u8 0, .int .u8 0, .int .u8 0, .int .u8 0, .int .u8 0, .int .u8 0, .int .u8 0, .int .u8 0, .int .u8 0, .int .u8 0, .int .u8 0, .int .u8 0, .int .u8 0, .int .u8 0, .int .u8 0, .int .u8 0, .int .u8 0, .int .u8 0, .int .u8 0, .int .u8 0, .int .u8 0, .int .u8 0, .int .u8 0, .int .u8 0, .int .u8 0, .int .u8 0, .int .u8 0, .int .u8 0, .int .u8 0, .int .u8 0])]) (fun i _ => (255 - intOf i).toNat)
  case atStart => exact ⟨0, by omega, rfl, hM4⟩
  case round =>
   clear hM4
   obtain ⟨j, hj, rfl, hM⟩ := hrel
   by_cases hlt : j < 255
   ·
    have hw : IntKind.i64.wrap (254 - (j : Int)) = ((254 - j : Nat) : Int) := by rw [IntKind.wrap_i64]; omega
    have Hj := Lib.hid hlt
    have hbo := fun wx => bitOf_any kc (254 - j) wx Hcl.out (by omega)
    have Hs1 := Lib.hid (show ladQ u kc (j + 1) = stepQ u (ladQ u kc j) (bitK kc (254 - j)) from rfl)
    have hm := Hst.out j
    generalize hst' : ladQ u kc (j + 1) = st' at *
    have Hst' := Lib.hid hst'
    clear hst'
    generalize ladQ u kc j = st at *
    have hst := fun wx hMx => step_any (bitK kc (254 - j)) u st w wx [(w.heap.size, 23, keyC kc), (w.heap.size + 1, 23, keyC l), (w.heap.size + 1 + 1, 23, #[.int .u8 0, .int .u8 0, .int .u8 0, .int .u8 0, .int .u8 0, .int .u8 0, .int .u8 0, .int .u8 0, .int .u8 0, .int .u8 0, .int .u8 0, .int .u8 0, .int .u8 0, .int .u8 0, .int .u8 0, .int .u8 0, .int .u8 0, .int .u8 0, .int .u8 0, .int .u8 0, .int .u8 0, .int .u8 0, .int .u8 0, .int .u8 0, .int .u8 0, .int .u8 0, .int .u8 0, .int .u8 0, .int .u8 0, .int .u8 0, .int .u8 0, .int .u8 0])] gN gX gU Hu.out hm (by have := Hg.out; omega) (by have := Hg.out; omega) (by have := Hg.out; omega) (by have := Hg.out; omega) (by have := Hg.out; omega) (by have := Hg.out; simp only [List.mem_cons, List.not_mem_nil, or_false]; rintro p (rfl | rfl | rfl) <;> (constructor <;> (show _ ≠ _; simp only [ne_eq]; omega))) hMx
    rw [← Hs1.out] at hst
    generalize ((254 - j : Nat) : Int) = jn at *
    generalize bitI (bitK kc (254 - j)) = β at *
    clear hm
    go_wp2_with ((with_reducible refine tdQ 24 ?_); refine lcQ 23 (.tmp 2) (w.heap.size) (keyC kc) (hM.get 3 rfl) Tryd.underlying23 Hsc.out ?_)
    refine (hbo _).mono ?_
    rintro e w5 ⟨rfl, hb5⟩
    have hM5 := hM.call hb5
    clear hb5
    go_wp2_with fail
    refine (hst _ hM5).mono ?_
    rintro e w6 ⟨rfl, hM6, hv6⟩
    clear hM5 hM hst
    go_wp2_with fail
    exact ⟨⟨j + 1, Hj.out, by go_num, by rw [Hst'.out]; exact hM6⟩, by have := Hj.out; simp [intOf]; omega⟩
   ·
    obtain rfl : j = 255 := by omega
    rw [show ((255 : Nat) : Int) = 255 from rfl]
    have hm := Hst.out 255
    have hdi := fun wx => divided_any (ladQ u kc 255).1.1 (ladQ u kc 255).1.2 wx hm.1.1 hm.1.2
    rw [Hend.out, Hans.out] at hdi
    clear hm
    generalize ladQ u kc 255 = st at *
    go_wp2_with ((with_reducible refine tdQ 30 ?_); refine lcQ 53 (.tmp 6) (gN) (rtC st.1.1 st.1.2) (hM.get 0 rfl) Tryd.underlying53 (sizeR _ _) ?_)
    refine (hdi _).mono ?_
    rintro e w7 ⟨rfl, hb7⟩
    have hM7 := hM.call hb7
    clear hM hb7
    go_wp2_with ((with_reducible refine tsQ 23 ?_); refine srQ 23 (.tmp 4) (.tmp 31) (w.heap.size + 1 + 1) (keyC ml) _ (hM7.get 5 rfl) Hsm.out Hzm.out Hom.out ?_)
    exact bodyPost_ret (results_cell_one rfl _ _ (w.heap.size + 1 + 1) 23 _ _ rfl ((hM7.get 5 rfl).row _) Tryd.underlying23 rfl Hsm.out) rfl ⟨rfl, below_setRow hM7.old (by omega) _⟩
theorem PBase_any (k : List UInt8) (w : World) (hk : k.length = 32) :
  Calls Tryd.prog 13 #[.agg (keyC k)] w fun e w' => e = .returned (.agg (keyC (mltK k nineL))) ∧ Below w.heap.size w w' := by
 have hM0 := ((Ms.nil w).box 23 (keyC k)).box 23 #[.int .u8 0, .int .u8 0, .int .u8 0, .int .u8 0, .int .u8 0, .int .u8 0, .int .u8 0, .int .u8 0, .int .u8 0, .int .u8 0, .int .u8 0, .int .u8 0, .int .u8 0, .int .u8 0, .int .u8 0, .int .u8 0, .int .u8 0, .int .u8 0, .int .u8 0, .int .u8 0, .int .u8 0, .int .u8 0, .int .u8 0, .int .u8 0, .int .u8 0, .int .u8 0, .int .u8 0, .int .u8 0, .int .u8 0, .int .u8 0, .int .u8 0, .int .u8 0]
 simp only [World.size_alloc] at hM0
 have hm := fun wx => PMult_any k nineL wx hk rfl
 have Hsk := Lib.hid (sizeKey hk)
 have Hsm := Lib.hid (sizeKey (mltK_len k nineL))
 have Hom := Lib.hid (one_keyF (mltK k nineL))
 have Hzm := Lib.hid (zkS (l := (mltK k nineL)) (by rw [mltK_len]))
 rw [nine_lit] at hm
 generalize mltK k nineL = ml at *
 clear hk
 go_enter Tryd.func13, Tryd.ntmps13
 go_wp2_with ((with_reducible refine tdQ 3 ?_); refine lcQ 23 (.tmp 1) (w.heap.size) (keyC k) (hM0.get 1 rfl) Tryd.underlying23 Hsk.out ?_)
 refine (hm _).mono ?_
 rintro e w1 ⟨rfl, hb1⟩
 have hM1 := hM0.call hb1
 clear hM0 hb1
 go_wp2_with ((with_reducible refine tsQ 23 ?_); refine srQ 23 (.tmp 2) (.tmp 5) (w.heap.size + 1) (keyC ml) _ (hM1.get 0 rfl) Hsm.out Hzm.out Hom.out ?_)
 exact bodyPost_ret (results_cell_one rfl _ _ (w.heap.size + 1) 23 _ _ rfl ((hM1.get 0 rfl).row _) Tryd.underlying23 rfl Hsm.out) rfl ⟨rfl, below_setRow hM1.old (by omega) _⟩
end Go.Proofs.YtbiijdboolpaeaaDoor
