/-
  CONTRACTS of the program's Mult and Base: the ladder, carried out in numbers of five parts, is the ladder of numbers.
-/
import Derived.Test.YtimgnpcojamafaaCrvStep
import Derived.Test.YtimgnpcojamafaaCrvX
import Derived.Test.YtimgnpcojamafaaCrvLaw
import Derived.Test.YtimgnpcojamafaaFeKit
set_option linter.unusedVariables false
namespace Go.Proofs.Ytimgnpcojamafaa
open Go.RowKit

/-- what a number of five parts stands for -/
def vq (a : Fe5) : Nat := valF a % P25
theorem vq_lt (a : Fe5) : vq a < P25 := P25_lt _
theorem vq_add (a b : Fe5) : vq (addQ a b) = adN (vq a) (vq b) := by
  unfold vq adN
  rw [addQ_val, Nat.add_mod]
theorem vq_sub (a : Fe5) {b : Fe5} (hb : MayF b) : vq (subQ a b) = sbN (vq a) (vq b) := by
  unfold vq sbN
  have h := subQ_val (a := a) hb
  have hl := P25_lt (valF b)
  rw [Nat.add_mod] at h
  have h2 := P25_lt (valF (subQ a b))
  have h3 := P25_lt (valF a)
  generalize valF (subQ a b) % P25 = x at *
  generalize valF a % P25 = y at *
  generalize valF b % P25 = z at *
  unfold P25 at *
  omega
theorem vq_mul (a b : Fe5) : vq (mulQ a b) = mlN (vq a) (vq b) := by
  unfold vq mlN
  rw [mulQ_val, Nat.mul_mod]
theorem vq_sq (a : Fe5) : vq (sqU a 1) = mlN (vq a) (vq a) := by
  unfold vq mlN
  rw [sqU_val, show valF a ^ 2 ^ 1 = valF a * valF a from Nat.pow_two _, Nat.mul_mod]
theorem vq_term : vq termF = 121665 := by decide +kernel
theorem vq_one : vq oneF = 1 := by decide +kernel
theorem vq_zero : vq zeroF = 0 := by decide +kernel
theorem vq_inv (a : Fe5) : vq (invU a) = invN (vq a) 255 := by
  unfold vq
  rw [invU_val, invN_val, expN_all, ← Nat.pow_mod]
theorem termF_may : MayF termF := by decide

/-- a point twice, and two points together, in numbers of five parts -/
def dblQ (p : Fe5 × Fe5) : Fe5 × Fe5 :=
  (mulQ (sqU (addQ p.1 p.2) 1) (sqU (subQ p.1 p.2) 1),
    mulQ (subQ (sqU (addQ p.1 p.2) 1) (sqU (subQ p.1 p.2) 1)) (addQ (sqU (addQ p.1 p.2) 1) (mulQ termF (subQ (sqU (addQ p.1 p.2) 1) (sqU (subQ p.1 p.2) 1)))))
def difQ (u : Fe5) (p q : Fe5 × Fe5) : Fe5 × Fe5 :=
  (sqU (addQ (mulQ (subQ q.1 q.2) (addQ p.1 p.2)) (mulQ (addQ q.1 q.2) (subQ p.1 p.2))) 1,
    mulQ u (sqU (subQ (mulQ (subQ q.1 q.2) (addQ p.1 p.2)) (mulQ (addQ q.1 q.2) (subQ p.1 p.2))) 1))
def May2 (p : Fe5 × Fe5) : Prop := MayF p.1 ∧ MayF p.2
def vq2 (p : Fe5 × Fe5) : Nat × Nat := (vq p.1, vq p.2)
theorem dblQ_may {p : Fe5 × Fe5} (h : May2 p) : May2 (dblQ p) := by
  have ha := addQ_may h.1 h.2
  have hb := subQ_may h.1 h.2
  have haa := sqU_may ha 1
  have hbb := sqU_may hb 1
  have he := subQ_may haa hbb
  exact ⟨mulQ_may haa hbb, mulQ_may he (addQ_may haa (mulQ_may termF_may he))⟩
theorem difQ_may {u : Fe5} {p q : Fe5 × Fe5} (hu : MayF u) (hp : May2 p) (hq : May2 q) : May2 (difQ u p q) := by
  have hda := mulQ_may (subQ_may hq.1 hq.2) (addQ_may hp.1 hp.2)
  have hcb := mulQ_may (addQ_may hq.1 hq.2) (subQ_may hp.1 hp.2)
  exact ⟨sqU_may (addQ_may hda hcb) 1, mulQ_may hu (sqU_may (subQ_may hda hcb) 1)⟩
theorem dblQ_vq {p : Fe5 × Fe5} (h : May2 p) : vq2 (dblQ p) = dblN (vq p.1) (vq p.2) := by
  have ha := addQ_may h.1 h.2
  have hb := subQ_may h.1 h.2
  have haa := sqU_may ha 1
  have hbb := sqU_may hb 1
  unfold vq2 dblQ dblN
  simp only [vq_mul, vq_sq, vq_add, vq_sub _ h.2, vq_sub _ hbb, vq_term]
theorem difQ_vq {u : Fe5} {p q : Fe5 × Fe5} (hu : MayF u) (hp : May2 p) (hq : May2 q) : vq2 (difQ u p q) = difN (vq u) (vq p.1) (vq p.2) (vq q.1) (vq q.2) := by
  have hcb := mulQ_may (addQ_may hq.1 hq.2) (subQ_may hp.1 hp.2)
  unfold vq2 difQ difN
  simp only [vq_mul, vq_sq, vq_add, vq_sub _ hp.2, vq_sub _ hq.2, vq_sub _ hcb]
/-- the ladder in numbers of five parts -/
def stepQ (u : Fe5) (st : (Fe5 × Fe5) × (Fe5 × Fe5)) (b : Bool) : (Fe5 × Fe5) × (Fe5 × Fe5) :=
  if b then (difQ u st.2 st.1, dblQ st.2) else (dblQ st.1, difQ u st.1 st.2)
def ladQ (u : Fe5) (l : List UInt8) : Nat → (Fe5 × Fe5) × (Fe5 × Fe5)
  | 0 => ((oneF, zeroF), (u, oneF))
  | j + 1 => stepQ u (ladQ u l j) (bitK l (254 - j))
def May4 (st : (Fe5 × Fe5) × (Fe5 × Fe5)) : Prop := May2 st.1 ∧ May2 st.2
theorem stepQ_may {u : Fe5} (hu : MayF u) {st : (Fe5 × Fe5) × (Fe5 × Fe5)} (h : May4 st) (b : Bool) : May4 (stepQ u st b) := by
  cases b
  · exact ⟨dblQ_may h.1, difQ_may hu h.1 h.2⟩
  · exact ⟨difQ_may hu h.2 h.1, dblQ_may h.2⟩
theorem ladQ_may {u : Fe5} (hu : MayF u) (l : List UInt8) : ∀ j, May4 (ladQ u l j)
  | 0 => ⟨⟨oneF_may, zeroF_may⟩, ⟨hu, oneF_may⟩⟩
  | j + 1 => stepQ_may hu (ladQ_may hu l j) _
theorem stepQ_vq {u : Fe5} (hu : MayF u) {st : (Fe5 × Fe5) × (Fe5 × Fe5)} (h : May4 st) (b : Bool) :
    (vq2 (stepQ u st b).1, vq2 (stepQ u st b).2) = ladNS (vq u) (vq2 st.1, vq2 st.2) b := by
  cases b
  · show (vq2 (dblQ st.1), vq2 (difQ u st.1 st.2)) = _
    rw [dblQ_vq h.1, difQ_vq hu h.1 h.2]
    rfl
  · show (vq2 (difQ u st.2 st.1), vq2 (dblQ st.2)) = _
    rw [dblQ_vq h.2, difQ_vq hu h.2 h.1]
    rfl
theorem ladQ_vq {u : Fe5} (hu : MayF u) (l : List UInt8) : ∀ j, (vq2 (ladQ u l j).1, vq2 (ladQ u l j).2) = ladN (vq u) l j
  | 0 => by
    show ((vq oneF, vq zeroF), (vq u, vq oneF)) = _
    rw [vq_one, vq_zero]
    rfl
  | j + 1 => by
    rw [ladQ, stepQ_vq hu (ladQ_may hu l j), ladQ_vq hu l j]
    rfl
theorem ladQ_end {u : Fe5} (hu : MayF u) (l : List UInt8) : valF (mulQ (ladQ u l 255).1.1 (invU (ladQ u l 255).1.2)) % P25 = mltN l (vq u) := by
  have h := ladQ_vq hu l 255
  have h1 : vq (ladQ u l 255).1.1 = (ladN (vq u) l 255).1.1 := by rw [← h]; rfl
  have h2 : vq (ladQ u l 255).1.2 = (ladN (vq u) l 255).1.2 := by rw [← h]; rfl
  show vq _ = _
  rw [vq_mul, vq_inv, h1, h2, mltN]

set_option maxHeartbeats 2000000 in
/-- one step of the ladder: the closure called with a bit -/
theorem step_any (b : Bool) (u : Fe5) (st : (Fe5 × Fe5) × (Fe5 × Fe5)) (w0 w : World) (L : List (Nat × TypeId × Array Value)) (gN gX gP : Nat) (hu : MayF u) (hst : May4 st)
    (hNX : gN ≠ gX) (hNP : gN ≠ gP) (hXP : gX ≠ gP) (h0N : w0.heap.size ≤ gN) (h0X : w0.heap.size ≤ gX) (hL : ∀ p ∈ L, p.1 ≠ gN ∧ p.1 ≠ gX)
    (hM0 : Ms w0 w ((gN, 38, rtC st.1.1 st.1.2) :: (gX, 38, rtC st.2.1 st.2.2) :: (gP, 35, feC u) :: L)) :
    Calls Try.prog 17 #[.int .u64 (bitI b), .pointer (some ⟨gN, 0, none⟩), .pointer (some ⟨gX, 0, none⟩), .pointer (some ⟨gP, 0, none⟩)] w fun e w' => e = .returned (.tuple #[]) ∧ Ms w0 w' ((gN, 38, rtC (stepQ u st b).1.1 (stepQ u st b).1.2) :: (gX, 38, rtC (stepQ u st b).2.1 (stepQ u st b).2.2) :: (gP, 35, feC u) :: L) ∧ w.heap.size ≤ w'.heap.size := by
  obtain ⟨⟨x, z⟩, ⟨y, t⟩⟩ := st
  obtain ⟨⟨hx, hz⟩, ⟨hy, ht⟩⟩ := hst
  cases b
  · have hA := addQ_may hx hz
    have hB := subQ_may hx hz
    have hC := addQ_may hy ht
    have hD := subQ_may hy ht
    have hDA := mulQ_may hD hA
    have hCB := mulQ_may hC hB
    have hAA := sqU_may hA 1
    have hBB := sqU_may hB 1
    have hE := subQ_may hAA hBB
    have hS := addQ_may hDA hCB
    have hDf := subQ_may hDA hCB
    have hQ := sqU_may hDf 1
    have hM1 := mulQ_may termF_may hE
    have hM2 := addQ_may hAA hM1
    have hX2 := mulQ_may hAA hBB
    have hZ2 := mulQ_may hE hM2
    have hX3 := sqU_may hS 1
    have hZ3 := mulQ_may hu hQ
    have kX : AnsX (bitI false) x z y t x z y t := fun wx => exchanged_any false x z y t wx hx hz hy ht
    have kY : AnsX (bitI false) ((dblQ (x, z)).1) ((dblQ (x, z)).2) ((difQ u (x, z) (y, t)).1) ((difQ u (x, z) (y, t)).2) ((dblQ (x, z)).1) ((dblQ (x, z)).2) ((difQ u (x, z) (y, t)).1) ((difQ u (x, z) (y, t)).2) := fun wx => exchanged_any false _ _ _ _ wx hX2 hZ2 hX3 hZ3
    exact step_calls w0 w L gN gX gP (bitI false) x z y t ((dblQ (x, z)).1) ((dblQ (x, z)).2) ((difQ u (x, z) (y, t)).1) ((difQ u (x, z) (y, t)).2) x z y t u _ _ _ _ _ _ _ _ _ _ _ _ _ _ _ _ _ _ kX kY
      (fun wx => cvadded_any _ _ wx hx hz)
      (fun wx => cvless_any _ _ wx hx hz)
      (fun wx => cvadded_any _ _ wx hy ht)
      (fun wx => cvless_any _ _ wx hy ht)
      (fun wx => cvtimes_any _ _ wx hD hA)
      (fun wx => cvtimes_any _ _ wx hC hB)
      (fun wx => cvless_any _ _ wx hAA hBB)
      (fun wx => cvadded_any _ _ wx hDA hCB)
      (fun wx => cvless_any _ _ wx hDA hCB)
      (fun wx => cvtimes_any _ _ wx hu hQ)
      (fun wx => cvtimes_any _ _ wx hAA hBB)
      (fun wx => cvtimes_any _ _ wx termF_may hE)
      (fun wx => cvadded_any _ _ wx hAA hM1)
      (fun wx => cvtimes_any _ _ wx hE hM2)
      (fun wx => cvsquared_any _ wx hA)
      (fun wx => cvsquared_any _ wx hB)
      (fun wx => cvsquared_any _ wx hS)
      (fun wx => cvsquared_any _ wx hDf)
      hNX hNP hXP h0N h0X hL hM0
  · have hA := addQ_may hy ht
    have hB := subQ_may hy ht
    have hC := addQ_may hx hz
    have hD := subQ_may hx hz
    have hDA := mulQ_may hD hA
    have hCB := mulQ_may hC hB
    have hAA := sqU_may hA 1
    have hBB := sqU_may hB 1
    have hE := subQ_may hAA hBB
    have hS := addQ_may hDA hCB
    have hDf := subQ_may hDA hCB
    have hQ := sqU_may hDf 1
    have hM1 := mulQ_may termF_may hE
    have hM2 := addQ_may hAA hM1
    have hX2 := mulQ_may hAA hBB
    have hZ2 := mulQ_may hE hM2
    have hX3 := sqU_may hS 1
    have hZ3 := mulQ_may hu hQ
    have kX : AnsX (bitI true) x z y t y t x z := fun wx => exchanged_any true x z y t wx hx hz hy ht
    have kY : AnsX (bitI true) ((dblQ (y, t)).1) ((dblQ (y, t)).2) ((difQ u (y, t) (x, z)).1) ((difQ u (y, t) (x, z)).2) ((difQ u (y, t) (x, z)).1) ((difQ u (y, t) (x, z)).2) ((dblQ (y, t)).1) ((dblQ (y, t)).2) := fun wx => exchanged_any true _ _ _ _ wx hX2 hZ2 hX3 hZ3
    exact step_calls w0 w L gN gX gP (bitI true) x z y t ((difQ u (y, t) (x, z)).1) ((difQ u (y, t) (x, z)).2) ((dblQ (y, t)).1) ((dblQ (y, t)).2) y t x z u _ _ _ _ _ _ _ _ _ _ _ _ _ _ _ _ _ _ kX kY
      (fun wx => cvadded_any _ _ wx hy ht)
      (fun wx => cvless_any _ _ wx hy ht)
      (fun wx => cvadded_any _ _ wx hx hz)
      (fun wx => cvless_any _ _ wx hx hz)
      (fun wx => cvtimes_any _ _ wx hD hA)
      (fun wx => cvtimes_any _ _ wx hC hB)
      (fun wx => cvless_any _ _ wx hAA hBB)
      (fun wx => cvadded_any _ _ wx hDA hCB)
      (fun wx => cvless_any _ _ wx hDA hCB)
      (fun wx => cvtimes_any _ _ wx hu hQ)
      (fun wx => cvtimes_any _ _ wx hAA hBB)
      (fun wx => cvtimes_any _ _ wx termF_may hE)
      (fun wx => cvadded_any _ _ wx hAA hM1)
      (fun wx => cvtimes_any _ _ wx hE hM2)
      (fun wx => cvsquared_any _ wx hA)
      (fun wx => cvsquared_any _ wx hB)
      (fun wx => cvsquared_any _ wx hS)
      (fun wx => cvsquared_any _ wx hDf)
      hNX hNP hXP h0N h0X hL hM0

theorem build_oneF (w : World) : (Instr.build 35 #[(0, .int .u64 1)]).run Try.prog w = .ok (.agg (feC oneF)) w := by kernel_rfl
set_option maxRecDepth 100000 in
theorem build_rt1 (x : Fe5) (w : World) : (Instr.build 38 #[(0, .agg (feC x))]).run Try.prog w = .ok (.agg (rtC x zeroF)) w := by kernel_rfl

set_option maxRecDepth 1000000 in
set_option maxHeartbeats 8000000 in
theorem PMult_any (k l : List UInt8) (w : World) (hk : k.length = 32) (hl : l.length = 32) :
    Calls Try.prog 11 #[.agg (keyC k), .agg (keyC l)] w fun e w' => e = .returned (.agg (keyC (mltK k l))) ∧ Below w.heap.size w w' := by
  have hM0 := (((((Ms.nil w).box 23 (keyC k)).box 23 (keyC l)).box 23 #[.int .u8 0, .int .u8 0, .int .u8 0, .int .u8 0, .int .u8 0, .int .u8 0, .int .u8 0, .int .u8 0, .int .u8 0, .int .u8 0, .int .u8 0, .int .u8 0, .int .u8 0, .int .u8 0, .int .u8 0, .int .u8 0, .int .u8 0, .int .u8 0, .int .u8 0, .int .u8 0, .int .u8 0, .int .u8 0, .int .u8 0, .int .u8 0, .int .u8 0, .int .u8 0, .int .u8 0, .int .u8 0, .int .u8 0, .int .u8 0, .int .u8 0, .int .u8 0])).sub (L' := [(w.heap.size, 23, keyC k), (w.heap.size + 1, 23, keyC l), (w.heap.size + 1 + 1, 23, #[.int .u8 0, .int .u8 0, .int .u8 0, .int .u8 0, .int .u8 0, .int .u8 0, .int .u8 0, .int .u8 0, .int .u8 0, .int .u8 0, .int .u8 0, .int .u8 0, .int .u8 0, .int .u8 0, .int .u8 0, .int .u8 0, .int .u8 0, .int .u8 0, .int .u8 0, .int .u8 0, .int .u8 0, .int .u8 0, .int .u8 0, .int .u8 0, .int .u8 0, .int .u8 0, .int .u8 0, .int .u8 0, .int .u8 0, .int .u8 0, .int .u8 0, .int .u8 0])]) (by simp only [World.size_alloc]; intro p hp; simp only [List.mem_cons, List.not_mem_nil, or_false] at hp ⊢; rcases hp with h | h | h <;> simp [h])
  have Hsk := Lib.hid (sizeKey hk)
  have Hsl := Lib.hid (sizeKey hl)
  have Hsc := Lib.hid (sizeKey (clampL_len hk))
  have Hoc := Lib.hid (one_keyF (clampL k))
  have Hcl := Lib.hid (clampL_len hk)
  have Hzc := Lib.hid (show (keyC k).size = (keyC (clampL k)).size by rw [keyC_size, keyC_size, hk, clampL_len hk])
  have hcl := fun wx => PClamp_any k wx hk
  have hof := fun wx => Of_any l wx hl
  have Hu := Lib.hid (ofU_may l)
  have Hans := Lib.hid (show keyB (mltN (clampL k) (vq (ofU l))) = mltK k l by unfold mltK pntN vq; rw [ofU_val])
  have Hsm := Lib.hid (sizeKey (mltK_len k l))
  have Hom := Lib.hid (one_keyF (mltK k l))
  have Hzm := Lib.hid (show (#[.int .u8 0, .int .u8 0, .int .u8 0, .int .u8 0, .int .u8 0, .int .u8 0, .int .u8 0, .int .u8 0, .int .u8 0, .int .u8 0, .int .u8 0, .int .u8 0, .int .u8 0, .int .u8 0, .int .u8 0, .int .u8 0, .int .u8 0, .int .u8 0, .int .u8 0, .int .u8 0, .int .u8 0, .int .u8 0, .int .u8 0, .int .u8 0, .int .u8 0, .int .u8 0, .int .u8 0, .int .u8 0, .int .u8 0, .int .u8 0, .int .u8 0, .int .u8 0] : Array Value).size = (keyC (mltK k l)).size by rw [keyC_size, mltK_len]; rfl)
  generalize mltK k l = ml at *
  generalize ofU l = u at *
  generalize clampL k = kc at *
  clear hk hl
  go_enter Try.func11, Try.ntmps11
  go_wp2_with ((with_reducible show wpList _ _ _ (⟨some 10, _, _, _, _, _⟩ :: _) _ _); refine wpList_loadC (by kernel_rfl) 23 (.tmp 2) rfl (w.heap.size) rfl 23 (keyC k) _ (hM0.get 0 rfl) Try.underlying23 rfl Hsk.out ?_)
  refine (hcl _).mono ?_
  rintro e w1 ⟨rfl, hb1⟩
  have hM1 := hM0.call hb1
  have hM2 := Ms.set hM1 (Nat.le_refl _) (by simp only [List.mem_cons, List.not_mem_nil, or_false]; rintro p (rfl | rfl) <;> (show _ ≠ _; simp only [ne_eq]; omega)) (keyC kc)
  clear hM0 hb1 hcl
  have hrk := hM1.get 0 rfl
  clear hM1
  go_wp2_with (first
    | ((with_reducible show wpList _ _ _ (⟨none, Op.store 23 _ _, _, _, _, _⟩ :: _) _ _); refine wpList_store_row rfl 23 (.tmp 2) (.tmp 11) rfl (w.heap.size) (keyC kc) rfl rfl 23 _ (hrk) Hsc.out Hzc.out Hoc.out ?_)
    | ((with_reducible show wpList _ _ _ (⟨some 12, _, _, _, _, _⟩ :: _) _ _); refine wpList_loadC (by kernel_rfl) 23 (.tmp 3) rfl (w.heap.size + 1) rfl 23 (keyC l) _ (hM2.get 1 rfl) Try.underlying23 rfl Hsl.out ?_))
  refine (hof _).mono ?_
  rintro e w2 ⟨rfl, hb2⟩
  have hM3 := (hM2.call hb2).put 35 #[.int .u64 0, .int .u64 0, .int .u64 0, .int .u64 0, .int .u64 0] (feC u)
  have hgu := (hM2.call hb2).old.size
  have hlt2 := ((hM2.call hb2).get 2 rfl).lt
  clear hM2 hb2 hof hrk
  go_upto_region 3 with ((with_reducible show wpList _ _ _ (⟨none, Op.store 35 _ _, _, _, _, _⟩ :: _) _ _); refine wpList_store_row rfl 35 (.tmp 5) (.tmp 13) rfl (w2.heap.size) (feC u) rfl rfl 35 _ (RowC.new _ _ _) (sizeFe _) (fe_zero _) (one_fe _) ?_)
  refine wp_gen (fun wx => Ms w wx [(w2.heap.size, 35, feC u), (w.heap.size, 23, keyC kc), (w.heap.size + 1, 23, keyC l), (w.heap.size + 1 + 1, 23, #[.int .u8 0, .int .u8 0, .int .u8 0, .int .u8 0, .int .u8 0, .int .u8 0, .int .u8 0, .int .u8 0, .int .u8 0, .int .u8 0, .int .u8 0, .int .u8 0, .int .u8 0, .int .u8 0, .int .u8 0, .int .u8 0, .int .u8 0, .int .u8 0, .int .u8 0, .int .u8 0, .int .u8 0, .int .u8 0, .int .u8 0, .int .u8 0, .int .u8 0, .int .u8 0, .int .u8 0, .int .u8 0, .int .u8 0, .int .u8 0, .int .u8 0, .int .u8 0])]) hM3 ?_
  clear hM3
  rintro v3 hM3
  generalize w2.heap.size = gU at *
  try simp only [Act.put]
  go_cut [6, 7] (fun p q wx => ∃ g g' : Nat, p = .pointer (some ⟨g, 0, none⟩) ∧ q = .pointer (some ⟨g', 0, none⟩) ∧ gU < g ∧ gU < g' ∧ g ≠ g' ∧ Ms w wx [(g, 38, rtC oneF zeroF), (g', 38, rtC u oneF), (gU, 35, feC u), (w.heap.size, 23, keyC kc), (w.heap.size + 1, 23, keyC l), (w.heap.size + 1 + 1, 23, #[.int .u8 0, .int .u8 0, .int .u8 0, .int .u8 0, .int .u8 0, .int .u8 0, .int .u8 0, .int .u8 0, .int .u8 0, .int .u8 0, .int .u8 0, .int .u8 0, .int .u8 0, .int .u8 0, .int .u8 0, .int .u8 0, .int .u8 0, .int .u8 0, .int .u8 0, .int .u8 0, .int .u8 0, .int .u8 0, .int .u8 0, .int .u8 0, .int .u8 0, .int .u8 0, .int .u8 0, .int .u8 0, .int .u8 0, .int .u8 0, .int .u8 0, .int .u8 0])])
  case first =>
    have hun := Try.underlying35
    have hkeep : ∀ wx : World, Below v3.heap.size v3 wx → wx.rangeAt gU 0 (feC u).toList := fun wx hb => ((hM3.get 0 rfl).call hb).range
    have hltU := (hM3.get 0 rfl).lt
    refine beginT (fun wx => wx.rangeAt gU 0 (feC u).toList) 8 (by kernel_rfl) ?_
    have hS := hkeep _ (c_drew (c_refl _))
    refine takeD 0 (some 14) (.agg (feC oneF)) rfl rfl (by kernel_rfl) (by kernel_rfl) (by kernel_rfl) (by kernel_rfl) (fun _ _ _ h => h) (yields_build (by kernel_rfl) 35 _ rfl #[(0, .int .u64 1)] (by kernel_rfl) _ (build_oneF)) hS ?_
    simp only [Act.put, List.setIfInBounds_toArray, List.set_cons_zero, List.set_cons_succ]
    refine takeD 1 (some 15) (.agg (rtC oneF zeroF)) rfl rfl (by kernel_rfl) (by kernel_rfl) (by kernel_rfl) (by kernel_rfl) (fun _ _ _ h => h) (yields_build (by kernel_rfl) 38 _ rfl #[(0, .agg (feC oneF))] (by kernel_rfl) _ (build_rt1 _)) hS ?_
    simp only [Act.put, List.setIfInBounds_toArray, List.set_cons_zero, List.set_cons_succ]
    refine loadT 2 (some 16) 35 (.tmp 5) gU 0 (feC u).toList rfl rfl (by kernel_rfl) (by kernel_rfl) (by kernel_rfl) (by kernel_rfl) rfl (by kernel_rfl) rfl (fun wx hSw => hSw) hun rfl (sizeFeL _) (fun _ _ _ h => h) hS ?_
    simp only [Act.put, List.setIfInBounds_toArray, List.set_cons_zero, List.set_cons_succ, Array.toArray_toList]
    refine takeD 3 (some 17) (.agg (feC oneF)) rfl rfl (by kernel_rfl) (by kernel_rfl) (by kernel_rfl) (by kernel_rfl) (fun _ _ _ h => h) (yields_build (by kernel_rfl) 35 _ rfl #[(0, .int .u64 1)] (by kernel_rfl) _ (build_oneF)) hS ?_
    simp only [Act.put, List.setIfInBounds_toArray, List.set_cons_zero, List.set_cons_succ]
    refine takeD 4 (some 18) (.agg (rtC u oneF)) rfl rfl (by kernel_rfl) (by kernel_rfl) (by kernel_rfl) (by kernel_rfl) (fun _ _ _ h => h) (yields_build (by kernel_rfl) 38 _ rfl #[(0, .agg (feC u)), (1, .agg (feC oneF))] (by kernel_rfl) _ (build_rt _ _)) hS ?_
    simp only [Act.put, List.setIfInBounds_toArray, List.set_cons_zero, List.set_cons_succ]
    have hD := hM3.drew
    have hg1 := hD.old.size
    have hn1 := fun p hp => Nat.ne_of_lt ((hD.rows p hp).lt)
    have hN1 := hD.box 38 #[.int .u64 0, .int .u64 0, .int .u64 0, .int .u64 0, .int .u64 0, .int .u64 0, .int .u64 0, .int .u64 0, .int .u64 0, .int .u64 0]
    have hg2 := hN1.old.size
    have hn2 := fun p hp => Nat.ne_of_lt ((hN1.rows p hp).lt)
    have hN2 := hN1.box 38 #[.int .u64 0, .int .u64 0, .int .u64 0, .int .u64 0, .int .u64 0, .int .u64 0, .int .u64 0, .int .u64 0, .int .u64 0, .int .u64 0]
    simp only [World.size_alloc] at hN2 hn2 hg2
    have hs0 : v3.drew.heap.size = v3.heap.size := rfl
    have hne : v3.drew.heap.size ≠ v3.drew.heap.size + 1 := by omega
    refine readyT [5, 6] (by kernel_rfl) (by simp) (AllReadyT.cons rfl (fun K hK => ?_) (AllReadyT.cons rfl (fun K hK => ?_) AllReadyT.nil))
    · go_simp
      refine hK.out _ _ (fun _ => hkeep _ (by (repeat (first | exact c_refl _ | refine c_drew ?_ | refine c_alloc ?_ _ | refine c_row ?_ (by first | omega | exact Nat.le_refl _) _ | refine c_call ?_ (by assumption))); first | done | fail "open")) ?_
      clear hK K
      refine oneT 6 (by kernel_rfl) rfl (fun K hK => ?_)
      go_simp
      refine hK.out _ _ (fun _ => hkeep _ (by (repeat (first | exact c_refl _ | refine c_drew ?_ | refine c_alloc ?_ _ | refine c_row ?_ (by first | omega | exact Nat.le_refl _) _ | refine c_call ?_ (by assumption))); first | done | fail "open")) ?_
      clear hK K
      have hset := Ms.set2 (ds := rtC oneF zeroF) (ds' := rtC u oneF) (hN2.swap) hg1 hg2 hne hn1 (fun p hp => hn2 p (List.mem_cons_of_mem _ hp))
      refine oneT 7 (by kernel_rfl) rfl (fun K hK => ?_)
      refine step_store_row rfl 38 (.tmp 6) (.tmp 15) rfl (v3.drew.heap.size) (rtC oneF zeroF) rfl rfl 38 _ (hN2.get 1 rfl) (sizeR _ _) (zeroR _ _) (oneR _ _) ?_
      refine hK.out _ _ (fun _ => hkeep _ (by (repeat (first | exact c_refl _ | refine c_drew ?_ | refine c_alloc ?_ _ | refine c_row ?_ (by first | omega | exact Nat.le_refl _) _ | refine c_call ?_ (by assumption))); first | done | fail "open")) ?_
      clear hK K
      refine oneT 8 (by kernel_rfl) rfl (fun K hK => ?_)
      refine step_store_row rfl 38 (.tmp 7) (.tmp 18) rfl (v3.drew.heap.size + 1) (rtC u oneF) rfl rfl 38 _ ((hN2.get 0 rfl).rowFar (Ne.symm hne) _) (sizeR _ _) (zeroR _ _) (oneR _ _) ?_
      refine hK.out _ _ (fun h => absurd rfl h) ?_
      clear hK K
      refine doneT (by kernel_rfl) ?_ _
      go_wp2_with fail
      go_meet
      exact ⟨_, _, rfl, rfl, by omega, by omega, hne, hset⟩
    · go_simp
      refine hK.out _ _ (fun _ => hkeep _ (by (repeat (first | exact c_refl _ | refine c_drew ?_ | refine c_alloc ?_ _ | refine c_row ?_ (by first | omega | exact Nat.le_refl _) _ | refine c_call ?_ (by assumption))); first | done | fail "open")) ?_
      clear hK K
      refine oneT 5 (by kernel_rfl) rfl (fun K hK => ?_)
      go_simp
      refine hK.out _ _ (fun _ => hkeep _ (by (repeat (first | exact c_refl _ | refine c_drew ?_ | refine c_alloc ?_ _ | refine c_row ?_ (by first | omega | exact Nat.le_refl _) _ | refine c_call ?_ (by assumption))); first | done | fail "open")) ?_
      clear hK K
      have hset := Ms.set2 (ds := rtC oneF zeroF) (ds' := rtC u oneF) hN2 hg2 hg1 (Ne.symm hne) (fun p hp => hn2 p (List.mem_cons_of_mem _ hp)) hn1
      refine oneT 7 (by kernel_rfl) rfl (fun K hK => ?_)
      refine step_store_row rfl 38 (.tmp 6) (.tmp 15) rfl (v3.drew.heap.size + 1) (rtC oneF zeroF) rfl rfl 38 _ (hN2.get 0 rfl) (sizeR _ _) (zeroR _ _) (oneR _ _) ?_
      refine hK.out _ _ (fun _ => hkeep _ (by (repeat (first | exact c_refl _ | refine c_drew ?_ | refine c_alloc ?_ _ | refine c_row ?_ (by first | omega | exact Nat.le_refl _) _ | refine c_call ?_ (by assumption))); first | done | fail "open")) ?_
      clear hK K
      refine oneT 8 (by kernel_rfl) rfl (fun K hK => ?_)
      refine step_store_row rfl 38 (.tmp 7) (.tmp 18) rfl (v3.drew.heap.size) (rtC u oneF) rfl rfl 38 _ ((hN2.get 1 rfl).rowFar hne _) (sizeR _ _) (zeroR _ _) (oneR _ _) ?_
      refine hK.out _ _ (fun h => absurd rfl h) ?_
      clear hK K
      refine doneT (by kernel_rfl) ?_ _
      go_wp2_with fail
      go_meet
      exact ⟨_, _, rfl, rfl, by omega, by omega, Ne.symm hne, hset⟩
  case rest =>
    obtain ⟨gN, gX, rfl, rfl, hN, hX, hNX, hM4⟩ := hcut
    clear hM3
    have Hst := Lib.hid (ladQ_may Hu.out kc)
    have Hend := Lib.hid (ladQ_end Hu.out kc)
    have Hg := Lib.hid (And.intro hgu (And.intro hlt2 (And.intro hN (And.intro hX hNX))))
    clear hgu hlt2 hN hX hNX
    go_wp2_with fail
    go_loopw [20] (fun i wr => ∃ j : Nat, j ≤ 255 ∧ i = .int .i64 (j : Int) ∧ Ms w wr [(gN, 38, rtC (ladQ u kc j).1.1 (ladQ u kc j).1.2), (gX, 38, rtC (ladQ u kc j).2.1 (ladQ u kc j).2.2), (gU, 35, feC u), (w.heap.size, 23, keyC kc), (w.heap.size + 1, 23, keyC l), (w.heap.size + 1 + 1, 23, #[.int .u8 0, .int .u8 0, .int .u8 0, .int .u8 0, .int .u8 0, .int .u8 0, .int .u8 0, .int .u8 0, .int .u8 0, .int .u8 0, .int .u8 0, .int .u8 0, .int .u8 0, .int .u8 0, .int .u8 0, .int .u8 0, .int .u8 0, .int .u8 0, .int .u8 0, .int .u8 0, .int .u8 0, .int .u8 0, .int .u8 0, .int .u8 0, .int .u8 0, .int .u8 0, .int .u8 0, .int .u8 0, .int .u8 0, .int .u8 0, .int .u8 0, .int .u8 0])]) (fun i _ => (255 - intOf i).toNat)
    case atStart => exact ⟨0, by omega, rfl, hM4⟩
    case round =>
      clear hM4
      obtain ⟨j, hj, rfl, hM⟩ := hrel
      by_cases hlt : j < 255
      · have hw : IntKind.i64.wrap (254 - (j : Int)) = ((254 - j : Nat) : Int) := by rw [IntKind.wrap_i64]; omega
        have Hj := Lib.hid hlt
        have hbo := fun wx => bitOf_any kc (254 - j) wx Hcl.out (by omega)
        have Hs1 := Lib.hid (show ladQ u kc (j + 1) = stepQ u (ladQ u kc j) (bitK kc (254 - j)) from rfl)
        have hm := Hst.out j
        generalize hst' : ladQ u kc (j + 1) = st' at *
        have Hst' := Lib.hid hst'
        clear hst'
        generalize ladQ u kc j = st at *
        have hst := fun wx hMx => step_any (bitK kc (254 - j)) u st w wx [(w.heap.size, 23, keyC kc), (w.heap.size + 1, 23, keyC l), (w.heap.size + 1 + 1, 23, #[.int .u8 0, .int .u8 0, .int .u8 0, .int .u8 0, .int .u8 0, .int .u8 0, .int .u8 0, .int .u8 0, .int .u8 0, .int .u8 0, .int .u8 0, .int .u8 0, .int .u8 0, .int .u8 0, .int .u8 0, .int .u8 0, .int .u8 0, .int .u8 0, .int .u8 0, .int .u8 0, .int .u8 0, .int .u8 0, .int .u8 0, .int .u8 0, .int .u8 0, .int .u8 0, .int .u8 0, .int .u8 0, .int .u8 0, .int .u8 0, .int .u8 0, .int .u8 0])] gN gX gU Hu.out hm (by have := Hg.out; omega) (by have := Hg.out; omega) (by have := Hg.out; omega) (by have := Hg.out; omega) (by have := Hg.out; omega) (by have := Hg.out; simp only [List.mem_cons, List.not_mem_nil, or_false]; rintro p (rfl | rfl | rfl) <;> (constructor <;> (show _ ≠ _; simp only [ne_eq]; omega))) hMx
        rw [← Hs1.out] at hst
        generalize ((254 - j : Nat) : Int) = jn at *
        generalize bitI (bitK kc (254 - j)) = β at *
        clear hm
        go_wp2_with ((with_reducible show wpList _ _ _ (⟨some 24, _, _, _, _, _⟩ :: _) _ _); refine wpList_loadC (by kernel_rfl) 23 (.tmp 2) rfl (w.heap.size) rfl 23 (keyC kc) _ (hM.get 3 rfl) Try.underlying23 rfl Hsc.out ?_)
        refine (hbo _).mono ?_
        rintro e w5 ⟨rfl, hb5⟩
        have hM5 := hM.call hb5
        clear hb5
        go_wp2_with fail
        refine (hst _ hM5).mono ?_
        rintro e w6 ⟨rfl, hM6, hv6⟩
        clear hM5 hM hst
        go_wp2_with fail
        exact ⟨⟨j + 1, Hj.out, by go_num, by rw [Hst'.out]; exact hM6⟩, by have := Hj.out; simp [intOf]; omega⟩
      · obtain rfl : j = 255 := by omega
        rw [show ((255 : Nat) : Int) = 255 from rfl]
        have hm := Hst.out 255
        have hdi := fun wx => divided_any (ladQ u kc 255).1.1 (ladQ u kc 255).1.2 wx hm.1.1 hm.1.2
        rw [Hend.out, Hans.out] at hdi
        clear hm
        generalize ladQ u kc 255 = st at *
        go_wp2_with ((with_reducible show wpList _ _ _ (⟨some 30, _, _, _, _, _⟩ :: _) _ _); refine wpList_loadC (by kernel_rfl) 38 (.tmp 6) rfl (gN) rfl 38 (rtC st.1.1 st.1.2) _ (hM.get 0 rfl) Try.underlying38 rfl (sizeR _ _) ?_)
        refine (hdi _).mono ?_
        rintro e w7 ⟨rfl, hb7⟩
        have hM7 := hM.call hb7
        clear hM hb7
        go_wp2_with ((with_reducible show wpList _ _ _ (⟨none, Op.store 23 _ _, _, _, _, _⟩ :: _) _ _); refine wpList_store_row rfl 23 (.tmp 4) (.tmp 31) rfl (w.heap.size + 1 + 1) (keyC ml) rfl rfl 23 _ (hM7.get 5 rfl) Hsm.out Hzm.out Hom.out ?_)
        exact bodyPost_ret (results_cell_one rfl _ _ (w.heap.size + 1 + 1) 23 _ _ rfl ((hM7.get 5 rfl).row _) Try.underlying23 rfl Hsm.out) rfl ⟨rfl, below_setRow hM7.old (by omega) _⟩

theorem PBase_any (k : List UInt8) (w : World) (hk : k.length = 32) :
    Calls Try.prog 13 #[.agg (keyC k)] w fun e w' => e = .returned (.agg (keyC (mltK k nineL))) ∧ Below w.heap.size w w' := by
  have hM0 := ((Ms.nil w).box 23 (keyC k)).box 23 #[.int .u8 0, .int .u8 0, .int .u8 0, .int .u8 0, .int .u8 0, .int .u8 0, .int .u8 0, .int .u8 0, .int .u8 0, .int .u8 0, .int .u8 0, .int .u8 0, .int .u8 0, .int .u8 0, .int .u8 0, .int .u8 0, .int .u8 0, .int .u8 0, .int .u8 0, .int .u8 0, .int .u8 0, .int .u8 0, .int .u8 0, .int .u8 0, .int .u8 0, .int .u8 0, .int .u8 0, .int .u8 0, .int .u8 0, .int .u8 0, .int .u8 0, .int .u8 0]
  simp only [World.size_alloc] at hM0
  have hm := fun wx => PMult_any k nineL wx hk rfl
  have Hsk := Lib.hid (sizeKey hk)
  have Hsm := Lib.hid (sizeKey (mltK_len k nineL))
  have Hom := Lib.hid (one_keyF (mltK k nineL))
  have Hzm := Lib.hid (show (#[.int .u8 0, .int .u8 0, .int .u8 0, .int .u8 0, .int .u8 0, .int .u8 0, .int .u8 0, .int .u8 0, .int .u8 0, .int .u8 0, .int .u8 0, .int .u8 0, .int .u8 0, .int .u8 0, .int .u8 0, .int .u8 0, .int .u8 0, .int .u8 0, .int .u8 0, .int .u8 0, .int .u8 0, .int .u8 0, .int .u8 0, .int .u8 0, .int .u8 0, .int .u8 0, .int .u8 0, .int .u8 0, .int .u8 0, .int .u8 0, .int .u8 0, .int .u8 0] : Array Value).size = (keyC (mltK k nineL)).size by rw [keyC_size, mltK_len]; rfl)
  rw [nine_lit] at hm
  generalize mltK k nineL = ml at *
  clear hk
  go_enter Try.func13, Try.ntmps13
  go_wp2_with ((with_reducible show wpList _ _ _ (⟨some 3, _, _, _, _, _⟩ :: _) _ _); refine wpList_loadC (by kernel_rfl) 23 (.tmp 1) rfl (w.heap.size) rfl 23 (keyC k) _ (hM0.get 1 rfl) Try.underlying23 rfl Hsk.out ?_)
  refine (hm _).mono ?_
  rintro e w1 ⟨rfl, hb1⟩
  have hM1 := hM0.call hb1
  clear hM0 hb1
  go_wp2_with ((with_reducible show wpList _ _ _ (⟨none, Op.store 23 _ _, _, _, _, _⟩ :: _) _ _); refine wpList_store_row rfl 23 (.tmp 2) (.tmp 5) rfl (w.heap.size + 1) (keyC ml) rfl rfl 23 _ (hM1.get 0 rfl) Hsm.out Hzm.out Hom.out ?_)
  exact bodyPost_ret (results_cell_one rfl _ _ (w.heap.size + 1) 23 _ _ rfl ((hM1.get 0 rfl).row _) Try.underlying23 rfl Hsm.out) rfl ⟨rfl, below_setRow hM1.old (by omega) _⟩

theorem pm_all : PM := fun k l w hk hl => PMult_any k l w hk hl
theorem pc_all : PC := fun k w hk => PClamp_any k w hk
theorem pb_all : PB := fun k w hk => PBase_any k w hk
theorem walk_CurveMults (k u : List UInt8) (w : World) (hk : k.length = 32) (hu : u.length = 32) :
    Calls Try.prog 3 #[.agg (keyC k), .agg (keyC u)] w fun e w' => e = .returned (.bool true) ∧ Below w.heap.size w w' := walkH_CurveMults pc_all pm_all k u w hk hu
theorem walk_CurveBase (k : List UInt8) (w : World) (hk : k.length = 32) :
    Calls Try.prog 4 #[.agg (keyC k)] w fun e w' => e = .returned (.bool true) ∧ Below w.heap.size w w' := walkH_CurveBase pc_all pm_all pb_all k w hk
theorem walk_CurveMeets (a b : List UInt8) (w : World) (ha : a.length = 32) (hb : b.length = 32) :
    Calls Try.prog 5 #[.agg (keyC a), .agg (keyC b)] w fun e w' => e = .returned (.bool true) ∧ Below w.heap.size w w' := walkH_CurveMeets pc_all pm_all pb_all a b w ha hb
theorem walk_CurveTurns (a b u : List UInt8) (w : World) (ha : a.length = 32) (hb : b.length = 32) (hu : u.length = 32) :
    Calls Try.prog 6 #[.agg (keyC a), .agg (keyC b), .agg (keyC u)] w fun e w' => e = .returned (.bool true) ∧ Below w.heap.size w w' := walkH_CurveTurns pc_all pm_all a b u w ha hb hu
theorem walk_CurveBits (k u : List UInt8) (w : World) (hk : k.length = 32) (hu : u.length = 32) :
    Calls Try.prog 7 #[.agg (keyC k), .agg (keyC u)] w fun e w' => e = .returned (.bool true) ∧ Below w.heap.size w w' := walkH_CurveBits pc_all pm_all k u w hk hu

end Go.Proofs.Ytimgnpcojamafaa
