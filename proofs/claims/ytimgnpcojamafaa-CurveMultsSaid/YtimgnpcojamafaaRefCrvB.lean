/-
  CONTRACTS of the document's Clamp, Mult and Base (coterieref06), in numbers.
-/
import Derived.Test.YtimgnpcojamafaaRefCrvA
set_option linter.unusedVariables false
namespace Go.Proofs.Ytimgnpcojamafaa
open Go.RowKit

/-- a number's bytes, clamped -/
def clampL (l : List UInt8) : List UInt8 := (l.set 0 (byteK l 0 / 8 * 8)).set 31 (byteK l 31 % 64 + 64)
theorem clampL_len {l : List UInt8} (h : l.length = 32) : (clampL l).length = 32 := by simp [clampL, h]
theorem u8_div8 (x : UInt8) : (x / 8 * 8).toNat = x.toNat / 8 * 8 := by
  have := x.toBitVec.isLt
  have h2 : x.toNat < 256 := this
  rw [UInt8.toNat_mul, UInt8.toNat_div]
  simp
  omega
theorem u8_mod64 (x : UInt8) : (x % 64 + 64).toNat = x.toNat % 64 + 64 := by
  rw [UInt8.toNat_add, UInt8.toNat_mod]
  simp
  omega

set_option maxRecDepth 100000 in
set_option maxHeartbeats 2000000 in
theorem RClamp_any (l : List UInt8) (w : World) (hl : l.length = 32) :
    Calls Try.prog 10 #[.agg (keyC l)] w fun e w' => e = .returned (.agg (keyC (clampL l))) ∧ Below w.heap.size w w' := by
  have hMb := (((Ms.nil w).box 23 (keyC l)).box 23 #[.int .u8 0, .int .u8 0, .int .u8 0, .int .u8 0, .int .u8 0, .int .u8 0, .int .u8 0, .int .u8 0, .int .u8 0, .int .u8 0, .int .u8 0, .int .u8 0, .int .u8 0, .int .u8 0, .int .u8 0, .int .u8 0, .int .u8 0, .int .u8 0, .int .u8 0, .int .u8 0, .int .u8 0, .int .u8 0, .int .u8 0, .int .u8 0, .int .u8 0, .int .u8 0, .int .u8 0, .int .u8 0, .int .u8 0, .int .u8 0, .int .u8 0, .int .u8 0]).swap
  simp only [World.size_alloc] at hMb
  go_enter Try.func10, Try.ntmps10
  go_upto_region 1 with (fail)
  refine wp_gen (fun wx => Ms w wx [(w.heap.size, 23, keyC l), (w.heap.size + 1, 23, #[.int .u8 0, .int .u8 0, .int .u8 0, .int .u8 0, .int .u8 0, .int .u8 0, .int .u8 0, .int .u8 0, .int .u8 0, .int .u8 0, .int .u8 0, .int .u8 0, .int .u8 0, .int .u8 0, .int .u8 0, .int .u8 0, .int .u8 0, .int .u8 0, .int .u8 0, .int .u8 0, .int .u8 0, .int .u8 0, .int .u8 0, .int .u8 0, .int .u8 0, .int .u8 0, .int .u8 0, .int .u8 0, .int .u8 0, .int .u8 0, .int .u8 0, .int .u8 0])]) hMb ?_
  clear hMb
  rintro v0 hM0
  have Hl := Lib.hid hl
  have c0 := (hM0.get 0 rfl).cell (keyC_at (byteK_at (l := l) (k := 0) (by omega)))
  have f0 := (hM0.get 0 rfl).frozen 0
  have hM1 := hM0.setCell (Nat.le_refl _) (by simp) 0 (.int .u8 ((byteK l 0 / 8 * 8).toNat : Int))
  rw [keyC_set] at hM1
  have hb31 : byteK (l.set 0 (byteK l 0 / 8 * 8)) 31 = byteK l 31 := by
    unfold byteK
    simp [List.getD]
  have c1 := (hM1.get 0 rfl).cell (keyC_at (byteK_at (l := l.set 0 (byteK l 0 / 8 * 8)) (k := 31) (by simp; omega)))
  rw [hb31] at c1
  have f1 := (hM1.get 0 rfl).frozen 31
  have hM2 := hM1.setCell (Nat.le_refl _) (by simp) 31 (.int .u8 ((byteK l 31 % 64 + 64).toNat : Int))
  rw [keyC_set, show (l.set 0 (byteK l 0 / 8 * 8)).set 31 (byteK l 31 % 64 + 64) = clampL l from rfl] at hM2
  have b0 : (byteK l 0).toNat < 256 := (byteK l 0).toBitVec.isLt
  have b1 : (byteK l 31).toNat < 256 := (byteK l 31).toBitVec.isLt
  have e0 := u8_div8 (byteK l 0)
  have e1 := u8_mod64 (byteK l 31)
  have w0 : IntKind.u8.wrap (((byteK l 0).toNat : Int) / 8) = (((byteK l 0).toNat / 8 : Nat) : Int) := by rw [IntKind.wrap_u8]; omega
  have w0' : ((byteK l 0).toNat : Int) / 8 = (((byteK l 0).toNat / 8 : Nat) : Int) := by omega
  have w1 : IntKind.u8.wrap ((((byteK l 0).toNat / 8 : Nat) : Int) * 8) = ((byteK l 0 / 8 * 8).toNat : Int) := by rw [IntKind.wrap_u8, e0]; omega
  have w2 : ((byteK l 31).toNat : Int) % 64 = (((byteK l 31).toNat % 64 : Nat) : Int) := by omega
  have w2' : Int.tmod ((byteK l 31).toNat : Int) 64 = (((byteK l 31).toNat % 64 : Nat) : Int) := by rw [Int.tmod_eq_emod_of_nonneg (by omega)]; exact w2
  have w3 : IntKind.u8.wrap ((((byteK l 31).toNat % 64 : Nat) : Int) + 64) = ((byteK l 31 % 64 + 64).toNat : Int) := by rw [IntKind.wrap_u8, e1]; omega
  have w4 : IntKind.u8.wrap (((byteK l 0).toNat / 8 : Nat) : Int) = (((byteK l 0).toNat / 8 : Nat) : Int) := by rw [IntKind.wrap_u8]; omega
  have hs := Lib.hid (sizeKey (clampL_len hl))
  have ho := Lib.hid (one_keyF (clampL l))
  have hz := Lib.hid (show (#[.int .u8 0, .int .u8 0, .int .u8 0, .int .u8 0, .int .u8 0, .int .u8 0, .int .u8 0, .int .u8 0, .int .u8 0, .int .u8 0, .int .u8 0, .int .u8 0, .int .u8 0, .int .u8 0, .int .u8 0, .int .u8 0, .int .u8 0, .int .u8 0, .int .u8 0, .int .u8 0, .int .u8 0, .int .u8 0, .int .u8 0, .int .u8 0, .int .u8 0, .int .u8 0, .int .u8 0, .int .u8 0, .int .u8 0, .int .u8 0, .int .u8 0, .int .u8 0] : Array Value).size = (keyC (clampL l)).size by rw [keyC_size, clampL_len hl]; rfl)
  clear hM0 hM1 hb31 b0 b1 e0 e1 hl
  generalize hcc : keyC (clampL l) = cc at *
  have Hcc := Lib.hid hcc
  clear hcc
  generalize ((byteK l 31 % 64 + 64).toNat : Int) = y1 at *
  generalize ((byteK l 0 / 8 * 8).toNat : Int) = y0 at *
  generalize (byteK l 0).toNat / 8 = z0 at *
  generalize (byteK l 31).toNat % 64 = z1 at *
  generalize (byteK l 0).toNat = x0 at *
  generalize (byteK l 31).toNat = x1 at *
  go_wp2_with (first
    | ((with_reducible show wpList _ _ _ (⟨some 13, _, _, _, _, _⟩ :: _) _ _); refine wpList_loadC (by kernel_rfl) 23 (.tmp 1) rfl (w.heap.size) rfl 23 cc _ (hM2.get 0 rfl) Try.underlying23 rfl hs.out ?_)
    | ((with_reducible show wpList _ _ _ (⟨none, Op.store 23 _ _, _, _, _, _⟩ :: _) _ _); refine wpList_store_row rfl 23 (.tmp 2) (.tmp 13) rfl (w.heap.size + 1) cc rfl rfl 23 _ (hM2.get 1 rfl) hs.out hz.out ho.out ?_))
  exact bodyPost_ret (results_cell_one rfl _ _ (w.heap.size + 1) 23 cc _ rfl ((hM2.get 1 rfl).row cc) Try.underlying23 rfl hs.out) rfl ⟨by rw [Hcc.out], below_setRow hM2.old (by omega) _⟩

/-- the ladder in numbers -/
def bitK (l : List UInt8) (i : Nat) : Bool := (byteK l (i / 8)).toNat / 2 ^ (i % 8) % 2 == 1
def ladNS (u : Nat) (st : (Nat × Nat) × (Nat × Nat)) (b : Bool) : (Nat × Nat) × (Nat × Nat) :=
  if b then (difN u st.2.1 st.2.2 st.1.1 st.1.2, dblN st.2.1 st.2.2) else (dblN st.1.1 st.1.2, difN u st.1.1 st.1.2 st.2.1 st.2.2)
def ladN (u : Nat) (l : List UInt8) : Nat → (Nat × Nat) × (Nat × Nat)
  | 0 => ((1, 0), (u, 1))
  | j + 1 => ladNS u (ladN u l j) (bitK l (254 - j))
def Low4 (st : (Nat × Nat) × (Nat × Nat)) : Prop := st.1.1 < P25 ∧ st.1.2 < P25 ∧ st.2.1 < P25 ∧ st.2.2 < P25
theorem dblN_low (x z : Nat) : (dblN x z).1 < P25 ∧ (dblN x z).2 < P25 := ⟨mlN_lt _ _, mlN_lt _ _⟩
theorem difN_low (u x z y t : Nat) : (difN u x z y t).1 < P25 ∧ (difN u x z y t).2 < P25 := ⟨mlN_lt _ _, mlN_lt _ _⟩
theorem P25_gt1 : 1 < P25 := by decide +kernel
theorem P25_gt0 : 0 < P25 := by decide +kernel
theorem ladN_low {u : Nat} (hu : u < P25) (l : List UInt8) : ∀ j, Low4 (ladN u l j)
  | 0 => ⟨P25_gt1, P25_gt0, hu, P25_gt1⟩
  | j + 1 => by
    rw [ladN, ladNS]
    split
    · exact ⟨(difN_low _ _ _ _ _).1, (difN_low _ _ _ _ _).2, (dblN_low _ _).1, (dblN_low _ _).2⟩
    · exact ⟨(dblN_low _ _).1, (dblN_low _ _).2, (difN_low _ _ _ _ _).1, (difN_low _ _ _ _ _).2⟩
/-- the product -/
def mltN (l : List UInt8) (u : Nat) : Nat := mlN (ladN u l 255).1.1 (invN (ladN u l 255).1.2 255)

theorem FromKeyV (l : List UInt8) (w : World) (hl : l.length = 32) : Calls Try.prog 25 #[.agg (keyC l)] w fun e w' => e = .returned (.agg (numV (keyV l % 57896044618658097711785492504343953926634992332820282019728792003956564819968 % P25)).toArray) ∧ Below w.heap.size w w' := by
  have := FromKey_any l w hl
  simp only [numC_V] at this
  exact this
theorem InvertV (v : Nat) (w : World) (hv : v < P25) : Calls Try.prog 30 #[.agg (numV v).toArray] w fun e w' => e = .returned (.agg (numV (invN v 255)).toArray) ∧ Below w.heap.size w w' := by
  have := InvertN_any v w hv
  simp only [numC_V] at this
  exact this
theorem BytesV (v : Nat) (w : World) : Calls Try.prog 28 #[.agg (numV v).toArray] w fun e w' => e = .returned (.agg (keyC (keyB v))) ∧ Below w.heap.size w w' := by
  have := BytesN_any v w
  simp only [numC_V] at this
  exact this
theorem Ms.sub {w0 w : World} {L L' : List (Nat × TypeId × Array Value)} (h : Ms w0 w L) (hs : ∀ p ∈ L', p ∈ L) : Ms w0 w L' := ⟨h.old, fun p hp => h.rows p (hs p hp)⟩
theorem Ms.set2 {w0 w : World} {g g' : Nat} {t t' : TypeId} {cs cs' ds ds' : Array Value} {L : List (Nat × TypeId × Array Value)} (h : Ms w0 w ((g, t, cs) :: (g', t', cs') :: L)) (hg : w0.heap.size ≤ g) (hg' : w0.heap.size ≤ g') (hgg : g ≠ g')
    (hne : ∀ p ∈ L, p.1 ≠ g) (hne' : ∀ p ∈ L, p.1 ≠ g') : Ms w0 ((w.setRow g ds).setRow g' ds') ((g, t, ds) :: (g', t', ds') :: L) :=
  (Ms.set (Ms.swap (Ms.set h hg (fun p hp => by
    rcases List.mem_cons.1 hp with rfl | hp
    · exact Ne.symm hgg
    · exact hne p hp) ds)) hg' (fun p hp => by
    rcases List.mem_cons.1 hp with rfl | hp
    · exact hgg
    · exact hne' p hp) ds').swap
theorem wpList_buildP {P : Program} {ops : Array Oper} {rest : List Oper} {o : Oper} {a : Act} {w : World} {Q : Exit → Act → World → Prop} (hg : o.guard = none) (t : TypeId) (parts : Array (Nat × Operand)) (ho : o.op = .build t parts)
    (vals : Array (Nat × Value)) (hv : (parts.map fun (i, x) => (i, a.eval x)) = vals) (cells : Array Value) (hf : (Instr.build t vals).run P w = .ok (.agg cells) w)
    (h : wpList P ops Q rest (a.put o.dst (.agg cells)) w) : wpList P ops Q (o :: rest) a w := by
  subst hv
  refine wpList_plain hg fun _ hK => ?_
  unfold Oper.wp execOp
  simp only [ho, Sem.run_bind, hf, Result.andThen_ok, Sem.run_pure]
  exact hK _ _ h
theorem lit_1 : (numV 1).toArray = #[.int .u64 1, .int .u64 0, .int .u64 0, .int .u64 0, .int .u64 0, .int .u64 0, .int .u64 0, .int .u64 0, .int .u64 0, .int .u64 0, .int .u64 0, .int .u64 0, .int .u64 0, .int .u64 0, .int .u64 0, .int .u64 0] := by kernel_rfl
theorem lit_key : keyC (keyB 0) = #[.int .u8 0, .int .u8 0, .int .u8 0, .int .u8 0, .int .u8 0, .int .u8 0, .int .u8 0, .int .u8 0, .int .u8 0, .int .u8 0, .int .u8 0, .int .u8 0, .int .u8 0, .int .u8 0, .int .u8 0, .int .u8 0, .int .u8 0, .int .u8 0, .int .u8 0, .int .u8 0, .int .u8 0, .int .u8 0, .int .u8 0, .int .u8 0, .int .u8 0, .int .u8 0, .int .u8 0, .int .u8 0, .int .u8 0, .int .u8 0, .int .u8 0, .int .u8 0] := keyZ

set_option maxRecDepth 1000000 in
set_option maxHeartbeats 8000000 in
theorem RMult_any (k l : List UInt8) (w : World) (hk : k.length = 32) (hl : l.length = 32) :
    Calls Try.prog 12 #[.agg (keyC k), .agg (keyC l)] w fun e w' => e = .returned (.agg (keyC (keyB (mltN (clampL k) (keyV l % 57896044618658097711785492504343953926634992332820282019728792003956564819968 % P25))))) ∧ Below w.heap.size w w' := by
  have hM0 := (((((Ms.nil w).box 23 (keyC k)).box 23 (keyC l)).box 23 #[.int .u8 0, .int .u8 0, .int .u8 0, .int .u8 0, .int .u8 0, .int .u8 0, .int .u8 0, .int .u8 0, .int .u8 0, .int .u8 0, .int .u8 0, .int .u8 0, .int .u8 0, .int .u8 0, .int .u8 0, .int .u8 0, .int .u8 0, .int .u8 0, .int .u8 0, .int .u8 0, .int .u8 0, .int .u8 0, .int .u8 0, .int .u8 0, .int .u8 0, .int .u8 0, .int .u8 0, .int .u8 0, .int .u8 0, .int .u8 0, .int .u8 0, .int .u8 0])).sub (L' := [(w.heap.size, 23, keyC k), (w.heap.size + 1, 23, keyC l), (w.heap.size + 1 + 1, 23, #[.int .u8 0, .int .u8 0, .int .u8 0, .int .u8 0, .int .u8 0, .int .u8 0, .int .u8 0, .int .u8 0, .int .u8 0, .int .u8 0, .int .u8 0, .int .u8 0, .int .u8 0, .int .u8 0, .int .u8 0, .int .u8 0, .int .u8 0, .int .u8 0, .int .u8 0, .int .u8 0, .int .u8 0, .int .u8 0, .int .u8 0, .int .u8 0, .int .u8 0, .int .u8 0, .int .u8 0, .int .u8 0, .int .u8 0, .int .u8 0, .int .u8 0, .int .u8 0])]) (by simp only [World.size_alloc]; intro p hp; simp only [List.mem_cons, List.not_mem_nil, or_false] at hp ⊢; rcases hp with h | h | h <;> simp [h])
  have Hsk := Lib.hid (sizeKey hk)
  have Hsl := Lib.hid (sizeKey hl)
  have Hsc := Lib.hid (sizeKey (clampL_len hk))
  have Hoc := Lib.hid (one_keyF (clampL k))
  have Hcl := Lib.hid (clampL_len hk)
  have Hzc := Lib.hid (show (keyC k).size = (keyC (clampL k)).size by rw [keyC_size, keyC_size, hk, clampL_len hk])
  have hcl := fun wx => RClamp_any k wx hk
  have hfk := fun wx => FromKeyV l wx hl
  have Hu := Lib.hid (P25_lt (keyV l % 57896044618658097711785492504343953926634992332820282019728792003956564819968))
  generalize keyV l % 57896044618658097711785492504343953926634992332820282019728792003956564819968 % P25 = u at *
  generalize clampL k = kc at *
  clear hk hl
  go_enter Try.func12, Try.ntmps12
  go_wp2_with ((with_reducible show wpList _ _ _ (⟨some 10, _, _, _, _, _⟩ :: _) _ _); refine wpList_loadC (by kernel_rfl) 23 (.tmp 2) rfl (w.heap.size) rfl 23 (keyC k) _ (hM0.get 0 rfl) Try.underlying23 rfl Hsk.out ?_)
  refine (hcl _).mono ?_
  rintro e w1 ⟨rfl, hb1⟩
  have hM1 := hM0.call hb1
  have hM2 := Ms.set hM1 (Nat.le_refl _) (by simp only [List.mem_cons, List.not_mem_nil, or_false]; rintro p (rfl | rfl) <;> (show _ ≠ _; simp only [ne_eq]; omega)) (keyC kc)
  clear hM0 hb1 hcl
  have hrk := hM1.get 0 rfl
  clear hM1
  go_wp2_with (first
    | ((with_reducible show wpList _ _ _ (⟨none, Op.store 23 _ _, _, _, _, _⟩ :: _) _ _); refine wpList_store_row rfl 23 (.tmp 2) (.tmp 11) rfl (w.heap.size) (keyC kc) rfl rfl 23 _ (hrk) Hsc.out Hzc.out Hoc.out ?_)
    | ((with_reducible show wpList _ _ _ (⟨some 12, _, _, _, _, _⟩ :: _) _ _); refine wpList_loadC (by kernel_rfl) 23 (.tmp 3) rfl (w.heap.size + 1) rfl 23 (keyC l) _ (hM2.get 1 rfl) Try.underlying23 rfl Hsl.out ?_))
  refine (hfk _).mono ?_
  rintro e w2 ⟨rfl, hb2⟩
  have hM3 := (hM2.call hb2).put 47 #[.int .u64 0, .int .u64 0, .int .u64 0, .int .u64 0, .int .u64 0, .int .u64 0, .int .u64 0, .int .u64 0, .int .u64 0, .int .u64 0, .int .u64 0, .int .u64 0, .int .u64 0, .int .u64 0, .int .u64 0, .int .u64 0] (numV u).toArray
  have hgu := (hM2.call hb2).old.size
  have hlt2 := ((hM2.call hb2).get 2 rfl).lt
  clear hM2 hb2 hfk hrk
  go_upto_region 3 with ((with_reducible show wpList _ _ _ (⟨none, Op.store 47 _ _, _, _, _, _⟩ :: _) _ _); refine wpList_store_row rfl 47 (.tmp 5) (.tmp 13) rfl (w2.heap.size) (numV u).toArray rfl rfl 47 _ (RowC.new _ _ _) (sizeVA _) (zeroV _) (oneV _) ?_)
  refine wp_gen (fun wx => Ms w wx [(w2.heap.size, 47, (numV u).toArray), (w.heap.size, 23, keyC kc), (w.heap.size + 1, 23, keyC l), (w.heap.size + 1 + 1, 23, #[.int .u8 0, .int .u8 0, .int .u8 0, .int .u8 0, .int .u8 0, .int .u8 0, .int .u8 0, .int .u8 0, .int .u8 0, .int .u8 0, .int .u8 0, .int .u8 0, .int .u8 0, .int .u8 0, .int .u8 0, .int .u8 0, .int .u8 0, .int .u8 0, .int .u8 0, .int .u8 0, .int .u8 0, .int .u8 0, .int .u8 0, .int .u8 0, .int .u8 0, .int .u8 0, .int .u8 0, .int .u8 0, .int .u8 0, .int .u8 0, .int .u8 0, .int .u8 0])] ∧ wx.heap.size = w2.heap.size + 1) ⟨hM3, by simp [World.setRow]⟩ ?_
  clear hM3
  rintro v3 ⟨hM3, hs3⟩
  generalize w2.heap.size = gX at *
  have hM4 := hM3.box 47 #[.int .u64 1, .int .u64 0, .int .u64 0, .int .u64 0, .int .u64 0, .int .u64 0, .int .u64 0, .int .u64 0, .int .u64 0, .int .u64 0, .int .u64 0, .int .u64 0, .int .u64 0, .int .u64 0, .int .u64 0, .int .u64 0]
  rw [hs3] at hM4
  go_upto_region 4 with (fail)
  rw [← lit_1] at hM4
  rw [← lit_1]
  refine wp_gen (fun wx => Ms w wx [(gX + 1, 47, (numV 1).toArray), (gX, 47, (numV u).toArray), (w.heap.size, 23, keyC kc), (w.heap.size + 1, 23, keyC l), (w.heap.size + 1 + 1, 23, #[.int .u8 0, .int .u8 0, .int .u8 0, .int .u8 0, .int .u8 0, .int .u8 0, .int .u8 0, .int .u8 0, .int .u8 0, .int .u8 0, .int .u8 0, .int .u8 0, .int .u8 0, .int .u8 0, .int .u8 0, .int .u8 0, .int .u8 0, .int .u8 0, .int .u8 0, .int .u8 0, .int .u8 0, .int .u8 0, .int .u8 0, .int .u8 0, .int .u8 0, .int .u8 0, .int .u8 0, .int .u8 0, .int .u8 0, .int .u8 0, .int .u8 0, .int .u8 0])] ∧ wx.heap.size = gX + 1 + 1) ⟨hM4, by simp [hs3]⟩ ?_
  clear hM3 hs3 hM4
  rintro v4 ⟨hM4, hs4⟩
  have Hs4 := Lib.hid hs4
  clear hs4
  have hM5 := hM4.put 50 #[.int .u64 0, .int .u64 0, .int .u64 0, .int .u64 0, .int .u64 0, .int .u64 0, .int .u64 0, .int .u64 0, .int .u64 0, .int .u64 0, .int .u64 0, .int .u64 0, .int .u64 0, .int .u64 0, .int .u64 0, .int .u64 0, .int .u64 0, .int .u64 0, .int .u64 0, .int .u64 0, .int .u64 0, .int .u64 0, .int .u64 0, .int .u64 0, .int .u64 0, .int .u64 0, .int .u64 0, .int .u64 0, .int .u64 0, .int .u64 0, .int .u64 0, .int .u64 0] (pairV 1 0).toArray
  go_upto_region 5 with (first
    | ((with_reducible show wpList _ _ _ (⟨some 15, _, _, _, _, _⟩ :: _) _ _); refine wpList_loadC (by kernel_rfl) 47 (.tmp 6) rfl (gX + 1) rfl 47 (numV 1).toArray _ (hM4.get 0 rfl) Try.underlying47 rfl (sizeVA _) ?_)
    | ((with_reducible show wpList _ _ _ (⟨some 16, _, _, _, _, _⟩ :: _) _ _); refine wpList_buildP rfl 50 #[(0, .tmp 15)] rfl #[(0, .agg (numV 1).toArray)] (by kernel_rfl) (pairV 1 0).toArray (build_pair1 _ _) ?_)
    | ((with_reducible show wpList _ _ _ (⟨none, Op.store 50 _ _, _, _, _, _⟩ :: _) _ _); refine wpList_store_row rfl 50 (.tmp 7) (.tmp 16) rfl (v4.heap.size) (pairV 1 0).toArray rfl rfl 50 _ (RowC.new _ _ _) (sizePA _ _) (zeroP _ _) (oneP _ _) ?_))
  rw [Hs4.out] at hM5 ⊢
  refine wp_gen (fun wx => Ms w wx [(gX + 1 + 1, 50, (pairV 1 0).toArray), (gX + 1, 47, (numV 1).toArray), (gX, 47, (numV u).toArray), (w.heap.size, 23, keyC kc), (w.heap.size + 1, 23, keyC l), (w.heap.size + 1 + 1, 23, #[.int .u8 0, .int .u8 0, .int .u8 0, .int .u8 0, .int .u8 0, .int .u8 0, .int .u8 0, .int .u8 0, .int .u8 0, .int .u8 0, .int .u8 0, .int .u8 0, .int .u8 0, .int .u8 0, .int .u8 0, .int .u8 0, .int .u8 0, .int .u8 0, .int .u8 0, .int .u8 0, .int .u8 0, .int .u8 0, .int .u8 0, .int .u8 0, .int .u8 0, .int .u8 0, .int .u8 0, .int .u8 0, .int .u8 0, .int .u8 0, .int .u8 0, .int .u8 0])] ∧ wx.heap.size = gX + 1 + 1 + 1) ⟨hM5, by simp [World.setRow, Hs4.out]⟩ ?_
  clear hM4 Hs4 hM5
  rintro v5 ⟨hM5, hs5⟩
  have Hs5 := Lib.hid hs5
  clear hs5
  have hM6 := hM5.put 50 #[.int .u64 0, .int .u64 0, .int .u64 0, .int .u64 0, .int .u64 0, .int .u64 0, .int .u64 0, .int .u64 0, .int .u64 0, .int .u64 0, .int .u64 0, .int .u64 0, .int .u64 0, .int .u64 0, .int .u64 0, .int .u64 0, .int .u64 0, .int .u64 0, .int .u64 0, .int .u64 0, .int .u64 0, .int .u64 0, .int .u64 0, .int .u64 0, .int .u64 0, .int .u64 0, .int .u64 0, .int .u64 0, .int .u64 0, .int .u64 0, .int .u64 0, .int .u64 0] (pairV u 1).toArray
  go_upto_region 6 with (first
    | ((with_reducible show wpList _ _ _ (⟨some 17, _, _, _, _, _⟩ :: _) _ _); refine wpList_loadC (by kernel_rfl) 47 (.tmp 5) rfl (gX) rfl 47 (numV u).toArray _ (hM5.get 2 rfl) Try.underlying47 rfl (sizeVA _) ?_)
    | ((with_reducible show wpList _ _ _ (⟨some 18, _, _, _, _, _⟩ :: _) _ _); refine wpList_loadC (by kernel_rfl) 47 (.tmp 6) rfl (gX + 1) rfl 47 (numV 1).toArray _ (hM5.get 1 rfl) Try.underlying47 rfl (sizeVA _) ?_)
    | ((with_reducible show wpList _ _ _ (⟨some 19, _, _, _, _, _⟩ :: _) _ _); refine wpList_buildP rfl 50 #[(0, .tmp 17), (1, .tmp 18)] rfl #[(0, .agg (numV u).toArray), (1, .agg (numV 1).toArray)] (by kernel_rfl) (pairV u 1).toArray (build_pair _ _ _) ?_)
    | ((with_reducible show wpList _ _ _ (⟨none, Op.store 50 _ _, _, _, _, _⟩ :: _) _ _); refine wpList_store_row rfl 50 (.tmp 8) (.tmp 19) rfl (v5.heap.size) (pairV u 1).toArray rfl rfl 50 _ (RowC.new _ _ _) (sizePA _ _) (zeroP _ _) (oneP _ _) ?_))
  rw [Hs5.out] at hM6 ⊢
  refine wp_gen (fun wx => Ms w wx [(gX + 1 + 1, 50, (pairV 1 0).toArray), (gX + 1 + 1 + 1, 50, (pairV u 1).toArray), (gX + 1, 47, (numV 1).toArray), (gX, 47, (numV u).toArray), (w.heap.size, 23, keyC kc), (w.heap.size + 1, 23, keyC l), (w.heap.size + 1 + 1, 23, #[.int .u8 0, .int .u8 0, .int .u8 0, .int .u8 0, .int .u8 0, .int .u8 0, .int .u8 0, .int .u8 0, .int .u8 0, .int .u8 0, .int .u8 0, .int .u8 0, .int .u8 0, .int .u8 0, .int .u8 0, .int .u8 0, .int .u8 0, .int .u8 0, .int .u8 0, .int .u8 0, .int .u8 0, .int .u8 0, .int .u8 0, .int .u8 0, .int .u8 0, .int .u8 0, .int .u8 0, .int .u8 0, .int .u8 0, .int .u8 0, .int .u8 0, .int .u8 0])]) (Ms.sub hM6 (by intro p hp; simp only [List.mem_cons, List.not_mem_nil, or_false] at hp ⊢; rcases hp with h | h | h | h | h | h | h <;> simp [h])) ?_
  clear hM5 Hs5 hM6
  rintro v6 hM6
  have Hlow := Lib.hid (ladN_low Hu.out kc)
  have Hg1 := Lib.hid hgu
  have Hg2 := Lib.hid hlt2
  clear hgu hlt2
  go_wp2_with fail
  go_loopw [9] (fun i wr => ∃ j : Nat, j ≤ 255 ∧ i = .int .i64 (254 - (j : Int)) ∧ Ms w wr [(gX + 1 + 1, 50, (pairV (ladN u kc j).1.1 (ladN u kc j).1.2).toArray), (gX + 1 + 1 + 1, 50, (pairV (ladN u kc j).2.1 (ladN u kc j).2.2).toArray), (gX + 1, 47, (numV 1).toArray), (gX, 47, (numV u).toArray), (w.heap.size, 23, keyC kc), (w.heap.size + 1, 23, keyC l), (w.heap.size + 1 + 1, 23, #[.int .u8 0, .int .u8 0, .int .u8 0, .int .u8 0, .int .u8 0, .int .u8 0, .int .u8 0, .int .u8 0, .int .u8 0, .int .u8 0, .int .u8 0, .int .u8 0, .int .u8 0, .int .u8 0, .int .u8 0, .int .u8 0, .int .u8 0, .int .u8 0, .int .u8 0, .int .u8 0, .int .u8 0, .int .u8 0, .int .u8 0, .int .u8 0, .int .u8 0, .int .u8 0, .int .u8 0, .int .u8 0, .int .u8 0, .int .u8 0, .int .u8 0, .int .u8 0])]) (fun i _ => (intOf i + 1).toNat)
  case atStart => exact ⟨0, by omega, rfl, hM6⟩
  case round =>
    clear hM6
    obtain ⟨j, hj, rfl, hM⟩ := hrel
    have hlo := Hlow.out j
    by_cases hlt : j < 255
    · have Hst := Lib.hid (show ladN u kc (j + 1) = ladNS u (ladN u kc j) (bitK kc (254 - j)) from rfl)
      generalize ladN u kc j = st at *
      obtain ⟨⟨X, Z⟩, ⟨Y, T⟩⟩ := st
      obtain ⟨hX, hZ, hY, hT⟩ := hlo
      simp only at hX hZ hY hT hM
      obtain ⟨n, hn⟩ : ∃ n, n = 254 - j := ⟨_, rfl⟩
      rw [← hn] at Hst
      rw [show (254 : Int) - (j : Int) = (n : Int) by omega]
      have Hnext := Lib.hid (show (n : Int) - 1 = 254 - ((j + 1 : Nat) : Int) by omega)
      have Hj := Lib.hid hlt
      have hn254 : n ≤ 254 := by omega
      have hcell := (hM.get 4 rfl).cell (keyC_at (byteK_at (l := kc) (k := n / 8) (by rw [Hcl.out]; omega)))
      have hb : (byteK kc (n / 8)).toNat < 256 := (byteK kc (n / 8)).toBitVec.isLt
      have hbit : bitK kc n = ((byteK kc (n / 8)).toNat / 2 ^ (n % 8) % 2 == 1) := rfl
      have d8 : (n : Int) / 8 = ((n / 8 : Nat) : Int) := by omega
      have d8' : Int.tdiv (n : Int) 8 = ((n / 8 : Nat) : Int) := by rw [Int.tdiv_eq_ediv_of_nonneg (by omega)]; exact d8
      have m8 : (n : Int) % 8 = ((n % 8 : Nat) : Int) := by omega
      have m8' : Int.tmod (n : Int) 8 = ((n % 8 : Nat) : Int) := by rw [Int.tmod_eq_emod_of_nonneg (by omega)]; exact m8
      have w8 : IntKind.i64.wrap ((n / 8 : Nat) : Int) = ((n / 8 : Nat) : Int) := by rw [IntKind.wrap_i64]; omega
      have wn : IntKind.i64.wrap ((n : Int) - 1) = (n : Int) - 1 := by rw [IntKind.wrap_i64]; omega
      have j0 : 0 ≤ ((n / 8 : Nat) : Int) := by omega
      have j1 : ((n / 8 : Nat) : Int) < 32 := by omega
      have j2 : 0 ≤ (n : Int) := by omega
      have j3 : 0 ≤ ((n % 8 : Nat) : Int) := by omega
      have hsh : ((byteK kc (n / 8)).toNat : Int) / 2 ^ (n % 8) = (((byteK kc (n / 8)).toNat / 2 ^ (n % 8) : Nat) : Int) := by simp
      have hbb : (byteK kc (n / 8)).toNat / 2 ^ (n % 8) % 2 = 0 ∨ (byteK kc (n / 8)).toNat / 2 ^ (n % 8) % 2 = 1 := by omega
      have huN := Try.underlying47
      have huP := Try.underlying50
      have hkeep : ∀ wx : World, Below wr.heap.size wr wx → wx.rangeAt gX 0 (numV u) ∧ wx.rangeAt (gX + 1 + 1) 0 (pairV X Z) ∧ wx.rangeAt (gX + 1 + 1 + 1) 0 (pairV Y T) := fun wx hb =>
        ⟨((hM.get 3 rfl).call hb).range, ((hM.get 0 rfl).call hb).range, ((hM.get 1 rfl).call hb).range⟩
      clear hn hlt hn254 hb
      rcases hbb with h0 | h1
      · have hb0 : bitK kc n = false := by rw [hbit, h0]; rfl
        rw [hb0, show ladNS u ((X, Z), (Y, T)) false = (dblN X Z, difN u X Z Y T) from rfl] at Hst
        have hr0 : (((byteK kc (n / 8)).toNat / 2 ^ (n % 8) : Nat) : Int) % 2 = 0 := by omega
        have hr0' : Int.tmod (((byteK kc (n / 8)).toNat / 2 ^ (n % 8) : Nat) : Int) 2 = 0 := by rw [Int.tmod_eq_emod_of_nonneg (Int.natCast_nonneg _)]; exact hr0
        clear hbit h0 hb0
        generalize (byteK kc (n / 8)).toNat / 2 ^ (n % 8) = y at *
        generalize (byteK kc (n / 8)).toNat = x at *
        generalize n / 8 = q at *
        generalize n % 8 = r at *
        go_wp2_with fail
        refine beginU (fun wx => wx.rangeAt gX 0 (numV u) ∧ wx.rangeAt (gX + 1 + 1) 0 (pairV X Z) ∧ wx.rangeAt (gX + 1 + 1 + 1) 0 (pairV Y T)) [6, 7] (by kernel_rfl) ?_
        have hS := hkeep _ (c_drew (c_refl _))
        refine loadU 0 (some 39) 50 (.tmp 7) (gX + 1 + 1) 0 (pairV X Z) rfl rfl (by kernel_rfl) (by kernel_rfl) (by kernel_rfl) (by kernel_rfl) (by kernel_rfl) rfl (by kernel_rfl) rfl (fun wx hSw => hSw.2.1) huP rfl (sizeP _ _) (fun _ _ _ h => h) hS ?_
        simp only [Act.put, List.setIfInBounds_toArray, List.set_cons_zero, List.set_cons_succ]
        refine loadU 2 (some 41) 47 (.tmp 5) (gX) 0 (numV u) rfl rfl (by kernel_rfl) (by kernel_rfl) (by kernel_rfl) (by kernel_rfl) (by kernel_rfl) rfl (by kernel_rfl) rfl (fun wx hSw => hSw.1) huN rfl (sizeV _) (fun _ _ _ h => h) hS ?_
        simp only [Act.put, List.setIfInBounds_toArray, List.set_cons_zero, List.set_cons_succ]
        refine loadU 3 (some 42) 50 (.tmp 7) (gX + 1 + 1) 0 (pairV X Z) rfl rfl (by kernel_rfl) (by kernel_rfl) (by kernel_rfl) (by kernel_rfl) (by kernel_rfl) rfl (by kernel_rfl) rfl (fun wx hSw => hSw.2.1) huP rfl (sizeP _ _) (fun _ _ _ h => h) hS ?_
        simp only [Act.put, List.setIfInBounds_toArray, List.set_cons_zero, List.set_cons_succ]
        refine loadU 4 (some 43) 50 (.tmp 8) (gX + 1 + 1 + 1) 0 (pairV Y T) rfl rfl (by kernel_rfl) (by kernel_rfl) (by kernel_rfl) (by kernel_rfl) (by kernel_rfl) rfl (by kernel_rfl) rfl (fun wx hSw => hSw.2.2) huP rfl (sizeP _ _) (fun _ _ _ h => h) hS ?_
        simp only [Act.put, List.setIfInBounds_toArray, List.set_cons_zero, List.set_cons_succ]
        refine oneU 1 (by kernel_rfl) rfl (fun K hK => ?_)
        go_simp
        refine (Rdouble_any X Z _ hX hZ).mono ?_
        rintro e x1 ⟨rfl, hx1⟩
        refine hK.out _ _ (fun _ => hkeep _ (by (repeat (first | exact c_refl _ | refine c_drew ?_ | refine c_alloc ?_ _ | refine c_row ?_ (by first | omega | exact Nat.le_refl _) _ | refine c_call ?_ (by assumption))); first | done | fail "open")) ?_
        clear hK K
        refine oneU 5 (by kernel_rfl) rfl (fun K hK => ?_)
        go_simp
        refine (Radd_any u X Z Y T _ Hu.out hX hZ hY hT).mono ?_
        rintro e x2 ⟨rfl, hx2⟩
        refine hK.out _ _ (fun _ => hkeep _ (by (repeat (first | exact c_refl _ | refine c_drew ?_ | refine c_alloc ?_ _ | refine c_row ?_ (by first | omega | exact Nat.le_refl _) _ | refine c_call ?_ (by assumption))); first | done | fail "open")) ?_
        clear hK K
        have hE : Below wr.heap.size wr x2 := (by (repeat (first | exact c_refl _ | refine c_drew ?_ | refine c_alloc ?_ _ | refine c_row ?_ (by first | omega | exact Nat.le_refl _) _ | refine c_call ?_ (by assumption))); first | done | fail "open")
        have hM9 := hM.call hE
        refine oneU 6 (by kernel_rfl) rfl (fun K hK => ?_)
        refine step_store_row rfl 50 (.tmp 7) (.tmp 40) rfl (gX + 1 + 1) (pairV (dblN X Z).1 (dblN X Z).2).toArray rfl rfl 50 _ (hM9.get 0 rfl) (sizePA _ _) (sameP _ _ _ _) (oneP _ _) ?_
        refine hK.out _ _ (fun h => absurd (show 6 ∈ [6, 7] by decide) h) ?_
        clear hK K
        refine oneU 7 (by kernel_rfl) rfl (fun K hK => ?_)
        refine step_store_row rfl 50 (.tmp 8) (.tmp 44) rfl (gX + 1 + 1 + 1) (pairV (difN u X Z Y T).1 (difN u X Z Y T).2).toArray rfl rfl 50 _ ((hM9.get 1 rfl).rowFar (by omega) _) (sizePA _ _) (sameP _ _ _ _) (oneP _ _) ?_
        refine hK.out _ _ (fun h => absurd (show 7 ∈ [6, 7] by decide) h) ?_
        clear hK K
        refine done2U (by kernel_rfl) ?_ _
        have hM10 := Ms.set2 (ds := (pairV (dblN X Z).1 (dblN X Z).2).toArray) (ds' := (pairV (difN u X Z Y T).1 (difN u X Z Y T).2).toArray) hM9 (by have h1 := Hg1.out; omega) (by have h1 := Hg1.out; omega) (by omega) (by have h1 := Hg1.out; have h2 := Hg2.out; simp only [List.mem_cons, List.not_mem_nil, or_false]; rintro p (rfl | rfl | rfl | rfl | rfl) <;> (show _ ≠ _; simp only [ne_eq]; omega)) (by have h1 := Hg1.out; have h2 := Hg2.out; simp only [List.mem_cons, List.not_mem_nil, or_false]; rintro p (rfl | rfl | rfl | rfl | rfl) <;> (show _ ≠ _; simp only [ne_eq]; omega))
        clear hM hM9 hkeep hS hE hx1 hx2
        go_wp2_with fail
        exact ⟨⟨j + 1, Hj.out, by rw [Hnext.out], by rw [Hst.out]; exact hM10⟩, by have := Hj.out; simp [intOf]⟩
      · have hb1 : bitK kc n = true := by rw [hbit, h1]; rfl
        rw [hb1, show ladNS u ((X, Z), (Y, T)) true = (difN u Y T X Z, dblN Y T) from rfl] at Hst
        have hr0 : (((byteK kc (n / 8)).toNat / 2 ^ (n % 8) : Nat) : Int) % 2 = 1 := by omega
        have hr0' : Int.tmod (((byteK kc (n / 8)).toNat / 2 ^ (n % 8) : Nat) : Int) 2 = 1 := by rw [Int.tmod_eq_emod_of_nonneg (Int.natCast_nonneg _)]; exact hr0
        clear hbit h1 hb1
        generalize (byteK kc (n / 8)).toNat / 2 ^ (n % 8) = y at *
        generalize (byteK kc (n / 8)).toNat = x at *
        generalize n / 8 = q at *
        generalize n % 8 = r at *
        go_wp2_with fail
        refine beginU (fun wx => wx.rangeAt gX 0 (numV u) ∧ wx.rangeAt (gX + 1 + 1) 0 (pairV X Z) ∧ wx.rangeAt (gX + 1 + 1 + 1) 0 (pairV Y T)) [6, 7] (by kernel_rfl) ?_
        have hS := hkeep _ (c_drew (c_refl _))
        refine loadU 0 (some 33) 47 (.tmp 5) (gX) 0 (numV u) rfl rfl (by kernel_rfl) (by kernel_rfl) (by kernel_rfl) (by kernel_rfl) (by kernel_rfl) rfl (by kernel_rfl) rfl (fun wx hSw => hSw.1) huN rfl (sizeV _) (fun _ _ _ h => h) hS ?_
        simp only [Act.put, List.setIfInBounds_toArray, List.set_cons_zero, List.set_cons_succ]
        refine loadU 1 (some 34) 50 (.tmp 8) (gX + 1 + 1 + 1) 0 (pairV Y T) rfl rfl (by kernel_rfl) (by kernel_rfl) (by kernel_rfl) (by kernel_rfl) (by kernel_rfl) rfl (by kernel_rfl) rfl (fun wx hSw => hSw.2.2) huP rfl (sizeP _ _) (fun _ _ _ h => h) hS ?_
        simp only [Act.put, List.setIfInBounds_toArray, List.set_cons_zero, List.set_cons_succ]
        refine loadU 2 (some 35) 50 (.tmp 7) (gX + 1 + 1) 0 (pairV X Z) rfl rfl (by kernel_rfl) (by kernel_rfl) (by kernel_rfl) (by kernel_rfl) (by kernel_rfl) rfl (by kernel_rfl) rfl (fun wx hSw => hSw.2.1) huP rfl (sizeP _ _) (fun _ _ _ h => h) hS ?_
        simp only [Act.put, List.setIfInBounds_toArray, List.set_cons_zero, List.set_cons_succ]
        refine loadU 4 (some 37) 50 (.tmp 8) (gX + 1 + 1 + 1) 0 (pairV Y T) rfl rfl (by kernel_rfl) (by kernel_rfl) (by kernel_rfl) (by kernel_rfl) (by kernel_rfl) rfl (by kernel_rfl) rfl (fun wx hSw => hSw.2.2) huP rfl (sizeP _ _) (fun _ _ _ h => h) hS ?_
        simp only [Act.put, List.setIfInBounds_toArray, List.set_cons_zero, List.set_cons_succ]
        refine oneU 3 (by kernel_rfl) rfl (fun K hK => ?_)
        go_simp
        refine (Radd_any u Y T X Z _ Hu.out hY hT hX hZ).mono ?_
        rintro e x1 ⟨rfl, hx1⟩
        refine hK.out _ _ (fun _ => hkeep _ (by (repeat (first | exact c_refl _ | refine c_drew ?_ | refine c_alloc ?_ _ | refine c_row ?_ (by first | omega | exact Nat.le_refl _) _ | refine c_call ?_ (by assumption))); first | done | fail "open")) ?_
        clear hK K
        refine oneU 5 (by kernel_rfl) rfl (fun K hK => ?_)
        go_simp
        refine (Rdouble_any Y T _ hY hT).mono ?_
        rintro e x2 ⟨rfl, hx2⟩
        refine hK.out _ _ (fun _ => hkeep _ (by (repeat (first | exact c_refl _ | refine c_drew ?_ | refine c_alloc ?_ _ | refine c_row ?_ (by first | omega | exact Nat.le_refl _) _ | refine c_call ?_ (by assumption))); first | done | fail "open")) ?_
        clear hK K
        have hE : Below wr.heap.size wr x2 := (by (repeat (first | exact c_refl _ | refine c_drew ?_ | refine c_alloc ?_ _ | refine c_row ?_ (by first | omega | exact Nat.le_refl _) _ | refine c_call ?_ (by assumption))); first | done | fail "open")
        have hM9 := hM.call hE
        refine oneU 6 (by kernel_rfl) rfl (fun K hK => ?_)
        refine step_store_row rfl 50 (.tmp 7) (.tmp 36) rfl (gX + 1 + 1) (pairV (difN u Y T X Z).1 (difN u Y T X Z).2).toArray rfl rfl 50 _ (hM9.get 0 rfl) (sizePA _ _) (sameP _ _ _ _) (oneP _ _) ?_
        refine hK.out _ _ (fun h => absurd (show 6 ∈ [6, 7] by decide) h) ?_
        clear hK K
        refine oneU 7 (by kernel_rfl) rfl (fun K hK => ?_)
        refine step_store_row rfl 50 (.tmp 8) (.tmp 38) rfl (gX + 1 + 1 + 1) (pairV (dblN Y T).1 (dblN Y T).2).toArray rfl rfl 50 _ ((hM9.get 1 rfl).rowFar (by omega) _) (sizePA _ _) (sameP _ _ _ _) (oneP _ _) ?_
        refine hK.out _ _ (fun h => absurd (show 7 ∈ [6, 7] by decide) h) ?_
        clear hK K
        refine done2U (by kernel_rfl) ?_ _
        have hM10 := Ms.set2 (ds := (pairV (difN u Y T X Z).1 (difN u Y T X Z).2).toArray) (ds' := (pairV (dblN Y T).1 (dblN Y T).2).toArray) hM9 (by have h1 := Hg1.out; omega) (by have h1 := Hg1.out; omega) (by omega) (by have h1 := Hg1.out; have h2 := Hg2.out; simp only [List.mem_cons, List.not_mem_nil, or_false]; rintro p (rfl | rfl | rfl | rfl | rfl) <;> (show _ ≠ _; simp only [ne_eq]; omega)) (by have h1 := Hg1.out; have h2 := Hg2.out; simp only [List.mem_cons, List.not_mem_nil, or_false]; rintro p (rfl | rfl | rfl | rfl | rfl) <;> (show _ ≠ _; simp only [ne_eq]; omega))
        clear hM hM9 hkeep hS hE hx1 hx2
        go_wp2_with fail
        exact ⟨⟨j + 1, Hj.out, by rw [Hnext.out], by rw [Hst.out]; exact hM10⟩, by have := Hj.out; simp [intOf]⟩
    · obtain rfl : j = 255 := by omega
      rw [show (254 : Int) - ((255 : Nat) : Int) = -1 from rfl]
      have Hans := Lib.hid (show mltN kc u = mlN (ladN u kc 255).1.1 (invN (ladN u kc 255).1.2 255) from rfl)
      generalize ladN u kc 255 = st at *
      obtain ⟨⟨X, Z⟩, ⟨Y, T⟩⟩ := st
      obtain ⟨hX, hZ, hY, hT⟩ := hlo
      simp only at hX hZ hY hT hM Hans
      have hun := Try.underlying47
      have hkeep : ∀ wx : World, Below wr.heap.size wr wx → wx.rangeAt (gX + 1 + 1) 0 (numV X) ∧ wx.rangeAt (gX + 1 + 1) 16 (numV Z) := fun wx hb => ⟨((hM.get 0 rfl).call hb).fst, ((hM.get 0 rfl).call hb).snd⟩
      go_wp2_with fail
      refine beginT (fun wx => wx.rangeAt (gX + 1 + 1) 0 (numV X) ∧ wx.rangeAt (gX + 1 + 1) 16 (numV Z)) 7 (by kernel_rfl) ?_
      have hS := hkeep _ (c_drew (c_refl _))
      refine takeD 0 (some 45) (.pointer (some ⟨gX + 1 + 1, 0, none⟩)) rfl rfl (by kernel_rfl) (by kernel_rfl) (by kernel_rfl) (by kernel_rfl) (fun _ _ _ h => h) (Or.inl ⟨by kernel_rfl, fun wx hSw => by go_simp⟩) hS ?_
      simp only [Act.put, List.setIfInBounds_toArray, List.set_cons_zero, List.set_cons_succ]
      refine loadT 1 (some 46) 47 (.tmp 45) (gX + 1 + 1) 0 (numV X) rfl rfl (by kernel_rfl) (by kernel_rfl) (by kernel_rfl) (by kernel_rfl) rfl (by kernel_rfl) rfl (fun wx hSw => hSw.1) hun rfl (sizeV _) (fun _ _ _ h => h) hS ?_
      simp only [Act.put, List.setIfInBounds_toArray, List.set_cons_zero, List.set_cons_succ]
      refine takeD 2 (some 47) (.pointer (some ⟨gX + 1 + 1, 16, none⟩)) rfl rfl (by kernel_rfl) (by kernel_rfl) (by kernel_rfl) (by kernel_rfl) (fun _ _ _ h => h) (Or.inl ⟨by kernel_rfl, fun wx hSw => by go_simp⟩) hS ?_
      simp only [Act.put, List.setIfInBounds_toArray, List.set_cons_zero, List.set_cons_succ]
      refine loadT 3 (some 48) 47 (.tmp 47) (gX + 1 + 1) 16 (numV Z) rfl rfl (by kernel_rfl) (by kernel_rfl) (by kernel_rfl) (by kernel_rfl) rfl (by kernel_rfl) rfl (fun wx hSw => hSw.2) hun rfl (sizeV _) (fun _ _ _ h => h) hS ?_
      simp only [Act.put, List.setIfInBounds_toArray, List.set_cons_zero, List.set_cons_succ]
      refine oneT 4 (by kernel_rfl) rfl (fun K hK => ?_)
      go_simp
      refine (InvertV Z _ hZ).mono ?_
      rintro e x1 ⟨rfl, hx1⟩
      refine hK.out _ _ (fun _ => hkeep _ (by (repeat (first | exact c_refl _ | refine c_drew ?_ | refine c_alloc ?_ _ | refine c_row ?_ (by first | omega | exact Nat.le_refl _) _ | refine c_call ?_ (by assumption))); first | done | fail "open")) ?_
      clear hK K
      refine oneT 5 (by kernel_rfl) rfl (fun K hK => ?_)
      go_simp
      refine (MulV X (invN Z 255) _ hX (invN_lt _ _)).mono ?_
      rintro e x2 ⟨rfl, hx2⟩
      refine hK.out _ _ (fun _ => hkeep _ (by (repeat (first | exact c_refl _ | refine c_drew ?_ | refine c_alloc ?_ _ | refine c_row ?_ (by first | omega | exact Nat.le_refl _) _ | refine c_call ?_ (by assumption))); first | done | fail "open")) ?_
      clear hK K
      refine oneT 6 (by kernel_rfl) rfl (fun K hK => ?_)
      go_simp
      refine (BytesV (mlN X (invN Z 255)) _).mono ?_
      rintro e x3 ⟨rfl, hx3⟩
      refine hK.out _ _ (fun _ => hkeep _ (by (repeat (first | exact c_refl _ | refine c_drew ?_ | refine c_alloc ?_ _ | refine c_row ?_ (by first | omega | exact Nat.le_refl _) _ | refine c_call ?_ (by assumption))); first | done | fail "open")) ?_
      clear hK K
      have hE : Below wr.heap.size wr x3 := (by (repeat (first | exact c_refl _ | refine c_drew ?_ | refine c_alloc ?_ _ | refine c_row ?_ (by first | omega | exact Nat.le_refl _) _ | refine c_call ?_ (by assumption))); first | done | fail "open")
      have hM9 := hM.call hE
      refine oneT 7 (by kernel_rfl) rfl (fun K hK => ?_)
      refine step_store_row rfl 23 (.tmp 4) (.tmp 51) rfl (w.heap.size + 1 + 1) (keyC (keyB (mlN X (invN Z 255)))) rfl rfl 23 _ (hM9.get 6 rfl) (sizeKey (keyB_len _)) (by rw [keyC_size, keyB_len]; rfl) (one_keyF _) ?_
      refine hK.out _ _ (fun h => absurd rfl h) ?_
      clear hK K
      refine doneT (by kernel_rfl) ?_ _
      go_wp2_with fail
      exact bodyPost_ret (results_cell_one rfl _ _ (w.heap.size + 1 + 1) 23 _ _ rfl ((hM9.get 6 rfl).row _) Try.underlying23 rfl (sizeKey (keyB_len _))) rfl ⟨by rw [Hans.out], below_setRow hM9.old (by omega) _⟩

end Go.Proofs.Ytimgnpcojamafaa
