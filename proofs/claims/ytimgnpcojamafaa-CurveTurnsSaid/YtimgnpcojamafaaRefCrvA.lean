/-
  CONTRACTS of the document's double and add (coterieref06), in numbers.
-/
import Derived.Test.YtimgnpcojamafaaRefFeF
import Derived.Test.YtimgnpcojamafaaReg2
import Derived.Laws.Tables
set_option linter.unusedVariables false
namespace Go.Proofs.Ytimgnpcojamafaa
open Go.RowKit

def adN (x y : Nat) : Nat := (x + y) % P25
def sbN (x y : Nat) : Nat := (x + (P25 - y)) % P25
def mlN (x y : Nat) : Nat := x * y % P25
theorem adN_lt (x y : Nat) : adN x y < P25 := P25_lt _
theorem sbN_lt (x y : Nat) : sbN x y < P25 := P25_lt _
theorem mlN_lt (x y : Nat) : mlN x y < P25 := P25_lt _
/-- a point twice, and two points together, as quotients -/
def dblN (x z : Nat) : Nat × Nat :=
  (mlN (mlN (adN x z) (adN x z)) (mlN (sbN x z) (sbN x z)),
    mlN (sbN (mlN (adN x z) (adN x z)) (mlN (sbN x z) (sbN x z))) (adN (mlN (adN x z) (adN x z)) (mlN 121665 (sbN (mlN (adN x z) (adN x z)) (mlN (sbN x z) (sbN x z))))))
def difN (u x z y t : Nat) : Nat × Nat :=
  (mlN (adN (mlN (sbN y t) (adN x z)) (mlN (adN y t) (sbN x z))) (adN (mlN (sbN y t) (adN x z)) (mlN (adN y t) (sbN x z))),
    mlN u (mlN (sbN (mlN (sbN y t) (adN x z)) (mlN (adN y t) (sbN x z))) (sbN (mlN (sbN y t) (adN x z)) (mlN (adN y t) (sbN x z)))))

def numV (v : Nat) : List Value := (numL v).map qv
theorem numV_len (v : Nat) : (numV v).length = 16 := by simp [numV, numL]
theorem numC_V (v : Nat) : numC (numF v) = (numV v).toArray := by rw [numC, qC, numV, numL]
theorem sizeVA (v : Nat) : (Try.prog.info? 47).map (·.size) = some (numV v).toArray.size := by rw [infoNum, List.size_toArray, numV_len]
theorem sizeV (v : Nat) : (Try.prog.info? 47).map (·.size) = some (numV v).length := by rw [infoNum, numV_len]
theorem zeroV (v : Nat) : (#[.int .u64 0, .int .u64 0, .int .u64 0, .int .u64 0, .int .u64 0, .int .u64 0, .int .u64 0, .int .u64 0, .int .u64 0, .int .u64 0, .int .u64 0, .int .u64 0, .int .u64 0, .int .u64 0, .int .u64 0, .int .u64 0] : Array Value).size = (numV v).toArray.size := by
  have h : (numV v).toArray.size = 16 := by rw [List.size_toArray, numV_len]
  rw [h]
  rfl
theorem oneV (v : Nat) : ((numV v).toArray).all (·.oneCell') = true := by rw [← numC_V]; exact one_num _
def pairV (x z : Nat) : List Value := numV x ++ numV z
theorem pairV_len (x z : Nat) : (pairV x z).length = 32 := by simp [pairV, numV_len]
theorem infoPair : (Try.prog.info? 50).map (·.size) = some 32 := by kernel_rfl
theorem sizePA (x z : Nat) : (Try.prog.info? 50).map (·.size) = some (pairV x z).toArray.size := by rw [infoPair, List.size_toArray, pairV_len]
theorem sizeP (x z : Nat) : (Try.prog.info? 50).map (·.size) = some (pairV x z).length := by rw [infoPair, pairV_len]
theorem zeroP (x z : Nat) : (#[.int .u64 0, .int .u64 0, .int .u64 0, .int .u64 0, .int .u64 0, .int .u64 0, .int .u64 0, .int .u64 0, .int .u64 0, .int .u64 0, .int .u64 0, .int .u64 0, .int .u64 0, .int .u64 0, .int .u64 0, .int .u64 0, .int .u64 0, .int .u64 0, .int .u64 0, .int .u64 0, .int .u64 0, .int .u64 0, .int .u64 0, .int .u64 0, .int .u64 0, .int .u64 0, .int .u64 0, .int .u64 0, .int .u64 0, .int .u64 0, .int .u64 0, .int .u64 0] : Array Value).size = (pairV x z).toArray.size := by
  have h : (pairV x z).toArray.size = 32 := by rw [List.size_toArray, pairV_len]
  rw [h]
  rfl
theorem sameP (x z y t : Nat) : (pairV x z).toArray.size = (pairV y t).toArray.size := by rw [List.size_toArray, List.size_toArray, pairV_len, pairV_len]
theorem oneP (x z : Nat) : ((pairV x z).toArray).all (·.oneCell') = true := by
  rw [Array.all_eq_true_iff_forall_mem]
  intro v hv
  rw [List.mem_toArray, pairV, List.mem_append] at hv
  rcases hv with hv | hv
  · exact Array.all_eq_true_iff_forall_mem.1 (oneV x) v (by simpa using hv)
  · exact Array.all_eq_true_iff_forall_mem.1 (oneV z) v (by simpa using hv)
theorem RowC.fst {w : World} {g x z : Nat} {t : TypeId} (h : RowC w g t (pairV x z).toArray) : w.rangeAt g 0 (numV x) := fun j u hu => by
  rw [Nat.zero_add]
  refine h.cell ?_
  have := (List.getElem?_eq_some_iff.1 hu).1
  simp only [List.getElem?_toArray, pairV]
  rw [List.getElem?_append_left this]
  exact hu
theorem RowC.snd {w : World} {g x z : Nat} {t : TypeId} (h : RowC w g t (pairV x z).toArray) : w.rangeAt g 16 (numV z) := fun j u hu => by
  refine h.cell ?_
  simp only [List.getElem?_toArray, pairV]
  rw [List.getElem?_append_right (by rw [numV_len]; omega), numV_len, show 16 + j - 16 = j by omega]
  exact hu
theorem AddV (x y : Nat) (w : World) (hx : x < P25) (hy : y < P25) : Calls Try.prog 41 #[.agg (numV x).toArray, .agg (numV y).toArray] w fun e w' => e = .returned (.agg (numV (adN x y)).toArray) ∧ Below w.heap.size w w' := by
  have := AddN_nv x y w hx hy
  simp only [numC_V] at this
  exact this
theorem SubV (x y : Nat) (w : World) (hx : x < P25) (hy : y < P25) : Calls Try.prog 40 #[.agg (numV x).toArray, .agg (numV y).toArray] w fun e w' => e = .returned (.agg (numV (sbN x y)).toArray) ∧ Below w.heap.size w w' := by
  have := SubN_nv x y w hx hy
  simp only [numC_V] at this
  exact this
theorem MulV (x y : Nat) (w : World) (hx : x < P25) (hy : y < P25) : Calls Try.prog 29 #[.agg (numV x).toArray, .agg (numV y).toArray] w fun e w' => e = .returned (.agg (numV (mlN x y)).toArray) ∧ Below w.heap.size w w' := by
  have := Mul_nv x y w hx hy
  simp only [numC_V] at this
  exact this
set_option maxRecDepth 100000 in
theorem build_pair (x z : Nat) (w : World) : (Instr.build 50 #[(0, .agg (numV x).toArray), (1, .agg (numV z).toArray)]).run Try.prog w = .ok (.agg (pairV x z).toArray) w := by kernel_rfl
set_option maxRecDepth 100000 in
theorem build_pair1 (x : Nat) (w : World) : (Instr.build 50 #[(0, .agg (numV x).toArray)]).run Try.prog w = .ok (.agg (pairV x 0).toArray) w := by kernel_rfl
theorem lit_n : (numV 121665).toArray = #[.int .u64 56129, .int .u64 1, .int .u64 0, .int .u64 0, .int .u64 0, .int .u64 0, .int .u64 0, .int .u64 0, .int .u64 0, .int .u64 0, .int .u64 0, .int .u64 0, .int .u64 0, .int .u64 0, .int .u64 0, .int .u64 0] := by kernel_rfl
theorem n_lt : 121665 < P25 := by decide +kernel
/-- a build of parts, as an operation of a region -/
theorem step_build {P : Program} {w : World} {ops : Array Oper} {o : Oper} {a : Act} {K : Act → World → Prop} {Q : Exit → Act → World → Prop} {E : Prop} (hgd : Region.wanted o (yielded ops a.tmps) = true) (dst : Option Tmp) (hd : o.dst = dst) (t : TypeId) (parts : Array (Nat × Operand)) (ho : o.op = .build t parts)
    (vals : Array (Nat × Value)) (hv : (parts.map fun (i, x) => (i, a.eval x)) = vals) (cells : Array Value) (hf : (Instr.build t vals).run P w = .ok (.agg cells) w)
    (h : K (a.put dst (.agg cells)) w) : if Region.wanted o (yielded ops a.tmps) = true then Oper.wp P o a w K Q else E := by
  subst hv hd
  rw [if_pos hgd]
  unfold Oper.wp execOp
  simp only [ho, Sem.run_bind, hf, Result.andThen_ok, Sem.run_pure]
  exact h


set_option maxRecDepth 1000000 in
set_option maxHeartbeats 8000000 in
theorem Rdouble_any (x z : Nat) (w : World) (hx : x < P25) (hz : z < P25) :
    Calls Try.prog 27 #[.agg (pairV x z).toArray] w fun e w' => e = .returned (.agg (pairV (dblN x z).1 (dblN x z).2).toArray) ∧ Below w.heap.size w w' := by
  have hM0 := ((Ms.nil w).box 50 (pairV x z).toArray).box 50 #[.int .u64 0, .int .u64 0, .int .u64 0, .int .u64 0, .int .u64 0, .int .u64 0, .int .u64 0, .int .u64 0, .int .u64 0, .int .u64 0, .int .u64 0, .int .u64 0, .int .u64 0, .int .u64 0, .int .u64 0, .int .u64 0, .int .u64 0, .int .u64 0, .int .u64 0, .int .u64 0, .int .u64 0, .int .u64 0, .int .u64 0, .int .u64 0, .int .u64 0, .int .u64 0, .int .u64 0, .int .u64 0, .int .u64 0, .int .u64 0, .int .u64 0, .int .u64 0]
  simp only [World.size_alloc] at hM0
  go_enter Try.func27, Try.ntmps27
  go_wp2_with (first
    | ((with_reducible show wpList _ _ _ (⟨some 10, _, _, _, _, _⟩ :: _) _ _); refine wpList_load_mid rfl 47 (.tmp 9) rfl (w.heap.size) 0 rfl (numV (x)) _ ((hM0.get 1 rfl).fst) Try.underlying47 rfl (sizeV _) ?_)
    | ((with_reducible show wpList _ _ _ (⟨some 12, _, _, _, _, _⟩ :: _) _ _); refine wpList_load_mid rfl 47 (.tmp 11) rfl (w.heap.size) 16 rfl (numV (z)) _ ((hM0.get 1 rfl).snd) Try.underlying47 rfl (sizeV _) ?_))
  refine (AddV x z _ hx hz).mono ?_
  rintro e w1 ⟨rfl, hb1⟩
  have hM1 := hM0.call hb1
  clear hM0 hb1
  have hP1 := hM1.put 47 #[.int .u64 0, .int .u64 0, .int .u64 0, .int .u64 0, .int .u64 0, .int .u64 0, .int .u64 0, .int .u64 0, .int .u64 0, .int .u64 0, .int .u64 0, .int .u64 0, .int .u64 0, .int .u64 0, .int .u64 0, .int .u64 0] (numV (adN x z)).toArray
  go_wp2_with (first
    | ((with_reducible show wpList _ _ _ (⟨none, Op.store 47 _ _, _, _, _, _⟩ :: _) _ _); refine wpList_store_row rfl 47 (.tmp 3) (.tmp 13) rfl (w1.heap.size) (numV (adN x z)).toArray rfl rfl 47 _ (RowC.new _ _ _) (sizeVA _) (zeroV _) (oneV _) ?_)
    | ((with_reducible show wpList _ _ _ (⟨some 15, _, _, _, _, _⟩ :: _) _ _); refine wpList_load_mid rfl 47 (.tmp 14) rfl (w.heap.size) 0 rfl (numV (x)) _ ((hP1.get 2 rfl).fst) Try.underlying47 rfl (sizeV _) ?_)
    | ((with_reducible show wpList _ _ _ (⟨some 17, _, _, _, _, _⟩ :: _) _ _); refine wpList_load_mid rfl 47 (.tmp 16) rfl (w.heap.size) 16 rfl (numV (z)) _ ((hP1.get 2 rfl).snd) Try.underlying47 rfl (sizeV _) ?_))
  refine (SubV x z _ hx hz).mono ?_
  rintro e w2 ⟨rfl, hb2⟩
  have hM2 := hP1.call hb2
  clear hP1 hb2
  have hP2 := hM2.put 47 #[.int .u64 0, .int .u64 0, .int .u64 0, .int .u64 0, .int .u64 0, .int .u64 0, .int .u64 0, .int .u64 0, .int .u64 0, .int .u64 0, .int .u64 0, .int .u64 0, .int .u64 0, .int .u64 0, .int .u64 0, .int .u64 0] (numV (sbN x z)).toArray
  go_wp2_with (first
    | ((with_reducible show wpList _ _ _ (⟨none, Op.store 47 _ _, _, _, _, _⟩ :: _) _ _); refine wpList_store_row rfl 47 (.tmp 4) (.tmp 18) rfl (w2.heap.size) (numV (sbN x z)).toArray rfl rfl 47 _ (RowC.new _ _ _) (sizeVA _) (zeroV _) (oneV _) ?_)
    | ((with_reducible show wpList _ _ _ (⟨some 19, _, _, _, _, _⟩ :: _) _ _); refine wpList_loadC (by kernel_rfl) 47 (.tmp 3) rfl (w1.heap.size) rfl 47 (numV (adN x z)).toArray _ (hP2.get 1 rfl) Try.underlying47 rfl (sizeVA _) ?_)
    | ((with_reducible show wpList _ _ _ (⟨some 20, _, _, _, _, _⟩ :: _) _ _); refine wpList_loadC (by kernel_rfl) 47 (.tmp 3) rfl (w1.heap.size) rfl 47 (numV (adN x z)).toArray _ (hP2.get 1 rfl) Try.underlying47 rfl (sizeVA _) ?_))
  refine (MulV (adN x z) (adN x z) _ (adN_lt _ _) (adN_lt _ _)).mono ?_
  rintro e w3 ⟨rfl, hb3⟩
  have hM3 := hP2.call hb3
  clear hP2 hb3
  have hP3 := hM3.put 47 #[.int .u64 0, .int .u64 0, .int .u64 0, .int .u64 0, .int .u64 0, .int .u64 0, .int .u64 0, .int .u64 0, .int .u64 0, .int .u64 0, .int .u64 0, .int .u64 0, .int .u64 0, .int .u64 0, .int .u64 0, .int .u64 0] (numV (mlN (adN x z) (adN x z))).toArray
  go_wp2_with (first
    | ((with_reducible show wpList _ _ _ (⟨none, Op.store 47 _ _, _, _, _, _⟩ :: _) _ _); refine wpList_store_row rfl 47 (.tmp 5) (.tmp 21) rfl (w3.heap.size) (numV (mlN (adN x z) (adN x z))).toArray rfl rfl 47 _ (RowC.new _ _ _) (sizeVA _) (zeroV _) (oneV _) ?_)
    | ((with_reducible show wpList _ _ _ (⟨some 22, _, _, _, _, _⟩ :: _) _ _); refine wpList_loadC (by kernel_rfl) 47 (.tmp 4) rfl (w2.heap.size) rfl 47 (numV (sbN x z)).toArray _ (hP3.get 1 rfl) Try.underlying47 rfl (sizeVA _) ?_)
    | ((with_reducible show wpList _ _ _ (⟨some 23, _, _, _, _, _⟩ :: _) _ _); refine wpList_loadC (by kernel_rfl) 47 (.tmp 4) rfl (w2.heap.size) rfl 47 (numV (sbN x z)).toArray _ (hP3.get 1 rfl) Try.underlying47 rfl (sizeVA _) ?_))
  refine (MulV (sbN x z) (sbN x z) _ (sbN_lt _ _) (sbN_lt _ _)).mono ?_
  rintro e w4 ⟨rfl, hb4⟩
  have hM4 := hP3.call hb4
  clear hP3 hb4
  have hP4 := hM4.put 47 #[.int .u64 0, .int .u64 0, .int .u64 0, .int .u64 0, .int .u64 0, .int .u64 0, .int .u64 0, .int .u64 0, .int .u64 0, .int .u64 0, .int .u64 0, .int .u64 0, .int .u64 0, .int .u64 0, .int .u64 0, .int .u64 0] (numV (mlN (sbN x z) (sbN x z))).toArray
  go_wp2_with (first
    | ((with_reducible show wpList _ _ _ (⟨none, Op.store 47 _ _, _, _, _, _⟩ :: _) _ _); refine wpList_store_row rfl 47 (.tmp 6) (.tmp 24) rfl (w4.heap.size) (numV (mlN (sbN x z) (sbN x z))).toArray rfl rfl 47 _ (RowC.new _ _ _) (sizeVA _) (zeroV _) (oneV _) ?_)
    | ((with_reducible show wpList _ _ _ (⟨some 25, _, _, _, _, _⟩ :: _) _ _); refine wpList_loadC (by kernel_rfl) 47 (.tmp 5) rfl (w3.heap.size) rfl 47 (numV (mlN (adN x z) (adN x z))).toArray _ (hP4.get 1 rfl) Try.underlying47 rfl (sizeVA _) ?_)
    | ((with_reducible show wpList _ _ _ (⟨some 26, _, _, _, _, _⟩ :: _) _ _); refine wpList_loadC (by kernel_rfl) 47 (.tmp 6) rfl (w4.heap.size) rfl 47 (numV (mlN (sbN x z) (sbN x z))).toArray _ (hP4.get 0 rfl) Try.underlying47 rfl (sizeVA _) ?_))
  refine (SubV (mlN (adN x z) (adN x z)) (mlN (sbN x z) (sbN x z)) _ (mlN_lt _ _) (mlN_lt _ _)).mono ?_
  rintro e w5 ⟨rfl, hb5⟩
  have hM5 := hP4.call hb5
  clear hP4 hb5
  have hP5 := hM5.put 47 #[.int .u64 0, .int .u64 0, .int .u64 0, .int .u64 0, .int .u64 0, .int .u64 0, .int .u64 0, .int .u64 0, .int .u64 0, .int .u64 0, .int .u64 0, .int .u64 0, .int .u64 0, .int .u64 0, .int .u64 0, .int .u64 0] (numV (sbN (mlN (adN x z) (adN x z)) (mlN (sbN x z) (sbN x z)))).toArray
  go_upto_region 6 with ((with_reducible show wpList _ _ _ (⟨none, Op.store 47 _ _, _, _, _, _⟩ :: _) _ _); refine wpList_store_row rfl 47 (.tmp 7) (.tmp 27) rfl (w5.heap.size) (numV (sbN (mlN (adN x z) (adN x z)) (mlN (sbN x z) (sbN x z)))).toArray rfl rfl 47 _ (RowC.new _ _ _) (sizeVA _) (zeroV _) (oneV _) ?_)
  refine wp_gen (fun wx => Ms w wx [(w5.heap.size, 47, (numV (sbN (mlN (adN x z) (adN x z)) (mlN (sbN x z) (sbN x z)))).toArray), (w4.heap.size, 47, (numV (mlN (sbN x z) (sbN x z))).toArray), (w3.heap.size, 47, (numV (mlN (adN x z) (adN x z))).toArray), (w2.heap.size, 47, (numV (sbN x z)).toArray), (w1.heap.size, 47, (numV (adN x z)).toArray), (w.heap.size + 1, 50, #[.int .u64 0, .int .u64 0, .int .u64 0, .int .u64 0, .int .u64 0, .int .u64 0, .int .u64 0, .int .u64 0, .int .u64 0, .int .u64 0, .int .u64 0, .int .u64 0, .int .u64 0, .int .u64 0, .int .u64 0, .int .u64 0, .int .u64 0, .int .u64 0, .int .u64 0, .int .u64 0, .int .u64 0, .int .u64 0, .int .u64 0, .int .u64 0, .int .u64 0, .int .u64 0, .int .u64 0, .int .u64 0, .int .u64 0, .int .u64 0, .int .u64 0, .int .u64 0]), (w.heap.size, 50, (pairV x z).toArray)]) hP5 ?_
  clear hP5
  rintro v5 hMv5
  generalize w1.heap.size = gA at *
  generalize w2.heap.size = gB at *
  generalize w3.heap.size = gAA at *
  generalize w4.heap.size = gBB at *
  generalize w5.heap.size = gE at *
  have hP6 := hMv5.box 47 #[.int .u64 56129, .int .u64 1, .int .u64 0, .int .u64 0, .int .u64 0, .int .u64 0, .int .u64 0, .int .u64 0, .int .u64 0, .int .u64 0, .int .u64 0, .int .u64 0, .int .u64 0, .int .u64 0, .int .u64 0, .int .u64 0]
  go_upto_region 7 with (fail)
  rw [← lit_n] at hP6
  rw [← lit_n]
  refine wp_gen (fun wx => Ms w wx [(v5.heap.size, 47, (numV (121665)).toArray), (gE, 47, (numV (sbN (mlN (adN x z) (adN x z)) (mlN (sbN x z) (sbN x z)))).toArray), (gBB, 47, (numV (mlN (sbN x z) (sbN x z))).toArray), (gAA, 47, (numV (mlN (adN x z) (adN x z))).toArray), (gB, 47, (numV (sbN x z)).toArray), (gA, 47, (numV (adN x z)).toArray), (w.heap.size + 1, 50, #[.int .u64 0, .int .u64 0, .int .u64 0, .int .u64 0, .int .u64 0, .int .u64 0, .int .u64 0, .int .u64 0, .int .u64 0, .int .u64 0, .int .u64 0, .int .u64 0, .int .u64 0, .int .u64 0, .int .u64 0, .int .u64 0, .int .u64 0, .int .u64 0, .int .u64 0, .int .u64 0, .int .u64 0, .int .u64 0, .int .u64 0, .int .u64 0, .int .u64 0, .int .u64 0, .int .u64 0, .int .u64 0, .int .u64 0, .int .u64 0, .int .u64 0, .int .u64 0]), (w.heap.size, 50, (pairV x z).toArray)]) hP6 ?_
  clear hP6
  rintro v6 hMv6
  generalize v5.heap.size = gN at *
  have hkeep : ∀ wx : World, Below v6.heap.size v6 wx → wx.rangeAt (gAA) 0 (numV (mlN (adN x z) (adN x z))) ∧ wx.rangeAt (gBB) 0 (numV (mlN (sbN x z) (sbN x z))) ∧ wx.rangeAt (gE) 0 (numV (sbN (mlN (adN x z) (adN x z)) (mlN (sbN x z) (sbN x z)))) ∧ wx.rangeAt (gN) 0 (numV (121665)) := fun wx hb => ⟨((hMv6.get 3 rfl).call hb).range, ((hMv6.get 2 rfl).call hb).range, ((hMv6.get 1 rfl).call hb).range, ((hMv6.get 0 rfl).call hb).range⟩
  have hun := Try.underlying47
  refine beginT (fun wx => wx.rangeAt (gAA) 0 (numV (mlN (adN x z) (adN x z))) ∧ wx.rangeAt (gBB) 0 (numV (mlN (sbN x z) (sbN x z))) ∧ wx.rangeAt (gE) 0 (numV (sbN (mlN (adN x z) (adN x z)) (mlN (sbN x z) (sbN x z)))) ∧ wx.rangeAt (gN) 0 (numV (121665))) 11 (by kernel_rfl) ?_
  have hS := hkeep _ (c_drew (c_refl _))
  refine loadT 0 (some 29) 47 (.tmp 5) gAA 0 (numV (mlN (adN x z) (adN x z))) rfl rfl (by kernel_rfl) (by kernel_rfl) (by kernel_rfl) (by kernel_rfl) rfl (by kernel_rfl) rfl (fun wx hSw => hSw.1) hun rfl (sizeV _) (fun _ _ _ h => h) hS ?_
  simp only [Act.put, List.setIfInBounds_toArray, List.set_cons_zero, List.set_cons_succ]
  refine loadT 1 (some 30) 47 (.tmp 6) gBB 0 (numV (mlN (sbN x z) (sbN x z))) rfl rfl (by kernel_rfl) (by kernel_rfl) (by kernel_rfl) (by kernel_rfl) rfl (by kernel_rfl) rfl (fun wx hSw => hSw.2.1) hun rfl (sizeV _) (fun _ _ _ h => h) hS ?_
  simp only [Act.put, List.setIfInBounds_toArray, List.set_cons_zero, List.set_cons_succ]
  refine loadT 3 (some 32) 47 (.tmp 7) gE 0 (numV (sbN (mlN (adN x z) (adN x z)) (mlN (sbN x z) (sbN x z)))) rfl rfl (by kernel_rfl) (by kernel_rfl) (by kernel_rfl) (by kernel_rfl) rfl (by kernel_rfl) rfl (fun wx hSw => hSw.2.2.1) hun rfl (sizeV _) (fun _ _ _ h => h) hS ?_
  simp only [Act.put, List.setIfInBounds_toArray, List.set_cons_zero, List.set_cons_succ]
  refine loadT 4 (some 33) 47 (.tmp 5) gAA 0 (numV (mlN (adN x z) (adN x z))) rfl rfl (by kernel_rfl) (by kernel_rfl) (by kernel_rfl) (by kernel_rfl) rfl (by kernel_rfl) rfl (fun wx hSw => hSw.1) hun rfl (sizeV _) (fun _ _ _ h => h) hS ?_
  simp only [Act.put, List.setIfInBounds_toArray, List.set_cons_zero, List.set_cons_succ]
  refine loadT 5 (some 34) 47 (.tmp 8) gN 0 (numV (121665)) rfl rfl (by kernel_rfl) (by kernel_rfl) (by kernel_rfl) (by kernel_rfl) rfl (by kernel_rfl) rfl (fun wx hSw => hSw.2.2.2) hun rfl (sizeV _) (fun _ _ _ h => h) hS ?_
  simp only [Act.put, List.setIfInBounds_toArray, List.set_cons_zero, List.set_cons_succ]
  refine loadT 6 (some 35) 47 (.tmp 7) gE 0 (numV (sbN (mlN (adN x z) (adN x z)) (mlN (sbN x z) (sbN x z)))) rfl rfl (by kernel_rfl) (by kernel_rfl) (by kernel_rfl) (by kernel_rfl) rfl (by kernel_rfl) rfl (fun wx hSw => hSw.2.2.1) hun rfl (sizeV _) (fun _ _ _ h => h) hS ?_
  simp only [Act.put, List.setIfInBounds_toArray, List.set_cons_zero, List.set_cons_succ]
  refine oneT 2 (by kernel_rfl) rfl (fun K hK => ?_)
  go_simp
  refine (MulV (mlN (adN x z) (adN x z)) (mlN (sbN x z) (sbN x z)) _ (mlN_lt _ _) (mlN_lt _ _)).mono ?_
  rintro e x1 ⟨rfl, hx1⟩
  refine hK.out _ _ (fun _ => hkeep _ (by (repeat (first | exact c_refl _ | refine c_drew ?_ | refine c_alloc ?_ _ | refine c_row ?_ (by first | omega | exact Nat.le_refl _) _ | refine c_call ?_ (by assumption))); first | done | fail "open")) ?_
  clear hK K
  refine oneT 7 (by kernel_rfl) rfl (fun K hK => ?_)
  go_simp
  refine (MulV 121665 (sbN (mlN (adN x z) (adN x z)) (mlN (sbN x z) (sbN x z))) _ n_lt (sbN_lt _ _)).mono ?_
  rintro e x2 ⟨rfl, hx2⟩
  refine hK.out _ _ (fun _ => hkeep _ (by (repeat (first | exact c_refl _ | refine c_drew ?_ | refine c_alloc ?_ _ | refine c_row ?_ (by first | omega | exact Nat.le_refl _) _ | refine c_call ?_ (by assumption))); first | done | fail "open")) ?_
  clear hK K
  refine oneT 8 (by kernel_rfl) rfl (fun K hK => ?_)
  go_simp
  refine (AddV (mlN (adN x z) (adN x z)) (mlN 121665 (sbN (mlN (adN x z) (adN x z)) (mlN (sbN x z) (sbN x z)))) _ (mlN_lt _ _) (mlN_lt _ _)).mono ?_
  rintro e x3 ⟨rfl, hx3⟩
  refine hK.out _ _ (fun _ => hkeep _ (by (repeat (first | exact c_refl _ | refine c_drew ?_ | refine c_alloc ?_ _ | refine c_row ?_ (by first | omega | exact Nat.le_refl _) _ | refine c_call ?_ (by assumption))); first | done | fail "open")) ?_
  clear hK K
  refine oneT 9 (by kernel_rfl) rfl (fun K hK => ?_)
  go_simp
  refine (MulV (sbN (mlN (adN x z) (adN x z)) (mlN (sbN x z) (sbN x z))) (adN (mlN (adN x z) (adN x z)) (mlN 121665 (sbN (mlN (adN x z) (adN x z)) (mlN (sbN x z) (sbN x z))))) _ (sbN_lt _ _) (adN_lt _ _)).mono ?_
  rintro e x4 ⟨rfl, hx4⟩
  refine hK.out _ _ (fun _ => hkeep _ (by (repeat (first | exact c_refl _ | refine c_drew ?_ | refine c_alloc ?_ _ | refine c_row ?_ (by first | omega | exact Nat.le_refl _) _ | refine c_call ?_ (by assumption))); first | done | fail "open")) ?_
  clear hK K
  refine oneT 10 (by kernel_rfl) rfl (fun K hK => ?_)
  refine step_build (by kernel_rfl) (some 39) rfl 50 _ rfl #[(0, .agg (numV (mlN (mlN (adN x z) (adN x z)) (mlN (sbN x z) (sbN x z)))).toArray), (1, .agg (numV (mlN (sbN (mlN (adN x z) (adN x z)) (mlN (sbN x z) (sbN x z))) (adN (mlN (adN x z) (adN x z)) (mlN 121665 (sbN (mlN (adN x z) (adN x z)) (mlN (sbN x z) (sbN x z))))))).toArray)] (by kernel_rfl) _ (build_pair _ _ _) ?_
  simp only [Act.put, List.setIfInBounds_toArray, List.set_cons_zero, List.set_cons_succ]
  refine hK.out _ _ (fun _ => hkeep _ (by (repeat (first | exact c_refl _ | refine c_drew ?_ | refine c_alloc ?_ _ | refine c_row ?_ (by first | omega | exact Nat.le_refl _) _ | refine c_call ?_ (by assumption))); first | done | fail "open")) ?_
  clear hK K
  have hE : Below v6.heap.size v6 x4 := (by (repeat (first | exact c_refl _ | refine c_drew ?_ | refine c_alloc ?_ _ | refine c_row ?_ (by first | omega | exact Nat.le_refl _) _ | refine c_call ?_ (by assumption))); first | done | fail "open")
  have hM9 := hMv6.call hE
  refine oneT 11 (by kernel_rfl) rfl (fun K hK => ?_)
  refine step_store_row rfl 50 (.tmp 2) (.tmp 39) rfl (w.heap.size + 1) (pairV (mlN (mlN (adN x z) (adN x z)) (mlN (sbN x z) (sbN x z))) (mlN (sbN (mlN (adN x z) (adN x z)) (mlN (sbN x z) (sbN x z))) (adN (mlN (adN x z) (adN x z)) (mlN 121665 (sbN (mlN (adN x z) (adN x z)) (mlN (sbN x z) (sbN x z))))))).toArray rfl rfl 50 _ (hM9.get 6 rfl) (sizePA _ _) (zeroP _ _) (oneP _ _) ?_
  refine hK.out _ _ (fun h => absurd rfl h) ?_
  clear hK K
  refine doneT (by kernel_rfl) ?_ _
  go_wp2_with fail
  exact bodyPost_ret (results_cell_one rfl _ _ (w.heap.size + 1) 50 _ _ rfl ((hM9.get 6 rfl).row _) Try.underlying50 rfl (sizePA _ _)) rfl ⟨rfl, below_setRow hM9.old (by omega) _⟩

set_option maxRecDepth 1000000 in
set_option maxHeartbeats 8000000 in
theorem Radd_any (u x z y t : Nat) (w : World) (hu : u < P25) (hx : x < P25) (hz : z < P25) (hy : y < P25) (ht : t < P25) :
    Calls Try.prog 26 #[.agg (numV u).toArray, .agg (pairV x z).toArray, .agg (pairV y t).toArray] w fun e w' => e = .returned (.agg (pairV (difN u x z y t).1 (difN u x z y t).2).toArray) ∧ Below w.heap.size w w' := by
  have hM0 := ((((Ms.nil w).box 47 (numV u).toArray).box 50 (pairV x z).toArray).box 50 (pairV y t).toArray).box 50 #[.int .u64 0, .int .u64 0, .int .u64 0, .int .u64 0, .int .u64 0, .int .u64 0, .int .u64 0, .int .u64 0, .int .u64 0, .int .u64 0, .int .u64 0, .int .u64 0, .int .u64 0, .int .u64 0, .int .u64 0, .int .u64 0, .int .u64 0, .int .u64 0, .int .u64 0, .int .u64 0, .int .u64 0, .int .u64 0, .int .u64 0, .int .u64 0, .int .u64 0, .int .u64 0, .int .u64 0, .int .u64 0, .int .u64 0, .int .u64 0, .int .u64 0, .int .u64 0]
  simp only [World.size_alloc] at hM0
  go_enter Try.func26, Try.ntmps26
  go_upto_region 1 with (fail)
  refine wp_gen (fun wx => Ms w wx [(w.heap.size + 1 + 1 + 1, 50, #[.int .u64 0, .int .u64 0, .int .u64 0, .int .u64 0, .int .u64 0, .int .u64 0, .int .u64 0, .int .u64 0, .int .u64 0, .int .u64 0, .int .u64 0, .int .u64 0, .int .u64 0, .int .u64 0, .int .u64 0, .int .u64 0, .int .u64 0, .int .u64 0, .int .u64 0, .int .u64 0, .int .u64 0, .int .u64 0, .int .u64 0, .int .u64 0, .int .u64 0, .int .u64 0, .int .u64 0, .int .u64 0, .int .u64 0, .int .u64 0, .int .u64 0, .int .u64 0]), (w.heap.size + 1 + 1, 50, (pairV y t).toArray), (w.heap.size + 1, 50, (pairV x z).toArray), (w.heap.size, 47, (numV u).toArray)]) hM0 ?_
  clear hM0
  rintro v0 hMv0
  go_cut [7] (fun p wx => ∃ g : Nat, p = .pointer (some ⟨g, 0, none⟩) ∧ Ms w wx [(g, 47, (numV (mlN (sbN y t) (adN x z))).toArray), (w.heap.size + 1 + 1 + 1, 50, #[.int .u64 0, .int .u64 0, .int .u64 0, .int .u64 0, .int .u64 0, .int .u64 0, .int .u64 0, .int .u64 0, .int .u64 0, .int .u64 0, .int .u64 0, .int .u64 0, .int .u64 0, .int .u64 0, .int .u64 0, .int .u64 0, .int .u64 0, .int .u64 0, .int .u64 0, .int .u64 0, .int .u64 0, .int .u64 0, .int .u64 0, .int .u64 0, .int .u64 0, .int .u64 0, .int .u64 0, .int .u64 0, .int .u64 0, .int .u64 0, .int .u64 0, .int .u64 0]), (w.heap.size + 1 + 1, 50, (pairV y t).toArray), (w.heap.size + 1, 50, (pairV x z).toArray), (w.heap.size, 47, (numV u).toArray)])
  case first =>
    have hkeep : ∀ wx : World, Below v0.heap.size v0 wx → wx.rangeAt (w.heap.size + 1 + 1) 0 (numV y) ∧ wx.rangeAt (w.heap.size + 1 + 1) 16 (numV t) ∧ wx.rangeAt (w.heap.size + 1) 0 (numV x) ∧ wx.rangeAt (w.heap.size + 1) 16 (numV z) := fun wx hb => ⟨((hMv0.get 1 rfl).call hb).fst, ((hMv0.get 1 rfl).call hb).snd, ((hMv0.get 2 rfl).call hb).fst, ((hMv0.get 2 rfl).call hb).snd⟩
    have hun := Try.underlying47
    refine beginT (fun wx => wx.rangeAt (w.heap.size + 1 + 1) 0 (numV y) ∧ wx.rangeAt (w.heap.size + 1 + 1) 16 (numV t) ∧ wx.rangeAt (w.heap.size + 1) 0 (numV x) ∧ wx.rangeAt (w.heap.size + 1) 16 (numV z)) 12 (by kernel_rfl) ?_
    have hS := hkeep _ (c_drew (c_refl _))
    refine takeD 0 (some 11) (.pointer (some ⟨w.heap.size + 1 + 1, 0, none⟩)) rfl rfl (by kernel_rfl) (by kernel_rfl) (by kernel_rfl) (by kernel_rfl) (fun _ _ _ h => h) (Or.inl ⟨by kernel_rfl, fun wx hSw => by go_simp⟩) hS ?_
    simp only [Act.put, List.setIfInBounds_toArray, List.set_cons_zero, List.set_cons_succ]
    refine loadT 1 (some 12) 47 (.tmp 11) (w.heap.size + 1 + 1) 0 (numV y) rfl rfl (by kernel_rfl) (by kernel_rfl) (by kernel_rfl) (by kernel_rfl) rfl (by kernel_rfl) rfl (fun wx hSw => hSw.1) hun rfl (sizeV _) (fun _ _ _ h => h) hS ?_
    simp only [Act.put, List.setIfInBounds_toArray, List.set_cons_zero, List.set_cons_succ]
    refine takeD 2 (some 13) (.pointer (some ⟨w.heap.size + 1 + 1, 16, none⟩)) rfl rfl (by kernel_rfl) (by kernel_rfl) (by kernel_rfl) (by kernel_rfl) (fun _ _ _ h => h) (Or.inl ⟨by kernel_rfl, fun wx hSw => by go_simp⟩) hS ?_
    simp only [Act.put, List.setIfInBounds_toArray, List.set_cons_zero, List.set_cons_succ]
    refine loadT 3 (some 14) 47 (.tmp 13) (w.heap.size + 1 + 1) 16 (numV t) rfl rfl (by kernel_rfl) (by kernel_rfl) (by kernel_rfl) (by kernel_rfl) rfl (by kernel_rfl) rfl (fun wx hSw => hSw.2.1) hun rfl (sizeV _) (fun _ _ _ h => h) hS ?_
    simp only [Act.put, List.setIfInBounds_toArray, List.set_cons_zero, List.set_cons_succ]
    refine takeD 5 (some 16) (.pointer (some ⟨w.heap.size + 1, 0, none⟩)) rfl rfl (by kernel_rfl) (by kernel_rfl) (by kernel_rfl) (by kernel_rfl) (fun _ _ _ h => h) (Or.inl ⟨by kernel_rfl, fun wx hSw => by go_simp⟩) hS ?_
    simp only [Act.put, List.setIfInBounds_toArray, List.set_cons_zero, List.set_cons_succ]
    refine loadT 6 (some 17) 47 (.tmp 16) (w.heap.size + 1) 0 (numV x) rfl rfl (by kernel_rfl) (by kernel_rfl) (by kernel_rfl) (by kernel_rfl) rfl (by kernel_rfl) rfl (fun wx hSw => hSw.2.2.1) hun rfl (sizeV _) (fun _ _ _ h => h) hS ?_
    simp only [Act.put, List.setIfInBounds_toArray, List.set_cons_zero, List.set_cons_succ]
    refine takeD 7 (some 18) (.pointer (some ⟨w.heap.size + 1, 16, none⟩)) rfl rfl (by kernel_rfl) (by kernel_rfl) (by kernel_rfl) (by kernel_rfl) (fun _ _ _ h => h) (Or.inl ⟨by kernel_rfl, fun wx hSw => by go_simp⟩) hS ?_
    simp only [Act.put, List.setIfInBounds_toArray, List.set_cons_zero, List.set_cons_succ]
    refine loadT 8 (some 19) 47 (.tmp 18) (w.heap.size + 1) 16 (numV z) rfl rfl (by kernel_rfl) (by kernel_rfl) (by kernel_rfl) (by kernel_rfl) rfl (by kernel_rfl) rfl (fun wx hSw => hSw.2.2.2) hun rfl (sizeV _) (fun _ _ _ h => h) hS ?_
    simp only [Act.put, List.setIfInBounds_toArray, List.set_cons_zero, List.set_cons_succ]
    have hD := hMv0.drew
    refine readyT [4, 11] (by kernel_rfl) (by simp) (AllReadyT.cons rfl (fun K hK => ?_) (AllReadyT.cons rfl (fun K hK => ?_) AllReadyT.nil))
    · go_simp
      refine (SubV y t _ hy ht).mono ?_
      rintro e x1 ⟨rfl, hx1⟩
      refine hK.out _ _ (fun _ => hkeep _ (by (repeat (first | exact c_refl _ | refine c_drew ?_ | refine c_alloc ?_ _ | refine c_row ?_ (by first | omega | exact Nat.le_refl _) _ | refine c_call ?_ (by assumption))); first | done | fail "open")) ?_
      clear hK K
      have hN1 := hD.call hx1
      refine readyT [9, 11] (by kernel_rfl) (by simp) (AllReadyT.cons rfl (fun K hK => ?_) (AllReadyT.cons rfl (fun K hK => ?_) AllReadyT.nil))
      · go_simp
        refine (AddV x z _ hx hz).mono ?_
        rintro e x2 ⟨rfl, hx2⟩
        refine hK.out _ _ (fun _ => hkeep _ (by (repeat (first | exact c_refl _ | refine c_drew ?_ | refine c_alloc ?_ _ | refine c_row ?_ (by first | omega | exact Nat.le_refl _) _ | refine c_call ?_ (by assumption))); first | done | fail "open")) ?_
        clear hK K
        have hN2 := hN1.call hx2
        refine readyT [10, 11] (by kernel_rfl) (by simp) (AllReadyT.cons rfl (fun K hK => ?_) (AllReadyT.cons rfl (fun K hK => ?_) AllReadyT.nil))
        · go_simp
          refine (MulV (sbN y t) (adN x z) _ (sbN_lt _ _) (adN_lt _ _)).mono ?_
          rintro e x3 ⟨rfl, hx3⟩
          refine hK.out _ _ (fun _ => hkeep _ (by (repeat (first | exact c_refl _ | refine c_drew ?_ | refine c_alloc ?_ _ | refine c_row ?_ (by first | omega | exact Nat.le_refl _) _ | refine c_call ?_ (by assumption))); first | done | fail "open")) ?_
          clear hK K
          have hN3 := hN2.call hx3
          refine oneT 11 (by kernel_rfl) rfl (fun K hK => ?_)
          go_simp
          refine hK.out _ _ (fun _ => hkeep _ (by (repeat (first | exact c_refl _ | refine c_drew ?_ | refine c_alloc ?_ _ | refine c_row ?_ (by first | omega | exact Nat.le_refl _) _ | refine c_call ?_ (by assumption))); first | done | fail "open")) ?_
          clear hK K
          have hN4 := hN3.box 47 #[.int .u64 0, .int .u64 0, .int .u64 0, .int .u64 0, .int .u64 0, .int .u64 0, .int .u64 0, .int .u64 0, .int .u64 0, .int .u64 0, .int .u64 0, .int .u64 0, .int .u64 0, .int .u64 0, .int .u64 0, .int .u64 0]
          have hnx := fun p hp => Nat.ne_of_lt ((hN3.rows p hp).lt)
          have hgx := hN3.old.size
          refine oneT 12 (by kernel_rfl) rfl (fun K hK => ?_)
          refine step_store_row rfl 47 (.tmp 7) (.tmp 21) rfl (x3.heap.size) (numV (mlN (sbN y t) (adN x z))).toArray rfl rfl 47 _ (hN4.get 0 rfl) (sizeVA _) (zeroV _) (oneV _) ?_
          refine hK.out _ _ (fun h => absurd rfl h) ?_
          clear hK K
          refine doneT (by kernel_rfl) ?_ _
          go_wp2_with fail
          go_meet
          exact ⟨_, rfl, Ms.set hN4 hgx hnx _⟩
        · go_simp
          refine hK.out _ _ (fun _ => hkeep _ (by (repeat (first | exact c_refl _ | refine c_drew ?_ | refine c_alloc ?_ _ | refine c_row ?_ (by first | omega | exact Nat.le_refl _) _ | refine c_call ?_ (by assumption))); first | done | fail "open")) ?_
          clear hK K
          have hN3 := hN2.box 47 #[.int .u64 0, .int .u64 0, .int .u64 0, .int .u64 0, .int .u64 0, .int .u64 0, .int .u64 0, .int .u64 0, .int .u64 0, .int .u64 0, .int .u64 0, .int .u64 0, .int .u64 0, .int .u64 0, .int .u64 0, .int .u64 0]
          have hnx := fun p hp => Nat.ne_of_lt ((hN2.rows p hp).lt)
          have hgx := hN2.old.size
          refine oneT 10 (by kernel_rfl) rfl (fun K hK => ?_)
          go_simp
          refine (MulV (sbN y t) (adN x z) _ (sbN_lt _ _) (adN_lt _ _)).mono ?_
          rintro e x4 ⟨rfl, hx4⟩
          refine hK.out _ _ (fun _ => hkeep _ (by (repeat (first | exact c_refl _ | refine c_drew ?_ | refine c_alloc ?_ _ | refine c_row ?_ (by first | omega | exact Nat.le_refl _) _ | refine c_call ?_ (by assumption))); first | done | fail "open")) ?_
          clear hK K
          have hN4 := hN3.call hx4
          refine oneT 12 (by kernel_rfl) rfl (fun K hK => ?_)
          refine step_store_row rfl 47 (.tmp 7) (.tmp 21) rfl (x2.heap.size) (numV (mlN (sbN y t) (adN x z))).toArray rfl rfl 47 _ (hN4.get 0 rfl) (sizeVA _) (zeroV _) (oneV _) ?_
          refine hK.out _ _ (fun h => absurd rfl h) ?_
          clear hK K
          refine doneT (by kernel_rfl) ?_ _
          go_wp2_with fail
          go_meet
          exact ⟨_, rfl, Ms.set hN4 hgx hnx _⟩
      · go_simp
        refine hK.out _ _ (fun _ => hkeep _ (by (repeat (first | exact c_refl _ | refine c_drew ?_ | refine c_alloc ?_ _ | refine c_row ?_ (by first | omega | exact Nat.le_refl _) _ | refine c_call ?_ (by assumption))); first | done | fail "open")) ?_
        clear hK K
        have hN2 := hN1.box 47 #[.int .u64 0, .int .u64 0, .int .u64 0, .int .u64 0, .int .u64 0, .int .u64 0, .int .u64 0, .int .u64 0, .int .u64 0, .int .u64 0, .int .u64 0, .int .u64 0, .int .u64 0, .int .u64 0, .int .u64 0, .int .u64 0]
        have hnx := fun p hp => Nat.ne_of_lt ((hN1.rows p hp).lt)
        have hgx := hN1.old.size
        refine oneT 9 (by kernel_rfl) rfl (fun K hK => ?_)
        go_simp
        refine (AddV x z _ hx hz).mono ?_
        rintro e x3 ⟨rfl, hx3⟩
        refine hK.out _ _ (fun _ => hkeep _ (by (repeat (first | exact c_refl _ | refine c_drew ?_ | refine c_alloc ?_ _ | refine c_row ?_ (by first | omega | exact Nat.le_refl _) _ | refine c_call ?_ (by assumption))); first | done | fail "open")) ?_
        clear hK K
        have hN3 := hN2.call hx3
        refine oneT 10 (by kernel_rfl) rfl (fun K hK => ?_)
        go_simp
        refine (MulV (sbN y t) (adN x z) _ (sbN_lt _ _) (adN_lt _ _)).mono ?_
        rintro e x4 ⟨rfl, hx4⟩
        refine hK.out _ _ (fun _ => hkeep _ (by (repeat (first | exact c_refl _ | refine c_drew ?_ | refine c_alloc ?_ _ | refine c_row ?_ (by first | omega | exact Nat.le_refl _) _ | refine c_call ?_ (by assumption))); first | done | fail "open")) ?_
        clear hK K
        have hN4 := hN3.call hx4
        refine oneT 12 (by kernel_rfl) rfl (fun K hK => ?_)
        refine step_store_row rfl 47 (.tmp 7) (.tmp 21) rfl (x1.heap.size) (numV (mlN (sbN y t) (adN x z))).toArray rfl rfl 47 _ (hN4.get 0 rfl) (sizeVA _) (zeroV _) (oneV _) ?_
        refine hK.out _ _ (fun h => absurd rfl h) ?_
        clear hK K
        refine doneT (by kernel_rfl) ?_ _
        go_wp2_with fail
        go_meet
        exact ⟨_, rfl, Ms.set hN4 hgx hnx _⟩
    · go_simp
      refine hK.out _ _ (fun _ => hkeep _ (by (repeat (first | exact c_refl _ | refine c_drew ?_ | refine c_alloc ?_ _ | refine c_row ?_ (by first | omega | exact Nat.le_refl _) _ | refine c_call ?_ (by assumption))); first | done | fail "open")) ?_
      clear hK K
      have hN1 := hD.box 47 #[.int .u64 0, .int .u64 0, .int .u64 0, .int .u64 0, .int .u64 0, .int .u64 0, .int .u64 0, .int .u64 0, .int .u64 0, .int .u64 0, .int .u64 0, .int .u64 0, .int .u64 0, .int .u64 0, .int .u64 0, .int .u64 0]
      have hnx := fun p hp => Nat.ne_of_lt ((hD.rows p hp).lt)
      have hgx := hD.old.size
      refine oneT 4 (by kernel_rfl) rfl (fun K hK => ?_)
      go_simp
      refine (SubV y t _ hy ht).mono ?_
      rintro e x2 ⟨rfl, hx2⟩
      refine hK.out _ _ (fun _ => hkeep _ (by (repeat (first | exact c_refl _ | refine c_drew ?_ | refine c_alloc ?_ _ | refine c_row ?_ (by first | omega | exact Nat.le_refl _) _ | refine c_call ?_ (by assumption))); first | done | fail "open")) ?_
      clear hK K
      have hN2 := hN1.call hx2
      refine oneT 9 (by kernel_rfl) rfl (fun K hK => ?_)
      go_simp
      refine (AddV x z _ hx hz).mono ?_
      rintro e x3 ⟨rfl, hx3⟩
      refine hK.out _ _ (fun _ => hkeep _ (by (repeat (first | exact c_refl _ | refine c_drew ?_ | refine c_alloc ?_ _ | refine c_row ?_ (by first | omega | exact Nat.le_refl _) _ | refine c_call ?_ (by assumption))); first | done | fail "open")) ?_
      clear hK K
      have hN3 := hN2.call hx3
      refine oneT 10 (by kernel_rfl) rfl (fun K hK => ?_)
      go_simp
      refine (MulV (sbN y t) (adN x z) _ (sbN_lt _ _) (adN_lt _ _)).mono ?_
      rintro e x4 ⟨rfl, hx4⟩
      refine hK.out _ _ (fun _ => hkeep _ (by (repeat (first | exact c_refl _ | refine c_drew ?_ | refine c_alloc ?_ _ | refine c_row ?_ (by first | omega | exact Nat.le_refl _) _ | refine c_call ?_ (by assumption))); first | done | fail "open")) ?_
      clear hK K
      have hN4 := hN3.call hx4
      refine oneT 12 (by kernel_rfl) rfl (fun K hK => ?_)
      refine step_store_row rfl 47 (.tmp 7) (.tmp 21) rfl (v0.drew.heap.size) (numV (mlN (sbN y t) (adN x z))).toArray rfl rfl 47 _ (hN4.get 0 rfl) (sizeVA _) (zeroV _) (oneV _) ?_
      refine hK.out _ _ (fun h => absurd rfl h) ?_
      clear hK K
      refine doneT (by kernel_rfl) ?_ _
      go_wp2_with fail
      go_meet
      exact ⟨_, rfl, Ms.set hN4 hgx hnx _⟩
  case rest =>
  obtain ⟨gD, rfl, hMc1⟩ := hcut
  clear hMv0
  go_upto_region 2 with (fail)
  go_cut [8] (fun p wx => ∃ g : Nat, p = .pointer (some ⟨g, 0, none⟩) ∧ Ms w wx [(g, 47, (numV (mlN (adN y t) (sbN x z))).toArray), (gD, 47, (numV (mlN (sbN y t) (adN x z))).toArray), (w.heap.size + 1 + 1 + 1, 50, #[.int .u64 0, .int .u64 0, .int .u64 0, .int .u64 0, .int .u64 0, .int .u64 0, .int .u64 0, .int .u64 0, .int .u64 0, .int .u64 0, .int .u64 0, .int .u64 0, .int .u64 0, .int .u64 0, .int .u64 0, .int .u64 0, .int .u64 0, .int .u64 0, .int .u64 0, .int .u64 0, .int .u64 0, .int .u64 0, .int .u64 0, .int .u64 0, .int .u64 0, .int .u64 0, .int .u64 0, .int .u64 0, .int .u64 0, .int .u64 0, .int .u64 0, .int .u64 0]), (w.heap.size + 1 + 1, 50, (pairV y t).toArray), (w.heap.size + 1, 50, (pairV x z).toArray), (w.heap.size, 47, (numV u).toArray)])
  case first =>
    have hkeep : ∀ wx : World, Below wc.heap.size wc wx → wx.rangeAt (w.heap.size + 1 + 1) 0 (numV y) ∧ wx.rangeAt (w.heap.size + 1 + 1) 16 (numV t) ∧ wx.rangeAt (w.heap.size + 1) 0 (numV x) ∧ wx.rangeAt (w.heap.size + 1) 16 (numV z) := fun wx hb => ⟨((hMc1.get 2 rfl).call hb).fst, ((hMc1.get 2 rfl).call hb).snd, ((hMc1.get 3 rfl).call hb).fst, ((hMc1.get 3 rfl).call hb).snd⟩
    have hun := Try.underlying47
    refine beginT (fun wx => wx.rangeAt (w.heap.size + 1 + 1) 0 (numV y) ∧ wx.rangeAt (w.heap.size + 1 + 1) 16 (numV t) ∧ wx.rangeAt (w.heap.size + 1) 0 (numV x) ∧ wx.rangeAt (w.heap.size + 1) 16 (numV z)) 12 (by kernel_rfl) ?_
    have hS := hkeep _ (c_drew (c_refl _))
    refine takeD 0 (some 22) (.pointer (some ⟨w.heap.size + 1 + 1, 0, none⟩)) rfl rfl (by kernel_rfl) (by kernel_rfl) (by kernel_rfl) (by kernel_rfl) (fun _ _ _ h => h) (Or.inl ⟨by kernel_rfl, fun wx hSw => by go_simp⟩) hS ?_
    simp only [Act.put, List.setIfInBounds_toArray, List.set_cons_zero, List.set_cons_succ]
    refine loadT 1 (some 23) 47 (.tmp 22) (w.heap.size + 1 + 1) 0 (numV y) rfl rfl (by kernel_rfl) (by kernel_rfl) (by kernel_rfl) (by kernel_rfl) rfl (by kernel_rfl) rfl (fun wx hSw => hSw.1) hun rfl (sizeV _) (fun _ _ _ h => h) hS ?_
    simp only [Act.put, List.setIfInBounds_toArray, List.set_cons_zero, List.set_cons_succ]
    refine takeD 2 (some 24) (.pointer (some ⟨w.heap.size + 1 + 1, 16, none⟩)) rfl rfl (by kernel_rfl) (by kernel_rfl) (by kernel_rfl) (by kernel_rfl) (fun _ _ _ h => h) (Or.inl ⟨by kernel_rfl, fun wx hSw => by go_simp⟩) hS ?_
    simp only [Act.put, List.setIfInBounds_toArray, List.set_cons_zero, List.set_cons_succ]
    refine loadT 3 (some 25) 47 (.tmp 24) (w.heap.size + 1 + 1) 16 (numV t) rfl rfl (by kernel_rfl) (by kernel_rfl) (by kernel_rfl) (by kernel_rfl) rfl (by kernel_rfl) rfl (fun wx hSw => hSw.2.1) hun rfl (sizeV _) (fun _ _ _ h => h) hS ?_
    simp only [Act.put, List.setIfInBounds_toArray, List.set_cons_zero, List.set_cons_succ]
    refine takeD 5 (some 27) (.pointer (some ⟨w.heap.size + 1, 0, none⟩)) rfl rfl (by kernel_rfl) (by kernel_rfl) (by kernel_rfl) (by kernel_rfl) (fun _ _ _ h => h) (Or.inl ⟨by kernel_rfl, fun wx hSw => by go_simp⟩) hS ?_
    simp only [Act.put, List.setIfInBounds_toArray, List.set_cons_zero, List.set_cons_succ]
    refine loadT 6 (some 28) 47 (.tmp 27) (w.heap.size + 1) 0 (numV x) rfl rfl (by kernel_rfl) (by kernel_rfl) (by kernel_rfl) (by kernel_rfl) rfl (by kernel_rfl) rfl (fun wx hSw => hSw.2.2.1) hun rfl (sizeV _) (fun _ _ _ h => h) hS ?_
    simp only [Act.put, List.setIfInBounds_toArray, List.set_cons_zero, List.set_cons_succ]
    refine takeD 7 (some 29) (.pointer (some ⟨w.heap.size + 1, 16, none⟩)) rfl rfl (by kernel_rfl) (by kernel_rfl) (by kernel_rfl) (by kernel_rfl) (fun _ _ _ h => h) (Or.inl ⟨by kernel_rfl, fun wx hSw => by go_simp⟩) hS ?_
    simp only [Act.put, List.setIfInBounds_toArray, List.set_cons_zero, List.set_cons_succ]
    refine loadT 8 (some 30) 47 (.tmp 29) (w.heap.size + 1) 16 (numV z) rfl rfl (by kernel_rfl) (by kernel_rfl) (by kernel_rfl) (by kernel_rfl) rfl (by kernel_rfl) rfl (fun wx hSw => hSw.2.2.2) hun rfl (sizeV _) (fun _ _ _ h => h) hS ?_
    simp only [Act.put, List.setIfInBounds_toArray, List.set_cons_zero, List.set_cons_succ]
    have hD := hMc1.drew
    refine readyT [4, 11] (by kernel_rfl) (by simp) (AllReadyT.cons rfl (fun K hK => ?_) (AllReadyT.cons rfl (fun K hK => ?_) AllReadyT.nil))
    · go_simp
      refine (AddV y t _ hy ht).mono ?_
      rintro e x1 ⟨rfl, hx1⟩
      refine hK.out _ _ (fun _ => hkeep _ (by (repeat (first | exact c_refl _ | refine c_drew ?_ | refine c_alloc ?_ _ | refine c_row ?_ (by first | omega | exact Nat.le_refl _) _ | refine c_call ?_ (by assumption))); first | done | fail "open")) ?_
      clear hK K
      have hN1 := hD.call hx1
      refine readyT [9, 11] (by kernel_rfl) (by simp) (AllReadyT.cons rfl (fun K hK => ?_) (AllReadyT.cons rfl (fun K hK => ?_) AllReadyT.nil))
      · go_simp
        refine (SubV x z _ hx hz).mono ?_
        rintro e x2 ⟨rfl, hx2⟩
        refine hK.out _ _ (fun _ => hkeep _ (by (repeat (first | exact c_refl _ | refine c_drew ?_ | refine c_alloc ?_ _ | refine c_row ?_ (by first | omega | exact Nat.le_refl _) _ | refine c_call ?_ (by assumption))); first | done | fail "open")) ?_
        clear hK K
        have hN2 := hN1.call hx2
        refine readyT [10, 11] (by kernel_rfl) (by simp) (AllReadyT.cons rfl (fun K hK => ?_) (AllReadyT.cons rfl (fun K hK => ?_) AllReadyT.nil))
        · go_simp
          refine (MulV (adN y t) (sbN x z) _ (adN_lt _ _) (sbN_lt _ _)).mono ?_
          rintro e x3 ⟨rfl, hx3⟩
          refine hK.out _ _ (fun _ => hkeep _ (by (repeat (first | exact c_refl _ | refine c_drew ?_ | refine c_alloc ?_ _ | refine c_row ?_ (by first | omega | exact Nat.le_refl _) _ | refine c_call ?_ (by assumption))); first | done | fail "open")) ?_
          clear hK K
          have hN3 := hN2.call hx3
          refine oneT 11 (by kernel_rfl) rfl (fun K hK => ?_)
          go_simp
          refine hK.out _ _ (fun _ => hkeep _ (by (repeat (first | exact c_refl _ | refine c_drew ?_ | refine c_alloc ?_ _ | refine c_row ?_ (by first | omega | exact Nat.le_refl _) _ | refine c_call ?_ (by assumption))); first | done | fail "open")) ?_
          clear hK K
          have hN4 := hN3.box 47 #[.int .u64 0, .int .u64 0, .int .u64 0, .int .u64 0, .int .u64 0, .int .u64 0, .int .u64 0, .int .u64 0, .int .u64 0, .int .u64 0, .int .u64 0, .int .u64 0, .int .u64 0, .int .u64 0, .int .u64 0, .int .u64 0]
          have hnx := fun p hp => Nat.ne_of_lt ((hN3.rows p hp).lt)
          have hgx := hN3.old.size
          refine oneT 12 (by kernel_rfl) rfl (fun K hK => ?_)
          refine step_store_row rfl 47 (.tmp 8) (.tmp 32) rfl (x3.heap.size) (numV (mlN (adN y t) (sbN x z))).toArray rfl rfl 47 _ (hN4.get 0 rfl) (sizeVA _) (zeroV _) (oneV _) ?_
          refine hK.out _ _ (fun h => absurd rfl h) ?_
          clear hK K
          refine doneT (by kernel_rfl) ?_ _
          go_wp2_with fail
          go_meet
          exact ⟨_, rfl, Ms.set hN4 hgx hnx _⟩
        · go_simp
          refine hK.out _ _ (fun _ => hkeep _ (by (repeat (first | exact c_refl _ | refine c_drew ?_ | refine c_alloc ?_ _ | refine c_row ?_ (by first | omega | exact Nat.le_refl _) _ | refine c_call ?_ (by assumption))); first | done | fail "open")) ?_
          clear hK K
          have hN3 := hN2.box 47 #[.int .u64 0, .int .u64 0, .int .u64 0, .int .u64 0, .int .u64 0, .int .u64 0, .int .u64 0, .int .u64 0, .int .u64 0, .int .u64 0, .int .u64 0, .int .u64 0, .int .u64 0, .int .u64 0, .int .u64 0, .int .u64 0]
          have hnx := fun p hp => Nat.ne_of_lt ((hN2.rows p hp).lt)
          have hgx := hN2.old.size
          refine oneT 10 (by kernel_rfl) rfl (fun K hK => ?_)
          go_simp
          refine (MulV (adN y t) (sbN x z) _ (adN_lt _ _) (sbN_lt _ _)).mono ?_
          rintro e x4 ⟨rfl, hx4⟩
          refine hK.out _ _ (fun _ => hkeep _ (by (repeat (first | exact c_refl _ | refine c_drew ?_ | refine c_alloc ?_ _ | refine c_row ?_ (by first | omega | exact Nat.le_refl _) _ | refine c_call ?_ (by assumption))); first | done | fail "open")) ?_
          clear hK K
          have hN4 := hN3.call hx4
          refine oneT 12 (by kernel_rfl) rfl (fun K hK => ?_)
          refine step_store_row rfl 47 (.tmp 8) (.tmp 32) rfl (x2.heap.size) (numV (mlN (adN y t) (sbN x z))).toArray rfl rfl 47 _ (hN4.get 0 rfl) (sizeVA _) (zeroV _) (oneV _) ?_
          refine hK.out _ _ (fun h => absurd rfl h) ?_
          clear hK K
          refine doneT (by kernel_rfl) ?_ _
          go_wp2_with fail
          go_meet
          exact ⟨_, rfl, Ms.set hN4 hgx hnx _⟩
      · go_simp
        refine hK.out _ _ (fun _ => hkeep _ (by (repeat (first | exact c_refl _ | refine c_drew ?_ | refine c_alloc ?_ _ | refine c_row ?_ (by first | omega | exact Nat.le_refl _) _ | refine c_call ?_ (by assumption))); first | done | fail "open")) ?_
        clear hK K
        have hN2 := hN1.box 47 #[.int .u64 0, .int .u64 0, .int .u64 0, .int .u64 0, .int .u64 0, .int .u64 0, .int .u64 0, .int .u64 0, .int .u64 0, .int .u64 0, .int .u64 0, .int .u64 0, .int .u64 0, .int .u64 0, .int .u64 0, .int .u64 0]
        have hnx := fun p hp => Nat.ne_of_lt ((hN1.rows p hp).lt)
        have hgx := hN1.old.size
        refine oneT 9 (by kernel_rfl) rfl (fun K hK => ?_)
        go_simp
        refine (SubV x z _ hx hz).mono ?_
        rintro e x3 ⟨rfl, hx3⟩
        refine hK.out _ _ (fun _ => hkeep _ (by (repeat (first | exact c_refl _ | refine c_drew ?_ | refine c_alloc ?_ _ | refine c_row ?_ (by first | omega | exact Nat.le_refl _) _ | refine c_call ?_ (by assumption))); first | done | fail "open")) ?_
        clear hK K
        have hN3 := hN2.call hx3
        refine oneT 10 (by kernel_rfl) rfl (fun K hK => ?_)
        go_simp
        refine (MulV (adN y t) (sbN x z) _ (adN_lt _ _) (sbN_lt _ _)).mono ?_
        rintro e x4 ⟨rfl, hx4⟩
        refine hK.out _ _ (fun _ => hkeep _ (by (repeat (first | exact c_refl _ | refine c_drew ?_ | refine c_alloc ?_ _ | refine c_row ?_ (by first | omega | exact Nat.le_refl _) _ | refine c_call ?_ (by assumption))); first | done | fail "open")) ?_
        clear hK K
        have hN4 := hN3.call hx4
        refine oneT 12 (by kernel_rfl) rfl (fun K hK => ?_)
        refine step_store_row rfl 47 (.tmp 8) (.tmp 32) rfl (x1.heap.size) (numV (mlN (adN y t) (sbN x z))).toArray rfl rfl 47 _ (hN4.get 0 rfl) (sizeVA _) (zeroV _) (oneV _) ?_
        refine hK.out _ _ (fun h => absurd rfl h) ?_
        clear hK K
        refine doneT (by kernel_rfl) ?_ _
        go_wp2_with fail
        go_meet
        exact ⟨_, rfl, Ms.set hN4 hgx hnx _⟩
    · go_simp
      refine hK.out _ _ (fun _ => hkeep _ (by (repeat (first | exact c_refl _ | refine c_drew ?_ | refine c_alloc ?_ _ | refine c_row ?_ (by first | omega | exact Nat.le_refl _) _ | refine c_call ?_ (by assumption))); first | done | fail "open")) ?_
      clear hK K
      have hN1 := hD.box 47 #[.int .u64 0, .int .u64 0, .int .u64 0, .int .u64 0, .int .u64 0, .int .u64 0, .int .u64 0, .int .u64 0, .int .u64 0, .int .u64 0, .int .u64 0, .int .u64 0, .int .u64 0, .int .u64 0, .int .u64 0, .int .u64 0]
      have hnx := fun p hp => Nat.ne_of_lt ((hD.rows p hp).lt)
      have hgx := hD.old.size
      refine oneT 4 (by kernel_rfl) rfl (fun K hK => ?_)
      go_simp
      refine (AddV y t _ hy ht).mono ?_
      rintro e x2 ⟨rfl, hx2⟩
      refine hK.out _ _ (fun _ => hkeep _ (by (repeat (first | exact c_refl _ | refine c_drew ?_ | refine c_alloc ?_ _ | refine c_row ?_ (by first | omega | exact Nat.le_refl _) _ | refine c_call ?_ (by assumption))); first | done | fail "open")) ?_
      clear hK K
      have hN2 := hN1.call hx2
      refine oneT 9 (by kernel_rfl) rfl (fun K hK => ?_)
      go_simp
      refine (SubV x z _ hx hz).mono ?_
      rintro e x3 ⟨rfl, hx3⟩
      refine hK.out _ _ (fun _ => hkeep _ (by (repeat (first | exact c_refl _ | refine c_drew ?_ | refine c_alloc ?_ _ | refine c_row ?_ (by first | omega | exact Nat.le_refl _) _ | refine c_call ?_ (by assumption))); first | done | fail "open")) ?_
      clear hK K
      have hN3 := hN2.call hx3
      refine oneT 10 (by kernel_rfl) rfl (fun K hK => ?_)
      go_simp
      refine (MulV (adN y t) (sbN x z) _ (adN_lt _ _) (sbN_lt _ _)).mono ?_
      rintro e x4 ⟨rfl, hx4⟩
      refine hK.out _ _ (fun _ => hkeep _ (by (repeat (first | exact c_refl _ | refine c_drew ?_ | refine c_alloc ?_ _ | refine c_row ?_ (by first | omega | exact Nat.le_refl _) _ | refine c_call ?_ (by assumption))); first | done | fail "open")) ?_
      clear hK K
      have hN4 := hN3.call hx4
      refine oneT 12 (by kernel_rfl) rfl (fun K hK => ?_)
      refine step_store_row rfl 47 (.tmp 8) (.tmp 32) rfl (wc.drew.heap.size) (numV (mlN (adN y t) (sbN x z))).toArray rfl rfl 47 _ (hN4.get 0 rfl) (sizeVA _) (zeroV _) (oneV _) ?_
      refine hK.out _ _ (fun h => absurd rfl h) ?_
      clear hK K
      refine doneT (by kernel_rfl) ?_ _
      go_wp2_with fail
      go_meet
      exact ⟨_, rfl, Ms.set hN4 hgx hnx _⟩
  case rest =>
  obtain ⟨gC, rfl, hMc2⟩ := hcut
  clear hMc1
  clear hx hy hz ht
  go_wp2_with (first
    | ((with_reducible show wpList _ _ _ (⟨some 33, _, _, _, _, _⟩ :: _) _ _); refine wpList_loadC (by kernel_rfl) 47 (.tmp 7) rfl (gD) rfl 47 (numV (mlN (sbN y t) (adN x z))).toArray _ (hMc2.get 1 rfl) Try.underlying47 rfl (sizeVA _) ?_)
    | ((with_reducible show wpList _ _ _ (⟨some 34, _, _, _, _, _⟩ :: _) _ _); refine wpList_loadC (by kernel_rfl) 47 (.tmp 8) rfl (gC) rfl 47 (numV (mlN (adN y t) (sbN x z))).toArray _ (hMc2.get 0 rfl) Try.underlying47 rfl (sizeVA _) ?_))
  refine (AddV (mlN (sbN y t) (adN x z)) (mlN (adN y t) (sbN x z)) _ (mlN_lt _ _) (mlN_lt _ _)).mono ?_
  rintro e w11 ⟨rfl, hb11⟩
  have hM11 := hMc2.call hb11
  clear hMc2 hb11
  have hP11 := hM11.put 47 #[.int .u64 0, .int .u64 0, .int .u64 0, .int .u64 0, .int .u64 0, .int .u64 0, .int .u64 0, .int .u64 0, .int .u64 0, .int .u64 0, .int .u64 0, .int .u64 0, .int .u64 0, .int .u64 0, .int .u64 0, .int .u64 0] (numV (adN (mlN (sbN y t) (adN x z)) (mlN (adN y t) (sbN x z)))).toArray
  go_wp2_with (first
    | ((with_reducible show wpList _ _ _ (⟨none, Op.store 47 _ _, _, _, _, _⟩ :: _) _ _); refine wpList_store_row rfl 47 (.tmp 9) (.tmp 35) rfl (w11.heap.size) (numV (adN (mlN (sbN y t) (adN x z)) (mlN (adN y t) (sbN x z)))).toArray rfl rfl 47 _ (RowC.new _ _ _) (sizeVA _) (zeroV _) (oneV _) ?_)
    | ((with_reducible show wpList _ _ _ (⟨some 36, _, _, _, _, _⟩ :: _) _ _); refine wpList_loadC (by kernel_rfl) 47 (.tmp 7) rfl (gD) rfl 47 (numV (mlN (sbN y t) (adN x z))).toArray _ (hP11.get 2 rfl) Try.underlying47 rfl (sizeVA _) ?_)
    | ((with_reducible show wpList _ _ _ (⟨some 37, _, _, _, _, _⟩ :: _) _ _); refine wpList_loadC (by kernel_rfl) 47 (.tmp 8) rfl (gC) rfl 47 (numV (mlN (adN y t) (sbN x z))).toArray _ (hP11.get 1 rfl) Try.underlying47 rfl (sizeVA _) ?_))
  refine (SubV (mlN (sbN y t) (adN x z)) (mlN (adN y t) (sbN x z)) _ (mlN_lt _ _) (mlN_lt _ _)).mono ?_
  rintro e w12 ⟨rfl, hb12⟩
  have hM12 := hP11.call hb12
  clear hP11 hb12
  have hP12 := hM12.put 47 #[.int .u64 0, .int .u64 0, .int .u64 0, .int .u64 0, .int .u64 0, .int .u64 0, .int .u64 0, .int .u64 0, .int .u64 0, .int .u64 0, .int .u64 0, .int .u64 0, .int .u64 0, .int .u64 0, .int .u64 0, .int .u64 0] (numV (sbN (mlN (sbN y t) (adN x z)) (mlN (adN y t) (sbN x z)))).toArray
  go_upto_region 5 with ((with_reducible show wpList _ _ _ (⟨none, Op.store 47 _ _, _, _, _, _⟩ :: _) _ _); refine wpList_store_row rfl 47 (.tmp 10) (.tmp 38) rfl (w12.heap.size) (numV (sbN (mlN (sbN y t) (adN x z)) (mlN (adN y t) (sbN x z)))).toArray rfl rfl 47 _ (RowC.new _ _ _) (sizeVA _) (zeroV _) (oneV _) ?_)
  refine wp_gen (fun wx => Ms w wx [(w12.heap.size, 47, (numV (sbN (mlN (sbN y t) (adN x z)) (mlN (adN y t) (sbN x z)))).toArray), (w11.heap.size, 47, (numV (adN (mlN (sbN y t) (adN x z)) (mlN (adN y t) (sbN x z)))).toArray), (gC, 47, (numV (mlN (adN y t) (sbN x z))).toArray), (gD, 47, (numV (mlN (sbN y t) (adN x z))).toArray), (w.heap.size + 1 + 1 + 1, 50, #[.int .u64 0, .int .u64 0, .int .u64 0, .int .u64 0, .int .u64 0, .int .u64 0, .int .u64 0, .int .u64 0, .int .u64 0, .int .u64 0, .int .u64 0, .int .u64 0, .int .u64 0, .int .u64 0, .int .u64 0, .int .u64 0, .int .u64 0, .int .u64 0, .int .u64 0, .int .u64 0, .int .u64 0, .int .u64 0, .int .u64 0, .int .u64 0, .int .u64 0, .int .u64 0, .int .u64 0, .int .u64 0, .int .u64 0, .int .u64 0, .int .u64 0, .int .u64 0]), (w.heap.size + 1 + 1, 50, (pairV y t).toArray), (w.heap.size + 1, 50, (pairV x z).toArray), (w.heap.size, 47, (numV u).toArray)]) hP12 ?_
  clear hP12
  rintro v13 hMv13
  generalize w11.heap.size = gS at *
  generalize w12.heap.size = gL at *
  have hkeep : ∀ wx : World, Below v13.heap.size v13 wx → wx.rangeAt (gS) 0 (numV (adN (mlN (sbN y t) (adN x z)) (mlN (adN y t) (sbN x z)))) ∧ wx.rangeAt (gL) 0 (numV (sbN (mlN (sbN y t) (adN x z)) (mlN (adN y t) (sbN x z)))) ∧ wx.rangeAt (w.heap.size) 0 (numV u) := fun wx hb => ⟨((hMv13.get 1 rfl).call hb).range, ((hMv13.get 0 rfl).call hb).range, ((hMv13.get 7 rfl).call hb).range⟩
  have hun := Try.underlying47
  refine beginT (fun wx => wx.rangeAt (gS) 0 (numV (adN (mlN (sbN y t) (adN x z)) (mlN (adN y t) (sbN x z)))) ∧ wx.rangeAt (gL) 0 (numV (sbN (mlN (sbN y t) (adN x z)) (mlN (adN y t) (sbN x z)))) ∧ wx.rangeAt (w.heap.size) 0 (numV u)) 9 (by kernel_rfl) ?_
  have hS := hkeep _ (c_drew (c_refl _))
  refine loadT 0 (some 39) 47 (.tmp 9) gS 0 (numV (adN (mlN (sbN y t) (adN x z)) (mlN (adN y t) (sbN x z)))) rfl rfl (by kernel_rfl) (by kernel_rfl) (by kernel_rfl) (by kernel_rfl) rfl (by kernel_rfl) rfl (fun wx hSw => hSw.1) hun rfl (sizeV _) (fun _ _ _ h => h) hS ?_
  simp only [Act.put, List.setIfInBounds_toArray, List.set_cons_zero, List.set_cons_succ]
  refine loadT 1 (some 40) 47 (.tmp 9) gS 0 (numV (adN (mlN (sbN y t) (adN x z)) (mlN (adN y t) (sbN x z)))) rfl rfl (by kernel_rfl) (by kernel_rfl) (by kernel_rfl) (by kernel_rfl) rfl (by kernel_rfl) rfl (fun wx hSw => hSw.1) hun rfl (sizeV _) (fun _ _ _ h => h) hS ?_
  simp only [Act.put, List.setIfInBounds_toArray, List.set_cons_zero, List.set_cons_succ]
  refine loadT 3 (some 42) 47 (.tmp 3) w.heap.size 0 (numV u) rfl rfl (by kernel_rfl) (by kernel_rfl) (by kernel_rfl) (by kernel_rfl) rfl (by kernel_rfl) rfl (fun wx hSw => hSw.2.2) hun rfl (sizeV _) (fun _ _ _ h => h) hS ?_
  simp only [Act.put, List.setIfInBounds_toArray, List.set_cons_zero, List.set_cons_succ]
  refine loadT 4 (some 43) 47 (.tmp 10) gL 0 (numV (sbN (mlN (sbN y t) (adN x z)) (mlN (adN y t) (sbN x z)))) rfl rfl (by kernel_rfl) (by kernel_rfl) (by kernel_rfl) (by kernel_rfl) rfl (by kernel_rfl) rfl (fun wx hSw => hSw.2.1) hun rfl (sizeV _) (fun _ _ _ h => h) hS ?_
  simp only [Act.put, List.setIfInBounds_toArray, List.set_cons_zero, List.set_cons_succ]
  refine loadT 5 (some 44) 47 (.tmp 10) gL 0 (numV (sbN (mlN (sbN y t) (adN x z)) (mlN (adN y t) (sbN x z)))) rfl rfl (by kernel_rfl) (by kernel_rfl) (by kernel_rfl) (by kernel_rfl) rfl (by kernel_rfl) rfl (fun wx hSw => hSw.2.1) hun rfl (sizeV _) (fun _ _ _ h => h) hS ?_
  simp only [Act.put, List.setIfInBounds_toArray, List.set_cons_zero, List.set_cons_succ]
  refine oneT 2 (by kernel_rfl) rfl (fun K hK => ?_)
  go_simp
  refine (MulV (adN (mlN (sbN y t) (adN x z)) (mlN (adN y t) (sbN x z))) (adN (mlN (sbN y t) (adN x z)) (mlN (adN y t) (sbN x z))) _ (adN_lt _ _) (adN_lt _ _)).mono ?_
  rintro e x1 ⟨rfl, hx1⟩
  refine hK.out _ _ (fun _ => hkeep _ (by (repeat (first | exact c_refl _ | refine c_drew ?_ | refine c_alloc ?_ _ | refine c_row ?_ (by first | omega | exact Nat.le_refl _) _ | refine c_call ?_ (by assumption))); first | done | fail "open")) ?_
  clear hK K
  refine oneT 6 (by kernel_rfl) rfl (fun K hK => ?_)
  go_simp
  refine (MulV (sbN (mlN (sbN y t) (adN x z)) (mlN (adN y t) (sbN x z))) (sbN (mlN (sbN y t) (adN x z)) (mlN (adN y t) (sbN x z))) _ (sbN_lt _ _) (sbN_lt _ _)).mono ?_
  rintro e x2 ⟨rfl, hx2⟩
  refine hK.out _ _ (fun _ => hkeep _ (by (repeat (first | exact c_refl _ | refine c_drew ?_ | refine c_alloc ?_ _ | refine c_row ?_ (by first | omega | exact Nat.le_refl _) _ | refine c_call ?_ (by assumption))); first | done | fail "open")) ?_
  clear hK K
  refine oneT 7 (by kernel_rfl) rfl (fun K hK => ?_)
  go_simp
  refine (MulV u (mlN (sbN (mlN (sbN y t) (adN x z)) (mlN (adN y t) (sbN x z))) (sbN (mlN (sbN y t) (adN x z)) (mlN (adN y t) (sbN x z)))) _ hu (mlN_lt _ _)).mono ?_
  rintro e x3 ⟨rfl, hx3⟩
  refine hK.out _ _ (fun _ => hkeep _ (by (repeat (first | exact c_refl _ | refine c_drew ?_ | refine c_alloc ?_ _ | refine c_row ?_ (by first | omega | exact Nat.le_refl _) _ | refine c_call ?_ (by assumption))); first | done | fail "open")) ?_
  clear hK K
  refine oneT 8 (by kernel_rfl) rfl (fun K hK => ?_)
  refine step_build (by kernel_rfl) (some 47) rfl 50 _ rfl #[(0, .agg (numV (mlN (adN (mlN (sbN y t) (adN x z)) (mlN (adN y t) (sbN x z))) (adN (mlN (sbN y t) (adN x z)) (mlN (adN y t) (sbN x z))))).toArray), (1, .agg (numV (mlN u (mlN (sbN (mlN (sbN y t) (adN x z)) (mlN (adN y t) (sbN x z))) (sbN (mlN (sbN y t) (adN x z)) (mlN (adN y t) (sbN x z)))))).toArray)] (by kernel_rfl) _ (build_pair _ _ _) ?_
  simp only [Act.put, List.setIfInBounds_toArray, List.set_cons_zero, List.set_cons_succ]
  refine hK.out _ _ (fun _ => hkeep _ (by (repeat (first | exact c_refl _ | refine c_drew ?_ | refine c_alloc ?_ _ | refine c_row ?_ (by first | omega | exact Nat.le_refl _) _ | refine c_call ?_ (by assumption))); first | done | fail "open")) ?_
  clear hK K
  have hE : Below v13.heap.size v13 x3 := (by (repeat (first | exact c_refl _ | refine c_drew ?_ | refine c_alloc ?_ _ | refine c_row ?_ (by first | omega | exact Nat.le_refl _) _ | refine c_call ?_ (by assumption))); first | done | fail "open")
  have hM9 := hMv13.call hE
  refine oneT 9 (by kernel_rfl) rfl (fun K hK => ?_)
  refine step_store_row rfl 50 (.tmp 6) (.tmp 47) rfl (w.heap.size + 1 + 1 + 1) (pairV (mlN (adN (mlN (sbN y t) (adN x z)) (mlN (adN y t) (sbN x z))) (adN (mlN (sbN y t) (adN x z)) (mlN (adN y t) (sbN x z)))) (mlN u (mlN (sbN (mlN (sbN y t) (adN x z)) (mlN (adN y t) (sbN x z))) (sbN (mlN (sbN y t) (adN x z)) (mlN (adN y t) (sbN x z)))))).toArray rfl rfl 50 _ (hM9.get 4 rfl) (sizePA _ _) (zeroP _ _) (oneP _ _) ?_
  refine hK.out _ _ (fun h => absurd rfl h) ?_
  clear hK K
  refine doneT (by kernel_rfl) ?_ _
  go_wp2_with fail
  exact bodyPost_ret (results_cell_one rfl _ _ (w.heap.size + 1 + 1 + 1) 50 _ _ rfl ((hM9.get 4 rfl).row _) Try.underlying50 rfl (sizePA _ _)) rfl ⟨rfl, below_setRow hM9.old (by omega) _⟩

end Go.Proofs.Ytimgnpcojamafaa
