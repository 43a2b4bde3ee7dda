/-
  THE LADDER'S STEP of the program (the closure in Mult), over what its calls answer.
-/
import Derived.Test.YtimgnpcojamafaaCrvP
import Derived.Test.YtimgnpcojamafaaReg
set_option linter.unusedVariables false
namespace Go.Proofs.Ytimgnpcojamafaa
open Go.RowKit

/-- what a call of two numbers, and of one, answers -/
def Ans2 (f : FuncId) (a b c : Fe5) : Prop := ∀ w : World, Calls Try.prog f #[.agg (feC a), .agg (feC b)] w fun e w' => e = .returned (.agg (feC c)) ∧ Below w.heap.size w w'
def Ans1 (f : FuncId) (a c : Fe5) : Prop := ∀ w : World, Calls Try.prog f #[.agg (feC a)] w fun e w' => e = .returned (.agg (feC c)) ∧ Below w.heap.size w w'
/-- what is exchanged, or not -/
def AnsX (β : Int) (a b c d a' b' c' d' : Fe5) : Prop := ∀ w : World, Calls Try.prog 18 #[.agg (rtC a b), .agg (rtC c d), .int .u64 β] w fun e w' => e = .returned (.tuple #[.agg (rtC a' b'), .agg (rtC c' d')]) ∧ Below w.heap.size w w'
/-- the curve's number -/
def termF : Fe5 := ⟨121665, 0, 0, 0, 0⟩
theorem term_lit : feC termF = #[.int .u64 121665, .int .u64 0, .int .u64 0, .int .u64 0, .int .u64 0] := rfl
theorem build_term (w : World) : (Instr.build 35 #[(0, .int .u64 121665)]).run Try.prog w = .ok (.agg (feC termF)) w := by kernel_rfl
set_option maxRecDepth 100000 in
theorem build_rt (x z : Fe5) (w : World) : (Instr.build 38 #[(0, .agg (feC x)), (1, .agg (feC z))]).run Try.prog w = .ok (.agg (rtC x z)) w := by kernel_rfl
/-- a build of parts, as an operation of a region -/
theorem step_buildR {P : Program} {w : World} {ops : Array Oper} {o : Oper} {a : Act} {K : Act → World → Prop} {Q : Exit → Act → World → Prop} {E : Prop} (hgd : Region.wanted o (yielded ops a.tmps) = true) (dst : Option Tmp) (hd : o.dst = dst) (t : TypeId) (parts : Array (Nat × Operand)) (ho : o.op = .build t parts)
    (vals : Array (Nat × Value)) (hv : (parts.map fun (i, x) => (i, a.eval x)) = vals) (cells : Array Value) (hf : (Instr.build t vals).run P w = .ok (.agg cells) w)
    (h : K (a.put dst (.agg cells)) w) : if Region.wanted o (yielded ops a.tmps) = true then Oper.wp P o a w K Q else E := by
  subst hv hd
  rw [if_pos hgd]
  unfold Oper.wp execOp
  simp only [ho, Sem.run_bind, hf, Result.andThen_ok, Sem.run_pure]
  exact h
/-- the same, where it yields whatever the world -/
theorem yields_build {P : Program} {ops : Array Oper} {S : World → Prop} {o : Oper} {a : Act} (hgd : Region.wanted o (yielded ops a.tmps) = true) (t : TypeId) (parts : Array (Nat × Operand)) (ho : o.op = .build t parts)
    (vals : Array (Nat × Value)) (hv : (parts.map fun (i, x) => (i, a.eval x)) = vals) (cells : Array Value) (hf : ∀ w, (Instr.build t vals).run P w = .ok (.agg cells) w) : YieldsIf P ops S o (.agg cells) a := by
  subst hv
  refine Or.inl ⟨hgd, fun w _ => ?_⟩
  unfold execOp
  simp only [ho, Sem.run_bind, hf, Result.andThen_ok, Sem.run_pure]

set_option maxRecDepth 1000000 in
set_option maxHeartbeats 20000000 in
theorem step_calls (w0 w : World) (L : List (Nat × TypeId × Array Value)) (gN gX gP : Nat) (β : Int) (ax az bx bz rx rz sx sz nx nz xx xz P A B C D DA CB AA BB E S1 X3 D1 Q1 Z3 X2 M1 M2 Z2 : Fe5)
    (kX : AnsX β ax az bx bz nx nz xx xz) (kY : AnsX β X2 Z2 X3 Z3 rx rz sx sz)
    (kA : Ans2 19 nx nz A) (kB : Ans2 20 nx nz B) (kC : Ans2 19 xx xz C) (kD : Ans2 20 xx xz D) (kDA : Ans2 21 D A DA) (kCB : Ans2 21 C B CB)
    (kE : Ans2 20 AA BB E) (kS1 : Ans2 19 DA CB S1) (kD1 : Ans2 20 DA CB D1) (kZ3 : Ans2 21 P Q1 Z3) (kX2 : Ans2 21 AA BB X2) (kM1 : Ans2 21 termF E M1)
    (kM2 : Ans2 19 AA M1 M2) (kZ2 : Ans2 21 E M2 Z2) (kAA : Ans1 22 A AA) (kBB : Ans1 22 B BB) (kX3 : Ans1 22 S1 X3) (kQ1 : Ans1 22 D1 Q1)
    (hNX : gN ≠ gX) (hNP : gN ≠ gP) (hXP : gX ≠ gP) (h0N : w0.heap.size ≤ gN) (h0X : w0.heap.size ≤ gX) (hL : ∀ p ∈ L, p.1 ≠ gN ∧ p.1 ≠ gX)
    (hM0 : Ms w0 w ((gN, 38, rtC ax az) :: (gX, 38, rtC bx bz) :: (gP, 35, feC P) :: L)) :
    Calls Try.prog 17 #[.int .u64 β, .pointer (some ⟨gN, 0, none⟩), .pointer (some ⟨gX, 0, none⟩), .pointer (some ⟨gP, 0, none⟩)] w fun e w' => e = .returned (.tuple #[]) ∧ Ms w0 w' ((gN, 38, rtC rx rz) :: (gX, 38, rtC sx sz) :: (gP, 35, feC P) :: L) ∧ w.heap.size ≤ w'.heap.size := by
  have hltN := (hM0.get 0 rfl).lt
  have hltX := (hM0.get 1 rfl).lt
  have hltP := (hM0.get 2 rfl).lt
  have HL := Lib.hid hL
  clear hL
  go_enter Try.func17, Try.ntmps17
  go_wp2_with (first
    | ((with_reducible show wpList _ _ _ (⟨some 15, _, _, _, _, _⟩ :: _) _ _); refine wpList_loadC (by kernel_rfl) 38 (.tmp 1) rfl (gN) rfl 38 (rtC ax az) _ (hM0.get 0 rfl) Try.underlying38 rfl (sizeR _ _) ?_)
    | ((with_reducible show wpList _ _ _ (⟨some 16, _, _, _, _, _⟩ :: _) _ _); refine wpList_loadC (by kernel_rfl) 38 (.tmp 2) rfl (gX) rfl 38 (rtC bx bz) _ (hM0.get 1 rfl) Try.underlying38 rfl (sizeR _ _) ?_))
  refine (kX _).mono ?_
  rintro e w1 ⟨rfl, hb1⟩
  have hM1 := hM0.call hb1
  have hv1 : w.heap.size ≤ w1.heap.size := by have := hb1.size; skip; omega
  clear hM0 hb1
  have hM9 := Ms.set2 (ds := (rtC nx nz)) (ds' := (rtC xx xz)) hM1 h0N h0X hNX (by simp only [List.forall_mem_cons]; exact ⟨by omega, fun p hp => (HL.out p hp).1⟩) (by simp only [List.forall_mem_cons]; exact ⟨by omega, fun p hp => (HL.out p hp).2⟩)
  go_upto_region 1 with (first
    | ((with_reducible show wpList _ _ _ (⟨none, Op.store 38 _ _, _, _, _, _⟩ :: _) _ _); refine wpList_store_row rfl 38 (.tmp 1) (.tmp 19) rfl (gN) (rtC nx nz) rfl rfl 38 _ (hM1.get 0 rfl) (sizeR _ _) (sameR _ _ _ _) (oneR _ _) ?_)
    | ((with_reducible show wpList _ _ _ (⟨none, Op.store 38 _ _, _, _, _, _⟩ :: _) _ _); refine wpList_store_row rfl 38 (.tmp 2) (.tmp 20) rfl (gX) (rtC xx xz) rfl rfl 38 _ ((hM1.get 1 rfl).rowFar (Ne.symm hNX) _) (sizeR _ _) (sameR _ _ _ _) (oneR _ _) ?_))
  clear hM1
  try simp only [Act.put]
  refine wp_gen (fun wx => Ms w0 wx ((gN, 38, (rtC nx nz)) :: (gX, 38, (rtC xx xz)) :: (gP, 35, (feC P)) :: L) ∧ w.heap.size ≤ wx.heap.size) ⟨hM9, by simp [World.setRow]; omega⟩ ?_
  clear hM9
  rintro v0 ⟨hMvv0, hvv0⟩
  go_cut [5, 6] (fun p q wx => ∃ g g' : Nat, p = .pointer (some ⟨g, 0, none⟩) ∧ q = .pointer (some ⟨g', 0, none⟩) ∧ w.heap.size ≤ g ∧ w.heap.size ≤ g' ∧ w.heap.size ≤ wx.heap.size ∧ Ms w0 wx ((g, 35, (feC A)) :: (g', 35, (feC B)) :: (gN, 38, (rtC nx nz)) :: (gX, 38, (rtC xx xz)) :: (gP, 35, (feC P)) :: L))
  case first =>
    have hkeep : ∀ wx : World, Below v0.heap.size v0 wx → wx.rangeAt (gN) 0 (feC nx).toList ∧ wx.rangeAt (gN) 5 (feC nz).toList := fun wx hb => ⟨((hMvv0.get 0 rfl).call hb).rfst, ((hMvv0.get 0 rfl).call hb).rsnd⟩
    have hun := Try.underlying35
    refine beginT (fun wx => wx.rangeAt (gN) 0 (feC nx).toList ∧ wx.rangeAt (gN) 5 (feC nz).toList) 13 (by kernel_rfl) ?_
    have hS := hkeep _ (c_drew (c_refl _))
    refine takeD 0 (some 21) (.pointer (some ⟨gN, 0, none⟩)) rfl rfl (by kernel_rfl) (by kernel_rfl) (by kernel_rfl) (by kernel_rfl) (fun _ _ _ h => h) (Or.inl ⟨by kernel_rfl, fun wx hSw => by go_simp⟩) hS ?_
    simp only [Act.put, List.setIfInBounds_toArray, List.set_cons_zero, List.set_cons_succ]
    refine loadT 1 (some 22) 35 (.tmp 21) (gN) 0 (feC nx).toList rfl rfl (by kernel_rfl) (by kernel_rfl) (by kernel_rfl) (by kernel_rfl) rfl (by kernel_rfl) rfl (fun wx hSw => hSw.1) hun rfl (sizeFeL _) (fun _ _ _ h => h) hS ?_
    simp only [Act.put, List.setIfInBounds_toArray, List.set_cons_zero, List.set_cons_succ, Array.toArray_toList]
    refine takeD 2 (some 23) (.pointer (some ⟨gN, 5, none⟩)) rfl rfl (by kernel_rfl) (by kernel_rfl) (by kernel_rfl) (by kernel_rfl) (fun _ _ _ h => h) (Or.inl ⟨by kernel_rfl, fun wx hSw => by go_simp⟩) hS ?_
    simp only [Act.put, List.setIfInBounds_toArray, List.set_cons_zero, List.set_cons_succ]
    refine loadT 3 (some 24) 35 (.tmp 23) (gN) 5 (feC nz).toList rfl rfl (by kernel_rfl) (by kernel_rfl) (by kernel_rfl) (by kernel_rfl) rfl (by kernel_rfl) rfl (fun wx hSw => hSw.2) hun rfl (sizeFeL _) (fun _ _ _ h => h) hS ?_
    simp only [Act.put, List.setIfInBounds_toArray, List.set_cons_zero, List.set_cons_succ, Array.toArray_toList]
    refine takeD 5 (some 26) (.pointer (some ⟨gN, 0, none⟩)) rfl rfl (by kernel_rfl) (by kernel_rfl) (by kernel_rfl) (by kernel_rfl) (fun _ _ _ h => h) (Or.inl ⟨by kernel_rfl, fun wx hSw => by go_simp⟩) hS ?_
    simp only [Act.put, List.setIfInBounds_toArray, List.set_cons_zero, List.set_cons_succ]
    refine loadT 6 (some 27) 35 (.tmp 26) (gN) 0 (feC nx).toList rfl rfl (by kernel_rfl) (by kernel_rfl) (by kernel_rfl) (by kernel_rfl) rfl (by kernel_rfl) rfl (fun wx hSw => hSw.1) hun rfl (sizeFeL _) (fun _ _ _ h => h) hS ?_
    simp only [Act.put, List.setIfInBounds_toArray, List.set_cons_zero, List.set_cons_succ, Array.toArray_toList]
    refine takeD 7 (some 28) (.pointer (some ⟨gN, 5, none⟩)) rfl rfl (by kernel_rfl) (by kernel_rfl) (by kernel_rfl) (by kernel_rfl) (fun _ _ _ h => h) (Or.inl ⟨by kernel_rfl, fun wx hSw => by go_simp⟩) hS ?_
    simp only [Act.put, List.setIfInBounds_toArray, List.set_cons_zero, List.set_cons_succ]
    refine loadT 8 (some 29) 35 (.tmp 28) (gN) 5 (feC nz).toList rfl rfl (by kernel_rfl) (by kernel_rfl) (by kernel_rfl) (by kernel_rfl) rfl (by kernel_rfl) rfl (fun wx hSw => hSw.2) hun rfl (sizeFeL _) (fun _ _ _ h => h) hS ?_
    simp only [Act.put, List.setIfInBounds_toArray, List.set_cons_zero, List.set_cons_succ, Array.toArray_toList]
    have hD := hMvv0.drew
    refine readyT [4, 10, 11] (by kernel_rfl) (by simp) (AllReadyT.cons rfl (fun K hK => ?_) (AllReadyT.cons rfl (fun K hK => ?_) (AllReadyT.cons rfl (fun K hK => ?_) AllReadyT.nil)))
    · go_simp
      refine (kA _).mono ?_
      rintro e x1 ⟨rfl, hx1⟩
      refine hK.out _ _ (fun _ => hkeep _ (by (repeat (first | exact c_refl _ | refine c_drew ?_ | refine c_alloc ?_ _ | refine c_row ?_ (by first | omega | exact Nat.le_refl _) _ | refine c_call ?_ (by assumption))); first | done | fail "open")) ?_
      clear hK K
      have hN1 := hD.call hx1
      refine readyT [9, 10, 11] (by kernel_rfl) (by simp) (AllReadyT.cons rfl (fun K hK => ?_) (AllReadyT.cons rfl (fun K hK => ?_) (AllReadyT.cons rfl (fun K hK => ?_) AllReadyT.nil)))
      · go_simp
        refine (kB _).mono ?_
        rintro e x2 ⟨rfl, hx2⟩
        refine hK.out _ _ (fun _ => hkeep _ (by (repeat (first | exact c_refl _ | refine c_drew ?_ | refine c_alloc ?_ _ | refine c_row ?_ (by first | omega | exact Nat.le_refl _) _ | refine c_call ?_ (by assumption))); first | done | fail "open")) ?_
        clear hK K
        have hN2 := hN1.call hx2
        refine readyT [10, 11] (by kernel_rfl) (by simp) (AllReadyT.cons rfl (fun K hK => ?_) (AllReadyT.cons rfl (fun K hK => ?_) AllReadyT.nil))
        · go_simp
          refine hK.out _ _ (fun _ => hkeep _ (by (repeat (first | exact c_refl _ | refine c_drew ?_ | refine c_alloc ?_ _ | refine c_row ?_ (by first | omega | exact Nat.le_refl _) _ | refine c_call ?_ (by assumption))); first | done | fail "open")) ?_
          clear hK K
          have hn1 := fun p hp => Nat.ne_of_lt ((hN2.rows p hp).lt)
          have hg1 := hN2.old.size
          have hN3 := hN2.box 35 #[.int .u64 0, .int .u64 0, .int .u64 0, .int .u64 0, .int .u64 0]
          try simp only [World.size_alloc] at hN3 hn1 hg1
          have hk1 : v0.heap.size ≤ x2.heap.size := (show Below v0.heap.size v0 x2 from (by (repeat (first | exact c_refl _ | refine c_drew ?_ | refine c_alloc ?_ _ | refine c_row ?_ (by first | omega | exact Nat.le_refl _) _ | refine c_call ?_ (by assumption))); first | done | fail "open")).size
          refine oneT 11 (by kernel_rfl) rfl (fun K hK => ?_)
          go_simp
          refine hK.out _ _ (fun _ => hkeep _ (by (repeat (first | exact c_refl _ | refine c_drew ?_ | refine c_alloc ?_ _ | refine c_row ?_ (by first | omega | exact Nat.le_refl _) _ | refine c_call ?_ (by assumption))); first | done | fail "open")) ?_
          clear hK K
          have hn2 := fun p hp => Nat.ne_of_lt ((hN3.rows p hp).lt)
          have hg2 := hN3.old.size
          have hN4 := hN3.box 35 #[.int .u64 0, .int .u64 0, .int .u64 0, .int .u64 0, .int .u64 0]
          try simp only [World.size_alloc] at hN4 hn2 hg2
          have hk2 : v0.heap.size ≤ x2.heap.size + 1 := Nat.le_trans (show Below v0.heap.size v0 x2 from (by (repeat (first | exact c_refl _ | refine c_drew ?_ | refine c_alloc ?_ _ | refine c_row ?_ (by first | omega | exact Nat.le_refl _) _ | refine c_call ?_ (by assumption))); first | done | fail "open")).size (Nat.le_succ _)
          have hsz : w.heap.size ≤ x2.heap.size + 1 + 1 := Nat.le_trans hvv0 (Nat.le_trans hk2 (Nat.le_succ _))
          have hne : (x2.heap.size : Nat) ≠ x2.heap.size + 1 := hn2 _ List.mem_cons_self
          have hset := Ms.set2 (ds := (feC A)) (ds' := (feC B)) (hN4.swap) hg1 hg2 hne hn1 (fun p hp => hn2 p (List.mem_cons_of_mem _ hp))
          refine oneT 12 (by kernel_rfl) rfl (fun K hK => ?_)
          refine step_store_row rfl 35 (.tmp 5) (.tmp 25) rfl (x2.heap.size) (feC A) rfl rfl 35 _ (hN4.get 1 rfl) (sizeFe _) (fe_zero _) (one_fe _) ?_
          refine hK.out _ _ (fun _ => hkeep _ (by (repeat (first | exact c_refl _ | refine c_drew ?_ | refine c_alloc ?_ _ | refine c_row ?_ (by first | omega | exact Nat.le_refl _) _ | refine c_call ?_ (by assumption))); first | done | fail "open")) ?_
          clear hK K
          refine oneT 13 (by kernel_rfl) rfl (fun K hK => ?_)
          refine step_store_row rfl 35 (.tmp 6) (.tmp 30) rfl (x2.heap.size + 1) (feC B) rfl rfl 35 _ ((hN4.get 0 rfl).rowFar (Ne.symm hne) _) (sizeFe _) (fe_zero _) (one_fe _) ?_
          refine hK.out _ _ (fun h => absurd rfl h) ?_
          clear hK K
          refine doneT (by kernel_rfl) ?_ _
          go_wp2_with fail
          go_meet
          exact ⟨_, _, rfl, rfl, Nat.le_trans hvv0 hk1, Nat.le_trans hvv0 hk2, by have := hsz; simp [World.setRow] at this ⊢; omega, hset⟩
        · go_simp
          refine hK.out _ _ (fun _ => hkeep _ (by (repeat (first | exact c_refl _ | refine c_drew ?_ | refine c_alloc ?_ _ | refine c_row ?_ (by first | omega | exact Nat.le_refl _) _ | refine c_call ?_ (by assumption))); first | done | fail "open")) ?_
          clear hK K
          have hn1 := fun p hp => Nat.ne_of_lt ((hN2.rows p hp).lt)
          have hg1 := hN2.old.size
          have hN3 := hN2.box 35 #[.int .u64 0, .int .u64 0, .int .u64 0, .int .u64 0, .int .u64 0]
          try simp only [World.size_alloc] at hN3 hn1 hg1
          have hk1 : v0.heap.size ≤ x2.heap.size := (show Below v0.heap.size v0 x2 from (by (repeat (first | exact c_refl _ | refine c_drew ?_ | refine c_alloc ?_ _ | refine c_row ?_ (by first | omega | exact Nat.le_refl _) _ | refine c_call ?_ (by assumption))); first | done | fail "open")).size
          refine oneT 10 (by kernel_rfl) rfl (fun K hK => ?_)
          go_simp
          refine hK.out _ _ (fun _ => hkeep _ (by (repeat (first | exact c_refl _ | refine c_drew ?_ | refine c_alloc ?_ _ | refine c_row ?_ (by first | omega | exact Nat.le_refl _) _ | refine c_call ?_ (by assumption))); first | done | fail "open")) ?_
          clear hK K
          have hn2 := fun p hp => Nat.ne_of_lt ((hN3.rows p hp).lt)
          have hg2 := hN3.old.size
          have hN4 := hN3.box 35 #[.int .u64 0, .int .u64 0, .int .u64 0, .int .u64 0, .int .u64 0]
          try simp only [World.size_alloc] at hN4 hn2 hg2
          have hk2 : v0.heap.size ≤ x2.heap.size + 1 := Nat.le_trans (show Below v0.heap.size v0 x2 from (by (repeat (first | exact c_refl _ | refine c_drew ?_ | refine c_alloc ?_ _ | refine c_row ?_ (by first | omega | exact Nat.le_refl _) _ | refine c_call ?_ (by assumption))); first | done | fail "open")).size (Nat.le_succ _)
          have hsz : w.heap.size ≤ x2.heap.size + 1 + 1 := Nat.le_trans hvv0 (Nat.le_trans hk2 (Nat.le_succ _))
          have hne : (x2.heap.size : Nat) ≠ x2.heap.size + 1 := hn2 _ List.mem_cons_self
          have hset := Ms.set2 (ds := (feC A)) (ds' := (feC B)) (hN4) hg2 hg1 (Ne.symm hne) (fun p hp => hn2 p (List.mem_cons_of_mem _ hp)) hn1
          refine oneT 12 (by kernel_rfl) rfl (fun K hK => ?_)
          refine step_store_row rfl 35 (.tmp 5) (.tmp 25) rfl (x2.heap.size + 1) (feC A) rfl rfl 35 _ (hN4.get 0 rfl) (sizeFe _) (fe_zero _) (one_fe _) ?_
          refine hK.out _ _ (fun _ => hkeep _ (by (repeat (first | exact c_refl _ | refine c_drew ?_ | refine c_alloc ?_ _ | refine c_row ?_ (by first | omega | exact Nat.le_refl _) _ | refine c_call ?_ (by assumption))); first | done | fail "open")) ?_
          clear hK K
          refine oneT 13 (by kernel_rfl) rfl (fun K hK => ?_)
          refine step_store_row rfl 35 (.tmp 6) (.tmp 30) rfl (x2.heap.size) (feC B) rfl rfl 35 _ ((hN4.get 1 rfl).rowFar hne _) (sizeFe _) (fe_zero _) (one_fe _) ?_
          refine hK.out _ _ (fun h => absurd rfl h) ?_
          clear hK K
          refine doneT (by kernel_rfl) ?_ _
          go_wp2_with fail
          go_meet
          exact ⟨_, _, rfl, rfl, Nat.le_trans hvv0 hk2, Nat.le_trans hvv0 hk1, by have := hsz; simp [World.setRow] at this ⊢; omega, hset⟩
      · go_simp
        refine hK.out _ _ (fun _ => hkeep _ (by (repeat (first | exact c_refl _ | refine c_drew ?_ | refine c_alloc ?_ _ | refine c_row ?_ (by first | omega | exact Nat.le_refl _) _ | refine c_call ?_ (by assumption))); first | done | fail "open")) ?_
        clear hK K
        have hn1 := fun p hp => Nat.ne_of_lt ((hN1.rows p hp).lt)
        have hg1 := hN1.old.size
        have hN2 := hN1.box 35 #[.int .u64 0, .int .u64 0, .int .u64 0, .int .u64 0, .int .u64 0]
        try simp only [World.size_alloc] at hN2 hn1 hg1
        have hk1 : v0.heap.size ≤ x1.heap.size := (show Below v0.heap.size v0 x1 from (by (repeat (first | exact c_refl _ | refine c_drew ?_ | refine c_alloc ?_ _ | refine c_row ?_ (by first | omega | exact Nat.le_refl _) _ | refine c_call ?_ (by assumption))); first | done | fail "open")).size
        refine readyT [9, 11] (by kernel_rfl) (by simp) (AllReadyT.cons rfl (fun K hK => ?_) (AllReadyT.cons rfl (fun K hK => ?_) AllReadyT.nil))
        · go_simp
          refine (kB _).mono ?_
          rintro e x3 ⟨rfl, hx3⟩
          refine hK.out _ _ (fun _ => hkeep _ (by (repeat (first | exact c_refl _ | refine c_drew ?_ | refine c_alloc ?_ _ | refine c_row ?_ (by first | omega | exact Nat.le_refl _) _ | refine c_call ?_ (by assumption))); first | done | fail "open")) ?_
          clear hK K
          have hN3 := hN2.call hx3
          refine oneT 11 (by kernel_rfl) rfl (fun K hK => ?_)
          go_simp
          refine hK.out _ _ (fun _ => hkeep _ (by (repeat (first | exact c_refl _ | refine c_drew ?_ | refine c_alloc ?_ _ | refine c_row ?_ (by first | omega | exact Nat.le_refl _) _ | refine c_call ?_ (by assumption))); first | done | fail "open")) ?_
          clear hK K
          have hn2 := fun p hp => Nat.ne_of_lt ((hN3.rows p hp).lt)
          have hg2 := hN3.old.size
          have hN4 := hN3.box 35 #[.int .u64 0, .int .u64 0, .int .u64 0, .int .u64 0, .int .u64 0]
          try simp only [World.size_alloc] at hN4 hn2 hg2
          have hk2 : v0.heap.size ≤ x3.heap.size := (show Below v0.heap.size v0 x3 from (by (repeat (first | exact c_refl _ | refine c_drew ?_ | refine c_alloc ?_ _ | refine c_row ?_ (by first | omega | exact Nat.le_refl _) _ | refine c_call ?_ (by assumption))); first | done | fail "open")).size
          have hsz : w.heap.size ≤ x3.heap.size + 1 := Nat.le_trans hvv0 (Nat.le_trans hk2 (Nat.le_succ _))
          have hne : (x1.heap.size : Nat) ≠ x3.heap.size := hn2 _ List.mem_cons_self
          have hset := Ms.set2 (ds := (feC A)) (ds' := (feC B)) (hN4.swap) hg1 hg2 hne hn1 (fun p hp => hn2 p (List.mem_cons_of_mem _ hp))
          refine oneT 12 (by kernel_rfl) rfl (fun K hK => ?_)
          refine step_store_row rfl 35 (.tmp 5) (.tmp 25) rfl (x1.heap.size) (feC A) rfl rfl 35 _ (hN4.get 1 rfl) (sizeFe _) (fe_zero _) (one_fe _) ?_
          refine hK.out _ _ (fun _ => hkeep _ (by (repeat (first | exact c_refl _ | refine c_drew ?_ | refine c_alloc ?_ _ | refine c_row ?_ (by first | omega | exact Nat.le_refl _) _ | refine c_call ?_ (by assumption))); first | done | fail "open")) ?_
          clear hK K
          refine oneT 13 (by kernel_rfl) rfl (fun K hK => ?_)
          refine step_store_row rfl 35 (.tmp 6) (.tmp 30) rfl (x3.heap.size) (feC B) rfl rfl 35 _ ((hN4.get 0 rfl).rowFar (Ne.symm hne) _) (sizeFe _) (fe_zero _) (one_fe _) ?_
          refine hK.out _ _ (fun h => absurd rfl h) ?_
          clear hK K
          refine doneT (by kernel_rfl) ?_ _
          go_wp2_with fail
          go_meet
          exact ⟨_, _, rfl, rfl, Nat.le_trans hvv0 hk1, Nat.le_trans hvv0 hk2, by have := hsz; simp [World.setRow] at this ⊢; omega, hset⟩
        · go_simp
          refine hK.out _ _ (fun _ => hkeep _ (by (repeat (first | exact c_refl _ | refine c_drew ?_ | refine c_alloc ?_ _ | refine c_row ?_ (by first | omega | exact Nat.le_refl _) _ | refine c_call ?_ (by assumption))); first | done | fail "open")) ?_
          clear hK K
          have hn2 := fun p hp => Nat.ne_of_lt ((hN2.rows p hp).lt)
          have hg2 := hN2.old.size
          have hN3 := hN2.box 35 #[.int .u64 0, .int .u64 0, .int .u64 0, .int .u64 0, .int .u64 0]
          try simp only [World.size_alloc] at hN3 hn2 hg2
          have hk2 : v0.heap.size ≤ x1.heap.size + 1 := Nat.le_trans (show Below v0.heap.size v0 x1 from (by (repeat (first | exact c_refl _ | refine c_drew ?_ | refine c_alloc ?_ _ | refine c_row ?_ (by first | omega | exact Nat.le_refl _) _ | refine c_call ?_ (by assumption))); first | done | fail "open")).size (Nat.le_succ _)
          refine oneT 9 (by kernel_rfl) rfl (fun K hK => ?_)
          go_simp
          refine (kB _).mono ?_
          rintro e x4 ⟨rfl, hx4⟩
          refine hK.out _ _ (fun _ => hkeep _ (by (repeat (first | exact c_refl _ | refine c_drew ?_ | refine c_alloc ?_ _ | refine c_row ?_ (by first | omega | exact Nat.le_refl _) _ | refine c_call ?_ (by assumption))); first | done | fail "open")) ?_
          clear hK K
          have hN4 := hN3.call hx4
          have hsz : w.heap.size ≤ x4.heap.size := Nat.le_trans hvv0 (show Below v0.heap.size v0 x4 from (by (repeat (first | exact c_refl _ | refine c_drew ?_ | refine c_alloc ?_ _ | refine c_row ?_ (by first | omega | exact Nat.le_refl _) _ | refine c_call ?_ (by assumption))); first | done | fail "open")).size
          have hne : (x1.heap.size : Nat) ≠ x1.heap.size + 1 := hn2 _ List.mem_cons_self
          have hset := Ms.set2 (ds := (feC A)) (ds' := (feC B)) (hN4.swap) hg1 hg2 hne hn1 (fun p hp => hn2 p (List.mem_cons_of_mem _ hp))
          refine oneT 12 (by kernel_rfl) rfl (fun K hK => ?_)
          refine step_store_row rfl 35 (.tmp 5) (.tmp 25) rfl (x1.heap.size) (feC A) rfl rfl 35 _ (hN4.get 1 rfl) (sizeFe _) (fe_zero _) (one_fe _) ?_
          refine hK.out _ _ (fun _ => hkeep _ (by (repeat (first | exact c_refl _ | refine c_drew ?_ | refine c_alloc ?_ _ | refine c_row ?_ (by first | omega | exact Nat.le_refl _) _ | refine c_call ?_ (by assumption))); first | done | fail "open")) ?_
          clear hK K
          refine oneT 13 (by kernel_rfl) rfl (fun K hK => ?_)
          refine step_store_row rfl 35 (.tmp 6) (.tmp 30) rfl (x1.heap.size + 1) (feC B) rfl rfl 35 _ ((hN4.get 0 rfl).rowFar (Ne.symm hne) _) (sizeFe _) (fe_zero _) (one_fe _) ?_
          refine hK.out _ _ (fun h => absurd rfl h) ?_
          clear hK K
          refine doneT (by kernel_rfl) ?_ _
          go_wp2_with fail
          go_meet
          exact ⟨_, _, rfl, rfl, Nat.le_trans hvv0 hk1, Nat.le_trans hvv0 hk2, by have := hsz; simp [World.setRow] at this ⊢; omega, hset⟩
      · go_simp
        refine hK.out _ _ (fun _ => hkeep _ (by (repeat (first | exact c_refl _ | refine c_drew ?_ | refine c_alloc ?_ _ | refine c_row ?_ (by first | omega | exact Nat.le_refl _) _ | refine c_call ?_ (by assumption))); first | done | fail "open")) ?_
        clear hK K
        have hn1 := fun p hp => Nat.ne_of_lt ((hN1.rows p hp).lt)
        have hg1 := hN1.old.size
        have hN2 := hN1.box 35 #[.int .u64 0, .int .u64 0, .int .u64 0, .int .u64 0, .int .u64 0]
        try simp only [World.size_alloc] at hN2 hn1 hg1
        have hk1 : v0.heap.size ≤ x1.heap.size := (show Below v0.heap.size v0 x1 from (by (repeat (first | exact c_refl _ | refine c_drew ?_ | refine c_alloc ?_ _ | refine c_row ?_ (by first | omega | exact Nat.le_refl _) _ | refine c_call ?_ (by assumption))); first | done | fail "open")).size
        refine readyT [9, 10] (by kernel_rfl) (by simp) (AllReadyT.cons rfl (fun K hK => ?_) (AllReadyT.cons rfl (fun K hK => ?_) AllReadyT.nil))
        · go_simp
          refine (kB _).mono ?_
          rintro e x3 ⟨rfl, hx3⟩
          refine hK.out _ _ (fun _ => hkeep _ (by (repeat (first | exact c_refl _ | refine c_drew ?_ | refine c_alloc ?_ _ | refine c_row ?_ (by first | omega | exact Nat.le_refl _) _ | refine c_call ?_ (by assumption))); first | done | fail "open")) ?_
          clear hK K
          have hN3 := hN2.call hx3
          refine oneT 10 (by kernel_rfl) rfl (fun K hK => ?_)
          go_simp
          refine hK.out _ _ (fun _ => hkeep _ (by (repeat (first | exact c_refl _ | refine c_drew ?_ | refine c_alloc ?_ _ | refine c_row ?_ (by first | omega | exact Nat.le_refl _) _ | refine c_call ?_ (by assumption))); first | done | fail "open")) ?_
          clear hK K
          have hn2 := fun p hp => Nat.ne_of_lt ((hN3.rows p hp).lt)
          have hg2 := hN3.old.size
          have hN4 := hN3.box 35 #[.int .u64 0, .int .u64 0, .int .u64 0, .int .u64 0, .int .u64 0]
          try simp only [World.size_alloc] at hN4 hn2 hg2
          have hk2 : v0.heap.size ≤ x3.heap.size := (show Below v0.heap.size v0 x3 from (by (repeat (first | exact c_refl _ | refine c_drew ?_ | refine c_alloc ?_ _ | refine c_row ?_ (by first | omega | exact Nat.le_refl _) _ | refine c_call ?_ (by assumption))); first | done | fail "open")).size
          have hsz : w.heap.size ≤ x3.heap.size + 1 := Nat.le_trans hvv0 (Nat.le_trans hk2 (Nat.le_succ _))
          have hne : (x1.heap.size : Nat) ≠ x3.heap.size := hn2 _ List.mem_cons_self
          have hset := Ms.set2 (ds := (feC A)) (ds' := (feC B)) (hN4) hg2 hg1 (Ne.symm hne) (fun p hp => hn2 p (List.mem_cons_of_mem _ hp)) hn1
          refine oneT 12 (by kernel_rfl) rfl (fun K hK => ?_)
          refine step_store_row rfl 35 (.tmp 5) (.tmp 25) rfl (x3.heap.size) (feC A) rfl rfl 35 _ (hN4.get 0 rfl) (sizeFe _) (fe_zero _) (one_fe _) ?_
          refine hK.out _ _ (fun _ => hkeep _ (by (repeat (first | exact c_refl _ | refine c_drew ?_ | refine c_alloc ?_ _ | refine c_row ?_ (by first | omega | exact Nat.le_refl _) _ | refine c_call ?_ (by assumption))); first | done | fail "open")) ?_
          clear hK K
          refine oneT 13 (by kernel_rfl) rfl (fun K hK => ?_)
          refine step_store_row rfl 35 (.tmp 6) (.tmp 30) rfl (x1.heap.size) (feC B) rfl rfl 35 _ ((hN4.get 1 rfl).rowFar hne _) (sizeFe _) (fe_zero _) (one_fe _) ?_
          refine hK.out _ _ (fun h => absurd rfl h) ?_
          clear hK K
          refine doneT (by kernel_rfl) ?_ _
          go_wp2_with fail
          go_meet
          exact ⟨_, _, rfl, rfl, Nat.le_trans hvv0 hk2, Nat.le_trans hvv0 hk1, by have := hsz; simp [World.setRow] at this ⊢; omega, hset⟩
        · go_simp
          refine hK.out _ _ (fun _ => hkeep _ (by (repeat (first | exact c_refl _ | refine c_drew ?_ | refine c_alloc ?_ _ | refine c_row ?_ (by first | omega | exact Nat.le_refl _) _ | refine c_call ?_ (by assumption))); first | done | fail "open")) ?_
          clear hK K
          have hn2 := fun p hp => Nat.ne_of_lt ((hN2.rows p hp).lt)
          have hg2 := hN2.old.size
          have hN3 := hN2.box 35 #[.int .u64 0, .int .u64 0, .int .u64 0, .int .u64 0, .int .u64 0]
          try simp only [World.size_alloc] at hN3 hn2 hg2
          have hk2 : v0.heap.size ≤ x1.heap.size + 1 := Nat.le_trans (show Below v0.heap.size v0 x1 from (by (repeat (first | exact c_refl _ | refine c_drew ?_ | refine c_alloc ?_ _ | refine c_row ?_ (by first | omega | exact Nat.le_refl _) _ | refine c_call ?_ (by assumption))); first | done | fail "open")).size (Nat.le_succ _)
          refine oneT 9 (by kernel_rfl) rfl (fun K hK => ?_)
          go_simp
          refine (kB _).mono ?_
          rintro e x4 ⟨rfl, hx4⟩
          refine hK.out _ _ (fun _ => hkeep _ (by (repeat (first | exact c_refl _ | refine c_drew ?_ | refine c_alloc ?_ _ | refine c_row ?_ (by first | omega | exact Nat.le_refl _) _ | refine c_call ?_ (by assumption))); first | done | fail "open")) ?_
          clear hK K
          have hN4 := hN3.call hx4
          have hsz : w.heap.size ≤ x4.heap.size := Nat.le_trans hvv0 (show Below v0.heap.size v0 x4 from (by (repeat (first | exact c_refl _ | refine c_drew ?_ | refine c_alloc ?_ _ | refine c_row ?_ (by first | omega | exact Nat.le_refl _) _ | refine c_call ?_ (by assumption))); first | done | fail "open")).size
          have hne : (x1.heap.size : Nat) ≠ x1.heap.size + 1 := hn2 _ List.mem_cons_self
          have hset := Ms.set2 (ds := (feC A)) (ds' := (feC B)) (hN4) hg2 hg1 (Ne.symm hne) (fun p hp => hn2 p (List.mem_cons_of_mem _ hp)) hn1
          refine oneT 12 (by kernel_rfl) rfl (fun K hK => ?_)
          refine step_store_row rfl 35 (.tmp 5) (.tmp 25) rfl (x1.heap.size + 1) (feC A) rfl rfl 35 _ (hN4.get 0 rfl) (sizeFe _) (fe_zero _) (one_fe _) ?_
          refine hK.out _ _ (fun _ => hkeep _ (by (repeat (first | exact c_refl _ | refine c_drew ?_ | refine c_alloc ?_ _ | refine c_row ?_ (by first | omega | exact Nat.le_refl _) _ | refine c_call ?_ (by assumption))); first | done | fail "open")) ?_
          clear hK K
          refine oneT 13 (by kernel_rfl) rfl (fun K hK => ?_)
          refine step_store_row rfl 35 (.tmp 6) (.tmp 30) rfl (x1.heap.size) (feC B) rfl rfl 35 _ ((hN4.get 1 rfl).rowFar hne _) (sizeFe _) (fe_zero _) (one_fe _) ?_
          refine hK.out _ _ (fun h => absurd rfl h) ?_
          clear hK K
          refine doneT (by kernel_rfl) ?_ _
          go_wp2_with fail
          go_meet
          exact ⟨_, _, rfl, rfl, Nat.le_trans hvv0 hk2, Nat.le_trans hvv0 hk1, by have := hsz; simp [World.setRow] at this ⊢; omega, hset⟩
    · go_simp
      refine hK.out _ _ (fun _ => hkeep _ (by (repeat (first | exact c_refl _ | refine c_drew ?_ | refine c_alloc ?_ _ | refine c_row ?_ (by first | omega | exact Nat.le_refl _) _ | refine c_call ?_ (by assumption))); first | done | fail "open")) ?_
      clear hK K
      have hn1 := fun p hp => Nat.ne_of_lt ((hD.rows p hp).lt)
      have hg1 := hD.old.size
      have hN1 := hD.box 35 #[.int .u64 0, .int .u64 0, .int .u64 0, .int .u64 0, .int .u64 0]
      try simp only [World.size_alloc] at hN1 hn1 hg1
      have hk1 : v0.heap.size ≤ v0.heap.size := Nat.le_refl _
      refine readyT [4, 11] (by kernel_rfl) (by simp) (AllReadyT.cons rfl (fun K hK => ?_) (AllReadyT.cons rfl (fun K hK => ?_) AllReadyT.nil))
      · go_simp
        refine (kA _).mono ?_
        rintro e x2 ⟨rfl, hx2⟩
        refine hK.out _ _ (fun _ => hkeep _ (by (repeat (first | exact c_refl _ | refine c_drew ?_ | refine c_alloc ?_ _ | refine c_row ?_ (by first | omega | exact Nat.le_refl _) _ | refine c_call ?_ (by assumption))); first | done | fail "open")) ?_
        clear hK K
        have hN2 := hN1.call hx2
        refine readyT [9, 11] (by kernel_rfl) (by simp) (AllReadyT.cons rfl (fun K hK => ?_) (AllReadyT.cons rfl (fun K hK => ?_) AllReadyT.nil))
        · go_simp
          refine (kB _).mono ?_
          rintro e x3 ⟨rfl, hx3⟩
          refine hK.out _ _ (fun _ => hkeep _ (by (repeat (first | exact c_refl _ | refine c_drew ?_ | refine c_alloc ?_ _ | refine c_row ?_ (by first | omega | exact Nat.le_refl _) _ | refine c_call ?_ (by assumption))); first | done | fail "open")) ?_
          clear hK K
          have hN3 := hN2.call hx3
          refine oneT 11 (by kernel_rfl) rfl (fun K hK => ?_)
          go_simp
          refine hK.out _ _ (fun _ => hkeep _ (by (repeat (first | exact c_refl _ | refine c_drew ?_ | refine c_alloc ?_ _ | refine c_row ?_ (by first | omega | exact Nat.le_refl _) _ | refine c_call ?_ (by assumption))); first | done | fail "open")) ?_
          clear hK K
          have hn2 := fun p hp => Nat.ne_of_lt ((hN3.rows p hp).lt)
          have hg2 := hN3.old.size
          have hN4 := hN3.box 35 #[.int .u64 0, .int .u64 0, .int .u64 0, .int .u64 0, .int .u64 0]
          try simp only [World.size_alloc] at hN4 hn2 hg2
          have hk2 : v0.heap.size ≤ x3.heap.size := (show Below v0.heap.size v0 x3 from (by (repeat (first | exact c_refl _ | refine c_drew ?_ | refine c_alloc ?_ _ | refine c_row ?_ (by first | omega | exact Nat.le_refl _) _ | refine c_call ?_ (by assumption))); first | done | fail "open")).size
          have hsz : w.heap.size ≤ x3.heap.size + 1 := Nat.le_trans hvv0 (Nat.le_trans hk2 (Nat.le_succ _))
          have hne : (v0.heap.size : Nat) ≠ x3.heap.size := hn2 _ List.mem_cons_self
          have hset := Ms.set2 (ds := (feC A)) (ds' := (feC B)) (hN4.swap) hg1 hg2 hne hn1 (fun p hp => hn2 p (List.mem_cons_of_mem _ hp))
          refine oneT 12 (by kernel_rfl) rfl (fun K hK => ?_)
          refine step_store_row rfl 35 (.tmp 5) (.tmp 25) rfl (v0.heap.size) (feC A) rfl rfl 35 _ (hN4.get 1 rfl) (sizeFe _) (fe_zero _) (one_fe _) ?_
          refine hK.out _ _ (fun _ => hkeep _ (by (repeat (first | exact c_refl _ | refine c_drew ?_ | refine c_alloc ?_ _ | refine c_row ?_ (by first | omega | exact Nat.le_refl _) _ | refine c_call ?_ (by assumption))); first | done | fail "open")) ?_
          clear hK K
          refine oneT 13 (by kernel_rfl) rfl (fun K hK => ?_)
          refine step_store_row rfl 35 (.tmp 6) (.tmp 30) rfl (x3.heap.size) (feC B) rfl rfl 35 _ ((hN4.get 0 rfl).rowFar (Ne.symm hne) _) (sizeFe _) (fe_zero _) (one_fe _) ?_
          refine hK.out _ _ (fun h => absurd rfl h) ?_
          clear hK K
          refine doneT (by kernel_rfl) ?_ _
          go_wp2_with fail
          go_meet
          exact ⟨_, _, rfl, rfl, Nat.le_trans hvv0 hk1, Nat.le_trans hvv0 hk2, by have := hsz; simp [World.setRow] at this ⊢; omega, hset⟩
        · go_simp
          refine hK.out _ _ (fun _ => hkeep _ (by (repeat (first | exact c_refl _ | refine c_drew ?_ | refine c_alloc ?_ _ | refine c_row ?_ (by first | omega | exact Nat.le_refl _) _ | refine c_call ?_ (by assumption))); first | done | fail "open")) ?_
          clear hK K
          have hn2 := fun p hp => Nat.ne_of_lt ((hN2.rows p hp).lt)
          have hg2 := hN2.old.size
          have hN3 := hN2.box 35 #[.int .u64 0, .int .u64 0, .int .u64 0, .int .u64 0, .int .u64 0]
          try simp only [World.size_alloc] at hN3 hn2 hg2
          have hk2 : v0.heap.size ≤ x2.heap.size := (show Below v0.heap.size v0 x2 from (by (repeat (first | exact c_refl _ | refine c_drew ?_ | refine c_alloc ?_ _ | refine c_row ?_ (by first | omega | exact Nat.le_refl _) _ | refine c_call ?_ (by assumption))); first | done | fail "open")).size
          refine oneT 9 (by kernel_rfl) rfl (fun K hK => ?_)
          go_simp
          refine (kB _).mono ?_
          rintro e x4 ⟨rfl, hx4⟩
          refine hK.out _ _ (fun _ => hkeep _ (by (repeat (first | exact c_refl _ | refine c_drew ?_ | refine c_alloc ?_ _ | refine c_row ?_ (by first | omega | exact Nat.le_refl _) _ | refine c_call ?_ (by assumption))); first | done | fail "open")) ?_
          clear hK K
          have hN4 := hN3.call hx4
          have hsz : w.heap.size ≤ x4.heap.size := Nat.le_trans hvv0 (show Below v0.heap.size v0 x4 from (by (repeat (first | exact c_refl _ | refine c_drew ?_ | refine c_alloc ?_ _ | refine c_row ?_ (by first | omega | exact Nat.le_refl _) _ | refine c_call ?_ (by assumption))); first | done | fail "open")).size
          have hne : (v0.heap.size : Nat) ≠ x2.heap.size := hn2 _ List.mem_cons_self
          have hset := Ms.set2 (ds := (feC A)) (ds' := (feC B)) (hN4.swap) hg1 hg2 hne hn1 (fun p hp => hn2 p (List.mem_cons_of_mem _ hp))
          refine oneT 12 (by kernel_rfl) rfl (fun K hK => ?_)
          refine step_store_row rfl 35 (.tmp 5) (.tmp 25) rfl (v0.heap.size) (feC A) rfl rfl 35 _ (hN4.get 1 rfl) (sizeFe _) (fe_zero _) (one_fe _) ?_
          refine hK.out _ _ (fun _ => hkeep _ (by (repeat (first | exact c_refl _ | refine c_drew ?_ | refine c_alloc ?_ _ | refine c_row ?_ (by first | omega | exact Nat.le_refl _) _ | refine c_call ?_ (by assumption))); first | done | fail "open")) ?_
          clear hK K
          refine oneT 13 (by kernel_rfl) rfl (fun K hK => ?_)
          refine step_store_row rfl 35 (.tmp 6) (.tmp 30) rfl (x2.heap.size) (feC B) rfl rfl 35 _ ((hN4.get 0 rfl).rowFar (Ne.symm hne) _) (sizeFe _) (fe_zero _) (one_fe _) ?_
          refine hK.out _ _ (fun h => absurd rfl h) ?_
          clear hK K
          refine doneT (by kernel_rfl) ?_ _
          go_wp2_with fail
          go_meet
          exact ⟨_, _, rfl, rfl, Nat.le_trans hvv0 hk1, Nat.le_trans hvv0 hk2, by have := hsz; simp [World.setRow] at this ⊢; omega, hset⟩
      · go_simp
        refine hK.out _ _ (fun _ => hkeep _ (by (repeat (first | exact c_refl _ | refine c_drew ?_ | refine c_alloc ?_ _ | refine c_row ?_ (by first | omega | exact Nat.le_refl _) _ | refine c_call ?_ (by assumption))); first | done | fail "open")) ?_
        clear hK K
        have hn2 := fun p hp => Nat.ne_of_lt ((hN1.rows p hp).lt)
        have hg2 := hN1.old.size
        have hN2 := hN1.box 35 #[.int .u64 0, .int .u64 0, .int .u64 0, .int .u64 0, .int .u64 0]
        try simp only [World.size_alloc] at hN2 hn2 hg2
        have hk2 : v0.heap.size ≤ v0.heap.size + 1 := Nat.le_succ _
        refine oneT 4 (by kernel_rfl) rfl (fun K hK => ?_)
        go_simp
        refine (kA _).mono ?_
        rintro e x3 ⟨rfl, hx3⟩
        refine hK.out _ _ (fun _ => hkeep _ (by (repeat (first | exact c_refl _ | refine c_drew ?_ | refine c_alloc ?_ _ | refine c_row ?_ (by first | omega | exact Nat.le_refl _) _ | refine c_call ?_ (by assumption))); first | done | fail "open")) ?_
        clear hK K
        have hN3 := hN2.call hx3
        refine oneT 9 (by kernel_rfl) rfl (fun K hK => ?_)
        go_simp
        refine (kB _).mono ?_
        rintro e x4 ⟨rfl, hx4⟩
        refine hK.out _ _ (fun _ => hkeep _ (by (repeat (first | exact c_refl _ | refine c_drew ?_ | refine c_alloc ?_ _ | refine c_row ?_ (by first | omega | exact Nat.le_refl _) _ | refine c_call ?_ (by assumption))); first | done | fail "open")) ?_
        clear hK K
        have hN4 := hN3.call hx4
        have hsz : w.heap.size ≤ x4.heap.size := Nat.le_trans hvv0 (show Below v0.heap.size v0 x4 from (by (repeat (first | exact c_refl _ | refine c_drew ?_ | refine c_alloc ?_ _ | refine c_row ?_ (by first | omega | exact Nat.le_refl _) _ | refine c_call ?_ (by assumption))); first | done | fail "open")).size
        have hne : (v0.heap.size : Nat) ≠ v0.heap.size + 1 := hn2 _ List.mem_cons_self
        have hset := Ms.set2 (ds := (feC A)) (ds' := (feC B)) (hN4.swap) hg1 hg2 hne hn1 (fun p hp => hn2 p (List.mem_cons_of_mem _ hp))
        refine oneT 12 (by kernel_rfl) rfl (fun K hK => ?_)
        refine step_store_row rfl 35 (.tmp 5) (.tmp 25) rfl (v0.heap.size) (feC A) rfl rfl 35 _ (hN4.get 1 rfl) (sizeFe _) (fe_zero _) (one_fe _) ?_
        refine hK.out _ _ (fun _ => hkeep _ (by (repeat (first | exact c_refl _ | refine c_drew ?_ | refine c_alloc ?_ _ | refine c_row ?_ (by first | omega | exact Nat.le_refl _) _ | refine c_call ?_ (by assumption))); first | done | fail "open")) ?_
        clear hK K
        refine oneT 13 (by kernel_rfl) rfl (fun K hK => ?_)
        refine step_store_row rfl 35 (.tmp 6) (.tmp 30) rfl (v0.heap.size + 1) (feC B) rfl rfl 35 _ ((hN4.get 0 rfl).rowFar (Ne.symm hne) _) (sizeFe _) (fe_zero _) (one_fe _) ?_
        refine hK.out _ _ (fun h => absurd rfl h) ?_
        clear hK K
        refine doneT (by kernel_rfl) ?_ _
        go_wp2_with fail
        go_meet
        exact ⟨_, _, rfl, rfl, Nat.le_trans hvv0 hk1, Nat.le_trans hvv0 hk2, by have := hsz; simp [World.setRow] at this ⊢; omega, hset⟩
    · go_simp
      refine hK.out _ _ (fun _ => hkeep _ (by (repeat (first | exact c_refl _ | refine c_drew ?_ | refine c_alloc ?_ _ | refine c_row ?_ (by first | omega | exact Nat.le_refl _) _ | refine c_call ?_ (by assumption))); first | done | fail "open")) ?_
      clear hK K
      have hn1 := fun p hp => Nat.ne_of_lt ((hD.rows p hp).lt)
      have hg1 := hD.old.size
      have hN1 := hD.box 35 #[.int .u64 0, .int .u64 0, .int .u64 0, .int .u64 0, .int .u64 0]
      try simp only [World.size_alloc] at hN1 hn1 hg1
      have hk1 : v0.heap.size ≤ v0.heap.size := Nat.le_refl _
      refine readyT [4, 10] (by kernel_rfl) (by simp) (AllReadyT.cons rfl (fun K hK => ?_) (AllReadyT.cons rfl (fun K hK => ?_) AllReadyT.nil))
      · go_simp
        refine (kA _).mono ?_
        rintro e x2 ⟨rfl, hx2⟩
        refine hK.out _ _ (fun _ => hkeep _ (by (repeat (first | exact c_refl _ | refine c_drew ?_ | refine c_alloc ?_ _ | refine c_row ?_ (by first | omega | exact Nat.le_refl _) _ | refine c_call ?_ (by assumption))); first | done | fail "open")) ?_
        clear hK K
        have hN2 := hN1.call hx2
        refine readyT [9, 10] (by kernel_rfl) (by simp) (AllReadyT.cons rfl (fun K hK => ?_) (AllReadyT.cons rfl (fun K hK => ?_) AllReadyT.nil))
        · go_simp
          refine (kB _).mono ?_
          rintro e x3 ⟨rfl, hx3⟩
          refine hK.out _ _ (fun _ => hkeep _ (by (repeat (first | exact c_refl _ | refine c_drew ?_ | refine c_alloc ?_ _ | refine c_row ?_ (by first | omega | exact Nat.le_refl _) _ | refine c_call ?_ (by assumption))); first | done | fail "open")) ?_
          clear hK K
          have hN3 := hN2.call hx3
          refine oneT 10 (by kernel_rfl) rfl (fun K hK => ?_)
          go_simp
          refine hK.out _ _ (fun _ => hkeep _ (by (repeat (first | exact c_refl _ | refine c_drew ?_ | refine c_alloc ?_ _ | refine c_row ?_ (by first | omega | exact Nat.le_refl _) _ | refine c_call ?_ (by assumption))); first | done | fail "open")) ?_
          clear hK K
          have hn2 := fun p hp => Nat.ne_of_lt ((hN3.rows p hp).lt)
          have hg2 := hN3.old.size
          have hN4 := hN3.box 35 #[.int .u64 0, .int .u64 0, .int .u64 0, .int .u64 0, .int .u64 0]
          try simp only [World.size_alloc] at hN4 hn2 hg2
          have hk2 : v0.heap.size ≤ x3.heap.size := (show Below v0.heap.size v0 x3 from (by (repeat (first | exact c_refl _ | refine c_drew ?_ | refine c_alloc ?_ _ | refine c_row ?_ (by first | omega | exact Nat.le_refl _) _ | refine c_call ?_ (by assumption))); first | done | fail "open")).size
          have hsz : w.heap.size ≤ x3.heap.size + 1 := Nat.le_trans hvv0 (Nat.le_trans hk2 (Nat.le_succ _))
          have hne : (v0.heap.size : Nat) ≠ x3.heap.size := hn2 _ List.mem_cons_self
          have hset := Ms.set2 (ds := (feC A)) (ds' := (feC B)) (hN4) hg2 hg1 (Ne.symm hne) (fun p hp => hn2 p (List.mem_cons_of_mem _ hp)) hn1
          refine oneT 12 (by kernel_rfl) rfl (fun K hK => ?_)
          refine step_store_row rfl 35 (.tmp 5) (.tmp 25) rfl (x3.heap.size) (feC A) rfl rfl 35 _ (hN4.get 0 rfl) (sizeFe _) (fe_zero _) (one_fe _) ?_
          refine hK.out _ _ (fun _ => hkeep _ (by (repeat (first | exact c_refl _ | refine c_drew ?_ | refine c_alloc ?_ _ | refine c_row ?_ (by first | omega | exact Nat.le_refl _) _ | refine c_call ?_ (by assumption))); first | done | fail "open")) ?_
          clear hK K
          refine oneT 13 (by kernel_rfl) rfl (fun K hK => ?_)
          refine step_store_row rfl 35 (.tmp 6) (.tmp 30) rfl (v0.heap.size) (feC B) rfl rfl 35 _ ((hN4.get 1 rfl).rowFar hne _) (sizeFe _) (fe_zero _) (one_fe _) ?_
          refine hK.out _ _ (fun h => absurd rfl h) ?_
          clear hK K
          refine doneT (by kernel_rfl) ?_ _
          go_wp2_with fail
          go_meet
          exact ⟨_, _, rfl, rfl, Nat.le_trans hvv0 hk2, Nat.le_trans hvv0 hk1, by have := hsz; simp [World.setRow] at this ⊢; omega, hset⟩
        · go_simp
          refine hK.out _ _ (fun _ => hkeep _ (by (repeat (first | exact c_refl _ | refine c_drew ?_ | refine c_alloc ?_ _ | refine c_row ?_ (by first | omega | exact Nat.le_refl _) _ | refine c_call ?_ (by assumption))); first | done | fail "open")) ?_
          clear hK K
          have hn2 := fun p hp => Nat.ne_of_lt ((hN2.rows p hp).lt)
          have hg2 := hN2.old.size
          have hN3 := hN2.box 35 #[.int .u64 0, .int .u64 0, .int .u64 0, .int .u64 0, .int .u64 0]
          try simp only [World.size_alloc] at hN3 hn2 hg2
          have hk2 : v0.heap.size ≤ x2.heap.size := (show Below v0.heap.size v0 x2 from (by (repeat (first | exact c_refl _ | refine c_drew ?_ | refine c_alloc ?_ _ | refine c_row ?_ (by first | omega | exact Nat.le_refl _) _ | refine c_call ?_ (by assumption))); first | done | fail "open")).size
          refine oneT 9 (by kernel_rfl) rfl (fun K hK => ?_)
          go_simp
          refine (kB _).mono ?_
          rintro e x4 ⟨rfl, hx4⟩
          refine hK.out _ _ (fun _ => hkeep _ (by (repeat (first | exact c_refl _ | refine c_drew ?_ | refine c_alloc ?_ _ | refine c_row ?_ (by first | omega | exact Nat.le_refl _) _ | refine c_call ?_ (by assumption))); first | done | fail "open")) ?_
          clear hK K
          have hN4 := hN3.call hx4
          have hsz : w.heap.size ≤ x4.heap.size := Nat.le_trans hvv0 (show Below v0.heap.size v0 x4 from (by (repeat (first | exact c_refl _ | refine c_drew ?_ | refine c_alloc ?_ _ | refine c_row ?_ (by first | omega | exact Nat.le_refl _) _ | refine c_call ?_ (by assumption))); first | done | fail "open")).size
          have hne : (v0.heap.size : Nat) ≠ x2.heap.size := hn2 _ List.mem_cons_self
          have hset := Ms.set2 (ds := (feC A)) (ds' := (feC B)) (hN4) hg2 hg1 (Ne.symm hne) (fun p hp => hn2 p (List.mem_cons_of_mem _ hp)) hn1
          refine oneT 12 (by kernel_rfl) rfl (fun K hK => ?_)
          refine step_store_row rfl 35 (.tmp 5) (.tmp 25) rfl (x2.heap.size) (feC A) rfl rfl 35 _ (hN4.get 0 rfl) (sizeFe _) (fe_zero _) (one_fe _) ?_
          refine hK.out _ _ (fun _ => hkeep _ (by (repeat (first | exact c_refl _ | refine c_drew ?_ | refine c_alloc ?_ _ | refine c_row ?_ (by first | omega | exact Nat.le_refl _) _ | refine c_call ?_ (by assumption))); first | done | fail "open")) ?_
          clear hK K
          refine oneT 13 (by kernel_rfl) rfl (fun K hK => ?_)
          refine step_store_row rfl 35 (.tmp 6) (.tmp 30) rfl (v0.heap.size) (feC B) rfl rfl 35 _ ((hN4.get 1 rfl).rowFar hne _) (sizeFe _) (fe_zero _) (one_fe _) ?_
          refine hK.out _ _ (fun h => absurd rfl h) ?_
          clear hK K
          refine doneT (by kernel_rfl) ?_ _
          go_wp2_with fail
          go_meet
          exact ⟨_, _, rfl, rfl, Nat.le_trans hvv0 hk2, Nat.le_trans hvv0 hk1, by have := hsz; simp [World.setRow] at this ⊢; omega, hset⟩
      · go_simp
        refine hK.out _ _ (fun _ => hkeep _ (by (repeat (first | exact c_refl _ | refine c_drew ?_ | refine c_alloc ?_ _ | refine c_row ?_ (by first | omega | exact Nat.le_refl _) _ | refine c_call ?_ (by assumption))); first | done | fail "open")) ?_
        clear hK K
        have hn2 := fun p hp => Nat.ne_of_lt ((hN1.rows p hp).lt)
        have hg2 := hN1.old.size
        have hN2 := hN1.box 35 #[.int .u64 0, .int .u64 0, .int .u64 0, .int .u64 0, .int .u64 0]
        try simp only [World.size_alloc] at hN2 hn2 hg2
        have hk2 : v0.heap.size ≤ v0.heap.size + 1 := Nat.le_succ _
        refine oneT 4 (by kernel_rfl) rfl (fun K hK => ?_)
        go_simp
        refine (kA _).mono ?_
        rintro e x3 ⟨rfl, hx3⟩
        refine hK.out _ _ (fun _ => hkeep _ (by (repeat (first | exact c_refl _ | refine c_drew ?_ | refine c_alloc ?_ _ | refine c_row ?_ (by first | omega | exact Nat.le_refl _) _ | refine c_call ?_ (by assumption))); first | done | fail "open")) ?_
        clear hK K
        have hN3 := hN2.call hx3
        refine oneT 9 (by kernel_rfl) rfl (fun K hK => ?_)
        go_simp
        refine (kB _).mono ?_
        rintro e x4 ⟨rfl, hx4⟩
        refine hK.out _ _ (fun _ => hkeep _ (by (repeat (first | exact c_refl _ | refine c_drew ?_ | refine c_alloc ?_ _ | refine c_row ?_ (by first | omega | exact Nat.le_refl _) _ | refine c_call ?_ (by assumption))); first | done | fail "open")) ?_
        clear hK K
        have hN4 := hN3.call hx4
        have hsz : w.heap.size ≤ x4.heap.size := Nat.le_trans hvv0 (show Below v0.heap.size v0 x4 from (by (repeat (first | exact c_refl _ | refine c_drew ?_ | refine c_alloc ?_ _ | refine c_row ?_ (by first | omega | exact Nat.le_refl _) _ | refine c_call ?_ (by assumption))); first | done | fail "open")).size
        have hne : (v0.heap.size : Nat) ≠ v0.heap.size + 1 := hn2 _ List.mem_cons_self
        have hset := Ms.set2 (ds := (feC A)) (ds' := (feC B)) (hN4) hg2 hg1 (Ne.symm hne) (fun p hp => hn2 p (List.mem_cons_of_mem _ hp)) hn1
        refine oneT 12 (by kernel_rfl) rfl (fun K hK => ?_)
        refine step_store_row rfl 35 (.tmp 5) (.tmp 25) rfl (v0.heap.size + 1) (feC A) rfl rfl 35 _ (hN4.get 0 rfl) (sizeFe _) (fe_zero _) (one_fe _) ?_
        refine hK.out _ _ (fun _ => hkeep _ (by (repeat (first | exact c_refl _ | refine c_drew ?_ | refine c_alloc ?_ _ | refine c_row ?_ (by first | omega | exact Nat.le_refl _) _ | refine c_call ?_ (by assumption))); first | done | fail "open")) ?_
        clear hK K
        refine oneT 13 (by kernel_rfl) rfl (fun K hK => ?_)
        refine step_store_row rfl 35 (.tmp 6) (.tmp 30) rfl (v0.heap.size) (feC B) rfl rfl 35 _ ((hN4.get 1 rfl).rowFar hne _) (sizeFe _) (fe_zero _) (one_fe _) ?_
        refine hK.out _ _ (fun h => absurd rfl h) ?_
        clear hK K
        refine doneT (by kernel_rfl) ?_ _
        go_wp2_with fail
        go_meet
        exact ⟨_, _, rfl, rfl, Nat.le_trans hvv0 hk2, Nat.le_trans hvv0 hk1, by have := hsz; simp [World.setRow] at this ⊢; omega, hset⟩
  case rest =>
    obtain ⟨gA, gB, rfl, rfl, hggA, hggB, hsc1, hMc1⟩ := hcut
    clear hMvv0
    go_upto_region 2 with (fail)
    try simp only [Act.put]
    refine wp_gen (fun wx => Ms w0 wx ((gA, 35, (feC A)) :: (gB, 35, (feC B)) :: (gN, 38, (rtC nx nz)) :: (gX, 38, (rtC xx xz)) :: (gP, 35, (feC P)) :: L) ∧ w.heap.size ≤ wx.heap.size) ⟨hMc1, hsc1⟩ ?_
    clear hMc1
    rintro v1 ⟨hMvv1, hvv1⟩
    go_cut [7, 8] (fun p q wx => ∃ g g' : Nat, p = .pointer (some ⟨g, 0, none⟩) ∧ q = .pointer (some ⟨g', 0, none⟩) ∧ w.heap.size ≤ g ∧ w.heap.size ≤ g' ∧ w.heap.size ≤ wx.heap.size ∧ Ms w0 wx ((g, 35, (feC C)) :: (g', 35, (feC D)) :: (gA, 35, (feC A)) :: (gB, 35, (feC B)) :: (gN, 38, (rtC nx nz)) :: (gX, 38, (rtC xx xz)) :: (gP, 35, (feC P)) :: L))
    case first =>
      have hkeep : ∀ wx : World, Below v1.heap.size v1 wx → wx.rangeAt (gX) 0 (feC xx).toList ∧ wx.rangeAt (gX) 5 (feC xz).toList := fun wx hb => ⟨((hMvv1.get 3 rfl).call hb).rfst, ((hMvv1.get 3 rfl).call hb).rsnd⟩
      have hun := Try.underlying35
      refine beginT (fun wx => wx.rangeAt (gX) 0 (feC xx).toList ∧ wx.rangeAt (gX) 5 (feC xz).toList) 13 (by kernel_rfl) ?_
      have hS := hkeep _ (c_drew (c_refl _))
      refine takeD 0 (some 31) (.pointer (some ⟨gX, 0, none⟩)) rfl rfl (by kernel_rfl) (by kernel_rfl) (by kernel_rfl) (by kernel_rfl) (fun _ _ _ h => h) (Or.inl ⟨by kernel_rfl, fun wx hSw => by go_simp⟩) hS ?_
      simp only [Act.put, List.setIfInBounds_toArray, List.set_cons_zero, List.set_cons_succ]
      refine loadT 1 (some 32) 35 (.tmp 31) (gX) 0 (feC xx).toList rfl rfl (by kernel_rfl) (by kernel_rfl) (by kernel_rfl) (by kernel_rfl) rfl (by kernel_rfl) rfl (fun wx hSw => hSw.1) hun rfl (sizeFeL _) (fun _ _ _ h => h) hS ?_
      simp only [Act.put, List.setIfInBounds_toArray, List.set_cons_zero, List.set_cons_succ, Array.toArray_toList]
      refine takeD 2 (some 33) (.pointer (some ⟨gX, 5, none⟩)) rfl rfl (by kernel_rfl) (by kernel_rfl) (by kernel_rfl) (by kernel_rfl) (fun _ _ _ h => h) (Or.inl ⟨by kernel_rfl, fun wx hSw => by go_simp⟩) hS ?_
      simp only [Act.put, List.setIfInBounds_toArray, List.set_cons_zero, List.set_cons_succ]
      refine loadT 3 (some 34) 35 (.tmp 33) (gX) 5 (feC xz).toList rfl rfl (by kernel_rfl) (by kernel_rfl) (by kernel_rfl) (by kernel_rfl) rfl (by kernel_rfl) rfl (fun wx hSw => hSw.2) hun rfl (sizeFeL _) (fun _ _ _ h => h) hS ?_
      simp only [Act.put, List.setIfInBounds_toArray, List.set_cons_zero, List.set_cons_succ, Array.toArray_toList]
      refine takeD 5 (some 36) (.pointer (some ⟨gX, 0, none⟩)) rfl rfl (by kernel_rfl) (by kernel_rfl) (by kernel_rfl) (by kernel_rfl) (fun _ _ _ h => h) (Or.inl ⟨by kernel_rfl, fun wx hSw => by go_simp⟩) hS ?_
      simp only [Act.put, List.setIfInBounds_toArray, List.set_cons_zero, List.set_cons_succ]
      refine loadT 6 (some 37) 35 (.tmp 36) (gX) 0 (feC xx).toList rfl rfl (by kernel_rfl) (by kernel_rfl) (by kernel_rfl) (by kernel_rfl) rfl (by kernel_rfl) rfl (fun wx hSw => hSw.1) hun rfl (sizeFeL _) (fun _ _ _ h => h) hS ?_
      simp only [Act.put, List.setIfInBounds_toArray, List.set_cons_zero, List.set_cons_succ, Array.toArray_toList]
      refine takeD 7 (some 38) (.pointer (some ⟨gX, 5, none⟩)) rfl rfl (by kernel_rfl) (by kernel_rfl) (by kernel_rfl) (by kernel_rfl) (fun _ _ _ h => h) (Or.inl ⟨by kernel_rfl, fun wx hSw => by go_simp⟩) hS ?_
      simp only [Act.put, List.setIfInBounds_toArray, List.set_cons_zero, List.set_cons_succ]
      refine loadT 8 (some 39) 35 (.tmp 38) (gX) 5 (feC xz).toList rfl rfl (by kernel_rfl) (by kernel_rfl) (by kernel_rfl) (by kernel_rfl) rfl (by kernel_rfl) rfl (fun wx hSw => hSw.2) hun rfl (sizeFeL _) (fun _ _ _ h => h) hS ?_
      simp only [Act.put, List.setIfInBounds_toArray, List.set_cons_zero, List.set_cons_succ, Array.toArray_toList]
      have hD := hMvv1.drew
      refine readyT [4, 10, 11] (by kernel_rfl) (by simp) (AllReadyT.cons rfl (fun K hK => ?_) (AllReadyT.cons rfl (fun K hK => ?_) (AllReadyT.cons rfl (fun K hK => ?_) AllReadyT.nil)))
      · go_simp
        refine (kC _).mono ?_
        rintro e x1 ⟨rfl, hx1⟩
        refine hK.out _ _ (fun _ => hkeep _ (by (repeat (first | exact c_refl _ | refine c_drew ?_ | refine c_alloc ?_ _ | refine c_row ?_ (by first | omega | exact Nat.le_refl _) _ | refine c_call ?_ (by assumption))); first | done | fail "open")) ?_
        clear hK K
        have hN1 := hD.call hx1
        refine readyT [9, 10, 11] (by kernel_rfl) (by simp) (AllReadyT.cons rfl (fun K hK => ?_) (AllReadyT.cons rfl (fun K hK => ?_) (AllReadyT.cons rfl (fun K hK => ?_) AllReadyT.nil)))
        · go_simp
          refine (kD _).mono ?_
          rintro e x2 ⟨rfl, hx2⟩
          refine hK.out _ _ (fun _ => hkeep _ (by (repeat (first | exact c_refl _ | refine c_drew ?_ | refine c_alloc ?_ _ | refine c_row ?_ (by first | omega | exact Nat.le_refl _) _ | refine c_call ?_ (by assumption))); first | done | fail "open")) ?_
          clear hK K
          have hN2 := hN1.call hx2
          refine readyT [10, 11] (by kernel_rfl) (by simp) (AllReadyT.cons rfl (fun K hK => ?_) (AllReadyT.cons rfl (fun K hK => ?_) AllReadyT.nil))
          · go_simp
            refine hK.out _ _ (fun _ => hkeep _ (by (repeat (first | exact c_refl _ | refine c_drew ?_ | refine c_alloc ?_ _ | refine c_row ?_ (by first | omega | exact Nat.le_refl _) _ | refine c_call ?_ (by assumption))); first | done | fail "open")) ?_
            clear hK K
            have hn1 := fun p hp => Nat.ne_of_lt ((hN2.rows p hp).lt)
            have hg1 := hN2.old.size
            have hN3 := hN2.box 35 #[.int .u64 0, .int .u64 0, .int .u64 0, .int .u64 0, .int .u64 0]
            try simp only [World.size_alloc] at hN3 hn1 hg1
            have hk1 : v1.heap.size ≤ x2.heap.size := (show Below v1.heap.size v1 x2 from (by (repeat (first | exact c_refl _ | refine c_drew ?_ | refine c_alloc ?_ _ | refine c_row ?_ (by first | omega | exact Nat.le_refl _) _ | refine c_call ?_ (by assumption))); first | done | fail "open")).size
            refine oneT 11 (by kernel_rfl) rfl (fun K hK => ?_)
            go_simp
            refine hK.out _ _ (fun _ => hkeep _ (by (repeat (first | exact c_refl _ | refine c_drew ?_ | refine c_alloc ?_ _ | refine c_row ?_ (by first | omega | exact Nat.le_refl _) _ | refine c_call ?_ (by assumption))); first | done | fail "open")) ?_
            clear hK K
            have hn2 := fun p hp => Nat.ne_of_lt ((hN3.rows p hp).lt)
            have hg2 := hN3.old.size
            have hN4 := hN3.box 35 #[.int .u64 0, .int .u64 0, .int .u64 0, .int .u64 0, .int .u64 0]
            try simp only [World.size_alloc] at hN4 hn2 hg2
            have hk2 : v1.heap.size ≤ x2.heap.size + 1 := Nat.le_trans (show Below v1.heap.size v1 x2 from (by (repeat (first | exact c_refl _ | refine c_drew ?_ | refine c_alloc ?_ _ | refine c_row ?_ (by first | omega | exact Nat.le_refl _) _ | refine c_call ?_ (by assumption))); first | done | fail "open")).size (Nat.le_succ _)
            have hsz : w.heap.size ≤ x2.heap.size + 1 + 1 := Nat.le_trans hvv1 (Nat.le_trans hk2 (Nat.le_succ _))
            have hne : (x2.heap.size : Nat) ≠ x2.heap.size + 1 := hn2 _ List.mem_cons_self
            have hset := Ms.set2 (ds := (feC C)) (ds' := (feC D)) (hN4.swap) hg1 hg2 hne hn1 (fun p hp => hn2 p (List.mem_cons_of_mem _ hp))
            refine oneT 12 (by kernel_rfl) rfl (fun K hK => ?_)
            refine step_store_row rfl 35 (.tmp 7) (.tmp 35) rfl (x2.heap.size) (feC C) rfl rfl 35 _ (hN4.get 1 rfl) (sizeFe _) (fe_zero _) (one_fe _) ?_
            refine hK.out _ _ (fun _ => hkeep _ (by (repeat (first | exact c_refl _ | refine c_drew ?_ | refine c_alloc ?_ _ | refine c_row ?_ (by first | omega | exact Nat.le_refl _) _ | refine c_call ?_ (by assumption))); first | done | fail "open")) ?_
            clear hK K
            refine oneT 13 (by kernel_rfl) rfl (fun K hK => ?_)
            refine step_store_row rfl 35 (.tmp 8) (.tmp 40) rfl (x2.heap.size + 1) (feC D) rfl rfl 35 _ ((hN4.get 0 rfl).rowFar (Ne.symm hne) _) (sizeFe _) (fe_zero _) (one_fe _) ?_
            refine hK.out _ _ (fun h => absurd rfl h) ?_
            clear hK K
            refine doneT (by kernel_rfl) ?_ _
            go_wp2_with fail
            go_meet
            exact ⟨_, _, rfl, rfl, Nat.le_trans hvv1 hk1, Nat.le_trans hvv1 hk2, by have := hsz; simp [World.setRow] at this ⊢; omega, hset⟩
          · go_simp
            refine hK.out _ _ (fun _ => hkeep _ (by (repeat (first | exact c_refl _ | refine c_drew ?_ | refine c_alloc ?_ _ | refine c_row ?_ (by first | omega | exact Nat.le_refl _) _ | refine c_call ?_ (by assumption))); first | done | fail "open")) ?_
            clear hK K
            have hn1 := fun p hp => Nat.ne_of_lt ((hN2.rows p hp).lt)
            have hg1 := hN2.old.size
            have hN3 := hN2.box 35 #[.int .u64 0, .int .u64 0, .int .u64 0, .int .u64 0, .int .u64 0]
            try simp only [World.size_alloc] at hN3 hn1 hg1
            have hk1 : v1.heap.size ≤ x2.heap.size := (show Below v1.heap.size v1 x2 from (by (repeat (first | exact c_refl _ | refine c_drew ?_ | refine c_alloc ?_ _ | refine c_row ?_ (by first | omega | exact Nat.le_refl _) _ | refine c_call ?_ (by assumption))); first | done | fail "open")).size
            refine oneT 10 (by kernel_rfl) rfl (fun K hK => ?_)
            go_simp
            refine hK.out _ _ (fun _ => hkeep _ (by (repeat (first | exact c_refl _ | refine c_drew ?_ | refine c_alloc ?_ _ | refine c_row ?_ (by first | omega | exact Nat.le_refl _) _ | refine c_call ?_ (by assumption))); first | done | fail "open")) ?_
            clear hK K
            have hn2 := fun p hp => Nat.ne_of_lt ((hN3.rows p hp).lt)
            have hg2 := hN3.old.size
            have hN4 := hN3.box 35 #[.int .u64 0, .int .u64 0, .int .u64 0, .int .u64 0, .int .u64 0]
            try simp only [World.size_alloc] at hN4 hn2 hg2
            have hk2 : v1.heap.size ≤ x2.heap.size + 1 := Nat.le_trans (show Below v1.heap.size v1 x2 from (by (repeat (first | exact c_refl _ | refine c_drew ?_ | refine c_alloc ?_ _ | refine c_row ?_ (by first | omega | exact Nat.le_refl _) _ | refine c_call ?_ (by assumption))); first | done | fail "open")).size (Nat.le_succ _)
            have hsz : w.heap.size ≤ x2.heap.size + 1 + 1 := Nat.le_trans hvv1 (Nat.le_trans hk2 (Nat.le_succ _))
            have hne : (x2.heap.size : Nat) ≠ x2.heap.size + 1 := hn2 _ List.mem_cons_self
            have hset := Ms.set2 (ds := (feC C)) (ds' := (feC D)) (hN4) hg2 hg1 (Ne.symm hne) (fun p hp => hn2 p (List.mem_cons_of_mem _ hp)) hn1
            refine oneT 12 (by kernel_rfl) rfl (fun K hK => ?_)
            refine step_store_row rfl 35 (.tmp 7) (.tmp 35) rfl (x2.heap.size + 1) (feC C) rfl rfl 35 _ (hN4.get 0 rfl) (sizeFe _) (fe_zero _) (one_fe _) ?_
            refine hK.out _ _ (fun _ => hkeep _ (by (repeat (first | exact c_refl _ | refine c_drew ?_ | refine c_alloc ?_ _ | refine c_row ?_ (by first | omega | exact Nat.le_refl _) _ | refine c_call ?_ (by assumption))); first | done | fail "open")) ?_
            clear hK K
            refine oneT 13 (by kernel_rfl) rfl (fun K hK => ?_)
            refine step_store_row rfl 35 (.tmp 8) (.tmp 40) rfl (x2.heap.size) (feC D) rfl rfl 35 _ ((hN4.get 1 rfl).rowFar hne _) (sizeFe _) (fe_zero _) (one_fe _) ?_
            refine hK.out _ _ (fun h => absurd rfl h) ?_
            clear hK K
            refine doneT (by kernel_rfl) ?_ _
            go_wp2_with fail
            go_meet
            exact ⟨_, _, rfl, rfl, Nat.le_trans hvv1 hk2, Nat.le_trans hvv1 hk1, by have := hsz; simp [World.setRow] at this ⊢; omega, hset⟩
        · go_simp
          refine hK.out _ _ (fun _ => hkeep _ (by (repeat (first | exact c_refl _ | refine c_drew ?_ | refine c_alloc ?_ _ | refine c_row ?_ (by first | omega | exact Nat.le_refl _) _ | refine c_call ?_ (by assumption))); first | done | fail "open")) ?_
          clear hK K
          have hn1 := fun p hp => Nat.ne_of_lt ((hN1.rows p hp).lt)
          have hg1 := hN1.old.size
          have hN2 := hN1.box 35 #[.int .u64 0, .int .u64 0, .int .u64 0, .int .u64 0, .int .u64 0]
          try simp only [World.size_alloc] at hN2 hn1 hg1
          have hk1 : v1.heap.size ≤ x1.heap.size := (show Below v1.heap.size v1 x1 from (by (repeat (first | exact c_refl _ | refine c_drew ?_ | refine c_alloc ?_ _ | refine c_row ?_ (by first | omega | exact Nat.le_refl _) _ | refine c_call ?_ (by assumption))); first | done | fail "open")).size
          refine readyT [9, 11] (by kernel_rfl) (by simp) (AllReadyT.cons rfl (fun K hK => ?_) (AllReadyT.cons rfl (fun K hK => ?_) AllReadyT.nil))
          · go_simp
            refine (kD _).mono ?_
            rintro e x3 ⟨rfl, hx3⟩
            refine hK.out _ _ (fun _ => hkeep _ (by (repeat (first | exact c_refl _ | refine c_drew ?_ | refine c_alloc ?_ _ | refine c_row ?_ (by first | omega | exact Nat.le_refl _) _ | refine c_call ?_ (by assumption))); first | done | fail "open")) ?_
            clear hK K
            have hN3 := hN2.call hx3
            refine oneT 11 (by kernel_rfl) rfl (fun K hK => ?_)
            go_simp
            refine hK.out _ _ (fun _ => hkeep _ (by (repeat (first | exact c_refl _ | refine c_drew ?_ | refine c_alloc ?_ _ | refine c_row ?_ (by first | omega | exact Nat.le_refl _) _ | refine c_call ?_ (by assumption))); first | done | fail "open")) ?_
            clear hK K
            have hn2 := fun p hp => Nat.ne_of_lt ((hN3.rows p hp).lt)
            have hg2 := hN3.old.size
            have hN4 := hN3.box 35 #[.int .u64 0, .int .u64 0, .int .u64 0, .int .u64 0, .int .u64 0]
            try simp only [World.size_alloc] at hN4 hn2 hg2
            have hk2 : v1.heap.size ≤ x3.heap.size := (show Below v1.heap.size v1 x3 from (by (repeat (first | exact c_refl _ | refine c_drew ?_ | refine c_alloc ?_ _ | refine c_row ?_ (by first | omega | exact Nat.le_refl _) _ | refine c_call ?_ (by assumption))); first | done | fail "open")).size
            have hsz : w.heap.size ≤ x3.heap.size + 1 := Nat.le_trans hvv1 (Nat.le_trans hk2 (Nat.le_succ _))
            have hne : (x1.heap.size : Nat) ≠ x3.heap.size := hn2 _ List.mem_cons_self
            have hset := Ms.set2 (ds := (feC C)) (ds' := (feC D)) (hN4.swap) hg1 hg2 hne hn1 (fun p hp => hn2 p (List.mem_cons_of_mem _ hp))
            refine oneT 12 (by kernel_rfl) rfl (fun K hK => ?_)
            refine step_store_row rfl 35 (.tmp 7) (.tmp 35) rfl (x1.heap.size) (feC C) rfl rfl 35 _ (hN4.get 1 rfl) (sizeFe _) (fe_zero _) (one_fe _) ?_
            refine hK.out _ _ (fun _ => hkeep _ (by (repeat (first | exact c_refl _ | refine c_drew ?_ | refine c_alloc ?_ _ | refine c_row ?_ (by first | omega | exact Nat.le_refl _) _ | refine c_call ?_ (by assumption))); first | done | fail "open")) ?_
            clear hK K
            refine oneT 13 (by kernel_rfl) rfl (fun K hK => ?_)
            refine step_store_row rfl 35 (.tmp 8) (.tmp 40) rfl (x3.heap.size) (feC D) rfl rfl 35 _ ((hN4.get 0 rfl).rowFar (Ne.symm hne) _) (sizeFe _) (fe_zero _) (one_fe _) ?_
            refine hK.out _ _ (fun h => absurd rfl h) ?_
            clear hK K
            refine doneT (by kernel_rfl) ?_ _
            go_wp2_with fail
            go_meet
            exact ⟨_, _, rfl, rfl, Nat.le_trans hvv1 hk1, Nat.le_trans hvv1 hk2, by have := hsz; simp [World.setRow] at this ⊢; omega, hset⟩
          · go_simp
            refine hK.out _ _ (fun _ => hkeep _ (by (repeat (first | exact c_refl _ | refine c_drew ?_ | refine c_alloc ?_ _ | refine c_row ?_ (by first | omega | exact Nat.le_refl _) _ | refine c_call ?_ (by assumption))); first | done | fail "open")) ?_
            clear hK K
            have hn2 := fun p hp => Nat.ne_of_lt ((hN2.rows p hp).lt)
            have hg2 := hN2.old.size
            have hN3 := hN2.box 35 #[.int .u64 0, .int .u64 0, .int .u64 0, .int .u64 0, .int .u64 0]
            try simp only [World.size_alloc] at hN3 hn2 hg2
            have hk2 : v1.heap.size ≤ x1.heap.size + 1 := Nat.le_trans (show Below v1.heap.size v1 x1 from (by (repeat (first | exact c_refl _ | refine c_drew ?_ | refine c_alloc ?_ _ | refine c_row ?_ (by first | omega | exact Nat.le_refl _) _ | refine c_call ?_ (by assumption))); first | done | fail "open")).size (Nat.le_succ _)
            refine oneT 9 (by kernel_rfl) rfl (fun K hK => ?_)
            go_simp
            refine (kD _).mono ?_
            rintro e x4 ⟨rfl, hx4⟩
            refine hK.out _ _ (fun _ => hkeep _ (by (repeat (first | exact c_refl _ | refine c_drew ?_ | refine c_alloc ?_ _ | refine c_row ?_ (by first | omega | exact Nat.le_refl _) _ | refine c_call ?_ (by assumption))); first | done | fail "open")) ?_
            clear hK K
            have hN4 := hN3.call hx4
            have hsz : w.heap.size ≤ x4.heap.size := Nat.le_trans hvv1 (show Below v1.heap.size v1 x4 from (by (repeat (first | exact c_refl _ | refine c_drew ?_ | refine c_alloc ?_ _ | refine c_row ?_ (by first | omega | exact Nat.le_refl _) _ | refine c_call ?_ (by assumption))); first | done | fail "open")).size
            have hne : (x1.heap.size : Nat) ≠ x1.heap.size + 1 := hn2 _ List.mem_cons_self
            have hset := Ms.set2 (ds := (feC C)) (ds' := (feC D)) (hN4.swap) hg1 hg2 hne hn1 (fun p hp => hn2 p (List.mem_cons_of_mem _ hp))
            refine oneT 12 (by kernel_rfl) rfl (fun K hK => ?_)
            refine step_store_row rfl 35 (.tmp 7) (.tmp 35) rfl (x1.heap.size) (feC C) rfl rfl 35 _ (hN4.get 1 rfl) (sizeFe _) (fe_zero _) (one_fe _) ?_
            refine hK.out _ _ (fun _ => hkeep _ (by (repeat (first | exact c_refl _ | refine c_drew ?_ | refine c_alloc ?_ _ | refine c_row ?_ (by first | omega | exact Nat.le_refl _) _ | refine c_call ?_ (by assumption))); first | done | fail "open")) ?_
            clear hK K
            refine oneT 13 (by kernel_rfl) rfl (fun K hK => ?_)
            refine step_store_row rfl 35 (.tmp 8) (.tmp 40) rfl (x1.heap.size + 1) (feC D) rfl rfl 35 _ ((hN4.get 0 rfl).rowFar (Ne.symm hne) _) (sizeFe _) (fe_zero _) (one_fe _) ?_
            refine hK.out _ _ (fun h => absurd rfl h) ?_
            clear hK K
            refine doneT (by kernel_rfl) ?_ _
            go_wp2_with fail
            go_meet
            exact ⟨_, _, rfl, rfl, Nat.le_trans hvv1 hk1, Nat.le_trans hvv1 hk2, by have := hsz; simp [World.setRow] at this ⊢; omega, hset⟩
        · go_simp
          refine hK.out _ _ (fun _ => hkeep _ (by (repeat (first | exact c_refl _ | refine c_drew ?_ | refine c_alloc ?_ _ | refine c_row ?_ (by first | omega | exact Nat.le_refl _) _ | refine c_call ?_ (by assumption))); first | done | fail "open")) ?_
          clear hK K
          have hn1 := fun p hp => Nat.ne_of_lt ((hN1.rows p hp).lt)
          have hg1 := hN1.old.size
          have hN2 := hN1.box 35 #[.int .u64 0, .int .u64 0, .int .u64 0, .int .u64 0, .int .u64 0]
          try simp only [World.size_alloc] at hN2 hn1 hg1
          have hk1 : v1.heap.size ≤ x1.heap.size := (show Below v1.heap.size v1 x1 from (by (repeat (first | exact c_refl _ | refine c_drew ?_ | refine c_alloc ?_ _ | refine c_row ?_ (by first | omega | exact Nat.le_refl _) _ | refine c_call ?_ (by assumption))); first | done | fail "open")).size
          refine readyT [9, 10] (by kernel_rfl) (by simp) (AllReadyT.cons rfl (fun K hK => ?_) (AllReadyT.cons rfl (fun K hK => ?_) AllReadyT.nil))
          · go_simp
            refine (kD _).mono ?_
            rintro e x3 ⟨rfl, hx3⟩
            refine hK.out _ _ (fun _ => hkeep _ (by (repeat (first | exact c_refl _ | refine c_drew ?_ | refine c_alloc ?_ _ | refine c_row ?_ (by first | omega | exact Nat.le_refl _) _ | refine c_call ?_ (by assumption))); first | done | fail "open")) ?_
            clear hK K
            have hN3 := hN2.call hx3
            refine oneT 10 (by kernel_rfl) rfl (fun K hK => ?_)
            go_simp
            refine hK.out _ _ (fun _ => hkeep _ (by (repeat (first | exact c_refl _ | refine c_drew ?_ | refine c_alloc ?_ _ | refine c_row ?_ (by first | omega | exact Nat.le_refl _) _ | refine c_call ?_ (by assumption))); first | done | fail "open")) ?_
            clear hK K
            have hn2 := fun p hp => Nat.ne_of_lt ((hN3.rows p hp).lt)
            have hg2 := hN3.old.size
            have hN4 := hN3.box 35 #[.int .u64 0, .int .u64 0, .int .u64 0, .int .u64 0, .int .u64 0]
            try simp only [World.size_alloc] at hN4 hn2 hg2
            have hk2 : v1.heap.size ≤ x3.heap.size := (show Below v1.heap.size v1 x3 from (by (repeat (first | exact c_refl _ | refine c_drew ?_ | refine c_alloc ?_ _ | refine c_row ?_ (by first | omega | exact Nat.le_refl _) _ | refine c_call ?_ (by assumption))); first | done | fail "open")).size
            have hsz : w.heap.size ≤ x3.heap.size + 1 := Nat.le_trans hvv1 (Nat.le_trans hk2 (Nat.le_succ _))
            have hne : (x1.heap.size : Nat) ≠ x3.heap.size := hn2 _ List.mem_cons_self
            have hset := Ms.set2 (ds := (feC C)) (ds' := (feC D)) (hN4) hg2 hg1 (Ne.symm hne) (fun p hp => hn2 p (List.mem_cons_of_mem _ hp)) hn1
            refine oneT 12 (by kernel_rfl) rfl (fun K hK => ?_)
            refine step_store_row rfl 35 (.tmp 7) (.tmp 35) rfl (x3.heap.size) (feC C) rfl rfl 35 _ (hN4.get 0 rfl) (sizeFe _) (fe_zero _) (one_fe _) ?_
            refine hK.out _ _ (fun _ => hkeep _ (by (repeat (first | exact c_refl _ | refine c_drew ?_ | refine c_alloc ?_ _ | refine c_row ?_ (by first | omega | exact Nat.le_refl _) _ | refine c_call ?_ (by assumption))); first | done | fail "open")) ?_
            clear hK K
            refine oneT 13 (by kernel_rfl) rfl (fun K hK => ?_)
            refine step_store_row rfl 35 (.tmp 8) (.tmp 40) rfl (x1.heap.size) (feC D) rfl rfl 35 _ ((hN4.get 1 rfl).rowFar hne _) (sizeFe _) (fe_zero _) (one_fe _) ?_
            refine hK.out _ _ (fun h => absurd rfl h) ?_
            clear hK K
            refine doneT (by kernel_rfl) ?_ _
            go_wp2_with fail
            go_meet
            exact ⟨_, _, rfl, rfl, Nat.le_trans hvv1 hk2, Nat.le_trans hvv1 hk1, by have := hsz; simp [World.setRow] at this ⊢; omega, hset⟩
          · go_simp
            refine hK.out _ _ (fun _ => hkeep _ (by (repeat (first | exact c_refl _ | refine c_drew ?_ | refine c_alloc ?_ _ | refine c_row ?_ (by first | omega | exact Nat.le_refl _) _ | refine c_call ?_ (by assumption))); first | done | fail "open")) ?_
            clear hK K
            have hn2 := fun p hp => Nat.ne_of_lt ((hN2.rows p hp).lt)
            have hg2 := hN2.old.size
            have hN3 := hN2.box 35 #[.int .u64 0, .int .u64 0, .int .u64 0, .int .u64 0, .int .u64 0]
            try simp only [World.size_alloc] at hN3 hn2 hg2
            have hk2 : v1.heap.size ≤ x1.heap.size + 1 := Nat.le_trans (show Below v1.heap.size v1 x1 from (by (repeat (first | exact c_refl _ | refine c_drew ?_ | refine c_alloc ?_ _ | refine c_row ?_ (by first | omega | exact Nat.le_refl _) _ | refine c_call ?_ (by assumption))); first | done | fail "open")).size (Nat.le_succ _)
            refine oneT 9 (by kernel_rfl) rfl (fun K hK => ?_)
            go_simp
            refine (kD _).mono ?_
            rintro e x4 ⟨rfl, hx4⟩
            refine hK.out _ _ (fun _ => hkeep _ (by (repeat (first | exact c_refl _ | refine c_drew ?_ | refine c_alloc ?_ _ | refine c_row ?_ (by first | omega | exact Nat.le_refl _) _ | refine c_call ?_ (by assumption))); first | done | fail "open")) ?_
            clear hK K
            have hN4 := hN3.call hx4
            have hsz : w.heap.size ≤ x4.heap.size := Nat.le_trans hvv1 (show Below v1.heap.size v1 x4 from (by (repeat (first | exact c_refl _ | refine c_drew ?_ | refine c_alloc ?_ _ | refine c_row ?_ (by first | omega | exact Nat.le_refl _) _ | refine c_call ?_ (by assumption))); first | done | fail "open")).size
            have hne : (x1.heap.size : Nat) ≠ x1.heap.size + 1 := hn2 _ List.mem_cons_self
            have hset := Ms.set2 (ds := (feC C)) (ds' := (feC D)) (hN4) hg2 hg1 (Ne.symm hne) (fun p hp => hn2 p (List.mem_cons_of_mem _ hp)) hn1
            refine oneT 12 (by kernel_rfl) rfl (fun K hK => ?_)
            refine step_store_row rfl 35 (.tmp 7) (.tmp 35) rfl (x1.heap.size + 1) (feC C) rfl rfl 35 _ (hN4.get 0 rfl) (sizeFe _) (fe_zero _) (one_fe _) ?_
            refine hK.out _ _ (fun _ => hkeep _ (by (repeat (first | exact c_refl _ | refine c_drew ?_ | refine c_alloc ?_ _ | refine c_row ?_ (by first | omega | exact Nat.le_refl _) _ | refine c_call ?_ (by assumption))); first | done | fail "open")) ?_
            clear hK K
            refine oneT 13 (by kernel_rfl) rfl (fun K hK => ?_)
            refine step_store_row rfl 35 (.tmp 8) (.tmp 40) rfl (x1.heap.size) (feC D) rfl rfl 35 _ ((hN4.get 1 rfl).rowFar hne _) (sizeFe _) (fe_zero _) (one_fe _) ?_
            refine hK.out _ _ (fun h => absurd rfl h) ?_
            clear hK K
            refine doneT (by kernel_rfl) ?_ _
            go_wp2_with fail
            go_meet
            exact ⟨_, _, rfl, rfl, Nat.le_trans hvv1 hk2, Nat.le_trans hvv1 hk1, by have := hsz; simp [World.setRow] at this ⊢; omega, hset⟩
      · go_simp
        refine hK.out _ _ (fun _ => hkeep _ (by (repeat (first | exact c_refl _ | refine c_drew ?_ | refine c_alloc ?_ _ | refine c_row ?_ (by first | omega | exact Nat.le_refl _) _ | refine c_call ?_ (by assumption))); first | done | fail "open")) ?_
        clear hK K
        have hn1 := fun p hp => Nat.ne_of_lt ((hD.rows p hp).lt)
        have hg1 := hD.old.size
        have hN1 := hD.box 35 #[.int .u64 0, .int .u64 0, .int .u64 0, .int .u64 0, .int .u64 0]
        try simp only [World.size_alloc] at hN1 hn1 hg1
        have hk1 : v1.heap.size ≤ v1.heap.size := Nat.le_refl _
        refine readyT [4, 11] (by kernel_rfl) (by simp) (AllReadyT.cons rfl (fun K hK => ?_) (AllReadyT.cons rfl (fun K hK => ?_) AllReadyT.nil))
        · go_simp
          refine (kC _).mono ?_
          rintro e x2 ⟨rfl, hx2⟩
          refine hK.out _ _ (fun _ => hkeep _ (by (repeat (first | exact c_refl _ | refine c_drew ?_ | refine c_alloc ?_ _ | refine c_row ?_ (by first | omega | exact Nat.le_refl _) _ | refine c_call ?_ (by assumption))); first | done | fail "open")) ?_
          clear hK K
          have hN2 := hN1.call hx2
          refine readyT [9, 11] (by kernel_rfl) (by simp) (AllReadyT.cons rfl (fun K hK => ?_) (AllReadyT.cons rfl (fun K hK => ?_) AllReadyT.nil))
          · go_simp
            refine (kD _).mono ?_
            rintro e x3 ⟨rfl, hx3⟩
            refine hK.out _ _ (fun _ => hkeep _ (by (repeat (first | exact c_refl _ | refine c_drew ?_ | refine c_alloc ?_ _ | refine c_row ?_ (by first | omega | exact Nat.le_refl _) _ | refine c_call ?_ (by assumption))); first | done | fail "open")) ?_
            clear hK K
            have hN3 := hN2.call hx3
            refine oneT 11 (by kernel_rfl) rfl (fun K hK => ?_)
            go_simp
            refine hK.out _ _ (fun _ => hkeep _ (by (repeat (first | exact c_refl _ | refine c_drew ?_ | refine c_alloc ?_ _ | refine c_row ?_ (by first | omega | exact Nat.le_refl _) _ | refine c_call ?_ (by assumption))); first | done | fail "open")) ?_
            clear hK K
            have hn2 := fun p hp => Nat.ne_of_lt ((hN3.rows p hp).lt)
            have hg2 := hN3.old.size
            have hN4 := hN3.box 35 #[.int .u64 0, .int .u64 0, .int .u64 0, .int .u64 0, .int .u64 0]
            try simp only [World.size_alloc] at hN4 hn2 hg2
            have hk2 : v1.heap.size ≤ x3.heap.size := (show Below v1.heap.size v1 x3 from (by (repeat (first | exact c_refl _ | refine c_drew ?_ | refine c_alloc ?_ _ | refine c_row ?_ (by first | omega | exact Nat.le_refl _) _ | refine c_call ?_ (by assumption))); first | done | fail "open")).size
            have hsz : w.heap.size ≤ x3.heap.size + 1 := Nat.le_trans hvv1 (Nat.le_trans hk2 (Nat.le_succ _))
            have hne : (v1.heap.size : Nat) ≠ x3.heap.size := hn2 _ List.mem_cons_self
            have hset := Ms.set2 (ds := (feC C)) (ds' := (feC D)) (hN4.swap) hg1 hg2 hne hn1 (fun p hp => hn2 p (List.mem_cons_of_mem _ hp))
            refine oneT 12 (by kernel_rfl) rfl (fun K hK => ?_)
            refine step_store_row rfl 35 (.tmp 7) (.tmp 35) rfl (v1.heap.size) (feC C) rfl rfl 35 _ (hN4.get 1 rfl) (sizeFe _) (fe_zero _) (one_fe _) ?_
            refine hK.out _ _ (fun _ => hkeep _ (by (repeat (first | exact c_refl _ | refine c_drew ?_ | refine c_alloc ?_ _ | refine c_row ?_ (by first | omega | exact Nat.le_refl _) _ | refine c_call ?_ (by assumption))); first | done | fail "open")) ?_
            clear hK K
            refine oneT 13 (by kernel_rfl) rfl (fun K hK => ?_)
            refine step_store_row rfl 35 (.tmp 8) (.tmp 40) rfl (x3.heap.size) (feC D) rfl rfl 35 _ ((hN4.get 0 rfl).rowFar (Ne.symm hne) _) (sizeFe _) (fe_zero _) (one_fe _) ?_
            refine hK.out _ _ (fun h => absurd rfl h) ?_
            clear hK K
            refine doneT (by kernel_rfl) ?_ _
            go_wp2_with fail
            go_meet
            exact ⟨_, _, rfl, rfl, Nat.le_trans hvv1 hk1, Nat.le_trans hvv1 hk2, by have := hsz; simp [World.setRow] at this ⊢; omega, hset⟩
          · go_simp
            refine hK.out _ _ (fun _ => hkeep _ (by (repeat (first | exact c_refl _ | refine c_drew ?_ | refine c_alloc ?_ _ | refine c_row ?_ (by first | omega | exact Nat.le_refl _) _ | refine c_call ?_ (by assumption))); first | done | fail "open")) ?_
            clear hK K
            have hn2 := fun p hp => Nat.ne_of_lt ((hN2.rows p hp).lt)
            have hg2 := hN2.old.size
            have hN3 := hN2.box 35 #[.int .u64 0, .int .u64 0, .int .u64 0, .int .u64 0, .int .u64 0]
            try simp only [World.size_alloc] at hN3 hn2 hg2
            have hk2 : v1.heap.size ≤ x2.heap.size := (show Below v1.heap.size v1 x2 from (by (repeat (first | exact c_refl _ | refine c_drew ?_ | refine c_alloc ?_ _ | refine c_row ?_ (by first | omega | exact Nat.le_refl _) _ | refine c_call ?_ (by assumption))); first | done | fail "open")).size
            refine oneT 9 (by kernel_rfl) rfl (fun K hK => ?_)
            go_simp
            refine (kD _).mono ?_
            rintro e x4 ⟨rfl, hx4⟩
            refine hK.out _ _ (fun _ => hkeep _ (by (repeat (first | exact c_refl _ | refine c_drew ?_ | refine c_alloc ?_ _ | refine c_row ?_ (by first | omega | exact Nat.le_refl _) _ | refine c_call ?_ (by assumption))); first | done | fail "open")) ?_
            clear hK K
            have hN4 := hN3.call hx4
            have hsz : w.heap.size ≤ x4.heap.size := Nat.le_trans hvv1 (show Below v1.heap.size v1 x4 from (by (repeat (first | exact c_refl _ | refine c_drew ?_ | refine c_alloc ?_ _ | refine c_row ?_ (by first | omega | exact Nat.le_refl _) _ | refine c_call ?_ (by assumption))); first | done | fail "open")).size
            have hne : (v1.heap.size : Nat) ≠ x2.heap.size := hn2 _ List.mem_cons_self
            have hset := Ms.set2 (ds := (feC C)) (ds' := (feC D)) (hN4.swap) hg1 hg2 hne hn1 (fun p hp => hn2 p (List.mem_cons_of_mem _ hp))
            refine oneT 12 (by kernel_rfl) rfl (fun K hK => ?_)
            refine step_store_row rfl 35 (.tmp 7) (.tmp 35) rfl (v1.heap.size) (feC C) rfl rfl 35 _ (hN4.get 1 rfl) (sizeFe _) (fe_zero _) (one_fe _) ?_
            refine hK.out _ _ (fun _ => hkeep _ (by (repeat (first | exact c_refl _ | refine c_drew ?_ | refine c_alloc ?_ _ | refine c_row ?_ (by first | omega | exact Nat.le_refl _) _ | refine c_call ?_ (by assumption))); first | done | fail "open")) ?_
            clear hK K
            refine oneT 13 (by kernel_rfl) rfl (fun K hK => ?_)
            refine step_store_row rfl 35 (.tmp 8) (.tmp 40) rfl (x2.heap.size) (feC D) rfl rfl 35 _ ((hN4.get 0 rfl).rowFar (Ne.symm hne) _) (sizeFe _) (fe_zero _) (one_fe _) ?_
            refine hK.out _ _ (fun h => absurd rfl h) ?_
            clear hK K
            refine doneT (by kernel_rfl) ?_ _
            go_wp2_with fail
            go_meet
            exact ⟨_, _, rfl, rfl, Nat.le_trans hvv1 hk1, Nat.le_trans hvv1 hk2, by have := hsz; simp [World.setRow] at this ⊢; omega, hset⟩
        · go_simp
          refine hK.out _ _ (fun _ => hkeep _ (by (repeat (first | exact c_refl _ | refine c_drew ?_ | refine c_alloc ?_ _ | refine c_row ?_ (by first | omega | exact Nat.le_refl _) _ | refine c_call ?_ (by assumption))); first | done | fail "open")) ?_
          clear hK K
          have hn2 := fun p hp => Nat.ne_of_lt ((hN1.rows p hp).lt)
          have hg2 := hN1.old.size
          have hN2 := hN1.box 35 #[.int .u64 0, .int .u64 0, .int .u64 0, .int .u64 0, .int .u64 0]
          try simp only [World.size_alloc] at hN2 hn2 hg2
          have hk2 : v1.heap.size ≤ v1.heap.size + 1 := Nat.le_succ _
          refine oneT 4 (by kernel_rfl) rfl (fun K hK => ?_)
          go_simp
          refine (kC _).mono ?_
          rintro e x3 ⟨rfl, hx3⟩
          refine hK.out _ _ (fun _ => hkeep _ (by (repeat (first | exact c_refl _ | refine c_drew ?_ | refine c_alloc ?_ _ | refine c_row ?_ (by first | omega | exact Nat.le_refl _) _ | refine c_call ?_ (by assumption))); first | done | fail "open")) ?_
          clear hK K
          have hN3 := hN2.call hx3
          refine oneT 9 (by kernel_rfl) rfl (fun K hK => ?_)
          go_simp
          refine (kD _).mono ?_
          rintro e x4 ⟨rfl, hx4⟩
          refine hK.out _ _ (fun _ => hkeep _ (by (repeat (first | exact c_refl _ | refine c_drew ?_ | refine c_alloc ?_ _ | refine c_row ?_ (by first | omega | exact Nat.le_refl _) _ | refine c_call ?_ (by assumption))); first | done | fail "open")) ?_
          clear hK K
          have hN4 := hN3.call hx4
          have hsz : w.heap.size ≤ x4.heap.size := Nat.le_trans hvv1 (show Below v1.heap.size v1 x4 from (by (repeat (first | exact c_refl _ | refine c_drew ?_ | refine c_alloc ?_ _ | refine c_row ?_ (by first | omega | exact Nat.le_refl _) _ | refine c_call ?_ (by assumption))); first | done | fail "open")).size
          have hne : (v1.heap.size : Nat) ≠ v1.heap.size + 1 := hn2 _ List.mem_cons_self
          have hset := Ms.set2 (ds := (feC C)) (ds' := (feC D)) (hN4.swap) hg1 hg2 hne hn1 (fun p hp => hn2 p (List.mem_cons_of_mem _ hp))
          refine oneT 12 (by kernel_rfl) rfl (fun K hK => ?_)
          refine step_store_row rfl 35 (.tmp 7) (.tmp 35) rfl (v1.heap.size) (feC C) rfl rfl 35 _ (hN4.get 1 rfl) (sizeFe _) (fe_zero _) (one_fe _) ?_
          refine hK.out _ _ (fun _ => hkeep _ (by (repeat (first | exact c_refl _ | refine c_drew ?_ | refine c_alloc ?_ _ | refine c_row ?_ (by first | omega | exact Nat.le_refl _) _ | refine c_call ?_ (by assumption))); first | done | fail "open")) ?_
          clear hK K
          refine oneT 13 (by kernel_rfl) rfl (fun K hK => ?_)
          refine step_store_row rfl 35 (.tmp 8) (.tmp 40) rfl (v1.heap.size + 1) (feC D) rfl rfl 35 _ ((hN4.get 0 rfl).rowFar (Ne.symm hne) _) (sizeFe _) (fe_zero _) (one_fe _) ?_
          refine hK.out _ _ (fun h => absurd rfl h) ?_
          clear hK K
          refine doneT (by kernel_rfl) ?_ _
          go_wp2_with fail
          go_meet
          exact ⟨_, _, rfl, rfl, Nat.le_trans hvv1 hk1, Nat.le_trans hvv1 hk2, by have := hsz; simp [World.setRow] at this ⊢; omega, hset⟩
      · go_simp
        refine hK.out _ _ (fun _ => hkeep _ (by (repeat (first | exact c_refl _ | refine c_drew ?_ | refine c_alloc ?_ _ | refine c_row ?_ (by first | omega | exact Nat.le_refl _) _ | refine c_call ?_ (by assumption))); first | done | fail "open")) ?_
        clear hK K
        have hn1 := fun p hp => Nat.ne_of_lt ((hD.rows p hp).lt)
        have hg1 := hD.old.size
        have hN1 := hD.box 35 #[.int .u64 0, .int .u64 0, .int .u64 0, .int .u64 0, .int .u64 0]
        try simp only [World.size_alloc] at hN1 hn1 hg1
        have hk1 : v1.heap.size ≤ v1.heap.size := Nat.le_refl _
        refine readyT [4, 10] (by kernel_rfl) (by simp) (AllReadyT.cons rfl (fun K hK => ?_) (AllReadyT.cons rfl (fun K hK => ?_) AllReadyT.nil))
        · go_simp
          refine (kC _).mono ?_
          rintro e x2 ⟨rfl, hx2⟩
          refine hK.out _ _ (fun _ => hkeep _ (by (repeat (first | exact c_refl _ | refine c_drew ?_ | refine c_alloc ?_ _ | refine c_row ?_ (by first | omega | exact Nat.le_refl _) _ | refine c_call ?_ (by assumption))); first | done | fail "open")) ?_
          clear hK K
          have hN2 := hN1.call hx2
          refine readyT [9, 10] (by kernel_rfl) (by simp) (AllReadyT.cons rfl (fun K hK => ?_) (AllReadyT.cons rfl (fun K hK => ?_) AllReadyT.nil))
          · go_simp
            refine (kD _).mono ?_
            rintro e x3 ⟨rfl, hx3⟩
            refine hK.out _ _ (fun _ => hkeep _ (by (repeat (first | exact c_refl _ | refine c_drew ?_ | refine c_alloc ?_ _ | refine c_row ?_ (by first | omega | exact Nat.le_refl _) _ | refine c_call ?_ (by assumption))); first | done | fail "open")) ?_
            clear hK K
            have hN3 := hN2.call hx3
            refine oneT 10 (by kernel_rfl) rfl (fun K hK => ?_)
            go_simp
            refine hK.out _ _ (fun _ => hkeep _ (by (repeat (first | exact c_refl _ | refine c_drew ?_ | refine c_alloc ?_ _ | refine c_row ?_ (by first | omega | exact Nat.le_refl _) _ | refine c_call ?_ (by assumption))); first | done | fail "open")) ?_
            clear hK K
            have hn2 := fun p hp => Nat.ne_of_lt ((hN3.rows p hp).lt)
            have hg2 := hN3.old.size
            have hN4 := hN3.box 35 #[.int .u64 0, .int .u64 0, .int .u64 0, .int .u64 0, .int .u64 0]
            try simp only [World.size_alloc] at hN4 hn2 hg2
            have hk2 : v1.heap.size ≤ x3.heap.size := (show Below v1.heap.size v1 x3 from (by (repeat (first | exact c_refl _ | refine c_drew ?_ | refine c_alloc ?_ _ | refine c_row ?_ (by first | omega | exact Nat.le_refl _) _ | refine c_call ?_ (by assumption))); first | done | fail "open")).size
            have hsz : w.heap.size ≤ x3.heap.size + 1 := Nat.le_trans hvv1 (Nat.le_trans hk2 (Nat.le_succ _))
            have hne : (v1.heap.size : Nat) ≠ x3.heap.size := hn2 _ List.mem_cons_self
            have hset := Ms.set2 (ds := (feC C)) (ds' := (feC D)) (hN4) hg2 hg1 (Ne.symm hne) (fun p hp => hn2 p (List.mem_cons_of_mem _ hp)) hn1
            refine oneT 12 (by kernel_rfl) rfl (fun K hK => ?_)
            refine step_store_row rfl 35 (.tmp 7) (.tmp 35) rfl (x3.heap.size) (feC C) rfl rfl 35 _ (hN4.get 0 rfl) (sizeFe _) (fe_zero _) (one_fe _) ?_
            refine hK.out _ _ (fun _ => hkeep _ (by (repeat (first | exact c_refl _ | refine c_drew ?_ | refine c_alloc ?_ _ | refine c_row ?_ (by first | omega | exact Nat.le_refl _) _ | refine c_call ?_ (by assumption))); first | done | fail "open")) ?_
            clear hK K
            refine oneT 13 (by kernel_rfl) rfl (fun K hK => ?_)
            refine step_store_row rfl 35 (.tmp 8) (.tmp 40) rfl (v1.heap.size) (feC D) rfl rfl 35 _ ((hN4.get 1 rfl).rowFar hne _) (sizeFe _) (fe_zero _) (one_fe _) ?_
            refine hK.out _ _ (fun h => absurd rfl h) ?_
            clear hK K
            refine doneT (by kernel_rfl) ?_ _
            go_wp2_with fail
            go_meet
            exact ⟨_, _, rfl, rfl, Nat.le_trans hvv1 hk2, Nat.le_trans hvv1 hk1, by have := hsz; simp [World.setRow] at this ⊢; omega, hset⟩
          · go_simp
            refine hK.out _ _ (fun _ => hkeep _ (by (repeat (first | exact c_refl _ | refine c_drew ?_ | refine c_alloc ?_ _ | refine c_row ?_ (by first | omega | exact Nat.le_refl _) _ | refine c_call ?_ (by assumption))); first | done | fail "open")) ?_
            clear hK K
            have hn2 := fun p hp => Nat.ne_of_lt ((hN2.rows p hp).lt)
            have hg2 := hN2.old.size
            have hN3 := hN2.box 35 #[.int .u64 0, .int .u64 0, .int .u64 0, .int .u64 0, .int .u64 0]
            try simp only [World.size_alloc] at hN3 hn2 hg2
            have hk2 : v1.heap.size ≤ x2.heap.size := (show Below v1.heap.size v1 x2 from (by (repeat (first | exact c_refl _ | refine c_drew ?_ | refine c_alloc ?_ _ | refine c_row ?_ (by first | omega | exact Nat.le_refl _) _ | refine c_call ?_ (by assumption))); first | done | fail "open")).size
            refine oneT 9 (by kernel_rfl) rfl (fun K hK => ?_)
            go_simp
            refine (kD _).mono ?_
            rintro e x4 ⟨rfl, hx4⟩
            refine hK.out _ _ (fun _ => hkeep _ (by (repeat (first | exact c_refl _ | refine c_drew ?_ | refine c_alloc ?_ _ | refine c_row ?_ (by first | omega | exact Nat.le_refl _) _ | refine c_call ?_ (by assumption))); first | done | fail "open")) ?_
            clear hK K
            have hN4 := hN3.call hx4
            have hsz : w.heap.size ≤ x4.heap.size := Nat.le_trans hvv1 (show Below v1.heap.size v1 x4 from (by (repeat (first | exact c_refl _ | refine c_drew ?_ | refine c_alloc ?_ _ | refine c_row ?_ (by first | omega | exact Nat.le_refl _) _ | refine c_call ?_ (by assumption))); first | done | fail "open")).size
            have hne : (v1.heap.size : Nat) ≠ x2.heap.size := hn2 _ List.mem_cons_self
            have hset := Ms.set2 (ds := (feC C)) (ds' := (feC D)) (hN4) hg2 hg1 (Ne.symm hne) (fun p hp => hn2 p (List.mem_cons_of_mem _ hp)) hn1
            refine oneT 12 (by kernel_rfl) rfl (fun K hK => ?_)
            refine step_store_row rfl 35 (.tmp 7) (.tmp 35) rfl (x2.heap.size) (feC C) rfl rfl 35 _ (hN4.get 0 rfl) (sizeFe _) (fe_zero _) (one_fe _) ?_
            refine hK.out _ _ (fun _ => hkeep _ (by (repeat (first | exact c_refl _ | refine c_drew ?_ | refine c_alloc ?_ _ | refine c_row ?_ (by first | omega | exact Nat.le_refl _) _ | refine c_call ?_ (by assumption))); first | done | fail "open")) ?_
            clear hK K
            refine oneT 13 (by kernel_rfl) rfl (fun K hK => ?_)
            refine step_store_row rfl 35 (.tmp 8) (.tmp 40) rfl (v1.heap.size) (feC D) rfl rfl 35 _ ((hN4.get 1 rfl).rowFar hne _) (sizeFe _) (fe_zero _) (one_fe _) ?_
            refine hK.out _ _ (fun h => absurd rfl h) ?_
            clear hK K
            refine doneT (by kernel_rfl) ?_ _
            go_wp2_with fail
            go_meet
            exact ⟨_, _, rfl, rfl, Nat.le_trans hvv1 hk2, Nat.le_trans hvv1 hk1, by have := hsz; simp [World.setRow] at this ⊢; omega, hset⟩
        · go_simp
          refine hK.out _ _ (fun _ => hkeep _ (by (repeat (first | exact c_refl _ | refine c_drew ?_ | refine c_alloc ?_ _ | refine c_row ?_ (by first | omega | exact Nat.le_refl _) _ | refine c_call ?_ (by assumption))); first | done | fail "open")) ?_
          clear hK K
          have hn2 := fun p hp => Nat.ne_of_lt ((hN1.rows p hp).lt)
          have hg2 := hN1.old.size
          have hN2 := hN1.box 35 #[.int .u64 0, .int .u64 0, .int .u64 0, .int .u64 0, .int .u64 0]
          try simp only [World.size_alloc] at hN2 hn2 hg2
          have hk2 : v1.heap.size ≤ v1.heap.size + 1 := Nat.le_succ _
          refine oneT 4 (by kernel_rfl) rfl (fun K hK => ?_)
          go_simp
          refine (kC _).mono ?_
          rintro e x3 ⟨rfl, hx3⟩
          refine hK.out _ _ (fun _ => hkeep _ (by (repeat (first | exact c_refl _ | refine c_drew ?_ | refine c_alloc ?_ _ | refine c_row ?_ (by first | omega | exact Nat.le_refl _) _ | refine c_call ?_ (by assumption))); first | done | fail "open")) ?_
          clear hK K
          have hN3 := hN2.call hx3
          refine oneT 9 (by kernel_rfl) rfl (fun K hK => ?_)
          go_simp
          refine (kD _).mono ?_
          rintro e x4 ⟨rfl, hx4⟩
          refine hK.out _ _ (fun _ => hkeep _ (by (repeat (first | exact c_refl _ | refine c_drew ?_ | refine c_alloc ?_ _ | refine c_row ?_ (by first | omega | exact Nat.le_refl _) _ | refine c_call ?_ (by assumption))); first | done | fail "open")) ?_
          clear hK K
          have hN4 := hN3.call hx4
          have hsz : w.heap.size ≤ x4.heap.size := Nat.le_trans hvv1 (show Below v1.heap.size v1 x4 from (by (repeat (first | exact c_refl _ | refine c_drew ?_ | refine c_alloc ?_ _ | refine c_row ?_ (by first | omega | exact Nat.le_refl _) _ | refine c_call ?_ (by assumption))); first | done | fail "open")).size
          have hne : (v1.heap.size : Nat) ≠ v1.heap.size + 1 := hn2 _ List.mem_cons_self
          have hset := Ms.set2 (ds := (feC C)) (ds' := (feC D)) (hN4) hg2 hg1 (Ne.symm hne) (fun p hp => hn2 p (List.mem_cons_of_mem _ hp)) hn1
          refine oneT 12 (by kernel_rfl) rfl (fun K hK => ?_)
          refine step_store_row rfl 35 (.tmp 7) (.tmp 35) rfl (v1.heap.size + 1) (feC C) rfl rfl 35 _ (hN4.get 0 rfl) (sizeFe _) (fe_zero _) (one_fe _) ?_
          refine hK.out _ _ (fun _ => hkeep _ (by (repeat (first | exact c_refl _ | refine c_drew ?_ | refine c_alloc ?_ _ | refine c_row ?_ (by first | omega | exact Nat.le_refl _) _ | refine c_call ?_ (by assumption))); first | done | fail "open")) ?_
          clear hK K
          refine oneT 13 (by kernel_rfl) rfl (fun K hK => ?_)
          refine step_store_row rfl 35 (.tmp 8) (.tmp 40) rfl (v1.heap.size) (feC D) rfl rfl 35 _ ((hN4.get 1 rfl).rowFar hne _) (sizeFe _) (fe_zero _) (one_fe _) ?_
          refine hK.out _ _ (fun h => absurd rfl h) ?_
          clear hK K
          refine doneT (by kernel_rfl) ?_ _
          go_wp2_with fail
          go_meet
          exact ⟨_, _, rfl, rfl, Nat.le_trans hvv1 hk2, Nat.le_trans hvv1 hk1, by have := hsz; simp [World.setRow] at this ⊢; omega, hset⟩
    case rest =>
      obtain ⟨gC, gD, rfl, rfl, hggC, hggD, hsc2, hMc2⟩ := hcut
      clear hMvv1
      go_upto_region 3 with (fail)
      try simp only [Act.put]
      refine wp_gen (fun wx => Ms w0 wx ((gC, 35, (feC C)) :: (gD, 35, (feC D)) :: (gA, 35, (feC A)) :: (gB, 35, (feC B)) :: (gN, 38, (rtC nx nz)) :: (gX, 38, (rtC xx xz)) :: (gP, 35, (feC P)) :: L) ∧ w.heap.size ≤ wx.heap.size) ⟨hMc2, hsc2⟩ ?_
      clear hMc2
      rintro v2 ⟨hMvv2, hvv2⟩
      go_cut [9, 10] (fun p q wx => ∃ g g' : Nat, p = .pointer (some ⟨g, 0, none⟩) ∧ q = .pointer (some ⟨g', 0, none⟩) ∧ w.heap.size ≤ g ∧ w.heap.size ≤ g' ∧ w.heap.size ≤ wx.heap.size ∧ Ms w0 wx ((g, 35, (feC DA)) :: (g', 35, (feC CB)) :: (gC, 35, (feC C)) :: (gD, 35, (feC D)) :: (gA, 35, (feC A)) :: (gB, 35, (feC B)) :: (gN, 38, (rtC nx nz)) :: (gX, 38, (rtC xx xz)) :: (gP, 35, (feC P)) :: L))
      case first =>
        have hkeep : ∀ wx : World, Below v2.heap.size v2 wx → wx.rangeAt (gD) 0 (feC D).toList ∧ wx.rangeAt (gA) 0 (feC A).toList ∧ wx.rangeAt (gC) 0 (feC C).toList ∧ wx.rangeAt (gB) 0 (feC B).toList := fun wx hb => ⟨((hMvv2.get 1 rfl).call hb).range, ((hMvv2.get 2 rfl).call hb).range, ((hMvv2.get 0 rfl).call hb).range, ((hMvv2.get 3 rfl).call hb).range⟩
        have hun := Try.underlying35
        refine beginT (fun wx => wx.rangeAt (gD) 0 (feC D).toList ∧ wx.rangeAt (gA) 0 (feC A).toList ∧ wx.rangeAt (gC) 0 (feC C).toList ∧ wx.rangeAt (gB) 0 (feC B).toList) 9 (by kernel_rfl) ?_
        have hS := hkeep _ (c_drew (c_refl _))
        refine loadT 0 (some 41) 35 (.tmp 8) (gD) 0 (feC D).toList rfl rfl (by kernel_rfl) (by kernel_rfl) (by kernel_rfl) (by kernel_rfl) rfl (by kernel_rfl) rfl (fun wx hSw => hSw.1) hun rfl (sizeFeL _) (fun _ _ _ h => h) hS ?_
        simp only [Act.put, List.setIfInBounds_toArray, List.set_cons_zero, List.set_cons_succ, Array.toArray_toList]
        refine loadT 1 (some 42) 35 (.tmp 5) (gA) 0 (feC A).toList rfl rfl (by kernel_rfl) (by kernel_rfl) (by kernel_rfl) (by kernel_rfl) rfl (by kernel_rfl) rfl (fun wx hSw => hSw.2.1) hun rfl (sizeFeL _) (fun _ _ _ h => h) hS ?_
        simp only [Act.put, List.setIfInBounds_toArray, List.set_cons_zero, List.set_cons_succ, Array.toArray_toList]
        refine loadT 3 (some 44) 35 (.tmp 7) (gC) 0 (feC C).toList rfl rfl (by kernel_rfl) (by kernel_rfl) (by kernel_rfl) (by kernel_rfl) rfl (by kernel_rfl) rfl (fun wx hSw => hSw.2.2.1) hun rfl (sizeFeL _) (fun _ _ _ h => h) hS ?_
        simp only [Act.put, List.setIfInBounds_toArray, List.set_cons_zero, List.set_cons_succ, Array.toArray_toList]
        refine loadT 4 (some 45) 35 (.tmp 6) (gB) 0 (feC B).toList rfl rfl (by kernel_rfl) (by kernel_rfl) (by kernel_rfl) (by kernel_rfl) rfl (by kernel_rfl) rfl (fun wx hSw => hSw.2.2.2) hun rfl (sizeFeL _) (fun _ _ _ h => h) hS ?_
        simp only [Act.put, List.setIfInBounds_toArray, List.set_cons_zero, List.set_cons_succ, Array.toArray_toList]
        have hD := hMvv2.drew
        refine readyT [2, 6, 7] (by kernel_rfl) (by simp) (AllReadyT.cons rfl (fun K hK => ?_) (AllReadyT.cons rfl (fun K hK => ?_) (AllReadyT.cons rfl (fun K hK => ?_) AllReadyT.nil)))
        · go_simp
          refine (kDA _).mono ?_
          rintro e x1 ⟨rfl, hx1⟩
          refine hK.out _ _ (fun _ => hkeep _ (by (repeat (first | exact c_refl _ | refine c_drew ?_ | refine c_alloc ?_ _ | refine c_row ?_ (by first | omega | exact Nat.le_refl _) _ | refine c_call ?_ (by assumption))); first | done | fail "open")) ?_
          clear hK K
          have hN1 := hD.call hx1
          refine readyT [5, 6, 7] (by kernel_rfl) (by simp) (AllReadyT.cons rfl (fun K hK => ?_) (AllReadyT.cons rfl (fun K hK => ?_) (AllReadyT.cons rfl (fun K hK => ?_) AllReadyT.nil)))
          · go_simp
            refine (kCB _).mono ?_
            rintro e x2 ⟨rfl, hx2⟩
            refine hK.out _ _ (fun _ => hkeep _ (by (repeat (first | exact c_refl _ | refine c_drew ?_ | refine c_alloc ?_ _ | refine c_row ?_ (by first | omega | exact Nat.le_refl _) _ | refine c_call ?_ (by assumption))); first | done | fail "open")) ?_
            clear hK K
            have hN2 := hN1.call hx2
            refine readyT [6, 7] (by kernel_rfl) (by simp) (AllReadyT.cons rfl (fun K hK => ?_) (AllReadyT.cons rfl (fun K hK => ?_) AllReadyT.nil))
            · go_simp
              refine hK.out _ _ (fun _ => hkeep _ (by (repeat (first | exact c_refl _ | refine c_drew ?_ | refine c_alloc ?_ _ | refine c_row ?_ (by first | omega | exact Nat.le_refl _) _ | refine c_call ?_ (by assumption))); first | done | fail "open")) ?_
              clear hK K
              have hn1 := fun p hp => Nat.ne_of_lt ((hN2.rows p hp).lt)
              have hg1 := hN2.old.size
              have hN3 := hN2.box 35 #[.int .u64 0, .int .u64 0, .int .u64 0, .int .u64 0, .int .u64 0]
              try simp only [World.size_alloc] at hN3 hn1 hg1
              have hk1 : v2.heap.size ≤ x2.heap.size := (show Below v2.heap.size v2 x2 from (by (repeat (first | exact c_refl _ | refine c_drew ?_ | refine c_alloc ?_ _ | refine c_row ?_ (by first | omega | exact Nat.le_refl _) _ | refine c_call ?_ (by assumption))); first | done | fail "open")).size
              refine oneT 7 (by kernel_rfl) rfl (fun K hK => ?_)
              go_simp
              refine hK.out _ _ (fun _ => hkeep _ (by (repeat (first | exact c_refl _ | refine c_drew ?_ | refine c_alloc ?_ _ | refine c_row ?_ (by first | omega | exact Nat.le_refl _) _ | refine c_call ?_ (by assumption))); first | done | fail "open")) ?_
              clear hK K
              have hn2 := fun p hp => Nat.ne_of_lt ((hN3.rows p hp).lt)
              have hg2 := hN3.old.size
              have hN4 := hN3.box 35 #[.int .u64 0, .int .u64 0, .int .u64 0, .int .u64 0, .int .u64 0]
              try simp only [World.size_alloc] at hN4 hn2 hg2
              have hk2 : v2.heap.size ≤ x2.heap.size + 1 := Nat.le_trans (show Below v2.heap.size v2 x2 from (by (repeat (first | exact c_refl _ | refine c_drew ?_ | refine c_alloc ?_ _ | refine c_row ?_ (by first | omega | exact Nat.le_refl _) _ | refine c_call ?_ (by assumption))); first | done | fail "open")).size (Nat.le_succ _)
              have hsz : w.heap.size ≤ x2.heap.size + 1 + 1 := Nat.le_trans hvv2 (Nat.le_trans hk2 (Nat.le_succ _))
              have hne : (x2.heap.size : Nat) ≠ x2.heap.size + 1 := hn2 _ List.mem_cons_self
              have hset := Ms.set2 (ds := (feC DA)) (ds' := (feC CB)) (hN4.swap) hg1 hg2 hne hn1 (fun p hp => hn2 p (List.mem_cons_of_mem _ hp))
              refine oneT 8 (by kernel_rfl) rfl (fun K hK => ?_)
              refine step_store_row rfl 35 (.tmp 9) (.tmp 43) rfl (x2.heap.size) (feC DA) rfl rfl 35 _ (hN4.get 1 rfl) (sizeFe _) (fe_zero _) (one_fe _) ?_
              refine hK.out _ _ (fun _ => hkeep _ (by (repeat (first | exact c_refl _ | refine c_drew ?_ | refine c_alloc ?_ _ | refine c_row ?_ (by first | omega | exact Nat.le_refl _) _ | refine c_call ?_ (by assumption))); first | done | fail "open")) ?_
              clear hK K
              refine oneT 9 (by kernel_rfl) rfl (fun K hK => ?_)
              refine step_store_row rfl 35 (.tmp 10) (.tmp 46) rfl (x2.heap.size + 1) (feC CB) rfl rfl 35 _ ((hN4.get 0 rfl).rowFar (Ne.symm hne) _) (sizeFe _) (fe_zero _) (one_fe _) ?_
              refine hK.out _ _ (fun h => absurd rfl h) ?_
              clear hK K
              refine doneT (by kernel_rfl) ?_ _
              go_wp2_with fail
              go_meet
              exact ⟨_, _, rfl, rfl, Nat.le_trans hvv2 hk1, Nat.le_trans hvv2 hk2, by have := hsz; simp [World.setRow] at this ⊢; omega, hset⟩
            · go_simp
              refine hK.out _ _ (fun _ => hkeep _ (by (repeat (first | exact c_refl _ | refine c_drew ?_ | refine c_alloc ?_ _ | refine c_row ?_ (by first | omega | exact Nat.le_refl _) _ | refine c_call ?_ (by assumption))); first | done | fail "open")) ?_
              clear hK K
              have hn1 := fun p hp => Nat.ne_of_lt ((hN2.rows p hp).lt)
              have hg1 := hN2.old.size
              have hN3 := hN2.box 35 #[.int .u64 0, .int .u64 0, .int .u64 0, .int .u64 0, .int .u64 0]
              try simp only [World.size_alloc] at hN3 hn1 hg1
              have hk1 : v2.heap.size ≤ x2.heap.size := (show Below v2.heap.size v2 x2 from (by (repeat (first | exact c_refl _ | refine c_drew ?_ | refine c_alloc ?_ _ | refine c_row ?_ (by first | omega | exact Nat.le_refl _) _ | refine c_call ?_ (by assumption))); first | done | fail "open")).size
              refine oneT 6 (by kernel_rfl) rfl (fun K hK => ?_)
              go_simp
              refine hK.out _ _ (fun _ => hkeep _ (by (repeat (first | exact c_refl _ | refine c_drew ?_ | refine c_alloc ?_ _ | refine c_row ?_ (by first | omega | exact Nat.le_refl _) _ | refine c_call ?_ (by assumption))); first | done | fail "open")) ?_
              clear hK K
              have hn2 := fun p hp => Nat.ne_of_lt ((hN3.rows p hp).lt)
              have hg2 := hN3.old.size
              have hN4 := hN3.box 35 #[.int .u64 0, .int .u64 0, .int .u64 0, .int .u64 0, .int .u64 0]
              try simp only [World.size_alloc] at hN4 hn2 hg2
              have hk2 : v2.heap.size ≤ x2.heap.size + 1 := Nat.le_trans (show Below v2.heap.size v2 x2 from (by (repeat (first | exact c_refl _ | refine c_drew ?_ | refine c_alloc ?_ _ | refine c_row ?_ (by first | omega | exact Nat.le_refl _) _ | refine c_call ?_ (by assumption))); first | done | fail "open")).size (Nat.le_succ _)
              have hsz : w.heap.size ≤ x2.heap.size + 1 + 1 := Nat.le_trans hvv2 (Nat.le_trans hk2 (Nat.le_succ _))
              have hne : (x2.heap.size : Nat) ≠ x2.heap.size + 1 := hn2 _ List.mem_cons_self
              have hset := Ms.set2 (ds := (feC DA)) (ds' := (feC CB)) (hN4) hg2 hg1 (Ne.symm hne) (fun p hp => hn2 p (List.mem_cons_of_mem _ hp)) hn1
              refine oneT 8 (by kernel_rfl) rfl (fun K hK => ?_)
              refine step_store_row rfl 35 (.tmp 9) (.tmp 43) rfl (x2.heap.size + 1) (feC DA) rfl rfl 35 _ (hN4.get 0 rfl) (sizeFe _) (fe_zero _) (one_fe _) ?_
              refine hK.out _ _ (fun _ => hkeep _ (by (repeat (first | exact c_refl _ | refine c_drew ?_ | refine c_alloc ?_ _ | refine c_row ?_ (by first | omega | exact Nat.le_refl _) _ | refine c_call ?_ (by assumption))); first | done | fail "open")) ?_
              clear hK K
              refine oneT 9 (by kernel_rfl) rfl (fun K hK => ?_)
              refine step_store_row rfl 35 (.tmp 10) (.tmp 46) rfl (x2.heap.size) (feC CB) rfl rfl 35 _ ((hN4.get 1 rfl).rowFar hne _) (sizeFe _) (fe_zero _) (one_fe _) ?_
              refine hK.out _ _ (fun h => absurd rfl h) ?_
              clear hK K
              refine doneT (by kernel_rfl) ?_ _
              go_wp2_with fail
              go_meet
              exact ⟨_, _, rfl, rfl, Nat.le_trans hvv2 hk2, Nat.le_trans hvv2 hk1, by have := hsz; simp [World.setRow] at this ⊢; omega, hset⟩
          · go_simp
            refine hK.out _ _ (fun _ => hkeep _ (by (repeat (first | exact c_refl _ | refine c_drew ?_ | refine c_alloc ?_ _ | refine c_row ?_ (by first | omega | exact Nat.le_refl _) _ | refine c_call ?_ (by assumption))); first | done | fail "open")) ?_
            clear hK K
            have hn1 := fun p hp => Nat.ne_of_lt ((hN1.rows p hp).lt)
            have hg1 := hN1.old.size
            have hN2 := hN1.box 35 #[.int .u64 0, .int .u64 0, .int .u64 0, .int .u64 0, .int .u64 0]
            try simp only [World.size_alloc] at hN2 hn1 hg1
            have hk1 : v2.heap.size ≤ x1.heap.size := (show Below v2.heap.size v2 x1 from (by (repeat (first | exact c_refl _ | refine c_drew ?_ | refine c_alloc ?_ _ | refine c_row ?_ (by first | omega | exact Nat.le_refl _) _ | refine c_call ?_ (by assumption))); first | done | fail "open")).size
            refine readyT [5, 7] (by kernel_rfl) (by simp) (AllReadyT.cons rfl (fun K hK => ?_) (AllReadyT.cons rfl (fun K hK => ?_) AllReadyT.nil))
            · go_simp
              refine (kCB _).mono ?_
              rintro e x3 ⟨rfl, hx3⟩
              refine hK.out _ _ (fun _ => hkeep _ (by (repeat (first | exact c_refl _ | refine c_drew ?_ | refine c_alloc ?_ _ | refine c_row ?_ (by first | omega | exact Nat.le_refl _) _ | refine c_call ?_ (by assumption))); first | done | fail "open")) ?_
              clear hK K
              have hN3 := hN2.call hx3
              refine oneT 7 (by kernel_rfl) rfl (fun K hK => ?_)
              go_simp
              refine hK.out _ _ (fun _ => hkeep _ (by (repeat (first | exact c_refl _ | refine c_drew ?_ | refine c_alloc ?_ _ | refine c_row ?_ (by first | omega | exact Nat.le_refl _) _ | refine c_call ?_ (by assumption))); first | done | fail "open")) ?_
              clear hK K
              have hn2 := fun p hp => Nat.ne_of_lt ((hN3.rows p hp).lt)
              have hg2 := hN3.old.size
              have hN4 := hN3.box 35 #[.int .u64 0, .int .u64 0, .int .u64 0, .int .u64 0, .int .u64 0]
              try simp only [World.size_alloc] at hN4 hn2 hg2
              have hk2 : v2.heap.size ≤ x3.heap.size := (show Below v2.heap.size v2 x3 from (by (repeat (first | exact c_refl _ | refine c_drew ?_ | refine c_alloc ?_ _ | refine c_row ?_ (by first | omega | exact Nat.le_refl _) _ | refine c_call ?_ (by assumption))); first | done | fail "open")).size
              have hsz : w.heap.size ≤ x3.heap.size + 1 := Nat.le_trans hvv2 (Nat.le_trans hk2 (Nat.le_succ _))
              have hne : (x1.heap.size : Nat) ≠ x3.heap.size := hn2 _ List.mem_cons_self
              have hset := Ms.set2 (ds := (feC DA)) (ds' := (feC CB)) (hN4.swap) hg1 hg2 hne hn1 (fun p hp => hn2 p (List.mem_cons_of_mem _ hp))
              refine oneT 8 (by kernel_rfl) rfl (fun K hK => ?_)
              refine step_store_row rfl 35 (.tmp 9) (.tmp 43) rfl (x1.heap.size) (feC DA) rfl rfl 35 _ (hN4.get 1 rfl) (sizeFe _) (fe_zero _) (one_fe _) ?_
              refine hK.out _ _ (fun _ => hkeep _ (by (repeat (first | exact c_refl _ | refine c_drew ?_ | refine c_alloc ?_ _ | refine c_row ?_ (by first | omega | exact Nat.le_refl _) _ | refine c_call ?_ (by assumption))); first | done | fail "open")) ?_
              clear hK K
              refine oneT 9 (by kernel_rfl) rfl (fun K hK => ?_)
              refine step_store_row rfl 35 (.tmp 10) (.tmp 46) rfl (x3.heap.size) (feC CB) rfl rfl 35 _ ((hN4.get 0 rfl).rowFar (Ne.symm hne) _) (sizeFe _) (fe_zero _) (one_fe _) ?_
              refine hK.out _ _ (fun h => absurd rfl h) ?_
              clear hK K
              refine doneT (by kernel_rfl) ?_ _
              go_wp2_with fail
              go_meet
              exact ⟨_, _, rfl, rfl, Nat.le_trans hvv2 hk1, Nat.le_trans hvv2 hk2, by have := hsz; simp [World.setRow] at this ⊢; omega, hset⟩
            · go_simp
              refine hK.out _ _ (fun _ => hkeep _ (by (repeat (first | exact c_refl _ | refine c_drew ?_ | refine c_alloc ?_ _ | refine c_row ?_ (by first | omega | exact Nat.le_refl _) _ | refine c_call ?_ (by assumption))); first | done | fail "open")) ?_
              clear hK K
              have hn2 := fun p hp => Nat.ne_of_lt ((hN2.rows p hp).lt)
              have hg2 := hN2.old.size
              have hN3 := hN2.box 35 #[.int .u64 0, .int .u64 0, .int .u64 0, .int .u64 0, .int .u64 0]
              try simp only [World.size_alloc] at hN3 hn2 hg2
              have hk2 : v2.heap.size ≤ x1.heap.size + 1 := Nat.le_trans (show Below v2.heap.size v2 x1 from (by (repeat (first | exact c_refl _ | refine c_drew ?_ | refine c_alloc ?_ _ | refine c_row ?_ (by first | omega | exact Nat.le_refl _) _ | refine c_call ?_ (by assumption))); first | done | fail "open")).size (Nat.le_succ _)
              refine oneT 5 (by kernel_rfl) rfl (fun K hK => ?_)
              go_simp
              refine (kCB _).mono ?_
              rintro e x4 ⟨rfl, hx4⟩
              refine hK.out _ _ (fun _ => hkeep _ (by (repeat (first | exact c_refl _ | refine c_drew ?_ | refine c_alloc ?_ _ | refine c_row ?_ (by first | omega | exact Nat.le_refl _) _ | refine c_call ?_ (by assumption))); first | done | fail "open")) ?_
              clear hK K
              have hN4 := hN3.call hx4
              have hsz : w.heap.size ≤ x4.heap.size := Nat.le_trans hvv2 (show Below v2.heap.size v2 x4 from (by (repeat (first | exact c_refl _ | refine c_drew ?_ | refine c_alloc ?_ _ | refine c_row ?_ (by first | omega | exact Nat.le_refl _) _ | refine c_call ?_ (by assumption))); first | done | fail "open")).size
              have hne : (x1.heap.size : Nat) ≠ x1.heap.size + 1 := hn2 _ List.mem_cons_self
              have hset := Ms.set2 (ds := (feC DA)) (ds' := (feC CB)) (hN4.swap) hg1 hg2 hne hn1 (fun p hp => hn2 p (List.mem_cons_of_mem _ hp))
              refine oneT 8 (by kernel_rfl) rfl (fun K hK => ?_)
              refine step_store_row rfl 35 (.tmp 9) (.tmp 43) rfl (x1.heap.size) (feC DA) rfl rfl 35 _ (hN4.get 1 rfl) (sizeFe _) (fe_zero _) (one_fe _) ?_
              refine hK.out _ _ (fun _ => hkeep _ (by (repeat (first | exact c_refl _ | refine c_drew ?_ | refine c_alloc ?_ _ | refine c_row ?_ (by first | omega | exact Nat.le_refl _) _ | refine c_call ?_ (by assumption))); first | done | fail "open")) ?_
              clear hK K
              refine oneT 9 (by kernel_rfl) rfl (fun K hK => ?_)
              refine step_store_row rfl 35 (.tmp 10) (.tmp 46) rfl (x1.heap.size + 1) (feC CB) rfl rfl 35 _ ((hN4.get 0 rfl).rowFar (Ne.symm hne) _) (sizeFe _) (fe_zero _) (one_fe _) ?_
              refine hK.out _ _ (fun h => absurd rfl h) ?_
              clear hK K
              refine doneT (by kernel_rfl) ?_ _
              go_wp2_with fail
              go_meet
              exact ⟨_, _, rfl, rfl, Nat.le_trans hvv2 hk1, Nat.le_trans hvv2 hk2, by have := hsz; simp [World.setRow] at this ⊢; omega, hset⟩
          · go_simp
            refine hK.out _ _ (fun _ => hkeep _ (by (repeat (first | exact c_refl _ | refine c_drew ?_ | refine c_alloc ?_ _ | refine c_row ?_ (by first | omega | exact Nat.le_refl _) _ | refine c_call ?_ (by assumption))); first | done | fail "open")) ?_
            clear hK K
            have hn1 := fun p hp => Nat.ne_of_lt ((hN1.rows p hp).lt)
            have hg1 := hN1.old.size
            have hN2 := hN1.box 35 #[.int .u64 0, .int .u64 0, .int .u64 0, .int .u64 0, .int .u64 0]
            try simp only [World.size_alloc] at hN2 hn1 hg1
            have hk1 : v2.heap.size ≤ x1.heap.size := (show Below v2.heap.size v2 x1 from (by (repeat (first | exact c_refl _ | refine c_drew ?_ | refine c_alloc ?_ _ | refine c_row ?_ (by first | omega | exact Nat.le_refl _) _ | refine c_call ?_ (by assumption))); first | done | fail "open")).size
            refine readyT [5, 6] (by kernel_rfl) (by simp) (AllReadyT.cons rfl (fun K hK => ?_) (AllReadyT.cons rfl (fun K hK => ?_) AllReadyT.nil))
            · go_simp
              refine (kCB _).mono ?_
              rintro e x3 ⟨rfl, hx3⟩
              refine hK.out _ _ (fun _ => hkeep _ (by (repeat (first | exact c_refl _ | refine c_drew ?_ | refine c_alloc ?_ _ | refine c_row ?_ (by first | omega | exact Nat.le_refl _) _ | refine c_call ?_ (by assumption))); first | done | fail "open")) ?_
              clear hK K
              have hN3 := hN2.call hx3
              refine oneT 6 (by kernel_rfl) rfl (fun K hK => ?_)
              go_simp
              refine hK.out _ _ (fun _ => hkeep _ (by (repeat (first | exact c_refl _ | refine c_drew ?_ | refine c_alloc ?_ _ | refine c_row ?_ (by first | omega | exact Nat.le_refl _) _ | refine c_call ?_ (by assumption))); first | done | fail "open")) ?_
              clear hK K
              have hn2 := fun p hp => Nat.ne_of_lt ((hN3.rows p hp).lt)
              have hg2 := hN3.old.size
              have hN4 := hN3.box 35 #[.int .u64 0, .int .u64 0, .int .u64 0, .int .u64 0, .int .u64 0]
              try simp only [World.size_alloc] at hN4 hn2 hg2
              have hk2 : v2.heap.size ≤ x3.heap.size := (show Below v2.heap.size v2 x3 from (by (repeat (first | exact c_refl _ | refine c_drew ?_ | refine c_alloc ?_ _ | refine c_row ?_ (by first | omega | exact Nat.le_refl _) _ | refine c_call ?_ (by assumption))); first | done | fail "open")).size
              have hsz : w.heap.size ≤ x3.heap.size + 1 := Nat.le_trans hvv2 (Nat.le_trans hk2 (Nat.le_succ _))
              have hne : (x1.heap.size : Nat) ≠ x3.heap.size := hn2 _ List.mem_cons_self
              have hset := Ms.set2 (ds := (feC DA)) (ds' := (feC CB)) (hN4) hg2 hg1 (Ne.symm hne) (fun p hp => hn2 p (List.mem_cons_of_mem _ hp)) hn1
              refine oneT 8 (by kernel_rfl) rfl (fun K hK => ?_)
              refine step_store_row rfl 35 (.tmp 9) (.tmp 43) rfl (x3.heap.size) (feC DA) rfl rfl 35 _ (hN4.get 0 rfl) (sizeFe _) (fe_zero _) (one_fe _) ?_
              refine hK.out _ _ (fun _ => hkeep _ (by (repeat (first | exact c_refl _ | refine c_drew ?_ | refine c_alloc ?_ _ | refine c_row ?_ (by first | omega | exact Nat.le_refl _) _ | refine c_call ?_ (by assumption))); first | done | fail "open")) ?_
              clear hK K
              refine oneT 9 (by kernel_rfl) rfl (fun K hK => ?_)
              refine step_store_row rfl 35 (.tmp 10) (.tmp 46) rfl (x1.heap.size) (feC CB) rfl rfl 35 _ ((hN4.get 1 rfl).rowFar hne _) (sizeFe _) (fe_zero _) (one_fe _) ?_
              refine hK.out _ _ (fun h => absurd rfl h) ?_
              clear hK K
              refine doneT (by kernel_rfl) ?_ _
              go_wp2_with fail
              go_meet
              exact ⟨_, _, rfl, rfl, Nat.le_trans hvv2 hk2, Nat.le_trans hvv2 hk1, by have := hsz; simp [World.setRow] at this ⊢; omega, hset⟩
            · go_simp
              refine hK.out _ _ (fun _ => hkeep _ (by (repeat (first | exact c_refl _ | refine c_drew ?_ | refine c_alloc ?_ _ | refine c_row ?_ (by first | omega | exact Nat.le_refl _) _ | refine c_call ?_ (by assumption))); first | done | fail "open")) ?_
              clear hK K
              have hn2 := fun p hp => Nat.ne_of_lt ((hN2.rows p hp).lt)
              have hg2 := hN2.old.size
              have hN3 := hN2.box 35 #[.int .u64 0, .int .u64 0, .int .u64 0, .int .u64 0, .int .u64 0]
              try simp only [World.size_alloc] at hN3 hn2 hg2
              have hk2 : v2.heap.size ≤ x1.heap.size + 1 := Nat.le_trans (show Below v2.heap.size v2 x1 from (by (repeat (first | exact c_refl _ | refine c_drew ?_ | refine c_alloc ?_ _ | refine c_row ?_ (by first | omega | exact Nat.le_refl _) _ | refine c_call ?_ (by assumption))); first | done | fail "open")).size (Nat.le_succ _)
              refine oneT 5 (by kernel_rfl) rfl (fun K hK => ?_)
              go_simp
              refine (kCB _).mono ?_
              rintro e x4 ⟨rfl, hx4⟩
              refine hK.out _ _ (fun _ => hkeep _ (by (repeat (first | exact c_refl _ | refine c_drew ?_ | refine c_alloc ?_ _ | refine c_row ?_ (by first | omega | exact Nat.le_refl _) _ | refine c_call ?_ (by assumption))); first | done | fail "open")) ?_
              clear hK K
              have hN4 := hN3.call hx4
              have hsz : w.heap.size ≤ x4.heap.size := Nat.le_trans hvv2 (show Below v2.heap.size v2 x4 from (by (repeat (first | exact c_refl _ | refine c_drew ?_ | refine c_alloc ?_ _ | refine c_row ?_ (by first | omega | exact Nat.le_refl _) _ | refine c_call ?_ (by assumption))); first | done | fail "open")).size
              have hne : (x1.heap.size : Nat) ≠ x1.heap.size + 1 := hn2 _ List.mem_cons_self
              have hset := Ms.set2 (ds := (feC DA)) (ds' := (feC CB)) (hN4) hg2 hg1 (Ne.symm hne) (fun p hp => hn2 p (List.mem_cons_of_mem _ hp)) hn1
              refine oneT 8 (by kernel_rfl) rfl (fun K hK => ?_)
              refine step_store_row rfl 35 (.tmp 9) (.tmp 43) rfl (x1.heap.size + 1) (feC DA) rfl rfl 35 _ (hN4.get 0 rfl) (sizeFe _) (fe_zero _) (one_fe _) ?_
              refine hK.out _ _ (fun _ => hkeep _ (by (repeat (first | exact c_refl _ | refine c_drew ?_ | refine c_alloc ?_ _ | refine c_row ?_ (by first | omega | exact Nat.le_refl _) _ | refine c_call ?_ (by assumption))); first | done | fail "open")) ?_
              clear hK K
              refine oneT 9 (by kernel_rfl) rfl (fun K hK => ?_)
              refine step_store_row rfl 35 (.tmp 10) (.tmp 46) rfl (x1.heap.size) (feC CB) rfl rfl 35 _ ((hN4.get 1 rfl).rowFar hne _) (sizeFe _) (fe_zero _) (one_fe _) ?_
              refine hK.out _ _ (fun h => absurd rfl h) ?_
              clear hK K
              refine doneT (by kernel_rfl) ?_ _
              go_wp2_with fail
              go_meet
              exact ⟨_, _, rfl, rfl, Nat.le_trans hvv2 hk2, Nat.le_trans hvv2 hk1, by have := hsz; simp [World.setRow] at this ⊢; omega, hset⟩
        · go_simp
          refine hK.out _ _ (fun _ => hkeep _ (by (repeat (first | exact c_refl _ | refine c_drew ?_ | refine c_alloc ?_ _ | refine c_row ?_ (by first | omega | exact Nat.le_refl _) _ | refine c_call ?_ (by assumption))); first | done | fail "open")) ?_
          clear hK K
          have hn1 := fun p hp => Nat.ne_of_lt ((hD.rows p hp).lt)
          have hg1 := hD.old.size
          have hN1 := hD.box 35 #[.int .u64 0, .int .u64 0, .int .u64 0, .int .u64 0, .int .u64 0]
          try simp only [World.size_alloc] at hN1 hn1 hg1
          have hk1 : v2.heap.size ≤ v2.heap.size := Nat.le_refl _
          refine readyT [2, 7] (by kernel_rfl) (by simp) (AllReadyT.cons rfl (fun K hK => ?_) (AllReadyT.cons rfl (fun K hK => ?_) AllReadyT.nil))
          · go_simp
            refine (kDA _).mono ?_
            rintro e x2 ⟨rfl, hx2⟩
            refine hK.out _ _ (fun _ => hkeep _ (by (repeat (first | exact c_refl _ | refine c_drew ?_ | refine c_alloc ?_ _ | refine c_row ?_ (by first | omega | exact Nat.le_refl _) _ | refine c_call ?_ (by assumption))); first | done | fail "open")) ?_
            clear hK K
            have hN2 := hN1.call hx2
            refine readyT [5, 7] (by kernel_rfl) (by simp) (AllReadyT.cons rfl (fun K hK => ?_) (AllReadyT.cons rfl (fun K hK => ?_) AllReadyT.nil))
            · go_simp
              refine (kCB _).mono ?_
              rintro e x3 ⟨rfl, hx3⟩
              refine hK.out _ _ (fun _ => hkeep _ (by (repeat (first | exact c_refl _ | refine c_drew ?_ | refine c_alloc ?_ _ | refine c_row ?_ (by first | omega | exact Nat.le_refl _) _ | refine c_call ?_ (by assumption))); first | done | fail "open")) ?_
              clear hK K
              have hN3 := hN2.call hx3
              refine oneT 7 (by kernel_rfl) rfl (fun K hK => ?_)
              go_simp
              refine hK.out _ _ (fun _ => hkeep _ (by (repeat (first | exact c_refl _ | refine c_drew ?_ | refine c_alloc ?_ _ | refine c_row ?_ (by first | omega | exact Nat.le_refl _) _ | refine c_call ?_ (by assumption))); first | done | fail "open")) ?_
              clear hK K
              have hn2 := fun p hp => Nat.ne_of_lt ((hN3.rows p hp).lt)
              have hg2 := hN3.old.size
              have hN4 := hN3.box 35 #[.int .u64 0, .int .u64 0, .int .u64 0, .int .u64 0, .int .u64 0]
              try simp only [World.size_alloc] at hN4 hn2 hg2
              have hk2 : v2.heap.size ≤ x3.heap.size := (show Below v2.heap.size v2 x3 from (by (repeat (first | exact c_refl _ | refine c_drew ?_ | refine c_alloc ?_ _ | refine c_row ?_ (by first | omega | exact Nat.le_refl _) _ | refine c_call ?_ (by assumption))); first | done | fail "open")).size
              have hsz : w.heap.size ≤ x3.heap.size + 1 := Nat.le_trans hvv2 (Nat.le_trans hk2 (Nat.le_succ _))
              have hne : (v2.heap.size : Nat) ≠ x3.heap.size := hn2 _ List.mem_cons_self
              have hset := Ms.set2 (ds := (feC DA)) (ds' := (feC CB)) (hN4.swap) hg1 hg2 hne hn1 (fun p hp => hn2 p (List.mem_cons_of_mem _ hp))
              refine oneT 8 (by kernel_rfl) rfl (fun K hK => ?_)
              refine step_store_row rfl 35 (.tmp 9) (.tmp 43) rfl (v2.heap.size) (feC DA) rfl rfl 35 _ (hN4.get 1 rfl) (sizeFe _) (fe_zero _) (one_fe _) ?_
              refine hK.out _ _ (fun _ => hkeep _ (by (repeat (first | exact c_refl _ | refine c_drew ?_ | refine c_alloc ?_ _ | refine c_row ?_ (by first | omega | exact Nat.le_refl _) _ | refine c_call ?_ (by assumption))); first | done | fail "open")) ?_
              clear hK K
              refine oneT 9 (by kernel_rfl) rfl (fun K hK => ?_)
              refine step_store_row rfl 35 (.tmp 10) (.tmp 46) rfl (x3.heap.size) (feC CB) rfl rfl 35 _ ((hN4.get 0 rfl).rowFar (Ne.symm hne) _) (sizeFe _) (fe_zero _) (one_fe _) ?_
              refine hK.out _ _ (fun h => absurd rfl h) ?_
              clear hK K
              refine doneT (by kernel_rfl) ?_ _
              go_wp2_with fail
              go_meet
              exact ⟨_, _, rfl, rfl, Nat.le_trans hvv2 hk1, Nat.le_trans hvv2 hk2, by have := hsz; simp [World.setRow] at this ⊢; omega, hset⟩
            · go_simp
              refine hK.out _ _ (fun _ => hkeep _ (by (repeat (first | exact c_refl _ | refine c_drew ?_ | refine c_alloc ?_ _ | refine c_row ?_ (by first | omega | exact Nat.le_refl _) _ | refine c_call ?_ (by assumption))); first | done | fail "open")) ?_
              clear hK K
              have hn2 := fun p hp => Nat.ne_of_lt ((hN2.rows p hp).lt)
              have hg2 := hN2.old.size
              have hN3 := hN2.box 35 #[.int .u64 0, .int .u64 0, .int .u64 0, .int .u64 0, .int .u64 0]
              try simp only [World.size_alloc] at hN3 hn2 hg2
              have hk2 : v2.heap.size ≤ x2.heap.size := (show Below v2.heap.size v2 x2 from (by (repeat (first | exact c_refl _ | refine c_drew ?_ | refine c_alloc ?_ _ | refine c_row ?_ (by first | omega | exact Nat.le_refl _) _ | refine c_call ?_ (by assumption))); first | done | fail "open")).size
              refine oneT 5 (by kernel_rfl) rfl (fun K hK => ?_)
              go_simp
              refine (kCB _).mono ?_
              rintro e x4 ⟨rfl, hx4⟩
              refine hK.out _ _ (fun _ => hkeep _ (by (repeat (first | exact c_refl _ | refine c_drew ?_ | refine c_alloc ?_ _ | refine c_row ?_ (by first | omega | exact Nat.le_refl _) _ | refine c_call ?_ (by assumption))); first | done | fail "open")) ?_
              clear hK K
              have hN4 := hN3.call hx4
              have hsz : w.heap.size ≤ x4.heap.size := Nat.le_trans hvv2 (show Below v2.heap.size v2 x4 from (by (repeat (first | exact c_refl _ | refine c_drew ?_ | refine c_alloc ?_ _ | refine c_row ?_ (by first | omega | exact Nat.le_refl _) _ | refine c_call ?_ (by assumption))); first | done | fail "open")).size
              have hne : (v2.heap.size : Nat) ≠ x2.heap.size := hn2 _ List.mem_cons_self
              have hset := Ms.set2 (ds := (feC DA)) (ds' := (feC CB)) (hN4.swap) hg1 hg2 hne hn1 (fun p hp => hn2 p (List.mem_cons_of_mem _ hp))
              refine oneT 8 (by kernel_rfl) rfl (fun K hK => ?_)
              refine step_store_row rfl 35 (.tmp 9) (.tmp 43) rfl (v2.heap.size) (feC DA) rfl rfl 35 _ (hN4.get 1 rfl) (sizeFe _) (fe_zero _) (one_fe _) ?_
              refine hK.out _ _ (fun _ => hkeep _ (by (repeat (first | exact c_refl _ | refine c_drew ?_ | refine c_alloc ?_ _ | refine c_row ?_ (by first | omega | exact Nat.le_refl _) _ | refine c_call ?_ (by assumption))); first | done | fail "open")) ?_
              clear hK K
              refine oneT 9 (by kernel_rfl) rfl (fun K hK => ?_)
              refine step_store_row rfl 35 (.tmp 10) (.tmp 46) rfl (x2.heap.size) (feC CB) rfl rfl 35 _ ((hN4.get 0 rfl).rowFar (Ne.symm hne) _) (sizeFe _) (fe_zero _) (one_fe _) ?_
              refine hK.out _ _ (fun h => absurd rfl h) ?_
              clear hK K
              refine doneT (by kernel_rfl) ?_ _
              go_wp2_with fail
              go_meet
              exact ⟨_, _, rfl, rfl, Nat.le_trans hvv2 hk1, Nat.le_trans hvv2 hk2, by have := hsz; simp [World.setRow] at this ⊢; omega, hset⟩
          · go_simp
            refine hK.out _ _ (fun _ => hkeep _ (by (repeat (first | exact c_refl _ | refine c_drew ?_ | refine c_alloc ?_ _ | refine c_row ?_ (by first | omega | exact Nat.le_refl _) _ | refine c_call ?_ (by assumption))); first | done | fail "open")) ?_
            clear hK K
            have hn2 := fun p hp => Nat.ne_of_lt ((hN1.rows p hp).lt)
            have hg2 := hN1.old.size
            have hN2 := hN1.box 35 #[.int .u64 0, .int .u64 0, .int .u64 0, .int .u64 0, .int .u64 0]
            try simp only [World.size_alloc] at hN2 hn2 hg2
            have hk2 : v2.heap.size ≤ v2.heap.size + 1 := Nat.le_succ _
            refine oneT 2 (by kernel_rfl) rfl (fun K hK => ?_)
            go_simp
            refine (kDA _).mono ?_
            rintro e x3 ⟨rfl, hx3⟩
            refine hK.out _ _ (fun _ => hkeep _ (by (repeat (first | exact c_refl _ | refine c_drew ?_ | refine c_alloc ?_ _ | refine c_row ?_ (by first | omega | exact Nat.le_refl _) _ | refine c_call ?_ (by assumption))); first | done | fail "open")) ?_
            clear hK K
            have hN3 := hN2.call hx3
            refine oneT 5 (by kernel_rfl) rfl (fun K hK => ?_)
            go_simp
            refine (kCB _).mono ?_
            rintro e x4 ⟨rfl, hx4⟩
            refine hK.out _ _ (fun _ => hkeep _ (by (repeat (first | exact c_refl _ | refine c_drew ?_ | refine c_alloc ?_ _ | refine c_row ?_ (by first | omega | exact Nat.le_refl _) _ | refine c_call ?_ (by assumption))); first | done | fail "open")) ?_
            clear hK K
            have hN4 := hN3.call hx4
            have hsz : w.heap.size ≤ x4.heap.size := Nat.le_trans hvv2 (show Below v2.heap.size v2 x4 from (by (repeat (first | exact c_refl _ | refine c_drew ?_ | refine c_alloc ?_ _ | refine c_row ?_ (by first | omega | exact Nat.le_refl _) _ | refine c_call ?_ (by assumption))); first | done | fail "open")).size
            have hne : (v2.heap.size : Nat) ≠ v2.heap.size + 1 := hn2 _ List.mem_cons_self
            have hset := Ms.set2 (ds := (feC DA)) (ds' := (feC CB)) (hN4.swap) hg1 hg2 hne hn1 (fun p hp => hn2 p (List.mem_cons_of_mem _ hp))
            refine oneT 8 (by kernel_rfl) rfl (fun K hK => ?_)
            refine step_store_row rfl 35 (.tmp 9) (.tmp 43) rfl (v2.heap.size) (feC DA) rfl rfl 35 _ (hN4.get 1 rfl) (sizeFe _) (fe_zero _) (one_fe _) ?_
            refine hK.out _ _ (fun _ => hkeep _ (by (repeat (first | exact c_refl _ | refine c_drew ?_ | refine c_alloc ?_ _ | refine c_row ?_ (by first | omega | exact Nat.le_refl _) _ | refine c_call ?_ (by assumption))); first | done | fail "open")) ?_
            clear hK K
            refine oneT 9 (by kernel_rfl) rfl (fun K hK => ?_)
            refine step_store_row rfl 35 (.tmp 10) (.tmp 46) rfl (v2.heap.size + 1) (feC CB) rfl rfl 35 _ ((hN4.get 0 rfl).rowFar (Ne.symm hne) _) (sizeFe _) (fe_zero _) (one_fe _) ?_
            refine hK.out _ _ (fun h => absurd rfl h) ?_
            clear hK K
            refine doneT (by kernel_rfl) ?_ _
            go_wp2_with fail
            go_meet
            exact ⟨_, _, rfl, rfl, Nat.le_trans hvv2 hk1, Nat.le_trans hvv2 hk2, by have := hsz; simp [World.setRow] at this ⊢; omega, hset⟩
        · go_simp
          refine hK.out _ _ (fun _ => hkeep _ (by (repeat (first | exact c_refl _ | refine c_drew ?_ | refine c_alloc ?_ _ | refine c_row ?_ (by first | omega | exact Nat.le_refl _) _ | refine c_call ?_ (by assumption))); first | done | fail "open")) ?_
          clear hK K
          have hn1 := fun p hp => Nat.ne_of_lt ((hD.rows p hp).lt)
          have hg1 := hD.old.size
          have hN1 := hD.box 35 #[.int .u64 0, .int .u64 0, .int .u64 0, .int .u64 0, .int .u64 0]
          try simp only [World.size_alloc] at hN1 hn1 hg1
          have hk1 : v2.heap.size ≤ v2.heap.size := Nat.le_refl _
          refine readyT [2, 6] (by kernel_rfl) (by simp) (AllReadyT.cons rfl (fun K hK => ?_) (AllReadyT.cons rfl (fun K hK => ?_) AllReadyT.nil))
          · go_simp
            refine (kDA _).mono ?_
            rintro e x2 ⟨rfl, hx2⟩
            refine hK.out _ _ (fun _ => hkeep _ (by (repeat (first | exact c_refl _ | refine c_drew ?_ | refine c_alloc ?_ _ | refine c_row ?_ (by first | omega | exact Nat.le_refl _) _ | refine c_call ?_ (by assumption))); first | done | fail "open")) ?_
            clear hK K
            have hN2 := hN1.call hx2
            refine readyT [5, 6] (by kernel_rfl) (by simp) (AllReadyT.cons rfl (fun K hK => ?_) (AllReadyT.cons rfl (fun K hK => ?_) AllReadyT.nil))
            · go_simp
              refine (kCB _).mono ?_
              rintro e x3 ⟨rfl, hx3⟩
              refine hK.out _ _ (fun _ => hkeep _ (by (repeat (first | exact c_refl _ | refine c_drew ?_ | refine c_alloc ?_ _ | refine c_row ?_ (by first | omega | exact Nat.le_refl _) _ | refine c_call ?_ (by assumption))); first | done | fail "open")) ?_
              clear hK K
              have hN3 := hN2.call hx3
              refine oneT 6 (by kernel_rfl) rfl (fun K hK => ?_)
              go_simp
              refine hK.out _ _ (fun _ => hkeep _ (by (repeat (first | exact c_refl _ | refine c_drew ?_ | refine c_alloc ?_ _ | refine c_row ?_ (by first | omega | exact Nat.le_refl _) _ | refine c_call ?_ (by assumption))); first | done | fail "open")) ?_
              clear hK K
              have hn2 := fun p hp => Nat.ne_of_lt ((hN3.rows p hp).lt)
              have hg2 := hN3.old.size
              have hN4 := hN3.box 35 #[.int .u64 0, .int .u64 0, .int .u64 0, .int .u64 0, .int .u64 0]
              try simp only [World.size_alloc] at hN4 hn2 hg2
              have hk2 : v2.heap.size ≤ x3.heap.size := (show Below v2.heap.size v2 x3 from (by (repeat (first | exact c_refl _ | refine c_drew ?_ | refine c_alloc ?_ _ | refine c_row ?_ (by first | omega | exact Nat.le_refl _) _ | refine c_call ?_ (by assumption))); first | done | fail "open")).size
              have hsz : w.heap.size ≤ x3.heap.size + 1 := Nat.le_trans hvv2 (Nat.le_trans hk2 (Nat.le_succ _))
              have hne : (v2.heap.size : Nat) ≠ x3.heap.size := hn2 _ List.mem_cons_self
              have hset := Ms.set2 (ds := (feC DA)) (ds' := (feC CB)) (hN4) hg2 hg1 (Ne.symm hne) (fun p hp => hn2 p (List.mem_cons_of_mem _ hp)) hn1
              refine oneT 8 (by kernel_rfl) rfl (fun K hK => ?_)
              refine step_store_row rfl 35 (.tmp 9) (.tmp 43) rfl (x3.heap.size) (feC DA) rfl rfl 35 _ (hN4.get 0 rfl) (sizeFe _) (fe_zero _) (one_fe _) ?_
              refine hK.out _ _ (fun _ => hkeep _ (by (repeat (first | exact c_refl _ | refine c_drew ?_ | refine c_alloc ?_ _ | refine c_row ?_ (by first | omega | exact Nat.le_refl _) _ | refine c_call ?_ (by assumption))); first | done | fail "open")) ?_
              clear hK K
              refine oneT 9 (by kernel_rfl) rfl (fun K hK => ?_)
              refine step_store_row rfl 35 (.tmp 10) (.tmp 46) rfl (v2.heap.size) (feC CB) rfl rfl 35 _ ((hN4.get 1 rfl).rowFar hne _) (sizeFe _) (fe_zero _) (one_fe _) ?_
              refine hK.out _ _ (fun h => absurd rfl h) ?_
              clear hK K
              refine doneT (by kernel_rfl) ?_ _
              go_wp2_with fail
              go_meet
              exact ⟨_, _, rfl, rfl, Nat.le_trans hvv2 hk2, Nat.le_trans hvv2 hk1, by have := hsz; simp [World.setRow] at this ⊢; omega, hset⟩
            · go_simp
              refine hK.out _ _ (fun _ => hkeep _ (by (repeat (first | exact c_refl _ | refine c_drew ?_ | refine c_alloc ?_ _ | refine c_row ?_ (by first | omega | exact Nat.le_refl _) _ | refine c_call ?_ (by assumption))); first | done | fail "open")) ?_
              clear hK K
              have hn2 := fun p hp => Nat.ne_of_lt ((hN2.rows p hp).lt)
              have hg2 := hN2.old.size
              have hN3 := hN2.box 35 #[.int .u64 0, .int .u64 0, .int .u64 0, .int .u64 0, .int .u64 0]
              try simp only [World.size_alloc] at hN3 hn2 hg2
              have hk2 : v2.heap.size ≤ x2.heap.size := (show Below v2.heap.size v2 x2 from (by (repeat (first | exact c_refl _ | refine c_drew ?_ | refine c_alloc ?_ _ | refine c_row ?_ (by first | omega | exact Nat.le_refl _) _ | refine c_call ?_ (by assumption))); first | done | fail "open")).size
              refine oneT 5 (by kernel_rfl) rfl (fun K hK => ?_)
              go_simp
              refine (kCB _).mono ?_
              rintro e x4 ⟨rfl, hx4⟩
              refine hK.out _ _ (fun _ => hkeep _ (by (repeat (first | exact c_refl _ | refine c_drew ?_ | refine c_alloc ?_ _ | refine c_row ?_ (by first | omega | exact Nat.le_refl _) _ | refine c_call ?_ (by assumption))); first | done | fail "open")) ?_
              clear hK K
              have hN4 := hN3.call hx4
              have hsz : w.heap.size ≤ x4.heap.size := Nat.le_trans hvv2 (show Below v2.heap.size v2 x4 from (by (repeat (first | exact c_refl _ | refine c_drew ?_ | refine c_alloc ?_ _ | refine c_row ?_ (by first | omega | exact Nat.le_refl _) _ | refine c_call ?_ (by assumption))); first | done | fail "open")).size
              have hne : (v2.heap.size : Nat) ≠ x2.heap.size := hn2 _ List.mem_cons_self
              have hset := Ms.set2 (ds := (feC DA)) (ds' := (feC CB)) (hN4) hg2 hg1 (Ne.symm hne) (fun p hp => hn2 p (List.mem_cons_of_mem _ hp)) hn1
              refine oneT 8 (by kernel_rfl) rfl (fun K hK => ?_)
              refine step_store_row rfl 35 (.tmp 9) (.tmp 43) rfl (x2.heap.size) (feC DA) rfl rfl 35 _ (hN4.get 0 rfl) (sizeFe _) (fe_zero _) (one_fe _) ?_
              refine hK.out _ _ (fun _ => hkeep _ (by (repeat (first | exact c_refl _ | refine c_drew ?_ | refine c_alloc ?_ _ | refine c_row ?_ (by first | omega | exact Nat.le_refl _) _ | refine c_call ?_ (by assumption))); first | done | fail "open")) ?_
              clear hK K
              refine oneT 9 (by kernel_rfl) rfl (fun K hK => ?_)
              refine step_store_row rfl 35 (.tmp 10) (.tmp 46) rfl (v2.heap.size) (feC CB) rfl rfl 35 _ ((hN4.get 1 rfl).rowFar hne _) (sizeFe _) (fe_zero _) (one_fe _) ?_
              refine hK.out _ _ (fun h => absurd rfl h) ?_
              clear hK K
              refine doneT (by kernel_rfl) ?_ _
              go_wp2_with fail
              go_meet
              exact ⟨_, _, rfl, rfl, Nat.le_trans hvv2 hk2, Nat.le_trans hvv2 hk1, by have := hsz; simp [World.setRow] at this ⊢; omega, hset⟩
          · go_simp
            refine hK.out _ _ (fun _ => hkeep _ (by (repeat (first | exact c_refl _ | refine c_drew ?_ | refine c_alloc ?_ _ | refine c_row ?_ (by first | omega | exact Nat.le_refl _) _ | refine c_call ?_ (by assumption))); first | done | fail "open")) ?_
            clear hK K
            have hn2 := fun p hp => Nat.ne_of_lt ((hN1.rows p hp).lt)
            have hg2 := hN1.old.size
            have hN2 := hN1.box 35 #[.int .u64 0, .int .u64 0, .int .u64 0, .int .u64 0, .int .u64 0]
            try simp only [World.size_alloc] at hN2 hn2 hg2
            have hk2 : v2.heap.size ≤ v2.heap.size + 1 := Nat.le_succ _
            refine oneT 2 (by kernel_rfl) rfl (fun K hK => ?_)
            go_simp
            refine (kDA _).mono ?_
            rintro e x3 ⟨rfl, hx3⟩
            refine hK.out _ _ (fun _ => hkeep _ (by (repeat (first | exact c_refl _ | refine c_drew ?_ | refine c_alloc ?_ _ | refine c_row ?_ (by first | omega | exact Nat.le_refl _) _ | refine c_call ?_ (by assumption))); first | done | fail "open")) ?_
            clear hK K
            have hN3 := hN2.call hx3
            refine oneT 5 (by kernel_rfl) rfl (fun K hK => ?_)
            go_simp
            refine (kCB _).mono ?_
            rintro e x4 ⟨rfl, hx4⟩
            refine hK.out _ _ (fun _ => hkeep _ (by (repeat (first | exact c_refl _ | refine c_drew ?_ | refine c_alloc ?_ _ | refine c_row ?_ (by first | omega | exact Nat.le_refl _) _ | refine c_call ?_ (by assumption))); first | done | fail "open")) ?_
            clear hK K
            have hN4 := hN3.call hx4
            have hsz : w.heap.size ≤ x4.heap.size := Nat.le_trans hvv2 (show Below v2.heap.size v2 x4 from (by (repeat (first | exact c_refl _ | refine c_drew ?_ | refine c_alloc ?_ _ | refine c_row ?_ (by first | omega | exact Nat.le_refl _) _ | refine c_call ?_ (by assumption))); first | done | fail "open")).size
            have hne : (v2.heap.size : Nat) ≠ v2.heap.size + 1 := hn2 _ List.mem_cons_self
            have hset := Ms.set2 (ds := (feC DA)) (ds' := (feC CB)) (hN4) hg2 hg1 (Ne.symm hne) (fun p hp => hn2 p (List.mem_cons_of_mem _ hp)) hn1
            refine oneT 8 (by kernel_rfl) rfl (fun K hK => ?_)
            refine step_store_row rfl 35 (.tmp 9) (.tmp 43) rfl (v2.heap.size + 1) (feC DA) rfl rfl 35 _ (hN4.get 0 rfl) (sizeFe _) (fe_zero _) (one_fe _) ?_
            refine hK.out _ _ (fun _ => hkeep _ (by (repeat (first | exact c_refl _ | refine c_drew ?_ | refine c_alloc ?_ _ | refine c_row ?_ (by first | omega | exact Nat.le_refl _) _ | refine c_call ?_ (by assumption))); first | done | fail "open")) ?_
            clear hK K
            refine oneT 9 (by kernel_rfl) rfl (fun K hK => ?_)
            refine step_store_row rfl 35 (.tmp 10) (.tmp 46) rfl (v2.heap.size) (feC CB) rfl rfl 35 _ ((hN4.get 1 rfl).rowFar hne _) (sizeFe _) (fe_zero _) (one_fe _) ?_
            refine hK.out _ _ (fun h => absurd rfl h) ?_
            clear hK K
            refine doneT (by kernel_rfl) ?_ _
            go_wp2_with fail
            go_meet
            exact ⟨_, _, rfl, rfl, Nat.le_trans hvv2 hk2, Nat.le_trans hvv2 hk1, by have := hsz; simp [World.setRow] at this ⊢; omega, hset⟩
      case rest =>
        obtain ⟨gDA, gCB, rfl, rfl, hggDA, hggCB, hsc3, hMc3⟩ := hcut
        clear hMvv2
        go_upto_region 4 with (fail)
        try simp only [Act.put]
        refine wp_gen (fun wx => Ms w0 wx ((gDA, 35, (feC DA)) :: (gCB, 35, (feC CB)) :: (gC, 35, (feC C)) :: (gD, 35, (feC D)) :: (gA, 35, (feC A)) :: (gB, 35, (feC B)) :: (gN, 38, (rtC nx nz)) :: (gX, 38, (rtC xx xz)) :: (gP, 35, (feC P)) :: L) ∧ w.heap.size ≤ wx.heap.size) ⟨hMc3, hsc3⟩ ?_
        clear hMc3
        rintro v3 ⟨hMvv3, hvv3⟩
        go_cut [11, 12] (fun p q wx => ∃ g g' : Nat, p = .pointer (some ⟨g, 0, none⟩) ∧ q = .pointer (some ⟨g', 0, none⟩) ∧ w.heap.size ≤ g ∧ w.heap.size ≤ g' ∧ w.heap.size ≤ wx.heap.size ∧ Ms w0 wx ((g, 35, (feC AA)) :: (g', 35, (feC BB)) :: (gDA, 35, (feC DA)) :: (gCB, 35, (feC CB)) :: (gC, 35, (feC C)) :: (gD, 35, (feC D)) :: (gA, 35, (feC A)) :: (gB, 35, (feC B)) :: (gN, 38, (rtC nx nz)) :: (gX, 38, (rtC xx xz)) :: (gP, 35, (feC P)) :: L))
        case first =>
          have hkeep : ∀ wx : World, Below v3.heap.size v3 wx → wx.rangeAt (gA) 0 (feC A).toList ∧ wx.rangeAt (gB) 0 (feC B).toList := fun wx hb => ⟨((hMvv3.get 4 rfl).call hb).range, ((hMvv3.get 5 rfl).call hb).range⟩
          have hun := Try.underlying35
          refine beginT (fun wx => wx.rangeAt (gA) 0 (feC A).toList ∧ wx.rangeAt (gB) 0 (feC B).toList) 7 (by kernel_rfl) ?_
          have hS := hkeep _ (c_drew (c_refl _))
          refine loadT 0 (some 47) 35 (.tmp 5) (gA) 0 (feC A).toList rfl rfl (by kernel_rfl) (by kernel_rfl) (by kernel_rfl) (by kernel_rfl) rfl (by kernel_rfl) rfl (fun wx hSw => hSw.1) hun rfl (sizeFeL _) (fun _ _ _ h => h) hS ?_
          simp only [Act.put, List.setIfInBounds_toArray, List.set_cons_zero, List.set_cons_succ, Array.toArray_toList]
          refine loadT 2 (some 49) 35 (.tmp 6) (gB) 0 (feC B).toList rfl rfl (by kernel_rfl) (by kernel_rfl) (by kernel_rfl) (by kernel_rfl) rfl (by kernel_rfl) rfl (fun wx hSw => hSw.2) hun rfl (sizeFeL _) (fun _ _ _ h => h) hS ?_
          simp only [Act.put, List.setIfInBounds_toArray, List.set_cons_zero, List.set_cons_succ, Array.toArray_toList]
          have hD := hMvv3.drew
          refine readyT [1, 4, 5] (by kernel_rfl) (by simp) (AllReadyT.cons rfl (fun K hK => ?_) (AllReadyT.cons rfl (fun K hK => ?_) (AllReadyT.cons rfl (fun K hK => ?_) AllReadyT.nil)))
          · go_simp
            refine (kAA _).mono ?_
            rintro e x1 ⟨rfl, hx1⟩
            refine hK.out _ _ (fun _ => hkeep _ (by (repeat (first | exact c_refl _ | refine c_drew ?_ | refine c_alloc ?_ _ | refine c_row ?_ (by first | omega | exact Nat.le_refl _) _ | refine c_call ?_ (by assumption))); first | done | fail "open")) ?_
            clear hK K
            have hN1 := hD.call hx1
            refine readyT [3, 4, 5] (by kernel_rfl) (by simp) (AllReadyT.cons rfl (fun K hK => ?_) (AllReadyT.cons rfl (fun K hK => ?_) (AllReadyT.cons rfl (fun K hK => ?_) AllReadyT.nil)))
            · go_simp
              refine (kBB _).mono ?_
              rintro e x2 ⟨rfl, hx2⟩
              refine hK.out _ _ (fun _ => hkeep _ (by (repeat (first | exact c_refl _ | refine c_drew ?_ | refine c_alloc ?_ _ | refine c_row ?_ (by first | omega | exact Nat.le_refl _) _ | refine c_call ?_ (by assumption))); first | done | fail "open")) ?_
              clear hK K
              have hN2 := hN1.call hx2
              refine readyT [4, 5] (by kernel_rfl) (by simp) (AllReadyT.cons rfl (fun K hK => ?_) (AllReadyT.cons rfl (fun K hK => ?_) AllReadyT.nil))
              · go_simp
                refine hK.out _ _ (fun _ => hkeep _ (by (repeat (first | exact c_refl _ | refine c_drew ?_ | refine c_alloc ?_ _ | refine c_row ?_ (by first | omega | exact Nat.le_refl _) _ | refine c_call ?_ (by assumption))); first | done | fail "open")) ?_
                clear hK K
                have hn1 := fun p hp => Nat.ne_of_lt ((hN2.rows p hp).lt)
                have hg1 := hN2.old.size
                have hN3 := hN2.box 35 #[.int .u64 0, .int .u64 0, .int .u64 0, .int .u64 0, .int .u64 0]
                try simp only [World.size_alloc] at hN3 hn1 hg1
                have hk1 : v3.heap.size ≤ x2.heap.size := (show Below v3.heap.size v3 x2 from (by (repeat (first | exact c_refl _ | refine c_drew ?_ | refine c_alloc ?_ _ | refine c_row ?_ (by first | omega | exact Nat.le_refl _) _ | refine c_call ?_ (by assumption))); first | done | fail "open")).size
                refine oneT 5 (by kernel_rfl) rfl (fun K hK => ?_)
                go_simp
                refine hK.out _ _ (fun _ => hkeep _ (by (repeat (first | exact c_refl _ | refine c_drew ?_ | refine c_alloc ?_ _ | refine c_row ?_ (by first | omega | exact Nat.le_refl _) _ | refine c_call ?_ (by assumption))); first | done | fail "open")) ?_
                clear hK K
                have hn2 := fun p hp => Nat.ne_of_lt ((hN3.rows p hp).lt)
                have hg2 := hN3.old.size
                have hN4 := hN3.box 35 #[.int .u64 0, .int .u64 0, .int .u64 0, .int .u64 0, .int .u64 0]
                try simp only [World.size_alloc] at hN4 hn2 hg2
                have hk2 : v3.heap.size ≤ x2.heap.size + 1 := Nat.le_trans (show Below v3.heap.size v3 x2 from (by (repeat (first | exact c_refl _ | refine c_drew ?_ | refine c_alloc ?_ _ | refine c_row ?_ (by first | omega | exact Nat.le_refl _) _ | refine c_call ?_ (by assumption))); first | done | fail "open")).size (Nat.le_succ _)
                have hsz : w.heap.size ≤ x2.heap.size + 1 + 1 := Nat.le_trans hvv3 (Nat.le_trans hk2 (Nat.le_succ _))
                have hne : (x2.heap.size : Nat) ≠ x2.heap.size + 1 := hn2 _ List.mem_cons_self
                have hset := Ms.set2 (ds := (feC AA)) (ds' := (feC BB)) (hN4.swap) hg1 hg2 hne hn1 (fun p hp => hn2 p (List.mem_cons_of_mem _ hp))
                refine oneT 6 (by kernel_rfl) rfl (fun K hK => ?_)
                refine step_store_row rfl 35 (.tmp 11) (.tmp 48) rfl (x2.heap.size) (feC AA) rfl rfl 35 _ (hN4.get 1 rfl) (sizeFe _) (fe_zero _) (one_fe _) ?_
                refine hK.out _ _ (fun _ => hkeep _ (by (repeat (first | exact c_refl _ | refine c_drew ?_ | refine c_alloc ?_ _ | refine c_row ?_ (by first | omega | exact Nat.le_refl _) _ | refine c_call ?_ (by assumption))); first | done | fail "open")) ?_
                clear hK K
                refine oneT 7 (by kernel_rfl) rfl (fun K hK => ?_)
                refine step_store_row rfl 35 (.tmp 12) (.tmp 50) rfl (x2.heap.size + 1) (feC BB) rfl rfl 35 _ ((hN4.get 0 rfl).rowFar (Ne.symm hne) _) (sizeFe _) (fe_zero _) (one_fe _) ?_
                refine hK.out _ _ (fun h => absurd rfl h) ?_
                clear hK K
                refine doneT (by kernel_rfl) ?_ _
                go_wp2_with fail
                go_meet
                exact ⟨_, _, rfl, rfl, Nat.le_trans hvv3 hk1, Nat.le_trans hvv3 hk2, by have := hsz; simp [World.setRow] at this ⊢; omega, hset⟩
              · go_simp
                refine hK.out _ _ (fun _ => hkeep _ (by (repeat (first | exact c_refl _ | refine c_drew ?_ | refine c_alloc ?_ _ | refine c_row ?_ (by first | omega | exact Nat.le_refl _) _ | refine c_call ?_ (by assumption))); first | done | fail "open")) ?_
                clear hK K
                have hn1 := fun p hp => Nat.ne_of_lt ((hN2.rows p hp).lt)
                have hg1 := hN2.old.size
                have hN3 := hN2.box 35 #[.int .u64 0, .int .u64 0, .int .u64 0, .int .u64 0, .int .u64 0]
                try simp only [World.size_alloc] at hN3 hn1 hg1
                have hk1 : v3.heap.size ≤ x2.heap.size := (show Below v3.heap.size v3 x2 from (by (repeat (first | exact c_refl _ | refine c_drew ?_ | refine c_alloc ?_ _ | refine c_row ?_ (by first | omega | exact Nat.le_refl _) _ | refine c_call ?_ (by assumption))); first | done | fail "open")).size
                refine oneT 4 (by kernel_rfl) rfl (fun K hK => ?_)
                go_simp
                refine hK.out _ _ (fun _ => hkeep _ (by (repeat (first | exact c_refl _ | refine c_drew ?_ | refine c_alloc ?_ _ | refine c_row ?_ (by first | omega | exact Nat.le_refl _) _ | refine c_call ?_ (by assumption))); first | done | fail "open")) ?_
                clear hK K
                have hn2 := fun p hp => Nat.ne_of_lt ((hN3.rows p hp).lt)
                have hg2 := hN3.old.size
                have hN4 := hN3.box 35 #[.int .u64 0, .int .u64 0, .int .u64 0, .int .u64 0, .int .u64 0]
                try simp only [World.size_alloc] at hN4 hn2 hg2
                have hk2 : v3.heap.size ≤ x2.heap.size + 1 := Nat.le_trans (show Below v3.heap.size v3 x2 from (by (repeat (first | exact c_refl _ | refine c_drew ?_ | refine c_alloc ?_ _ | refine c_row ?_ (by first | omega | exact Nat.le_refl _) _ | refine c_call ?_ (by assumption))); first | done | fail "open")).size (Nat.le_succ _)
                have hsz : w.heap.size ≤ x2.heap.size + 1 + 1 := Nat.le_trans hvv3 (Nat.le_trans hk2 (Nat.le_succ _))
                have hne : (x2.heap.size : Nat) ≠ x2.heap.size + 1 := hn2 _ List.mem_cons_self
                have hset := Ms.set2 (ds := (feC AA)) (ds' := (feC BB)) (hN4) hg2 hg1 (Ne.symm hne) (fun p hp => hn2 p (List.mem_cons_of_mem _ hp)) hn1
                refine oneT 6 (by kernel_rfl) rfl (fun K hK => ?_)
                refine step_store_row rfl 35 (.tmp 11) (.tmp 48) rfl (x2.heap.size + 1) (feC AA) rfl rfl 35 _ (hN4.get 0 rfl) (sizeFe _) (fe_zero _) (one_fe _) ?_
                refine hK.out _ _ (fun _ => hkeep _ (by (repeat (first | exact c_refl _ | refine c_drew ?_ | refine c_alloc ?_ _ | refine c_row ?_ (by first | omega | exact Nat.le_refl _) _ | refine c_call ?_ (by assumption))); first | done | fail "open")) ?_
                clear hK K
                refine oneT 7 (by kernel_rfl) rfl (fun K hK => ?_)
                refine step_store_row rfl 35 (.tmp 12) (.tmp 50) rfl (x2.heap.size) (feC BB) rfl rfl 35 _ ((hN4.get 1 rfl).rowFar hne _) (sizeFe _) (fe_zero _) (one_fe _) ?_
                refine hK.out _ _ (fun h => absurd rfl h) ?_
                clear hK K
                refine doneT (by kernel_rfl) ?_ _
                go_wp2_with fail
                go_meet
                exact ⟨_, _, rfl, rfl, Nat.le_trans hvv3 hk2, Nat.le_trans hvv3 hk1, by have := hsz; simp [World.setRow] at this ⊢; omega, hset⟩
            · go_simp
              refine hK.out _ _ (fun _ => hkeep _ (by (repeat (first | exact c_refl _ | refine c_drew ?_ | refine c_alloc ?_ _ | refine c_row ?_ (by first | omega | exact Nat.le_refl _) _ | refine c_call ?_ (by assumption))); first | done | fail "open")) ?_
              clear hK K
              have hn1 := fun p hp => Nat.ne_of_lt ((hN1.rows p hp).lt)
              have hg1 := hN1.old.size
              have hN2 := hN1.box 35 #[.int .u64 0, .int .u64 0, .int .u64 0, .int .u64 0, .int .u64 0]
              try simp only [World.size_alloc] at hN2 hn1 hg1
              have hk1 : v3.heap.size ≤ x1.heap.size := (show Below v3.heap.size v3 x1 from (by (repeat (first | exact c_refl _ | refine c_drew ?_ | refine c_alloc ?_ _ | refine c_row ?_ (by first | omega | exact Nat.le_refl _) _ | refine c_call ?_ (by assumption))); first | done | fail "open")).size
              refine readyT [3, 5] (by kernel_rfl) (by simp) (AllReadyT.cons rfl (fun K hK => ?_) (AllReadyT.cons rfl (fun K hK => ?_) AllReadyT.nil))
              · go_simp
                refine (kBB _).mono ?_
                rintro e x3 ⟨rfl, hx3⟩
                refine hK.out _ _ (fun _ => hkeep _ (by (repeat (first | exact c_refl _ | refine c_drew ?_ | refine c_alloc ?_ _ | refine c_row ?_ (by first | omega | exact Nat.le_refl _) _ | refine c_call ?_ (by assumption))); first | done | fail "open")) ?_
                clear hK K
                have hN3 := hN2.call hx3
                refine oneT 5 (by kernel_rfl) rfl (fun K hK => ?_)
                go_simp
                refine hK.out _ _ (fun _ => hkeep _ (by (repeat (first | exact c_refl _ | refine c_drew ?_ | refine c_alloc ?_ _ | refine c_row ?_ (by first | omega | exact Nat.le_refl _) _ | refine c_call ?_ (by assumption))); first | done | fail "open")) ?_
                clear hK K
                have hn2 := fun p hp => Nat.ne_of_lt ((hN3.rows p hp).lt)
                have hg2 := hN3.old.size
                have hN4 := hN3.box 35 #[.int .u64 0, .int .u64 0, .int .u64 0, .int .u64 0, .int .u64 0]
                try simp only [World.size_alloc] at hN4 hn2 hg2
                have hk2 : v3.heap.size ≤ x3.heap.size := (show Below v3.heap.size v3 x3 from (by (repeat (first | exact c_refl _ | refine c_drew ?_ | refine c_alloc ?_ _ | refine c_row ?_ (by first | omega | exact Nat.le_refl _) _ | refine c_call ?_ (by assumption))); first | done | fail "open")).size
                have hsz : w.heap.size ≤ x3.heap.size + 1 := Nat.le_trans hvv3 (Nat.le_trans hk2 (Nat.le_succ _))
                have hne : (x1.heap.size : Nat) ≠ x3.heap.size := hn2 _ List.mem_cons_self
                have hset := Ms.set2 (ds := (feC AA)) (ds' := (feC BB)) (hN4.swap) hg1 hg2 hne hn1 (fun p hp => hn2 p (List.mem_cons_of_mem _ hp))
                refine oneT 6 (by kernel_rfl) rfl (fun K hK => ?_)
                refine step_store_row rfl 35 (.tmp 11) (.tmp 48) rfl (x1.heap.size) (feC AA) rfl rfl 35 _ (hN4.get 1 rfl) (sizeFe _) (fe_zero _) (one_fe _) ?_
                refine hK.out _ _ (fun _ => hkeep _ (by (repeat (first | exact c_refl _ | refine c_drew ?_ | refine c_alloc ?_ _ | refine c_row ?_ (by first | omega | exact Nat.le_refl _) _ | refine c_call ?_ (by assumption))); first | done | fail "open")) ?_
                clear hK K
                refine oneT 7 (by kernel_rfl) rfl (fun K hK => ?_)
                refine step_store_row rfl 35 (.tmp 12) (.tmp 50) rfl (x3.heap.size) (feC BB) rfl rfl 35 _ ((hN4.get 0 rfl).rowFar (Ne.symm hne) _) (sizeFe _) (fe_zero _) (one_fe _) ?_
                refine hK.out _ _ (fun h => absurd rfl h) ?_
                clear hK K
                refine doneT (by kernel_rfl) ?_ _
                go_wp2_with fail
                go_meet
                exact ⟨_, _, rfl, rfl, Nat.le_trans hvv3 hk1, Nat.le_trans hvv3 hk2, by have := hsz; simp [World.setRow] at this ⊢; omega, hset⟩
              · go_simp
                refine hK.out _ _ (fun _ => hkeep _ (by (repeat (first | exact c_refl _ | refine c_drew ?_ | refine c_alloc ?_ _ | refine c_row ?_ (by first | omega | exact Nat.le_refl _) _ | refine c_call ?_ (by assumption))); first | done | fail "open")) ?_
                clear hK K
                have hn2 := fun p hp => Nat.ne_of_lt ((hN2.rows p hp).lt)
                have hg2 := hN2.old.size
                have hN3 := hN2.box 35 #[.int .u64 0, .int .u64 0, .int .u64 0, .int .u64 0, .int .u64 0]
                try simp only [World.size_alloc] at hN3 hn2 hg2
                have hk2 : v3.heap.size ≤ x1.heap.size + 1 := Nat.le_trans (show Below v3.heap.size v3 x1 from (by (repeat (first | exact c_refl _ | refine c_drew ?_ | refine c_alloc ?_ _ | refine c_row ?_ (by first | omega | exact Nat.le_refl _) _ | refine c_call ?_ (by assumption))); first | done | fail "open")).size (Nat.le_succ _)
                refine oneT 3 (by kernel_rfl) rfl (fun K hK => ?_)
                go_simp
                refine (kBB _).mono ?_
                rintro e x4 ⟨rfl, hx4⟩
                refine hK.out _ _ (fun _ => hkeep _ (by (repeat (first | exact c_refl _ | refine c_drew ?_ | refine c_alloc ?_ _ | refine c_row ?_ (by first | omega | exact Nat.le_refl _) _ | refine c_call ?_ (by assumption))); first | done | fail "open")) ?_
                clear hK K
                have hN4 := hN3.call hx4
                have hsz : w.heap.size ≤ x4.heap.size := Nat.le_trans hvv3 (show Below v3.heap.size v3 x4 from (by (repeat (first | exact c_refl _ | refine c_drew ?_ | refine c_alloc ?_ _ | refine c_row ?_ (by first | omega | exact Nat.le_refl _) _ | refine c_call ?_ (by assumption))); first | done | fail "open")).size
                have hne : (x1.heap.size : Nat) ≠ x1.heap.size + 1 := hn2 _ List.mem_cons_self
                have hset := Ms.set2 (ds := (feC AA)) (ds' := (feC BB)) (hN4.swap) hg1 hg2 hne hn1 (fun p hp => hn2 p (List.mem_cons_of_mem _ hp))
                refine oneT 6 (by kernel_rfl) rfl (fun K hK => ?_)
                refine step_store_row rfl 35 (.tmp 11) (.tmp 48) rfl (x1.heap.size) (feC AA) rfl rfl 35 _ (hN4.get 1 rfl) (sizeFe _) (fe_zero _) (one_fe _) ?_
                refine hK.out _ _ (fun _ => hkeep _ (by (repeat (first | exact c_refl _ | refine c_drew ?_ | refine c_alloc ?_ _ | refine c_row ?_ (by first | omega | exact Nat.le_refl _) _ | refine c_call ?_ (by assumption))); first | done | fail "open")) ?_
                clear hK K
                refine oneT 7 (by kernel_rfl) rfl (fun K hK => ?_)
                refine step_store_row rfl 35 (.tmp 12) (.tmp 50) rfl (x1.heap.size + 1) (feC BB) rfl rfl 35 _ ((hN4.get 0 rfl).rowFar (Ne.symm hne) _) (sizeFe _) (fe_zero _) (one_fe _) ?_
                refine hK.out _ _ (fun h => absurd rfl h) ?_
                clear hK K
                refine doneT (by kernel_rfl) ?_ _
                go_wp2_with fail
                go_meet
                exact ⟨_, _, rfl, rfl, Nat.le_trans hvv3 hk1, Nat.le_trans hvv3 hk2, by have := hsz; simp [World.setRow] at this ⊢; omega, hset⟩
            · go_simp
              refine hK.out _ _ (fun _ => hkeep _ (by (repeat (first | exact c_refl _ | refine c_drew ?_ | refine c_alloc ?_ _ | refine c_row ?_ (by first | omega | exact Nat.le_refl _) _ | refine c_call ?_ (by assumption))); first | done | fail "open")) ?_
              clear hK K
              have hn1 := fun p hp => Nat.ne_of_lt ((hN1.rows p hp).lt)
              have hg1 := hN1.old.size
              have hN2 := hN1.box 35 #[.int .u64 0, .int .u64 0, .int .u64 0, .int .u64 0, .int .u64 0]
              try simp only [World.size_alloc] at hN2 hn1 hg1
              have hk1 : v3.heap.size ≤ x1.heap.size := (show Below v3.heap.size v3 x1 from (by (repeat (first | exact c_refl _ | refine c_drew ?_ | refine c_alloc ?_ _ | refine c_row ?_ (by first | omega | exact Nat.le_refl _) _ | refine c_call ?_ (by assumption))); first | done | fail "open")).size
              refine readyT [3, 4] (by kernel_rfl) (by simp) (AllReadyT.cons rfl (fun K hK => ?_) (AllReadyT.cons rfl (fun K hK => ?_) AllReadyT.nil))
              · go_simp
                refine (kBB _).mono ?_
                rintro e x3 ⟨rfl, hx3⟩
                refine hK.out _ _ (fun _ => hkeep _ (by (repeat (first | exact c_refl _ | refine c_drew ?_ | refine c_alloc ?_ _ | refine c_row ?_ (by first | omega | exact Nat.le_refl _) _ | refine c_call ?_ (by assumption))); first | done | fail "open")) ?_
                clear hK K
                have hN3 := hN2.call hx3
                refine oneT 4 (by kernel_rfl) rfl (fun K hK => ?_)
                go_simp
                refine hK.out _ _ (fun _ => hkeep _ (by (repeat (first | exact c_refl _ | refine c_drew ?_ | refine c_alloc ?_ _ | refine c_row ?_ (by first | omega | exact Nat.le_refl _) _ | refine c_call ?_ (by assumption))); first | done | fail "open")) ?_
                clear hK K
                have hn2 := fun p hp => Nat.ne_of_lt ((hN3.rows p hp).lt)
                have hg2 := hN3.old.size
                have hN4 := hN3.box 35 #[.int .u64 0, .int .u64 0, .int .u64 0, .int .u64 0, .int .u64 0]
                try simp only [World.size_alloc] at hN4 hn2 hg2
                have hk2 : v3.heap.size ≤ x3.heap.size := (show Below v3.heap.size v3 x3 from (by (repeat (first | exact c_refl _ | refine c_drew ?_ | refine c_alloc ?_ _ | refine c_row ?_ (by first | omega | exact Nat.le_refl _) _ | refine c_call ?_ (by assumption))); first | done | fail "open")).size
                have hsz : w.heap.size ≤ x3.heap.size + 1 := Nat.le_trans hvv3 (Nat.le_trans hk2 (Nat.le_succ _))
                have hne : (x1.heap.size : Nat) ≠ x3.heap.size := hn2 _ List.mem_cons_self
                have hset := Ms.set2 (ds := (feC AA)) (ds' := (feC BB)) (hN4) hg2 hg1 (Ne.symm hne) (fun p hp => hn2 p (List.mem_cons_of_mem _ hp)) hn1
                refine oneT 6 (by kernel_rfl) rfl (fun K hK => ?_)
                refine step_store_row rfl 35 (.tmp 11) (.tmp 48) rfl (x3.heap.size) (feC AA) rfl rfl 35 _ (hN4.get 0 rfl) (sizeFe _) (fe_zero _) (one_fe _) ?_
                refine hK.out _ _ (fun _ => hkeep _ (by (repeat (first | exact c_refl _ | refine c_drew ?_ | refine c_alloc ?_ _ | refine c_row ?_ (by first | omega | exact Nat.le_refl _) _ | refine c_call ?_ (by assumption))); first | done | fail "open")) ?_
                clear hK K
                refine oneT 7 (by kernel_rfl) rfl (fun K hK => ?_)
                refine step_store_row rfl 35 (.tmp 12) (.tmp 50) rfl (x1.heap.size) (feC BB) rfl rfl 35 _ ((hN4.get 1 rfl).rowFar hne _) (sizeFe _) (fe_zero _) (one_fe _) ?_
                refine hK.out _ _ (fun h => absurd rfl h) ?_
                clear hK K
                refine doneT (by kernel_rfl) ?_ _
                go_wp2_with fail
                go_meet
                exact ⟨_, _, rfl, rfl, Nat.le_trans hvv3 hk2, Nat.le_trans hvv3 hk1, by have := hsz; simp [World.setRow] at this ⊢; omega, hset⟩
              · go_simp
                refine hK.out _ _ (fun _ => hkeep _ (by (repeat (first | exact c_refl _ | refine c_drew ?_ | refine c_alloc ?_ _ | refine c_row ?_ (by first | omega | exact Nat.le_refl _) _ | refine c_call ?_ (by assumption))); first | done | fail "open")) ?_
                clear hK K
                have hn2 := fun p hp => Nat.ne_of_lt ((hN2.rows p hp).lt)
                have hg2 := hN2.old.size
                have hN3 := hN2.box 35 #[.int .u64 0, .int .u64 0, .int .u64 0, .int .u64 0, .int .u64 0]
                try simp only [World.size_alloc] at hN3 hn2 hg2
                have hk2 : v3.heap.size ≤ x1.heap.size + 1 := Nat.le_trans (show Below v3.heap.size v3 x1 from (by (repeat (first | exact c_refl _ | refine c_drew ?_ | refine c_alloc ?_ _ | refine c_row ?_ (by first | omega | exact Nat.le_refl _) _ | refine c_call ?_ (by assumption))); first | done | fail "open")).size (Nat.le_succ _)
                refine oneT 3 (by kernel_rfl) rfl (fun K hK => ?_)
                go_simp
                refine (kBB _).mono ?_
                rintro e x4 ⟨rfl, hx4⟩
                refine hK.out _ _ (fun _ => hkeep _ (by (repeat (first | exact c_refl _ | refine c_drew ?_ | refine c_alloc ?_ _ | refine c_row ?_ (by first | omega | exact Nat.le_refl _) _ | refine c_call ?_ (by assumption))); first | done | fail "open")) ?_
                clear hK K
                have hN4 := hN3.call hx4
                have hsz : w.heap.size ≤ x4.heap.size := Nat.le_trans hvv3 (show Below v3.heap.size v3 x4 from (by (repeat (first | exact c_refl _ | refine c_drew ?_ | refine c_alloc ?_ _ | refine c_row ?_ (by first | omega | exact Nat.le_refl _) _ | refine c_call ?_ (by assumption))); first | done | fail "open")).size
                have hne : (x1.heap.size : Nat) ≠ x1.heap.size + 1 := hn2 _ List.mem_cons_self
                have hset := Ms.set2 (ds := (feC AA)) (ds' := (feC BB)) (hN4) hg2 hg1 (Ne.symm hne) (fun p hp => hn2 p (List.mem_cons_of_mem _ hp)) hn1
                refine oneT 6 (by kernel_rfl) rfl (fun K hK => ?_)
                refine step_store_row rfl 35 (.tmp 11) (.tmp 48) rfl (x1.heap.size + 1) (feC AA) rfl rfl 35 _ (hN4.get 0 rfl) (sizeFe _) (fe_zero _) (one_fe _) ?_
                refine hK.out _ _ (fun _ => hkeep _ (by (repeat (first | exact c_refl _ | refine c_drew ?_ | refine c_alloc ?_ _ | refine c_row ?_ (by first | omega | exact Nat.le_refl _) _ | refine c_call ?_ (by assumption))); first | done | fail "open")) ?_
                clear hK K
                refine oneT 7 (by kernel_rfl) rfl (fun K hK => ?_)
                refine step_store_row rfl 35 (.tmp 12) (.tmp 50) rfl (x1.heap.size) (feC BB) rfl rfl 35 _ ((hN4.get 1 rfl).rowFar hne _) (sizeFe _) (fe_zero _) (one_fe _) ?_
                refine hK.out _ _ (fun h => absurd rfl h) ?_
                clear hK K
                refine doneT (by kernel_rfl) ?_ _
                go_wp2_with fail
                go_meet
                exact ⟨_, _, rfl, rfl, Nat.le_trans hvv3 hk2, Nat.le_trans hvv3 hk1, by have := hsz; simp [World.setRow] at this ⊢; omega, hset⟩
          · go_simp
            refine hK.out _ _ (fun _ => hkeep _ (by (repeat (first | exact c_refl _ | refine c_drew ?_ | refine c_alloc ?_ _ | refine c_row ?_ (by first | omega | exact Nat.le_refl _) _ | refine c_call ?_ (by assumption))); first | done | fail "open")) ?_
            clear hK K
            have hn1 := fun p hp => Nat.ne_of_lt ((hD.rows p hp).lt)
            have hg1 := hD.old.size
            have hN1 := hD.box 35 #[.int .u64 0, .int .u64 0, .int .u64 0, .int .u64 0, .int .u64 0]
            try simp only [World.size_alloc] at hN1 hn1 hg1
            have hk1 : v3.heap.size ≤ v3.heap.size := Nat.le_refl _
            refine readyT [1, 5] (by kernel_rfl) (by simp) (AllReadyT.cons rfl (fun K hK => ?_) (AllReadyT.cons rfl (fun K hK => ?_) AllReadyT.nil))
            · go_simp
              refine (kAA _).mono ?_
              rintro e x2 ⟨rfl, hx2⟩
              refine hK.out _ _ (fun _ => hkeep _ (by (repeat (first | exact c_refl _ | refine c_drew ?_ | refine c_alloc ?_ _ | refine c_row ?_ (by first | omega | exact Nat.le_refl _) _ | refine c_call ?_ (by assumption))); first | done | fail "open")) ?_
              clear hK K
              have hN2 := hN1.call hx2
              refine readyT [3, 5] (by kernel_rfl) (by simp) (AllReadyT.cons rfl (fun K hK => ?_) (AllReadyT.cons rfl (fun K hK => ?_) AllReadyT.nil))
              · go_simp
                refine (kBB _).mono ?_
                rintro e x3 ⟨rfl, hx3⟩
                refine hK.out _ _ (fun _ => hkeep _ (by (repeat (first | exact c_refl _ | refine c_drew ?_ | refine c_alloc ?_ _ | refine c_row ?_ (by first | omega | exact Nat.le_refl _) _ | refine c_call ?_ (by assumption))); first | done | fail "open")) ?_
                clear hK K
                have hN3 := hN2.call hx3
                refine oneT 5 (by kernel_rfl) rfl (fun K hK => ?_)
                go_simp
                refine hK.out _ _ (fun _ => hkeep _ (by (repeat (first | exact c_refl _ | refine c_drew ?_ | refine c_alloc ?_ _ | refine c_row ?_ (by first | omega | exact Nat.le_refl _) _ | refine c_call ?_ (by assumption))); first | done | fail "open")) ?_
                clear hK K
                have hn2 := fun p hp => Nat.ne_of_lt ((hN3.rows p hp).lt)
                have hg2 := hN3.old.size
                have hN4 := hN3.box 35 #[.int .u64 0, .int .u64 0, .int .u64 0, .int .u64 0, .int .u64 0]
                try simp only [World.size_alloc] at hN4 hn2 hg2
                have hk2 : v3.heap.size ≤ x3.heap.size := (show Below v3.heap.size v3 x3 from (by (repeat (first | exact c_refl _ | refine c_drew ?_ | refine c_alloc ?_ _ | refine c_row ?_ (by first | omega | exact Nat.le_refl _) _ | refine c_call ?_ (by assumption))); first | done | fail "open")).size
                have hsz : w.heap.size ≤ x3.heap.size + 1 := Nat.le_trans hvv3 (Nat.le_trans hk2 (Nat.le_succ _))
                have hne : (v3.heap.size : Nat) ≠ x3.heap.size := hn2 _ List.mem_cons_self
                have hset := Ms.set2 (ds := (feC AA)) (ds' := (feC BB)) (hN4.swap) hg1 hg2 hne hn1 (fun p hp => hn2 p (List.mem_cons_of_mem _ hp))
                refine oneT 6 (by kernel_rfl) rfl (fun K hK => ?_)
                refine step_store_row rfl 35 (.tmp 11) (.tmp 48) rfl (v3.heap.size) (feC AA) rfl rfl 35 _ (hN4.get 1 rfl) (sizeFe _) (fe_zero _) (one_fe _) ?_
                refine hK.out _ _ (fun _ => hkeep _ (by (repeat (first | exact c_refl _ | refine c_drew ?_ | refine c_alloc ?_ _ | refine c_row ?_ (by first | omega | exact Nat.le_refl _) _ | refine c_call ?_ (by assumption))); first | done | fail "open")) ?_
                clear hK K
                refine oneT 7 (by kernel_rfl) rfl (fun K hK => ?_)
                refine step_store_row rfl 35 (.tmp 12) (.tmp 50) rfl (x3.heap.size) (feC BB) rfl rfl 35 _ ((hN4.get 0 rfl).rowFar (Ne.symm hne) _) (sizeFe _) (fe_zero _) (one_fe _) ?_
                refine hK.out _ _ (fun h => absurd rfl h) ?_
                clear hK K
                refine doneT (by kernel_rfl) ?_ _
                go_wp2_with fail
                go_meet
                exact ⟨_, _, rfl, rfl, Nat.le_trans hvv3 hk1, Nat.le_trans hvv3 hk2, by have := hsz; simp [World.setRow] at this ⊢; omega, hset⟩
              · go_simp
                refine hK.out _ _ (fun _ => hkeep _ (by (repeat (first | exact c_refl _ | refine c_drew ?_ | refine c_alloc ?_ _ | refine c_row ?_ (by first | omega | exact Nat.le_refl _) _ | refine c_call ?_ (by assumption))); first | done | fail "open")) ?_
                clear hK K
                have hn2 := fun p hp => Nat.ne_of_lt ((hN2.rows p hp).lt)
                have hg2 := hN2.old.size
                have hN3 := hN2.box 35 #[.int .u64 0, .int .u64 0, .int .u64 0, .int .u64 0, .int .u64 0]
                try simp only [World.size_alloc] at hN3 hn2 hg2
                have hk2 : v3.heap.size ≤ x2.heap.size := (show Below v3.heap.size v3 x2 from (by (repeat (first | exact c_refl _ | refine c_drew ?_ | refine c_alloc ?_ _ | refine c_row ?_ (by first | omega | exact Nat.le_refl _) _ | refine c_call ?_ (by assumption))); first | done | fail "open")).size
                refine oneT 3 (by kernel_rfl) rfl (fun K hK => ?_)
                go_simp
                refine (kBB _).mono ?_
                rintro e x4 ⟨rfl, hx4⟩
                refine hK.out _ _ (fun _ => hkeep _ (by (repeat (first | exact c_refl _ | refine c_drew ?_ | refine c_alloc ?_ _ | refine c_row ?_ (by first | omega | exact Nat.le_refl _) _ | refine c_call ?_ (by assumption))); first | done | fail "open")) ?_
                clear hK K
                have hN4 := hN3.call hx4
                have hsz : w.heap.size ≤ x4.heap.size := Nat.le_trans hvv3 (show Below v3.heap.size v3 x4 from (by (repeat (first | exact c_refl _ | refine c_drew ?_ | refine c_alloc ?_ _ | refine c_row ?_ (by first | omega | exact Nat.le_refl _) _ | refine c_call ?_ (by assumption))); first | done | fail "open")).size
                have hne : (v3.heap.size : Nat) ≠ x2.heap.size := hn2 _ List.mem_cons_self
                have hset := Ms.set2 (ds := (feC AA)) (ds' := (feC BB)) (hN4.swap) hg1 hg2 hne hn1 (fun p hp => hn2 p (List.mem_cons_of_mem _ hp))
                refine oneT 6 (by kernel_rfl) rfl (fun K hK => ?_)
                refine step_store_row rfl 35 (.tmp 11) (.tmp 48) rfl (v3.heap.size) (feC AA) rfl rfl 35 _ (hN4.get 1 rfl) (sizeFe _) (fe_zero _) (one_fe _) ?_
                refine hK.out _ _ (fun _ => hkeep _ (by (repeat (first | exact c_refl _ | refine c_drew ?_ | refine c_alloc ?_ _ | refine c_row ?_ (by first | omega | exact Nat.le_refl _) _ | refine c_call ?_ (by assumption))); first | done | fail "open")) ?_
                clear hK K
                refine oneT 7 (by kernel_rfl) rfl (fun K hK => ?_)
                refine step_store_row rfl 35 (.tmp 12) (.tmp 50) rfl (x2.heap.size) (feC BB) rfl rfl 35 _ ((hN4.get 0 rfl).rowFar (Ne.symm hne) _) (sizeFe _) (fe_zero _) (one_fe _) ?_
                refine hK.out _ _ (fun h => absurd rfl h) ?_
                clear hK K
                refine doneT (by kernel_rfl) ?_ _
                go_wp2_with fail
                go_meet
                exact ⟨_, _, rfl, rfl, Nat.le_trans hvv3 hk1, Nat.le_trans hvv3 hk2, by have := hsz; simp [World.setRow] at this ⊢; omega, hset⟩
            · go_simp
              refine hK.out _ _ (fun _ => hkeep _ (by (repeat (first | exact c_refl _ | refine c_drew ?_ | refine c_alloc ?_ _ | refine c_row ?_ (by first | omega | exact Nat.le_refl _) _ | refine c_call ?_ (by assumption))); first | done | fail "open")) ?_
              clear hK K
              have hn2 := fun p hp => Nat.ne_of_lt ((hN1.rows p hp).lt)
              have hg2 := hN1.old.size
              have hN2 := hN1.box 35 #[.int .u64 0, .int .u64 0, .int .u64 0, .int .u64 0, .int .u64 0]
              try simp only [World.size_alloc] at hN2 hn2 hg2
              have hk2 : v3.heap.size ≤ v3.heap.size + 1 := Nat.le_succ _
              refine oneT 1 (by kernel_rfl) rfl (fun K hK => ?_)
              go_simp
              refine (kAA _).mono ?_
              rintro e x3 ⟨rfl, hx3⟩
              refine hK.out _ _ (fun _ => hkeep _ (by (repeat (first | exact c_refl _ | refine c_drew ?_ | refine c_alloc ?_ _ | refine c_row ?_ (by first | omega | exact Nat.le_refl _) _ | refine c_call ?_ (by assumption))); first | done | fail "open")) ?_
              clear hK K
              have hN3 := hN2.call hx3
              refine oneT 3 (by kernel_rfl) rfl (fun K hK => ?_)
              go_simp
              refine (kBB _).mono ?_
              rintro e x4 ⟨rfl, hx4⟩
              refine hK.out _ _ (fun _ => hkeep _ (by (repeat (first | exact c_refl _ | refine c_drew ?_ | refine c_alloc ?_ _ | refine c_row ?_ (by first | omega | exact Nat.le_refl _) _ | refine c_call ?_ (by assumption))); first | done | fail "open")) ?_
              clear hK K
              have hN4 := hN3.call hx4
              have hsz : w.heap.size ≤ x4.heap.size := Nat.le_trans hvv3 (show Below v3.heap.size v3 x4 from (by (repeat (first | exact c_refl _ | refine c_drew ?_ | refine c_alloc ?_ _ | refine c_row ?_ (by first | omega | exact Nat.le_refl _) _ | refine c_call ?_ (by assumption))); first | done | fail "open")).size
              have hne : (v3.heap.size : Nat) ≠ v3.heap.size + 1 := hn2 _ List.mem_cons_self
              have hset := Ms.set2 (ds := (feC AA)) (ds' := (feC BB)) (hN4.swap) hg1 hg2 hne hn1 (fun p hp => hn2 p (List.mem_cons_of_mem _ hp))
              refine oneT 6 (by kernel_rfl) rfl (fun K hK => ?_)
              refine step_store_row rfl 35 (.tmp 11) (.tmp 48) rfl (v3.heap.size) (feC AA) rfl rfl 35 _ (hN4.get 1 rfl) (sizeFe _) (fe_zero _) (one_fe _) ?_
              refine hK.out _ _ (fun _ => hkeep _ (by (repeat (first | exact c_refl _ | refine c_drew ?_ | refine c_alloc ?_ _ | refine c_row ?_ (by first | omega | exact Nat.le_refl _) _ | refine c_call ?_ (by assumption))); first | done | fail "open")) ?_
              clear hK K
              refine oneT 7 (by kernel_rfl) rfl (fun K hK => ?_)
              refine step_store_row rfl 35 (.tmp 12) (.tmp 50) rfl (v3.heap.size + 1) (feC BB) rfl rfl 35 _ ((hN4.get 0 rfl).rowFar (Ne.symm hne) _) (sizeFe _) (fe_zero _) (one_fe _) ?_
              refine hK.out _ _ (fun h => absurd rfl h) ?_
              clear hK K
              refine doneT (by kernel_rfl) ?_ _
              go_wp2_with fail
              go_meet
              exact ⟨_, _, rfl, rfl, Nat.le_trans hvv3 hk1, Nat.le_trans hvv3 hk2, by have := hsz; simp [World.setRow] at this ⊢; omega, hset⟩
          · go_simp
            refine hK.out _ _ (fun _ => hkeep _ (by (repeat (first | exact c_refl _ | refine c_drew ?_ | refine c_alloc ?_ _ | refine c_row ?_ (by first | omega | exact Nat.le_refl _) _ | refine c_call ?_ (by assumption))); first | done | fail "open")) ?_
            clear hK K
            have hn1 := fun p hp => Nat.ne_of_lt ((hD.rows p hp).lt)
            have hg1 := hD.old.size
            have hN1 := hD.box 35 #[.int .u64 0, .int .u64 0, .int .u64 0, .int .u64 0, .int .u64 0]
            try simp only [World.size_alloc] at hN1 hn1 hg1
            have hk1 : v3.heap.size ≤ v3.heap.size := Nat.le_refl _
            refine readyT [1, 4] (by kernel_rfl) (by simp) (AllReadyT.cons rfl (fun K hK => ?_) (AllReadyT.cons rfl (fun K hK => ?_) AllReadyT.nil))
            · go_simp
              refine (kAA _).mono ?_
              rintro e x2 ⟨rfl, hx2⟩
              refine hK.out _ _ (fun _ => hkeep _ (by (repeat (first | exact c_refl _ | refine c_drew ?_ | refine c_alloc ?_ _ | refine c_row ?_ (by first | omega | exact Nat.le_refl _) _ | refine c_call ?_ (by assumption))); first | done | fail "open")) ?_
              clear hK K
              have hN2 := hN1.call hx2
              refine readyT [3, 4] (by kernel_rfl) (by simp) (AllReadyT.cons rfl (fun K hK => ?_) (AllReadyT.cons rfl (fun K hK => ?_) AllReadyT.nil))
              · go_simp
                refine (kBB _).mono ?_
                rintro e x3 ⟨rfl, hx3⟩
                refine hK.out _ _ (fun _ => hkeep _ (by (repeat (first | exact c_refl _ | refine c_drew ?_ | refine c_alloc ?_ _ | refine c_row ?_ (by first | omega | exact Nat.le_refl _) _ | refine c_call ?_ (by assumption))); first | done | fail "open")) ?_
                clear hK K
                have hN3 := hN2.call hx3
                refine oneT 4 (by kernel_rfl) rfl (fun K hK => ?_)
                go_simp
                refine hK.out _ _ (fun _ => hkeep _ (by (repeat (first | exact c_refl _ | refine c_drew ?_ | refine c_alloc ?_ _ | refine c_row ?_ (by first | omega | exact Nat.le_refl _) _ | refine c_call ?_ (by assumption))); first | done | fail "open")) ?_
                clear hK K
                have hn2 := fun p hp => Nat.ne_of_lt ((hN3.rows p hp).lt)
                have hg2 := hN3.old.size
                have hN4 := hN3.box 35 #[.int .u64 0, .int .u64 0, .int .u64 0, .int .u64 0, .int .u64 0]
                try simp only [World.size_alloc] at hN4 hn2 hg2
                have hk2 : v3.heap.size ≤ x3.heap.size := (show Below v3.heap.size v3 x3 from (by (repeat (first | exact c_refl _ | refine c_drew ?_ | refine c_alloc ?_ _ | refine c_row ?_ (by first | omega | exact Nat.le_refl _) _ | refine c_call ?_ (by assumption))); first | done | fail "open")).size
                have hsz : w.heap.size ≤ x3.heap.size + 1 := Nat.le_trans hvv3 (Nat.le_trans hk2 (Nat.le_succ _))
                have hne : (v3.heap.size : Nat) ≠ x3.heap.size := hn2 _ List.mem_cons_self
                have hset := Ms.set2 (ds := (feC AA)) (ds' := (feC BB)) (hN4) hg2 hg1 (Ne.symm hne) (fun p hp => hn2 p (List.mem_cons_of_mem _ hp)) hn1
                refine oneT 6 (by kernel_rfl) rfl (fun K hK => ?_)
                refine step_store_row rfl 35 (.tmp 11) (.tmp 48) rfl (x3.heap.size) (feC AA) rfl rfl 35 _ (hN4.get 0 rfl) (sizeFe _) (fe_zero _) (one_fe _) ?_
                refine hK.out _ _ (fun _ => hkeep _ (by (repeat (first | exact c_refl _ | refine c_drew ?_ | refine c_alloc ?_ _ | refine c_row ?_ (by first | omega | exact Nat.le_refl _) _ | refine c_call ?_ (by assumption))); first | done | fail "open")) ?_
                clear hK K
                refine oneT 7 (by kernel_rfl) rfl (fun K hK => ?_)
                refine step_store_row rfl 35 (.tmp 12) (.tmp 50) rfl (v3.heap.size) (feC BB) rfl rfl 35 _ ((hN4.get 1 rfl).rowFar hne _) (sizeFe _) (fe_zero _) (one_fe _) ?_
                refine hK.out _ _ (fun h => absurd rfl h) ?_
                clear hK K
                refine doneT (by kernel_rfl) ?_ _
                go_wp2_with fail
                go_meet
                exact ⟨_, _, rfl, rfl, Nat.le_trans hvv3 hk2, Nat.le_trans hvv3 hk1, by have := hsz; simp [World.setRow] at this ⊢; omega, hset⟩
              · go_simp
                refine hK.out _ _ (fun _ => hkeep _ (by (repeat (first | exact c_refl _ | refine c_drew ?_ | refine c_alloc ?_ _ | refine c_row ?_ (by first | omega | exact Nat.le_refl _) _ | refine c_call ?_ (by assumption))); first | done | fail "open")) ?_
                clear hK K
                have hn2 := fun p hp => Nat.ne_of_lt ((hN2.rows p hp).lt)
                have hg2 := hN2.old.size
                have hN3 := hN2.box 35 #[.int .u64 0, .int .u64 0, .int .u64 0, .int .u64 0, .int .u64 0]
                try simp only [World.size_alloc] at hN3 hn2 hg2
                have hk2 : v3.heap.size ≤ x2.heap.size := (show Below v3.heap.size v3 x2 from (by (repeat (first | exact c_refl _ | refine c_drew ?_ | refine c_alloc ?_ _ | refine c_row ?_ (by first | omega | exact Nat.le_refl _) _ | refine c_call ?_ (by assumption))); first | done | fail "open")).size
                refine oneT 3 (by kernel_rfl) rfl (fun K hK => ?_)
                go_simp
                refine (kBB _).mono ?_
                rintro e x4 ⟨rfl, hx4⟩
                refine hK.out _ _ (fun _ => hkeep _ (by (repeat (first | exact c_refl _ | refine c_drew ?_ | refine c_alloc ?_ _ | refine c_row ?_ (by first | omega | exact Nat.le_refl _) _ | refine c_call ?_ (by assumption))); first | done | fail "open")) ?_
                clear hK K
                have hN4 := hN3.call hx4
                have hsz : w.heap.size ≤ x4.heap.size := Nat.le_trans hvv3 (show Below v3.heap.size v3 x4 from (by (repeat (first | exact c_refl _ | refine c_drew ?_ | refine c_alloc ?_ _ | refine c_row ?_ (by first | omega | exact Nat.le_refl _) _ | refine c_call ?_ (by assumption))); first | done | fail "open")).size
                have hne : (v3.heap.size : Nat) ≠ x2.heap.size := hn2 _ List.mem_cons_self
                have hset := Ms.set2 (ds := (feC AA)) (ds' := (feC BB)) (hN4) hg2 hg1 (Ne.symm hne) (fun p hp => hn2 p (List.mem_cons_of_mem _ hp)) hn1
                refine oneT 6 (by kernel_rfl) rfl (fun K hK => ?_)
                refine step_store_row rfl 35 (.tmp 11) (.tmp 48) rfl (x2.heap.size) (feC AA) rfl rfl 35 _ (hN4.get 0 rfl) (sizeFe _) (fe_zero _) (one_fe _) ?_
                refine hK.out _ _ (fun _ => hkeep _ (by (repeat (first | exact c_refl _ | refine c_drew ?_ | refine c_alloc ?_ _ | refine c_row ?_ (by first | omega | exact Nat.le_refl _) _ | refine c_call ?_ (by assumption))); first | done | fail "open")) ?_
                clear hK K
                refine oneT 7 (by kernel_rfl) rfl (fun K hK => ?_)
                refine step_store_row rfl 35 (.tmp 12) (.tmp 50) rfl (v3.heap.size) (feC BB) rfl rfl 35 _ ((hN4.get 1 rfl).rowFar hne _) (sizeFe _) (fe_zero _) (one_fe _) ?_
                refine hK.out _ _ (fun h => absurd rfl h) ?_
                clear hK K
                refine doneT (by kernel_rfl) ?_ _
                go_wp2_with fail
                go_meet
                exact ⟨_, _, rfl, rfl, Nat.le_trans hvv3 hk2, Nat.le_trans hvv3 hk1, by have := hsz; simp [World.setRow] at this ⊢; omega, hset⟩
            · go_simp
              refine hK.out _ _ (fun _ => hkeep _ (by (repeat (first | exact c_refl _ | refine c_drew ?_ | refine c_alloc ?_ _ | refine c_row ?_ (by first | omega | exact Nat.le_refl _) _ | refine c_call ?_ (by assumption))); first | done | fail "open")) ?_
              clear hK K
              have hn2 := fun p hp => Nat.ne_of_lt ((hN1.rows p hp).lt)
              have hg2 := hN1.old.size
              have hN2 := hN1.box 35 #[.int .u64 0, .int .u64 0, .int .u64 0, .int .u64 0, .int .u64 0]
              try simp only [World.size_alloc] at hN2 hn2 hg2
              have hk2 : v3.heap.size ≤ v3.heap.size + 1 := Nat.le_succ _
              refine oneT 1 (by kernel_rfl) rfl (fun K hK => ?_)
              go_simp
              refine (kAA _).mono ?_
              rintro e x3 ⟨rfl, hx3⟩
              refine hK.out _ _ (fun _ => hkeep _ (by (repeat (first | exact c_refl _ | refine c_drew ?_ | refine c_alloc ?_ _ | refine c_row ?_ (by first | omega | exact Nat.le_refl _) _ | refine c_call ?_ (by assumption))); first | done | fail "open")) ?_
              clear hK K
              have hN3 := hN2.call hx3
              refine oneT 3 (by kernel_rfl) rfl (fun K hK => ?_)
              go_simp
              refine (kBB _).mono ?_
              rintro e x4 ⟨rfl, hx4⟩
              refine hK.out _ _ (fun _ => hkeep _ (by (repeat (first | exact c_refl _ | refine c_drew ?_ | refine c_alloc ?_ _ | refine c_row ?_ (by first | omega | exact Nat.le_refl _) _ | refine c_call ?_ (by assumption))); first | done | fail "open")) ?_
              clear hK K
              have hN4 := hN3.call hx4
              have hsz : w.heap.size ≤ x4.heap.size := Nat.le_trans hvv3 (show Below v3.heap.size v3 x4 from (by (repeat (first | exact c_refl _ | refine c_drew ?_ | refine c_alloc ?_ _ | refine c_row ?_ (by first | omega | exact Nat.le_refl _) _ | refine c_call ?_ (by assumption))); first | done | fail "open")).size
              have hne : (v3.heap.size : Nat) ≠ v3.heap.size + 1 := hn2 _ List.mem_cons_self
              have hset := Ms.set2 (ds := (feC AA)) (ds' := (feC BB)) (hN4) hg2 hg1 (Ne.symm hne) (fun p hp => hn2 p (List.mem_cons_of_mem _ hp)) hn1
              refine oneT 6 (by kernel_rfl) rfl (fun K hK => ?_)
              refine step_store_row rfl 35 (.tmp 11) (.tmp 48) rfl (v3.heap.size + 1) (feC AA) rfl rfl 35 _ (hN4.get 0 rfl) (sizeFe _) (fe_zero _) (one_fe _) ?_
              refine hK.out _ _ (fun _ => hkeep _ (by (repeat (first | exact c_refl _ | refine c_drew ?_ | refine c_alloc ?_ _ | refine c_row ?_ (by first | omega | exact Nat.le_refl _) _ | refine c_call ?_ (by assumption))); first | done | fail "open")) ?_
              clear hK K
              refine oneT 7 (by kernel_rfl) rfl (fun K hK => ?_)
              refine step_store_row rfl 35 (.tmp 12) (.tmp 50) rfl (v3.heap.size) (feC BB) rfl rfl 35 _ ((hN4.get 1 rfl).rowFar hne _) (sizeFe _) (fe_zero _) (one_fe _) ?_
              refine hK.out _ _ (fun h => absurd rfl h) ?_
              clear hK K
              refine doneT (by kernel_rfl) ?_ _
              go_wp2_with fail
              go_meet
              exact ⟨_, _, rfl, rfl, Nat.le_trans hvv3 hk2, Nat.le_trans hvv3 hk1, by have := hsz; simp [World.setRow] at this ⊢; omega, hset⟩
        case rest =>
          obtain ⟨gAA, gBB, rfl, rfl, hggAA, hggBB, hsc4, hMc4⟩ := hcut
          clear hMvv3
          go_wp2_with (first
            | ((with_reducible show wpList _ _ _ (⟨some 51, _, _, _, _, _⟩ :: _) _ _); refine wpList_loadC (by kernel_rfl) 35 (.tmp 11) rfl (gAA) rfl 35 (feC AA) _ (hMc4.get 0 rfl) Try.underlying35 rfl (sizeFe _) ?_)
            | ((with_reducible show wpList _ _ _ (⟨some 52, _, _, _, _, _⟩ :: _) _ _); refine wpList_loadC (by kernel_rfl) 35 (.tmp 12) rfl (gBB) rfl 35 (feC BB) _ (hMc4.get 1 rfl) Try.underlying35 rfl (sizeFe _) ?_))
          refine (kE _).mono ?_
          rintro e w2 ⟨rfl, hb2⟩
          have hM2 := hMc4.call hb2
          have hv2 : w.heap.size ≤ w2.heap.size := Nat.le_trans hsc4 hb2.size
          clear hMc4 hb2
          have hP2 := hM2.put 35 #[.int .u64 0, .int .u64 0, .int .u64 0, .int .u64 0, .int .u64 0] (feC E)
          go_upto_region 6 with ((with_reducible show wpList _ _ _ (⟨none, Op.store 35 _ _, _, _, _, _⟩ :: _) _ _); refine wpList_store_row rfl 35 (.tmp 13) (.tmp 53) rfl (w2.heap.size) (feC E) rfl rfl 35 _ (RowC.new _ _ _) (sizeFe _) (fe_zero _) (one_fe _) ?_)
          try simp only [Act.put]
          refine wp_gen (fun wx => Ms w0 wx ((w2.heap.size, 35, (feC E)) :: (gAA, 35, (feC AA)) :: (gBB, 35, (feC BB)) :: (gDA, 35, (feC DA)) :: (gCB, 35, (feC CB)) :: (gC, 35, (feC C)) :: (gD, 35, (feC D)) :: (gA, 35, (feC A)) :: (gB, 35, (feC B)) :: (gN, 38, (rtC nx nz)) :: (gX, 38, (rtC xx xz)) :: (gP, 35, (feC P)) :: L) ∧ w.heap.size ≤ wx.heap.size) ⟨hP2, by simp [World.setRow]; omega⟩ ?_
          clear hP2
          rintro v5 ⟨hMvv5, hvv5⟩
          generalize w2.heap.size = gE at *
          have hkeep : ∀ wx : World, Below v5.heap.size v5 wx → wx.rangeAt (gDA) 0 (feC DA).toList ∧ wx.rangeAt (gCB) 0 (feC CB).toList ∧ wx.rangeAt (gP) 0 (feC P).toList := fun wx hb => ⟨((hMvv5.get 3 rfl).call hb).range, ((hMvv5.get 4 rfl).call hb).range, ((hMvv5.get 11 rfl).call hb).range⟩
          have hun := Try.underlying35
          refine beginT (fun wx => wx.rangeAt (gDA) 0 (feC DA).toList ∧ wx.rangeAt (gCB) 0 (feC CB).toList ∧ wx.rangeAt (gP) 0 (feC P).toList) 11 (by kernel_rfl) ?_
          have hS := hkeep _ (c_drew (c_refl _))
          refine loadT 0 (some 54) 35 (.tmp 9) (gDA) 0 (feC DA).toList rfl rfl (by kernel_rfl) (by kernel_rfl) (by kernel_rfl) (by kernel_rfl) rfl (by kernel_rfl) rfl (fun wx hSw => hSw.1) hun rfl (sizeFeL _) (fun _ _ _ h => h) hS ?_
          simp only [Act.put, List.setIfInBounds_toArray, List.set_cons_zero, List.set_cons_succ, Array.toArray_toList]
          refine loadT 1 (some 55) 35 (.tmp 10) (gCB) 0 (feC CB).toList rfl rfl (by kernel_rfl) (by kernel_rfl) (by kernel_rfl) (by kernel_rfl) rfl (by kernel_rfl) rfl (fun wx hSw => hSw.2.1) hun rfl (sizeFeL _) (fun _ _ _ h => h) hS ?_
          simp only [Act.put, List.setIfInBounds_toArray, List.set_cons_zero, List.set_cons_succ, Array.toArray_toList]
          refine loadT 4 (some 58) 35 (.tmp 3) (gP) 0 (feC P).toList rfl rfl (by kernel_rfl) (by kernel_rfl) (by kernel_rfl) (by kernel_rfl) rfl (by kernel_rfl) rfl (fun wx hSw => hSw.2.2) hun rfl (sizeFeL _) (fun _ _ _ h => h) hS ?_
          simp only [Act.put, List.setIfInBounds_toArray, List.set_cons_zero, List.set_cons_succ, Array.toArray_toList]
          refine loadT 5 (some 59) 35 (.tmp 9) (gDA) 0 (feC DA).toList rfl rfl (by kernel_rfl) (by kernel_rfl) (by kernel_rfl) (by kernel_rfl) rfl (by kernel_rfl) rfl (fun wx hSw => hSw.1) hun rfl (sizeFeL _) (fun _ _ _ h => h) hS ?_
          simp only [Act.put, List.setIfInBounds_toArray, List.set_cons_zero, List.set_cons_succ, Array.toArray_toList]
          refine loadT 6 (some 60) 35 (.tmp 10) (gCB) 0 (feC CB).toList rfl rfl (by kernel_rfl) (by kernel_rfl) (by kernel_rfl) (by kernel_rfl) rfl (by kernel_rfl) rfl (fun wx hSw => hSw.2.1) hun rfl (sizeFeL _) (fun _ _ _ h => h) hS ?_
          simp only [Act.put, List.setIfInBounds_toArray, List.set_cons_zero, List.set_cons_succ, Array.toArray_toList]
          refine oneT 2 (by kernel_rfl) rfl (fun K hK => ?_)
          go_simp
          refine (kS1 _).mono ?_
          rintro e x1 ⟨rfl, hx1⟩
          refine hK.out _ _ (fun _ => hkeep _ (by (repeat (first | exact c_refl _ | refine c_drew ?_ | refine c_alloc ?_ _ | refine c_row ?_ (by first | omega | exact Nat.le_refl _) _ | refine c_call ?_ (by assumption))); first | done | fail "open")) ?_
          clear hK K
          refine oneT 3 (by kernel_rfl) rfl (fun K hK => ?_)
          go_simp
          refine (kX3 _).mono ?_
          rintro e x2 ⟨rfl, hx2⟩
          refine hK.out _ _ (fun _ => hkeep _ (by (repeat (first | exact c_refl _ | refine c_drew ?_ | refine c_alloc ?_ _ | refine c_row ?_ (by first | omega | exact Nat.le_refl _) _ | refine c_call ?_ (by assumption))); first | done | fail "open")) ?_
          clear hK K
          refine oneT 7 (by kernel_rfl) rfl (fun K hK => ?_)
          go_simp
          refine (kD1 _).mono ?_
          rintro e x3 ⟨rfl, hx3⟩
          refine hK.out _ _ (fun _ => hkeep _ (by (repeat (first | exact c_refl _ | refine c_drew ?_ | refine c_alloc ?_ _ | refine c_row ?_ (by first | omega | exact Nat.le_refl _) _ | refine c_call ?_ (by assumption))); first | done | fail "open")) ?_
          clear hK K
          refine oneT 8 (by kernel_rfl) rfl (fun K hK => ?_)
          go_simp
          refine (kQ1 _).mono ?_
          rintro e x4 ⟨rfl, hx4⟩
          refine hK.out _ _ (fun _ => hkeep _ (by (repeat (first | exact c_refl _ | refine c_drew ?_ | refine c_alloc ?_ _ | refine c_row ?_ (by first | omega | exact Nat.le_refl _) _ | refine c_call ?_ (by assumption))); first | done | fail "open")) ?_
          clear hK K
          refine oneT 9 (by kernel_rfl) rfl (fun K hK => ?_)
          go_simp
          refine (kZ3 _).mono ?_
          rintro e x5 ⟨rfl, hx5⟩
          refine hK.out _ _ (fun _ => hkeep _ (by (repeat (first | exact c_refl _ | refine c_drew ?_ | refine c_alloc ?_ _ | refine c_row ?_ (by first | omega | exact Nat.le_refl _) _ | refine c_call ?_ (by assumption))); first | done | fail "open")) ?_
          clear hK K
          refine oneT 10 (by kernel_rfl) rfl (fun K hK => ?_)
          refine step_buildR (by kernel_rfl) (some 64) rfl 38 _ rfl #[(0, .agg (feC X3)), (1, .agg (feC Z3))] (by kernel_rfl) _ (build_rt _ _ _) ?_
          simp only [Act.put, List.setIfInBounds_toArray, List.set_cons_zero, List.set_cons_succ]
          refine hK.out _ _ (fun _ => hkeep _ (by (repeat (first | exact c_refl _ | refine c_drew ?_ | refine c_alloc ?_ _ | refine c_row ?_ (by first | omega | exact Nat.le_refl _) _ | refine c_call ?_ (by assumption))); first | done | fail "open")) ?_
          clear hK K
          have hE : Below v5.heap.size v5 x5 := (by (repeat (first | exact c_refl _ | refine c_drew ?_ | refine c_alloc ?_ _ | refine c_row ?_ (by first | omega | exact Nat.le_refl _) _ | refine c_call ?_ (by assumption))); first | done | fail "open")
          have hM9 := hMvv5.call hE
          refine oneT 11 (by kernel_rfl) rfl (fun K hK => ?_)
          refine step_store_row rfl 38 (.tmp 2) (.tmp 64) rfl (gX) (rtC X3 Z3) rfl rfl 38 _ (hM9.get 10 rfl) (sizeR _ _) (sameR _ _ _ _) (oneR _ _) ?_
          refine hK.out _ _ (fun h => absurd rfl h) ?_
          clear hK K
          refine doneT (by kernel_rfl) ?_ _
          have hM8 := Ms.set (Ms.sub (L' := (gX, 38, (rtC xx xz)) :: (gE, 35, (feC E)) :: (gAA, 35, (feC AA)) :: (gBB, 35, (feC BB)) :: (gDA, 35, (feC DA)) :: (gCB, 35, (feC CB)) :: (gC, 35, (feC C)) :: (gD, 35, (feC D)) :: (gA, 35, (feC A)) :: (gB, 35, (feC B)) :: (gN, 38, (rtC nx nz)) :: (gP, 35, (feC P)) :: L) hM9 (by intro p hp; simp only [List.mem_cons] at hp ⊢; rcases hp with h | h | h | h | h | h | h | h | h | h | h | h | h <;> simp [h])) h0X (by simp only [List.forall_mem_cons]; exact ⟨by omega, by omega, by omega, by omega, by omega, by omega, by omega, by omega, by omega, by omega, by omega, fun p hp => (HL.out p hp).2⟩) (rtC X3 Z3)
          have hvE : w.heap.size ≤ x5.heap.size := Nat.le_trans hvv5 hE.size
          clear hM9 hMvv5 hkeep hS
          go_upto_region 7 with (fail)
          try simp only [Act.put]
          refine wp_gen (fun wx => Ms w0 wx ((gX, 38, (rtC X3 Z3)) :: (gE, 35, (feC E)) :: (gAA, 35, (feC AA)) :: (gBB, 35, (feC BB)) :: (gDA, 35, (feC DA)) :: (gCB, 35, (feC CB)) :: (gC, 35, (feC C)) :: (gD, 35, (feC D)) :: (gA, 35, (feC A)) :: (gB, 35, (feC B)) :: (gN, 38, (rtC nx nz)) :: (gP, 35, (feC P)) :: L) ∧ w.heap.size ≤ wx.heap.size) ⟨hM8, by simp [World.setRow]; omega⟩ ?_
          clear hM8
          rintro v6 ⟨hMvv6, hvv6⟩
          have hkeep : ∀ wx : World, Below v6.heap.size v6 wx → wx.rangeAt (gAA) 0 (feC AA).toList ∧ wx.rangeAt (gBB) 0 (feC BB).toList ∧ wx.rangeAt (gE) 0 (feC E).toList := fun wx hb => ⟨((hMvv6.get 2 rfl).call hb).range, ((hMvv6.get 3 rfl).call hb).range, ((hMvv6.get 1 rfl).call hb).range⟩
          have hun := Try.underlying35
          refine beginT (fun wx => wx.rangeAt (gAA) 0 (feC AA).toList ∧ wx.rangeAt (gBB) 0 (feC BB).toList ∧ wx.rangeAt (gE) 0 (feC E).toList) 11 (by kernel_rfl) ?_
          have hS := hkeep _ (c_drew (c_refl _))
          refine loadT 0 (some 65) 35 (.tmp 11) (gAA) 0 (feC AA).toList rfl rfl (by kernel_rfl) (by kernel_rfl) (by kernel_rfl) (by kernel_rfl) rfl (by kernel_rfl) rfl (fun wx hSw => hSw.1) hun rfl (sizeFeL _) (fun _ _ _ h => h) hS ?_
          simp only [Act.put, List.setIfInBounds_toArray, Array.toArray_toList]
          refine loadT 1 (some 66) 35 (.tmp 12) (gBB) 0 (feC BB).toList rfl rfl (by kernel_rfl) (by kernel_rfl) (by kernel_rfl) (by kernel_rfl) rfl (by kernel_rfl) rfl (fun wx hSw => hSw.2.1) hun rfl (sizeFeL _) (fun _ _ _ h => h) hS ?_
          simp only [Act.put, Array.toArray_toList]
          refine loadT 3 (some 68) 35 (.tmp 13) (gE) 0 (feC E).toList rfl rfl (by kernel_rfl) (by kernel_rfl) (by kernel_rfl) (by kernel_rfl) rfl (by kernel_rfl) rfl (fun wx hSw => hSw.2.2) hun rfl (sizeFeL _) (fun _ _ _ h => h) hS ?_
          simp only [Act.put, Array.toArray_toList]
          refine loadT 4 (some 69) 35 (.tmp 11) (gAA) 0 (feC AA).toList rfl rfl (by kernel_rfl) (by kernel_rfl) (by kernel_rfl) (by kernel_rfl) rfl (by kernel_rfl) rfl (fun wx hSw => hSw.1) hun rfl (sizeFeL _) (fun _ _ _ h => h) hS ?_
          simp only [Act.put, Array.toArray_toList]
          refine loadT 6 (some 71) 35 (.tmp 13) (gE) 0 (feC E).toList rfl rfl (by kernel_rfl) (by kernel_rfl) (by kernel_rfl) (by kernel_rfl) rfl (by kernel_rfl) rfl (fun wx hSw => hSw.2.2) hun rfl (sizeFeL _) (fun _ _ _ h => h) hS ?_
          simp only [Act.put, Array.toArray_toList]
          refine takeD 5 (some 70) (.agg (feC termF)) rfl rfl (by kernel_rfl) (by kernel_rfl) (by kernel_rfl) (by kernel_rfl) (fun _ _ _ h => h) (yields_build (by kernel_rfl) 35 _ rfl #[(0, .int .u64 121665)] (by kernel_rfl) _ build_term) hS ?_
          simp only [Act.put]
          refine oneT 2 (by kernel_rfl) rfl (fun K hK => ?_)
          go_simp
          refine (kX2 _).mono ?_
          rintro e x1 ⟨rfl, hx1⟩
          refine hK.out _ _ (fun _ => hkeep _ (by (repeat (first | exact c_refl _ | refine c_drew ?_ | refine c_alloc ?_ _ | refine c_row ?_ (by first | omega | exact Nat.le_refl _) _ | refine c_call ?_ (by assumption))); first | done | fail "open")) ?_
          clear hK K
          refine oneT 7 (by kernel_rfl) rfl (fun K hK => ?_)
          go_simp
          refine (kM1 _).mono ?_
          rintro e x2 ⟨rfl, hx2⟩
          refine hK.out _ _ (fun _ => hkeep _ (by (repeat (first | exact c_refl _ | refine c_drew ?_ | refine c_alloc ?_ _ | refine c_row ?_ (by first | omega | exact Nat.le_refl _) _ | refine c_call ?_ (by assumption))); first | done | fail "open")) ?_
          clear hK K
          refine oneT 8 (by kernel_rfl) rfl (fun K hK => ?_)
          go_simp
          refine (kM2 _).mono ?_
          rintro e x3 ⟨rfl, hx3⟩
          refine hK.out _ _ (fun _ => hkeep _ (by (repeat (first | exact c_refl _ | refine c_drew ?_ | refine c_alloc ?_ _ | refine c_row ?_ (by first | omega | exact Nat.le_refl _) _ | refine c_call ?_ (by assumption))); first | done | fail "open")) ?_
          clear hK K
          refine oneT 9 (by kernel_rfl) rfl (fun K hK => ?_)
          go_simp
          refine (kZ2 _).mono ?_
          rintro e x4 ⟨rfl, hx4⟩
          refine hK.out _ _ (fun _ => hkeep _ (by (repeat (first | exact c_refl _ | refine c_drew ?_ | refine c_alloc ?_ _ | refine c_row ?_ (by first | omega | exact Nat.le_refl _) _ | refine c_call ?_ (by assumption))); first | done | fail "open")) ?_
          clear hK K
          refine oneT 10 (by kernel_rfl) rfl (fun K hK => ?_)
          refine step_buildR (by kernel_rfl) (some 75) rfl 38 _ rfl #[(0, .agg (feC X2)), (1, .agg (feC Z2))] (by kernel_rfl) _ (build_rt _ _ _) ?_
          simp only [Act.put, List.setIfInBounds_toArray, List.set_cons_zero, List.set_cons_succ]
          refine hK.out _ _ (fun _ => hkeep _ (by (repeat (first | exact c_refl _ | refine c_drew ?_ | refine c_alloc ?_ _ | refine c_row ?_ (by first | omega | exact Nat.le_refl _) _ | refine c_call ?_ (by assumption))); first | done | fail "open")) ?_
          clear hK K
          have hE : Below v6.heap.size v6 x4 := (by (repeat (first | exact c_refl _ | refine c_drew ?_ | refine c_alloc ?_ _ | refine c_row ?_ (by first | omega | exact Nat.le_refl _) _ | refine c_call ?_ (by assumption))); first | done | fail "open")
          have hM9 := hMvv6.call hE
          refine oneT 11 (by kernel_rfl) rfl (fun K hK => ?_)
          refine step_store_row rfl 38 (.tmp 1) (.tmp 75) rfl (gN) (rtC X2 Z2) rfl rfl 38 _ (hM9.get 10 rfl) (sizeR _ _) (sameR _ _ _ _) (oneR _ _) ?_
          refine hK.out _ _ (fun h => absurd rfl h) ?_
          clear hK K
          refine doneT (by kernel_rfl) ?_ _
          have hM8 := Ms.set (Ms.sub (L' := (gN, 38, (rtC nx nz)) :: (gX, 38, (rtC X3 Z3)) :: (gE, 35, (feC E)) :: (gAA, 35, (feC AA)) :: (gBB, 35, (feC BB)) :: (gDA, 35, (feC DA)) :: (gCB, 35, (feC CB)) :: (gC, 35, (feC C)) :: (gD, 35, (feC D)) :: (gA, 35, (feC A)) :: (gB, 35, (feC B)) :: (gP, 35, (feC P)) :: L) hM9 (by intro p hp; simp only [List.mem_cons] at hp ⊢; rcases hp with h | h | h | h | h | h | h | h | h | h | h | h | h <;> simp [h])) h0N (by simp only [List.forall_mem_cons]; exact ⟨by omega, by omega, by omega, by omega, by omega, by omega, by omega, by omega, by omega, by omega, by omega, fun p hp => (HL.out p hp).1⟩) (rtC X2 Z2)
          have hvE : w.heap.size ≤ x4.heap.size := Nat.le_trans hvv6 hE.size
          clear hM9 hMvv6 hkeep hS
          go_upto_region 8 with (fail)
          try simp only [Act.put]
          refine wp_gen (fun wx => Ms w0 wx ((gN, 38, (rtC X2 Z2)) :: (gX, 38, (rtC X3 Z3)) :: (gE, 35, (feC E)) :: (gAA, 35, (feC AA)) :: (gBB, 35, (feC BB)) :: (gDA, 35, (feC DA)) :: (gCB, 35, (feC CB)) :: (gC, 35, (feC C)) :: (gD, 35, (feC D)) :: (gA, 35, (feC A)) :: (gB, 35, (feC B)) :: (gP, 35, (feC P)) :: L) ∧ w.heap.size ≤ wx.heap.size) ⟨hM8, by simp [World.setRow]; omega⟩ ?_
          clear hM8
          rintro v7 ⟨hMvv7, hvv7⟩
          have hMz := Ms.sub (L' := (gN, 38, (rtC X2 Z2)) :: (gX, 38, (rtC X3 Z3)) :: (gP, 35, feC P) :: L) hMvv7 (by intro p hp; simp only [List.mem_cons] at hp ⊢; rcases hp with h | h | h | h <;> simp [h])
          clear hMvv7
          go_wp2_with (first
            | ((with_reducible show wpList _ _ _ (⟨some 77, _, _, _, _, _⟩ :: _) _ _); refine wpList_loadC (by kernel_rfl) 38 (.tmp 1) rfl (gN) rfl 38 (rtC X2 Z2) _ (hMz.get 0 rfl) Try.underlying38 rfl (sizeR _ _) ?_)
            | ((with_reducible show wpList _ _ _ (⟨some 78, _, _, _, _, _⟩ :: _) _ _); refine wpList_loadC (by kernel_rfl) 38 (.tmp 2) rfl (gX) rfl 38 (rtC X3 Z3) _ (hMz.get 1 rfl) Try.underlying38 rfl (sizeR _ _) ?_))
          refine (kY _).mono ?_
          rintro e w3 ⟨rfl, hb3⟩
          have hM3 := hMz.call hb3
          have hv3 : w.heap.size ≤ w3.heap.size := Nat.le_trans hvv7 hb3.size
          clear hMz hb3
          have hM9 := Ms.set2 (ds := (rtC rx rz)) (ds' := (rtC sx sz)) hM3 h0N h0X hNX (by simp only [List.forall_mem_cons]; exact ⟨by omega, fun p hp => (HL.out p hp).1⟩) (by simp only [List.forall_mem_cons]; exact ⟨by omega, fun p hp => (HL.out p hp).2⟩)
          go_wp2_with (first
            | ((with_reducible show wpList _ _ _ (⟨none, Op.store 38 _ _, _, _, _, _⟩ :: _) _ _); refine wpList_store_row rfl 38 (.tmp 1) (.tmp 81) rfl (gN) (rtC rx rz) rfl rfl 38 _ (hM3.get 0 rfl) (sizeR _ _) (sameR _ _ _ _) (oneR _ _) ?_)
            | ((with_reducible show wpList _ _ _ (⟨none, Op.store 38 _ _, _, _, _, _⟩ :: _) _ _); refine wpList_store_row rfl 38 (.tmp 2) (.tmp 82) rfl (gX) (rtC sx sz) rfl rfl 38 _ ((hM3.get 1 rfl).rowFar (Ne.symm hNX) _) (sizeR _ _) (sameR _ _ _ _) (oneR _ _) ?_))
          try simp only [Act.put]
          exact Go.Great.bodyPost_end0 rfl rfl ⟨rfl, hM9, by simp [World.setRow]; omega⟩

end Go.Proofs.Ytimgnpcojamafaa
