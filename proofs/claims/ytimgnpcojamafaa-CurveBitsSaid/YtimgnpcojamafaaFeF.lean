/-
  CONTRACTS of the program's squared, Square, inverse and its closure, Invert (package fe).
-/
import Derived.Test.YtimgnpcojamafaaFeE
set_option linter.unusedVariables false
namespace Go.Proofs.Ytimgnpcojamafaa
open Go.RowKit

theorem fe_same (a b : Fe5) : (feC a).size = (feC b).size := rfl
theorem fe_zero (a : Fe5) : (#[.int .u64 0, .int .u64 0, .int .u64 0, .int .u64 0, .int .u64 0] : Array Value).size = (feC a).size := rfl
theorem Ms.set {w0 w : World} {g : Nat} {t : TypeId} {cs : Array Value} {L : List (Nat × TypeId × Array Value)} (h : Ms w0 w ((g, t, cs) :: L)) (hg : w0.heap.size ≤ g) (hne : ∀ p ∈ L, p.1 ≠ g) (cs' : Array Value) :
    Ms w0 (w.setRow g cs') ((g, t, cs') :: L) :=
  ⟨below_setRow h.old hg _, fun p hp => by
    rcases List.mem_cons.1 hp with rfl | hp
    · exact (h.rows (g, t, cs) (by simp)).row cs'
    · exact (h.rows p (by simp [hp])).rowFar (hne p hp) cs'⟩
theorem Ms.swap {w0 w : World} {x y : Nat × TypeId × Array Value} {L : List (Nat × TypeId × Array Value)} (h : Ms w0 w (x :: y :: L)) : Ms w0 w (y :: x :: L) :=
  ⟨h.old, fun p hp => h.rows p (by simp only [List.mem_cons] at hp ⊢; rcases hp with h | h | h <;> simp [h])⟩
theorem Ms.beh {w0 w w' : World} {g : Nat} {t : TypeId} {cs cs' : Array Value} {L : List (Nat × TypeId × Array Value)} (h : Ms w0 w ((g, t, cs) :: L)) (hg : w0.heap.size ≤ g) (hne : ∀ p ∈ L, p.1 ≠ g) (hr : RowC w' g t cs')
    (hfar : ∀ k, k ≠ g → k < w.heap.size → w'.heap[k]? = w.heap[k]?) (hb : ∀ B, B ≤ g → Below B w w') : Ms w0 w' ((g, t, cs') :: L) :=
  ⟨h.old.trans (hb _ hg), fun p hp => by
    rcases List.mem_cons.1 hp with rfl | hp
    · exact hr
    · have h1 := h.rows p (by simp [hp])
      exact h1.of (hfar _ (hne p hp) h1.lt)⟩

set_option maxRecDepth 100000 in
set_option maxHeartbeats 1000000 in
theorem squared_any (a : Fe5) (t : Nat) (w : World) (ha : MayF a) (ht : t ≤ 300) :
    Calls Try.prog 45 #[.agg (feC a), .int .i64 (t : Int)] w fun e w' => e = .returned (.agg (feC (sqU a t))) ∧ Below w.heap.size w w' := by
  have hM0 := (((Ms.nil w).box 35 (feC a)).box 35 #[.int .u64 0, .int .u64 0, .int .u64 0, .int .u64 0, .int .u64 0]).swap
  simp only [World.size_alloc] at hM0
  have Ha := Lib.hid ha
  have Hs := fun n => Lib.hid (sizeFe (sqU a n))
  have Ho := fun n => Lib.hid (one_fe (sqU a n))
  have He := fun n => Lib.hid (fe_same (sqU a n) (sqU a (n + 1)))
  have Hz := Lib.hid (fe_zero (sqU a t))
  have hp := fun wx n => product_any (sqU a n) (sqU a n) wx (sqU_may ha n) (sqU_may ha n)
  clear ha
  go_enter Try.func45, Try.ntmps45
  go_wp2_with fail
  go_loopw [6] (fun i wr => ∃ n : Nat, n ≤ t ∧ i = .int .i64 (n : Int) ∧ Ms w wr [(w.heap.size, 35, feC (sqU a n)), (w.heap.size + 1, 35, #[.int .u64 0, .int .u64 0, .int .u64 0, .int .u64 0, .int .u64 0])]) (fun i _ => (t - intOf i).toNat)
  case atStart => exact ⟨0, by omega, rfl, hM0⟩
  case round =>
    obtain ⟨n, hn, rfl, hM⟩ := hrel
    by_cases hlt : n < t
    · have hs := Hs n
      have hs2 := Hs (n + 1)
      have ho := Ho (n + 1)
      have he := He n
      have hpn := fun wx => hp wx n
      rw [show mulQ (sqU a n) (sqU a n) = sqU a (n + 1) from rfl] at hpn
      have hM2 : ∀ w2 : World, Below wr.heap.size wr w2 → Ms w w2 [(w.heap.size, 35, feC (sqU a n)), (w.heap.size + 1, 35, #[.int .u64 0, .int .u64 0, .int .u64 0, .int .u64 0, .int .u64 0])] := fun w2 hb => hM.call hb
      have hM3 : ∀ w2 : World, Below wr.heap.size wr w2 → Ms w (w2.setRow w.heap.size (feC (sqU a (n + 1)))) [(w.heap.size, 35, feC (sqU a (n + 1))), (w.heap.size + 1, 35, #[.int .u64 0, .int .u64 0, .int .u64 0, .int .u64 0, .int .u64 0])] := fun w2 hb => (hM2 w2 hb).set (Nat.le_refl _) (by simp) _
      clear Hs Ho He Hz hp hM0
      have H3 := Lib.hid hM3
      have H2 := Lib.hid hM2
      clear hM2 hM3
      generalize hc1 : feC (sqU a (n + 1)) = c1 at *
      have Hc1 := Lib.hid hc1
      clear hc1
      generalize feC (sqU a n) = c0 at *
      have j0 : 0 ≤ (n : Int) := by omega
      have j1 : (n : Int) < (t : Int) := by omega
      go_wp2_with (first
        | ((with_reducible show wpList _ _ _ (⟨some 8, _, _, _, _, _⟩ :: _) _ _); refine wpList_loadC (by kernel_rfl) 35 (.tmp 2) rfl (w.heap.size) rfl 35 c0 _ (hM.get 0 rfl) Try.underlying35 rfl hs.out ?_)
        | ((with_reducible show wpList _ _ _ (⟨some 9, _, _, _, _, _⟩ :: _) _ _); refine wpList_loadC (by kernel_rfl) 35 (.tmp 2) rfl (w.heap.size) rfl 35 c0 _ (hM.get 0 rfl) Try.underlying35 rfl hs.out ?_))
      refine (hpn _).mono ?_
      rintro e w2 ⟨rfl, hb2⟩
      go_wp2_with ((with_reducible show wpList _ _ _ (⟨none, Op.store 35 _ _, _, _, _, _⟩ :: _) _ _); refine wpList_store_row rfl 35 (.tmp 2) (.tmp 10) rfl (w.heap.size) c1 rfl rfl 35 _ ((H2.out w2 hb2).get 0 rfl) hs2.out he.out ho.out ?_)
      exact ⟨⟨n + 1, by omega, by go_num, by rw [Hc1.out]; exact H3.out w2 hb2⟩, by simp [intOf]; omega⟩
    · obtain rfl : n = t := by omega
      have hs := Hs n
      have ho := Ho n
      clear Hs Ho He hp hM0
      generalize hc0 : feC (sqU a n) = c0 at *
      have Hc0 := Lib.hid hc0
      clear hc0
      go_wp2_with (first
        | ((with_reducible show wpList _ _ _ (⟨some 12, _, _, _, _, _⟩ :: _) _ _); refine wpList_loadC (by kernel_rfl) 35 (.tmp 2) rfl (w.heap.size) rfl 35 c0 _ (hM.get 0 rfl) Try.underlying35 rfl hs.out ?_)
        | ((with_reducible show wpList _ _ _ (⟨none, Op.store 35 _ _, _, _, _, _⟩ :: _) _ _); refine wpList_store_row rfl 35 (.tmp 4) (.tmp 12) rfl (w.heap.size + 1) c0 rfl rfl 35 _ (hM.get 1 rfl) hs.out Hz.out ho.out ?_))
      exact bodyPost_ret (results_cell_one rfl _ _ (w.heap.size + 1) 35 c0 _ rfl ((hM.get 1 rfl).row c0) Try.underlying35 rfl hs.out) rfl ⟨by rw [Hc0.out], below_setRow hM.old (by omega) _⟩

set_option maxRecDepth 100000 in
theorem Square_bad1 (a : Fe5) (t : Int) (w : World) (ha : WordF a) (h : ¬ MayF a) :
    Calls Try.prog 37 #[.agg (feC a), .int .i64 t] w fun e w' => e = .returned (.tuple #[.agg (feC zeroF), .int .i64 1]) ∧ Below w.heap.size w w' := by
  have hM0 := ((Ms.nil w).box 35 (feC a)).box 35 #[.int .u64 0, .int .u64 0, .int .u64 0, .int .u64 0, .int .u64 0]
  simp only [World.size_alloc] at hM0
  have hs0 := Lib.hid (sizeFe a)
  have hz := Lib.hid (sizeFe zeroF)
  have hzo := Lib.hid (one_fe zeroF)
  have hzc : feC zeroF = #[.int .u64 0, .int .u64 0, .int .u64 0, .int .u64 0, .int .u64 0] := rfl
  have hma := fun wx => mayBe_any a wx ha
  rw [mayB_false h] at hma
  rw [hzc] at hz hzo ⊢
  clear ha hzc
  generalize feC a = ca at *
  go_enter Try.func37, Try.ntmps37
  go_wp2_with ((with_reducible show wpList _ _ _ (⟨some 6, _, _, _, _, _⟩ :: _) _ _); refine wpList_loadC (by kernel_rfl) 35 (.tmp 2) rfl (w.heap.size) rfl 35 ca _ (hM0.get 1 rfl) Try.underlying35 rfl hs0.out ?_)
  refine (hma _).mono ?_
  rintro e w1 ⟨rfl, hb9⟩
  have hM1 := hM0.call hb9
  go_wp2_with ((with_reducible show wpList _ _ _ (⟨none, Op.store 35 _ _, _, _, _, _⟩ :: _) _ _); refine wpList_store_row rfl 35 (.tmp 4) (.tmp 17) rfl (w.heap.size + 1) #[.int .u64 0, .int .u64 0, .int .u64 0, .int .u64 0, .int .u64 0] rfl rfl 35 _ (hM1.get 0 rfl) hz.out rfl hzo.out ?_)
  exact bodyPost_ret (results_cell_two rfl _ _ (w.heap.size + 1) 35 _ _ rfl ((hM1.get 0 rfl).row _) Try.underlying35 rfl hz.out) rfl ⟨rfl, below_setRow hM1.old (by omega) _⟩

set_option maxRecDepth 100000 in
theorem Square_bad2 (a : Fe5) (t : Int) (w : World) (ha : MayF a) (h : t < 0) :
    Calls Try.prog 37 #[.agg (feC a), .int .i64 t] w fun e w' => e = .returned (.tuple #[.agg (feC zeroF), .int .i64 1]) ∧ Below w.heap.size w w' := by
  have hM0 := ((Ms.nil w).box 35 (feC a)).box 35 #[.int .u64 0, .int .u64 0, .int .u64 0, .int .u64 0, .int .u64 0]
  simp only [World.size_alloc] at hM0
  have hs0 := Lib.hid (sizeFe a)
  have hz := Lib.hid (sizeFe zeroF)
  have hzo := Lib.hid (one_fe zeroF)
  have hzc : feC zeroF = #[.int .u64 0, .int .u64 0, .int .u64 0, .int .u64 0, .int .u64 0] := rfl
  have hma := fun wx => mayBe_any a wx ha.word
  rw [mayB_true ha] at hma
  have hb1 : decide (t < 0) = true := decide_eq_true h
  clear h
  rw [hzc] at hz hzo ⊢
  clear ha hzc
  generalize feC a = ca at *
  go_enter Try.func37, Try.ntmps37
  go_wp2_with ((with_reducible show wpList _ _ _ (⟨some 6, _, _, _, _, _⟩ :: _) _ _); refine wpList_loadC (by kernel_rfl) 35 (.tmp 2) rfl (w.heap.size) rfl 35 ca _ (hM0.get 1 rfl) Try.underlying35 rfl hs0.out ?_)
  refine (hma _).mono ?_
  rintro e w1 ⟨rfl, hb9⟩
  have hM1 := hM0.call hb9
  go_wp2_with ((with_reducible show wpList _ _ _ (⟨none, Op.store 35 _ _, _, _, _, _⟩ :: _) _ _); refine wpList_store_row rfl 35 (.tmp 4) (.tmp 17) rfl (w.heap.size + 1) #[.int .u64 0, .int .u64 0, .int .u64 0, .int .u64 0, .int .u64 0] rfl rfl 35 _ (hM1.get 0 rfl) hz.out rfl hzo.out ?_)
  exact bodyPost_ret (results_cell_two rfl _ _ (w.heap.size + 1) 35 _ _ rfl ((hM1.get 0 rfl).row _) Try.underlying35 rfl hz.out) rfl ⟨rfl, below_setRow hM1.old (by omega) _⟩

set_option maxRecDepth 100000 in
theorem Square_bad3 (a : Fe5) (t : Int) (w : World) (ha : MayF a) (h0 : 0 ≤ t) (h : 300 < t) :
    Calls Try.prog 37 #[.agg (feC a), .int .i64 t] w fun e w' => e = .returned (.tuple #[.agg (feC zeroF), .int .i64 1]) ∧ Below w.heap.size w w' := by
  have hM0 := ((Ms.nil w).box 35 (feC a)).box 35 #[.int .u64 0, .int .u64 0, .int .u64 0, .int .u64 0, .int .u64 0]
  simp only [World.size_alloc] at hM0
  have hs0 := Lib.hid (sizeFe a)
  have hz := Lib.hid (sizeFe zeroF)
  have hzo := Lib.hid (one_fe zeroF)
  have hzc : feC zeroF = #[.int .u64 0, .int .u64 0, .int .u64 0, .int .u64 0, .int .u64 0] := rfl
  have hma := fun wx => mayBe_any a wx ha.word
  rw [mayB_true ha] at hma
  have hb1 : decide (t < 0) = false := decide_eq_false (by omega)
  have hb2 : decide (300 < t) = true := decide_eq_true h
  clear h h0
  rw [hzc] at hz hzo ⊢
  clear ha hzc
  generalize feC a = ca at *
  go_enter Try.func37, Try.ntmps37
  go_wp2_with ((with_reducible show wpList _ _ _ (⟨some 6, _, _, _, _, _⟩ :: _) _ _); refine wpList_loadC (by kernel_rfl) 35 (.tmp 2) rfl (w.heap.size) rfl 35 ca _ (hM0.get 1 rfl) Try.underlying35 rfl hs0.out ?_)
  refine (hma _).mono ?_
  rintro e w1 ⟨rfl, hb9⟩
  have hM1 := hM0.call hb9
  go_wp2_with ((with_reducible show wpList _ _ _ (⟨none, Op.store 35 _ _, _, _, _, _⟩ :: _) _ _); refine wpList_store_row rfl 35 (.tmp 4) (.tmp 17) rfl (w.heap.size + 1) #[.int .u64 0, .int .u64 0, .int .u64 0, .int .u64 0, .int .u64 0] rfl rfl 35 _ (hM1.get 0 rfl) hz.out rfl hzo.out ?_)
  exact bodyPost_ret (results_cell_two rfl _ _ (w.heap.size + 1) 35 _ _ rfl ((hM1.get 0 rfl).row _) Try.underlying35 rfl hz.out) rfl ⟨rfl, below_setRow hM1.old (by omega) _⟩

set_option maxRecDepth 100000 in
theorem Square_ok (a : Fe5) (t : Nat) (w : World) (ha : MayF a) (ht : t ≤ 300) :
    Calls Try.prog 37 #[.agg (feC a), .int .i64 (t : Int)] w fun e w' => e = .returned (.tuple #[.agg (feC (sqU a t)), .int .i64 0]) ∧ Below w.heap.size w w' := by
  have hM0 := ((Ms.nil w).box 35 (feC a)).box 35 #[.int .u64 0, .int .u64 0, .int .u64 0, .int .u64 0, .int .u64 0]
  simp only [World.size_alloc] at hM0
  have hs0 := Lib.hid (sizeFe a)
  have hz := Lib.hid (sizeFe (sqU a t))
  have hzz := Lib.hid (fe_zero (sqU a t))
  have hzo := Lib.hid (one_fe (sqU a t))
  have hma := fun wx => mayBe_any a wx ha.word
  rw [mayB_true ha] at hma
  have hp := fun wx => squared_any a t wx ha ht
  have hb1 : decide ((t : Int) < 0) = false := decide_eq_false (by omega)
  have hb2 : decide ((300 : Int) < (t : Int)) = false := decide_eq_false (by omega)
  clear ha ht
  generalize feC (sqU a t) = fa at *
  generalize feC a = ca at *
  go_enter Try.func37, Try.ntmps37
  go_wp2_with ((with_reducible show wpList _ _ _ (⟨some 6, _, _, _, _, _⟩ :: _) _ _); refine wpList_loadC (by kernel_rfl) 35 (.tmp 2) rfl (w.heap.size) rfl 35 ca _ (hM0.get 1 rfl) Try.underlying35 rfl hs0.out ?_)
  refine (hma _).mono ?_
  rintro e w1 ⟨rfl, hb9⟩
  have hM1 := hM0.call hb9
  go_wp2_with ((with_reducible show wpList _ _ _ (⟨some 18, _, _, _, _, _⟩ :: _) _ _); refine wpList_loadC (by kernel_rfl) 35 (.tmp 2) rfl (w.heap.size) rfl 35 ca _ (hM1.get 1 rfl) Try.underlying35 rfl hs0.out ?_)
  refine (hp _).mono ?_
  rintro e w2 ⟨rfl, hb8⟩
  have hM2 := hM1.call hb8
  go_wp2_with ((with_reducible show wpList _ _ _ (⟨none, Op.store 35 _ _, _, _, _, _⟩ :: _) _ _); refine wpList_store_row rfl 35 (.tmp 4) (.tmp 20) rfl (w.heap.size + 1) fa rfl rfl 35 _ (hM2.get 0 rfl) hz.out hzz.out hzo.out ?_)
  exact bodyPost_ret (results_cell_two rfl _ _ (w.heap.size + 1) 35 _ _ rfl ((hM2.get 0 rfl).row _) Try.underlying35 rfl hz.out) rfl ⟨rfl, below_setRow hM2.old (by omega) _⟩

set_option maxRecDepth 100000 in
set_option maxHeartbeats 1000000 in
theorem behind_any (p t : Fe5) (n gp : Nat) (w : World) (hp : MayF p) (ht : MayF t) (hn : n ≤ 300) (hr : RowC w gp 35 (feC p)) :
    Calls Try.prog 52 #[.agg (feC t), .int .i64 (n : Int), .pointer (some ⟨gp, 0, none⟩)] w fun e w' => e = .returned (.agg (feC (behU p t n))) ∧ RowC w' gp 35 (feC (behU p t n)) ∧ (∀ k, k ≠ gp → k < w.heap.size → w'.heap[k]? = w.heap[k]?) ∧ ∀ B, B ≤ gp → Below B w w' := by
  have hlt := hr.lt
  have hM0 := ((Ms.nil w).box 35 (feC t)).box 35 #[.int .u64 0, .int .u64 0, .int .u64 0, .int .u64 0, .int .u64 0]
  simp only [World.size_alloc] at hM0
  have hs1 := fun wx => squared_any p n wx hp hn
  have hs2 := fun wx => product_any (sqU p n) t wx (sqU_may hp n) ht
  rw [show mulQ (sqU p n) t = behU p t n from rfl] at hs2
  have Hp := Lib.hid (sizeFe p)
  have Ht := Lib.hid (sizeFe t)
  have Hb := Lib.hid (sizeFe (behU p t n))
  have Hbo := Lib.hid (one_fe (behU p t n))
  have Hbs := Lib.hid (fe_same p (behU p t n))
  have Hbz := Lib.hid (fe_zero (behU p t n))
  clear hp ht hn
  generalize feC (behU p t n) = cb at *
  generalize feC (sqU p n) = cq at *
  generalize feC p = cp at *
  generalize feC t = ct at *
  have hR0 := (hr.alloc (.cells ct 35)).alloc (.cells #[.int .u64 0, .int .u64 0, .int .u64 0, .int .u64 0, .int .u64 0] 35)
  go_enter Try.func52, Try.ntmps52
  go_wp2_with fail
  refine wp_gen (fun wx => Ms w wx [(w.heap.size + 1, 35, #[.int .u64 0, .int .u64 0, .int .u64 0, .int .u64 0, .int .u64 0]), (w.heap.size, 35, ct)] ∧ RowC wx gp 35 cp) ⟨hM0, hR0⟩ ?_
  clear hM0 hR0
  rintro v1 ⟨hM1, hR1⟩
  have hkeep : ∀ wx : World, Below v1.heap.size v1 wx → (fun wx : World => wx.rangeAt gp 0 cp.toList ∧ wx.rangeAt w.heap.size 0 ct.toList) wx := fun wx hb => ⟨(hR1.call hb).range, ((hM1.get 1 rfl).call hb).range⟩
  have hu := Try.underlying35
  have hent1 : ∀ args w, (callFunc 45 args).run Try.prog w = .ok (.enter 45 args) w := enters_of Try.func45 (by kernel_rfl) rfl
  have hent2 : ∀ args w, (callFunc 44 args).run Try.prog w = .ok (.enter 44 args) w := enters_of Try.func44 (by kernel_rfl) rfl
  refine beginT (fun wx : World => wx.rangeAt gp 0 cp.toList ∧ wx.rangeAt w.heap.size 0 ct.toList) 5 (by kernel_rfl) ?_
  have hS := hkeep _ (c_drew (c_refl _))
  refine loadT 0 (some 6) 35 (.tmp 2) (gp) 0 cp.toList rfl rfl (by kernel_rfl) (by kernel_rfl) (by kernel_rfl) (by kernel_rfl) rfl (by kernel_rfl) rfl (fun wx hSw => hSw.1) hu rfl (by simpa using Hp.out) (fun _ _ _ h => h) hS ?_
  simp only [Act.put, List.setIfInBounds_toArray, List.set_cons_zero, List.set_cons_succ]
  refine takeD 1 (some 7) (.int .i64 (n : Int)) rfl rfl (by kernel_rfl) (by kernel_rfl) (by kernel_rfl) (by kernel_rfl) (fun _ _ _ h => h) (Or.inl ⟨by kernel_rfl, fun wx hSw => by go_simp⟩) hS ?_
  simp only [Act.put, List.setIfInBounds_toArray, List.set_cons_zero, List.set_cons_succ]
  refine loadT 3 (some 9) 35 (.tmp 3) (w.heap.size) 0 ct.toList rfl rfl (by kernel_rfl) (by kernel_rfl) (by kernel_rfl) (by kernel_rfl) rfl (by kernel_rfl) rfl (fun wx hSw => hSw.2) hu rfl (by simpa using Ht.out) (fun _ _ _ h => h) hS ?_
  simp only [Act.put, List.setIfInBounds_toArray, List.set_cons_zero, List.set_cons_succ]
  have et : ct.toList.toArray = ct := by simp
  have ep : cp.toList.toArray = cp := by simp
  rw [et, ep]
  refine oneT 2 (by kernel_rfl) rfl (fun K hK => ?_)
  refine step_callF (by rfl) (some 8) rfl 45 _ _ rfl [.agg cp, .int .i64 (n : Int)] rfl hent1 _ (hs1 _) ?_
  rintro e wm1 ⟨rfl, hc1⟩
  refine ⟨_, rfl, ?_⟩
  simp only [Act.put, List.setIfInBounds_toArray, List.set_cons_zero, List.set_cons_succ]
  refine hK.out _ _ (fun _ => hkeep _ (by (repeat (first | exact c_refl _ | refine c_drew ?_ | refine c_alloc ?_ _ | refine c_call ?_ (by assumption))); first | done | fail "chain")) ?_
  clear hK K
  have hS1 := hkeep wm1 (by (repeat (first | exact c_refl _ | refine c_drew ?_ | refine c_alloc ?_ _ | refine c_call ?_ (by assumption))); first | done | fail "chain")
  refine oneT 4 (by kernel_rfl) rfl (fun K hK => ?_)
  refine step_callF (by rfl) (some 10) rfl 44 _ _ rfl [.agg cq, .agg ct] rfl hent2 _ (hs2 _) ?_
  rintro e wm2 ⟨rfl, hc2⟩
  refine ⟨_, rfl, ?_⟩
  simp only [Act.put, List.setIfInBounds_toArray, List.set_cons_zero, List.set_cons_succ]
  refine hK.out _ _ (fun _ => hkeep _ (by (repeat (first | exact c_refl _ | refine c_drew ?_ | refine c_alloc ?_ _ | refine c_call ?_ (by assumption))); first | done | fail "chain")) ?_
  clear hK K
  have hS2 := hkeep wm2 (by (repeat (first | exact c_refl _ | refine c_drew ?_ | refine c_alloc ?_ _ | refine c_call ?_ (by assumption))); first | done | fail "chain")
  have hE : Below v1.heap.size v1 wm2 := (by (repeat (first | exact c_refl _ | refine c_drew ?_ | refine c_alloc ?_ _ | refine c_call ?_ (by assumption))); first | done | fail "chain")
  have hM2 := hM1.call hE
  have hR2 := hR1.call hE
  clear hkeep hS hS1 hS2 et ep
  refine oneT 5 (by kernel_rfl) rfl (fun K hK => ?_)
  refine step_store_row rfl 35 (.tmp 2) (.tmp 10) rfl gp cb rfl rfl 35 cp hR2 Hb.out Hbs.out Hbo.out ?_
  refine hK.out _ _ (fun h => absurd rfl h) ?_
  clear hK K
  refine doneT (by kernel_rfl) ?_ _
  have hM3 : Ms w wm2 [(w.heap.size + 1, 35, #[.int .u64 0, .int .u64 0, .int .u64 0, .int .u64 0, .int .u64 0]), (w.heap.size, 35, ct)] := hM2
  have g0 := (hM2.get 0 rfl).rowFar (g' := gp) (by omega) cb
  have g1 := hR2.row cb
  go_wp2_with (first
    | ((with_reducible show wpList _ _ _ (⟨some 11, _, _, _, _, _⟩ :: _) _ _); refine wpList_loadC (by kernel_rfl) 35 (.tmp 2) rfl (gp) rfl 35 cb _ (g1) Try.underlying35 rfl Hb.out ?_)
    | ((with_reducible show wpList _ _ _ (⟨none, Op.store 35 _ _, _, _, _, _⟩ :: _) _ _); refine wpList_store_row rfl 35 (.tmp 5) (.tmp 11) rfl (w.heap.size + 1) cb rfl rfl 35 _ (g0) Hb.out Hbz.out Hbo.out ?_))
  refine bodyPost_ret (results_cell_one rfl _ _ (w.heap.size + 1) 35 cb _ rfl (g0.row cb) Try.underlying35 rfl Hb.out) rfl ⟨rfl, g1.rowFar (by omega) cb, fun k hk hkl => ?_, fun B hB => ?_⟩
  · rw [setRow_other _ _ _ _ (by omega), setRow_other _ _ _ _ hk]
    exact hM3.old.block k hkl
  · exact below_setRow (below_setRow (hM3.old.mono (by omega)) hB _) (by omega) _

end Go.Proofs.Ytimgnpcojamafaa
