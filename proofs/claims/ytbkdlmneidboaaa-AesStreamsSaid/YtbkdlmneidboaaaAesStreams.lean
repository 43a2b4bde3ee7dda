/-
  THE WALK of AesStreams (coterielaw04).
-/
import Derived.Test.YtbkdlmneidboaaaRefAesG
import Derived.Test.YtbkdlmneidboaaaAesLive
set_option linter.unusedVariables false
namespace Go.Proofs.Ytbkdlmneidboaaa
open Go.RowKit

theorem own_lt {w : World} {base : Nat} {e : TypeId} {size : Nat} {v : Value} {n : Nat} {xs : List Value} (h : w.ownsRow base e size v n xs) : ∀ g, v.ownBlock = some g → g < w.heap.size := fun g hg => (h.lt g hg).2

set_option maxRecDepth 100000 in
set_option maxHeartbeats 2000000 in
theorem streams_up (k n b : List UInt8) (f m c : Nat) (A : Option Addr) (w : World) (hm : 600 < m) (hm2 : m ≤ 1048576) :
    Calls Try.prog 3 #[.agg (k.map bv).toArray, .agg (n.map bv).toArray, .int .u32 (f : Int), .slice A m c] w fun e w' => e = .returned (.bool true) ∧ Below w.heap.size w w' := by
  have m1 : (600 : Int) < (m : Int) := by omega
  have m2 : (m : Int) ≤ 1048576 := by omega
  have hB0 := ((Below.refl w.heap.size w).alloc (Nat.le_refl _) (.cells (k.map bv).toArray 23)).alloc (al0 _ _) (.cells (n.map bv).toArray 25)
  clear hm hm2
  go_enter Try.func3, Try.ntmps3
  go_wp2_with fail
  refine (live04 _).mono ?_
  rintro e w1 ⟨rfl, hb1⟩
  have hB1 := hB0.trans (hb1.mono hB0.size)
  go_wp2_with fail
  go_ret
  exact ⟨rfl, hB1⟩

set_option maxRecDepth 100000 in
set_option maxHeartbeats 2000000 in
theorem streams_no (E : Int) (k n b : List UInt8) (f m c : Nat) (A : Option Addr) (w : World) (hk : k.length = 16) (hn : n.length = 12) (hm : ¬ (600 < m ∧ m ≤ 1048576)) (hm47 : m ≤ 140737488355328) (hr : Rd w w.heap.size A m (b.map bv))
    (hP : ∀ wx, Calls Try.prog 14 #[.agg (k.map bv).toArray, .agg (n.map bv).toArray, .int .u32 (f : Int), .slice A m c] wx fun e w' => e = .returned (.tuple #[.slice none 0 0, .int .i64 E]) ∧ Below wx.heap.size wx w')
    (hD : ∀ wx, Calls Try.prog 15 #[.agg (k.map bv).toArray, .agg (n.map bv).toArray, .int .u32 (f : Int), .slice A m c] wx fun e w' => e = .returned (.tuple #[.slice none 0 0, .int .i64 E]) ∧ Below wx.heap.size wx w') :
    Calls Try.prog 3 #[.agg (k.map bv).toArray, .agg (n.map bv).toArray, .int .u32 (f : Int), .slice A m c] w fun e w' => e = .returned (.bool true) ∧ Below w.heap.size w w' := by
  have Hk := Lib.hid hk
  have Hn := Lib.hid hn
  have hC0 : Cst w ((w.alloc (.cells (k.map bv).toArray 23)).alloc (.cells (n.map bv).toArray 25)) k n b A m :=
    ⟨(ArrB.mk_ w 23 _ k rfl rfl).alloc _, ArrB.mk_ _ 25 _ n (by simp) rfl, (hr.alloc (Nat.le_refl _) _).alloc (al0 _ _) _, ((Below.refl w.heap.size w).alloc (Nat.le_refl _) _).alloc (al0 _ _) _⟩
  clear hk hn hr
  go_enter Try.func3, Try.ntmps3
  go_wp2_with fail
  refine (live04 _).mono ?_
  rintro e w1 ⟨rfl, hb1⟩
  have hC1 := hC0.call hb1
  clear hC0 hb1
  have hcond : decide ((600 : Int) < (m : Int)) = true → decide ((m : Int) ≤ 1048576) = false := fun h => decide_eq_false (fun h2 => hm ⟨by have := of_decide_eq_true h; omega, by omega⟩)
  go_upto_region 4 with (fail)
  go_cut [27] (fun q wx => q = .bool false ∧ w1 = wx)
  case first =>
    obtain ⟨e1, he1⟩ : ∃ e, decide ((600 : Int) < (m : Int)) = e := ⟨_, rfl⟩
    rw [he1] at hcond
    cases e1
    · clear hcond
      go_wp2_with fail
      go_meet
      exact ⟨rfl, rfl⟩
    · have he2 := hcond rfl
      clear hcond
      go_wp2_with fail
      go_meet
      exact ⟨rfl, rfl⟩
  case rest =>
  obtain ⟨rfl, rfl⟩ := hcut
  clear hcond hm
  go_wp2_with fail
  refine (Copy_all A m c b _ hm47 (hC1.txt.more hC1.bel.size)).mono ?_
  rintro e w2 ⟨Aw, cw, rfl, hown2, hb2⟩
  have hC2 := hC1.call hb2
  clear hC1 hb2
  go_wp2_with (first
    | ((with_reducible show wpList _ _ _ (⟨some 32, _, _, _, _, _⟩ :: _) _ _); refine wpList_load_row rfl 23 (.tmp 4) rfl w.heap.size rfl 23 (k.map bv).toArray (0, 0) _ hC2.key Try.underlying23 rfl (size16 Hk.out) ?_)
    | ((with_reducible show wpList _ _ _ (⟨some 33, _, _, _, _, _⟩ :: _) _ _); refine wpList_load_row rfl 25 (.tmp 5) rfl (w.heap.size + 1) rfl 25 (n.map bv).toArray (0, 0) _ hC2.non Try.underlying25 rfl (size12n Hn.out) ?_))
  refine (hP _).mono ?_
  rintro e w3 ⟨rfl, hb3⟩
  have hC3 := hC2.call hb3
  have hown3 := own_below_ hown2 hb3
  clear hC2 hb3 hown2
  go_wp2_with (first
    | ((with_reducible show wpList _ _ _ (⟨some 40, _, _, _, _, _⟩ :: _) _ _); refine wpList_load_row rfl 23 (.tmp 4) rfl w.heap.size rfl 23 (k.map bv).toArray (0, 0) _ hC3.key Try.underlying23 rfl (size16 Hk.out) ?_)
    | ((with_reducible show wpList _ _ _ (⟨some 41, _, _, _, _, _⟩ :: _) _ _); refine wpList_load_row rfl 25 (.tmp 5) rfl (w.heap.size + 1) rfl 25 (n.map bv).toArray (0, 0) _ hC3.non Try.underlying25 rfl (size12n Hn.out) ?_))
  refine (hD _).mono ?_
  rintro e w4 ⟨rfl, hb4⟩
  have hC4 := hC3.call hb4
  have hown4 := own_below_ hown3 hb4
  clear hC3 hb4 hown3 hP hD
  have hsm := fun wx => Same_any none none 0 0 0 0 [] [] wx 0 0 (Rd.zero _ _ _) (Rd.zero _ _ _)
  go_wp2_with fail
  refine (hsm _).mono ?_
  rintro e w5 ⟨rfl, rfl⟩
  rw [sameB_refl]
  have hEE : ∀ z : Int, (z == z) = true := fun z => by simp
  go_wp2_with fail
  go_loopw [57] (fun i wr => i = .int .i64 0 ∧ w4 = wr) (fun _ _ => 0)
  case atStart => exact ⟨rfl, rfl⟩
  case round =>
    obtain ⟨rfl, rfl⟩ := hrel
    have hsb := fun B B' (h1 : Rd w4 B A m (b.map bv)) (h2 : Rd w4 B' Aw m (b.map bv)) => Same_any A Aw m c m cw b b w4 B B' h1 h2
    go_wp2_with fail
    refine (hsb _ _ hC4.txt (Rd.of_own hown4)).mono ?_
    rintro e w6 ⟨rfl, rfl⟩
    rw [sameB_refl]
    go_wp2_with fail
    go_ret
    exact ⟨rfl, hC4.bel⟩

theorem wrap_more (y : UInt8) : IntKind.u8.wrap ((y.toNat : Int) + 1) = ((y + 1).toNat : Int) := by
  rw [IntKind.wrap_u8, UInt8.toNat_add]
  simp

set_option maxRecDepth 100000 in
set_option maxHeartbeats 2000000 in
theorem streams_ok (k n b : List UInt8) (f m c : Nat) (A : Option Addr) (w : World) (hk : k.length = 16) (hn : n.length = 12) (hf : f < 4294967296) (hm : m ≤ 600) (hfit : f + nbs m ≤ 4294967296) (hr : Rd w w.heap.size A m (b.map bv)) :
    Calls Try.prog 3 #[.agg (k.map bv).toArray, .agg (n.map bv).toArray, .int .u32 (f : Int), .slice A m c] w fun e w' => e = .returned (.bool true) ∧ Below w.heap.size w w' := by
  have Hk := Lib.hid hk
  have Hn := Lib.hid hn
  have Hm := Lib.hid hm
  have hP := fun wx (h : Rd wx wx.heap.size A m (b.map bv)) => Ctr_ok k n b f m c A wx hk hn hf h (by omega) hfit
  have hD := fun wx (h : Rd wx wx.heap.size A m (b.map bv)) => RCtr_ok k n b f m c A wx hk hn hf h (by omega) hfit
  have hC0 : Cst w ((w.alloc (.cells (k.map bv).toArray 23)).alloc (.cells (n.map bv).toArray 25)) k n b A m :=
    ⟨(ArrB.mk_ w 23 _ k rfl rfl).alloc _, ArrB.mk_ _ 25 _ n (by simp) rfl, (hr.alloc (Nat.le_refl _) _).alloc (al0 _ _) _, ((Below.refl w.heap.size w).alloc (Nat.le_refl _) _).alloc (al0 _ _) _⟩
  have m1 : (m : Int) ≤ 600 := by omega
  have HUl := Lib.hid (show (ctrU k n f b).length = m by rw [ctrU_len]; have := hr.len; simpa using this)
  generalize ctrU k n f b = U at *
  clear hk hn hr hf hm hfit
  go_enter Try.func3, Try.ntmps3
  go_wp2_with fail
  refine (live04 _).mono ?_
  rintro e w1 ⟨rfl, hb1⟩
  have hC1 := hC0.call hb1
  clear hC0 hb1
  go_wp2_with fail
  refine (Copy_all A m c b _ (by have := Hm.out; omega) (hC1.txt.more hC1.bel.size)).mono ?_
  rintro e w2 ⟨Aw, cw, rfl, hown2, hb2⟩
  have hC2 := hC1.call hb2
  have HW := Lib.hid (own_lt hown2)
  have H2 := Lib.hid hC2.size
  clear hC1 hb2
  go_wp2_with (first
    | ((with_reducible show wpList _ _ _ (⟨some 32, _, _, _, _, _⟩ :: _) _ _); refine wpList_load_row rfl 23 (.tmp 4) rfl w.heap.size rfl 23 (k.map bv).toArray (0, 0) _ hC2.key Try.underlying23 rfl (size16 Hk.out) ?_)
    | ((with_reducible show wpList _ _ _ (⟨some 33, _, _, _, _, _⟩ :: _) _ _); refine wpList_load_row rfl 25 (.tmp 5) rfl (w.heap.size + 1) rfl 25 (n.map bv).toArray (0, 0) _ hC2.non Try.underlying25 rfl (size12n Hn.out) ?_))
  refine (hP _ (hC2.txt.more hC2.bel.size)).mono ?_
  rintro e w3 ⟨Ax, cx, rfl, hownx, hb3⟩
  have hC3 := hC2.call hb3
  have hown3 := own_below_ hown2 hb3
  clear hC2 hb3 hown2
  go_wp2_with (first
    | ((with_reducible show wpList _ _ _ (⟨some 40, _, _, _, _, _⟩ :: _) _ _); refine wpList_load_row rfl 23 (.tmp 4) rfl w.heap.size rfl 23 (k.map bv).toArray (0, 0) _ hC3.key Try.underlying23 rfl (size16 Hk.out) ?_)
    | ((with_reducible show wpList _ _ _ (⟨some 41, _, _, _, _, _⟩ :: _) _ _); refine wpList_load_row rfl 25 (.tmp 5) rfl (w.heap.size + 1) rfl 25 (n.map bv).toArray (0, 0) _ hC3.non Try.underlying25 rfl (size12n Hn.out) ?_))
  refine (hD _ (hC3.txt.more hC3.bel.size)).mono ?_
  rintro e w4 ⟨Ay, cy, rfl, howny, hb4⟩
  have hC4 := hC3.call hb4
  have hown4 := own_below_ hown3 hb4
  have hownx4 := own_below_ hownx hb4
  clear hC3 hb4 hown3 hP hD hownx
  have hsm := Same_any Ax Ay m cx m cy U U w4 _ _ (Rd.of_own hownx4) (Rd.of_own howny)
  go_wp2_with fail
  refine hsm.mono ?_
  rintro e w5 ⟨rfl, rfl⟩
  rw [sameB_refl]
  clear howny hsm
  go_wp2_with fail
  go_loopw [57] (fun i wr => ∃ (j : Nat) (ys : List UInt8), j ≤ m ∧ i = .int .i64 (j : Int) ∧ Hid (ys.length = m) ∧ wr.ownsRow w2.heap.size 5 1 (.slice Ax m cx) m (ys.map bv) ∧ wr.ownsRow w1.heap.size 5 1 (.slice Aw m cw) m (b.map bv) ∧ Cst w wr k n b A m) (fun i _ => (m - intOf i).toNat)
  case atStart => exact ⟨0, U, Nat.zero_le _, rfl, HUl, hownx4, hown4, hC4⟩
  case round =>
    clear hownx4 hown4 hC4
    obtain ⟨j, ys, hj, rfl, Hy, hownx, hownw, hC⟩ := hrel
    by_cases hlt : j < m
    · obtain ⟨g, cap, hv, hg, hgl⟩ := hownx.form (by omega)
      obtain rfl : Ax = some ⟨g, 0, none⟩ := by injection hv
      have hyj := at0_of (l := ys) (i := j) (by rw [Hy.out]; exact hlt)
      have hcl := hownx.cells (g := g) rfl j (bv (at0 ys j)) (by rw [List.getElem?_map, hyj]; rfl)
      rw [Addr.add_lit, Nat.zero_add] at hcl
      have hfl := own_free hownx j
      have hwr := wrap_more (at0 ys j)
      have hset := own_set hownx hlt (bv (at0 ys j + 1))
      rw [← List.map_set] at hset
      have hC2 := hC.setCell (p := ⟨g, j, none⟩) (by have := H2.out; show w.heap.size + 2 ≤ g; omega) (bv (at0 ys j + 1))
      have hw2 := own_set_far (p := ⟨g, j, none⟩) hownw (fun x hx => by have := HW.out x hx; show x ≠ g; omega) (bv (at0 ys j + 1))
      have Hy2 := Lib.hid (show (ys.set j (at0 ys j + 1)).length = m by rw [List.length_set, Hy.out])
      have j0 : 0 ≤ (j : Int) := by omega
      have j1 : (j : Int) < (m : Int) := by omega
      have Hlt := Lib.hid hlt
      rw [bv] at hcl hset hC2 hw2
      clear hownx hownw hC hyj hv hlt
      generalize ys.set j (at0 ys j + 1) = zs at *
      generalize (at0 ys j + 1) = z at *
      generalize at0 ys j = y at *
      go_wp2_with fail
      exact ⟨⟨j + 1, zs, Hlt.out, by have := Hm.out; go_num, Hy2, hset, hw2, hC2⟩, by have := Hlt.out; simp [intOf]; omega⟩
    · obtain rfl : j = m := by omega
      have hsb := Same_any A Aw j c j cw b b wr _ _ hC.txt (Rd.of_own hownw)
      go_wp2_with fail
      refine hsb.mono ?_
      rintro e w6 ⟨rfl, rfl⟩
      rw [sameB_refl]
      go_wp2_with fail
      go_ret
      exact ⟨rfl, hC.bel⟩

theorem walk_AesStreams (k n : List UInt8) (f : Nat) (A : Option Addr) (m c : Nat) (b : List UInt8) (w : World) (hk : k.length = 16) (hn : n.length = 12) (hf : f < 4294967296) (hmc : m ≤ c) (hm63 : c ≤ maxLen) (hr : Rd w w.heap.size A m (b.map bv)) (hm47 : m ≤ 140737488355328) :
    Calls Try.prog 3 #[.agg (k.map bv).toArray, .agg (n.map bv).toArray, .int .u32 (f : Int), .slice A m c] w fun e w' => e = .returned (.bool true) ∧ Below w.heap.size w w' := by
  by_cases h1 : 1048576 < m
  · exact streams_no 4 k n b f m c A w hk hn (by omega) hm47 hr (fun wx => Ctr_long k n f m c A wx h1) (fun wx => RCtr_long k n f m c A wx h1)
  · by_cases h2 : 600 < m
    · exact streams_up k n b f m c A w h2 (by omega)
    · by_cases h3 : 4294967296 < f + nbs m
      · exact streams_no 1 k n b f m c A w hk hn (by omega) hm47 hr (fun wx => Ctr_arg k n f m c A wx hf (by omega) h3) (fun wx => RCtr_arg k n f m c A wx hf (by omega) h3)
      · exact streams_ok k n b f m c A w hk hn hf (by omega) (by omega) hr

end Go.Proofs.Ytbkdlmneidboaaa
