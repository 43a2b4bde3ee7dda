/-
  CONTRACT of the program's product (package fe).
-/
import Derived.Test.YtimgnpcojamafaaFeP2
import Derived.Test.YtimgnpcojamafaaFeP3
import Derived.Test.YtimgnpcojamafaaFeP4
import Derived.Test.YtimgnpcojamafaaFeP5
import Derived.Test.YtimgnpcojamafaaFeP6
set_option linter.unusedVariables false
namespace Go.Proofs.Ytimgnpcojamafaa
open Go.RowKit

set_option maxRecDepth 100000 in
set_option maxHeartbeats 40000000 in
theorem product_any (a b : Fe5) (w : World) (ha : MayF a) (hb : MayF b) :
    Calls Try.prog 44 #[.agg (feC a), .agg (feC b)] w fun e w' => e = .returned (.agg (feC (mulQ a b))) ∧ Below w.heap.size w w' := by
  have Hlow := Lib.hid (prodS_low ha hb)
  have Hword := Lib.hid (mulQ_word ha hb)
  generalize hans : mulQ a b = ans
  have Hans0 := Lib.hid hans
  clear hans
  generalize hfa : feC ans = fa
  have Hfa := Lib.hid hfa
  clear hfa
  obtain ⟨x0, x1, x2, x3, x4⟩ := a
  obtain ⟨y0, y1, y2, y3, y4⟩ := b
  obtain ⟨hx0, hx1, hx2, hx3, hx4⟩ := ha
  obtain ⟨hy0, hy1, hy2, hy3, hy4⟩ := hb
  simp only at hx0 hx1 hx2 hx3 hx4 hy0 hy1 hy2 hy3 hy4
  have px0 : Part x0 := hx0
  have px1 : Part x1 := hx1
  have px2 : Part x2 := hx2
  have px3 : Part x3 := hx3
  have px4 : Part x4 := hx4
  have py0 : Part19 y0 := by unfold Part19; omega
  have py1 : Part19 y1 := by unfold Part19; omega
  have py2 : Part19 y2 := by unfold Part19; omega
  have py3 : Part19 y3 := by unfold Part19; omega
  have py4 : Part19 y4 := by unfold Part19; omega
  have pz1 : Part19 (19 * y1) := by unfold Part19; omega
  have pz2 : Part19 (19 * y2) := by unfold Part19; omega
  have pz3 : Part19 (19 * y3) := by unfold Part19; omega
  have pz4 : Part19 (19 * y4) := by unfold Part19; omega
  have w1 : IntKind.u64.wrap (19 * (y1 : Int)) = ((19 * y1 : Nat) : Int) := wrap_nat (by omega) (by omega)
  have w2 : IntKind.u64.wrap (19 * (y2 : Int)) = ((19 * y2 : Nat) : Int) := wrap_nat (by omega) (by omega)
  have w3 : IntKind.u64.wrap (19 * (y3 : Int)) = ((19 * y3 : Nat) : Int) := wrap_nat (by omega) (by omega)
  have w4 : IntKind.u64.wrap (19 * (y4 : Int)) = ((19 * y4 : Nat) : Int) := wrap_nat (by omega) (by omega)
  obtain ⟨z1, hz1⟩ : ∃ z, z = 19 * y1 := ⟨_, rfl⟩
  obtain ⟨z2, hz2⟩ : ∃ z, z = 19 * y2 := ⟨_, rfl⟩
  obtain ⟨z3, hz3⟩ : ∃ z, z = 19 * y3 := ⟨_, rfl⟩
  obtain ⟨z4, hz4⟩ : ∃ z, z = 19 * y4 := ⟨_, rfl⟩
  rw [← hz1] at w1 pz1
  rw [← hz2] at w2 pz2
  rw [← hz3] at w3 pz3
  rw [← hz4] at w4 pz4
  have Hz1 := Lib.hid hz1
  have Hz2 := Lib.hid hz2
  have Hz3 := Lib.hid hz3
  have Hz4 := Lib.hid hz4
  clear hz1 hz2 hz3 hz4 hx0 hx1 hx2 hx3 hx4 hy0 hy1 hy2 hy3 hy4
  simp only [feC]
  go_enter Try.func44, Try.ntmps44
  go_wp2_with fail
  go_quiet (fail)
  go_wp2_with fail
  have hM := ((((Ms.nil w).box 35 #[.int .u64 (x0 : Int), .int .u64 (x1 : Int), .int .u64 (x2 : Int), .int .u64 (x3 : Int), .int .u64 (x4 : Int)]).box 35 #[.int .u64 (y0 : Int), .int .u64 (y1 : Int), .int .u64 (y2 : Int), .int .u64 (y3 : Int), .int .u64 (y4 : Int)]).box 35 #[.int .u64 0, .int .u64 0, .int .u64 0, .int .u64 0, .int .u64 0])
  simp only [World.size_alloc] at hM
  refine wp_gen (fun wx => Ms w wx [(w.heap.size + 1 + 1, 35, #[.int .u64 0, .int .u64 0, .int .u64 0, .int .u64 0, .int .u64 0]), (w.heap.size + 1, 35, #[.int .u64 (y0 : Int), .int .u64 (y1 : Int), .int .u64 (y2 : Int), .int .u64 (y3 : Int), .int .u64 (y4 : Int)]), (w.heap.size, 35, #[.int .u64 (x0 : Int), .int .u64 (x1 : Int), .int .u64 (x2 : Int), .int .u64 (x3 : Int), .int .u64 (x4 : Int)])]) (hM.drewN _) ?_
  clear hM w1 w2 w3 w4
  rintro v1 hM1
  have hent : ∀ args w, (callFunc 49 args).run Try.prog w = .ok (.enter 49 args) w := enters_of Try.func49 (by kernel_rfl) rfl
  have hkeep : ∀ wx : World, Below v1.heap.size v1 wx → PartsAt w.heap.size (w.heap.size + 1) x0 x1 x2 x3 x4 y0 y1 y2 y3 y4 wx := fun wx hb => ⟨((hM1.get 2 rfl).call hb).cell rfl, ((hM1.get 2 rfl).call hb).cell rfl, ((hM1.get 2 rfl).call hb).cell rfl, ((hM1.get 2 rfl).call hb).cell rfl, ((hM1.get 2 rfl).call hb).cell rfl, ((hM1.get 1 rfl).call hb).cell rfl, ((hM1.get 1 rfl).call hb).cell rfl, ((hM1.get 1 rfl).call hb).cell rfl, ((hM1.get 1 rfl).call hb).cell rfl, ((hM1.get 1 rfl).call hb).cell rfl⟩
  go_cut [9] (fun p wx => ∃ g p' q' : Nat, p = .pointer (some ⟨g, 0, none⟩) ∧ IsW p' q' (x0 * y0 + x1 * z4 + x2 * z3 + x3 * z2 + x4 * z1) 5 ∧ ∀ L, Ms w v1 L → Ms w wx ((g, 72, wideC p' q') :: L))
  case first =>
    refine prod_reg2 w v1 x0 x1 x2 x3 x4 y0 y1 y2 y3 y4 z1 z2 z3 z4 px0 px1 px2 px3 px4 py0 py1 py2 py3 py4 pz1 pz2 pz3 pz4 hkeep _ _ _ _ _ _ _ _ _ _ _ _ _ _ _ _ _ _ _ _ _ _ _ _ _ _ _ _ _ _ _ _ _ _ _ _ _ _ _ _ _ _ _ _ _ _ _ _ _ _ _ _ _ _ _ _ _ _ _ _ _ _ _ _ _ _ _ _ _ _ _ _ _ _ _ _ _ _ _ _ _ _ _ _ _ _ _ _ _ _ _ _ _ _ _ _ _ _ _ _ _ _ _ _ _ _ _ _ _ _ _ _ _ _ _ _ _ _ _ _ _ _ _ _ _ _ _ _ _ _ _ _ _ _ _ _ _ _ _ _ _ _ _ _ _ _ _ _ _ _ _ _ _ _ _ _ _ _ _ _ _ _ _ _ _ _ _ _ _ (fun _ _ _ _ _ hq => hq) ?_
    intro g p q wx s26 s27 s28 s29 s30 s31 s32 s33 s34 s35 s36 s37 s38 s39 s40 s41 s42 s43 s44 s45 s46 s47 hi hm
    go_wp2_with fail
    go_meet
    exact ⟨_, _, _, rfl, hi, hm⟩
  rename World => v2
  obtain ⟨g0, c0, d0, rfl, hI0, hM2⟩ := hcut
  replace hM2 := hM2 _ hM1
  clear hkeep hM1
  go_wp2_with fail
  have hkeep : ∀ wx : World, Below v2.heap.size v2 wx → PartsAt w.heap.size (w.heap.size + 1) x0 x1 x2 x3 x4 y0 y1 y2 y3 y4 wx := fun wx hb => ⟨((hM2.get 3 rfl).call hb).cell rfl, ((hM2.get 3 rfl).call hb).cell rfl, ((hM2.get 3 rfl).call hb).cell rfl, ((hM2.get 3 rfl).call hb).cell rfl, ((hM2.get 3 rfl).call hb).cell rfl, ((hM2.get 2 rfl).call hb).cell rfl, ((hM2.get 2 rfl).call hb).cell rfl, ((hM2.get 2 rfl).call hb).cell rfl, ((hM2.get 2 rfl).call hb).cell rfl, ((hM2.get 2 rfl).call hb).cell rfl⟩
  go_cut [10] (fun p wx => ∃ g p' q' : Nat, p = .pointer (some ⟨g, 0, none⟩) ∧ IsW p' q' (x0 * y1 + x1 * y0 + x2 * z4 + x3 * z3 + x4 * z2) 5 ∧ ∀ L, Ms w v2 L → Ms w wx ((g, 72, wideC p' q') :: L))
  case first =>
    refine prod_reg3 w v2 x0 x1 x2 x3 x4 y0 y1 y2 y3 y4 z1 z2 z3 z4 px0 px1 px2 px3 px4 py0 py1 py2 py3 py4 pz1 pz2 pz3 pz4 hkeep _ _ _ _ _ _ _ _ _ _ _ _ _ _ _ _ _ _ _ _ _ _ _ _ _ _ _ _ _ _ _ _ _ _ _ _ _ _ _ _ _ _ _ _ _ _ _ _ _ _ _ _ _ _ _ _ _ _ _ _ _ _ _ _ _ _ _ _ _ _ _ _ _ _ _ _ _ _ _ _ _ _ _ _ _ _ _ _ _ _ _ _ _ _ _ _ _ _ _ _ _ _ _ _ _ _ _ _ _ _ _ _ _ _ _ _ _ _ _ _ _ _ _ _ _ _ _ _ _ _ _ _ _ _ _ _ _ _ _ _ _ _ _ _ _ _ _ _ _ _ _ _ _ _ _ _ _ _ _ _ _ _ _ _ _ _ _ _ _ (fun _ _ _ _ _ hq => hq) ?_
    intro g p q wx s48 s49 s50 s51 s52 s53 s54 s55 s56 s57 s58 s59 s60 s61 s62 s63 s64 s65 s66 s67 s68 s69 s70 hi hm
    go_wp2_with fail
    go_meet
    exact ⟨_, _, _, rfl, hi, hm⟩
  rename World => v3
  obtain ⟨g1, c1, d1, rfl, hI1, hM3⟩ := hcut
  replace hM3 := hM3 _ hM2
  clear hkeep hM2
  go_wp2_with fail
  have hkeep : ∀ wx : World, Below v3.heap.size v3 wx → PartsAt w.heap.size (w.heap.size + 1) x0 x1 x2 x3 x4 y0 y1 y2 y3 y4 wx := fun wx hb => ⟨((hM3.get 4 rfl).call hb).cell rfl, ((hM3.get 4 rfl).call hb).cell rfl, ((hM3.get 4 rfl).call hb).cell rfl, ((hM3.get 4 rfl).call hb).cell rfl, ((hM3.get 4 rfl).call hb).cell rfl, ((hM3.get 3 rfl).call hb).cell rfl, ((hM3.get 3 rfl).call hb).cell rfl, ((hM3.get 3 rfl).call hb).cell rfl, ((hM3.get 3 rfl).call hb).cell rfl, ((hM3.get 3 rfl).call hb).cell rfl⟩
  go_cut [11] (fun p wx => ∃ g p' q' : Nat, p = .pointer (some ⟨g, 0, none⟩) ∧ IsW p' q' (x0 * y2 + x1 * y1 + x2 * y0 + x3 * z4 + x4 * z3) 5 ∧ ∀ L, Ms w v3 L → Ms w wx ((g, 72, wideC p' q') :: L))
  case first =>
    refine prod_reg4 w v3 x0 x1 x2 x3 x4 y0 y1 y2 y3 y4 z1 z2 z3 z4 px0 px1 px2 px3 px4 py0 py1 py2 py3 py4 pz1 pz2 pz3 pz4 hkeep _ _ _ _ _ _ _ _ _ _ _ _ _ _ _ _ _ _ _ _ _ _ _ _ _ _ _ _ _ _ _ _ _ _ _ _ _ _ _ _ _ _ _ _ _ _ _ _ _ _ _ _ _ _ _ _ _ _ _ _ _ _ _ _ _ _ _ _ _ _ _ _ _ _ _ _ _ _ _ _ _ _ _ _ _ _ _ _ _ _ _ _ _ _ _ _ _ _ _ _ _ _ _ _ _ _ _ _ _ _ _ _ _ _ _ _ _ _ _ _ _ _ _ _ _ _ _ _ _ _ _ _ _ _ _ _ _ _ _ _ _ _ _ _ _ _ _ _ _ _ _ _ _ _ _ _ _ _ _ _ _ _ _ _ _ _ _ _ _ (fun _ _ _ _ _ hq => hq) ?_
    intro g p q wx s71 s72 s73 s74 s75 s76 s77 s78 s79 s80 s81 s82 s83 s84 s85 s86 s87 s88 s89 s90 s91 s92 s93 s94 hi hm
    go_wp2_with fail
    go_meet
    exact ⟨_, _, _, rfl, hi, hm⟩
  rename World => v4
  obtain ⟨g2, c2, d2, rfl, hI2, hM4⟩ := hcut
  replace hM4 := hM4 _ hM3
  clear hkeep hM3
  go_wp2_with fail
  have hkeep : ∀ wx : World, Below v4.heap.size v4 wx → PartsAt w.heap.size (w.heap.size + 1) x0 x1 x2 x3 x4 y0 y1 y2 y3 y4 wx := fun wx hb => ⟨((hM4.get 5 rfl).call hb).cell rfl, ((hM4.get 5 rfl).call hb).cell rfl, ((hM4.get 5 rfl).call hb).cell rfl, ((hM4.get 5 rfl).call hb).cell rfl, ((hM4.get 5 rfl).call hb).cell rfl, ((hM4.get 4 rfl).call hb).cell rfl, ((hM4.get 4 rfl).call hb).cell rfl, ((hM4.get 4 rfl).call hb).cell rfl, ((hM4.get 4 rfl).call hb).cell rfl, ((hM4.get 4 rfl).call hb).cell rfl⟩
  go_cut [12] (fun p wx => ∃ g p' q' : Nat, p = .pointer (some ⟨g, 0, none⟩) ∧ IsW p' q' (x0 * y3 + x1 * y2 + x2 * y1 + x3 * y0 + x4 * z4) 5 ∧ ∀ L, Ms w v4 L → Ms w wx ((g, 72, wideC p' q') :: L))
  case first =>
    refine prod_reg5 w v4 x0 x1 x2 x3 x4 y0 y1 y2 y3 y4 z1 z2 z3 z4 px0 px1 px2 px3 px4 py0 py1 py2 py3 py4 pz1 pz2 pz3 pz4 hkeep _ _ _ _ _ _ _ _ _ _ _ _ _ _ _ _ _ _ _ _ _ _ _ _ _ _ _ _ _ _ _ _ _ _ _ _ _ _ _ _ _ _ _ _ _ _ _ _ _ _ _ _ _ _ _ _ _ _ _ _ _ _ _ _ _ _ _ _ _ _ _ _ _ _ _ _ _ _ _ _ _ _ _ _ _ _ _ _ _ _ _ _ _ _ _ _ _ _ _ _ _ _ _ _ _ _ _ _ _ _ _ _ _ _ _ _ _ _ _ _ _ _ _ _ _ _ _ _ _ _ _ _ _ _ _ _ _ _ _ _ _ _ _ _ _ _ _ _ _ _ _ _ _ _ _ _ _ _ _ _ _ _ _ _ _ _ _ _ _ (fun _ _ _ _ _ hq => hq) ?_
    intro g p q wx s95 s96 s97 s98 s99 s100 s101 s102 s103 s104 s105 s106 s107 s108 s109 s110 s111 s112 s113 s114 s115 s116 s117 s118 s119 hi hm
    go_wp2_with fail
    go_meet
    exact ⟨_, _, _, rfl, hi, hm⟩
  rename World => v5
  obtain ⟨g3, c3, d3, rfl, hI3, hM5⟩ := hcut
  replace hM5 := hM5 _ hM4
  clear hkeep hM4
  go_wp2_with fail
  have hkeep : ∀ wx : World, Below v5.heap.size v5 wx → PartsAt w.heap.size (w.heap.size + 1) x0 x1 x2 x3 x4 y0 y1 y2 y3 y4 wx := fun wx hb => ⟨((hM5.get 6 rfl).call hb).cell rfl, ((hM5.get 6 rfl).call hb).cell rfl, ((hM5.get 6 rfl).call hb).cell rfl, ((hM5.get 6 rfl).call hb).cell rfl, ((hM5.get 6 rfl).call hb).cell rfl, ((hM5.get 5 rfl).call hb).cell rfl, ((hM5.get 5 rfl).call hb).cell rfl, ((hM5.get 5 rfl).call hb).cell rfl, ((hM5.get 5 rfl).call hb).cell rfl, ((hM5.get 5 rfl).call hb).cell rfl⟩
  go_cut [13] (fun p wx => ∃ g p' q' : Nat, p = .pointer (some ⟨g, 0, none⟩) ∧ IsW p' q' (x0 * y4 + x1 * y3 + x2 * y2 + x3 * y1 + x4 * y0) 5 ∧ ∀ L, Ms w v5 L → Ms w wx ((g, 72, wideC p' q') :: L))
  case first =>
    refine prod_reg6 w v5 x0 x1 x2 x3 x4 y0 y1 y2 y3 y4 z1 z2 z3 z4 px0 px1 px2 px3 px4 py0 py1 py2 py3 py4 pz1 pz2 pz3 pz4 hkeep _ _ _ _ _ _ _ _ _ _ _ _ _ _ _ _ _ _ _ _ _ _ _ _ _ _ _ _ _ _ _ _ _ _ _ _ _ _ _ _ _ _ _ _ _ _ _ _ _ _ _ _ _ _ _ _ _ _ _ _ _ _ _ _ _ _ _ _ _ _ _ _ _ _ _ _ _ _ _ _ _ _ _ _ _ _ _ _ _ _ _ _ _ _ _ _ _ _ _ _ _ _ _ _ _ _ _ _ _ _ _ _ _ _ _ _ _ _ _ _ _ _ _ _ _ _ _ _ _ _ _ _ _ _ _ _ _ _ _ _ _ _ _ _ _ _ _ _ _ _ _ _ _ _ _ _ _ _ _ _ _ _ _ _ _ _ _ _ _ (fun _ _ _ _ _ hq => hq) ?_
    intro g p q wx s120 s121 s122 s123 s124 s125 s126 s127 s128 s129 s130 s131 s132 s133 s134 s135 s136 s137 s138 s139 s140 s141 s142 s143 s144 s145 hi hm
    go_wp2_with fail
    go_meet
    exact ⟨_, _, _, rfl, hi, hm⟩
  rename World => v6
  obtain ⟨g4, c4, d4, rfl, hI4, hM6⟩ := hcut
  replace hM6 := hM6 _ hM5
  clear hkeep hM5
  go_wp2_with fail
  have e0 := hI0.wide
  have e1 := hI1.wide
  have e2 := hI2.wide
  have e3 := hI3.wide
  have e4 := hI4.wide
  generalize hs0 : x0 * y0 + x1 * z4 + x2 * z3 + x3 * z2 + x4 * z1 = s0 at *
  generalize hs1 : x0 * y1 + x1 * y0 + x2 * z4 + x3 * z3 + x4 * z2 = s1 at *
  generalize hs2 : x0 * y2 + x1 * y1 + x2 * y0 + x3 * z4 + x4 * z3 = s2 at *
  generalize hs3 : x0 * y3 + x1 * y2 + x2 * y1 + x3 * y0 + x4 * z4 = s3 at *
  generalize hs4 : x0 * y4 + x1 * y3 + x2 * y2 + x3 * y1 + x4 * y0 = s4 at *
  have hP : prodS ⟨x0, x1, x2, x3, x4⟩ ⟨y0, y1, y2, y3, y4⟩ = ⟨s0, s1, s2, s3, s4⟩ := by
    rw [← hs0, ← hs1, ← hs2, ← hs3, ← hs4, Hz1.out, Hz2.out, Hz3.out, Hz4.out]
    rfl
  have hlow := Hlow.out
  have hword := Hword.out
  rw [hP] at hlow hword
  obtain ⟨l0, l1, l2, l3, l4⟩ := hlow
  simp only at l0 l1 l2 l3 l4
  have Hans := Lib.hid (show mulQ ⟨x0, x1, x2, x3, x4⟩ ⟨y0, y1, y2, y3, y4⟩ = carU (carU ⟨s0, s1, s2, s3, s4⟩) by rw [mulQ, hP])
  clear hP hs0 hs1 hs2 hs3 hs4 Hlow Hword Hz1 Hz2 Hz3 Hz4 hI0 hI1 hI2 hI3 hI4 px0 px1 px2 px3 px4 py0 py1 py2 py3 py4 pz1 pz2 pz3 pz4
  have kk0 := fun wx => kept_any s0 wx
  have ko0 := fun wx => over_any s0 (by omega) wx
  rw [← e0] at kk0 ko0
  have kk1 := fun wx => kept_any s1 wx
  have ko1 := fun wx => over_any s1 (by omega) wx
  rw [← e1] at kk1 ko1
  have kk2 := fun wx => kept_any s2 wx
  have ko2 := fun wx => over_any s2 (by omega) wx
  rw [← e2] at kk2 ko2
  have kk3 := fun wx => kept_any s3 wx
  have ko3 := fun wx => over_any s3 (by omega) wx
  rw [← e3] at kk3 ko3
  have kk4 := fun wx => kept_any s4 wx
  have ko4 := fun wx => over_any s4 (by omega) wx
  rw [← e4] at kk4 ko4
  have hc : ∀ wx, Calls Try.prog 43 #[.agg (feC (carU ⟨s0, s1, s2, s3, s4⟩))] wx fun e w' => e = .returned (.agg (feC (carU (carU ⟨s0, s1, s2, s3, s4⟩)))) ∧ Below wx.heap.size wx w' := fun wx => carried_any _ wx hword
  rw [← Hans.out, Hans0.out] at hc
  have hcc : (.agg (feC (carU ⟨s0, s1, s2, s3, s4⟩)) : Value) = .agg #[.int .u64 ((s0 % 2251799813685248 + 19 * (s4 / 2251799813685248) : Nat) : Int), .int .u64 ((s1 % 2251799813685248 + s0 / 2251799813685248 : Nat) : Int), .int .u64 ((s2 % 2251799813685248 + s1 / 2251799813685248 : Nat) : Int), .int .u64 ((s3 % 2251799813685248 + s2 / 2251799813685248 : Nat) : Int), .int .u64 ((s4 % 2251799813685248 + s3 / 2251799813685248 : Nat) : Int)] := rfl
  rw [hcc] at hc
  clear hcc hword
  have b0 : IntKind.u64.wrap (19 * ((s4 / 2251799813685248 : Nat) : Int)) = ((19 * (s4 / 2251799813685248) : Nat) : Int) := wrap_nat (by omega) (by omega)
  have b1 : IntKind.u64.wrap (((s0 % 2251799813685248 : Nat) : Int) + ((19 * (s4 / 2251799813685248) : Nat) : Int)) = ((s0 % 2251799813685248 + 19 * (s4 / 2251799813685248) : Nat) : Int) := wrap_nat (by omega) (by omega)
  have b2 : IntKind.u64.wrap (((s1 % 2251799813685248 : Nat) : Int) + ((s0 / 2251799813685248 : Nat) : Int)) = ((s1 % 2251799813685248 + s0 / 2251799813685248 : Nat) : Int) := wrap_nat (by omega) (by omega)
  have b3 : IntKind.u64.wrap (((s2 % 2251799813685248 : Nat) : Int) + ((s1 / 2251799813685248 : Nat) : Int)) = ((s2 % 2251799813685248 + s1 / 2251799813685248 : Nat) : Int) := wrap_nat (by omega) (by omega)
  have b4 : IntKind.u64.wrap (((s3 % 2251799813685248 : Nat) : Int) + ((s2 / 2251799813685248 : Nat) : Int)) = ((s3 % 2251799813685248 + s2 / 2251799813685248 : Nat) : Int) := wrap_nat (by omega) (by omega)
  have b5 : IntKind.u64.wrap (((s4 % 2251799813685248 : Nat) : Int) + ((s3 / 2251799813685248 : Nat) : Int)) = ((s4 % 2251799813685248 + s3 / 2251799813685248 : Nat) : Int) := wrap_nat (by omega) (by omega)
  clear l0 l1 l2 l3 l4 e0 e1 e2 e3 e4
  generalize s0 % 2251799813685248 + 19 * (s4 / 2251799813685248) = r0 at *
  generalize 19 * (s4 / 2251799813685248) = m4 at *
  generalize s1 % 2251799813685248 + s0 / 2251799813685248 = r1 at *
  generalize s2 % 2251799813685248 + s1 / 2251799813685248 = r2 at *
  generalize s3 % 2251799813685248 + s2 / 2251799813685248 = r3 at *
  generalize s4 % 2251799813685248 + s3 / 2251799813685248 = r4 at *
  generalize s0 % 2251799813685248 = k0 at *
  generalize s0 / 2251799813685248 = o0 at *
  generalize s1 % 2251799813685248 = k1 at *
  generalize s1 / 2251799813685248 = o1 at *
  generalize s2 % 2251799813685248 = k2 at *
  generalize s2 / 2251799813685248 = o2 at *
  generalize s3 % 2251799813685248 = k3 at *
  generalize s3 / 2251799813685248 = o3 at *
  generalize s4 % 2251799813685248 = k4 at *
  generalize s4 / 2251799813685248 = o4 at *
  clear Hans Hans0
  have hkeep : ∀ wx : World, Below v6.heap.size v6 wx → (fun wx => wx.rangeAt g0 0 [.int .u64 (c0 : Int), .int .u64 (d0 : Int)] ∧ wx.rangeAt g1 0 [.int .u64 (c1 : Int), .int .u64 (d1 : Int)] ∧ wx.rangeAt g2 0 [.int .u64 (c2 : Int), .int .u64 (d2 : Int)] ∧ wx.rangeAt g3 0 [.int .u64 (c3 : Int), .int .u64 (d3 : Int)] ∧ wx.rangeAt g4 0 [.int .u64 (c4 : Int), .int .u64 (d4 : Int)]) wx := fun wx hb => ⟨(((hM6.get 4 rfl).call hb)).range, (((hM6.get 3 rfl).call hb)).range, (((hM6.get 2 rfl).call hb)).range, (((hM6.get 1 rfl).call hb)).range, (((hM6.get 0 rfl).call hb)).range⟩
  have hent1 : ∀ args w, (callFunc 50 args).run Try.prog w = .ok (.enter 50 args) w := enters_of Try.func50 (by kernel_rfl) rfl
  have hent2 : ∀ args w, (callFunc 51 args).run Try.prog w = .ok (.enter 51 args) w := enters_of Try.func51 (by kernel_rfl) rfl
  have hent3 : ∀ args w, (callFunc 43 args).run Try.prog w = .ok (.enter 43 args) w := enters_of Try.func43 (by kernel_rfl) rfl
  have hu := Try.underlying72
  have hi2 : (Try.prog.info? 72).map (·.size) = some 2 := info_wide
  refine beginT (fun wx => wx.rangeAt g0 0 [.int .u64 (c0 : Int), .int .u64 (d0 : Int)] ∧ wx.rangeAt g1 0 [.int .u64 (c1 : Int), .int .u64 (d1 : Int)] ∧ wx.rangeAt g2 0 [.int .u64 (c2 : Int), .int .u64 (d2 : Int)] ∧ wx.rangeAt g3 0 [.int .u64 (c3 : Int), .int .u64 (d3 : Int)] ∧ wx.rangeAt g4 0 [.int .u64 (c4 : Int), .int .u64 (d4 : Int)]) 28 (by kernel_rfl) ?_
  have hS := hkeep _ (c_drew (c_refl _))
  refine loadT 0 (some 146) 72 (.tmp 9) g0 0 [.int .u64 (c0 : Int), .int .u64 (d0 : Int)] rfl rfl (by kernel_rfl) (by kernel_rfl) (by kernel_rfl) (by kernel_rfl) rfl (by kernel_rfl) rfl (fun wx hSw => hSw.1) hu rfl hi2 (fun _ _ _ h => h) hS ?_
  simp only [Act.put, List.setIfInBounds_toArray, List.set_cons_zero, List.set_cons_succ]
  refine loadT 2 (some 148) 72 (.tmp 13) g4 0 [.int .u64 (c4 : Int), .int .u64 (d4 : Int)] rfl rfl (by kernel_rfl) (by kernel_rfl) (by kernel_rfl) (by kernel_rfl) rfl (by kernel_rfl) rfl (fun wx hSw => hSw.2.2.2.2) hu rfl hi2 (fun _ _ _ h => h) hS ?_
  simp only [Act.put, List.setIfInBounds_toArray, List.set_cons_zero, List.set_cons_succ]
  refine loadT 6 (some 152) 72 (.tmp 10) g1 0 [.int .u64 (c1 : Int), .int .u64 (d1 : Int)] rfl rfl (by kernel_rfl) (by kernel_rfl) (by kernel_rfl) (by kernel_rfl) rfl (by kernel_rfl) rfl (fun wx hSw => hSw.2.1) hu rfl hi2 (fun _ _ _ h => h) hS ?_
  simp only [Act.put, List.setIfInBounds_toArray, List.set_cons_zero, List.set_cons_succ]
  refine loadT 8 (some 154) 72 (.tmp 9) g0 0 [.int .u64 (c0 : Int), .int .u64 (d0 : Int)] rfl rfl (by kernel_rfl) (by kernel_rfl) (by kernel_rfl) (by kernel_rfl) rfl (by kernel_rfl) rfl (fun wx hSw => hSw.1) hu rfl hi2 (fun _ _ _ h => h) hS ?_
  simp only [Act.put, List.setIfInBounds_toArray, List.set_cons_zero, List.set_cons_succ]
  refine loadT 11 (some 157) 72 (.tmp 11) g2 0 [.int .u64 (c2 : Int), .int .u64 (d2 : Int)] rfl rfl (by kernel_rfl) (by kernel_rfl) (by kernel_rfl) (by kernel_rfl) rfl (by kernel_rfl) rfl (fun wx hSw => hSw.2.2.1) hu rfl hi2 (fun _ _ _ h => h) hS ?_
  simp only [Act.put, List.setIfInBounds_toArray, List.set_cons_zero, List.set_cons_succ]
  refine loadT 13 (some 159) 72 (.tmp 10) g1 0 [.int .u64 (c1 : Int), .int .u64 (d1 : Int)] rfl rfl (by kernel_rfl) (by kernel_rfl) (by kernel_rfl) (by kernel_rfl) rfl (by kernel_rfl) rfl (fun wx hSw => hSw.2.1) hu rfl hi2 (fun _ _ _ h => h) hS ?_
  simp only [Act.put, List.setIfInBounds_toArray, List.set_cons_zero, List.set_cons_succ]
  refine loadT 16 (some 162) 72 (.tmp 12) g3 0 [.int .u64 (c3 : Int), .int .u64 (d3 : Int)] rfl rfl (by kernel_rfl) (by kernel_rfl) (by kernel_rfl) (by kernel_rfl) rfl (by kernel_rfl) rfl (fun wx hSw => hSw.2.2.2.1) hu rfl hi2 (fun _ _ _ h => h) hS ?_
  simp only [Act.put, List.setIfInBounds_toArray, List.set_cons_zero, List.set_cons_succ]
  refine loadT 18 (some 164) 72 (.tmp 11) g2 0 [.int .u64 (c2 : Int), .int .u64 (d2 : Int)] rfl rfl (by kernel_rfl) (by kernel_rfl) (by kernel_rfl) (by kernel_rfl) rfl (by kernel_rfl) rfl (fun wx hSw => hSw.2.2.1) hu rfl hi2 (fun _ _ _ h => h) hS ?_
  simp only [Act.put, List.setIfInBounds_toArray, List.set_cons_zero, List.set_cons_succ]
  refine loadT 21 (some 167) 72 (.tmp 13) g4 0 [.int .u64 (c4 : Int), .int .u64 (d4 : Int)] rfl rfl (by kernel_rfl) (by kernel_rfl) (by kernel_rfl) (by kernel_rfl) rfl (by kernel_rfl) rfl (fun wx hSw => hSw.2.2.2.2) hu rfl hi2 (fun _ _ _ h => h) hS ?_
  simp only [Act.put, List.setIfInBounds_toArray, List.set_cons_zero, List.set_cons_succ]
  refine loadT 23 (some 169) 72 (.tmp 12) g3 0 [.int .u64 (c3 : Int), .int .u64 (d3 : Int)] rfl rfl (by kernel_rfl) (by kernel_rfl) (by kernel_rfl) (by kernel_rfl) rfl (by kernel_rfl) rfl (fun wx hSw => hSw.2.2.2.1) hu rfl hi2 (fun _ _ _ h => h) hS ?_
  simp only [Act.put, List.setIfInBounds_toArray, List.set_cons_zero, List.set_cons_succ]
  refine oneT 1 (by kernel_rfl) rfl (fun K hK => ?_)
  refine step_callF (by rfl) (some 147) rfl 50 _ _ rfl [.agg #[.int .u64 (c0 : Int), .int .u64 (d0 : Int)]] rfl hent1 _ (kk0 _) ?_
  rintro e wm1 ⟨rfl, hb1⟩
  refine ⟨_, rfl, ?_⟩
  simp only [Act.put, List.setIfInBounds_toArray, List.set_cons_zero, List.set_cons_succ]
  refine hK.out _ _ (fun _ => hkeep _ (by (repeat (first | exact c_refl _ | refine c_drew ?_ | refine c_alloc ?_ _ | refine c_call ?_ (by assumption))); first | done | fail "chain")) ?_
  clear hK K
  have hS1 := hkeep wm1 (by (repeat (first | exact c_refl _ | refine c_drew ?_ | refine c_alloc ?_ _ | refine c_call ?_ (by assumption))); first | done | fail "chain")
  refine oneT 3 (by kernel_rfl) rfl (fun K hK => ?_)
  refine step_callF (by rfl) (some 149) rfl 51 _ _ rfl [.agg #[.int .u64 (c4 : Int), .int .u64 (d4 : Int)]] rfl hent2 _ (ko4 _) ?_
  rintro e wm2 ⟨rfl, hb2⟩
  refine ⟨_, rfl, ?_⟩
  simp only [Act.put, List.setIfInBounds_toArray, List.set_cons_zero, List.set_cons_succ]
  refine hK.out _ _ (fun _ => hkeep _ (by (repeat (first | exact c_refl _ | refine c_drew ?_ | refine c_alloc ?_ _ | refine c_call ?_ (by assumption))); first | done | fail "chain")) ?_
  clear hK K
  have hS2 := hkeep wm2 (by (repeat (first | exact c_refl _ | refine c_drew ?_ | refine c_alloc ?_ _ | refine c_call ?_ (by assumption))); first | done | fail "chain")
  refine takeD 4 (some 150) (.int .u64 (m4 : Int)) rfl rfl (by kernel_rfl) (by kernel_rfl) (by kernel_rfl) (by kernel_rfl) (fun _ _ _ h => h) (Or.inl ⟨by kernel_rfl, fun wx hSw => by go_simp⟩) hS2 ?_
  simp only [Act.put, List.setIfInBounds_toArray, List.set_cons_zero, List.set_cons_succ]
  refine takeD 5 (some 151) (.int .u64 (r0 : Int)) rfl rfl (by kernel_rfl) (by kernel_rfl) (by kernel_rfl) (by kernel_rfl) (fun _ _ _ h => h) (Or.inl ⟨by kernel_rfl, fun wx hSw => by go_simp⟩) hS2 ?_
  simp only [Act.put, List.setIfInBounds_toArray, List.set_cons_zero, List.set_cons_succ]
  refine oneT 7 (by kernel_rfl) rfl (fun K hK => ?_)
  refine step_callF (by rfl) (some 153) rfl 50 _ _ rfl [.agg #[.int .u64 (c1 : Int), .int .u64 (d1 : Int)]] rfl hent1 _ (kk1 _) ?_
  rintro e wm3 ⟨rfl, hb3⟩
  refine ⟨_, rfl, ?_⟩
  simp only [Act.put, List.setIfInBounds_toArray, List.set_cons_zero, List.set_cons_succ]
  refine hK.out _ _ (fun _ => hkeep _ (by (repeat (first | exact c_refl _ | refine c_drew ?_ | refine c_alloc ?_ _ | refine c_call ?_ (by assumption))); first | done | fail "chain")) ?_
  clear hK K
  have hS3 := hkeep wm3 (by (repeat (first | exact c_refl _ | refine c_drew ?_ | refine c_alloc ?_ _ | refine c_call ?_ (by assumption))); first | done | fail "chain")
  refine oneT 9 (by kernel_rfl) rfl (fun K hK => ?_)
  refine step_callF (by rfl) (some 155) rfl 51 _ _ rfl [.agg #[.int .u64 (c0 : Int), .int .u64 (d0 : Int)]] rfl hent2 _ (ko0 _) ?_
  rintro e wm4 ⟨rfl, hb4⟩
  refine ⟨_, rfl, ?_⟩
  simp only [Act.put, List.setIfInBounds_toArray, List.set_cons_zero, List.set_cons_succ]
  refine hK.out _ _ (fun _ => hkeep _ (by (repeat (first | exact c_refl _ | refine c_drew ?_ | refine c_alloc ?_ _ | refine c_call ?_ (by assumption))); first | done | fail "chain")) ?_
  clear hK K
  have hS4 := hkeep wm4 (by (repeat (first | exact c_refl _ | refine c_drew ?_ | refine c_alloc ?_ _ | refine c_call ?_ (by assumption))); first | done | fail "chain")
  refine takeD 10 (some 156) (.int .u64 (r1 : Int)) rfl rfl (by kernel_rfl) (by kernel_rfl) (by kernel_rfl) (by kernel_rfl) (fun _ _ _ h => h) (Or.inl ⟨by kernel_rfl, fun wx hSw => by go_simp⟩) hS4 ?_
  simp only [Act.put, List.setIfInBounds_toArray, List.set_cons_zero, List.set_cons_succ]
  refine oneT 12 (by kernel_rfl) rfl (fun K hK => ?_)
  refine step_callF (by rfl) (some 158) rfl 50 _ _ rfl [.agg #[.int .u64 (c2 : Int), .int .u64 (d2 : Int)]] rfl hent1 _ (kk2 _) ?_
  rintro e wm5 ⟨rfl, hb5⟩
  refine ⟨_, rfl, ?_⟩
  simp only [Act.put, List.setIfInBounds_toArray, List.set_cons_zero, List.set_cons_succ]
  refine hK.out _ _ (fun _ => hkeep _ (by (repeat (first | exact c_refl _ | refine c_drew ?_ | refine c_alloc ?_ _ | refine c_call ?_ (by assumption))); first | done | fail "chain")) ?_
  clear hK K
  have hS5 := hkeep wm5 (by (repeat (first | exact c_refl _ | refine c_drew ?_ | refine c_alloc ?_ _ | refine c_call ?_ (by assumption))); first | done | fail "chain")
  refine oneT 14 (by kernel_rfl) rfl (fun K hK => ?_)
  refine step_callF (by rfl) (some 160) rfl 51 _ _ rfl [.agg #[.int .u64 (c1 : Int), .int .u64 (d1 : Int)]] rfl hent2 _ (ko1 _) ?_
  rintro e wm6 ⟨rfl, hb6⟩
  refine ⟨_, rfl, ?_⟩
  simp only [Act.put, List.setIfInBounds_toArray, List.set_cons_zero, List.set_cons_succ]
  refine hK.out _ _ (fun _ => hkeep _ (by (repeat (first | exact c_refl _ | refine c_drew ?_ | refine c_alloc ?_ _ | refine c_call ?_ (by assumption))); first | done | fail "chain")) ?_
  clear hK K
  have hS6 := hkeep wm6 (by (repeat (first | exact c_refl _ | refine c_drew ?_ | refine c_alloc ?_ _ | refine c_call ?_ (by assumption))); first | done | fail "chain")
  refine takeD 15 (some 161) (.int .u64 (r2 : Int)) rfl rfl (by kernel_rfl) (by kernel_rfl) (by kernel_rfl) (by kernel_rfl) (fun _ _ _ h => h) (Or.inl ⟨by kernel_rfl, fun wx hSw => by go_simp⟩) hS6 ?_
  simp only [Act.put, List.setIfInBounds_toArray, List.set_cons_zero, List.set_cons_succ]
  refine oneT 17 (by kernel_rfl) rfl (fun K hK => ?_)
  refine step_callF (by rfl) (some 163) rfl 50 _ _ rfl [.agg #[.int .u64 (c3 : Int), .int .u64 (d3 : Int)]] rfl hent1 _ (kk3 _) ?_
  rintro e wm7 ⟨rfl, hb7⟩
  refine ⟨_, rfl, ?_⟩
  simp only [Act.put, List.setIfInBounds_toArray, List.set_cons_zero, List.set_cons_succ]
  refine hK.out _ _ (fun _ => hkeep _ (by (repeat (first | exact c_refl _ | refine c_drew ?_ | refine c_alloc ?_ _ | refine c_call ?_ (by assumption))); first | done | fail "chain")) ?_
  clear hK K
  have hS7 := hkeep wm7 (by (repeat (first | exact c_refl _ | refine c_drew ?_ | refine c_alloc ?_ _ | refine c_call ?_ (by assumption))); first | done | fail "chain")
  refine oneT 19 (by kernel_rfl) rfl (fun K hK => ?_)
  refine step_callF (by rfl) (some 165) rfl 51 _ _ rfl [.agg #[.int .u64 (c2 : Int), .int .u64 (d2 : Int)]] rfl hent2 _ (ko2 _) ?_
  rintro e wm8 ⟨rfl, hb8⟩
  refine ⟨_, rfl, ?_⟩
  simp only [Act.put, List.setIfInBounds_toArray, List.set_cons_zero, List.set_cons_succ]
  refine hK.out _ _ (fun _ => hkeep _ (by (repeat (first | exact c_refl _ | refine c_drew ?_ | refine c_alloc ?_ _ | refine c_call ?_ (by assumption))); first | done | fail "chain")) ?_
  clear hK K
  have hS8 := hkeep wm8 (by (repeat (first | exact c_refl _ | refine c_drew ?_ | refine c_alloc ?_ _ | refine c_call ?_ (by assumption))); first | done | fail "chain")
  refine takeD 20 (some 166) (.int .u64 (r3 : Int)) rfl rfl (by kernel_rfl) (by kernel_rfl) (by kernel_rfl) (by kernel_rfl) (fun _ _ _ h => h) (Or.inl ⟨by kernel_rfl, fun wx hSw => by go_simp⟩) hS8 ?_
  simp only [Act.put, List.setIfInBounds_toArray, List.set_cons_zero, List.set_cons_succ]
  refine oneT 22 (by kernel_rfl) rfl (fun K hK => ?_)
  refine step_callF (by rfl) (some 168) rfl 50 _ _ rfl [.agg #[.int .u64 (c4 : Int), .int .u64 (d4 : Int)]] rfl hent1 _ (kk4 _) ?_
  rintro e wm9 ⟨rfl, hb9⟩
  refine ⟨_, rfl, ?_⟩
  simp only [Act.put, List.setIfInBounds_toArray, List.set_cons_zero, List.set_cons_succ]
  refine hK.out _ _ (fun _ => hkeep _ (by (repeat (first | exact c_refl _ | refine c_drew ?_ | refine c_alloc ?_ _ | refine c_call ?_ (by assumption))); first | done | fail "chain")) ?_
  clear hK K
  have hS9 := hkeep wm9 (by (repeat (first | exact c_refl _ | refine c_drew ?_ | refine c_alloc ?_ _ | refine c_call ?_ (by assumption))); first | done | fail "chain")
  refine oneT 24 (by kernel_rfl) rfl (fun K hK => ?_)
  refine step_callF (by rfl) (some 170) rfl 51 _ _ rfl [.agg #[.int .u64 (c3 : Int), .int .u64 (d3 : Int)]] rfl hent2 _ (ko3 _) ?_
  rintro e wm10 ⟨rfl, hb10⟩
  refine ⟨_, rfl, ?_⟩
  simp only [Act.put, List.setIfInBounds_toArray, List.set_cons_zero, List.set_cons_succ]
  refine hK.out _ _ (fun _ => hkeep _ (by (repeat (first | exact c_refl _ | refine c_drew ?_ | refine c_alloc ?_ _ | refine c_call ?_ (by assumption))); first | done | fail "chain")) ?_
  clear hK K
  have hS10 := hkeep wm10 (by (repeat (first | exact c_refl _ | refine c_drew ?_ | refine c_alloc ?_ _ | refine c_call ?_ (by assumption))); first | done | fail "chain")
  refine takeD 25 (some 171) (.int .u64 (r4 : Int)) rfl rfl (by kernel_rfl) (by kernel_rfl) (by kernel_rfl) (by kernel_rfl) (fun _ _ _ h => h) (Or.inl ⟨by kernel_rfl, fun wx hSw => by go_simp⟩) hS10 ?_
  simp only [Act.put, List.setIfInBounds_toArray, List.set_cons_zero, List.set_cons_succ]
  refine takeD 26 (some 172) (.agg #[.int .u64 (r0 : Int), .int .u64 (r1 : Int), .int .u64 (r2 : Int), .int .u64 (r3 : Int), .int .u64 (r4 : Int)]) rfl rfl (by kernel_rfl) (by kernel_rfl) (by kernel_rfl) (by kernel_rfl) (fun _ _ _ h => h) (Or.inl ⟨by kernel_rfl, fun wx hSw => by go_simp⟩) hS10 ?_
  simp only [Act.put, List.setIfInBounds_toArray, List.set_cons_zero, List.set_cons_succ]
  refine oneT 27 (by kernel_rfl) rfl (fun K hK => ?_)
  refine step_callF (by rfl) (some 173) rfl 43 _ _ rfl [.agg #[.int .u64 (r0 : Int), .int .u64 (r1 : Int), .int .u64 (r2 : Int), .int .u64 (r3 : Int), .int .u64 (r4 : Int)]] rfl hent3 _ (hc _) ?_
  rintro e wm11 ⟨rfl, hb11⟩
  refine ⟨_, rfl, ?_⟩
  simp only [Act.put, List.setIfInBounds_toArray, List.set_cons_zero, List.set_cons_succ]
  refine hK.out _ _ (fun _ => hkeep _ (by (repeat (first | exact c_refl _ | refine c_drew ?_ | refine c_alloc ?_ _ | refine c_call ?_ (by assumption))); first | done | fail "chain")) ?_
  clear hK K
  have hS11 := hkeep wm11 (by (repeat (first | exact c_refl _ | refine c_drew ?_ | refine c_alloc ?_ _ | refine c_call ?_ (by assumption))); first | done | fail "chain")
  have hE : Below v6.heap.size v6 wm11 := (by (repeat (first | exact c_refl _ | refine c_drew ?_ | refine c_alloc ?_ _ | refine c_call ?_ (by assumption))); first | done | fail "chain")
  have hrow := (hM6.get 5 rfl).call hE
  have hlt : w.heap.size ≤ w.heap.size + 1 + 1 := by omega
  have hold := hM6.old.trans (hE.mono hM6.old.size)
  refine oneT 28 (by kernel_rfl) rfl (fun K hK => ?_)
  refine step_store_row rfl 35 (.tmp 4) (.tmp 173) rfl (w.heap.size + 1 + 1) (feC ans) rfl rfl 35 #[.int .u64 0, .int .u64 0, .int .u64 0, .int .u64 0, .int .u64 0] hrow (sizeFe ans) rfl (one_fe ans) ?_
  refine hK.out _ _ (fun h => absurd rfl h) ?_
  clear hK K
  refine doneT (by kernel_rfl) ?_ _
  go_wp2_with fail
  exact bodyPost_ret (results_cell_one rfl _ _ (w.heap.size + 1 + 1) 35 (feC ans) _ rfl (hrow.row (feC ans)) Try.underlying35 rfl (sizeFe ans)) rfl ⟨by rw [Hfa.out], below_setRow hold hlt _⟩

end Go.Proofs.Ytimgnpcojamafaa
