import Derived.Test.YtbiijdboolpaeaaDoorG14
import Derived.Test.YtbiijdboolpaeaaDoorG04
import Derived.Deep.RegionHeld3
import Derived.Deep.DeepCutAuto
set_option linter.unusedVariables false
namespace Go.Proofs.YtbiijdboolpaeaaDoor
open Go.RowKit
def IsW (p q W n : Nat) : Prop := p = W / 18446744073709551616 ∧ q = W % 18446744073709551616 ∧ W ≤ n * 385365782469381566994211942137856 ∧ n ≤ 5
theorem IsW.zero : IsW 0 0 0 0 := ⟨rfl, rfl, Nat.le_refl _, by omega⟩
def Part (x : Nat) : Prop := x < 4503599627370496
def Part19 (y : Nat) : Prop := y ≤ 85568392920039405
theorem plus_more (p q W n : Nat) (hw : IsW p q W n) (hn : n ≤ 4) (x y : Nat) (hx : Part x) (hy : Part19 y) (w : World) :
  Calls Tryd.prog 83 #[.agg #[.int .u64 (p : Int), .int .u64 (q : Int)], .int .u64 (x : Int), .int .u64 (y : Int)] w fun e w' =>
   ∃ p' q' : Nat, e = .returned (.agg #[.int .u64 (p' : Int), .int .u64 (q' : Int)]) ∧ IsW p' q' (W + x * y) (n + 1) ∧ Below w.heap.size w w' := by
 obtain ⟨rfl, rfl, hW, hn5⟩ := hw
 unfold Part at hx
 unfold Part19 at hy
 have hxy : x * y ≤ 385365782469381566994211942137856 := Nat.le_trans (Nat.mul_le_mul (show x ≤ 4503599627370495 by omega) hy) (by decide)
 refine (plus_any W x y (by omega) (by omega) (by omega) w).mono ?_
 rintro e w' ⟨rfl, hb⟩
 exact ⟨_, _, rfl, ⟨rfl, rfl, by omega, by omega⟩, hb⟩
theorem IsW.wide {p q W n : Nat} (h : IsW p q W n) : (.agg #[.int .u64 (p : Int), .int .u64 (q : Int)] : Value) = wideV W := by
 obtain ⟨rfl, rfl, _⟩ := h
 rfl
theorem plus_zero (x y : Nat) (hx : Part x) (hy : Part19 y) (w : World) :
  Calls Tryd.prog 83 #[.agg #[.int .u64 0, .int .u64 0], .int .u64 (x : Int), .int .u64 (y : Int)] w fun e w' =>
   ∃ p' q' : Nat, e = .returned (.agg #[.int .u64 (p' : Int), .int .u64 (q' : Int)]) ∧ IsW p' q' (x * y) 1 ∧ Below w.heap.size w w' :=
 (plus_more 0 0 0 0 IsW.zero (by omega) x y hx hy w).mono fun e w' ⟨p, q, he, hi, hb⟩ => ⟨p, q, he, by rwa [Nat.zero_add, Nat.zero_add] at hi, hb⟩
def wideC (p q : Nat) : Array Value := #[.int .u64 (p : Int), .int .u64 (q : Int)]
theorem info_wide : (Tryd.prog.info? 124).map (·.size) = some 2 := by kernel_rfl
theorem one_wide (p q : Nat) : (wideC p q).all (·.oneCell') = true := by simp [wideC, Value.oneCell']
theorem alloc_wide (ρ : Operand → Value) (o : Oper) (ho : o.op = .alloc 124) (w : World) :
  (execOp ρ o).run Tryd.prog w = .ok (.value (.pointer (some ⟨w.heap.size, 0, none⟩))) (w.alloc (.cells #[.int .u64 0, .int .u64 0] 124)) := by
 unfold execOp
 rw [ho]
 go_simp
theorem Ms.finRow {w0 w1 wE : World} {L : List (Nat × TypeId × Array Value)} (h : Ms w0 w1 L) (hb : Below w1.heap.size w1 wE) {g : Nat} (hg : w1.heap.size ≤ g) {t : TypeId} {z : Array Value} (hr : RowC wE g t z) (cs : Array Value) :
  Ms w0 (wE.setRow g cs) ((g, t, cs) :: L) :=
 ⟨below_setRow (h.old.trans (hb.mono h.old.size)) (Nat.le_trans h.old.size hg) cs, fun p hp => by
  rcases List.mem_cons.1 hp with rfl | hp
  ·
   exact hr.row cs
  ·
   have h1 := h.rows p hp
   exact (h1.call hb).rowFar (Nat.ne_of_lt (Nat.lt_of_lt_of_le h1.lt hg)) cs⟩
def PartsAt (bx b : Nat) (x0 x1 x2 x3 x4 y0 y1 y2 y3 y4 : Nat) (wx : World) : Prop :=
 wx.cell? ⟨bx, 0, none⟩ = some (.int .u64 (x0 : Int)) ∧ wx.cell? ⟨bx, 1, none⟩ = some (.int .u64 (x1 : Int)) ∧ wx.cell? ⟨bx, 2, none⟩ = some (.int .u64 (x2 : Int)) ∧ wx.cell? ⟨bx, 3, none⟩ = some (.int .u64 (x3 : Int)) ∧ wx.cell? ⟨bx, 4, none⟩ = some (.int .u64 (x4 : Int)) ∧
 wx.cell? ⟨b, 0, none⟩ = some (.int .u64 (y0 : Int)) ∧ wx.cell? ⟨b, 1, none⟩ = some (.int .u64 (y1 : Int)) ∧ wx.cell? ⟨b, 2, none⟩ = some (.int .u64 (y2 : Int)) ∧ wx.cell? ⟨b, 3, none⟩ = some (.int .u64 (y3 : Int)) ∧ wx.cell? ⟨b, 4, none⟩ = some (.int .u64 (y4 : Int))
def findR (n : Nat) : Code → Code
 | .region id ops d => .region id ops d
 | .seq (.region id ops d) c => match n == id with
  | true => .region id ops d
  | false => findR n c
 | c => c
set_option maxRecDepth 100000 in
set_option maxHeartbeats 40000000 in
theorem prod_reg2 (w v1 : World) (x0 x1 x2 x3 x4 y0 y1 y2 y3 y4 z1 z2 z3 z4 : Nat) (px0 : Part x0) (px1 : Part x1) (px2 : Part x2) (px3 : Part x3) (px4 : Part x4) (py0 : Part19 y0) (py1 : Part19 y1) (py2 : Part19 y2) (py3 : Part19 y3) (py4 : Part19 y4) (pz1 : Part19 z1) (pz2 : Part19 z2) (pz3 : Part19 z3) (pz4 : Part19 z4)
  (hkeep : ∀ wx : World, Below v1.heap.size v1 wx → PartsAt w.heap.size (w.heap.size + 1) x0 x1 x2 x3 x4 y0 y1 y2 y3 y4 wx)
  (u0 u1 u4 u9 u10 u11 u12 u13 u14 u15 u16 u17 u18 u19 u20 u21 u22 u23 u24 u25 u26 u27 u28 u29 u30 u31 u32 u33 u34 u35 u36 u37 u38 u39 u40 u41 u42 u43 u44 u45 u46 u47 u48 u49 u50 u51 u52 u53 u54 u55 u56 u57 u58 u59 u60 u61 u62 u63 u64 u65 u66 u67 u68 u69 u70 u71 u72 u73 u74 u75 u76 u77 u78 u79 u80 u81 u82 u83 u84 u85 u86 u87 u88 u89 u90 u91 u92 u93 u94 u95 u96 u97 u98 u99 u100 u101 u102 u103 u104 u105 u106 u107 u108 u109 u110 u111 u112 u113 u114 u115 u116 u117 u118 u119 u120 u121 u122 u123 u124 u125 u126 u127 u128 u129 u130 u131 u132 u133 u134 u135 u136 u137 u138 u139 u140 u141 u142 u143 u144 u145 u146 u147 u148 u149 u150 u151 u152 u153 u154 u155 u156 u157 u158 u159 u160 u161 u162 u163 u164 u165 u166 u167 u168 u169 u170 u171 u172 u173 : Value) (Q : Exit → Act → World → Prop) (hp : ∀ (t : Tmp) c a v wx, Q (.panic c) (a.put (some t) v) wx → Q (.panic c) a wx)
  (h : ∀ (g p q : Nat) (wx : World) (s26 s27 s28 s29 s30 s31 s32 s33 s34 s35 s36 s37 s38 s39 s40 s41 s42 s43 s44 s45 s46 s47 : Value), IsW p q (x0 * y0 + x1 * z4 + x2 * z3 + x3 * z2 + x4 * z1) 5 → (∀ L, Ms w v1 L → Ms w wx ((g, 124, wideC p q) :: L)) → Q .normal { tmps := #[u0, u1, .pointer (some ⟨w.heap.size, 0, none⟩), .pointer (some ⟨w.heap.size + 1, 0, none⟩), u4, .int .u64 (z1 : Int), .int .u64 (z2 : Int), .int .u64 (z3 : Int), .int .u64 (z4 : Int), .pointer (some ⟨g, 0, none⟩), u10, u11, u12, u13, u14, u15, u16, u17, u18, u19, u20, u21, u22, u23, u24, u25, s26, s27, s28, s29, s30, s31, s32, s33, s34, s35, s36, s37, s38, s39, s40, s41, s42, s43, s44, s45, s46, s47, u48, u49, u50, u51, u52, u53, u54, u55, u56, u57, u58, u59, u60, u61, u62, u63, u64, u65, u66, u67, u68, u69, u70, u71, u72, u73, u74, u75, u76, u77, u78, u79, u80, u81, u82, u83, u84, u85, u86, u87, u88, u89, u90, u91, u92, u93, u94, u95, u96, u97, u98, u99, u100, u101, u102, u103, u104, u105, u106, u107, u108, u109, u110, u111, u112, u113, u114, u115, u116, u117, u118, u119, u120, u121, u122, u123, u124, u125, u126, u127, u128, u129, u130, u131, u132, u133, u134, u135, u136, u137, u138, u139, u140, u141, u142, u143, u144, u145, u146, u147, u148, u149, u150, u151, u152, u153, u154, u155, u156, u157, u158, u159, u160, u161, u162, u163, u164, u165, u166, u167, u168, u169, u170, u171, u172, u173], defers := [] } wx) :
  Code.wp Tryd.prog (match Tryd.f65.body with | some c => findR 2 c | none => .skip) Q { tmps := #[u0, u1, .pointer (some ⟨w.heap.size, 0, none⟩), .pointer (some ⟨w.heap.size + 1, 0, none⟩), u4, .int .u64 (z1 : Int), .int .u64 (z2 : Int), .int .u64 (z3 : Int), .int .u64 (z4 : Int), u9, u10, u11, u12, u13, u14, u15, u16, u17, u18, u19, u20, u21, u22, u23, u24, u25, u26, u27, u28, u29, u30, u31, u32, u33, u34, u35, u36, u37, u38, u39, u40, u41, u42, u43, u44, u45, u46, u47, u48, u49, u50, u51, u52, u53, u54, u55, u56, u57, u58, u59, u60, u61, u62, u63, u64, u65, u66, u67, u68, u69, u70, u71, u72, u73, u74, u75, u76, u77, u78, u79, u80, u81, u82, u83, u84, u85, u86, u87, u88, u89, u90, u91, u92, u93, u94, u95, u96, u97, u98, u99, u100, u101, u102, u103, u104, u105, u106, u107, u108, u109, u110, u111, u112, u113, u114, u115, u116, u117, u118, u119, u120, u121, u122, u123, u124, u125, u126, u127, u128, u129, u130, u131, u132, u133, u134, u135, u136, u137, u138, u139, u140, u141, u142, u143, u144, u145, u146, u147, u148, u149, u150, u151, u152, u153, u154, u155, u156, u157, u158, u159, u160, u161, u162, u163, u164, u165, u166, u167, u168, u169, u170, u171, u172, u173], defers := [] } v1 := by
 have hent : ∀ args w, (callFunc 83 args).run Tryd.prog w = .ok (.enter 83 args) w := enters_of Tryd.func83 (by kernel_rfl) rfl
 show Code.wp Tryd.prog (Code.region 2 _ true) Q _ v1
 refine beginT (PartsAt w.heap.size (w.heap.size + 1) x0 x1 x2 x3 x4 y0 y1 y2 y3 y4) 23 (by kernel_rfl) ?_
 have hS := hkeep _ (c_drew (c_refl _))
 refine tk 0 (some 26) (.agg #[.int .u64 0, .int .u64 0]) (fun _ _ _ hq => hp _ _ _ _ _ hq) hS ?_
 simp only [Act.put, sA, sZ, sS]
 refine tk 1 (some 27) (.pointer (some ⟨w.heap.size, 0, none⟩)) (fun _ _ _ hq => hp _ _ _ _ _ hq) hS ?_
 simp only [Act.put, sA, sZ, sS]
 refine takeD 2 (some 28) (.int .u64 (x0 : Int)) rfl rfl (by kernel_rfl) (by kernel_rfl) (by kernel_rfl) (by kernel_rfl) (fun _ _ _ hq => hp _ _ _ _ _ hq) (Or.inl ⟨by kernel_rfl, fun wx hSw => by have h := hSw.1; go_simp⟩) hS ?_
 simp only [Act.put, sA, sZ, sS]
 refine tk 3 (some 29) (.pointer (some ⟨w.heap.size + 1, 0, none⟩)) (fun _ _ _ hq => hp _ _ _ _ _ hq) hS ?_
 simp only [Act.put, sA, sZ, sS]
 refine takeD 4 (some 30) (.int .u64 (y0 : Int)) rfl rfl (by kernel_rfl) (by kernel_rfl) (by kernel_rfl) (by kernel_rfl) (fun _ _ _ hq => hp _ _ _ _ _ hq) (Or.inl ⟨by kernel_rfl, fun wx hSw => by have h := hSw.2.2.2.2.2.1; go_simp⟩) hS ?_
 simp only [Act.put, sA, sZ, sS]
 refine tk 6 (some 32) (.pointer (some ⟨w.heap.size, 1, none⟩)) (fun _ _ _ hq => hp _ _ _ _ _ hq) hS ?_
 simp only [Act.put, sA, sZ, sS]
 refine takeD 7 (some 33) (.int .u64 (x1 : Int)) rfl rfl (by kernel_rfl) (by kernel_rfl) (by kernel_rfl) (by kernel_rfl) (fun _ _ _ hq => hp _ _ _ _ _ hq) (Or.inl ⟨by kernel_rfl, fun wx hSw => by have h := hSw.2.1; go_simp⟩) hS ?_
 simp only [Act.put, sA, sZ, sS]
 refine tk 8 (some 34) (.int .u64 (z4 : Int)) (fun _ _ _ hq => hp _ _ _ _ _ hq) hS ?_
 simp only [Act.put, sA, sZ, sS]
 refine tk 10 (some 36) (.pointer (some ⟨w.heap.size, 2, none⟩)) (fun _ _ _ hq => hp _ _ _ _ _ hq) hS ?_
 simp only [Act.put, sA, sZ, sS]
 refine takeD 11 (some 37) (.int .u64 (x2 : Int)) rfl rfl (by kernel_rfl) (by kernel_rfl) (by kernel_rfl) (by kernel_rfl) (fun _ _ _ hq => hp _ _ _ _ _ hq) (Or.inl ⟨by kernel_rfl, fun wx hSw => by have h := hSw.2.2.1; go_simp⟩) hS ?_
 simp only [Act.put, sA, sZ, sS]
 refine tk 12 (some 38) (.int .u64 (z3 : Int)) (fun _ _ _ hq => hp _ _ _ _ _ hq) hS ?_
 simp only [Act.put, sA, sZ, sS]
 refine tk 14 (some 40) (.pointer (some ⟨w.heap.size, 3, none⟩)) (fun _ _ _ hq => hp _ _ _ _ _ hq) hS ?_
 simp only [Act.put, sA, sZ, sS]
 refine takeD 15 (some 41) (.int .u64 (x3 : Int)) rfl rfl (by kernel_rfl) (by kernel_rfl) (by kernel_rfl) (by kernel_rfl) (fun _ _ _ hq => hp _ _ _ _ _ hq) (Or.inl ⟨by kernel_rfl, fun wx hSw => by have h := hSw.2.2.2.1; go_simp⟩) hS ?_
 simp only [Act.put, sA, sZ, sS]
 refine tk 16 (some 42) (.int .u64 (z2 : Int)) (fun _ _ _ hq => hp _ _ _ _ _ hq) hS ?_
 simp only [Act.put, sA, sZ, sS]
 refine tk 18 (some 44) (.pointer (some ⟨w.heap.size, 4, none⟩)) (fun _ _ _ hq => hp _ _ _ _ _ hq) hS ?_
 simp only [Act.put, sA, sZ, sS]
 refine takeD 19 (some 45) (.int .u64 (x4 : Int)) rfl rfl (by kernel_rfl) (by kernel_rfl) (by kernel_rfl) (by kernel_rfl) (fun _ _ _ hq => hp _ _ _ _ _ hq) (Or.inl ⟨by kernel_rfl, fun wx hSw => by have h := hSw.2.2.2.2.1; go_simp⟩) hS ?_
 simp only [Act.put, sA, sZ, sS]
 refine tk 20 (some 46) (.int .u64 (z1 : Int)) (fun _ _ _ hq => hp _ _ _ _ _ hq) hS ?_
 simp only [Act.put, sA, sZ, sS]
 refine rd2 5 22 (fun K hK => ?_) fun K hK => ?_
 ·
  refine step_callF (by rfl) (some 31) rfl 83 _ _ rfl [.agg #[.int .u64 0, .int .u64 0], (.int .u64 (x0 : Int)), (.int .u64 (y0 : Int))] rfl hent _ (plus_zero _ _ (by assumption) (by assumption) _) ?_
  rintro e wm1 ⟨p1, q1, rfl, hi1, hb1⟩
  refine ⟨_, rfl, ?_⟩
  simp only [Act.put, sA, sZ, sS]
  refine kp hK hkeep ?_
  clear hK K
  refine rd2 9 22 (fun K hK => ?_) fun K hK => ?_
  ·
   refine step_callF (by rfl) (some 35) rfl 83 _ _ rfl [.agg #[.int .u64 (p1 : Int), .int .u64 (q1 : Int)], (.int .u64 (x1 : Int)), (.int .u64 (z4 : Int))] rfl hent _ (plus_more _ _ _ _ (by assumption) (by omega) _ _ (by assumption) (by assumption) _) ?_
   rintro e wm2 ⟨p2, q2, rfl, hi2, hb2⟩
   refine ⟨_, rfl, ?_⟩
   simp only [Act.put, sA, sZ, sS]
   refine kp hK hkeep ?_
   clear hK K
   refine rd2 13 22 (fun K hK => ?_) fun K hK => ?_
   ·
    refine step_callF (by rfl) (some 39) rfl 83 _ _ rfl [.agg #[.int .u64 (p2 : Int), .int .u64 (q2 : Int)], (.int .u64 (x2 : Int)), (.int .u64 (z3 : Int))] rfl hent _ (plus_more _ _ _ _ (by assumption) (by omega) _ _ (by assumption) (by assumption) _) ?_
    rintro e wm3 ⟨p3, q3, rfl, hi3, hb3⟩
    refine ⟨_, rfl, ?_⟩
    simp only [Act.put, sA, sZ, sS]
    refine kp hK hkeep ?_
    clear hK K
    refine rd2 17 22 (fun K hK => ?_) fun K hK => ?_
    ·
     refine step_callF (by rfl) (some 43) rfl 83 _ _ rfl [.agg #[.int .u64 (p3 : Int), .int .u64 (q3 : Int)], (.int .u64 (x3 : Int)), (.int .u64 (z2 : Int))] rfl hent _ (plus_more _ _ _ _ (by assumption) (by omega) _ _ (by assumption) (by assumption) _) ?_
     rintro e wm4 ⟨p4, q4, rfl, hi4, hb4⟩
     refine ⟨_, rfl, ?_⟩
     simp only [Act.put, sA, sZ, sS]
     refine kp hK hkeep ?_
     clear hK K
     refine rd2 21 22 (fun K hK => ?_) fun K hK => ?_
     ·
      refine step_callF (by rfl) (some 47) rfl 83 _ _ rfl [.agg #[.int .u64 (p4 : Int), .int .u64 (q4 : Int)], (.int .u64 (x4 : Int)), (.int .u64 (z1 : Int))] rfl hent _ (plus_more _ _ _ _ (by assumption) (by omega) _ _ (by assumption) (by assumption) _) ?_
      rintro e wm5 ⟨p5, q5, rfl, hi5, hb5⟩
      refine ⟨_, rfl, ?_⟩
      simp only [Act.put, sA, sZ, sS]
      refine kp hK hkeep ?_
      clear hK K
      refine on1 22 fun K hK => ?_
      refine step_val (by rfl) (some 9) rfl _ (alloc_wide _ _ rfl _) ?_
      simp only [Act.put, sA, sZ, sS]
      refine kp hK hkeep ?_
      clear hK K
      refine on1 23 fun K hK => ?_
      refine step_store_row rfl 124 (.tmp 9) (.tmp 47) rfl _ (wideC p5 q5) rfl rfl 124 #[.int .u64 0, .int .u64 0] (by (repeat (first | exact RowC.new _ _ _ | refine RowC.call ?_ (by assumption))); first | done | fail "row") info_wide rfl (one_wide p5 q5) ?_
      refine hK.out _ _ (fun h => absurd rfl h) ?_
      clear hK K
      refine doneT (by kernel_rfl) ?_ _
      exact h _ p5 q5 _ _ _ _ _ _ _ _ _ _ _ _ _ _ _ _ _ _ _ _ _ _ _ hi5 (fun L hL => Ms.finRow hL bl ((show Below v1.heap.size v1 wm5 from bl).size) (by (repeat (first | exact RowC.new _ _ _ | refine RowC.call ?_ (by assumption))); first | done | fail "row") _)
     ·
      refine step_val (by rfl) (some 9) rfl _ (alloc_wide _ _ rfl _) ?_
      simp only [Act.put, sA, sZ, sS]
      refine kp hK hkeep ?_
      clear hK K
      refine on1 21 fun K hK => ?_
      refine step_callF (by rfl) (some 47) rfl 83 _ _ rfl [.agg #[.int .u64 (p4 : Int), .int .u64 (q4 : Int)], (.int .u64 (x4 : Int)), (.int .u64 (z1 : Int))] rfl hent _ (plus_more _ _ _ _ (by assumption) (by omega) _ _ (by assumption) (by assumption) _) ?_
      rintro e wm5 ⟨p5, q5, rfl, hi5, hb5⟩
      refine ⟨_, rfl, ?_⟩
      simp only [Act.put, sA, sZ, sS]
      refine kp hK hkeep ?_
      clear hK K
      refine on1 23 fun K hK => ?_
      refine step_store_row rfl 124 (.tmp 9) (.tmp 47) rfl _ (wideC p5 q5) rfl rfl 124 #[.int .u64 0, .int .u64 0] (by (repeat (first | exact RowC.new _ _ _ | refine RowC.call ?_ (by assumption))); first | done | fail "row") info_wide rfl (one_wide p5 q5) ?_
      refine hK.out _ _ (fun h => absurd rfl h) ?_
      clear hK K
      refine doneT (by kernel_rfl) ?_ _
      exact h _ p5 q5 _ _ _ _ _ _ _ _ _ _ _ _ _ _ _ _ _ _ _ _ _ _ _ hi5 (fun L hL => Ms.finRow hL bl ((show Below v1.heap.size v1 wm4 from bl).size) (by (repeat (first | exact RowC.new _ _ _ | refine RowC.call ?_ (by assumption))); first | done | fail "row") _)
    ·
     refine step_val (by rfl) (some 9) rfl _ (alloc_wide _ _ rfl _) ?_
     simp only [Act.put, sA, sZ, sS]
     refine kp hK hkeep ?_
     clear hK K
     refine on1 17 fun K hK => ?_
     refine step_callF (by rfl) (some 43) rfl 83 _ _ rfl [.agg #[.int .u64 (p3 : Int), .int .u64 (q3 : Int)], (.int .u64 (x3 : Int)), (.int .u64 (z2 : Int))] rfl hent _ (plus_more _ _ _ _ (by assumption) (by omega) _ _ (by assumption) (by assumption) _) ?_
     rintro e wm4 ⟨p4, q4, rfl, hi4, hb4⟩
     refine ⟨_, rfl, ?_⟩
     simp only [Act.put, sA, sZ, sS]
     refine kp hK hkeep ?_
     clear hK K
     refine on1 21 fun K hK => ?_
     refine step_callF (by rfl) (some 47) rfl 83 _ _ rfl [.agg #[.int .u64 (p4 : Int), .int .u64 (q4 : Int)], (.int .u64 (x4 : Int)), (.int .u64 (z1 : Int))] rfl hent _ (plus_more _ _ _ _ (by assumption) (by omega) _ _ (by assumption) (by assumption) _) ?_
     rintro e wm5 ⟨p5, q5, rfl, hi5, hb5⟩
     refine ⟨_, rfl, ?_⟩
     simp only [Act.put, sA, sZ, sS]
     refine kp hK hkeep ?_
     clear hK K
     refine on1 23 fun K hK => ?_
     refine step_store_row rfl 124 (.tmp 9) (.tmp 47) rfl _ (wideC p5 q5) rfl rfl 124 #[.int .u64 0, .int .u64 0] (by (repeat (first | exact RowC.new _ _ _ | refine RowC.call ?_ (by assumption))); first | done | fail "row") info_wide rfl (one_wide p5 q5) ?_
     refine hK.out _ _ (fun h => absurd rfl h) ?_
     clear hK K
     refine doneT (by kernel_rfl) ?_ _
     exact h _ p5 q5 _ _ _ _ _ _ _ _ _ _ _ _ _ _ _ _ _ _ _ _ _ _ _ hi5 (fun L hL => Ms.finRow hL bl ((show Below v1.heap.size v1 wm3 from bl).size) (by (repeat (first | exact RowC.new _ _ _ | refine RowC.call ?_ (by assumption))); first | done | fail "row") _)
   ·
    refine step_val (by rfl) (some 9) rfl _ (alloc_wide _ _ rfl _) ?_
    simp only [Act.put, sA, sZ, sS]
    refine kp hK hkeep ?_
    clear hK K
    refine on1 13 fun K hK => ?_
    refine step_callF (by rfl) (some 39) rfl 83 _ _ rfl [.agg #[.int .u64 (p2 : Int), .int .u64 (q2 : Int)], (.int .u64 (x2 : Int)), (.int .u64 (z3 : Int))] rfl hent _ (plus_more _ _ _ _ (by assumption) (by omega) _ _ (by assumption) (by assumption) _) ?_
    rintro e wm3 ⟨p3, q3, rfl, hi3, hb3⟩
    refine ⟨_, rfl, ?_⟩
    simp only [Act.put, sA, sZ, sS]
    refine kp hK hkeep ?_
    clear hK K
    refine on1 17 fun K hK => ?_
    refine step_callF (by rfl) (some 43) rfl 83 _ _ rfl [.agg #[.int .u64 (p3 : Int), .int .u64 (q3 : Int)], (.int .u64 (x3 : Int)), (.int .u64 (z2 : Int))] rfl hent _ (plus_more _ _ _ _ (by assumption) (by omega) _ _ (by assumption) (by assumption) _) ?_
    rintro e wm4 ⟨p4, q4, rfl, hi4, hb4⟩
    refine ⟨_, rfl, ?_⟩
    simp only [Act.put, sA, sZ, sS]
    refine kp hK hkeep ?_
    clear hK K
    refine on1 21 fun K hK => ?_
    refine step_callF (by rfl) (some 47) rfl 83 _ _ rfl [.agg #[.int .u64 (p4 : Int), .int .u64 (q4 : Int)], (.int .u64 (x4 : Int)), (.int .u64 (z1 : Int))] rfl hent _ (plus_more _ _ _ _ (by assumption) (by omega) _ _ (by assumption) (by assumption) _) ?_
    rintro e wm5 ⟨p5, q5, rfl, hi5, hb5⟩
    refine ⟨_, rfl, ?_⟩
    simp only [Act.put, sA, sZ, sS]
    refine kp hK hkeep ?_
    clear hK K
    refine on1 23 fun K hK => ?_
    refine step_store_row rfl 124 (.tmp 9) (.tmp 47) rfl _ (wideC p5 q5) rfl rfl 124 #[.int .u64 0, .int .u64 0] (by (repeat (first | exact RowC.new _ _ _ | refine RowC.call ?_ (by assumption))); first | done | fail "row") info_wide rfl (one_wide p5 q5) ?_
    refine hK.out _ _ (fun h => absurd rfl h) ?_
    clear hK K
    refine doneT (by kernel_rfl) ?_ _
    exact h _ p5 q5 _ _ _ _ _ _ _ _ _ _ _ _ _ _ _ _ _ _ _ _ _ _ _ hi5 (fun L hL => Ms.finRow hL bl ((show Below v1.heap.size v1 wm2 from bl).size) (by (repeat (first | exact RowC.new _ _ _ | refine RowC.call ?_ (by assumption))); first | done | fail "row") _)
  ·
   refine step_val (by rfl) (some 9) rfl _ (alloc_wide _ _ rfl _) ?_
   simp only [Act.put, sA, sZ, sS]
   refine kp hK hkeep ?_
   clear hK K
   refine on1 9 fun K hK => ?_
   refine step_callF (by rfl) (some 35) rfl 83 _ _ rfl [.agg #[.int .u64 (p1 : Int), .int .u64 (q1 : Int)], (.int .u64 (x1 : Int)), (.int .u64 (z4 : Int))] rfl hent _ (plus_more _ _ _ _ (by assumption) (by omega) _ _ (by assumption) (by assumption) _) ?_
   rintro e wm2 ⟨p2, q2, rfl, hi2, hb2⟩
   refine ⟨_, rfl, ?_⟩
   simp only [Act.put, sA, sZ, sS]
   refine kp hK hkeep ?_
   clear hK K
   refine on1 13 fun K hK => ?_
   refine step_callF (by rfl) (some 39) rfl 83 _ _ rfl [.agg #[.int .u64 (p2 : Int), .int .u64 (q2 : Int)], (.int .u64 (x2 : Int)), (.int .u64 (z3 : Int))] rfl hent _ (plus_more _ _ _ _ (by assumption) (by omega) _ _ (by assumption) (by assumption) _) ?_
   rintro e wm3 ⟨p3, q3, rfl, hi3, hb3⟩
   refine ⟨_, rfl, ?_⟩
   simp only [Act.put, sA, sZ, sS]
   refine kp hK hkeep ?_
   clear hK K
   refine on1 17 fun K hK => ?_
   refine step_callF (by rfl) (some 43) rfl 83 _ _ rfl [.agg #[.int .u64 (p3 : Int), .int .u64 (q3 : Int)], (.int .u64 (x3 : Int)), (.int .u64 (z2 : Int))] rfl hent _ (plus_more _ _ _ _ (by assumption) (by omega) _ _ (by assumption) (by assumption) _) ?_
   rintro e wm4 ⟨p4, q4, rfl, hi4, hb4⟩
   refine ⟨_, rfl, ?_⟩
   simp only [Act.put, sA, sZ, sS]
   refine kp hK hkeep ?_
   clear hK K
   refine on1 21 fun K hK => ?_
   refine step_callF (by rfl) (some 47) rfl 83 _ _ rfl [.agg #[.int .u64 (p4 : Int), .int .u64 (q4 : Int)], (.int .u64 (x4 : Int)), (.int .u64 (z1 : Int))] rfl hent _ (plus_more _ _ _ _ (by assumption) (by omega) _ _ (by assumption) (by assumption) _) ?_
   rintro e wm5 ⟨p5, q5, rfl, hi5, hb5⟩
   refine ⟨_, rfl, ?_⟩
   simp only [Act.put, sA, sZ, sS]
   refine kp hK hkeep ?_
   clear hK K
   refine on1 23 fun K hK => ?_
   refine step_store_row rfl 124 (.tmp 9) (.tmp 47) rfl _ (wideC p5 q5) rfl rfl 124 #[.int .u64 0, .int .u64 0] (by (repeat (first | exact RowC.new _ _ _ | refine RowC.call ?_ (by assumption))); first | done | fail "row") info_wide rfl (one_wide p5 q5) ?_
   refine hK.out _ _ (fun h => absurd rfl h) ?_
   clear hK K
   refine doneT (by kernel_rfl) ?_ _
   exact h _ p5 q5 _ _ _ _ _ _ _ _ _ _ _ _ _ _ _ _ _ _ _ _ _ _ _ hi5 (fun L hL => Ms.finRow hL bl ((show Below v1.heap.size v1 wm1 from bl).size) (by (repeat (first | exact RowC.new _ _ _ | refine RowC.call ?_ (by assumption))); first | done | fail "row") _)
 ·
  refine step_val (by rfl) (some 9) rfl _ (alloc_wide _ _ rfl _) ?_
  simp only [Act.put, sA, sZ, sS]
  refine kp hK hkeep ?_
  clear hK K
  refine on1 5 fun K hK => ?_
  refine step_callF (by rfl) (some 31) rfl 83 _ _ rfl [.agg #[.int .u64 0, .int .u64 0], (.int .u64 (x0 : Int)), (.int .u64 (y0 : Int))] rfl hent _ (plus_zero _ _ (by assumption) (by assumption) _) ?_
  rintro e wm1 ⟨p1, q1, rfl, hi1, hb1⟩
  refine ⟨_, rfl, ?_⟩
  simp only [Act.put, sA, sZ, sS]
  refine kp hK hkeep ?_
  clear hK K
  refine on1 9 fun K hK => ?_
  refine step_callF (by rfl) (some 35) rfl 83 _ _ rfl [.agg #[.int .u64 (p1 : Int), .int .u64 (q1 : Int)], (.int .u64 (x1 : Int)), (.int .u64 (z4 : Int))] rfl hent _ (plus_more _ _ _ _ (by assumption) (by omega) _ _ (by assumption) (by assumption) _) ?_
  rintro e wm2 ⟨p2, q2, rfl, hi2, hb2⟩
  refine ⟨_, rfl, ?_⟩
  simp only [Act.put, sA, sZ, sS]
  refine kp hK hkeep ?_
  clear hK K
  refine on1 13 fun K hK => ?_
  refine step_callF (by rfl) (some 39) rfl 83 _ _ rfl [.agg #[.int .u64 (p2 : Int), .int .u64 (q2 : Int)], (.int .u64 (x2 : Int)), (.int .u64 (z3 : Int))] rfl hent _ (plus_more _ _ _ _ (by assumption) (by omega) _ _ (by assumption) (by assumption) _) ?_
  rintro e wm3 ⟨p3, q3, rfl, hi3, hb3⟩
  refine ⟨_, rfl, ?_⟩
  simp only [Act.put, sA, sZ, sS]
  refine kp hK hkeep ?_
  clear hK K
  refine on1 17 fun K hK => ?_
  refine step_callF (by rfl) (some 43) rfl 83 _ _ rfl [.agg #[.int .u64 (p3 : Int), .int .u64 (q3 : Int)], (.int .u64 (x3 : Int)), (.int .u64 (z2 : Int))] rfl hent _ (plus_more _ _ _ _ (by assumption) (by omega) _ _ (by assumption) (by assumption) _) ?_
  rintro e wm4 ⟨p4, q4, rfl, hi4, hb4⟩
  refine ⟨_, rfl, ?_⟩
  simp only [Act.put, sA, sZ, sS]
  refine kp hK hkeep ?_
  clear hK K
  refine on1 21 fun K hK => ?_
  refine step_callF (by rfl) (some 47) rfl 83 _ _ rfl [.agg #[.int .u64 (p4 : Int), .int .u64 (q4 : Int)], (.int .u64 (x4 : Int)), (.int .u64 (z1 : Int))] rfl hent _ (plus_more _ _ _ _ (by assumption) (by omega) _ _ (by assumption) (by assumption) _) ?_
  rintro e wm5 ⟨p5, q5, rfl, hi5, hb5⟩
  refine ⟨_, rfl, ?_⟩
  simp only [Act.put, sA, sZ, sS]
  refine kp hK hkeep ?_
  clear hK K
  refine on1 23 fun K hK => ?_
  refine step_store_row rfl 124 (.tmp 9) (.tmp 47) rfl _ (wideC p5 q5) rfl rfl 124 #[.int .u64 0, .int .u64 0] (by (repeat (first | exact RowC.new _ _ _ | refine RowC.call ?_ (by assumption))); first | done | fail "row") info_wide rfl (one_wide p5 q5) ?_
  refine hK.out _ _ (fun h => absurd rfl h) ?_
  clear hK K
  refine doneT (by kernel_rfl) ?_ _
  exact h _ p5 q5 _ _ _ _ _ _ _ _ _ _ _ _ _ _ _ _ _ _ _ _ _ _ _ hi5 (fun L hL => Ms.finRow hL bl ((show Below v1.heap.size v1 v1.drew from bl).size) (by (repeat (first | exact RowC.new _ _ _ | refine RowC.call ?_ (by assumption))); first | done | fail "row") _)
set_option maxRecDepth 100000 in
set_option maxHeartbeats 40000000 in
theorem prod_reg3 (w v1 : World) (x0 x1 x2 x3 x4 y0 y1 y2 y3 y4 z1 z2 z3 z4 : Nat) (px0 : Part x0) (px1 : Part x1) (px2 : Part x2) (px3 : Part x3) (px4 : Part x4) (py0 : Part19 y0) (py1 : Part19 y1) (py2 : Part19 y2) (py3 : Part19 y3) (py4 : Part19 y4) (pz1 : Part19 z1) (pz2 : Part19 z2) (pz3 : Part19 z3) (pz4 : Part19 z4)
  (hkeep : ∀ wx : World, Below v1.heap.size v1 wx → PartsAt w.heap.size (w.heap.size + 1) x0 x1 x2 x3 x4 y0 y1 y2 y3 y4 wx)
  (u0 u1 u4 u9 u10 u11 u12 u13 u14 u15 u16 u17 u18 u19 u20 u21 u22 u23 u24 u25 u26 u27 u28 u29 u30 u31 u32 u33 u34 u35 u36 u37 u38 u39 u40 u41 u42 u43 u44 u45 u46 u47 u48 u49 u50 u51 u52 u53 u54 u55 u56 u57 u58 u59 u60 u61 u62 u63 u64 u65 u66 u67 u68 u69 u70 u71 u72 u73 u74 u75 u76 u77 u78 u79 u80 u81 u82 u83 u84 u85 u86 u87 u88 u89 u90 u91 u92 u93 u94 u95 u96 u97 u98 u99 u100 u101 u102 u103 u104 u105 u106 u107 u108 u109 u110 u111 u112 u113 u114 u115 u116 u117 u118 u119 u120 u121 u122 u123 u124 u125 u126 u127 u128 u129 u130 u131 u132 u133 u134 u135 u136 u137 u138 u139 u140 u141 u142 u143 u144 u145 u146 u147 u148 u149 u150 u151 u152 u153 u154 u155 u156 u157 u158 u159 u160 u161 u162 u163 u164 u165 u166 u167 u168 u169 u170 u171 u172 u173 : Value) (Q : Exit → Act → World → Prop) (hp : ∀ (t : Tmp) c a v wx, Q (.panic c) (a.put (some t) v) wx → Q (.panic c) a wx)
  (h : ∀ (g p q : Nat) (wx : World) (s48 s49 s50 s51 s52 s53 s54 s55 s56 s57 s58 s59 s60 s61 s62 s63 s64 s65 s66 s67 s68 s69 s70 : Value), IsW p q (x0 * y1 + x1 * y0 + x2 * z4 + x3 * z3 + x4 * z2) 5 → (∀ L, Ms w v1 L → Ms w wx ((g, 124, wideC p q) :: L)) → Q .normal { tmps := #[u0, u1, .pointer (some ⟨w.heap.size, 0, none⟩), .pointer (some ⟨w.heap.size + 1, 0, none⟩), u4, .int .u64 (z1 : Int), .int .u64 (z2 : Int), .int .u64 (z3 : Int), .int .u64 (z4 : Int), u9, .pointer (some ⟨g, 0, none⟩), u11, u12, u13, u14, u15, u16, u17, u18, u19, u20, u21, u22, u23, u24, u25, u26, u27, u28, u29, u30, u31, u32, u33, u34, u35, u36, u37, u38, u39, u40, u41, u42, u43, u44, u45, u46, u47, s48, s49, s50, s51, s52, s53, s54, s55, s56, s57, s58, s59, s60, s61, s62, s63, s64, s65, s66, s67, s68, s69, s70, u71, u72, u73, u74, u75, u76, u77, u78, u79, u80, u81, u82, u83, u84, u85, u86, u87, u88, u89, u90, u91, u92, u93, u94, u95, u96, u97, u98, u99, u100, u101, u102, u103, u104, u105, u106, u107, u108, u109, u110, u111, u112, u113, u114, u115, u116, u117, u118, u119, u120, u121, u122, u123, u124, u125, u126, u127, u128, u129, u130, u131, u132, u133, u134, u135, u136, u137, u138, u139, u140, u141, u142, u143, u144, u145, u146, u147, u148, u149, u150, u151, u152, u153, u154, u155, u156, u157, u158, u159, u160, u161, u162, u163, u164, u165, u166, u167, u168, u169, u170, u171, u172, u173], defers := [] } wx) :
  Code.wp Tryd.prog (match Tryd.f65.body with | some c => findR 3 c | none => .skip) Q { tmps := #[u0, u1, .pointer (some ⟨w.heap.size, 0, none⟩), .pointer (some ⟨w.heap.size + 1, 0, none⟩), u4, .int .u64 (z1 : Int), .int .u64 (z2 : Int), .int .u64 (z3 : Int), .int .u64 (z4 : Int), u9, u10, u11, u12, u13, u14, u15, u16, u17, u18, u19, u20, u21, u22, u23, u24, u25, u26, u27, u28, u29, u30, u31, u32, u33, u34, u35, u36, u37, u38, u39, u40, u41, u42, u43, u44, u45, u46, u47, u48, u49, u50, u51, u52, u53, u54, u55, u56, u57, u58, u59, u60, u61, u62, u63, u64, u65, u66, u67, u68, u69, u70, u71, u72, u73, u74, u75, u76, u77, u78, u79, u80, u81, u82, u83, u84, u85, u86, u87, u88, u89, u90, u91, u92, u93, u94, u95, u96, u97, u98, u99, u100, u101, u102, u103, u104, u105, u106, u107, u108, u109, u110, u111, u112, u113, u114, u115, u116, u117, u118, u119, u120, u121, u122, u123, u124, u125, u126, u127, u128, u129, u130, u131, u132, u133, u134, u135, u136, u137, u138, u139, u140, u141, u142, u143, u144, u145, u146, u147, u148, u149, u150, u151, u152, u153, u154, u155, u156, u157, u158, u159, u160, u161, u162, u163, u164, u165, u166, u167, u168, u169, u170, u171, u172, u173], defers := [] } v1 := by
 have hent : ∀ args w, (callFunc 83 args).run Tryd.prog w = .ok (.enter 83 args) w := enters_of Tryd.func83 (by kernel_rfl) rfl
 show Code.wp Tryd.prog (Code.region 3 _ true) Q _ v1
 refine beginT (PartsAt w.heap.size (w.heap.size + 1) x0 x1 x2 x3 x4 y0 y1 y2 y3 y4) 24 (by kernel_rfl) ?_
 have hS := hkeep _ (c_drew (c_refl _))
 refine tk 0 (some 48) (.agg #[.int .u64 0, .int .u64 0]) (fun _ _ _ hq => hp _ _ _ _ _ hq) hS ?_
 simp only [Act.put, sA, sZ, sS]
 refine tk 1 (some 49) (.pointer (some ⟨w.heap.size, 0, none⟩)) (fun _ _ _ hq => hp _ _ _ _ _ hq) hS ?_
 simp only [Act.put, sA, sZ, sS]
 refine takeD 2 (some 50) (.int .u64 (x0 : Int)) rfl rfl (by kernel_rfl) (by kernel_rfl) (by kernel_rfl) (by kernel_rfl) (fun _ _ _ hq => hp _ _ _ _ _ hq) (Or.inl ⟨by kernel_rfl, fun wx hSw => by have h := hSw.1; go_simp⟩) hS ?_
 simp only [Act.put, sA, sZ, sS]
 refine tk 3 (some 51) (.pointer (some ⟨w.heap.size + 1, 1, none⟩)) (fun _ _ _ hq => hp _ _ _ _ _ hq) hS ?_
 simp only [Act.put, sA, sZ, sS]
 refine takeD 4 (some 52) (.int .u64 (y1 : Int)) rfl rfl (by kernel_rfl) (by kernel_rfl) (by kernel_rfl) (by kernel_rfl) (fun _ _ _ hq => hp _ _ _ _ _ hq) (Or.inl ⟨by kernel_rfl, fun wx hSw => by have h := hSw.2.2.2.2.2.2.1; go_simp⟩) hS ?_
 simp only [Act.put, sA, sZ, sS]
 refine tk 6 (some 54) (.pointer (some ⟨w.heap.size, 1, none⟩)) (fun _ _ _ hq => hp _ _ _ _ _ hq) hS ?_
 simp only [Act.put, sA, sZ, sS]
 refine takeD 7 (some 55) (.int .u64 (x1 : Int)) rfl rfl (by kernel_rfl) (by kernel_rfl) (by kernel_rfl) (by kernel_rfl) (fun _ _ _ hq => hp _ _ _ _ _ hq) (Or.inl ⟨by kernel_rfl, fun wx hSw => by have h := hSw.2.1; go_simp⟩) hS ?_
 simp only [Act.put, sA, sZ, sS]
 refine tk 8 (some 56) (.pointer (some ⟨w.heap.size + 1, 0, none⟩)) (fun _ _ _ hq => hp _ _ _ _ _ hq) hS ?_
 simp only [Act.put, sA, sZ, sS]
 refine takeD 9 (some 57) (.int .u64 (y0 : Int)) rfl rfl (by kernel_rfl) (by kernel_rfl) (by kernel_rfl) (by kernel_rfl) (fun _ _ _ hq => hp _ _ _ _ _ hq) (Or.inl ⟨by kernel_rfl, fun wx hSw => by have h := hSw.2.2.2.2.2.1; go_simp⟩) hS ?_
 simp only [Act.put, sA, sZ, sS]
 refine tk 11 (some 59) (.pointer (some ⟨w.heap.size, 2, none⟩)) (fun _ _ _ hq => hp _ _ _ _ _ hq) hS ?_
 simp only [Act.put, sA, sZ, sS]
 refine takeD 12 (some 60) (.int .u64 (x2 : Int)) rfl rfl (by kernel_rfl) (by kernel_rfl) (by kernel_rfl) (by kernel_rfl) (fun _ _ _ hq => hp _ _ _ _ _ hq) (Or.inl ⟨by kernel_rfl, fun wx hSw => by have h := hSw.2.2.1; go_simp⟩) hS ?_
 simp only [Act.put, sA, sZ, sS]
 refine tk 13 (some 61) (.int .u64 (z4 : Int)) (fun _ _ _ hq => hp _ _ _ _ _ hq) hS ?_
 simp only [Act.put, sA, sZ, sS]
 refine tk 15 (some 63) (.pointer (some ⟨w.heap.size, 3, none⟩)) (fun _ _ _ hq => hp _ _ _ _ _ hq) hS ?_
 simp only [Act.put, sA, sZ, sS]
 refine takeD 16 (some 64) (.int .u64 (x3 : Int)) rfl rfl (by kernel_rfl) (by kernel_rfl) (by kernel_rfl) (by kernel_rfl) (fun _ _ _ hq => hp _ _ _ _ _ hq) (Or.inl ⟨by kernel_rfl, fun wx hSw => by have h := hSw.2.2.2.1; go_simp⟩) hS ?_
 simp only [Act.put, sA, sZ, sS]
 refine tk 17 (some 65) (.int .u64 (z3 : Int)) (fun _ _ _ hq => hp _ _ _ _ _ hq) hS ?_
 simp only [Act.put, sA, sZ, sS]
 refine tk 19 (some 67) (.pointer (some ⟨w.heap.size, 4, none⟩)) (fun _ _ _ hq => hp _ _ _ _ _ hq) hS ?_
 simp only [Act.put, sA, sZ, sS]
 refine takeD 20 (some 68) (.int .u64 (x4 : Int)) rfl rfl (by kernel_rfl) (by kernel_rfl) (by kernel_rfl) (by kernel_rfl) (fun _ _ _ hq => hp _ _ _ _ _ hq) (Or.inl ⟨by kernel_rfl, fun wx hSw => by have h := hSw.2.2.2.2.1; go_simp⟩) hS ?_
 simp only [Act.put, sA, sZ, sS]
 refine tk 21 (some 69) (.int .u64 (z2 : Int)) (fun _ _ _ hq => hp _ _ _ _ _ hq) hS ?_
 simp only [Act.put, sA, sZ, sS]
 refine rd2 5 23 (fun K hK => ?_) fun K hK => ?_
 ·
  refine step_callF (by rfl) (some 53) rfl 83 _ _ rfl [.agg #[.int .u64 0, .int .u64 0], (.int .u64 (x0 : Int)), (.int .u64 (y1 : Int))] rfl hent _ (plus_zero _ _ (by assumption) (by assumption) _) ?_
  rintro e wm1 ⟨p1, q1, rfl, hi1, hb1⟩
  refine ⟨_, rfl, ?_⟩
  simp only [Act.put, sA, sZ, sS]
  refine kp hK hkeep ?_
  clear hK K
  refine rd2 10 23 (fun K hK => ?_) fun K hK => ?_
  ·
   refine step_callF (by rfl) (some 58) rfl 83 _ _ rfl [.agg #[.int .u64 (p1 : Int), .int .u64 (q1 : Int)], (.int .u64 (x1 : Int)), (.int .u64 (y0 : Int))] rfl hent _ (plus_more _ _ _ _ (by assumption) (by omega) _ _ (by assumption) (by assumption) _) ?_
   rintro e wm2 ⟨p2, q2, rfl, hi2, hb2⟩
   refine ⟨_, rfl, ?_⟩
   simp only [Act.put, sA, sZ, sS]
   refine kp hK hkeep ?_
   clear hK K
   refine rd2 14 23 (fun K hK => ?_) fun K hK => ?_
   ·
    refine step_callF (by rfl) (some 62) rfl 83 _ _ rfl [.agg #[.int .u64 (p2 : Int), .int .u64 (q2 : Int)], (.int .u64 (x2 : Int)), (.int .u64 (z4 : Int))] rfl hent _ (plus_more _ _ _ _ (by assumption) (by omega) _ _ (by assumption) (by assumption) _) ?_
    rintro e wm3 ⟨p3, q3, rfl, hi3, hb3⟩
    refine ⟨_, rfl, ?_⟩
    simp only [Act.put, sA, sZ, sS]
    refine kp hK hkeep ?_
    clear hK K
    refine rd2 18 23 (fun K hK => ?_) fun K hK => ?_
    ·
     refine step_callF (by rfl) (some 66) rfl 83 _ _ rfl [.agg #[.int .u64 (p3 : Int), .int .u64 (q3 : Int)], (.int .u64 (x3 : Int)), (.int .u64 (z3 : Int))] rfl hent _ (plus_more _ _ _ _ (by assumption) (by omega) _ _ (by assumption) (by assumption) _) ?_
     rintro e wm4 ⟨p4, q4, rfl, hi4, hb4⟩
     refine ⟨_, rfl, ?_⟩
     simp only [Act.put, sA, sZ, sS]
     refine kp hK hkeep ?_
     clear hK K
     refine rd2 22 23 (fun K hK => ?_) fun K hK => ?_
     ·
      refine step_callF (by rfl) (some 70) rfl 83 _ _ rfl [.agg #[.int .u64 (p4 : Int), .int .u64 (q4 : Int)], (.int .u64 (x4 : Int)), (.int .u64 (z2 : Int))] rfl hent _ (plus_more _ _ _ _ (by assumption) (by omega) _ _ (by assumption) (by assumption) _) ?_
      rintro e wm5 ⟨p5, q5, rfl, hi5, hb5⟩
      refine ⟨_, rfl, ?_⟩
      simp only [Act.put, sA, sZ, sS]
      refine kp hK hkeep ?_
      clear hK K
      refine on1 23 fun K hK => ?_
      refine step_val (by rfl) (some 10) rfl _ (alloc_wide _ _ rfl _) ?_
      simp only [Act.put, sA, sZ, sS]
      refine kp hK hkeep ?_
      clear hK K
      refine on1 24 fun K hK => ?_
      refine step_store_row rfl 124 (.tmp 10) (.tmp 70) rfl _ (wideC p5 q5) rfl rfl 124 #[.int .u64 0, .int .u64 0] (by (repeat (first | exact RowC.new _ _ _ | refine RowC.call ?_ (by assumption))); first | done | fail "row") info_wide rfl (one_wide p5 q5) ?_
      refine hK.out _ _ (fun h => absurd rfl h) ?_
      clear hK K
      refine doneT (by kernel_rfl) ?_ _
      exact h _ p5 q5 _ _ _ _ _ _ _ _ _ _ _ _ _ _ _ _ _ _ _ _ _ _ _ _ hi5 (fun L hL => Ms.finRow hL bl ((show Below v1.heap.size v1 wm5 from bl).size) (by (repeat (first | exact RowC.new _ _ _ | refine RowC.call ?_ (by assumption))); first | done | fail "row") _)
     ·
      refine step_val (by rfl) (some 10) rfl _ (alloc_wide _ _ rfl _) ?_
      simp only [Act.put, sA, sZ, sS]
      refine kp hK hkeep ?_
      clear hK K
      refine on1 22 fun K hK => ?_
      refine step_callF (by rfl) (some 70) rfl 83 _ _ rfl [.agg #[.int .u64 (p4 : Int), .int .u64 (q4 : Int)], (.int .u64 (x4 : Int)), (.int .u64 (z2 : Int))] rfl hent _ (plus_more _ _ _ _ (by assumption) (by omega) _ _ (by assumption) (by assumption) _) ?_
      rintro e wm5 ⟨p5, q5, rfl, hi5, hb5⟩
      refine ⟨_, rfl, ?_⟩
      simp only [Act.put, sA, sZ, sS]
      refine kp hK hkeep ?_
      clear hK K
      refine on1 24 fun K hK => ?_
      refine step_store_row rfl 124 (.tmp 10) (.tmp 70) rfl _ (wideC p5 q5) rfl rfl 124 #[.int .u64 0, .int .u64 0] (by (repeat (first | exact RowC.new _ _ _ | refine RowC.call ?_ (by assumption))); first | done | fail "row") info_wide rfl (one_wide p5 q5) ?_
      refine hK.out _ _ (fun h => absurd rfl h) ?_
      clear hK K
      refine doneT (by kernel_rfl) ?_ _
      exact h _ p5 q5 _ _ _ _ _ _ _ _ _ _ _ _ _ _ _ _ _ _ _ _ _ _ _ _ hi5 (fun L hL => Ms.finRow hL bl ((show Below v1.heap.size v1 wm4 from bl).size) (by (repeat (first | exact RowC.new _ _ _ | refine RowC.call ?_ (by assumption))); first | done | fail "row") _)
    ·
     refine step_val (by rfl) (some 10) rfl _ (alloc_wide _ _ rfl _) ?_
     simp only [Act.put, sA, sZ, sS]
     refine kp hK hkeep ?_
     clear hK K
     refine on1 18 fun K hK => ?_
     refine step_callF (by rfl) (some 66) rfl 83 _ _ rfl [.agg #[.int .u64 (p3 : Int), .int .u64 (q3 : Int)], (.int .u64 (x3 : Int)), (.int .u64 (z3 : Int))] rfl hent _ (plus_more _ _ _ _ (by assumption) (by omega) _ _ (by assumption) (by assumption) _) ?_
     rintro e wm4 ⟨p4, q4, rfl, hi4, hb4⟩
     refine ⟨_, rfl, ?_⟩
     simp only [Act.put, sA, sZ, sS]
     refine kp hK hkeep ?_
     clear hK K
     refine on1 22 fun K hK => ?_
     refine step_callF (by rfl) (some 70) rfl 83 _ _ rfl [.agg #[.int .u64 (p4 : Int), .int .u64 (q4 : Int)], (.int .u64 (x4 : Int)), (.int .u64 (z2 : Int))] rfl hent _ (plus_more _ _ _ _ (by assumption) (by omega) _ _ (by assumption) (by assumption) _) ?_
     rintro e wm5 ⟨p5, q5, rfl, hi5, hb5⟩
     refine ⟨_, rfl, ?_⟩
     simp only [Act.put, sA, sZ, sS]
     refine kp hK hkeep ?_
     clear hK K
     refine on1 24 fun K hK => ?_
     refine step_store_row rfl 124 (.tmp 10) (.tmp 70) rfl _ (wideC p5 q5) rfl rfl 124 #[.int .u64 0, .int .u64 0] (by (repeat (first | exact RowC.new _ _ _ | refine RowC.call ?_ (by assumption))); first | done | fail "row") info_wide rfl (one_wide p5 q5) ?_
     refine hK.out _ _ (fun h => absurd rfl h) ?_
     clear hK K
     refine doneT (by kernel_rfl) ?_ _
     exact h _ p5 q5 _ _ _ _ _ _ _ _ _ _ _ _ _ _ _ _ _ _ _ _ _ _ _ _ hi5 (fun L hL => Ms.finRow hL bl ((show Below v1.heap.size v1 wm3 from bl).size) (by (repeat (first | exact RowC.new _ _ _ | refine RowC.call ?_ (by assumption))); first | done | fail "row") _)
   ·
    refine step_val (by rfl) (some 10) rfl _ (alloc_wide _ _ rfl _) ?_
    simp only [Act.put, sA, sZ, sS]
    refine kp hK hkeep ?_
    clear hK K
    refine on1 14 fun K hK => ?_
    refine step_callF (by rfl) (some 62) rfl 83 _ _ rfl [.agg #[.int .u64 (p2 : Int), .int .u64 (q2 : Int)], (.int .u64 (x2 : Int)), (.int .u64 (z4 : Int))] rfl hent _ (plus_more _ _ _ _ (by assumption) (by omega) _ _ (by assumption) (by assumption) _) ?_
    rintro e wm3 ⟨p3, q3, rfl, hi3, hb3⟩
    refine ⟨_, rfl, ?_⟩
    simp only [Act.put, sA, sZ, sS]
    refine kp hK hkeep ?_
    clear hK K
    refine on1 18 fun K hK => ?_
    refine step_callF (by rfl) (some 66) rfl 83 _ _ rfl [.agg #[.int .u64 (p3 : Int), .int .u64 (q3 : Int)], (.int .u64 (x3 : Int)), (.int .u64 (z3 : Int))] rfl hent _ (plus_more _ _ _ _ (by assumption) (by omega) _ _ (by assumption) (by assumption) _) ?_
    rintro e wm4 ⟨p4, q4, rfl, hi4, hb4⟩
    refine ⟨_, rfl, ?_⟩
    simp only [Act.put, sA, sZ, sS]
    refine kp hK hkeep ?_
    clear hK K
    refine on1 22 fun K hK => ?_
    refine step_callF (by rfl) (some 70) rfl 83 _ _ rfl [.agg #[.int .u64 (p4 : Int), .int .u64 (q4 : Int)], (.int .u64 (x4 : Int)), (.int .u64 (z2 : Int))] rfl hent _ (plus_more _ _ _ _ (by assumption) (by omega) _ _ (by assumption) (by assumption) _) ?_
    rintro e wm5 ⟨p5, q5, rfl, hi5, hb5⟩
    refine ⟨_, rfl, ?_⟩
    simp only [Act.put, sA, sZ, sS]
    refine kp hK hkeep ?_
    clear hK K
    refine on1 24 fun K hK => ?_
    refine step_store_row rfl 124 (.tmp 10) (.tmp 70) rfl _ (wideC p5 q5) rfl rfl 124 #[.int .u64 0, .int .u64 0] (by (repeat (first | exact RowC.new _ _ _ | refine RowC.call ?_ (by assumption))); first | done | fail "row") info_wide rfl (one_wide p5 q5) ?_
    refine hK.out _ _ (fun h => absurd rfl h) ?_
    clear hK K
    refine doneT (by kernel_rfl) ?_ _
    exact h _ p5 q5 _ _ _ _ _ _ _ _ _ _ _ _ _ _ _ _ _ _ _ _ _ _ _ _ hi5 (fun L hL => Ms.finRow hL bl ((show Below v1.heap.size v1 wm2 from bl).size) (by (repeat (first | exact RowC.new _ _ _ | refine RowC.call ?_ (by assumption))); first | done | fail "row") _)
  ·
   refine step_val (by rfl) (some 10) rfl _ (alloc_wide _ _ rfl _) ?_
   simp only [Act.put, sA, sZ, sS]
   refine kp hK hkeep ?_
   clear hK K
   refine on1 10 fun K hK => ?_
   refine step_callF (by rfl) (some 58) rfl 83 _ _ rfl [.agg #[.int .u64 (p1 : Int), .int .u64 (q1 : Int)], (.int .u64 (x1 : Int)), (.int .u64 (y0 : Int))] rfl hent _ (plus_more _ _ _ _ (by assumption) (by omega) _ _ (by assumption) (by assumption) _) ?_
   rintro e wm2 ⟨p2, q2, rfl, hi2, hb2⟩
   refine ⟨_, rfl, ?_⟩
   simp only [Act.put, sA, sZ, sS]
   refine kp hK hkeep ?_
   clear hK K
   refine on1 14 fun K hK => ?_
   refine step_callF (by rfl) (some 62) rfl 83 _ _ rfl [.agg #[.int .u64 (p2 : Int), .int .u64 (q2 : Int)], (.int .u64 (x2 : Int)), (.int .u64 (z4 : Int))] rfl hent _ (plus_more _ _ _ _ (by assumption) (by omega) _ _ (by assumption) (by assumption) _) ?_
   rintro e wm3 ⟨p3, q3, rfl, hi3, hb3⟩
   refine ⟨_, rfl, ?_⟩
   simp only [Act.put, sA, sZ, sS]
   refine kp hK hkeep ?_
   clear hK K
   refine on1 18 fun K hK => ?_
   refine step_callF (by rfl) (some 66) rfl 83 _ _ rfl [.agg #[.int .u64 (p3 : Int), .int .u64 (q3 : Int)], (.int .u64 (x3 : Int)), (.int .u64 (z3 : Int))] rfl hent _ (plus_more _ _ _ _ (by assumption) (by omega) _ _ (by assumption) (by assumption) _) ?_
   rintro e wm4 ⟨p4, q4, rfl, hi4, hb4⟩
   refine ⟨_, rfl, ?_⟩
   simp only [Act.put, sA, sZ, sS]
   refine kp hK hkeep ?_
   clear hK K
   refine on1 22 fun K hK => ?_
   refine step_callF (by rfl) (some 70) rfl 83 _ _ rfl [.agg #[.int .u64 (p4 : Int), .int .u64 (q4 : Int)], (.int .u64 (x4 : Int)), (.int .u64 (z2 : Int))] rfl hent _ (plus_more _ _ _ _ (by assumption) (by omega) _ _ (by assumption) (by assumption) _) ?_
   rintro e wm5 ⟨p5, q5, rfl, hi5, hb5⟩
   refine ⟨_, rfl, ?_⟩
   simp only [Act.put, sA, sZ, sS]
   refine kp hK hkeep ?_
   clear hK K
   refine on1 24 fun K hK => ?_
   refine step_store_row rfl 124 (.tmp 10) (.tmp 70) rfl _ (wideC p5 q5) rfl rfl 124 #[.int .u64 0, .int .u64 0] (by (repeat (first | exact RowC.new _ _ _ | refine RowC.call ?_ (by assumption))); first | done | fail "row") info_wide rfl (one_wide p5 q5) ?_
   refine hK.out _ _ (fun h => absurd rfl h) ?_
   clear hK K
   refine doneT (by kernel_rfl) ?_ _
   exact h _ p5 q5 _ _ _ _ _ _ _ _ _ _ _ _ _ _ _ _ _ _ _ _ _ _ _ _ hi5 (fun L hL => Ms.finRow hL bl ((show Below v1.heap.size v1 wm1 from bl).size) (by (repeat (first | exact RowC.new _ _ _ | refine RowC.call ?_ (by assumption))); first | done | fail "row") _)
 ·
  refine step_val (by rfl) (some 10) rfl _ (alloc_wide _ _ rfl _) ?_
  simp only [Act.put, sA, sZ, sS]
  refine kp hK hkeep ?_
  clear hK K
  refine on1 5 fun K hK => ?_
  refine step_callF (by rfl) (some 53) rfl 83 _ _ rfl [.agg #[.int .u64 0, .int .u64 0], (.int .u64 (x0 : Int)), (.int .u64 (y1 : Int))] rfl hent _ (plus_zero _ _ (by assumption) (by assumption) _) ?_
  rintro e wm1 ⟨p1, q1, rfl, hi1, hb1⟩
  refine ⟨_, rfl, ?_⟩
  simp only [Act.put, sA, sZ, sS]
  refine kp hK hkeep ?_
  clear hK K
  refine on1 10 fun K hK => ?_
  refine step_callF (by rfl) (some 58) rfl 83 _ _ rfl [.agg #[.int .u64 (p1 : Int), .int .u64 (q1 : Int)], (.int .u64 (x1 : Int)), (.int .u64 (y0 : Int))] rfl hent _ (plus_more _ _ _ _ (by assumption) (by omega) _ _ (by assumption) (by assumption) _) ?_
  rintro e wm2 ⟨p2, q2, rfl, hi2, hb2⟩
  refine ⟨_, rfl, ?_⟩
  simp only [Act.put, sA, sZ, sS]
  refine kp hK hkeep ?_
  clear hK K
  refine on1 14 fun K hK => ?_
  refine step_callF (by rfl) (some 62) rfl 83 _ _ rfl [.agg #[.int .u64 (p2 : Int), .int .u64 (q2 : Int)], (.int .u64 (x2 : Int)), (.int .u64 (z4 : Int))] rfl hent _ (plus_more _ _ _ _ (by assumption) (by omega) _ _ (by assumption) (by assumption) _) ?_
  rintro e wm3 ⟨p3, q3, rfl, hi3, hb3⟩
  refine ⟨_, rfl, ?_⟩
  simp only [Act.put, sA, sZ, sS]
  refine kp hK hkeep ?_
  clear hK K
  refine on1 18 fun K hK => ?_
  refine step_callF (by rfl) (some 66) rfl 83 _ _ rfl [.agg #[.int .u64 (p3 : Int), .int .u64 (q3 : Int)], (.int .u64 (x3 : Int)), (.int .u64 (z3 : Int))] rfl hent _ (plus_more _ _ _ _ (by assumption) (by omega) _ _ (by assumption) (by assumption) _) ?_
  rintro e wm4 ⟨p4, q4, rfl, hi4, hb4⟩
  refine ⟨_, rfl, ?_⟩
  simp only [Act.put, sA, sZ, sS]
  refine kp hK hkeep ?_
  clear hK K
  refine on1 22 fun K hK => ?_
  refine step_callF (by rfl) (some 70) rfl 83 _ _ rfl [.agg #[.int .u64 (p4 : Int), .int .u64 (q4 : Int)], (.int .u64 (x4 : Int)), (.int .u64 (z2 : Int))] rfl hent _ (plus_more _ _ _ _ (by assumption) (by omega) _ _ (by assumption) (by assumption) _) ?_
  rintro e wm5 ⟨p5, q5, rfl, hi5, hb5⟩
  refine ⟨_, rfl, ?_⟩
  simp only [Act.put, sA, sZ, sS]
  refine kp hK hkeep ?_
  clear hK K
  refine on1 24 fun K hK => ?_
  refine step_store_row rfl 124 (.tmp 10) (.tmp 70) rfl _ (wideC p5 q5) rfl rfl 124 #[.int .u64 0, .int .u64 0] (by (repeat (first | exact RowC.new _ _ _ | refine RowC.call ?_ (by assumption))); first | done | fail "row") info_wide rfl (one_wide p5 q5) ?_
  refine hK.out _ _ (fun h => absurd rfl h) ?_
  clear hK K
  refine doneT (by kernel_rfl) ?_ _
  exact h _ p5 q5 _ _ _ _ _ _ _ _ _ _ _ _ _ _ _ _ _ _ _ _ _ _ _ _ hi5 (fun L hL => Ms.finRow hL bl ((show Below v1.heap.size v1 v1.drew from bl).size) (by (repeat (first | exact RowC.new _ _ _ | refine RowC.call ?_ (by assumption))); first | done | fail "row") _)
set_option maxRecDepth 100000 in
set_option maxHeartbeats 40000000 in
theorem prod_reg4 (w v1 : World) (x0 x1 x2 x3 x4 y0 y1 y2 y3 y4 z1 z2 z3 z4 : Nat) (px0 : Part x0) (px1 : Part x1) (px2 : Part x2) (px3 : Part x3) (px4 : Part x4) (py0 : Part19 y0) (py1 : Part19 y1) (py2 : Part19 y2) (py3 : Part19 y3) (py4 : Part19 y4) (pz1 : Part19 z1) (pz2 : Part19 z2) (pz3 : Part19 z3) (pz4 : Part19 z4)
  (hkeep : ∀ wx : World, Below v1.heap.size v1 wx → PartsAt w.heap.size (w.heap.size + 1) x0 x1 x2 x3 x4 y0 y1 y2 y3 y4 wx)
  (u0 u1 u4 u9 u10 u11 u12 u13 u14 u15 u16 u17 u18 u19 u20 u21 u22 u23 u24 u25 u26 u27 u28 u29 u30 u31 u32 u33 u34 u35 u36 u37 u38 u39 u40 u41 u42 u43 u44 u45 u46 u47 u48 u49 u50 u51 u52 u53 u54 u55 u56 u57 u58 u59 u60 u61 u62 u63 u64 u65 u66 u67 u68 u69 u70 u71 u72 u73 u74 u75 u76 u77 u78 u79 u80 u81 u82 u83 u84 u85 u86 u87 u88 u89 u90 u91 u92 u93 u94 u95 u96 u97 u98 u99 u100 u101 u102 u103 u104 u105 u106 u107 u108 u109 u110 u111 u112 u113 u114 u115 u116 u117 u118 u119 u120 u121 u122 u123 u124 u125 u126 u127 u128 u129 u130 u131 u132 u133 u134 u135 u136 u137 u138 u139 u140 u141 u142 u143 u144 u145 u146 u147 u148 u149 u150 u151 u152 u153 u154 u155 u156 u157 u158 u159 u160 u161 u162 u163 u164 u165 u166 u167 u168 u169 u170 u171 u172 u173 : Value) (Q : Exit → Act → World → Prop) (hp : ∀ (t : Tmp) c a v wx, Q (.panic c) (a.put (some t) v) wx → Q (.panic c) a wx)
  (h : ∀ (g p q : Nat) (wx : World) (s71 s72 s73 s74 s75 s76 s77 s78 s79 s80 s81 s82 s83 s84 s85 s86 s87 s88 s89 s90 s91 s92 s93 s94 : Value), IsW p q (x0 * y2 + x1 * y1 + x2 * y0 + x3 * z4 + x4 * z3) 5 → (∀ L, Ms w v1 L → Ms w wx ((g, 124, wideC p q) :: L)) → Q .normal { tmps := #[u0, u1, .pointer (some ⟨w.heap.size, 0, none⟩), .pointer (some ⟨w.heap.size + 1, 0, none⟩), u4, .int .u64 (z1 : Int), .int .u64 (z2 : Int), .int .u64 (z3 : Int), .int .u64 (z4 : Int), u9, u10, .pointer (some ⟨g, 0, none⟩), u12, u13, u14, u15, u16, u17, u18, u19, u20, u21, u22, u23, u24, u25, u26, u27, u28, u29, u30, u31, u32, u33, u34, u35, u36, u37, u38, u39, u40, u41, u42, u43, u44, u45, u46, u47, u48, u49, u50, u51, u52, u53, u54, u55, u56, u57, u58, u59, u60, u61, u62, u63, u64, u65, u66, u67, u68, u69, u70, s71, s72, s73, s74, s75, s76, s77, s78, s79, s80, s81, s82, s83, s84, s85, s86, s87, s88, s89, s90, s91, s92, s93, s94, u95, u96, u97, u98, u99, u100, u101, u102, u103, u104, u105, u106, u107, u108, u109, u110, u111, u112, u113, u114, u115, u116, u117, u118, u119, u120, u121, u122, u123, u124, u125, u126, u127, u128, u129, u130, u131, u132, u133, u134, u135, u136, u137, u138, u139, u140, u141, u142, u143, u144, u145, u146, u147, u148, u149, u150, u151, u152, u153, u154, u155, u156, u157, u158, u159, u160, u161, u162, u163, u164, u165, u166, u167, u168, u169, u170, u171, u172, u173], defers := [] } wx) :
  Code.wp Tryd.prog (match Tryd.f65.body with | some c => findR 4 c | none => .skip) Q { tmps := #[u0, u1, .pointer (some ⟨w.heap.size, 0, none⟩), .pointer (some ⟨w.heap.size + 1, 0, none⟩), u4, .int .u64 (z1 : Int), .int .u64 (z2 : Int), .int .u64 (z3 : Int), .int .u64 (z4 : Int), u9, u10, u11, u12, u13, u14, u15, u16, u17, u18, u19, u20, u21, u22, u23, u24, u25, u26, u27, u28, u29, u30, u31, u32, u33, u34, u35, u36, u37, u38, u39, u40, u41, u42, u43, u44, u45, u46, u47, u48, u49, u50, u51, u52, u53, u54, u55, u56, u57, u58, u59, u60, u61, u62, u63, u64, u65, u66, u67, u68, u69, u70, u71, u72, u73, u74, u75, u76, u77, u78, u79, u80, u81, u82, u83, u84, u85, u86, u87, u88, u89, u90, u91, u92, u93, u94, u95, u96, u97, u98, u99, u100, u101, u102, u103, u104, u105, u106, u107, u108, u109, u110, u111, u112, u113, u114, u115, u116, u117, u118, u119, u120, u121, u122, u123, u124, u125, u126, u127, u128, u129, u130, u131, u132, u133, u134, u135, u136, u137, u138, u139, u140, u141, u142, u143, u144, u145, u146, u147, u148, u149, u150, u151, u152, u153, u154, u155, u156, u157, u158, u159, u160, u161, u162, u163, u164, u165, u166, u167, u168, u169, u170, u171, u172, u173], defers := [] } v1 := by
 have hent : ∀ args w, (callFunc 83 args).run Tryd.prog w = .ok (.enter 83 args) w := enters_of Tryd.func83 (by kernel_rfl) rfl
 show Code.wp Tryd.prog (Code.region 4 _ true) Q _ v1
 refine beginT (PartsAt w.heap.size (w.heap.size + 1) x0 x1 x2 x3 x4 y0 y1 y2 y3 y4) 25 (by kernel_rfl) ?_
 have hS := hkeep _ (c_drew (c_refl _))
 refine tk 0 (some 71) (.agg #[.int .u64 0, .int .u64 0]) (fun _ _ _ hq => hp _ _ _ _ _ hq) hS ?_
 simp only [Act.put, sA, sZ, sS]
 refine tk 1 (some 72) (.pointer (some ⟨w.heap.size, 0, none⟩)) (fun _ _ _ hq => hp _ _ _ _ _ hq) hS ?_
 simp only [Act.put, sA, sZ, sS]
 refine takeD 2 (some 73) (.int .u64 (x0 : Int)) rfl rfl (by kernel_rfl) (by kernel_rfl) (by kernel_rfl) (by kernel_rfl) (fun _ _ _ hq => hp _ _ _ _ _ hq) (Or.inl ⟨by kernel_rfl, fun wx hSw => by have h := hSw.1; go_simp⟩) hS ?_
 simp only [Act.put, sA, sZ, sS]
 refine tk 3 (some 74) (.pointer (some ⟨w.heap.size + 1, 2, none⟩)) (fun _ _ _ hq => hp _ _ _ _ _ hq) hS ?_
 simp only [Act.put, sA, sZ, sS]
 refine takeD 4 (some 75) (.int .u64 (y2 : Int)) rfl rfl (by kernel_rfl) (by kernel_rfl) (by kernel_rfl) (by kernel_rfl) (fun _ _ _ hq => hp _ _ _ _ _ hq) (Or.inl ⟨by kernel_rfl, fun wx hSw => by have h := hSw.2.2.2.2.2.2.2.1; go_simp⟩) hS ?_
 simp only [Act.put, sA, sZ, sS]
 refine tk 6 (some 77) (.pointer (some ⟨w.heap.size, 1, none⟩)) (fun _ _ _ hq => hp _ _ _ _ _ hq) hS ?_
 simp only [Act.put, sA, sZ, sS]
 refine takeD 7 (some 78) (.int .u64 (x1 : Int)) rfl rfl (by kernel_rfl) (by kernel_rfl) (by kernel_rfl) (by kernel_rfl) (fun _ _ _ hq => hp _ _ _ _ _ hq) (Or.inl ⟨by kernel_rfl, fun wx hSw => by have h := hSw.2.1; go_simp⟩) hS ?_
 simp only [Act.put, sA, sZ, sS]
 refine tk 8 (some 79) (.pointer (some ⟨w.heap.size + 1, 1, none⟩)) (fun _ _ _ hq => hp _ _ _ _ _ hq) hS ?_
 simp only [Act.put, sA, sZ, sS]
 refine takeD 9 (some 80) (.int .u64 (y1 : Int)) rfl rfl (by kernel_rfl) (by kernel_rfl) (by kernel_rfl) (by kernel_rfl) (fun _ _ _ hq => hp _ _ _ _ _ hq) (Or.inl ⟨by kernel_rfl, fun wx hSw => by have h := hSw.2.2.2.2.2.2.1; go_simp⟩) hS ?_
 simp only [Act.put, sA, sZ, sS]
 refine tk 11 (some 82) (.pointer (some ⟨w.heap.size, 2, none⟩)) (fun _ _ _ hq => hp _ _ _ _ _ hq) hS ?_
 simp only [Act.put, sA, sZ, sS]
 refine takeD 12 (some 83) (.int .u64 (x2 : Int)) rfl rfl (by kernel_rfl) (by kernel_rfl) (by kernel_rfl) (by kernel_rfl) (fun _ _ _ hq => hp _ _ _ _ _ hq) (Or.inl ⟨by kernel_rfl, fun wx hSw => by have h := hSw.2.2.1; go_simp⟩) hS ?_
 simp only [Act.put, sA, sZ, sS]
 refine tk 13 (some 84) (.pointer (some ⟨w.heap.size + 1, 0, none⟩)) (fun _ _ _ hq => hp _ _ _ _ _ hq) hS ?_
 simp only [Act.put, sA, sZ, sS]
 refine takeD 14 (some 85) (.int .u64 (y0 : Int)) rfl rfl (by kernel_rfl) (by kernel_rfl) (by kernel_rfl) (by kernel_rfl) (fun _ _ _ hq => hp _ _ _ _ _ hq) (Or.inl ⟨by kernel_rfl, fun wx hSw => by have h := hSw.2.2.2.2.2.1; go_simp⟩) hS ?_
 simp only [Act.put, sA, sZ, sS]
 refine tk 16 (some 87) (.pointer (some ⟨w.heap.size, 3, none⟩)) (fun _ _ _ hq => hp _ _ _ _ _ hq) hS ?_
 simp only [Act.put, sA, sZ, sS]
 refine takeD 17 (some 88) (.int .u64 (x3 : Int)) rfl rfl (by kernel_rfl) (by kernel_rfl) (by kernel_rfl) (by kernel_rfl) (fun _ _ _ hq => hp _ _ _ _ _ hq) (Or.inl ⟨by kernel_rfl, fun wx hSw => by have h := hSw.2.2.2.1; go_simp⟩) hS ?_
 simp only [Act.put, sA, sZ, sS]
 refine tk 18 (some 89) (.int .u64 (z4 : Int)) (fun _ _ _ hq => hp _ _ _ _ _ hq) hS ?_
 simp only [Act.put, sA, sZ, sS]
 refine tk 20 (some 91) (.pointer (some ⟨w.heap.size, 4, none⟩)) (fun _ _ _ hq => hp _ _ _ _ _ hq) hS ?_
 simp only [Act.put, sA, sZ, sS]
 refine takeD 21 (some 92) (.int .u64 (x4 : Int)) rfl rfl (by kernel_rfl) (by kernel_rfl) (by kernel_rfl) (by kernel_rfl) (fun _ _ _ hq => hp _ _ _ _ _ hq) (Or.inl ⟨by kernel_rfl, fun wx hSw => by have h := hSw.2.2.2.2.1; go_simp⟩) hS ?_
 simp only [Act.put, sA, sZ, sS]
 refine tk 22 (some 93) (.int .u64 (z3 : Int)) (fun _ _ _ hq => hp _ _ _ _ _ hq) hS ?_
 simp only [Act.put, sA, sZ, sS]
 refine rd2 5 24 (fun K hK => ?_) fun K hK => ?_
 ·
  refine step_callF (by rfl) (some 76) rfl 83 _ _ rfl [.agg #[.int .u64 0, .int .u64 0], (.int .u64 (x0 : Int)), (.int .u64 (y2 : Int))] rfl hent _ (plus_zero _ _ (by assumption) (by assumption) _) ?_
  rintro e wm1 ⟨p1, q1, rfl, hi1, hb1⟩
  refine ⟨_, rfl, ?_⟩
  simp only [Act.put, sA, sZ, sS]
  refine kp hK hkeep ?_
  clear hK K
  refine rd2 10 24 (fun K hK => ?_) fun K hK => ?_
  ·
   refine step_callF (by rfl) (some 81) rfl 83 _ _ rfl [.agg #[.int .u64 (p1 : Int), .int .u64 (q1 : Int)], (.int .u64 (x1 : Int)), (.int .u64 (y1 : Int))] rfl hent _ (plus_more _ _ _ _ (by assumption) (by omega) _ _ (by assumption) (by assumption) _) ?_
   rintro e wm2 ⟨p2, q2, rfl, hi2, hb2⟩
   refine ⟨_, rfl, ?_⟩
   simp only [Act.put, sA, sZ, sS]
   refine kp hK hkeep ?_
   clear hK K
   refine rd2 15 24 (fun K hK => ?_) fun K hK => ?_
   ·
    refine step_callF (by rfl) (some 86) rfl 83 _ _ rfl [.agg #[.int .u64 (p2 : Int), .int .u64 (q2 : Int)], (.int .u64 (x2 : Int)), (.int .u64 (y0 : Int))] rfl hent _ (plus_more _ _ _ _ (by assumption) (by omega) _ _ (by assumption) (by assumption) _) ?_
    rintro e wm3 ⟨p3, q3, rfl, hi3, hb3⟩
    refine ⟨_, rfl, ?_⟩
    simp only [Act.put, sA, sZ, sS]
    refine kp hK hkeep ?_
    clear hK K
    refine rd2 19 24 (fun K hK => ?_) fun K hK => ?_
    ·
     refine step_callF (by rfl) (some 90) rfl 83 _ _ rfl [.agg #[.int .u64 (p3 : Int), .int .u64 (q3 : Int)], (.int .u64 (x3 : Int)), (.int .u64 (z4 : Int))] rfl hent _ (plus_more _ _ _ _ (by assumption) (by omega) _ _ (by assumption) (by assumption) _) ?_
     rintro e wm4 ⟨p4, q4, rfl, hi4, hb4⟩
     refine ⟨_, rfl, ?_⟩
     simp only [Act.put, sA, sZ, sS]
     refine kp hK hkeep ?_
     clear hK K
     refine rd2 23 24 (fun K hK => ?_) fun K hK => ?_
     ·
      refine step_callF (by rfl) (some 94) rfl 83 _ _ rfl [.agg #[.int .u64 (p4 : Int), .int .u64 (q4 : Int)], (.int .u64 (x4 : Int)), (.int .u64 (z3 : Int))] rfl hent _ (plus_more _ _ _ _ (by assumption) (by omega) _ _ (by assumption) (by assumption) _) ?_
      rintro e wm5 ⟨p5, q5, rfl, hi5, hb5⟩
      refine ⟨_, rfl, ?_⟩
      simp only [Act.put, sA, sZ, sS]
      refine kp hK hkeep ?_
      clear hK K
      refine on1 24 fun K hK => ?_
      refine step_val (by rfl) (some 11) rfl _ (alloc_wide _ _ rfl _) ?_
      simp only [Act.put, sA, sZ, sS]
      refine kp hK hkeep ?_
      clear hK K
      refine on1 25 fun K hK => ?_
      refine step_store_row rfl 124 (.tmp 11) (.tmp 94) rfl _ (wideC p5 q5) rfl rfl 124 #[.int .u64 0, .int .u64 0] (by (repeat (first | exact RowC.new _ _ _ | refine RowC.call ?_ (by assumption))); first | done | fail "row") info_wide rfl (one_wide p5 q5) ?_
      refine hK.out _ _ (fun h => absurd rfl h) ?_
      clear hK K
      refine doneT (by kernel_rfl) ?_ _
      exact h _ p5 q5 _ _ _ _ _ _ _ _ _ _ _ _ _ _ _ _ _ _ _ _ _ _ _ _ _ hi5 (fun L hL => Ms.finRow hL bl ((show Below v1.heap.size v1 wm5 from bl).size) (by (repeat (first | exact RowC.new _ _ _ | refine RowC.call ?_ (by assumption))); first | done | fail "row") _)
     ·
      refine step_val (by rfl) (some 11) rfl _ (alloc_wide _ _ rfl _) ?_
      simp only [Act.put, sA, sZ, sS]
      refine kp hK hkeep ?_
      clear hK K
      refine on1 23 fun K hK => ?_
      refine step_callF (by rfl) (some 94) rfl 83 _ _ rfl [.agg #[.int .u64 (p4 : Int), .int .u64 (q4 : Int)], (.int .u64 (x4 : Int)), (.int .u64 (z3 : Int))] rfl hent _ (plus_more _ _ _ _ (by assumption) (by omega) _ _ (by assumption) (by assumption) _) ?_
      rintro e wm5 ⟨p5, q5, rfl, hi5, hb5⟩
      refine ⟨_, rfl, ?_⟩
      simp only [Act.put, sA, sZ, sS]
      refine kp hK hkeep ?_
      clear hK K
      refine on1 25 fun K hK => ?_
      refine step_store_row rfl 124 (.tmp 11) (.tmp 94) rfl _ (wideC p5 q5) rfl rfl 124 #[.int .u64 0, .int .u64 0] (by (repeat (first | exact RowC.new _ _ _ | refine RowC.call ?_ (by assumption))); first | done | fail "row") info_wide rfl (one_wide p5 q5) ?_
      refine hK.out _ _ (fun h => absurd rfl h) ?_
      clear hK K
      refine doneT (by kernel_rfl) ?_ _
      exact h _ p5 q5 _ _ _ _ _ _ _ _ _ _ _ _ _ _ _ _ _ _ _ _ _ _ _ _ _ hi5 (fun L hL => Ms.finRow hL bl ((show Below v1.heap.size v1 wm4 from bl).size) (by (repeat (first | exact RowC.new _ _ _ | refine RowC.call ?_ (by assumption))); first | done | fail "row") _)
    ·
     refine step_val (by rfl) (some 11) rfl _ (alloc_wide _ _ rfl _) ?_
     simp only [Act.put, sA, sZ, sS]
     refine kp hK hkeep ?_
     clear hK K
     refine on1 19 fun K hK => ?_
     refine step_callF (by rfl) (some 90) rfl 83 _ _ rfl [.agg #[.int .u64 (p3 : Int), .int .u64 (q3 : Int)], (.int .u64 (x3 : Int)), (.int .u64 (z4 : Int))] rfl hent _ (plus_more _ _ _ _ (by assumption) (by omega) _ _ (by assumption) (by assumption) _) ?_
     rintro e wm4 ⟨p4, q4, rfl, hi4, hb4⟩
     refine ⟨_, rfl, ?_⟩
     simp only [Act.put, sA, sZ, sS]
     refine kp hK hkeep ?_
     clear hK K
     refine on1 23 fun K hK => ?_
     refine step_callF (by rfl) (some 94) rfl 83 _ _ rfl [.agg #[.int .u64 (p4 : Int), .int .u64 (q4 : Int)], (.int .u64 (x4 : Int)), (.int .u64 (z3 : Int))] rfl hent _ (plus_more _ _ _ _ (by assumption) (by omega) _ _ (by assumption) (by assumption) _) ?_
     rintro e wm5 ⟨p5, q5, rfl, hi5, hb5⟩
     refine ⟨_, rfl, ?_⟩
     simp only [Act.put, sA, sZ, sS]
     refine kp hK hkeep ?_
     clear hK K
     refine on1 25 fun K hK => ?_
     refine step_store_row rfl 124 (.tmp 11) (.tmp 94) rfl _ (wideC p5 q5) rfl rfl 124 #[.int .u64 0, .int .u64 0] (by (repeat (first | exact RowC.new _ _ _ | refine RowC.call ?_ (by assumption))); first | done | fail "row") info_wide rfl (one_wide p5 q5) ?_
     refine hK.out _ _ (fun h => absurd rfl h) ?_
     clear hK K
     refine doneT (by kernel_rfl) ?_ _
     exact h _ p5 q5 _ _ _ _ _ _ _ _ _ _ _ _ _ _ _ _ _ _ _ _ _ _ _ _ _ hi5 (fun L hL => Ms.finRow hL bl ((show Below v1.heap.size v1 wm3 from bl).size) (by (repeat (first | exact RowC.new _ _ _ | refine RowC.call ?_ (by assumption))); first | done | fail "row") _)
   ·
    refine step_val (by rfl) (some 11) rfl _ (alloc_wide _ _ rfl _) ?_
    simp only [Act.put, sA, sZ, sS]
    refine kp hK hkeep ?_
    clear hK K
    refine on1 15 fun K hK => ?_
    refine step_callF (by rfl) (some 86) rfl 83 _ _ rfl [.agg #[.int .u64 (p2 : Int), .int .u64 (q2 : Int)], (.int .u64 (x2 : Int)), (.int .u64 (y0 : Int))] rfl hent _ (plus_more _ _ _ _ (by assumption) (by omega) _ _ (by assumption) (by assumption) _) ?_
    rintro e wm3 ⟨p3, q3, rfl, hi3, hb3⟩
    refine ⟨_, rfl, ?_⟩
    simp only [Act.put, sA, sZ, sS]
    refine kp hK hkeep ?_
    clear hK K
    refine on1 19 fun K hK => ?_
    refine step_callF (by rfl) (some 90) rfl 83 _ _ rfl [.agg #[.int .u64 (p3 : Int), .int .u64 (q3 : Int)], (.int .u64 (x3 : Int)), (.int .u64 (z4 : Int))] rfl hent _ (plus_more _ _ _ _ (by assumption) (by omega) _ _ (by assumption) (by assumption) _) ?_
    rintro e wm4 ⟨p4, q4, rfl, hi4, hb4⟩
    refine ⟨_, rfl, ?_⟩
    simp only [Act.put, sA, sZ, sS]
    refine kp hK hkeep ?_
    clear hK K
    refine on1 23 fun K hK => ?_
    refine step_callF (by rfl) (some 94) rfl 83 _ _ rfl [.agg #[.int .u64 (p4 : Int), .int .u64 (q4 : Int)], (.int .u64 (x4 : Int)), (.int .u64 (z3 : Int))] rfl hent _ (plus_more _ _ _ _ (by assumption) (by omega) _ _ (by assumption) (by assumption) _) ?_
    rintro e wm5 ⟨p5, q5, rfl, hi5, hb5⟩
    refine ⟨_, rfl, ?_⟩
    simp only [Act.put, sA, sZ, sS]
    refine kp hK hkeep ?_
    clear hK K
    refine on1 25 fun K hK => ?_
    refine step_store_row rfl 124 (.tmp 11) (.tmp 94) rfl _ (wideC p5 q5) rfl rfl 124 #[.int .u64 0, .int .u64 0] (by (repeat (first | exact RowC.new _ _ _ | refine RowC.call ?_ (by assumption))); first | done | fail "row") info_wide rfl (one_wide p5 q5) ?_
    refine hK.out _ _ (fun h => absurd rfl h) ?_
    clear hK K
    refine doneT (by kernel_rfl) ?_ _
    exact h _ p5 q5 _ _ _ _ _ _ _ _ _ _ _ _ _ _ _ _ _ _ _ _ _ _ _ _ _ hi5 (fun L hL => Ms.finRow hL bl ((show Below v1.heap.size v1 wm2 from bl).size) (by (repeat (first | exact RowC.new _ _ _ | refine RowC.call ?_ (by assumption))); first | done | fail "row") _)
  ·
   refine step_val (by rfl) (some 11) rfl _ (alloc_wide _ _ rfl _) ?_
   simp only [Act.put, sA, sZ, sS]
   refine kp hK hkeep ?_
   clear hK K
   refine on1 10 fun K hK => ?_
   refine step_callF (by rfl) (some 81) rfl 83 _ _ rfl [.agg #[.int .u64 (p1 : Int), .int .u64 (q1 : Int)], (.int .u64 (x1 : Int)), (.int .u64 (y1 : Int))] rfl hent _ (plus_more _ _ _ _ (by assumption) (by omega) _ _ (by assumption) (by assumption) _) ?_
   rintro e wm2 ⟨p2, q2, rfl, hi2, hb2⟩
   refine ⟨_, rfl, ?_⟩
   simp only [Act.put, sA, sZ, sS]
   refine kp hK hkeep ?_
   clear hK K
   refine on1 15 fun K hK => ?_
   refine step_callF (by rfl) (some 86) rfl 83 _ _ rfl [.agg #[.int .u64 (p2 : Int), .int .u64 (q2 : Int)], (.int .u64 (x2 : Int)), (.int .u64 (y0 : Int))] rfl hent _ (plus_more _ _ _ _ (by assumption) (by omega) _ _ (by assumption) (by assumption) _) ?_
   rintro e wm3 ⟨p3, q3, rfl, hi3, hb3⟩
   refine ⟨_, rfl, ?_⟩
   simp only [Act.put, sA, sZ, sS]
   refine kp hK hkeep ?_
   clear hK K
   refine on1 19 fun K hK => ?_
   refine step_callF (by rfl) (some 90) rfl 83 _ _ rfl [.agg #[.int .u64 (p3 : Int), .int .u64 (q3 : Int)], (.int .u64 (x3 : Int)), (.int .u64 (z4 : Int))] rfl hent _ (plus_more _ _ _ _ (by assumption) (by omega) _ _ (by assumption) (by assumption) _) ?_
   rintro e wm4 ⟨p4, q4, rfl, hi4, hb4⟩
   refine ⟨_, rfl, ?_⟩
   simp only [Act.put, sA, sZ, sS]
   refine kp hK hkeep ?_
   clear hK K
   refine on1 23 fun K hK => ?_
   refine step_callF (by rfl) (some 94) rfl 83 _ _ rfl [.agg #[.int .u64 (p4 : Int), .int .u64 (q4 : Int)], (.int .u64 (x4 : Int)), (.int .u64 (z3 : Int))] rfl hent _ (plus_more _ _ _ _ (by assumption) (by omega) _ _ (by assumption) (by assumption) _) ?_
   rintro e wm5 ⟨p5, q5, rfl, hi5, hb5⟩
   refine ⟨_, rfl, ?_⟩
   simp only [Act.put, sA, sZ, sS]
   refine kp hK hkeep ?_
   clear hK K
   refine on1 25 fun K hK => ?_
   refine step_store_row rfl 124 (.tmp 11) (.tmp 94) rfl _ (wideC p5 q5) rfl rfl 124 #[.int .u64 0, .int .u64 0] (by (repeat (first | exact RowC.new _ _ _ | refine RowC.call ?_ (by assumption))); first | done | fail "row") info_wide rfl (one_wide p5 q5) ?_
   refine hK.out _ _ (fun h => absurd rfl h) ?_
   clear hK K
   refine doneT (by kernel_rfl) ?_ _
   exact h _ p5 q5 _ _ _ _ _ _ _ _ _ _ _ _ _ _ _ _ _ _ _ _ _ _ _ _ _ hi5 (fun L hL => Ms.finRow hL bl ((show Below v1.heap.size v1 wm1 from bl).size) (by (repeat (first | exact RowC.new _ _ _ | refine RowC.call ?_ (by assumption))); first | done | fail "row") _)
 ·
  refine step_val (by rfl) (some 11) rfl _ (alloc_wide _ _ rfl _) ?_
  simp only [Act.put, sA, sZ, sS]
  refine kp hK hkeep ?_
  clear hK K
  refine on1 5 fun K hK => ?_
  refine step_callF (by rfl) (some 76) rfl 83 _ _ rfl [.agg #[.int .u64 0, .int .u64 0], (.int .u64 (x0 : Int)), (.int .u64 (y2 : Int))] rfl hent _ (plus_zero _ _ (by assumption) (by assumption) _) ?_
  rintro e wm1 ⟨p1, q1, rfl, hi1, hb1⟩
  refine ⟨_, rfl, ?_⟩
  simp only [Act.put, sA, sZ, sS]
  refine kp hK hkeep ?_
  clear hK K
  refine on1 10 fun K hK => ?_
  refine step_callF (by rfl) (some 81) rfl 83 _ _ rfl [.agg #[.int .u64 (p1 : Int), .int .u64 (q1 : Int)], (.int .u64 (x1 : Int)), (.int .u64 (y1 : Int))] rfl hent _ (plus_more _ _ _ _ (by assumption) (by omega) _ _ (by assumption) (by assumption) _) ?_
  rintro e wm2 ⟨p2, q2, rfl, hi2, hb2⟩
  refine ⟨_, rfl, ?_⟩
  simp only [Act.put, sA, sZ, sS]
  refine kp hK hkeep ?_
  clear hK K
  refine on1 15 fun K hK => ?_
  refine step_callF (by rfl) (some 86) rfl 83 _ _ rfl [.agg #[.int .u64 (p2 : Int), .int .u64 (q2 : Int)], (.int .u64 (x2 : Int)), (.int .u64 (y0 : Int))] rfl hent _ (plus_more _ _ _ _ (by assumption) (by omega) _ _ (by assumption) (by assumption) _) ?_
  rintro e wm3 ⟨p3, q3, rfl, hi3, hb3⟩
  refine ⟨_, rfl, ?_⟩
  simp only [Act.put, sA, sZ, sS]
  refine kp hK hkeep ?_
  clear hK K
  refine on1 19 fun K hK => ?_
  refine step_callF (by rfl) (some 90) rfl 83 _ _ rfl [.agg #[.int .u64 (p3 : Int), .int .u64 (q3 : Int)], (.int .u64 (x3 : Int)), (.int .u64 (z4 : Int))] rfl hent _ (plus_more _ _ _ _ (by assumption) (by omega) _ _ (by assumption) (by assumption) _) ?_
  rintro e wm4 ⟨p4, q4, rfl, hi4, hb4⟩
  refine ⟨_, rfl, ?_⟩
  simp only [Act.put, sA, sZ, sS]
  refine kp hK hkeep ?_
  clear hK K
  refine on1 23 fun K hK => ?_
  refine step_callF (by rfl) (some 94) rfl 83 _ _ rfl [.agg #[.int .u64 (p4 : Int), .int .u64 (q4 : Int)], (.int .u64 (x4 : Int)), (.int .u64 (z3 : Int))] rfl hent _ (plus_more _ _ _ _ (by assumption) (by omega) _ _ (by assumption) (by assumption) _) ?_
  rintro e wm5 ⟨p5, q5, rfl, hi5, hb5⟩
  refine ⟨_, rfl, ?_⟩
  simp only [Act.put, sA, sZ, sS]
  refine kp hK hkeep ?_
  clear hK K
  refine on1 25 fun K hK => ?_
  refine step_store_row rfl 124 (.tmp 11) (.tmp 94) rfl _ (wideC p5 q5) rfl rfl 124 #[.int .u64 0, .int .u64 0] (by (repeat (first | exact RowC.new _ _ _ | refine RowC.call ?_ (by assumption))); first | done | fail "row") info_wide rfl (one_wide p5 q5) ?_
  refine hK.out _ _ (fun h => absurd rfl h) ?_
  clear hK K
  refine doneT (by kernel_rfl) ?_ _
  exact h _ p5 q5 _ _ _ _ _ _ _ _ _ _ _ _ _ _ _ _ _ _ _ _ _ _ _ _ _ hi5 (fun L hL => Ms.finRow hL bl ((show Below v1.heap.size v1 v1.drew from bl).size) (by (repeat (first | exact RowC.new _ _ _ | refine RowC.call ?_ (by assumption))); first | done | fail "row") _)
set_option maxRecDepth 100000 in
set_option maxHeartbeats 40000000 in
theorem prod_reg5 (w v1 : World) (x0 x1 x2 x3 x4 y0 y1 y2 y3 y4 z1 z2 z3 z4 : Nat) (px0 : Part x0) (px1 : Part x1) (px2 : Part x2) (px3 : Part x3) (px4 : Part x4) (py0 : Part19 y0) (py1 : Part19 y1) (py2 : Part19 y2) (py3 : Part19 y3) (py4 : Part19 y4) (pz1 : Part19 z1) (pz2 : Part19 z2) (pz3 : Part19 z3) (pz4 : Part19 z4)
  (hkeep : ∀ wx : World, Below v1.heap.size v1 wx → PartsAt w.heap.size (w.heap.size + 1) x0 x1 x2 x3 x4 y0 y1 y2 y3 y4 wx)
  (u0 u1 u4 u9 u10 u11 u12 u13 u14 u15 u16 u17 u18 u19 u20 u21 u22 u23 u24 u25 u26 u27 u28 u29 u30 u31 u32 u33 u34 u35 u36 u37 u38 u39 u40 u41 u42 u43 u44 u45 u46 u47 u48 u49 u50 u51 u52 u53 u54 u55 u56 u57 u58 u59 u60 u61 u62 u63 u64 u65 u66 u67 u68 u69 u70 u71 u72 u73 u74 u75 u76 u77 u78 u79 u80 u81 u82 u83 u84 u85 u86 u87 u88 u89 u90 u91 u92 u93 u94 u95 u96 u97 u98 u99 u100 u101 u102 u103 u104 u105 u106 u107 u108 u109 u110 u111 u112 u113 u114 u115 u116 u117 u118 u119 u120 u121 u122 u123 u124 u125 u126 u127 u128 u129 u130 u131 u132 u133 u134 u135 u136 u137 u138 u139 u140 u141 u142 u143 u144 u145 u146 u147 u148 u149 u150 u151 u152 u153 u154 u155 u156 u157 u158 u159 u160 u161 u162 u163 u164 u165 u166 u167 u168 u169 u170 u171 u172 u173 : Value) (Q : Exit → Act → World → Prop) (hp : ∀ (t : Tmp) c a v wx, Q (.panic c) (a.put (some t) v) wx → Q (.panic c) a wx)
  (h : ∀ (g p q : Nat) (wx : World) (s95 s96 s97 s98 s99 s100 s101 s102 s103 s104 s105 s106 s107 s108 s109 s110 s111 s112 s113 s114 s115 s116 s117 s118 s119 : Value), IsW p q (x0 * y3 + x1 * y2 + x2 * y1 + x3 * y0 + x4 * z4) 5 → (∀ L, Ms w v1 L → Ms w wx ((g, 124, wideC p q) :: L)) → Q .normal { tmps := #[u0, u1, .pointer (some ⟨w.heap.size, 0, none⟩), .pointer (some ⟨w.heap.size + 1, 0, none⟩), u4, .int .u64 (z1 : Int), .int .u64 (z2 : Int), .int .u64 (z3 : Int), .int .u64 (z4 : Int), u9, u10, u11, .pointer (some ⟨g, 0, none⟩), u13, u14, u15, u16, u17, u18, u19, u20, u21, u22, u23, u24, u25, u26, u27, u28, u29, u30, u31, u32, u33, u34, u35, u36, u37, u38, u39, u40, u41, u42, u43, u44, u45, u46, u47, u48, u49, u50, u51, u52, u53, u54, u55, u56, u57, u58, u59, u60, u61, u62, u63, u64, u65, u66, u67, u68, u69, u70, u71, u72, u73, u74, u75, u76, u77, u78, u79, u80, u81, u82, u83, u84, u85, u86, u87, u88, u89, u90, u91, u92, u93, u94, s95, s96, s97, s98, s99, s100, s101, s102, s103, s104, s105, s106, s107, s108, s109, s110, s111, s112, s113, s114, s115, s116, s117, s118, s119, u120, u121, u122, u123, u124, u125, u126, u127, u128, u129, u130, u131, u132, u133, u134, u135, u136, u137, u138, u139, u140, u141, u142, u143, u144, u145, u146, u147, u148, u149, u150, u151, u152, u153, u154, u155, u156, u157, u158, u159, u160, u161, u162, u163, u164, u165, u166, u167, u168, u169, u170, u171, u172, u173], defers := [] } wx) :
  Code.wp Tryd.prog (match Tryd.f65.body with | some c => findR 5 c | none => .skip) Q { tmps := #[u0, u1, .pointer (some ⟨w.heap.size, 0, none⟩), .pointer (some ⟨w.heap.size + 1, 0, none⟩), u4, .int .u64 (z1 : Int), .int .u64 (z2 : Int), .int .u64 (z3 : Int), .int .u64 (z4 : Int), u9, u10, u11, u12, u13, u14, u15, u16, u17, u18, u19, u20, u21, u22, u23, u24, u25, u26, u27, u28, u29, u30, u31, u32, u33, u34, u35, u36, u37, u38, u39, u40, u41, u42, u43, u44, u45, u46, u47, u48, u49, u50, u51, u52, u53, u54, u55, u56, u57, u58, u59, u60, u61, u62, u63, u64, u65, u66, u67, u68, u69, u70, u71, u72, u73, u74, u75, u76, u77, u78, u79, u80, u81, u82, u83, u84, u85, u86, u87, u88, u89, u90, u91, u92, u93, u94, u95, u96, u97, u98, u99, u100, u101, u102, u103, u104, u105, u106, u107, u108, u109, u110, u111, u112, u113, u114, u115, u116, u117, u118, u119, u120, u121, u122, u123, u124, u125, u126, u127, u128, u129, u130, u131, u132, u133, u134, u135, u136, u137, u138, u139, u140, u141, u142, u143, u144, u145, u146, u147, u148, u149, u150, u151, u152, u153, u154, u155, u156, u157, u158, u159, u160, u161, u162, u163, u164, u165, u166, u167, u168, u169, u170, u171, u172, u173], defers := [] } v1 := by
 have hent : ∀ args w, (callFunc 83 args).run Tryd.prog w = .ok (.enter 83 args) w := enters_of Tryd.func83 (by kernel_rfl) rfl
 show Code.wp Tryd.prog (Code.region 5 _ true) Q _ v1
 refine beginT (PartsAt w.heap.size (w.heap.size + 1) x0 x1 x2 x3 x4 y0 y1 y2 y3 y4) 26 (by kernel_rfl) ?_
 have hS := hkeep _ (c_drew (c_refl _))
 refine tk 0 (some 95) (.agg #[.int .u64 0, .int .u64 0]) (fun _ _ _ hq => hp _ _ _ _ _ hq) hS ?_
 simp only [Act.put, sA, sZ, sS]
 refine tk 1 (some 96) (.pointer (some ⟨w.heap.size, 0, none⟩)) (fun _ _ _ hq => hp _ _ _ _ _ hq) hS ?_
 simp only [Act.put, sA, sZ, sS]
 refine takeD 2 (some 97) (.int .u64 (x0 : Int)) rfl rfl (by kernel_rfl) (by kernel_rfl) (by kernel_rfl) (by kernel_rfl) (fun _ _ _ hq => hp _ _ _ _ _ hq) (Or.inl ⟨by kernel_rfl, fun wx hSw => by have h := hSw.1; go_simp⟩) hS ?_
 simp only [Act.put, sA, sZ, sS]
 refine tk 3 (some 98) (.pointer (some ⟨w.heap.size + 1, 3, none⟩)) (fun _ _ _ hq => hp _ _ _ _ _ hq) hS ?_
 simp only [Act.put, sA, sZ, sS]
 refine takeD 4 (some 99) (.int .u64 (y3 : Int)) rfl rfl (by kernel_rfl) (by kernel_rfl) (by kernel_rfl) (by kernel_rfl) (fun _ _ _ hq => hp _ _ _ _ _ hq) (Or.inl ⟨by kernel_rfl, fun wx hSw => by have h := hSw.2.2.2.2.2.2.2.2.1; go_simp⟩) hS ?_
 simp only [Act.put, sA, sZ, sS]
 refine tk 6 (some 101) (.pointer (some ⟨w.heap.size, 1, none⟩)) (fun _ _ _ hq => hp _ _ _ _ _ hq) hS ?_
 simp only [Act.put, sA, sZ, sS]
 refine takeD 7 (some 102) (.int .u64 (x1 : Int)) rfl rfl (by kernel_rfl) (by kernel_rfl) (by kernel_rfl) (by kernel_rfl) (fun _ _ _ hq => hp _ _ _ _ _ hq) (Or.inl ⟨by kernel_rfl, fun wx hSw => by have h := hSw.2.1; go_simp⟩) hS ?_
 simp only [Act.put, sA, sZ, sS]
 refine tk 8 (some 103) (.pointer (some ⟨w.heap.size + 1, 2, none⟩)) (fun _ _ _ hq => hp _ _ _ _ _ hq) hS ?_
 simp only [Act.put, sA, sZ, sS]
 refine takeD 9 (some 104) (.int .u64 (y2 : Int)) rfl rfl (by kernel_rfl) (by kernel_rfl) (by kernel_rfl) (by kernel_rfl) (fun _ _ _ hq => hp _ _ _ _ _ hq) (Or.inl ⟨by kernel_rfl, fun wx hSw => by have h := hSw.2.2.2.2.2.2.2.1; go_simp⟩) hS ?_
 simp only [Act.put, sA, sZ, sS]
 refine tk 11 (some 106) (.pointer (some ⟨w.heap.size, 2, none⟩)) (fun _ _ _ hq => hp _ _ _ _ _ hq) hS ?_
 simp only [Act.put, sA, sZ, sS]
 refine takeD 12 (some 107) (.int .u64 (x2 : Int)) rfl rfl (by kernel_rfl) (by kernel_rfl) (by kernel_rfl) (by kernel_rfl) (fun _ _ _ hq => hp _ _ _ _ _ hq) (Or.inl ⟨by kernel_rfl, fun wx hSw => by have h := hSw.2.2.1; go_simp⟩) hS ?_
 simp only [Act.put, sA, sZ, sS]
 refine tk 13 (some 108) (.pointer (some ⟨w.heap.size + 1, 1, none⟩)) (fun _ _ _ hq => hp _ _ _ _ _ hq) hS ?_
 simp only [Act.put, sA, sZ, sS]
 refine takeD 14 (some 109) (.int .u64 (y1 : Int)) rfl rfl (by kernel_rfl) (by kernel_rfl) (by kernel_rfl) (by kernel_rfl) (fun _ _ _ hq => hp _ _ _ _ _ hq) (Or.inl ⟨by kernel_rfl, fun wx hSw => by have h := hSw.2.2.2.2.2.2.1; go_simp⟩) hS ?_
 simp only [Act.put, sA, sZ, sS]
 refine tk 16 (some 111) (.pointer (some ⟨w.heap.size, 3, none⟩)) (fun _ _ _ hq => hp _ _ _ _ _ hq) hS ?_
 simp only [Act.put, sA, sZ, sS]
 refine takeD 17 (some 112) (.int .u64 (x3 : Int)) rfl rfl (by kernel_rfl) (by kernel_rfl) (by kernel_rfl) (by kernel_rfl) (fun _ _ _ hq => hp _ _ _ _ _ hq) (Or.inl ⟨by kernel_rfl, fun wx hSw => by have h := hSw.2.2.2.1; go_simp⟩) hS ?_
 simp only [Act.put, sA, sZ, sS]
 refine tk 18 (some 113) (.pointer (some ⟨w.heap.size + 1, 0, none⟩)) (fun _ _ _ hq => hp _ _ _ _ _ hq) hS ?_
 simp only [Act.put, sA, sZ, sS]
 refine takeD 19 (some 114) (.int .u64 (y0 : Int)) rfl rfl (by kernel_rfl) (by kernel_rfl) (by kernel_rfl) (by kernel_rfl) (fun _ _ _ hq => hp _ _ _ _ _ hq) (Or.inl ⟨by kernel_rfl, fun wx hSw => by have h := hSw.2.2.2.2.2.1; go_simp⟩) hS ?_
 simp only [Act.put, sA, sZ, sS]
 refine tk 21 (some 116) (.pointer (some ⟨w.heap.size, 4, none⟩)) (fun _ _ _ hq => hp _ _ _ _ _ hq) hS ?_
 simp only [Act.put, sA, sZ, sS]
 refine takeD 22 (some 117) (.int .u64 (x4 : Int)) rfl rfl (by kernel_rfl) (by kernel_rfl) (by kernel_rfl) (by kernel_rfl) (fun _ _ _ hq => hp _ _ _ _ _ hq) (Or.inl ⟨by kernel_rfl, fun wx hSw => by have h := hSw.2.2.2.2.1; go_simp⟩) hS ?_
 simp only [Act.put, sA, sZ, sS]
 refine tk 23 (some 118) (.int .u64 (z4 : Int)) (fun _ _ _ hq => hp _ _ _ _ _ hq) hS ?_
 simp only [Act.put, sA, sZ, sS]
 refine rd2 5 25 (fun K hK => ?_) fun K hK => ?_
 ·
  refine step_callF (by rfl) (some 100) rfl 83 _ _ rfl [.agg #[.int .u64 0, .int .u64 0], (.int .u64 (x0 : Int)), (.int .u64 (y3 : Int))] rfl hent _ (plus_zero _ _ (by assumption) (by assumption) _) ?_
  rintro e wm1 ⟨p1, q1, rfl, hi1, hb1⟩
  refine ⟨_, rfl, ?_⟩
  simp only [Act.put, sA, sZ, sS]
  refine kp hK hkeep ?_
  clear hK K
  refine rd2 10 25 (fun K hK => ?_) fun K hK => ?_
  ·
   refine step_callF (by rfl) (some 105) rfl 83 _ _ rfl [.agg #[.int .u64 (p1 : Int), .int .u64 (q1 : Int)], (.int .u64 (x1 : Int)), (.int .u64 (y2 : Int))] rfl hent _ (plus_more _ _ _ _ (by assumption) (by omega) _ _ (by assumption) (by assumption) _) ?_
   rintro e wm2 ⟨p2, q2, rfl, hi2, hb2⟩
   refine ⟨_, rfl, ?_⟩
   simp only [Act.put, sA, sZ, sS]
   refine kp hK hkeep ?_
   clear hK K
   refine rd2 15 25 (fun K hK => ?_) fun K hK => ?_
   ·
    refine step_callF (by rfl) (some 110) rfl 83 _ _ rfl [.agg #[.int .u64 (p2 : Int), .int .u64 (q2 : Int)], (.int .u64 (x2 : Int)), (.int .u64 (y1 : Int))] rfl hent _ (plus_more _ _ _ _ (by assumption) (by omega) _ _ (by assumption) (by assumption) _) ?_
    rintro e wm3 ⟨p3, q3, rfl, hi3, hb3⟩
    refine ⟨_, rfl, ?_⟩
    simp only [Act.put, sA, sZ, sS]
    refine kp hK hkeep ?_
    clear hK K
    refine rd2 20 25 (fun K hK => ?_) fun K hK => ?_
    ·
     refine step_callF (by rfl) (some 115) rfl 83 _ _ rfl [.agg #[.int .u64 (p3 : Int), .int .u64 (q3 : Int)], (.int .u64 (x3 : Int)), (.int .u64 (y0 : Int))] rfl hent _ (plus_more _ _ _ _ (by assumption) (by omega) _ _ (by assumption) (by assumption) _) ?_
     rintro e wm4 ⟨p4, q4, rfl, hi4, hb4⟩
     refine ⟨_, rfl, ?_⟩
     simp only [Act.put, sA, sZ, sS]
     refine kp hK hkeep ?_
     clear hK K
     refine rd2 24 25 (fun K hK => ?_) fun K hK => ?_
     ·
      refine step_callF (by rfl) (some 119) rfl 83 _ _ rfl [.agg #[.int .u64 (p4 : Int), .int .u64 (q4 : Int)], (.int .u64 (x4 : Int)), (.int .u64 (z4 : Int))] rfl hent _ (plus_more _ _ _ _ (by assumption) (by omega) _ _ (by assumption) (by assumption) _) ?_
      rintro e wm5 ⟨p5, q5, rfl, hi5, hb5⟩
      refine ⟨_, rfl, ?_⟩
      simp only [Act.put, sA, sZ, sS]
      refine kp hK hkeep ?_
      clear hK K
      refine on1 25 fun K hK => ?_
      refine step_val (by rfl) (some 12) rfl _ (alloc_wide _ _ rfl _) ?_
      simp only [Act.put, sA, sZ, sS]
      refine kp hK hkeep ?_
      clear hK K
      refine on1 26 fun K hK => ?_
      refine step_store_row rfl 124 (.tmp 12) (.tmp 119) rfl _ (wideC p5 q5) rfl rfl 124 #[.int .u64 0, .int .u64 0] (by (repeat (first | exact RowC.new _ _ _ | refine RowC.call ?_ (by assumption))); first | done | fail "row") info_wide rfl (one_wide p5 q5) ?_
      refine hK.out _ _ (fun h => absurd rfl h) ?_
      clear hK K
      refine doneT (by kernel_rfl) ?_ _
      exact h _ p5 q5 _ _ _ _ _ _ _ _ _ _ _ _ _ _ _ _ _ _ _ _ _ _ _ _ _ _ hi5 (fun L hL => Ms.finRow hL bl ((show Below v1.heap.size v1 wm5 from bl).size) (by (repeat (first | exact RowC.new _ _ _ | refine RowC.call ?_ (by assumption))); first | done | fail "row") _)
     ·
      refine step_val (by rfl) (some 12) rfl _ (alloc_wide _ _ rfl _) ?_
      simp only [Act.put, sA, sZ, sS]
      refine kp hK hkeep ?_
      clear hK K
      refine on1 24 fun K hK => ?_
      refine step_callF (by rfl) (some 119) rfl 83 _ _ rfl [.agg #[.int .u64 (p4 : Int), .int .u64 (q4 : Int)], (.int .u64 (x4 : Int)), (.int .u64 (z4 : Int))] rfl hent _ (plus_more _ _ _ _ (by assumption) (by omega) _ _ (by assumption) (by assumption) _) ?_
      rintro e wm5 ⟨p5, q5, rfl, hi5, hb5⟩
      refine ⟨_, rfl, ?_⟩
      simp only [Act.put, sA, sZ, sS]
      refine kp hK hkeep ?_
      clear hK K
      refine on1 26 fun K hK => ?_
      refine step_store_row rfl 124 (.tmp 12) (.tmp 119) rfl _ (wideC p5 q5) rfl rfl 124 #[.int .u64 0, .int .u64 0] (by (repeat (first | exact RowC.new _ _ _ | refine RowC.call ?_ (by assumption))); first | done | fail "row") info_wide rfl (one_wide p5 q5) ?_
      refine hK.out _ _ (fun h => absurd rfl h) ?_
      clear hK K
      refine doneT (by kernel_rfl) ?_ _
      exact h _ p5 q5 _ _ _ _ _ _ _ _ _ _ _ _ _ _ _ _ _ _ _ _ _ _ _ _ _ _ hi5 (fun L hL => Ms.finRow hL bl ((show Below v1.heap.size v1 wm4 from bl).size) (by (repeat (first | exact RowC.new _ _ _ | refine RowC.call ?_ (by assumption))); first | done | fail "row") _)
    ·
     refine step_val (by rfl) (some 12) rfl _ (alloc_wide _ _ rfl _) ?_
     simp only [Act.put, sA, sZ, sS]
     refine kp hK hkeep ?_
     clear hK K
     refine on1 20 fun K hK => ?_
     refine step_callF (by rfl) (some 115) rfl 83 _ _ rfl [.agg #[.int .u64 (p3 : Int), .int .u64 (q3 : Int)], (.int .u64 (x3 : Int)), (.int .u64 (y0 : Int))] rfl hent _ (plus_more _ _ _ _ (by assumption) (by omega) _ _ (by assumption) (by assumption) _) ?_
     rintro e wm4 ⟨p4, q4, rfl, hi4, hb4⟩
     refine ⟨_, rfl, ?_⟩
     simp only [Act.put, sA, sZ, sS]
     refine kp hK hkeep ?_
     clear hK K
     refine on1 24 fun K hK => ?_
     refine step_callF (by rfl) (some 119) rfl 83 _ _ rfl [.agg #[.int .u64 (p4 : Int), .int .u64 (q4 : Int)], (.int .u64 (x4 : Int)), (.int .u64 (z4 : Int))] rfl hent _ (plus_more _ _ _ _ (by assumption) (by omega) _ _ (by assumption) (by assumption) _) ?_
     rintro e wm5 ⟨p5, q5, rfl, hi5, hb5⟩
     refine ⟨_, rfl, ?_⟩
     simp only [Act.put, sA, sZ, sS]
     refine kp hK hkeep ?_
     clear hK K
     refine on1 26 fun K hK => ?_
     refine step_store_row rfl 124 (.tmp 12) (.tmp 119) rfl _ (wideC p5 q5) rfl rfl 124 #[.int .u64 0, .int .u64 0] (by (repeat (first | exact RowC.new _ _ _ | refine RowC.call ?_ (by assumption))); first | done | fail "row") info_wide rfl (one_wide p5 q5) ?_
     refine hK.out _ _ (fun h => absurd rfl h) ?_
     clear hK K
     refine doneT (by kernel_rfl) ?_ _
     exact h _ p5 q5 _ _ _ _ _ _ _ _ _ _ _ _ _ _ _ _ _ _ _ _ _ _ _ _ _ _ hi5 (fun L hL => Ms.finRow hL bl ((show Below v1.heap.size v1 wm3 from bl).size) (by (repeat (first | exact RowC.new _ _ _ | refine RowC.call ?_ (by assumption))); first | done | fail "row") _)
   ·
    refine step_val (by rfl) (some 12) rfl _ (alloc_wide _ _ rfl _) ?_
    simp only [Act.put, sA, sZ, sS]
    refine kp hK hkeep ?_
    clear hK K
    refine on1 15 fun K hK => ?_
    refine step_callF (by rfl) (some 110) rfl 83 _ _ rfl [.agg #[.int .u64 (p2 : Int), .int .u64 (q2 : Int)], (.int .u64 (x2 : Int)), (.int .u64 (y1 : Int))] rfl hent _ (plus_more _ _ _ _ (by assumption) (by omega) _ _ (by assumption) (by assumption) _) ?_
    rintro e wm3 ⟨p3, q3, rfl, hi3, hb3⟩
    refine ⟨_, rfl, ?_⟩
    simp only [Act.put, sA, sZ, sS]
    refine kp hK hkeep ?_
    clear hK K
    refine on1 20 fun K hK => ?_
    refine step_callF (by rfl) (some 115) rfl 83 _ _ rfl [.agg #[.int .u64 (p3 : Int), .int .u64 (q3 : Int)], (.int .u64 (x3 : Int)), (.int .u64 (y0 : Int))] rfl hent _ (plus_more _ _ _ _ (by assumption) (by omega) _ _ (by assumption) (by assumption) _) ?_
    rintro e wm4 ⟨p4, q4, rfl, hi4, hb4⟩
    refine ⟨_, rfl, ?_⟩
    simp only [Act.put, sA, sZ, sS]
    refine kp hK hkeep ?_
    clear hK K
    refine on1 24 fun K hK => ?_
    refine step_callF (by rfl) (some 119) rfl 83 _ _ rfl [.agg #[.int .u64 (p4 : Int), .int .u64 (q4 : Int)], (.int .u64 (x4 : Int)), (.int .u64 (z4 : Int))] rfl hent _ (plus_more _ _ _ _ (by assumption) (by omega) _ _ (by assumption) (by assumption) _) ?_
    rintro e wm5 ⟨p5, q5, rfl, hi5, hb5⟩
    refine ⟨_, rfl, ?_⟩
    simp only [Act.put, sA, sZ, sS]
    refine kp hK hkeep ?_
    clear hK K
    refine on1 26 fun K hK => ?_
    refine step_store_row rfl 124 (.tmp 12) (.tmp 119) rfl _ (wideC p5 q5) rfl rfl 124 #[.int .u64 0, .int .u64 0] (by (repeat (first | exact RowC.new _ _ _ | refine RowC.call ?_ (by assumption))); first | done | fail "row") info_wide rfl (one_wide p5 q5) ?_
    refine hK.out _ _ (fun h => absurd rfl h) ?_
    clear hK K
    refine doneT (by kernel_rfl) ?_ _
    exact h _ p5 q5 _ _ _ _ _ _ _ _ _ _ _ _ _ _ _ _ _ _ _ _ _ _ _ _ _ _ hi5 (fun L hL => Ms.finRow hL bl ((show Below v1.heap.size v1 wm2 from bl).size) (by (repeat (first | exact RowC.new _ _ _ | refine RowC.call ?_ (by assumption))); first | done | fail "row") _)
  ·
   refine step_val (by rfl) (some 12) rfl _ (alloc_wide _ _ rfl _) ?_
   simp only [Act.put, sA, sZ, sS]
   refine kp hK hkeep ?_
   clear hK K
   refine on1 10 fun K hK => ?_
   refine step_callF (by rfl) (some 105) rfl 83 _ _ rfl [.agg #[.int .u64 (p1 : Int), .int .u64 (q1 : Int)], (.int .u64 (x1 : Int)), (.int .u64 (y2 : Int))] rfl hent _ (plus_more _ _ _ _ (by assumption) (by omega) _ _ (by assumption) (by assumption) _) ?_
   rintro e wm2 ⟨p2, q2, rfl, hi2, hb2⟩
   refine ⟨_, rfl, ?_⟩
   simp only [Act.put, sA, sZ, sS]
   refine kp hK hkeep ?_
   clear hK K
   refine on1 15 fun K hK => ?_
   refine step_callF (by rfl) (some 110) rfl 83 _ _ rfl [.agg #[.int .u64 (p2 : Int), .int .u64 (q2 : Int)], (.int .u64 (x2 : Int)), (.int .u64 (y1 : Int))] rfl hent _ (plus_more _ _ _ _ (by assumption) (by omega) _ _ (by assumption) (by assumption) _) ?_
   rintro e wm3 ⟨p3, q3, rfl, hi3, hb3⟩
   refine ⟨_, rfl, ?_⟩
   simp only [Act.put, sA, sZ, sS]
   refine kp hK hkeep ?_
   clear hK K
   refine on1 20 fun K hK => ?_
   refine step_callF (by rfl) (some 115) rfl 83 _ _ rfl [.agg #[.int .u64 (p3 : Int), .int .u64 (q3 : Int)], (.int .u64 (x3 : Int)), (.int .u64 (y0 : Int))] rfl hent _ (plus_more _ _ _ _ (by assumption) (by omega) _ _ (by assumption) (by assumption) _) ?_
   rintro e wm4 ⟨p4, q4, rfl, hi4, hb4⟩
   refine ⟨_, rfl, ?_⟩
   simp only [Act.put, sA, sZ, sS]
   refine kp hK hkeep ?_
   clear hK K
   refine on1 24 fun K hK => ?_
   refine step_callF (by rfl) (some 119) rfl 83 _ _ rfl [.agg #[.int .u64 (p4 : Int), .int .u64 (q4 : Int)], (.int .u64 (x4 : Int)), (.int .u64 (z4 : Int))] rfl hent _ (plus_more _ _ _ _ (by assumption) (by omega) _ _ (by assumption) (by assumption) _) ?_
   rintro e wm5 ⟨p5, q5, rfl, hi5, hb5⟩
   refine ⟨_, rfl, ?_⟩
   simp only [Act.put, sA, sZ, sS]
   refine kp hK hkeep ?_
   clear hK K
   refine on1 26 fun K hK => ?_
   refine step_store_row rfl 124 (.tmp 12) (.tmp 119) rfl _ (wideC p5 q5) rfl rfl 124 #[.int .u64 0, .int .u64 0] (by (repeat (first | exact RowC.new _ _ _ | refine RowC.call ?_ (by assumption))); first | done | fail "row") info_wide rfl (one_wide p5 q5) ?_
   refine hK.out _ _ (fun h => absurd rfl h) ?_
   clear hK K
   refine doneT (by kernel_rfl) ?_ _
   exact h _ p5 q5 _ _ _ _ _ _ _ _ _ _ _ _ _ _ _ _ _ _ _ _ _ _ _ _ _ _ hi5 (fun L hL => Ms.finRow hL bl ((show Below v1.heap.size v1 wm1 from bl).size) (by (repeat (first | exact RowC.new _ _ _ | refine RowC.call ?_ (by assumption))); first | done | fail "row") _)
 ·
  refine step_val (by rfl) (some 12) rfl _ (alloc_wide _ _ rfl _) ?_
  simp only [Act.put, sA, sZ, sS]
  refine kp hK hkeep ?_
  clear hK K
  refine on1 5 fun K hK => ?_
  refine step_callF (by rfl) (some 100) rfl 83 _ _ rfl [.agg #[.int .u64 0, .int .u64 0], (.int .u64 (x0 : Int)), (.int .u64 (y3 : Int))] rfl hent _ (plus_zero _ _ (by assumption) (by assumption) _) ?_
  rintro e wm1 ⟨p1, q1, rfl, hi1, hb1⟩
  refine ⟨_, rfl, ?_⟩
  simp only [Act.put, sA, sZ, sS]
  refine kp hK hkeep ?_
  clear hK K
  refine on1 10 fun K hK => ?_
  refine step_callF (by rfl) (some 105) rfl 83 _ _ rfl [.agg #[.int .u64 (p1 : Int), .int .u64 (q1 : Int)], (.int .u64 (x1 : Int)), (.int .u64 (y2 : Int))] rfl hent _ (plus_more _ _ _ _ (by assumption) (by omega) _ _ (by assumption) (by assumption) _) ?_
  rintro e wm2 ⟨p2, q2, rfl, hi2, hb2⟩
  refine ⟨_, rfl, ?_⟩
  simp only [Act.put, sA, sZ, sS]
  refine kp hK hkeep ?_
  clear hK K
  refine on1 15 fun K hK => ?_
  refine step_callF (by rfl) (some 110) rfl 83 _ _ rfl [.agg #[.int .u64 (p2 : Int), .int .u64 (q2 : Int)], (.int .u64 (x2 : Int)), (.int .u64 (y1 : Int))] rfl hent _ (plus_more _ _ _ _ (by assumption) (by omega) _ _ (by assumption) (by assumption) _) ?_
  rintro e wm3 ⟨p3, q3, rfl, hi3, hb3⟩
  refine ⟨_, rfl, ?_⟩
  simp only [Act.put, sA, sZ, sS]
  refine kp hK hkeep ?_
  clear hK K
  refine on1 20 fun K hK => ?_
  refine step_callF (by rfl) (some 115) rfl 83 _ _ rfl [.agg #[.int .u64 (p3 : Int), .int .u64 (q3 : Int)], (.int .u64 (x3 : Int)), (.int .u64 (y0 : Int))] rfl hent _ (plus_more _ _ _ _ (by assumption) (by omega) _ _ (by assumption) (by assumption) _) ?_
  rintro e wm4 ⟨p4, q4, rfl, hi4, hb4⟩
  refine ⟨_, rfl, ?_⟩
  simp only [Act.put, sA, sZ, sS]
  refine kp hK hkeep ?_
  clear hK K
  refine on1 24 fun K hK => ?_
  refine step_callF (by rfl) (some 119) rfl 83 _ _ rfl [.agg #[.int .u64 (p4 : Int), .int .u64 (q4 : Int)], (.int .u64 (x4 : Int)), (.int .u64 (z4 : Int))] rfl hent _ (plus_more _ _ _ _ (by assumption) (by omega) _ _ (by assumption) (by assumption) _) ?_
  rintro e wm5 ⟨p5, q5, rfl, hi5, hb5⟩
  refine ⟨_, rfl, ?_⟩
  simp only [Act.put, sA, sZ, sS]
  refine kp hK hkeep ?_
  clear hK K
  refine on1 26 fun K hK => ?_
  refine step_store_row rfl 124 (.tmp 12) (.tmp 119) rfl _ (wideC p5 q5) rfl rfl 124 #[.int .u64 0, .int .u64 0] (by (repeat (first | exact RowC.new _ _ _ | refine RowC.call ?_ (by assumption))); first | done | fail "row") info_wide rfl (one_wide p5 q5) ?_
  refine hK.out _ _ (fun h => absurd rfl h) ?_
  clear hK K
  refine doneT (by kernel_rfl) ?_ _
  exact h _ p5 q5 _ _ _ _ _ _ _ _ _ _ _ _ _ _ _ _ _ _ _ _ _ _ _ _ _ _ hi5 (fun L hL => Ms.finRow hL bl ((show Below v1.heap.size v1 v1.drew from bl).size) (by (repeat (first | exact RowC.new _ _ _ | refine RowC.call ?_ (by assumption))); first | done | fail "row") _)
end Go.Proofs.YtbiijdboolpaeaaDoor
