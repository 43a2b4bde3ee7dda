import Derived.Test.YtbiijdboolpaeaaDoorG15
import Derived.Test.YtbiijdboolpaeaaDoorG14
import Derived.Test.YtbiijdboolpaeaaDoorG04
import Derived.Deep.RegionHeld3
set_option linter.unusedVariables false
namespace Go.Proofs.YtbiijdboolpaeaaDoor
open Go.RowKit
set_option maxRecDepth 100000 in
set_option maxHeartbeats 40000000 in
theorem prod_reg6 (w v1 : World) (x0 x1 x2 x3 x4 y0 y1 y2 y3 y4 z1 z2 z3 z4 : Nat) (px0 : Part x0) (px1 : Part x1) (px2 : Part x2) (px3 : Part x3) (px4 : Part x4) (py0 : Part19 y0) (py1 : Part19 y1) (py2 : Part19 y2) (py3 : Part19 y3) (py4 : Part19 y4) (pz1 : Part19 z1) (pz2 : Part19 z2) (pz3 : Part19 z3) (pz4 : Part19 z4)
  (hkeep : ∀ wx : World, Below v1.heap.size v1 wx → PartsAt w.heap.size (w.heap.size + 1) x0 x1 x2 x3 x4 y0 y1 y2 y3 y4 wx)
  (u0 u1 u4 u9 u10 u11 u12 u13 u14 u15 u16 u17 u18 u19 u20 u21 u22 u23 u24 u25 u26 u27 u28 u29 u30 u31 u32 u33 u34 u35 u36 u37 u38 u39 u40 u41 u42 u43 u44 u45 u46 u47 u48 u49 u50 u51 u52 u53 u54 u55 u56 u57 u58 u59 u60 u61 u62 u63 u64 u65 u66 u67 u68 u69 u70 u71 u72 u73 u74 u75 u76 u77 u78 u79 u80 u81 u82 u83 u84 u85 u86 u87 u88 u89 u90 u91 u92 u93 u94 u95 u96 u97 u98 u99 u100 u101 u102 u103 u104 u105 u106 u107 u108 u109 u110 u111 u112 u113 u114 u115 u116 u117 u118 u119 u120 u121 u122 u123 u124 u125 u126 u127 u128 u129 u130 u131 u132 u133 u134 u135 u136 u137 u138 u139 u140 u141 u142 u143 u144 u145 u146 u147 u148 u149 u150 u151 u152 u153 u154 u155 u156 u157 u158 u159 u160 u161 u162 u163 u164 u165 u166 u167 u168 u169 u170 u171 u172 u173 : Value) (Q : Exit → Act → World → Prop) (hp : ∀ (t : Tmp) c a v wx, Q (.panic c) (a.put (some t) v) wx → Q (.panic c) a wx)
  (h : ∀ (g p q : Nat) (wx : World) (s120 s121 s122 s123 s124 s125 s126 s127 s128 s129 s130 s131 s132 s133 s134 s135 s136 s137 s138 s139 s140 s141 s142 s143 s144 s145 : Value), IsW p q (x0 * y4 + x1 * y3 + x2 * y2 + x3 * y1 + x4 * y0) 5 → (∀ L, Ms w v1 L → Ms w wx ((g, 124, wideC p q) :: L)) → Q .normal { tmps := #[u0, u1, .pointer (some ⟨w.heap.size, 0, none⟩), .pointer (some ⟨w.heap.size + 1, 0, none⟩), u4, .int .u64 (z1 : Int), .int .u64 (z2 : Int), .int .u64 (z3 : Int), .int .u64 (z4 : Int), u9, u10, u11, u12, .pointer (some ⟨g, 0, none⟩), u14, u15, u16, u17, u18, u19, u20, u21, u22, u23, u24, u25, u26, u27, u28, u29, u30, u31, u32, u33, u34, u35, u36, u37, u38, u39, u40, u41, u42, u43, u44, u45, u46, u47, u48, u49, u50, u51, u52, u53, u54, u55, u56, u57, u58, u59, u60, u61, u62, u63, u64, u65, u66, u67, u68, u69, u70, u71, u72, u73, u74, u75, u76, u77, u78, u79, u80, u81, u82, u83, u84, u85, u86, u87, u88, u89, u90, u91, u92, u93, u94, u95, u96, u97, u98, u99, u100, u101, u102, u103, u104, u105, u106, u107, u108, u109, u110, u111, u112, u113, u114, u115, u116, u117, u118, u119, s120, s121, s122, s123, s124, s125, s126, s127, s128, s129, s130, s131, s132, s133, s134, s135, s136, s137, s138, s139, s140, s141, s142, s143, s144, s145, u146, u147, u148, u149, u150, u151, u152, u153, u154, u155, u156, u157, u158, u159, u160, u161, u162, u163, u164, u165, u166, u167, u168, u169, u170, u171, u172, u173], defers := [] } wx) :
  Code.wp Tryd.prog (match Tryd.f65.body with | some c => findR 6 c | none => .skip) Q { tmps := #[u0, u1, .pointer (some ⟨w.heap.size, 0, none⟩), .pointer (some ⟨w.heap.size + 1, 0, none⟩), u4, .int .u64 (z1 : Int), .int .u64 (z2 : Int), .int .u64 (z3 : Int), .int .u64 (z4 : Int), u9, u10, u11, u12, u13, u14, u15, u16, u17, u18, u19, u20, u21, u22, u23, u24, u25, u26, u27, u28, u29, u30, u31, u32, u33, u34, u35, u36, u37, u38, u39, u40, u41, u42, u43, u44, u45, u46, u47, u48, u49, u50, u51, u52, u53, u54, u55, u56, u57, u58, u59, u60, u61, u62, u63, u64, u65, u66, u67, u68, u69, u70, u71, u72, u73, u74, u75, u76, u77, u78, u79, u80, u81, u82, u83, u84, u85, u86, u87, u88, u89, u90, u91, u92, u93, u94, u95, u96, u97, u98, u99, u100, u101, u102, u103, u104, u105, u106, u107, u108, u109, u110, u111, u112, u113, u114, u115, u116, u117, u118, u119, u120, u121, u122, u123, u124, u125, u126, u127, u128, u129, u130, u131, u132, u133, u134, u135, u136, u137, u138, u139, u140, u141, u142, u143, u144, u145, u146, u147, u148, u149, u150, u151, u152, u153, u154, u155, u156, u157, u158, u159, u160, u161, u162, u163, u164, u165, u166, u167, u168, u169, u170, u171, u172, u173], defers := [] } v1 := by
 have hent : ∀ args w, (callFunc 83 args).run Tryd.prog w = .ok (.enter 83 args) w := enters_of Tryd.func83 (by kernel_rfl) rfl
 show Code.wp Tryd.prog (Code.region 6 _ true) Q _ v1
 refine beginT (PartsAt w.heap.size (w.heap.size + 1) x0 x1 x2 x3 x4 y0 y1 y2 y3 y4) 27 (by kernel_rfl) ?_
 have hS := hkeep _ (c_drew (c_refl _))
 refine tk 0 (some 120) (.agg #[.int .u64 0, .int .u64 0]) (fun _ _ _ hq => hp _ _ _ _ _ hq) hS ?_
 simp only [Act.put, sA, sZ, sS]
 refine tk 1 (some 121) (.pointer (some ⟨w.heap.size, 0, none⟩)) (fun _ _ _ hq => hp _ _ _ _ _ hq) hS ?_
 simp only [Act.put, sA, sZ, sS]
 refine takeD 2 (some 122) (.int .u64 (x0 : Int)) rfl rfl (by kernel_rfl) (by kernel_rfl) (by kernel_rfl) (by kernel_rfl) (fun _ _ _ hq => hp _ _ _ _ _ hq) (Or.inl ⟨by kernel_rfl, fun wx hSw => by have h := hSw.1; go_simp⟩) hS ?_
 simp only [Act.put, sA, sZ, sS]
 refine tk 3 (some 123) (.pointer (some ⟨w.heap.size + 1, 4, none⟩)) (fun _ _ _ hq => hp _ _ _ _ _ hq) hS ?_
 simp only [Act.put, sA, sZ, sS]
 refine takeD 4 (some 124) (.int .u64 (y4 : Int)) rfl rfl (by kernel_rfl) (by kernel_rfl) (by kernel_rfl) (by kernel_rfl) (fun _ _ _ hq => hp _ _ _ _ _ hq) (Or.inl ⟨by kernel_rfl, fun wx hSw => by have h := hSw.2.2.2.2.2.2.2.2.2; go_simp⟩) hS ?_
 simp only [Act.put, sA, sZ, sS]
 refine tk 6 (some 126) (.pointer (some ⟨w.heap.size, 1, none⟩)) (fun _ _ _ hq => hp _ _ _ _ _ hq) hS ?_
 simp only [Act.put, sA, sZ, sS]
 refine takeD 7 (some 127) (.int .u64 (x1 : Int)) rfl rfl (by kernel_rfl) (by kernel_rfl) (by kernel_rfl) (by kernel_rfl) (fun _ _ _ hq => hp _ _ _ _ _ hq) (Or.inl ⟨by kernel_rfl, fun wx hSw => by have h := hSw.2.1; go_simp⟩) hS ?_
 simp only [Act.put, sA, sZ, sS]
 refine tk 8 (some 128) (.pointer (some ⟨w.heap.size + 1, 3, none⟩)) (fun _ _ _ hq => hp _ _ _ _ _ hq) hS ?_
 simp only [Act.put, sA, sZ, sS]
 refine takeD 9 (some 129) (.int .u64 (y3 : Int)) rfl rfl (by kernel_rfl) (by kernel_rfl) (by kernel_rfl) (by kernel_rfl) (fun _ _ _ hq => hp _ _ _ _ _ hq) (Or.inl ⟨by kernel_rfl, fun wx hSw => by have h := hSw.2.2.2.2.2.2.2.2.1; go_simp⟩) hS ?_
 simp only [Act.put, sA, sZ, sS]
 refine tk 11 (some 131) (.pointer (some ⟨w.heap.size, 2, none⟩)) (fun _ _ _ hq => hp _ _ _ _ _ hq) hS ?_
 simp only [Act.put, sA, sZ, sS]
 refine takeD 12 (some 132) (.int .u64 (x2 : Int)) rfl rfl (by kernel_rfl) (by kernel_rfl) (by kernel_rfl) (by kernel_rfl) (fun _ _ _ hq => hp _ _ _ _ _ hq) (Or.inl ⟨by kernel_rfl, fun wx hSw => by have h := hSw.2.2.1; go_simp⟩) hS ?_
 simp only [Act.put, sA, sZ, sS]
 refine tk 13 (some 133) (.pointer (some ⟨w.heap.size + 1, 2, none⟩)) (fun _ _ _ hq => hp _ _ _ _ _ hq) hS ?_
 simp only [Act.put, sA, sZ, sS]
 refine takeD 14 (some 134) (.int .u64 (y2 : Int)) rfl rfl (by kernel_rfl) (by kernel_rfl) (by kernel_rfl) (by kernel_rfl) (fun _ _ _ hq => hp _ _ _ _ _ hq) (Or.inl ⟨by kernel_rfl, fun wx hSw => by have h := hSw.2.2.2.2.2.2.2.1; go_simp⟩) hS ?_
 simp only [Act.put, sA, sZ, sS]
 refine tk 16 (some 136) (.pointer (some ⟨w.heap.size, 3, none⟩)) (fun _ _ _ hq => hp _ _ _ _ _ hq) hS ?_
 simp only [Act.put, sA, sZ, sS]
 refine takeD 17 (some 137) (.int .u64 (x3 : Int)) rfl rfl (by kernel_rfl) (by kernel_rfl) (by kernel_rfl) (by kernel_rfl) (fun _ _ _ hq => hp _ _ _ _ _ hq) (Or.inl ⟨by kernel_rfl, fun wx hSw => by have h := hSw.2.2.2.1; go_simp⟩) hS ?_
 simp only [Act.put, sA, sZ, sS]
 refine tk 18 (some 138) (.pointer (some ⟨w.heap.size + 1, 1, none⟩)) (fun _ _ _ hq => hp _ _ _ _ _ hq) hS ?_
 simp only [Act.put, sA, sZ, sS]
 refine takeD 19 (some 139) (.int .u64 (y1 : Int)) rfl rfl (by kernel_rfl) (by kernel_rfl) (by kernel_rfl) (by kernel_rfl) (fun _ _ _ hq => hp _ _ _ _ _ hq) (Or.inl ⟨by kernel_rfl, fun wx hSw => by have h := hSw.2.2.2.2.2.2.1; go_simp⟩) hS ?_
 simp only [Act.put, sA, sZ, sS]
 refine tk 21 (some 141) (.pointer (some ⟨w.heap.size, 4, none⟩)) (fun _ _ _ hq => hp _ _ _ _ _ hq) hS ?_
 simp only [Act.put, sA, sZ, sS]
 refine takeD 22 (some 142) (.int .u64 (x4 : Int)) rfl rfl (by kernel_rfl) (by kernel_rfl) (by kernel_rfl) (by kernel_rfl) (fun _ _ _ hq => hp _ _ _ _ _ hq) (Or.inl ⟨by kernel_rfl, fun wx hSw => by have h := hSw.2.2.2.2.1; go_simp⟩) hS ?_
 simp only [Act.put, sA, sZ, sS]
 refine tk 23 (some 143) (.pointer (some ⟨w.heap.size + 1, 0, none⟩)) (fun _ _ _ hq => hp _ _ _ _ _ hq) hS ?_
 simp only [Act.put, sA, sZ, sS]
 refine takeD 24 (some 144) (.int .u64 (y0 : Int)) rfl rfl (by kernel_rfl) (by kernel_rfl) (by kernel_rfl) (by kernel_rfl) (fun _ _ _ hq => hp _ _ _ _ _ hq) (Or.inl ⟨by kernel_rfl, fun wx hSw => by have h := hSw.2.2.2.2.2.1; go_simp⟩) hS ?_
 simp only [Act.put, sA, sZ, sS]
 refine rd2 5 26 (fun K hK => ?_) fun K hK => ?_
 ·
  refine step_callF (by rfl) (some 125) rfl 83 _ _ rfl [.agg #[.int .u64 0, .int .u64 0], (.int .u64 (x0 : Int)), (.int .u64 (y4 : Int))] rfl hent _ (plus_zero _ _ (by assumption) (by assumption) _) ?_
  rintro e wm1 ⟨p1, q1, rfl, hi1, hb1⟩
  refine ⟨_, rfl, ?_⟩
  simp only [Act.put, sA, sZ, sS]
  refine kp hK hkeep ?_
  clear hK K
  refine rd2 10 26 (fun K hK => ?_) fun K hK => ?_
  ·
   refine step_callF (by rfl) (some 130) rfl 83 _ _ rfl [.agg #[.int .u64 (p1 : Int), .int .u64 (q1 : Int)], (.int .u64 (x1 : Int)), (.int .u64 (y3 : Int))] rfl hent _ (plus_more _ _ _ _ (by assumption) (by omega) _ _ (by assumption) (by assumption) _) ?_
   rintro e wm2 ⟨p2, q2, rfl, hi2, hb2⟩
   refine ⟨_, rfl, ?_⟩
   simp only [Act.put, sA, sZ, sS]
   refine kp hK hkeep ?_
   clear hK K
   refine rd2 15 26 (fun K hK => ?_) fun K hK => ?_
   ·
    refine step_callF (by rfl) (some 135) rfl 83 _ _ rfl [.agg #[.int .u64 (p2 : Int), .int .u64 (q2 : Int)], (.int .u64 (x2 : Int)), (.int .u64 (y2 : Int))] rfl hent _ (plus_more _ _ _ _ (by assumption) (by omega) _ _ (by assumption) (by assumption) _) ?_
    rintro e wm3 ⟨p3, q3, rfl, hi3, hb3⟩
    refine ⟨_, rfl, ?_⟩
    simp only [Act.put, sA, sZ, sS]
    refine kp hK hkeep ?_
    clear hK K
    refine rd2 20 26 (fun K hK => ?_) fun K hK => ?_
    ·
     refine step_callF (by rfl) (some 140) rfl 83 _ _ rfl [.agg #[.int .u64 (p3 : Int), .int .u64 (q3 : Int)], (.int .u64 (x3 : Int)), (.int .u64 (y1 : Int))] rfl hent _ (plus_more _ _ _ _ (by assumption) (by omega) _ _ (by assumption) (by assumption) _) ?_
     rintro e wm4 ⟨p4, q4, rfl, hi4, hb4⟩
     refine ⟨_, rfl, ?_⟩
     simp only [Act.put, sA, sZ, sS]
     refine kp hK hkeep ?_
     clear hK K
     refine rd2 25 26 (fun K hK => ?_) fun K hK => ?_
     ·
      refine step_callF (by rfl) (some 145) rfl 83 _ _ rfl [.agg #[.int .u64 (p4 : Int), .int .u64 (q4 : Int)], (.int .u64 (x4 : Int)), (.int .u64 (y0 : Int))] rfl hent _ (plus_more _ _ _ _ (by assumption) (by omega) _ _ (by assumption) (by assumption) _) ?_
      rintro e wm5 ⟨p5, q5, rfl, hi5, hb5⟩
      refine ⟨_, rfl, ?_⟩
      simp only [Act.put, sA, sZ, sS]
      refine kp hK hkeep ?_
      clear hK K
      refine on1 26 fun K hK => ?_
      refine step_val (by rfl) (some 13) rfl _ (alloc_wide _ _ rfl _) ?_
      simp only [Act.put, sA, sZ, sS]
      refine kp hK hkeep ?_
      clear hK K
      refine on1 27 fun K hK => ?_
      refine step_store_row rfl 124 (.tmp 13) (.tmp 145) rfl _ (wideC p5 q5) rfl rfl 124 #[.int .u64 0, .int .u64 0] (by (repeat (first | exact RowC.new _ _ _ | refine RowC.call ?_ (by assumption))); first | done | fail "row") info_wide rfl (one_wide p5 q5) ?_
      refine hK.out _ _ (fun h => absurd rfl h) ?_
      clear hK K
      refine doneT (by kernel_rfl) ?_ _
      exact h _ p5 q5 _ _ _ _ _ _ _ _ _ _ _ _ _ _ _ _ _ _ _ _ _ _ _ _ _ _ _ hi5 (fun L hL => Ms.finRow hL bl ((show Below v1.heap.size v1 wm5 from bl).size) (by (repeat (first | exact RowC.new _ _ _ | refine RowC.call ?_ (by assumption))); first | done | fail "row") _)
     ·
      refine step_val (by rfl) (some 13) rfl _ (alloc_wide _ _ rfl _) ?_
      simp only [Act.put, sA, sZ, sS]
      refine kp hK hkeep ?_
      clear hK K
      refine on1 25 fun K hK => ?_
      refine step_callF (by rfl) (some 145) rfl 83 _ _ rfl [.agg #[.int .u64 (p4 : Int), .int .u64 (q4 : Int)], (.int .u64 (x4 : Int)), (.int .u64 (y0 : Int))] rfl hent _ (plus_more _ _ _ _ (by assumption) (by omega) _ _ (by assumption) (by assumption) _) ?_
      rintro e wm5 ⟨p5, q5, rfl, hi5, hb5⟩
      refine ⟨_, rfl, ?_⟩
      simp only [Act.put, sA, sZ, sS]
      refine kp hK hkeep ?_
      clear hK K
      refine on1 27 fun K hK => ?_
      refine step_store_row rfl 124 (.tmp 13) (.tmp 145) rfl _ (wideC p5 q5) rfl rfl 124 #[.int .u64 0, .int .u64 0] (by (repeat (first | exact RowC.new _ _ _ | refine RowC.call ?_ (by assumption))); first | done | fail "row") info_wide rfl (one_wide p5 q5) ?_
      refine hK.out _ _ (fun h => absurd rfl h) ?_
      clear hK K
      refine doneT (by kernel_rfl) ?_ _
      exact h _ p5 q5 _ _ _ _ _ _ _ _ _ _ _ _ _ _ _ _ _ _ _ _ _ _ _ _ _ _ _ hi5 (fun L hL => Ms.finRow hL bl ((show Below v1.heap.size v1 wm4 from bl).size) (by (repeat (first | exact RowC.new _ _ _ | refine RowC.call ?_ (by assumption))); first | done | fail "row") _)
    ·
     refine step_val (by rfl) (some 13) rfl _ (alloc_wide _ _ rfl _) ?_
     simp only [Act.put, sA, sZ, sS]
     refine kp hK hkeep ?_
     clear hK K
     refine on1 20 fun K hK => ?_
     refine step_callF (by rfl) (some 140) rfl 83 _ _ rfl [.agg #[.int .u64 (p3 : Int), .int .u64 (q3 : Int)], (.int .u64 (x3 : Int)), (.int .u64 (y1 : Int))] rfl hent _ (plus_more _ _ _ _ (by assumption) (by omega) _ _ (by assumption) (by assumption) _) ?_
     rintro e wm4 ⟨p4, q4, rfl, hi4, hb4⟩
     refine ⟨_, rfl, ?_⟩
     simp only [Act.put, sA, sZ, sS]
     refine kp hK hkeep ?_
     clear hK K
     refine on1 25 fun K hK => ?_
     refine step_callF (by rfl) (some 145) rfl 83 _ _ rfl [.agg #[.int .u64 (p4 : Int), .int .u64 (q4 : Int)], (.int .u64 (x4 : Int)), (.int .u64 (y0 : Int))] rfl hent _ (plus_more _ _ _ _ (by assumption) (by omega) _ _ (by assumption) (by assumption) _) ?_
     rintro e wm5 ⟨p5, q5, rfl, hi5, hb5⟩
     refine ⟨_, rfl, ?_⟩
     simp only [Act.put, sA, sZ, sS]
     refine kp hK hkeep ?_
     clear hK K
     refine on1 27 fun K hK => ?_
     refine step_store_row rfl 124 (.tmp 13) (.tmp 145) rfl _ (wideC p5 q5) rfl rfl 124 #[.int .u64 0, .int .u64 0] (by (repeat (first | exact RowC.new _ _ _ | refine RowC.call ?_ (by assumption))); first | done | fail "row") info_wide rfl (one_wide p5 q5) ?_
     refine hK.out _ _ (fun h => absurd rfl h) ?_
     clear hK K
     refine doneT (by kernel_rfl) ?_ _
     exact h _ p5 q5 _ _ _ _ _ _ _ _ _ _ _ _ _ _ _ _ _ _ _ _ _ _ _ _ _ _ _ hi5 (fun L hL => Ms.finRow hL bl ((show Below v1.heap.size v1 wm3 from bl).size) (by (repeat (first | exact RowC.new _ _ _ | refine RowC.call ?_ (by assumption))); first | done | fail "row") _)
   ·
    refine step_val (by rfl) (some 13) rfl _ (alloc_wide _ _ rfl _) ?_
    simp only [Act.put, sA, sZ, sS]
    refine kp hK hkeep ?_
    clear hK K
    refine on1 15 fun K hK => ?_
    refine step_callF (by rfl) (some 135) rfl 83 _ _ rfl [.agg #[.int .u64 (p2 : Int), .int .u64 (q2 : Int)], (.int .u64 (x2 : Int)), (.int .u64 (y2 : Int))] rfl hent _ (plus_more _ _ _ _ (by assumption) (by omega) _ _ (by assumption) (by assumption) _) ?_
    rintro e wm3 ⟨p3, q3, rfl, hi3, hb3⟩
    refine ⟨_, rfl, ?_⟩
    simp only [Act.put, sA, sZ, sS]
    refine kp hK hkeep ?_
    clear hK K
    refine on1 20 fun K hK => ?_
    refine step_callF (by rfl) (some 140) rfl 83 _ _ rfl [.agg #[.int .u64 (p3 : Int), .int .u64 (q3 : Int)], (.int .u64 (x3 : Int)), (.int .u64 (y1 : Int))] rfl hent _ (plus_more _ _ _ _ (by assumption) (by omega) _ _ (by assumption) (by assumption) _) ?_
    rintro e wm4 ⟨p4, q4, rfl, hi4, hb4⟩
    refine ⟨_, rfl, ?_⟩
    simp only [Act.put, sA, sZ, sS]
    refine kp hK hkeep ?_
    clear hK K
    refine on1 25 fun K hK => ?_
    refine step_callF (by rfl) (some 145) rfl 83 _ _ rfl [.agg #[.int .u64 (p4 : Int), .int .u64 (q4 : Int)], (.int .u64 (x4 : Int)), (.int .u64 (y0 : Int))] rfl hent _ (plus_more _ _ _ _ (by assumption) (by omega) _ _ (by assumption) (by assumption) _) ?_
    rintro e wm5 ⟨p5, q5, rfl, hi5, hb5⟩
    refine ⟨_, rfl, ?_⟩
    simp only [Act.put, sA, sZ, sS]
    refine kp hK hkeep ?_
    clear hK K
    refine on1 27 fun K hK => ?_
    refine step_store_row rfl 124 (.tmp 13) (.tmp 145) rfl _ (wideC p5 q5) rfl rfl 124 #[.int .u64 0, .int .u64 0] (by (repeat (first | exact RowC.new _ _ _ | refine RowC.call ?_ (by assumption))); first | done | fail "row") info_wide rfl (one_wide p5 q5) ?_
    refine hK.out _ _ (fun h => absurd rfl h) ?_
    clear hK K
    refine doneT (by kernel_rfl) ?_ _
    exact h _ p5 q5 _ _ _ _ _ _ _ _ _ _ _ _ _ _ _ _ _ _ _ _ _ _ _ _ _ _ _ hi5 (fun L hL => Ms.finRow hL bl ((show Below v1.heap.size v1 wm2 from bl).size) (by (repeat (first | exact RowC.new _ _ _ | refine RowC.call ?_ (by assumption))); first | done | fail "row") _)
  ·
   refine step_val (by rfl) (some 13) rfl _ (alloc_wide _ _ rfl _) ?_
   simp only [Act.put, sA, sZ, sS]
   refine kp hK hkeep ?_
   clear hK K
   refine on1 10 fun K hK => ?_
   refine step_callF (by rfl) (some 130) rfl 83 _ _ rfl [.agg #[.int .u64 (p1 : Int), .int .u64 (q1 : Int)], (.int .u64 (x1 : Int)), (.int .u64 (y3 : Int))] rfl hent _ (plus_more _ _ _ _ (by assumption) (by omega) _ _ (by assumption) (by assumption) _) ?_
   rintro e wm2 ⟨p2, q2, rfl, hi2, hb2⟩
   refine ⟨_, rfl, ?_⟩
   simp only [Act.put, sA, sZ, sS]
   refine kp hK hkeep ?_
   clear hK K
   refine on1 15 fun K hK => ?_
   refine step_callF (by rfl) (some 135) rfl 83 _ _ rfl [.agg #[.int .u64 (p2 : Int), .int .u64 (q2 : Int)], (.int .u64 (x2 : Int)), (.int .u64 (y2 : Int))] rfl hent _ (plus_more _ _ _ _ (by assumption) (by omega) _ _ (by assumption) (by assumption) _) ?_
   rintro e wm3 ⟨p3, q3, rfl, hi3, hb3⟩
   refine ⟨_, rfl, ?_⟩
   simp only [Act.put, sA, sZ, sS]
   refine kp hK hkeep ?_
   clear hK K
   refine on1 20 fun K hK => ?_
   refine step_callF (by rfl) (some 140) rfl 83 _ _ rfl [.agg #[.int .u64 (p3 : Int), .int .u64 (q3 : Int)], (.int .u64 (x3 : Int)), (.int .u64 (y1 : Int))] rfl hent _ (plus_more _ _ _ _ (by assumption) (by omega) _ _ (by assumption) (by assumption) _) ?_
   rintro e wm4 ⟨p4, q4, rfl, hi4, hb4⟩
   refine ⟨_, rfl, ?_⟩
   simp only [Act.put, sA, sZ, sS]
   refine kp hK hkeep ?_
   clear hK K
   refine on1 25 fun K hK => ?_
   refine step_callF (by rfl) (some 145) rfl 83 _ _ rfl [.agg #[.int .u64 (p4 : Int), .int .u64 (q4 : Int)], (.int .u64 (x4 : Int)), (.int .u64 (y0 : Int))] rfl hent _ (plus_more _ _ _ _ (by assumption) (by omega) _ _ (by assumption) (by assumption) _) ?_
   rintro e wm5 ⟨p5, q5, rfl, hi5, hb5⟩
   refine ⟨_, rfl, ?_⟩
   simp only [Act.put, sA, sZ, sS]
   refine kp hK hkeep ?_
   clear hK K
   refine on1 27 fun K hK => ?_
   refine step_store_row rfl 124 (.tmp 13) (.tmp 145) rfl _ (wideC p5 q5) rfl rfl 124 #[.int .u64 0, .int .u64 0] (by (repeat (first | exact RowC.new _ _ _ | refine RowC.call ?_ (by assumption))); first | done | fail "row") info_wide rfl (one_wide p5 q5) ?_
   refine hK.out _ _ (fun h => absurd rfl h) ?_
   clear hK K
   refine doneT (by kernel_rfl) ?_ _
   exact h _ p5 q5 _ _ _ _ _ _ _ _ _ _ _ _ _ _ _ _ _ _ _ _ _ _ _ _ _ _ _ hi5 (fun L hL => Ms.finRow hL bl ((show Below v1.heap.size v1 wm1 from bl).size) (by (repeat (first | exact RowC.new _ _ _ | refine RowC.call ?_ (by assumption))); first | done | fail "row") _)
 ·
  refine step_val (by rfl) (some 13) rfl _ (alloc_wide _ _ rfl _) ?_
  simp only [Act.put, sA, sZ, sS]
  refine kp hK hkeep ?_
  clear hK K
  refine on1 5 fun K hK => ?_
  refine step_callF (by rfl) (some 125) rfl 83 _ _ rfl [.agg #[.int .u64 0, .int .u64 0], (.int .u64 (x0 : Int)), (.int .u64 (y4 : Int))] rfl hent _ (plus_zero _ _ (by assumption) (by assumption) _) ?_
  rintro e wm1 ⟨p1, q1, rfl, hi1, hb1⟩
  refine ⟨_, rfl, ?_⟩
  simp only [Act.put, sA, sZ, sS]
  refine kp hK hkeep ?_
  clear hK K
  refine on1 10 fun K hK => ?_
  refine step_callF (by rfl) (some 130) rfl 83 _ _ rfl [.agg #[.int .u64 (p1 : Int), .int .u64 (q1 : Int)], (.int .u64 (x1 : Int)), (.int .u64 (y3 : Int))] rfl hent _ (plus_more _ _ _ _ (by assumption) (by omega) _ _ (by assumption) (by assumption) _) ?_
  rintro e wm2 ⟨p2, q2, rfl, hi2, hb2⟩
  refine ⟨_, rfl, ?_⟩
  simp only [Act.put, sA, sZ, sS]
  refine kp hK hkeep ?_
  clear hK K
  refine on1 15 fun K hK => ?_
  refine step_callF (by rfl) (some 135) rfl 83 _ _ rfl [.agg #[.int .u64 (p2 : Int), .int .u64 (q2 : Int)], (.int .u64 (x2 : Int)), (.int .u64 (y2 : Int))] rfl hent _ (plus_more _ _ _ _ (by assumption) (by omega) _ _ (by assumption) (by assumption) _) ?_
  rintro e wm3 ⟨p3, q3, rfl, hi3, hb3⟩
  refine ⟨_, rfl, ?_⟩
  simp only [Act.put, sA, sZ, sS]
  refine kp hK hkeep ?_
  clear hK K
  refine on1 20 fun K hK => ?_
  refine step_callF (by rfl) (some 140) rfl 83 _ _ rfl [.agg #[.int .u64 (p3 : Int), .int .u64 (q3 : Int)], (.int .u64 (x3 : Int)), (.int .u64 (y1 : Int))] rfl hent _ (plus_more _ _ _ _ (by assumption) (by omega) _ _ (by assumption) (by assumption) _) ?_
  rintro e wm4 ⟨p4, q4, rfl, hi4, hb4⟩
  refine ⟨_, rfl, ?_⟩
  simp only [Act.put, sA, sZ, sS]
  refine kp hK hkeep ?_
  clear hK K
  refine on1 25 fun K hK => ?_
  refine step_callF (by rfl) (some 145) rfl 83 _ _ rfl [.agg #[.int .u64 (p4 : Int), .int .u64 (q4 : Int)], (.int .u64 (x4 : Int)), (.int .u64 (y0 : Int))] rfl hent _ (plus_more _ _ _ _ (by assumption) (by omega) _ _ (by assumption) (by assumption) _) ?_
  rintro e wm5 ⟨p5, q5, rfl, hi5, hb5⟩
  refine ⟨_, rfl, ?_⟩
  simp only [Act.put, sA, sZ, sS]
  refine kp hK hkeep ?_
  clear hK K
  refine on1 27 fun K hK => ?_
  refine step_store_row rfl 124 (.tmp 13) (.tmp 145) rfl _ (wideC p5 q5) rfl rfl 124 #[.int .u64 0, .int .u64 0] (by (repeat (first | exact RowC.new _ _ _ | refine RowC.call ?_ (by assumption))); first | done | fail "row") info_wide rfl (one_wide p5 q5) ?_
  refine hK.out _ _ (fun h => absurd rfl h) ?_
  clear hK K
  refine doneT (by kernel_rfl) ?_ _
  exact h _ p5 q5 _ _ _ _ _ _ _ _ _ _ _ _ _ _ _ _ _ _ _ _ _ _ _ _ _ _ _ hi5 (fun L hL => Ms.finRow hL bl ((show Below v1.heap.size v1 v1.drew from bl).size) (by (repeat (first | exact RowC.new _ _ _ | refine RowC.call ?_ (by assumption))); first | done | fail "row") _)
set_option maxRecDepth 100000 in
set_option maxHeartbeats 40000000 in
theorem product_any (a b : Fe5) (w : World) (ha : MayF a) (hb : MayF b) :
  Calls Tryd.prog 65 #[.agg (feC a), .agg (feC b)] w fun e w' => e = .returned (.agg (feC (mulQ a b))) ∧ Below w.heap.size w w' := by
 have Hlow := Lib.hid (prodS_low ha hb)
 have Hword := Lib.hid (mulQ_word ha hb)
 generalize hans : mulQ a b = ans
 have Hans0 := Lib.hid hans
 clear hans
 generalize hfa : feC ans = fa
 have Hfa := Lib.hid hfa
 clear hfa
 obtain ⟨x0, x1, x2, x3, x4⟩ := a
 obtain ⟨y0, y1, y2, y3, y4⟩ := b
 obtain ⟨hx0, hx1, hx2, hx3, hx4⟩ := ha
 obtain ⟨hy0, hy1, hy2, hy3, hy4⟩ := hb
 simp only at hx0 hx1 hx2 hx3 hx4 hy0 hy1 hy2 hy3 hy4
 have px0 : Part x0 := hx0
 have px1 : Part x1 := hx1
 have px2 : Part x2 := hx2
 have px3 : Part x3 := hx3
 have px4 : Part x4 := hx4
 have py0 : Part19 y0 := by unfold Part19; omega
 have py1 : Part19 y1 := by unfold Part19; omega
 have py2 : Part19 y2 := by unfold Part19; omega
 have py3 : Part19 y3 := by unfold Part19; omega
 have py4 : Part19 y4 := by unfold Part19; omega
 have pz1 : Part19 (19 * y1) := by unfold Part19; omega
 have pz2 : Part19 (19 * y2) := by unfold Part19; omega
 have pz3 : Part19 (19 * y3) := by unfold Part19; omega
 have pz4 : Part19 (19 * y4) := by unfold Part19; omega
 have w1 : IntKind.u64.wrap (19 * (y1 : Int)) = ((19 * y1 : Nat) : Int) := wrap_nat (by omega) (by omega)
 have w2 : IntKind.u64.wrap (19 * (y2 : Int)) = ((19 * y2 : Nat) : Int) := wrap_nat (by omega) (by omega)
 have w3 : IntKind.u64.wrap (19 * (y3 : Int)) = ((19 * y3 : Nat) : Int) := wrap_nat (by omega) (by omega)
 have w4 : IntKind.u64.wrap (19 * (y4 : Int)) = ((19 * y4 : Nat) : Int) := wrap_nat (by omega) (by omega)
 obtain ⟨z1, hz1⟩ : ∃ z, z = 19 * y1 := ⟨_, rfl⟩
 obtain ⟨z2, hz2⟩ : ∃ z, z = 19 * y2 := ⟨_, rfl⟩
 obtain ⟨z3, hz3⟩ : ∃ z, z = 19 * y3 := ⟨_, rfl⟩
 obtain ⟨z4, hz4⟩ : ∃ z, z = 19 * y4 := ⟨_, rfl⟩
 rw [← hz1] at w1 pz1
 rw [← hz2] at w2 pz2
 rw [← hz3] at w3 pz3
 rw [← hz4] at w4 pz4
 have Hz1 := Lib.hid hz1
 have Hz2 := Lib.hid hz2
 have Hz3 := Lib.hid hz3
 have Hz4 := Lib.hid hz4
 clear hz1 hz2 hz3 hz4 hx0 hx1 hx2 hx3 hx4 hy0 hy1 hy2 hy3 hy4
 simp only [feC]
 go_enter Tryd.func65, Tryd.ntmps65
 go_wp2_with fail
 go_quiet (fail)
 go_wp2_with fail
 have hM := ((((Ms.nil w).box 50 #[.int .u64 (x0 : Int), .int .u64 (x1 : Int), .int .u64 (x2 : Int), .int .u64 (x3 : Int), .int .u64 (x4 : Int)]).box 50 #[.int .u64 (y0 : Int), .int .u64 (y1 : Int), .int .u64 (y2 : Int), .int .u64 (y3 : Int), .int .u64 (y4 : Int)]).box 50 #[.int .u64 0, .int .u64 0, .int .u64 0, .int .u64 0, .int .u64 0])
 simp only [World.size_alloc] at hM
 refine wp_gen (fun wx => Ms w wx [(w.heap.size + 1 + 1, 50, #[.int .u64 0, .int .u64 0, .int .u64 0, .int .u64 0, .int .u64 0]), (w.heap.size + 1, 50, #[.int .u64 (y0 : Int), .int .u64 (y1 : Int), .int .u64 (y2 : Int), .int .u64 (y3 : Int), .int .u64 (y4 : Int)]), (w.heap.size, 50, #[.int .u64 (x0 : Int), .int .u64 (x1 : Int), .int .u64 (x2 : Int), .int .u64 (x3 : Int), .int .u64 (x4 : Int)])]) (hM.drewN _) ?_
 clear hM w1 w2 w3 w4
 rintro v1 hM1
 have hent : ∀ args w, (callFunc 83 args).run Tryd.prog w = .ok (.enter 83 args) w := enters_of Tryd.func83 (by kernel_rfl) rfl
 have hkeep : ∀ wx : World, Below v1.heap.size v1 wx → PartsAt w.heap.size (w.heap.size + 1) x0 x1 x2 x3 x4 y0 y1 y2 y3 y4 wx := fun wx hb => ⟨((hM1.get 2 rfl).call hb).cell rfl, ((hM1.get 2 rfl).call hb).cell rfl, ((hM1.get 2 rfl).call hb).cell rfl, ((hM1.get 2 rfl).call hb).cell rfl, ((hM1.get 2 rfl).call hb).cell rfl, ((hM1.get 1 rfl).call hb).cell rfl, ((hM1.get 1 rfl).call hb).cell rfl, ((hM1.get 1 rfl).call hb).cell rfl, ((hM1.get 1 rfl).call hb).cell rfl, ((hM1.get 1 rfl).call hb).cell rfl⟩
 go_cut [9] (fun p wx => ∃ g p' q' : Nat, p = .pointer (some ⟨g, 0, none⟩) ∧ IsW p' q' (x0 * y0 + x1 * z4 + x2 * z3 + x3 * z2 + x4 * z1) 5 ∧ ∀ L, Ms w v1 L → Ms w wx ((g, 124, wideC p' q') :: L))
 case first =>
  refine prod_reg2 w v1 x0 x1 x2 x3 x4 y0 y1 y2 y3 y4 z1 z2 z3 z4 px0 px1 px2 px3 px4 py0 py1 py2 py3 py4 pz1 pz2 pz3 pz4 hkeep _ _ _ _ _ _ _ _ _ _ _ _ _ _ _ _ _ _ _ _ _ _ _ _ _ _ _ _ _ _ _ _ _ _ _ _ _ _ _ _ _ _ _ _ _ _ _ _ _ _ _ _ _ _ _ _ _ _ _ _ _ _ _ _ _ _ _ _ _ _ _ _ _ _ _ _ _ _ _ _ _ _ _ _ _ _ _ _ _ _ _ _ _ _ _ _ _ _ _ _ _ _ _ _ _ _ _ _ _ _ _ _ _ _ _ _ _ _ _ _ _ _ _ _ _ _ _ _ _ _ _ _ _ _ _ _ _ _ _ _ _ _ _ _ _ _ _ _ _ _ _ _ _ _ _ _ _ _ _ _ _ _ _ _ _ _ _ _ _ (fun _ _ _ _ _ hq => hq) ?_
  intro g p q wx s26 s27 s28 s29 s30 s31 s32 s33 s34 s35 s36 s37 s38 s39 s40 s41 s42 s43 s44 s45 s46 s47 hi hm
  go_wp2_with fail
  go_meet
  exact ⟨_, _, _, rfl, hi, hm⟩
 rename World => v2
 obtain ⟨g0, c0, d0, rfl, hI0, hM2⟩ := hcut
 replace hM2 := hM2 _ hM1
 clear hkeep hM1
 go_wp2_with fail
 have hkeep : ∀ wx : World, Below v2.heap.size v2 wx → PartsAt w.heap.size (w.heap.size + 1) x0 x1 x2 x3 x4 y0 y1 y2 y3 y4 wx := fun wx hb => ⟨((hM2.get 3 rfl).call hb).cell rfl, ((hM2.get 3 rfl).call hb).cell rfl, ((hM2.get 3 rfl).call hb).cell rfl, ((hM2.get 3 rfl).call hb).cell rfl, ((hM2.get 3 rfl).call hb).cell rfl, ((hM2.get 2 rfl).call hb).cell rfl, ((hM2.get 2 rfl).call hb).cell rfl, ((hM2.get 2 rfl).call hb).cell rfl, ((hM2.get 2 rfl).call hb).cell rfl, ((hM2.get 2 rfl).call hb).cell rfl⟩
 go_cut [10] (fun p wx => ∃ g p' q' : Nat, p = .pointer (some ⟨g, 0, none⟩) ∧ IsW p' q' (x0 * y1 + x1 * y0 + x2 * z4 + x3 * z3 + x4 * z2) 5 ∧ ∀ L, Ms w v2 L → Ms w wx ((g, 124, wideC p' q') :: L))
 case first =>
  refine prod_reg3 w v2 x0 x1 x2 x3 x4 y0 y1 y2 y3 y4 z1 z2 z3 z4 px0 px1 px2 px3 px4 py0 py1 py2 py3 py4 pz1 pz2 pz3 pz4 hkeep _ _ _ _ _ _ _ _ _ _ _ _ _ _ _ _ _ _ _ _ _ _ _ _ _ _ _ _ _ _ _ _ _ _ _ _ _ _ _ _ _ _ _ _ _ _ _ _ _ _ _ _ _ _ _ _ _ _ _ _ _ _ _ _ _ _ _ _ _ _ _ _ _ _ _ _ _ _ _ _ _ _ _ _ _ _ _ _ _ _ _ _ _ _ _ _ _ _ _ _ _ _ _ _ _ _ _ _ _ _ _ _ _ _ _ _ _ _ _ _ _ _ _ _ _ _ _ _ _ _ _ _ _ _ _ _ _ _ _ _ _ _ _ _ _ _ _ _ _ _ _ _ _ _ _ _ _ _ _ _ _ _ _ _ _ _ _ _ _ (fun _ _ _ _ _ hq => hq) ?_
  intro g p q wx s48 s49 s50 s51 s52 s53 s54 s55 s56 s57 s58 s59 s60 s61 s62 s63 s64 s65 s66 s67 s68 s69 s70 hi hm
  go_wp2_with fail
  go_meet
  exact ⟨_, _, _, rfl, hi, hm⟩
 rename World => v3
 obtain ⟨g1, c1, d1, rfl, hI1, hM3⟩ := hcut
 replace hM3 := hM3 _ hM2
 clear hkeep hM2
 go_wp2_with fail
 have hkeep : ∀ wx : World, Below v3.heap.size v3 wx → PartsAt w.heap.size (w.heap.size + 1) x0 x1 x2 x3 x4 y0 y1 y2 y3 y4 wx := fun wx hb => ⟨((hM3.get 4 rfl).call hb).cell rfl, ((hM3.get 4 rfl).call hb).cell rfl, ((hM3.get 4 rfl).call hb).cell rfl, ((hM3.get 4 rfl).call hb).cell rfl, ((hM3.get 4 rfl).call hb).cell rfl, ((hM3.get 3 rfl).call hb).cell rfl, ((hM3.get 3 rfl).call hb).cell rfl, ((hM3.get 3 rfl).call hb).cell rfl, ((hM3.get 3 rfl).call hb).cell rfl, ((hM3.get 3 rfl).call hb).cell rfl⟩
 go_cut [11] (fun p wx => ∃ g p' q' : Nat, p = .pointer (some ⟨g, 0, none⟩) ∧ IsW p' q' (x0 * y2 + x1 * y1 + x2 * y0 + x3 * z4 + x4 * z3) 5 ∧ ∀ L, Ms w v3 L → Ms w wx ((g, 124, wideC p' q') :: L))
 case first =>
  refine prod_reg4 w v3 x0 x1 x2 x3 x4 y0 y1 y2 y3 y4 z1 z2 z3 z4 px0 px1 px2 px3 px4 py0 py1 py2 py3 py4 pz1 pz2 pz3 pz4 hkeep _ _ _ _ _ _ _ _ _ _ _ _ _ _ _ _ _ _ _ _ _ _ _ _ _ _ _ _ _ _ _ _ _ _ _ _ _ _ _ _ _ _ _ _ _ _ _ _ _ _ _ _ _ _ _ _ _ _ _ _ _ _ _ _ _ _ _ _ _ _ _ _ _ _ _ _ _ _ _ _ _ _ _ _ _ _ _ _ _ _ _ _ _ _ _ _ _ _ _ _ _ _ _ _ _ _ _ _ _ _ _ _ _ _ _ _ _ _ _ _ _ _ _ _ _ _ _ _ _ _ _ _ _ _ _ _ _ _ _ _ _ _ _ _ _ _ _ _ _ _ _ _ _ _ _ _ _ _ _ _ _ _ _ _ _ _ _ _ _ (fun _ _ _ _ _ hq => hq) ?_
  intro g p q wx s71 s72 s73 s74 s75 s76 s77 s78 s79 s80 s81 s82 s83 s84 s85 s86 s87 s88 s89 s90 s91 s92 s93 s94 hi hm
  go_wp2_with fail
  go_meet
  exact ⟨_, _, _, rfl, hi, hm⟩
 rename World => v4
 obtain ⟨g2, c2, d2, rfl, hI2, hM4⟩ := hcut
 replace hM4 := hM4 _ hM3
 clear hkeep hM3
 go_wp2_with fail
 have hkeep : ∀ wx : World, Below v4.heap.size v4 wx → PartsAt w.heap.size (w.heap.size + 1) x0 x1 x2 x3 x4 y0 y1 y2 y3 y4 wx := fun wx hb => ⟨((hM4.get 5 rfl).call hb).cell rfl, ((hM4.get 5 rfl).call hb).cell rfl, ((hM4.get 5 rfl).call hb).cell rfl, ((hM4.get 5 rfl).call hb).cell rfl, ((hM4.get 5 rfl).call hb).cell rfl, ((hM4.get 4 rfl).call hb).cell rfl, ((hM4.get 4 rfl).call hb).cell rfl, ((hM4.get 4 rfl).call hb).cell rfl, ((hM4.get 4 rfl).call hb).cell rfl, ((hM4.get 4 rfl).call hb).cell rfl⟩
 go_cut [12] (fun p wx => ∃ g p' q' : Nat, p = .pointer (some ⟨g, 0, none⟩) ∧ IsW p' q' (x0 * y3 + x1 * y2 + x2 * y1 + x3 * y0 + x4 * z4) 5 ∧ ∀ L, Ms w v4 L → Ms w wx ((g, 124, wideC p' q') :: L))
 case first =>
  refine prod_reg5 w v4 x0 x1 x2 x3 x4 y0 y1 y2 y3 y4 z1 z2 z3 z4 px0 px1 px2 px3 px4 py0 py1 py2 py3 py4 pz1 pz2 pz3 pz4 hkeep _ _ _ _ _ _ _ _ _ _ _ _ _ _ _ _ _ _ _ _ _ _ _ _ _ _ _ _ _ _ _ _ _ _ _ _ _ _ _ _ _ _ _ _ _ _ _ _ _ _ _ _ _ _ _ _ _ _ _ _ _ _ _ _ _ _ _ _ _ _ _ _ _ _ _ _ _ _ _ _ _ _ _ _ _ _ _ _ _ _ _ _ _ _ _ _ _ _ _ _ _ _ _ _ _ _ _ _ _ _ _ _ _ _ _ _ _ _ _ _ _ _ _ _ _ _ _ _ _ _ _ _ _ _ _ _ _ _ _ _ _ _ _ _ _ _ _ _ _ _ _ _ _ _ _ _ _ _ _ _ _ _ _ _ _ _ _ _ _ (fun _ _ _ _ _ hq => hq) ?_
  intro g p q wx s95 s96 s97 s98 s99 s100 s101 s102 s103 s104 s105 s106 s107 s108 s109 s110 s111 s112 s113 s114 s115 s116 s117 s118 s119 hi hm
  go_wp2_with fail
  go_meet
  exact ⟨_, _, _, rfl, hi, hm⟩
 rename World => v5
 obtain ⟨g3, c3, d3, rfl, hI3, hM5⟩ := hcut
 replace hM5 := hM5 _ hM4
 clear hkeep hM4
 go_wp2_with fail
 have hkeep : ∀ wx : World, Below v5.heap.size v5 wx → PartsAt w.heap.size (w.heap.size + 1) x0 x1 x2 x3 x4 y0 y1 y2 y3 y4 wx := fun wx hb => ⟨((hM5.get 6 rfl).call hb).cell rfl, ((hM5.get 6 rfl).call hb).cell rfl, ((hM5.get 6 rfl).call hb).cell rfl, ((hM5.get 6 rfl).call hb).cell rfl, ((hM5.get 6 rfl).call hb).cell rfl, ((hM5.get 5 rfl).call hb).cell rfl, ((hM5.get 5 rfl).call hb).cell rfl, ((hM5.get 5 rfl).call hb).cell rfl, ((hM5.get 5 rfl).call hb).cell rfl, ((hM5.get 5 rfl).call hb).cell rfl⟩
 go_cut [13] (fun p wx => ∃ g p' q' : Nat, p = .pointer (some ⟨g, 0, none⟩) ∧ IsW p' q' (x0 * y4 + x1 * y3 + x2 * y2 + x3 * y1 + x4 * y0) 5 ∧ ∀ L, Ms w v5 L → Ms w wx ((g, 124, wideC p' q') :: L))
 case first =>
  refine prod_reg6 w v5 x0 x1 x2 x3 x4 y0 y1 y2 y3 y4 z1 z2 z3 z4 px0 px1 px2 px3 px4 py0 py1 py2 py3 py4 pz1 pz2 pz3 pz4 hkeep _ _ _ _ _ _ _ _ _ _ _ _ _ _ _ _ _ _ _ _ _ _ _ _ _ _ _ _ _ _ _ _ _ _ _ _ _ _ _ _ _ _ _ _ _ _ _ _ _ _ _ _ _ _ _ _ _ _ _ _ _ _ _ _ _ _ _ _ _ _ _ _ _ _ _ _ _ _ _ _ _ _ _ _ _ _ _ _ _ _ _ _ _ _ _ _ _ _ _ _ _ _ _ _ _ _ _ _ _ _ _ _ _ _ _ _ _ _ _ _ _ _ _ _ _ _ _ _ _ _ _ _ _ _ _ _ _ _ _ _ _ _ _ _ _ _ _ _ _ _ _ _ _ _ _ _ _ _ _ _ _ _ _ _ _ _ _ _ _ (fun _ _ _ _ _ hq => hq) ?_
  intro g p q wx s120 s121 s122 s123 s124 s125 s126 s127 s128 s129 s130 s131 s132 s133 s134 s135 s136 s137 s138 s139 s140 s141 s142 s143 s144 s145 hi hm
  go_wp2_with fail
  go_meet
  exact ⟨_, _, _, rfl, hi, hm⟩
 rename World => v6
 obtain ⟨g4, c4, d4, rfl, hI4, hM6⟩ := hcut
 replace hM6 := hM6 _ hM5
 clear hkeep hM5
 go_wp2_with fail
 have e0 := hI0.wide
 have e1 := hI1.wide
 have e2 := hI2.wide
 have e3 := hI3.wide
 have e4 := hI4.wide
 generalize hs0 : x0 * y0 + x1 * z4 + x2 * z3 + x3 * z2 + x4 * z1 = s0 at *
 generalize hs1 : x0 * y1 + x1 * y0 + x2 * z4 + x3 * z3 + x4 * z2 = s1 at *
 generalize hs2 : x0 * y2 + x1 * y1 + x2 * y0 + x3 * z4 + x4 * z3 = s2 at *
 generalize hs3 : x0 * y3 + x1 * y2 + x2 * y1 + x3 * y0 + x4 * z4 = s3 at *
 generalize hs4 : x0 * y4 + x1 * y3 + x2 * y2 + x3 * y1 + x4 * y0 = s4 at *
 have hP : prodS ⟨x0, x1, x2, x3, x4⟩ ⟨y0, y1, y2, y3, y4⟩ = ⟨s0, s1, s2, s3, s4⟩ := by
  rw [← hs0, ← hs1, ← hs2, ← hs3, ← hs4, Hz1.out, Hz2.out, Hz3.out, Hz4.out]
  rfl
 have hlow := Hlow.out
 have hword := Hword.out
 rw [hP] at hlow hword
 obtain ⟨l0, l1, l2, l3, l4⟩ := hlow
 simp only at l0 l1 l2 l3 l4
 have Hans := Lib.hid (show mulQ ⟨x0, x1, x2, x3, x4⟩ ⟨y0, y1, y2, y3, y4⟩ = carU (carU ⟨s0, s1, s2, s3, s4⟩) by rw [mulQ, hP])
 clear hP hs0 hs1 hs2 hs3 hs4 Hlow Hword Hz1 Hz2 Hz3 Hz4 hI0 hI1 hI2 hI3 hI4 px0 px1 px2 px3 px4 py0 py1 py2 py3 py4 pz1 pz2 pz3 pz4
 have kk0 := fun wx => kept_any s0 wx
 have ko0 := fun wx => over_any s0 (by omega) wx
 rw [← e0] at kk0 ko0
 have kk1 := fun wx => kept_any s1 wx
 have ko1 := fun wx => over_any s1 (by omega) wx
 rw [← e1] at kk1 ko1
 have kk2 := fun wx => kept_any s2 wx
 have ko2 := fun wx => over_any s2 (by omega) wx
 rw [← e2] at kk2 ko2
 have kk3 := fun wx => kept_any s3 wx
 have ko3 := fun wx => over_any s3 (by omega) wx
 rw [← e3] at kk3 ko3
 have kk4 := fun wx => kept_any s4 wx
 have ko4 := fun wx => over_any s4 (by omega) wx
 rw [← e4] at kk4 ko4
 have hc : ∀ wx, Calls Tryd.prog 64 #[.agg (feC (carU ⟨s0, s1, s2, s3, s4⟩))] wx fun e w' => e = .returned (.agg (feC (carU (carU ⟨s0, s1, s2, s3, s4⟩)))) ∧ Below wx.heap.size wx w' := fun wx => carried_any _ wx hword
 rw [← Hans.out, Hans0.out] at hc
 have hcc : (.agg (feC (carU ⟨s0, s1, s2, s3, s4⟩)) : Value) = .agg #[.int .u64 ((s0 % 2251799813685248 + 19 * (s4 / 2251799813685248) : Nat) : Int), .int .u64 ((s1 % 2251799813685248 + s0 / 2251799813685248 : Nat) : Int), .int .u64 ((s2 % 2251799813685248 + s1 / 2251799813685248 : Nat) : Int), .int .u64 ((s3 % 2251799813685248 + s2 / 2251799813685248 : Nat) : Int), .int .u64 ((s4 % 2251799813685248 + s3 / 2251799813685248 : Nat) : Int)] := rfl
 rw [hcc] at hc
 clear hcc hword
 have b0 : IntKind.u64.wrap (19 * ((s4 / 2251799813685248 : Nat) : Int)) = ((19 * (s4 / 2251799813685248) : Nat) : Int) := wrap_nat (by omega) (by omega)
 have b1 : IntKind.u64.wrap (((s0 % 2251799813685248 : Nat) : Int) + ((19 * (s4 / 2251799813685248) : Nat) : Int)) = ((s0 % 2251799813685248 + 19 * (s4 / 2251799813685248) : Nat) : Int) := wrap_nat (by omega) (by omega)
 have b2 : IntKind.u64.wrap (((s1 % 2251799813685248 : Nat) : Int) + ((s0 / 2251799813685248 : Nat) : Int)) = ((s1 % 2251799813685248 + s0 / 2251799813685248 : Nat) : Int) := wrap_nat (by omega) (by omega)
 have b3 : IntKind.u64.wrap (((s2 % 2251799813685248 : Nat) : Int) + ((s1 / 2251799813685248 : Nat) : Int)) = ((s2 % 2251799813685248 + s1 / 2251799813685248 : Nat) : Int) := wrap_nat (by omega) (by omega)
 have b4 : IntKind.u64.wrap (((s3 % 2251799813685248 : Nat) : Int) + ((s2 / 2251799813685248 : Nat) : Int)) = ((s3 % 2251799813685248 + s2 / 2251799813685248 : Nat) : Int) := wrap_nat (by omega) (by omega)
 have b5 : IntKind.u64.wrap (((s4 % 2251799813685248 : Nat) : Int) + ((s3 / 2251799813685248 : Nat) : Int)) = ((s4 % 2251799813685248 + s3 / 2251799813685248 : Nat) : Int) := wrap_nat (by omega) (by omega)
 clear l0 l1 l2 l3 l4 e0 e1 e2 e3 e4
 generalize s0 % 2251799813685248 + 19 * (s4 / 2251799813685248) = r0 at *
 generalize 19 * (s4 / 2251799813685248) = m4 at *
 generalize s1 % 2251799813685248 + s0 / 2251799813685248 = r1 at *
 generalize s2 % 2251799813685248 + s1 / 2251799813685248 = r2 at *
 generalize s3 % 2251799813685248 + s2 / 2251799813685248 = r3 at *
 generalize s4 % 2251799813685248 + s3 / 2251799813685248 = r4 at *
 generalize s0 % 2251799813685248 = k0 at *
 generalize s0 / 2251799813685248 = o0 at *
 generalize s1 % 2251799813685248 = k1 at *
 generalize s1 / 2251799813685248 = o1 at *
 generalize s2 % 2251799813685248 = k2 at *
 generalize s2 / 2251799813685248 = o2 at *
 generalize s3 % 2251799813685248 = k3 at *
 generalize s3 / 2251799813685248 = o3 at *
 generalize s4 % 2251799813685248 = k4 at *
 generalize s4 / 2251799813685248 = o4 at *
 clear Hans Hans0
 have hkeep : ∀ wx : World, Below v6.heap.size v6 wx → (fun wx => wx.rangeAt g0 0 [.int .u64 (c0 : Int), .int .u64 (d0 : Int)] ∧ wx.rangeAt g1 0 [.int .u64 (c1 : Int), .int .u64 (d1 : Int)] ∧ wx.rangeAt g2 0 [.int .u64 (c2 : Int), .int .u64 (d2 : Int)] ∧ wx.rangeAt g3 0 [.int .u64 (c3 : Int), .int .u64 (d3 : Int)] ∧ wx.rangeAt g4 0 [.int .u64 (c4 : Int), .int .u64 (d4 : Int)]) wx := fun wx hb => ⟨(((hM6.get 4 rfl).call hb)).range, (((hM6.get 3 rfl).call hb)).range, (((hM6.get 2 rfl).call hb)).range, (((hM6.get 1 rfl).call hb)).range, (((hM6.get 0 rfl).call hb)).range⟩
 have hent1 : ∀ args w, (callFunc 84 args).run Tryd.prog w = .ok (.enter 84 args) w := enters_of Tryd.func84 (by kernel_rfl) rfl
 have hent2 : ∀ args w, (callFunc 85 args).run Tryd.prog w = .ok (.enter 85 args) w := enters_of Tryd.func85 (by kernel_rfl) rfl
 have hent3 : ∀ args w, (callFunc 64 args).run Tryd.prog w = .ok (.enter 64 args) w := enters_of Tryd.func64 (by kernel_rfl) rfl
 have hu := Tryd.underlying124
 have hi2 : (Tryd.prog.info? 124).map (·.size) = some 2 := info_wide
 refine beginT (fun wx => wx.rangeAt g0 0 [.int .u64 (c0 : Int), .int .u64 (d0 : Int)] ∧ wx.rangeAt g1 0 [.int .u64 (c1 : Int), .int .u64 (d1 : Int)] ∧ wx.rangeAt g2 0 [.int .u64 (c2 : Int), .int .u64 (d2 : Int)] ∧ wx.rangeAt g3 0 [.int .u64 (c3 : Int), .int .u64 (d3 : Int)] ∧ wx.rangeAt g4 0 [.int .u64 (c4 : Int), .int .u64 (d4 : Int)]) 28 (by kernel_rfl) ?_
 have hS := hkeep _ (c_drew (c_refl _))
 refine ldQ 0 (some 146) 124 (.tmp 9) g0 0 [.int .u64 (c0 : Int), .int .u64 (d0 : Int)] (fun wx hSw => hSw.1) hu hi2 (fun _ _ _ h => h) hS ?_
 simp only [Act.put, sA, sZ, sS]
 refine ldQ 2 (some 148) 124 (.tmp 13) g4 0 [.int .u64 (c4 : Int), .int .u64 (d4 : Int)] (fun wx hSw => hSw.2.2.2.2) hu hi2 (fun _ _ _ h => h) hS ?_
 simp only [Act.put, sA, sZ, sS]
 refine ldQ 6 (some 152) 124 (.tmp 10) g1 0 [.int .u64 (c1 : Int), .int .u64 (d1 : Int)] (fun wx hSw => hSw.2.1) hu hi2 (fun _ _ _ h => h) hS ?_
 simp only [Act.put, sA, sZ, sS]
 refine ldQ 8 (some 154) 124 (.tmp 9) g0 0 [.int .u64 (c0 : Int), .int .u64 (d0 : Int)] (fun wx hSw => hSw.1) hu hi2 (fun _ _ _ h => h) hS ?_
 simp only [Act.put, sA, sZ, sS]
 refine ldQ 11 (some 157) 124 (.tmp 11) g2 0 [.int .u64 (c2 : Int), .int .u64 (d2 : Int)] (fun wx hSw => hSw.2.2.1) hu hi2 (fun _ _ _ h => h) hS ?_
 simp only [Act.put, sA, sZ, sS]
 refine ldQ 13 (some 159) 124 (.tmp 10) g1 0 [.int .u64 (c1 : Int), .int .u64 (d1 : Int)] (fun wx hSw => hSw.2.1) hu hi2 (fun _ _ _ h => h) hS ?_
 simp only [Act.put, sA, sZ, sS]
 refine ldQ 16 (some 162) 124 (.tmp 12) g3 0 [.int .u64 (c3 : Int), .int .u64 (d3 : Int)] (fun wx hSw => hSw.2.2.2.1) hu hi2 (fun _ _ _ h => h) hS ?_
 simp only [Act.put, sA, sZ, sS]
 refine ldQ 18 (some 164) 124 (.tmp 11) g2 0 [.int .u64 (c2 : Int), .int .u64 (d2 : Int)] (fun wx hSw => hSw.2.2.1) hu hi2 (fun _ _ _ h => h) hS ?_
 simp only [Act.put, sA, sZ, sS]
 refine ldQ 21 (some 167) 124 (.tmp 13) g4 0 [.int .u64 (c4 : Int), .int .u64 (d4 : Int)] (fun wx hSw => hSw.2.2.2.2) hu hi2 (fun _ _ _ h => h) hS ?_
 simp only [Act.put, sA, sZ, sS]
 refine ldQ 23 (some 169) 124 (.tmp 12) g3 0 [.int .u64 (c3 : Int), .int .u64 (d3 : Int)] (fun wx hSw => hSw.2.2.2.1) hu hi2 (fun _ _ _ h => h) hS ?_
 simp only [Act.put, sA, sZ, sS]
 refine on1 1 fun K hK => ?_
 refine step_callF (by rfl) (some 147) rfl 84 _ _ rfl [.agg #[.int .u64 (c0 : Int), .int .u64 (d0 : Int)]] rfl hent1 _ (kk0 _) ?_
 rintro e wm1 ⟨rfl, hb1⟩
 refine ⟨_, rfl, ?_⟩
 simp only [Act.put, sA, sZ, sS]
 refine kp hK hkeep ?_
 clear hK K
 have hS1 := hkeep wm1 bl
 refine on1 3 fun K hK => ?_
 refine step_callF (by rfl) (some 149) rfl 85 _ _ rfl [.agg #[.int .u64 (c4 : Int), .int .u64 (d4 : Int)]] rfl hent2 _ (ko4 _) ?_
 rintro e wm2 ⟨rfl, hb2⟩
 refine ⟨_, rfl, ?_⟩
 simp only [Act.put, sA, sZ, sS]
 refine kp hK hkeep ?_
 clear hK K
 have hS2 := hkeep wm2 bl
 refine tk 4 (some 150) (.int .u64 (m4 : Int)) (fun _ _ _ h => h) hS2 ?_
 simp only [Act.put, sA, sZ, sS]
 refine tk 5 (some 151) (.int .u64 (r0 : Int)) (fun _ _ _ h => h) hS2 ?_
 simp only [Act.put, sA, sZ, sS]
 refine on1 7 fun K hK => ?_
 refine step_callF (by rfl) (some 153) rfl 84 _ _ rfl [.agg #[.int .u64 (c1 : Int), .int .u64 (d1 : Int)]] rfl hent1 _ (kk1 _) ?_
 rintro e wm3 ⟨rfl, hb3⟩
 refine ⟨_, rfl, ?_⟩
 simp only [Act.put, sA, sZ, sS]
 refine kp hK hkeep ?_
 clear hK K
 have hS3 := hkeep wm3 bl
 refine on1 9 fun K hK => ?_
 refine step_callF (by rfl) (some 155) rfl 85 _ _ rfl [.agg #[.int .u64 (c0 : Int), .int .u64 (d0 : Int)]] rfl hent2 _ (ko0 _) ?_
 rintro e wm4 ⟨rfl, hb4⟩
 refine ⟨_, rfl, ?_⟩
 simp only [Act.put, sA, sZ, sS]
 refine kp hK hkeep ?_
 clear hK K
 have hS4 := hkeep wm4 bl
 refine tk 10 (some 156) (.int .u64 (r1 : Int)) (fun _ _ _ h => h) hS4 ?_
 simp only [Act.put, sA, sZ, sS]
 refine on1 12 fun K hK => ?_
 refine step_callF (by rfl) (some 158) rfl 84 _ _ rfl [.agg #[.int .u64 (c2 : Int), .int .u64 (d2 : Int)]] rfl hent1 _ (kk2 _) ?_
 rintro e wm5 ⟨rfl, hb5⟩
 refine ⟨_, rfl, ?_⟩
 simp only [Act.put, sA, sZ, sS]
 refine kp hK hkeep ?_
 clear hK K
 have hS5 := hkeep wm5 bl
 refine on1 14 fun K hK => ?_
 refine step_callF (by rfl) (some 160) rfl 85 _ _ rfl [.agg #[.int .u64 (c1 : Int), .int .u64 (d1 : Int)]] rfl hent2 _ (ko1 _) ?_
 rintro e wm6 ⟨rfl, hb6⟩
 refine ⟨_, rfl, ?_⟩
 simp only [Act.put, sA, sZ, sS]
 refine kp hK hkeep ?_
 clear hK K
 have hS6 := hkeep wm6 bl
 refine tk 15 (some 161) (.int .u64 (r2 : Int)) (fun _ _ _ h => h) hS6 ?_
 simp only [Act.put, sA, sZ, sS]
 refine on1 17 fun K hK => ?_
 refine step_callF (by rfl) (some 163) rfl 84 _ _ rfl [.agg #[.int .u64 (c3 : Int), .int .u64 (d3 : Int)]] rfl hent1 _ (kk3 _) ?_
 rintro e wm7 ⟨rfl, hb7⟩
 refine ⟨_, rfl, ?_⟩
 simp only [Act.put, sA, sZ, sS]
 refine kp hK hkeep ?_
 clear hK K
 have hS7 := hkeep wm7 bl
 refine on1 19 fun K hK => ?_
 refine step_callF (by rfl) (some 165) rfl 85 _ _ rfl [.agg #[.int .u64 (c2 : Int), .int .u64 (d2 : Int)]] rfl hent2 _ (ko2 _) ?_
 rintro e wm8 ⟨rfl, hb8⟩
 refine ⟨_, rfl, ?_⟩
 simp only [Act.put, sA, sZ, sS]
 refine kp hK hkeep ?_
 clear hK K
 have hS8 := hkeep wm8 bl
 refine tk 20 (some 166) (.int .u64 (r3 : Int)) (fun _ _ _ h => h) hS8 ?_
 simp only [Act.put, sA, sZ, sS]
 refine on1 22 fun K hK => ?_
 refine step_callF (by rfl) (some 168) rfl 84 _ _ rfl [.agg #[.int .u64 (c4 : Int), .int .u64 (d4 : Int)]] rfl hent1 _ (kk4 _) ?_
 rintro e wm9 ⟨rfl, hb9⟩
 refine ⟨_, rfl, ?_⟩
 simp only [Act.put, sA, sZ, sS]
 refine kp hK hkeep ?_
 clear hK K
 have hS9 := hkeep wm9 bl
 refine on1 24 fun K hK => ?_
 refine step_callF (by rfl) (some 170) rfl 85 _ _ rfl [.agg #[.int .u64 (c3 : Int), .int .u64 (d3 : Int)]] rfl hent2 _ (ko3 _) ?_
 rintro e wm10 ⟨rfl, hb10⟩
 refine ⟨_, rfl, ?_⟩
 simp only [Act.put, sA, sZ, sS]
 refine kp hK hkeep ?_
 clear hK K
 have hS10 := hkeep wm10 bl
 refine tk 25 (some 171) (.int .u64 (r4 : Int)) (fun _ _ _ h => h) hS10 ?_
 simp only [Act.put, sA, sZ, sS]
 refine tk 26 (some 172) (.agg #[.int .u64 (r0 : Int), .int .u64 (r1 : Int), .int .u64 (r2 : Int), .int .u64 (r3 : Int), .int .u64 (r4 : Int)]) (fun _ _ _ h => h) hS10 ?_
 simp only [Act.put, sA, sZ, sS]
 refine on1 27 fun K hK => ?_
 refine step_callF (by rfl) (some 173) rfl 64 _ _ rfl [.agg #[.int .u64 (r0 : Int), .int .u64 (r1 : Int), .int .u64 (r2 : Int), .int .u64 (r3 : Int), .int .u64 (r4 : Int)]] rfl hent3 _ (hc _) ?_
 rintro e wm11 ⟨rfl, hb11⟩
 refine ⟨_, rfl, ?_⟩
 simp only [Act.put, sA, sZ, sS]
 refine kp hK hkeep ?_
 clear hK K
 have hS11 := hkeep wm11 bl
 have hE : Below v6.heap.size v6 wm11 := bl
 have hrow := (hM6.get 5 rfl).call hE
 have hlt : w.heap.size ≤ w.heap.size + 1 + 1 := by omega
 have hold := hM6.old.trans (hE.mono hM6.old.size)
 refine on1 28 fun K hK => ?_
 refine step_store_row rfl 50 (.tmp 4) (.tmp 173) rfl (w.heap.size + 1 + 1) (feC ans) rfl rfl 50 #[.int .u64 0, .int .u64 0, .int .u64 0, .int .u64 0, .int .u64 0] hrow (sizeFe ans) rfl (one_fe ans) ?_
 refine hK.out _ _ (fun h => absurd rfl h) ?_
 clear hK K
 refine doneT (by kernel_rfl) ?_ _
 go_wp2_with fail
 exact bodyPost_ret (results_cell_one rfl _ _ (w.heap.size + 1 + 1) 50 (feC ans) _ rfl (hrow.row (feC ans)) Tryd.underlying50 rfl (sizeFe ans)) rfl ⟨by rw [Hfa.out], below_setRow hold hlt _⟩
def prt (c : Fe5) (k : Nat) : Nat := [c.a0, c.a1, c.a2, c.a3, c.a4].getD k 0
def ovR (c : Fe5) (r : Nat) : Nat → Nat
 | 0 => r
 | n + 1 => (prt c n + ovR c r n) / 2251799813685248
theorem prt_at (c : Fe5) {k : Nat} (hk : k < 5) : ([c.a0, c.a1, c.a2, c.a3, c.a4] : List Nat)[k]? = some (prt c k) := by
 have h : k = 0 ∨ k = 1 ∨ k = 2 ∨ k = 3 ∨ k = 4 := by omega
 rcases h with rfl | rfl | rfl | rfl | rfl <;> rfl
theorem prt_lt {c : Fe5} (h : MayF c) (k : Nat) : prt c k < 4503599627370496 := by
 obtain ⟨h0, h1, h2, h3, h4⟩ := h
 by_cases hk : k < 5
 ·
  have h : k = 0 ∨ k = 1 ∨ k = 2 ∨ k = 3 ∨ k = 4 := by omega
  rcases h with rfl | rfl | rfl | rfl | rfl <;> assumption
 ·
  unfold prt
  rw [List.getD_eq_getElem?_getD, List.getElem?_eq_none (by simp; omega)]
  simp
theorem ovR_le {c : Fe5} (h : MayF c) {r : Nat} (hr : r ≤ 361) : ∀ n, ovR c r n ≤ 361
 | 0 => hr
 | n + 1 => by
  have h1 := ovR_le h hr n
  have h2 := prt_lt h n
  rw [ovR]
  omega
theorem ovR5_le {c : Fe5} (h : MayF c) {r : Nat} (hr : r ≤ 361) : ovR c r 5 ≤ 19 := by
 have h1 := ovR_le h hr 4
 have h2 := prt_lt h 4
 rw [ovR]
 omega
theorem feC_q (c : Fe5) : feC c = qC [c.a0, c.a1, c.a2, c.a3, c.a4] := by simp [feC, qC, qv]
def addR (c : Fe5) (r : Nat) : Fe5 :=
  ⟨(c.a0 + r) % 2251799813685248, (c.a1 + (c.a0 + r) / 2251799813685248) % 2251799813685248, (c.a2 + (c.a1 + (c.a0 + r) / 2251799813685248) / 2251799813685248) % 2251799813685248,
   (c.a3 + (c.a2 + (c.a1 + (c.a0 + r) / 2251799813685248) / 2251799813685248) / 2251799813685248) % 2251799813685248,
   (c.a4 + (c.a3 + (c.a2 + (c.a1 + (c.a0 + r) / 2251799813685248) / 2251799813685248) / 2251799813685248) / 2251799813685248) % 2251799813685248⟩
theorem parts_of {q0 q1 q2 q3 q4 : Nat} (h0 : q0 < 2251799813685248) (h1 : q1 < 2251799813685248) (h2 : q2 < 2251799813685248) (h3 : q3 < 2251799813685248) (h4 : q4 < 2251799813685248) :
  partsU (valF ⟨q0, q1, q2, q3, q4⟩) = ⟨q0, q1, q2, q3, q4⟩ := by
 simp only [partsU, valF, Fe5.mk.injEq]
 refine ⟨by omega, by omega, by omega, by omega, by omega⟩
theorem least_gen {c0 c1 c2 c3 c4 o1 o2 o3 o4 o5 t0 t1 t2 t3 t4 q0 q1 q2 q3 q4 V : Nat} (hV : V = valF ⟨c0, c1, c2, c3, c4⟩) (hlt : V < 2 * P25)
  (e1 : o1 = (c0 + 19) / 2251799813685248) (e2 : o2 = (c1 + o1) / 2251799813685248) (e3 : o3 = (c2 + o2) / 2251799813685248) (e4 : o4 = (c3 + o3) / 2251799813685248) (e5 : o5 = (c4 + o4) / 2251799813685248)
  (s0 : t0 = c0 + 19 * o5) (s1 : t1 = c1 + t0 / 2251799813685248) (s2 : t2 = c2 + t1 / 2251799813685248) (s3 : t3 = c3 + t2 / 2251799813685248) (s4 : t4 = c4 + t3 / 2251799813685248)
  (r0 : q0 = t0 % 2251799813685248) (r1 : q1 = t1 % 2251799813685248) (r2 : q2 = t2 % 2251799813685248) (r3 : q3 = t3 % 2251799813685248) (r4 : q4 = t4 % 2251799813685248) :
  valF ⟨q0, q1, q2, q3, q4⟩ = V % P25 := by
 simp only [valF, P25] at *
 have k5 : o5 = (V + 19) / 57896044618658097711785492504343953926634992332820282019728792003956564819968 := by omega
 have k6 : q0 + 2251799813685248 * (q1 + 2251799813685248 * (q2 + 2251799813685248 * (q3 + 2251799813685248 * q4))) = (V + 19 * o5) % 57896044618658097711785492504343953926634992332820282019728792003956564819968 := by omega
 rw [k6]
 clear k6 r0 r1 r2 r3 r4 s0 s1 s2 s3 s4 e1 e2 e3 e4 e5 hV
 by_cases hv : V < 57896044618658097711785492504343953926634992332820282019728792003956564819949
 ·
  have h0 : o5 = 0 := by omega
  rw [h0, Nat.mul_zero, Nat.add_zero, Nat.mod_eq_of_lt hv, Nat.mod_eq_of_lt (by omega)]
 ·
  have h1 : o5 = 1 := by omega
  rw [h1, Nat.mul_one, Nat.mod_eq_sub_mod (show 57896044618658097711785492504343953926634992332820282019728792003956564819949 ≤ V by omega), Nat.mod_eq_sub_mod (show 57896044618658097711785492504343953926634992332820282019728792003956564819968 ≤ V + 19 by omega),
   Nat.mod_eq_of_lt (show V + 19 - 57896044618658097711785492504343953926634992332820282019728792003956564819968 < _ by omega), Nat.mod_eq_of_lt (show V - 57896044618658097711785492504343953926634992332820282019728792003956564819949 < _ by omega)]
  omega
theorem carU_low {f : Fe5} (h : MayF f) : valF (carU f) < 2 * P25 := by
 obtain ⟨x0, x1, x2, x3, x4⟩ := f
 obtain ⟨h0, h1, h2, h3, h4⟩ := h
 simp only [valF, carU, P25] at *
 omega
theorem least_eq {f : Fe5} (h : MayF f) : addR (carU f) (19 * ovR (carU f) 19 5) = leastU f := by
 have hl := carU_low h
 rw [leastU, ← carU_val]
 generalize carU f = c at *
 obtain ⟨c0, c1, c2, c3, c4⟩ := c
 have g := least_gen (V := valF ⟨c0, c1, c2, c3, c4⟩) rfl hl rfl rfl rfl rfl rfl rfl rfl rfl rfl rfl rfl rfl rfl rfl rfl
 rw [← g, parts_of (Nat.mod_lt _ (by omega)) (Nat.mod_lt _ (by omega)) (Nat.mod_lt _ (by omega)) (Nat.mod_lt _ (by omega)) (Nat.mod_lt _ (by omega))]
 rfl
def addP (c : Fe5) (r k : Nat) : Nat := (prt c k + ovR c r k) % 2251799813685248
theorem addR_all (c : Fe5) (r : Nat) : uptoN (addP c r) (prt c) 5 5 = [(addR c r).a0, (addR c r).a1, (addR c r).a2, (addR c r).a3, (addR c r).a4] := rfl
theorem addR_none (c : Fe5) (r : Nat) : uptoN (addP c r) (prt c) 5 0 = [c.a0, c.a1, c.a2, c.a3, c.a4] := rfl
theorem quad_plain : Tryd.prog.plainKey 48 = true := by kernel_rfl
theorem quadCells : Tryd.prog.cellsOf 48 = 1 := by kernel_rfl
theorem quad_info : ∃ i, Tryd.prog.info? 48 = some i := by
 have h : (Tryd.prog.info? 48).isSome = true := by kernel_rfl
 exact Option.isSome_iff_exists.1 h
set_option maxRecDepth 100000 in
set_option maxHeartbeats 4000000 in
theorem least_any (f : Fe5) (w : World) (hf : MayF f) :
  Calls Tryd.prog 68 #[.agg (feC f)] w fun e w' => e = .returned (.agg (feC (leastU f))) ∧ Below w.heap.size w w' := by
 have hm := carU_may hf.word
 have Hans := Lib.hid (least_eq hf)
 have hcar := fun wx => carried_any f wx hf.word
 have hs0 := sizeFe f
 have hs1 := sizeFe (carU f)
 have ho1 := one_fe (carU f)
 generalize hans : leastU f = ans at *
 generalize hfa : feC ans = fa at *
 have Hfa := Lib.hid hfa
 clear hans hfa hf
 generalize feC f = fc at *
 generalize hc : carU f = c at *
 clear hc
 go_enter Tryd.func68, Tryd.ntmps68
 go_wp2_with ((with_reducible refine tdQ 8 ?_); refine wpList_loadC (by rfl) 50 (.tmp 1) rfl w.heap.size rfl 50 fc _ ((RowC.new _ _ _).alloc _) Tryd.underlying50 rfl hs0 ?_)
 have hM0 := ((Ms.nil w).box 50 fc).box 50 #[.int .u64 0, .int .u64 0, .int .u64 0, .int .u64 0, .int .u64 0]
 simp only [World.size_alloc] at hM0
 refine (hcar _).mono ?_
 rintro e w2 ⟨rfl, hb2⟩
 have hM2 := hM0.call hb2
 clear hM0 hb2 hcar
 have hsz : fc.size = (feC c).size := by rw [hs0] at hs1; exact Option.some.inj hs1
 have hM3 : Ms w (w2.setRow w.heap.size (feC c)) [(w.heap.size + 1, 50, #[.int .u64 0, .int .u64 0, .int .u64 0, .int .u64 0, .int .u64 0]), (w.heap.size, 50, feC c)] :=
  ⟨below_setRow hM2.old (Nat.le_refl _) _, fun p hp => by
   simp only [List.mem_cons, List.not_mem_nil, or_false] at hp
   rcases hp with rfl | rfl
   ·
    exact (hM2.get 0 rfl).rowFar (by simp) _
   ·
    exact (hM2.get 1 rfl).row _⟩
 have hld := hM3.get 1 rfl
 go_wp2_with (first
  | ((with_reducible refine tsQ 50 ?_); refine srQ 50 (.tmp 1) (.tmp 9) w.heap.size (feC c) fc (hM2.get 1 rfl) hs1 hsz ho1 ?_)
  | ((with_reducible refine tdQ 10 ?_); refine wpList_loadC (by rfl) 50 (.tmp 1) rfl w.heap.size rfl 50 _ _ hld Tryd.underlying50 rfl hs1 ?_))
 clear hM2 hs0 hs1 ho1 hsz hld
 generalize w2.setRow w.heap.size (feC c) = w3 at *
 have hi5 := fun k (hk : k < 5) => qC_at (prt_at c hk)
 rw [feC_q] at hM3 ⊢
 rw [← addR_none c (19 * ovR c 19 5)] at hM3
 have hcq := Lib.hid (show qC [c.a0, c.a1, c.a2, c.a3, c.a4] = qC (uptoN (addP c (19 * ovR c 19 5)) (prt c) 5 0) from rfl)
 generalize qC [c.a0, c.a1, c.a2, c.a3, c.a4] = cc at *
 obtain ⟨i0, hi0⟩ := quad_info
 go_loopw [3, 11] (fun o i wr => ∃ n : Nat, n ≤ 5 ∧ i = .int .i64 (n : Int) ∧ o = .int .u64 ((ovR c 19 n : Nat) : Int) ∧ w3 = wr) (fun _ i _ => (5 - intOf i).toNat)
 case atStart => exact ⟨0, by omega, rfl, rfl, rfl⟩
 case round =>
  obtain ⟨n, hn, rfl, rfl, rfl⟩ := hrel
  by_cases hlt : n < 5
  ·
   have hix := hi5 n hlt
   have h1 := prt_lt hm n
   have h2 := ovR_le hm (r := 19) (by omega) n
   have hw : IntKind.u64.wrap ((prt c n : Int) + (ovR c 19 n : Int)) = ((prt c n + ovR c 19 n : Nat) : Int) := wrap_nat (by omega) (by omega)
   have hs : ((ovR c 19 (n + 1) : Nat) : Int) = ((prt c n + ovR c 19 n : Nat) : Int) / 2251799813685248 := by rw [ovR]; omega
   have Hs := Lib.hid hs
   clear hs h1 h2 hi5
   generalize prt c n + ovR c 19 n = s at *
   generalize ovR c 19 n = o at *
   generalize prt c n = x at *
   have j0 : 0 ≤ (n : Int) := by omega
   have j1 : (n : Int) < 5 := by omega
   go_wp2_with ((with_reducible refine tdQ 13 ?_); refine wpList_index_cell rfl (some 13) rfl 50 (.tmp 10) (.tmp 11) rfl cc rfl n rfl 5 48 Tryd.underlying50 quad_plain i0 hi0 quadCells _ hix hlt ?_)
   exact ⟨⟨n + 1, by omega, by go_num, by rw [Hs.out], trivial⟩, by simp [intOf]; omega⟩
  ·
   obtain rfl : n = 5 := by omega
   rw [show ((5 : Nat) : Int) = 5 from rfl]
   have hR := ovR5_le hm (r := 19) (by omega)
   have hw : IntKind.u64.wrap ((ovR c 19 5 : Int) * 19) = ((19 * ovR c 19 5 : Nat) : Int) := wrap_nat (by omega) (by omega)
   have hR2 : 19 * ovR c 19 5 ≤ 361 := by omega
   have hans := Hans.out
   clear hR Hans
   generalize 19 * ovR c 19 5 = R at *
   generalize ovR c 19 5 = o5 at *
   have hld := hM3.get 1 rfl
   have hs21 : (Tryd.prog.info? 50).map (·.size) = some (qC (uptoN (addP c R) (prt c) 5 0)).size := by rw [qC_size, uptoN_len]; exact infoFe
   rw [← hcq.out] at hld hs21
   go_wp2_with ((with_reducible refine tdQ 21 ?_); refine wpList_loadC (by rfl) 50 (.tmp 1) rfl w.heap.size rfl 50 cc _ hld Tryd.underlying50 rfl hs21 ?_)
   clear hld hs21 hw hcq
   go_loopw [3, 22] (fun o i wr => ∃ n : Nat, n ≤ 5 ∧ i = .int .i64 (n : Int) ∧ o = .int .u64 ((ovR c R n : Nat) : Int) ∧ Ms w wr [(w.heap.size + 1, 50, #[.int .u64 0, .int .u64 0, .int .u64 0, .int .u64 0, .int .u64 0]), (w.heap.size, 50, qC (uptoN (addP c R) (prt c) 5 n))]) (fun _ i _ => (5 - intOf i).toNat)
   case atStart => exact ⟨0, by omega, rfl, rfl, hM3⟩
   case round =>
    obtain ⟨n, hn, rfl, rfl, hM⟩ := hrel
    by_cases hlt : n < 5
    ·
     have hix := hi5 n hlt
     have h1 := prt_lt hm n
     have h2 := ovR_le hm hR2 n
     have hw : IntKind.u64.wrap ((prt c n : Int) + (ovR c R n : Int)) = ((prt c n + ovR c R n : Nat) : Int) := wrap_nat (by omega) (by omega)
     have hk := mask51 (x := prt c n + ovR c R n) (by omega)
     have hs : ((ovR c R (n + 1) : Nat) : Int) = ((prt c n + ovR c R n : Nat) : Int) / 2251799813685248 := by rw [ovR]; omega
     have Hs := Lib.hid hs
     have hg1 := hM.get 1 rfl
     have hce := hg1.cell (qC_at (uptoN_old (addP c R) (prt c) hlt (Nat.le_refl n)))
     have hfr := hg1.frozen n
     have hset : ∀ wx, Ms w wx [(w.heap.size + 1, 50, #[.int .u64 0, .int .u64 0, .int .u64 0, .int .u64 0, .int .u64 0]), (w.heap.size, 50, qC (uptoN (addP c R) (prt c) 5 n))] →
       Ms w (wx.setCell ⟨w.heap.size, n, none⟩ (.int .u64 ((addP c R n : Nat) : Int))) [(w.heap.size + 1, 50, #[.int .u64 0, .int .u64 0, .int .u64 0, .int .u64 0, .int .u64 0]), (w.heap.size, 50, qC (uptoN (addP c R) (prt c) 5 (n + 1)))] := fun wx hx =>
      ⟨hx.old.setCell (Nat.le_refl _) _, fun p hp => by
       simp only [List.mem_cons, List.not_mem_nil, or_false] at hp
       rcases hp with rfl | rfl
       ·
        exact (hx.get 0 rfl).far (by simp) _
       ·
        have := (hx.get 1 rfl).setN n (addP c R n)
        rwa [← uptoN_succ] at this⟩
     have hm4 := hset _ hM
     rw [addP] at hm4
     clear hs h1 h2 hi5 hset hg1 hM hM3 hans
     generalize (prt c n + ovR c R n) % 2251799813685248 = q at *
     generalize prt c n + ovR c R n = s at *
     generalize ovR c R n = o at *
     generalize prt c n = x at *
     have j0 : 0 ≤ (n : Int) := by omega
     have j1 : (n : Int) < 5 := by omega
     go_wp2_with ((with_reducible refine tdQ 25 ?_); refine wpList_index_cell rfl (some 25) rfl 50 (.tmp 21) (.tmp 22) rfl cc rfl n rfl 5 48 Tryd.underlying50 quad_plain i0 hi0 quadCells _ hix hlt ?_)
     exact ⟨⟨n + 1, by omega, by go_num, by rw [Hs.out], hm4⟩, by simp [intOf]; omega⟩
    ·
     obtain rfl : n = 5 := by omega
     rw [show ((5 : Nat) : Int) = 5 from rfl]
     rw [addR_all, hans, ← feC_q, Hfa.out] at hM
     have hs36 : (Tryd.prog.info? 50).map (·.size) = some fa.size := by rw [← Hfa.out]; exact sizeFe ans
     have ho36 : fa.all (·.oneCell') = true := by rw [← Hfa.out]; exact one_fe ans
     have hs5 : 5 = fa.size := by rw [← Hfa.out]; rfl
     clear hans hi5 hM3
     go_wp2_with (first
      | ((with_reducible refine tdQ 36 ?_); refine wpList_loadC (by rfl) 50 (.tmp 1) rfl w.heap.size rfl 50 fa _ (hM.get 1 rfl) Tryd.underlying50 rfl hs36 ?_)
      | ((with_reducible refine tsQ 50 ?_); refine srQ 50 (.tmp 2) (.tmp 36) (w.heap.size + 1) fa _ (hM.get 0 rfl) hs36 hs5 ho36 ?_))
     exact bodyPost_ret (results_cell_one rfl _ _ (w.heap.size + 1) 50 fa _ rfl ((hM.get 0 rfl).row fa) Tryd.underlying50 rfl hs36) rfl ⟨rfl, below_setRow hM.old (by omega) _⟩
def zeroF : Fe5 := ⟨0, 0, 0, 0, 0⟩
theorem zeroF_may : MayF zeroF := by decide
theorem mayB_true {f : Fe5} (h : MayF f) : mayB f = true := decide_eq_true h
set_option maxHeartbeats 1000000 in
set_option maxRecDepth 100000 in
theorem Add_ok (a b : Fe5) (w : World) (ha : MayF a) (hb : MayF b) :
  Calls Tryd.prog 42 #[.agg (feC a), .agg (feC b)] w fun e w' => e = .returned (.tuple #[.agg (feC (addQ a b)), .int .i64 0]) ∧ Below w.heap.size w w' := by
 have hM0 := (((Ms.nil w).box 50 (feC a)).box 50 (feC b)).box 50 #[.int .u64 0, .int .u64 0, .int .u64 0, .int .u64 0, .int .u64 0]
 simp only [World.size_alloc] at hM0
 have hs0 := Lib.hid (sizeFe a)
 have hs1 := Lib.hid (sizeFe b)
 have hma := fun wx => mayBe_any a wx ha.word
 rw [mayB_true ha] at hma
 have hmb := fun wx => mayBe_any b wx hb.word
 rw [mayB_true hb] at hmb
 have hz := Lib.hid (sizeFe (addQ a b))
 have hzz := Lib.hid (show (#[.int .u64 0, .int .u64 0, .int .u64 0, .int .u64 0, .int .u64 0] : Array Value).size = (feC (addQ a b)).size from rfl)
 have hzo := Lib.hid (one_fe (addQ a b))
 have hp := fun wx => carried_any (addS a b) wx (addS_word ha hb)
 rw [show carU (addS a b) = addQ a b from rfl] at hp
 generalize feC (addQ a b) = fa at *
 obtain ⟨x0, x1, x2, x3, x4⟩ := a
 obtain ⟨y0, y1, y2, y3, y4⟩ := b
 obtain ⟨h0, h1, h2, h3, h4⟩ := ha
 obtain ⟨k0, k1, k2, k3, k4⟩ := hb
 simp only at h0 h1 h2 h3 h4 k0 k1 k2 k3 k4
 simp only [feC, addS] at *
 have e0 : IntKind.u64.wrap ((x0 : Int) + (y0 : Int)) = ((x0 + y0 : Nat) : Int) := wrap_nat (by omega) (by omega)
 have e1 : IntKind.u64.wrap ((x1 : Int) + (y1 : Int)) = ((x1 + y1 : Nat) : Int) := wrap_nat (by omega) (by omega)
 have e2 : IntKind.u64.wrap ((x2 : Int) + (y2 : Int)) = ((x2 + y2 : Nat) : Int) := wrap_nat (by omega) (by omega)
 have e3 : IntKind.u64.wrap ((x3 : Int) + (y3 : Int)) = ((x3 + y3 : Nat) : Int) := wrap_nat (by omega) (by omega)
 have e4 : IntKind.u64.wrap ((x4 : Int) + (y4 : Int)) = ((x4 + y4 : Nat) : Int) := wrap_nat (by omega) (by omega)
 clear h0 h1 h2 h3 h4 k0 k1 k2 k3 k4
 generalize x0 + y0 = s0 at *
 generalize x1 + y1 = s1 at *
 generalize x2 + y2 = s2 at *
 generalize x3 + y3 = s3 at *
 generalize x4 + y4 = s4 at *
 go_enter Tryd.func42, Tryd.ntmps42
 go_wp2_with ((with_reducible refine tdQ 6 ?_); refine lcQ 50 (.tmp 2) (w.heap.size) _ (hM0.get 2 rfl) Tryd.underlying50 hs0.out ?_)
 refine (hma _).mono ?_
 rintro e w1 ⟨rfl, hb1⟩
 have hM1 := hM0.call hb1
 go_wp2_with ((with_reducible refine tdQ 10 ?_); refine lcQ 50 (.tmp 3) (w.heap.size + 1) _ (hM1.get 1 rfl) Tryd.underlying50 hs1.out ?_)
 refine (hmb _).mono ?_
 rintro e w2 ⟨rfl, hb2⟩
 have hM2 := hM1.call hb2
 have cx0 := (hM2.get 2 rfl).cell (i := 0) rfl
 have cy0 := (hM2.get 1 rfl).cell (i := 0) rfl
 have cx1 := (hM2.get 2 rfl).cell (i := 1) rfl
 have cy1 := (hM2.get 1 rfl).cell (i := 1) rfl
 have cx2 := (hM2.get 2 rfl).cell (i := 2) rfl
 have cy2 := (hM2.get 1 rfl).cell (i := 2) rfl
 have cx3 := (hM2.get 2 rfl).cell (i := 3) rfl
 have cy3 := (hM2.get 1 rfl).cell (i := 3) rfl
 have cx4 := (hM2.get 2 rfl).cell (i := 4) rfl
 have cy4 := (hM2.get 1 rfl).cell (i := 4) rfl
 go_wp2_with fail
 refine (hp _).mono ?_
 rintro e w3 ⟨rfl, hb3⟩
 have hM3 := hM2.call hb3
 go_wp2_with ((with_reducible refine tsQ 50 ?_); refine srQ 50 (.tmp 4) (.tmp 41) (w.heap.size + 1 + 1) fa _ (hM3.get 0 rfl) hz.out hzz.out hzo.out ?_)
 exact bodyPost_ret (results_cell_two rfl _ _ (w.heap.size + 1 + 1) 50 fa _ rfl ((hM3.get 0 rfl).row fa) Tryd.underlying50 rfl hz.out) rfl ⟨rfl, below_setRow hM3.old (by omega) _⟩
set_option maxHeartbeats 1000000 in
set_option maxRecDepth 100000 in
theorem Sub_ok (a b : Fe5) (w : World) (ha : MayF a) (hb : MayF b) :
  Calls Tryd.prog 43 #[.agg (feC a), .agg (feC b)] w fun e w' => e = .returned (.tuple #[.agg (feC (subQ a b)), .int .i64 0]) ∧ Below w.heap.size w w' := by
 have hM0 := (((Ms.nil w).box 50 (feC a)).box 50 (feC b)).box 50 #[.int .u64 0, .int .u64 0, .int .u64 0, .int .u64 0, .int .u64 0]
 simp only [World.size_alloc] at hM0
 have hs0 := Lib.hid (sizeFe a)
 have hs1 := Lib.hid (sizeFe b)
 have hma := fun wx => mayBe_any a wx ha.word
 rw [mayB_true ha] at hma
 have hmb := fun wx => mayBe_any b wx hb.word
 rw [mayB_true hb] at hmb
 have hz := Lib.hid (sizeFe (subQ a b))
 have hzz := Lib.hid (show (#[.int .u64 0, .int .u64 0, .int .u64 0, .int .u64 0, .int .u64 0] : Array Value).size = (feC (subQ a b)).size from rfl)
 have hzo := Lib.hid (one_fe (subQ a b))
 have hp := fun wx => carried_any (subS a b) wx (subS_word ha hb)
 rw [show carU (subS a b) = subQ a b from rfl] at hp
 generalize feC (subQ a b) = fa at *
 obtain ⟨x0, x1, x2, x3, x4⟩ := a
 obtain ⟨y0, y1, y2, y3, y4⟩ := b
 obtain ⟨h0, h1, h2, h3, h4⟩ := ha
 obtain ⟨k0, k1, k2, k3, k4⟩ := hb
 simp only at h0 h1 h2 h3 h4 k0 k1 k2 k3 k4
 simp only [feC, subS] at *
 have d0 : IntKind.u64.wrap (9007199254740916 - (y0 : Int)) = ((9007199254740916 - y0 : Nat) : Int) := wrap_nat (by omega) (by omega)
 have e0 : IntKind.u64.wrap ((x0 : Int) + ((9007199254740916 - y0 : Nat) : Int)) = ((x0 + (9007199254740916 - y0) : Nat) : Int) := wrap_nat (by omega) (by omega)
 have d1 : IntKind.u64.wrap (9007199254740988 - (y1 : Int)) = ((9007199254740988 - y1 : Nat) : Int) := wrap_nat (by omega) (by omega)
 have e1 : IntKind.u64.wrap ((x1 : Int) + ((9007199254740988 - y1 : Nat) : Int)) = ((x1 + (9007199254740988 - y1) : Nat) : Int) := wrap_nat (by omega) (by omega)
 have d2 : IntKind.u64.wrap (9007199254740988 - (y2 : Int)) = ((9007199254740988 - y2 : Nat) : Int) := wrap_nat (by omega) (by omega)
 have e2 : IntKind.u64.wrap ((x2 : Int) + ((9007199254740988 - y2 : Nat) : Int)) = ((x2 + (9007199254740988 - y2) : Nat) : Int) := wrap_nat (by omega) (by omega)
 have d3 : IntKind.u64.wrap (9007199254740988 - (y3 : Int)) = ((9007199254740988 - y3 : Nat) : Int) := wrap_nat (by omega) (by omega)
 have e3 : IntKind.u64.wrap ((x3 : Int) + ((9007199254740988 - y3 : Nat) : Int)) = ((x3 + (9007199254740988 - y3) : Nat) : Int) := wrap_nat (by omega) (by omega)
 have d4 : IntKind.u64.wrap (9007199254740988 - (y4 : Int)) = ((9007199254740988 - y4 : Nat) : Int) := wrap_nat (by omega) (by omega)
 have e4 : IntKind.u64.wrap ((x4 : Int) + ((9007199254740988 - y4 : Nat) : Int)) = ((x4 + (9007199254740988 - y4) : Nat) : Int) := wrap_nat (by omega) (by omega)
 clear h0 h1 h2 h3 h4 k0 k1 k2 k3 k4
 generalize x0 + (9007199254740916 - y0) = s0 at *
 generalize 9007199254740916 - y0 = t0 at *
 generalize x1 + (9007199254740988 - y1) = s1 at *
 generalize 9007199254740988 - y1 = t1 at *
 generalize x2 + (9007199254740988 - y2) = s2 at *
 generalize 9007199254740988 - y2 = t2 at *
 generalize x3 + (9007199254740988 - y3) = s3 at *
 generalize 9007199254740988 - y3 = t3 at *
 generalize x4 + (9007199254740988 - y4) = s4 at *
 generalize 9007199254740988 - y4 = t4 at *
 go_enter Tryd.func43, Tryd.ntmps43
 go_wp2_with ((with_reducible refine tdQ 6 ?_); refine lcQ 50 (.tmp 2) (w.heap.size) _ (hM0.get 2 rfl) Tryd.underlying50 hs0.out ?_)
 refine (hma _).mono ?_
 rintro e w1 ⟨rfl, hb1⟩
 have hM1 := hM0.call hb1
 go_wp2_with ((with_reducible refine tdQ 10 ?_); refine lcQ 50 (.tmp 3) (w.heap.size + 1) _ (hM1.get 1 rfl) Tryd.underlying50 hs1.out ?_)
 refine (hmb _).mono ?_
 rintro e w2 ⟨rfl, hb2⟩
 have hM2 := hM1.call hb2
 have cx0 := (hM2.get 2 rfl).cell (i := 0) rfl
 have cy0 := (hM2.get 1 rfl).cell (i := 0) rfl
 have cx1 := (hM2.get 2 rfl).cell (i := 1) rfl
 have cy1 := (hM2.get 1 rfl).cell (i := 1) rfl
 have cx2 := (hM2.get 2 rfl).cell (i := 2) rfl
 have cy2 := (hM2.get 1 rfl).cell (i := 2) rfl
 have cx3 := (hM2.get 2 rfl).cell (i := 3) rfl
 have cy3 := (hM2.get 1 rfl).cell (i := 3) rfl
 have cx4 := (hM2.get 2 rfl).cell (i := 4) rfl
 have cy4 := (hM2.get 1 rfl).cell (i := 4) rfl
 go_wp2_with fail
 refine (hp _).mono ?_
 rintro e w3 ⟨rfl, hb3⟩
 have hM3 := hM2.call hb3
 go_wp2_with ((with_reducible refine tsQ 50 ?_); refine srQ 50 (.tmp 4) (.tmp 46) (w.heap.size + 1 + 1) fa _ (hM3.get 0 rfl) hz.out hzz.out hzo.out ?_)
 exact bodyPost_ret (results_cell_two rfl _ _ (w.heap.size + 1 + 1) 50 fa _ rfl ((hM3.get 0 rfl).row fa) Tryd.underlying50 rfl hz.out) rfl ⟨rfl, below_setRow hM3.old (by omega) _⟩
set_option maxHeartbeats 1000000 in
set_option maxRecDepth 100000 in
theorem Mul_ok (a b : Fe5) (w : World) (ha : MayF a) (hb : MayF b) :
  Calls Tryd.prog 44 #[.agg (feC a), .agg (feC b)] w fun e w' => e = .returned (.tuple #[.agg (feC (mulQ a b)), .int .i64 0]) ∧ Below w.heap.size w w' := by
 have hM0 := (((Ms.nil w).box 50 (feC a)).box 50 (feC b)).box 50 #[.int .u64 0, .int .u64 0, .int .u64 0, .int .u64 0, .int .u64 0]
 simp only [World.size_alloc] at hM0
 have hs0 := Lib.hid (sizeFe a)
 have hs1 := Lib.hid (sizeFe b)
 have hma := fun wx => mayBe_any a wx ha.word
 rw [mayB_true ha] at hma
 have hmb := fun wx => mayBe_any b wx hb.word
 rw [mayB_true hb] at hmb
 have hz := Lib.hid (sizeFe (mulQ a b))
 have hzz := Lib.hid (show (#[.int .u64 0, .int .u64 0, .int .u64 0, .int .u64 0, .int .u64 0] : Array Value).size = (feC (mulQ a b)).size from rfl)
 have hzo := Lib.hid (one_fe (mulQ a b))
 have hp := fun wx => product_any a b wx ha hb
 generalize feC (mulQ a b) = fa at *
 generalize feC a = ca at *
 generalize feC b = cb at *
 clear ha hb
 go_enter Tryd.func44, Tryd.ntmps44
 go_wp2_with ((with_reducible refine tdQ 6 ?_); refine lcQ 50 (.tmp 2) (w.heap.size) ca (hM0.get 2 rfl) Tryd.underlying50 hs0.out ?_)
 refine (hma _).mono ?_
 rintro e w1 ⟨rfl, hb1⟩
 have hM1 := hM0.call hb1
 go_wp2_with ((with_reducible refine tdQ 10 ?_); refine lcQ 50 (.tmp 3) (w.heap.size + 1) cb (hM1.get 1 rfl) Tryd.underlying50 hs1.out ?_)
 refine (hmb _).mono ?_
 rintro e w2 ⟨rfl, hb2⟩
 have hM2 := hM1.call hb2
 go_wp2_with (first
  | ((with_reducible refine tdQ 15 ?_); refine lcQ 50 (.tmp 2) (w.heap.size) ca (hM2.get 2 rfl) Tryd.underlying50 hs0.out ?_)
  | ((with_reducible refine tdQ 16 ?_); refine lcQ 50 (.tmp 3) (w.heap.size + 1) cb (hM2.get 1 rfl) Tryd.underlying50 hs1.out ?_))
 refine (hp _).mono ?_
 rintro e w3 ⟨rfl, hb3⟩
 have hM3 := hM2.call hb3
 go_wp2_with ((with_reducible refine tsQ 50 ?_); refine srQ 50 (.tmp 4) (.tmp 17) (w.heap.size + 1 + 1) fa _ (hM3.get 0 rfl) hz.out hzz.out hzo.out ?_)
 exact bodyPost_ret (results_cell_two rfl _ _ (w.heap.size + 1 + 1) 50 fa _ rfl ((hM3.get 0 rfl).row fa) Tryd.underlying50 rfl hz.out) rfl ⟨rfl, below_setRow hM3.old (by omega) _⟩
end Go.Proofs.YtbiijdboolpaeaaDoor
