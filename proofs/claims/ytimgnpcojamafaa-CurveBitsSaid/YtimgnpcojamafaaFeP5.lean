/-
  REGION 5 of the program's product (package fe): a sum of five products, whatever order is picked.
-/
import Derived.Test.YtimgnpcojamafaaFeP
set_option linter.unusedVariables false
namespace Go.Proofs.Ytimgnpcojamafaa
open Go.RowKit

set_option maxRecDepth 100000 in
set_option maxHeartbeats 40000000 in
theorem prod_reg5 (w v1 : World) (x0 x1 x2 x3 x4 y0 y1 y2 y3 y4 z1 z2 z3 z4 : Nat) (px0 : Part x0) (px1 : Part x1) (px2 : Part x2) (px3 : Part x3) (px4 : Part x4) (py0 : Part19 y0) (py1 : Part19 y1) (py2 : Part19 y2) (py3 : Part19 y3) (py4 : Part19 y4) (pz1 : Part19 z1) (pz2 : Part19 z2) (pz3 : Part19 z3) (pz4 : Part19 z4)
    (hkeep : ∀ wx : World, Below v1.heap.size v1 wx → PartsAt w.heap.size (w.heap.size + 1) x0 x1 x2 x3 x4 y0 y1 y2 y3 y4 wx)
    (u0 u1 u4 u9 u10 u11 u12 u13 u14 u15 u16 u17 u18 u19 u20 u21 u22 u23 u24 u25 u26 u27 u28 u29 u30 u31 u32 u33 u34 u35 u36 u37 u38 u39 u40 u41 u42 u43 u44 u45 u46 u47 u48 u49 u50 u51 u52 u53 u54 u55 u56 u57 u58 u59 u60 u61 u62 u63 u64 u65 u66 u67 u68 u69 u70 u71 u72 u73 u74 u75 u76 u77 u78 u79 u80 u81 u82 u83 u84 u85 u86 u87 u88 u89 u90 u91 u92 u93 u94 u95 u96 u97 u98 u99 u100 u101 u102 u103 u104 u105 u106 u107 u108 u109 u110 u111 u112 u113 u114 u115 u116 u117 u118 u119 u120 u121 u122 u123 u124 u125 u126 u127 u128 u129 u130 u131 u132 u133 u134 u135 u136 u137 u138 u139 u140 u141 u142 u143 u144 u145 u146 u147 u148 u149 u150 u151 u152 u153 u154 u155 u156 u157 u158 u159 u160 u161 u162 u163 u164 u165 u166 u167 u168 u169 u170 u171 u172 u173 : Value) (Q : Exit → Act → World → Prop) (hp : ∀ (t : Tmp) c a v wx, Q (.panic c) (a.put (some t) v) wx → Q (.panic c) a wx)
    (h : ∀ (g p q : Nat) (wx : World) (s95 s96 s97 s98 s99 s100 s101 s102 s103 s104 s105 s106 s107 s108 s109 s110 s111 s112 s113 s114 s115 s116 s117 s118 s119 : Value), IsW p q (x0 * y3 + x1 * y2 + x2 * y1 + x3 * y0 + x4 * z4) 5 → (∀ L, Ms w v1 L → Ms w wx ((g, 72, wideC p q) :: L)) → Q .normal { tmps := #[u0, u1, .pointer (some ⟨w.heap.size, 0, none⟩), .pointer (some ⟨w.heap.size + 1, 0, none⟩), u4, .int .u64 (z1 : Int), .int .u64 (z2 : Int), .int .u64 (z3 : Int), .int .u64 (z4 : Int), u9, u10, u11, .pointer (some ⟨g, 0, none⟩), u13, u14, u15, u16, u17, u18, u19, u20, u21, u22, u23, u24, u25, u26, u27, u28, u29, u30, u31, u32, u33, u34, u35, u36, u37, u38, u39, u40, u41, u42, u43, u44, u45, u46, u47, u48, u49, u50, u51, u52, u53, u54, u55, u56, u57, u58, u59, u60, u61, u62, u63, u64, u65, u66, u67, u68, u69, u70, u71, u72, u73, u74, u75, u76, u77, u78, u79, u80, u81, u82, u83, u84, u85, u86, u87, u88, u89, u90, u91, u92, u93, u94, s95, s96, s97, s98, s99, s100, s101, s102, s103, s104, s105, s106, s107, s108, s109, s110, s111, s112, s113, s114, s115, s116, s117, s118, s119, u120, u121, u122, u123, u124, u125, u126, u127, u128, u129, u130, u131, u132, u133, u134, u135, u136, u137, u138, u139, u140, u141, u142, u143, u144, u145, u146, u147, u148, u149, u150, u151, u152, u153, u154, u155, u156, u157, u158, u159, u160, u161, u162, u163, u164, u165, u166, u167, u168, u169, u170, u171, u172, u173], defers := [] } wx) :
    Code.wp Try.prog (match Try.f44.body with | some c => findR 5 c | none => .skip) Q { tmps := #[u0, u1, .pointer (some ⟨w.heap.size, 0, none⟩), .pointer (some ⟨w.heap.size + 1, 0, none⟩), u4, .int .u64 (z1 : Int), .int .u64 (z2 : Int), .int .u64 (z3 : Int), .int .u64 (z4 : Int), u9, u10, u11, u12, u13, u14, u15, u16, u17, u18, u19, u20, u21, u22, u23, u24, u25, u26, u27, u28, u29, u30, u31, u32, u33, u34, u35, u36, u37, u38, u39, u40, u41, u42, u43, u44, u45, u46, u47, u48, u49, u50, u51, u52, u53, u54, u55, u56, u57, u58, u59, u60, u61, u62, u63, u64, u65, u66, u67, u68, u69, u70, u71, u72, u73, u74, u75, u76, u77, u78, u79, u80, u81, u82, u83, u84, u85, u86, u87, u88, u89, u90, u91, u92, u93, u94, u95, u96, u97, u98, u99, u100, u101, u102, u103, u104, u105, u106, u107, u108, u109, u110, u111, u112, u113, u114, u115, u116, u117, u118, u119, u120, u121, u122, u123, u124, u125, u126, u127, u128, u129, u130, u131, u132, u133, u134, u135, u136, u137, u138, u139, u140, u141, u142, u143, u144, u145, u146, u147, u148, u149, u150, u151, u152, u153, u154, u155, u156, u157, u158, u159, u160, u161, u162, u163, u164, u165, u166, u167, u168, u169, u170, u171, u172, u173], defers := [] } v1 := by
  have hent : ∀ args w, (callFunc 49 args).run Try.prog w = .ok (.enter 49 args) w := enters_of Try.func49 (by kernel_rfl) rfl
  show Code.wp Try.prog (Code.region 5 _ true) Q _ v1
  refine beginT (PartsAt w.heap.size (w.heap.size + 1) x0 x1 x2 x3 x4 y0 y1 y2 y3 y4) 26 (by kernel_rfl) ?_
  have hS := hkeep _ (c_drew (c_refl _))
  refine takeD 0 (some 95) (.agg #[.int .u64 0, .int .u64 0]) rfl rfl (by kernel_rfl) (by kernel_rfl) (by kernel_rfl) (by kernel_rfl) (fun _ _ _ hq => hp _ _ _ _ _ hq) (Or.inl ⟨by kernel_rfl, fun wx hSw => by go_simp⟩) hS ?_
  simp only [Act.put, List.setIfInBounds_toArray, List.set_cons_zero, List.set_cons_succ]
  refine takeD 1 (some 96) (.pointer (some ⟨w.heap.size, 0, none⟩)) rfl rfl (by kernel_rfl) (by kernel_rfl) (by kernel_rfl) (by kernel_rfl) (fun _ _ _ hq => hp _ _ _ _ _ hq) (Or.inl ⟨by kernel_rfl, fun wx hSw => by go_simp⟩) hS ?_
  simp only [Act.put, List.setIfInBounds_toArray, List.set_cons_zero, List.set_cons_succ]
  refine takeD 2 (some 97) (.int .u64 (x0 : Int)) rfl rfl (by kernel_rfl) (by kernel_rfl) (by kernel_rfl) (by kernel_rfl) (fun _ _ _ hq => hp _ _ _ _ _ hq) (Or.inl ⟨by kernel_rfl, fun wx hSw => by have h := hSw.1; go_simp⟩) hS ?_
  simp only [Act.put, List.setIfInBounds_toArray, List.set_cons_zero, List.set_cons_succ]
  refine takeD 3 (some 98) (.pointer (some ⟨w.heap.size + 1, 3, none⟩)) rfl rfl (by kernel_rfl) (by kernel_rfl) (by kernel_rfl) (by kernel_rfl) (fun _ _ _ hq => hp _ _ _ _ _ hq) (Or.inl ⟨by kernel_rfl, fun wx hSw => by go_simp⟩) hS ?_
  simp only [Act.put, List.setIfInBounds_toArray, List.set_cons_zero, List.set_cons_succ]
  refine takeD 4 (some 99) (.int .u64 (y3 : Int)) rfl rfl (by kernel_rfl) (by kernel_rfl) (by kernel_rfl) (by kernel_rfl) (fun _ _ _ hq => hp _ _ _ _ _ hq) (Or.inl ⟨by kernel_rfl, fun wx hSw => by have h := hSw.2.2.2.2.2.2.2.2.1; go_simp⟩) hS ?_
  simp only [Act.put, List.setIfInBounds_toArray, List.set_cons_zero, List.set_cons_succ]
  refine takeD 6 (some 101) (.pointer (some ⟨w.heap.size, 1, none⟩)) rfl rfl (by kernel_rfl) (by kernel_rfl) (by kernel_rfl) (by kernel_rfl) (fun _ _ _ hq => hp _ _ _ _ _ hq) (Or.inl ⟨by kernel_rfl, fun wx hSw => by go_simp⟩) hS ?_
  simp only [Act.put, List.setIfInBounds_toArray, List.set_cons_zero, List.set_cons_succ]
  refine takeD 7 (some 102) (.int .u64 (x1 : Int)) rfl rfl (by kernel_rfl) (by kernel_rfl) (by kernel_rfl) (by kernel_rfl) (fun _ _ _ hq => hp _ _ _ _ _ hq) (Or.inl ⟨by kernel_rfl, fun wx hSw => by have h := hSw.2.1; go_simp⟩) hS ?_
  simp only [Act.put, List.setIfInBounds_toArray, List.set_cons_zero, List.set_cons_succ]
  refine takeD 8 (some 103) (.pointer (some ⟨w.heap.size + 1, 2, none⟩)) rfl rfl (by kernel_rfl) (by kernel_rfl) (by kernel_rfl) (by kernel_rfl) (fun _ _ _ hq => hp _ _ _ _ _ hq) (Or.inl ⟨by kernel_rfl, fun wx hSw => by go_simp⟩) hS ?_
  simp only [Act.put, List.setIfInBounds_toArray, List.set_cons_zero, List.set_cons_succ]
  refine takeD 9 (some 104) (.int .u64 (y2 : Int)) rfl rfl (by kernel_rfl) (by kernel_rfl) (by kernel_rfl) (by kernel_rfl) (fun _ _ _ hq => hp _ _ _ _ _ hq) (Or.inl ⟨by kernel_rfl, fun wx hSw => by have h := hSw.2.2.2.2.2.2.2.1; go_simp⟩) hS ?_
  simp only [Act.put, List.setIfInBounds_toArray, List.set_cons_zero, List.set_cons_succ]
  refine takeD 11 (some 106) (.pointer (some ⟨w.heap.size, 2, none⟩)) rfl rfl (by kernel_rfl) (by kernel_rfl) (by kernel_rfl) (by kernel_rfl) (fun _ _ _ hq => hp _ _ _ _ _ hq) (Or.inl ⟨by kernel_rfl, fun wx hSw => by go_simp⟩) hS ?_
  simp only [Act.put, List.setIfInBounds_toArray, List.set_cons_zero, List.set_cons_succ]
  refine takeD 12 (some 107) (.int .u64 (x2 : Int)) rfl rfl (by kernel_rfl) (by kernel_rfl) (by kernel_rfl) (by kernel_rfl) (fun _ _ _ hq => hp _ _ _ _ _ hq) (Or.inl ⟨by kernel_rfl, fun wx hSw => by have h := hSw.2.2.1; go_simp⟩) hS ?_
  simp only [Act.put, List.setIfInBounds_toArray, List.set_cons_zero, List.set_cons_succ]
  refine takeD 13 (some 108) (.pointer (some ⟨w.heap.size + 1, 1, none⟩)) rfl rfl (by kernel_rfl) (by kernel_rfl) (by kernel_rfl) (by kernel_rfl) (fun _ _ _ hq => hp _ _ _ _ _ hq) (Or.inl ⟨by kernel_rfl, fun wx hSw => by go_simp⟩) hS ?_
  simp only [Act.put, List.setIfInBounds_toArray, List.set_cons_zero, List.set_cons_succ]
  refine takeD 14 (some 109) (.int .u64 (y1 : Int)) rfl rfl (by kernel_rfl) (by kernel_rfl) (by kernel_rfl) (by kernel_rfl) (fun _ _ _ hq => hp _ _ _ _ _ hq) (Or.inl ⟨by kernel_rfl, fun wx hSw => by have h := hSw.2.2.2.2.2.2.1; go_simp⟩) hS ?_
  simp only [Act.put, List.setIfInBounds_toArray, List.set_cons_zero, List.set_cons_succ]
  refine takeD 16 (some 111) (.pointer (some ⟨w.heap.size, 3, none⟩)) rfl rfl (by kernel_rfl) (by kernel_rfl) (by kernel_rfl) (by kernel_rfl) (fun _ _ _ hq => hp _ _ _ _ _ hq) (Or.inl ⟨by kernel_rfl, fun wx hSw => by go_simp⟩) hS ?_
  simp only [Act.put, List.setIfInBounds_toArray, List.set_cons_zero, List.set_cons_succ]
  refine takeD 17 (some 112) (.int .u64 (x3 : Int)) rfl rfl (by kernel_rfl) (by kernel_rfl) (by kernel_rfl) (by kernel_rfl) (fun _ _ _ hq => hp _ _ _ _ _ hq) (Or.inl ⟨by kernel_rfl, fun wx hSw => by have h := hSw.2.2.2.1; go_simp⟩) hS ?_
  simp only [Act.put, List.setIfInBounds_toArray, List.set_cons_zero, List.set_cons_succ]
  refine takeD 18 (some 113) (.pointer (some ⟨w.heap.size + 1, 0, none⟩)) rfl rfl (by kernel_rfl) (by kernel_rfl) (by kernel_rfl) (by kernel_rfl) (fun _ _ _ hq => hp _ _ _ _ _ hq) (Or.inl ⟨by kernel_rfl, fun wx hSw => by go_simp⟩) hS ?_
  simp only [Act.put, List.setIfInBounds_toArray, List.set_cons_zero, List.set_cons_succ]
  refine takeD 19 (some 114) (.int .u64 (y0 : Int)) rfl rfl (by kernel_rfl) (by kernel_rfl) (by kernel_rfl) (by kernel_rfl) (fun _ _ _ hq => hp _ _ _ _ _ hq) (Or.inl ⟨by kernel_rfl, fun wx hSw => by have h := hSw.2.2.2.2.2.1; go_simp⟩) hS ?_
  simp only [Act.put, List.setIfInBounds_toArray, List.set_cons_zero, List.set_cons_succ]
  refine takeD 21 (some 116) (.pointer (some ⟨w.heap.size, 4, none⟩)) rfl rfl (by kernel_rfl) (by kernel_rfl) (by kernel_rfl) (by kernel_rfl) (fun _ _ _ hq => hp _ _ _ _ _ hq) (Or.inl ⟨by kernel_rfl, fun wx hSw => by go_simp⟩) hS ?_
  simp only [Act.put, List.setIfInBounds_toArray, List.set_cons_zero, List.set_cons_succ]
  refine takeD 22 (some 117) (.int .u64 (x4 : Int)) rfl rfl (by kernel_rfl) (by kernel_rfl) (by kernel_rfl) (by kernel_rfl) (fun _ _ _ hq => hp _ _ _ _ _ hq) (Or.inl ⟨by kernel_rfl, fun wx hSw => by have h := hSw.2.2.2.2.1; go_simp⟩) hS ?_
  simp only [Act.put, List.setIfInBounds_toArray, List.set_cons_zero, List.set_cons_succ]
  refine takeD 23 (some 118) (.int .u64 (z4 : Int)) rfl rfl (by kernel_rfl) (by kernel_rfl) (by kernel_rfl) (by kernel_rfl) (fun _ _ _ hq => hp _ _ _ _ _ hq) (Or.inl ⟨by kernel_rfl, fun wx hSw => by go_simp⟩) hS ?_
  simp only [Act.put, List.setIfInBounds_toArray, List.set_cons_zero, List.set_cons_succ]
  refine readyT [5, 25] (by kernel_rfl) (by simp) (AllReadyT.cons rfl (fun K hK => ?_) (AllReadyT.cons rfl (fun K hK => ?_) AllReadyT.nil))
  · refine step_callF (by rfl) (some 100) rfl 49 _ _ rfl [.agg #[.int .u64 0, .int .u64 0], (.int .u64 (x0 : Int)), (.int .u64 (y3 : Int))] rfl hent _ (plus_zero _ _ (by assumption) (by assumption) _) ?_
    rintro e wm1 ⟨p1, q1, rfl, hi1, hb1⟩
    refine ⟨_, rfl, ?_⟩
    simp only [Act.put, List.setIfInBounds_toArray, List.set_cons_zero, List.set_cons_succ]
    refine hK.out _ _ (fun _ => hkeep _ (by (repeat (first | exact c_refl _ | refine c_drew ?_ | refine c_alloc ?_ _ | refine c_call ?_ (by assumption))); first | done | fail "chain")) ?_
    clear hK K
    refine readyT [10, 25] (by kernel_rfl) (by simp) (AllReadyT.cons rfl (fun K hK => ?_) (AllReadyT.cons rfl (fun K hK => ?_) AllReadyT.nil))
    · refine step_callF (by rfl) (some 105) rfl 49 _ _ rfl [.agg #[.int .u64 (p1 : Int), .int .u64 (q1 : Int)], (.int .u64 (x1 : Int)), (.int .u64 (y2 : Int))] rfl hent _ (plus_more _ _ _ _ (by assumption) (by omega) _ _ (by assumption) (by assumption) _) ?_
      rintro e wm2 ⟨p2, q2, rfl, hi2, hb2⟩
      refine ⟨_, rfl, ?_⟩
      simp only [Act.put, List.setIfInBounds_toArray, List.set_cons_zero, List.set_cons_succ]
      refine hK.out _ _ (fun _ => hkeep _ (by (repeat (first | exact c_refl _ | refine c_drew ?_ | refine c_alloc ?_ _ | refine c_call ?_ (by assumption))); first | done | fail "chain")) ?_
      clear hK K
      refine readyT [15, 25] (by kernel_rfl) (by simp) (AllReadyT.cons rfl (fun K hK => ?_) (AllReadyT.cons rfl (fun K hK => ?_) AllReadyT.nil))
      · refine step_callF (by rfl) (some 110) rfl 49 _ _ rfl [.agg #[.int .u64 (p2 : Int), .int .u64 (q2 : Int)], (.int .u64 (x2 : Int)), (.int .u64 (y1 : Int))] rfl hent _ (plus_more _ _ _ _ (by assumption) (by omega) _ _ (by assumption) (by assumption) _) ?_
        rintro e wm3 ⟨p3, q3, rfl, hi3, hb3⟩
        refine ⟨_, rfl, ?_⟩
        simp only [Act.put, List.setIfInBounds_toArray, List.set_cons_zero, List.set_cons_succ]
        refine hK.out _ _ (fun _ => hkeep _ (by (repeat (first | exact c_refl _ | refine c_drew ?_ | refine c_alloc ?_ _ | refine c_call ?_ (by assumption))); first | done | fail "chain")) ?_
        clear hK K
        refine readyT [20, 25] (by kernel_rfl) (by simp) (AllReadyT.cons rfl (fun K hK => ?_) (AllReadyT.cons rfl (fun K hK => ?_) AllReadyT.nil))
        · refine step_callF (by rfl) (some 115) rfl 49 _ _ rfl [.agg #[.int .u64 (p3 : Int), .int .u64 (q3 : Int)], (.int .u64 (x3 : Int)), (.int .u64 (y0 : Int))] rfl hent _ (plus_more _ _ _ _ (by assumption) (by omega) _ _ (by assumption) (by assumption) _) ?_
          rintro e wm4 ⟨p4, q4, rfl, hi4, hb4⟩
          refine ⟨_, rfl, ?_⟩
          simp only [Act.put, List.setIfInBounds_toArray, List.set_cons_zero, List.set_cons_succ]
          refine hK.out _ _ (fun _ => hkeep _ (by (repeat (first | exact c_refl _ | refine c_drew ?_ | refine c_alloc ?_ _ | refine c_call ?_ (by assumption))); first | done | fail "chain")) ?_
          clear hK K
          refine readyT [24, 25] (by kernel_rfl) (by simp) (AllReadyT.cons rfl (fun K hK => ?_) (AllReadyT.cons rfl (fun K hK => ?_) AllReadyT.nil))
          · refine step_callF (by rfl) (some 119) rfl 49 _ _ rfl [.agg #[.int .u64 (p4 : Int), .int .u64 (q4 : Int)], (.int .u64 (x4 : Int)), (.int .u64 (z4 : Int))] rfl hent _ (plus_more _ _ _ _ (by assumption) (by omega) _ _ (by assumption) (by assumption) _) ?_
            rintro e wm5 ⟨p5, q5, rfl, hi5, hb5⟩
            refine ⟨_, rfl, ?_⟩
            simp only [Act.put, List.setIfInBounds_toArray, List.set_cons_zero, List.set_cons_succ]
            refine hK.out _ _ (fun _ => hkeep _ (by (repeat (first | exact c_refl _ | refine c_drew ?_ | refine c_alloc ?_ _ | refine c_call ?_ (by assumption))); first | done | fail "chain")) ?_
            clear hK K
            refine oneT 25 (by kernel_rfl) rfl (fun K hK => ?_)
            refine step_val (by rfl) (some 12) rfl _ (alloc_wide _ _ rfl _) ?_
            simp only [Act.put, List.setIfInBounds_toArray, List.set_cons_zero, List.set_cons_succ]
            refine hK.out _ _ (fun _ => hkeep _ (by (repeat (first | exact c_refl _ | refine c_drew ?_ | refine c_alloc ?_ _ | refine c_call ?_ (by assumption))); first | done | fail "chain")) ?_
            clear hK K
            refine oneT 26 (by kernel_rfl) rfl (fun K hK => ?_)
            refine step_store_row rfl 72 (.tmp 12) (.tmp 119) rfl _ (wideC p5 q5) rfl rfl 72 #[.int .u64 0, .int .u64 0] (by (repeat (first | exact RowC.new _ _ _ | refine RowC.call ?_ (by assumption))); first | done | fail "row") info_wide rfl (one_wide p5 q5) ?_
            refine hK.out _ _ (fun h => absurd rfl h) ?_
            clear hK K
            refine doneT (by kernel_rfl) ?_ _
            exact h _ p5 q5 _ _ _ _ _ _ _ _ _ _ _ _ _ _ _ _ _ _ _ _ _ _ _ _ _ _ hi5 (fun L hL => Ms.finRow hL (by (repeat (first | exact c_refl _ | refine c_drew ?_ | refine c_alloc ?_ _ | refine c_call ?_ (by assumption))); first | done | fail "chain") ((show Below v1.heap.size v1 wm5 from (by (repeat (first | exact c_refl _ | refine c_drew ?_ | refine c_alloc ?_ _ | refine c_call ?_ (by assumption))); first | done | fail "chain")).size) (by (repeat (first | exact RowC.new _ _ _ | refine RowC.call ?_ (by assumption))); first | done | fail "row") _)
          · refine step_val (by rfl) (some 12) rfl _ (alloc_wide _ _ rfl _) ?_
            simp only [Act.put, List.setIfInBounds_toArray, List.set_cons_zero, List.set_cons_succ]
            refine hK.out _ _ (fun _ => hkeep _ (by (repeat (first | exact c_refl _ | refine c_drew ?_ | refine c_alloc ?_ _ | refine c_call ?_ (by assumption))); first | done | fail "chain")) ?_
            clear hK K
            refine oneT 24 (by kernel_rfl) rfl (fun K hK => ?_)
            refine step_callF (by rfl) (some 119) rfl 49 _ _ rfl [.agg #[.int .u64 (p4 : Int), .int .u64 (q4 : Int)], (.int .u64 (x4 : Int)), (.int .u64 (z4 : Int))] rfl hent _ (plus_more _ _ _ _ (by assumption) (by omega) _ _ (by assumption) (by assumption) _) ?_
            rintro e wm5 ⟨p5, q5, rfl, hi5, hb5⟩
            refine ⟨_, rfl, ?_⟩
            simp only [Act.put, List.setIfInBounds_toArray, List.set_cons_zero, List.set_cons_succ]
            refine hK.out _ _ (fun _ => hkeep _ (by (repeat (first | exact c_refl _ | refine c_drew ?_ | refine c_alloc ?_ _ | refine c_call ?_ (by assumption))); first | done | fail "chain")) ?_
            clear hK K
            refine oneT 26 (by kernel_rfl) rfl (fun K hK => ?_)
            refine step_store_row rfl 72 (.tmp 12) (.tmp 119) rfl _ (wideC p5 q5) rfl rfl 72 #[.int .u64 0, .int .u64 0] (by (repeat (first | exact RowC.new _ _ _ | refine RowC.call ?_ (by assumption))); first | done | fail "row") info_wide rfl (one_wide p5 q5) ?_
            refine hK.out _ _ (fun h => absurd rfl h) ?_
            clear hK K
            refine doneT (by kernel_rfl) ?_ _
            exact h _ p5 q5 _ _ _ _ _ _ _ _ _ _ _ _ _ _ _ _ _ _ _ _ _ _ _ _ _ _ hi5 (fun L hL => Ms.finRow hL (by (repeat (first | exact c_refl _ | refine c_drew ?_ | refine c_alloc ?_ _ | refine c_call ?_ (by assumption))); first | done | fail "chain") ((show Below v1.heap.size v1 wm4 from (by (repeat (first | exact c_refl _ | refine c_drew ?_ | refine c_alloc ?_ _ | refine c_call ?_ (by assumption))); first | done | fail "chain")).size) (by (repeat (first | exact RowC.new _ _ _ | refine RowC.call ?_ (by assumption))); first | done | fail "row") _)
        · refine step_val (by rfl) (some 12) rfl _ (alloc_wide _ _ rfl _) ?_
          simp only [Act.put, List.setIfInBounds_toArray, List.set_cons_zero, List.set_cons_succ]
          refine hK.out _ _ (fun _ => hkeep _ (by (repeat (first | exact c_refl _ | refine c_drew ?_ | refine c_alloc ?_ _ | refine c_call ?_ (by assumption))); first | done | fail "chain")) ?_
          clear hK K
          refine oneT 20 (by kernel_rfl) rfl (fun K hK => ?_)
          refine step_callF (by rfl) (some 115) rfl 49 _ _ rfl [.agg #[.int .u64 (p3 : Int), .int .u64 (q3 : Int)], (.int .u64 (x3 : Int)), (.int .u64 (y0 : Int))] rfl hent _ (plus_more _ _ _ _ (by assumption) (by omega) _ _ (by assumption) (by assumption) _) ?_
          rintro e wm4 ⟨p4, q4, rfl, hi4, hb4⟩
          refine ⟨_, rfl, ?_⟩
          simp only [Act.put, List.setIfInBounds_toArray, List.set_cons_zero, List.set_cons_succ]
          refine hK.out _ _ (fun _ => hkeep _ (by (repeat (first | exact c_refl _ | refine c_drew ?_ | refine c_alloc ?_ _ | refine c_call ?_ (by assumption))); first | done | fail "chain")) ?_
          clear hK K
          refine oneT 24 (by kernel_rfl) rfl (fun K hK => ?_)
          refine step_callF (by rfl) (some 119) rfl 49 _ _ rfl [.agg #[.int .u64 (p4 : Int), .int .u64 (q4 : Int)], (.int .u64 (x4 : Int)), (.int .u64 (z4 : Int))] rfl hent _ (plus_more _ _ _ _ (by assumption) (by omega) _ _ (by assumption) (by assumption) _) ?_
          rintro e wm5 ⟨p5, q5, rfl, hi5, hb5⟩
          refine ⟨_, rfl, ?_⟩
          simp only [Act.put, List.setIfInBounds_toArray, List.set_cons_zero, List.set_cons_succ]
          refine hK.out _ _ (fun _ => hkeep _ (by (repeat (first | exact c_refl _ | refine c_drew ?_ | refine c_alloc ?_ _ | refine c_call ?_ (by assumption))); first | done | fail "chain")) ?_
          clear hK K
          refine oneT 26 (by kernel_rfl) rfl (fun K hK => ?_)
          refine step_store_row rfl 72 (.tmp 12) (.tmp 119) rfl _ (wideC p5 q5) rfl rfl 72 #[.int .u64 0, .int .u64 0] (by (repeat (first | exact RowC.new _ _ _ | refine RowC.call ?_ (by assumption))); first | done | fail "row") info_wide rfl (one_wide p5 q5) ?_
          refine hK.out _ _ (fun h => absurd rfl h) ?_
          clear hK K
          refine doneT (by kernel_rfl) ?_ _
          exact h _ p5 q5 _ _ _ _ _ _ _ _ _ _ _ _ _ _ _ _ _ _ _ _ _ _ _ _ _ _ hi5 (fun L hL => Ms.finRow hL (by (repeat (first | exact c_refl _ | refine c_drew ?_ | refine c_alloc ?_ _ | refine c_call ?_ (by assumption))); first | done | fail "chain") ((show Below v1.heap.size v1 wm3 from (by (repeat (first | exact c_refl _ | refine c_drew ?_ | refine c_alloc ?_ _ | refine c_call ?_ (by assumption))); first | done | fail "chain")).size) (by (repeat (first | exact RowC.new _ _ _ | refine RowC.call ?_ (by assumption))); first | done | fail "row") _)
      · refine step_val (by rfl) (some 12) rfl _ (alloc_wide _ _ rfl _) ?_
        simp only [Act.put, List.setIfInBounds_toArray, List.set_cons_zero, List.set_cons_succ]
        refine hK.out _ _ (fun _ => hkeep _ (by (repeat (first | exact c_refl _ | refine c_drew ?_ | refine c_alloc ?_ _ | refine c_call ?_ (by assumption))); first | done | fail "chain")) ?_
        clear hK K
        refine oneT 15 (by kernel_rfl) rfl (fun K hK => ?_)
        refine step_callF (by rfl) (some 110) rfl 49 _ _ rfl [.agg #[.int .u64 (p2 : Int), .int .u64 (q2 : Int)], (.int .u64 (x2 : Int)), (.int .u64 (y1 : Int))] rfl hent _ (plus_more _ _ _ _ (by assumption) (by omega) _ _ (by assumption) (by assumption) _) ?_
        rintro e wm3 ⟨p3, q3, rfl, hi3, hb3⟩
        refine ⟨_, rfl, ?_⟩
        simp only [Act.put, List.setIfInBounds_toArray, List.set_cons_zero, List.set_cons_succ]
        refine hK.out _ _ (fun _ => hkeep _ (by (repeat (first | exact c_refl _ | refine c_drew ?_ | refine c_alloc ?_ _ | refine c_call ?_ (by assumption))); first | done | fail "chain")) ?_
        clear hK K
        refine oneT 20 (by kernel_rfl) rfl (fun K hK => ?_)
        refine step_callF (by rfl) (some 115) rfl 49 _ _ rfl [.agg #[.int .u64 (p3 : Int), .int .u64 (q3 : Int)], (.int .u64 (x3 : Int)), (.int .u64 (y0 : Int))] rfl hent _ (plus_more _ _ _ _ (by assumption) (by omega) _ _ (by assumption) (by assumption) _) ?_
        rintro e wm4 ⟨p4, q4, rfl, hi4, hb4⟩
        refine ⟨_, rfl, ?_⟩
        simp only [Act.put, List.setIfInBounds_toArray, List.set_cons_zero, List.set_cons_succ]
        refine hK.out _ _ (fun _ => hkeep _ (by (repeat (first | exact c_refl _ | refine c_drew ?_ | refine c_alloc ?_ _ | refine c_call ?_ (by assumption))); first | done | fail "chain")) ?_
        clear hK K
        refine oneT 24 (by kernel_rfl) rfl (fun K hK => ?_)
        refine step_callF (by rfl) (some 119) rfl 49 _ _ rfl [.agg #[.int .u64 (p4 : Int), .int .u64 (q4 : Int)], (.int .u64 (x4 : Int)), (.int .u64 (z4 : Int))] rfl hent _ (plus_more _ _ _ _ (by assumption) (by omega) _ _ (by assumption) (by assumption) _) ?_
        rintro e wm5 ⟨p5, q5, rfl, hi5, hb5⟩
        refine ⟨_, rfl, ?_⟩
        simp only [Act.put, List.setIfInBounds_toArray, List.set_cons_zero, List.set_cons_succ]
        refine hK.out _ _ (fun _ => hkeep _ (by (repeat (first | exact c_refl _ | refine c_drew ?_ | refine c_alloc ?_ _ | refine c_call ?_ (by assumption))); first | done | fail "chain")) ?_
        clear hK K
        refine oneT 26 (by kernel_rfl) rfl (fun K hK => ?_)
        refine step_store_row rfl 72 (.tmp 12) (.tmp 119) rfl _ (wideC p5 q5) rfl rfl 72 #[.int .u64 0, .int .u64 0] (by (repeat (first | exact RowC.new _ _ _ | refine RowC.call ?_ (by assumption))); first | done | fail "row") info_wide rfl (one_wide p5 q5) ?_
        refine hK.out _ _ (fun h => absurd rfl h) ?_
        clear hK K
        refine doneT (by kernel_rfl) ?_ _
        exact h _ p5 q5 _ _ _ _ _ _ _ _ _ _ _ _ _ _ _ _ _ _ _ _ _ _ _ _ _ _ hi5 (fun L hL => Ms.finRow hL (by (repeat (first | exact c_refl _ | refine c_drew ?_ | refine c_alloc ?_ _ | refine c_call ?_ (by assumption))); first | done | fail "chain") ((show Below v1.heap.size v1 wm2 from (by (repeat (first | exact c_refl _ | refine c_drew ?_ | refine c_alloc ?_ _ | refine c_call ?_ (by assumption))); first | done | fail "chain")).size) (by (repeat (first | exact RowC.new _ _ _ | refine RowC.call ?_ (by assumption))); first | done | fail "row") _)
    · refine step_val (by rfl) (some 12) rfl _ (alloc_wide _ _ rfl _) ?_
      simp only [Act.put, List.setIfInBounds_toArray, List.set_cons_zero, List.set_cons_succ]
      refine hK.out _ _ (fun _ => hkeep _ (by (repeat (first | exact c_refl _ | refine c_drew ?_ | refine c_alloc ?_ _ | refine c_call ?_ (by assumption))); first | done | fail "chain")) ?_
      clear hK K
      refine oneT 10 (by kernel_rfl) rfl (fun K hK => ?_)
      refine step_callF (by rfl) (some 105) rfl 49 _ _ rfl [.agg #[.int .u64 (p1 : Int), .int .u64 (q1 : Int)], (.int .u64 (x1 : Int)), (.int .u64 (y2 : Int))] rfl hent _ (plus_more _ _ _ _ (by assumption) (by omega) _ _ (by assumption) (by assumption) _) ?_
      rintro e wm2 ⟨p2, q2, rfl, hi2, hb2⟩
      refine ⟨_, rfl, ?_⟩
      simp only [Act.put, List.setIfInBounds_toArray, List.set_cons_zero, List.set_cons_succ]
      refine hK.out _ _ (fun _ => hkeep _ (by (repeat (first | exact c_refl _ | refine c_drew ?_ | refine c_alloc ?_ _ | refine c_call ?_ (by assumption))); first | done | fail "chain")) ?_
      clear hK K
      refine oneT 15 (by kernel_rfl) rfl (fun K hK => ?_)
      refine step_callF (by rfl) (some 110) rfl 49 _ _ rfl [.agg #[.int .u64 (p2 : Int), .int .u64 (q2 : Int)], (.int .u64 (x2 : Int)), (.int .u64 (y1 : Int))] rfl hent _ (plus_more _ _ _ _ (by assumption) (by omega) _ _ (by assumption) (by assumption) _) ?_
      rintro e wm3 ⟨p3, q3, rfl, hi3, hb3⟩
      refine ⟨_, rfl, ?_⟩
      simp only [Act.put, List.setIfInBounds_toArray, List.set_cons_zero, List.set_cons_succ]
      refine hK.out _ _ (fun _ => hkeep _ (by (repeat (first | exact c_refl _ | refine c_drew ?_ | refine c_alloc ?_ _ | refine c_call ?_ (by assumption))); first | done | fail "chain")) ?_
      clear hK K
      refine oneT 20 (by kernel_rfl) rfl (fun K hK => ?_)
      refine step_callF (by rfl) (some 115) rfl 49 _ _ rfl [.agg #[.int .u64 (p3 : Int), .int .u64 (q3 : Int)], (.int .u64 (x3 : Int)), (.int .u64 (y0 : Int))] rfl hent _ (plus_more _ _ _ _ (by assumption) (by omega) _ _ (by assumption) (by assumption) _) ?_
      rintro e wm4 ⟨p4, q4, rfl, hi4, hb4⟩
      refine ⟨_, rfl, ?_⟩
      simp only [Act.put, List.setIfInBounds_toArray, List.set_cons_zero, List.set_cons_succ]
      refine hK.out _ _ (fun _ => hkeep _ (by (repeat (first | exact c_refl _ | refine c_drew ?_ | refine c_alloc ?_ _ | refine c_call ?_ (by assumption))); first | done | fail "chain")) ?_
      clear hK K
      refine oneT 24 (by kernel_rfl) rfl (fun K hK => ?_)
      refine step_callF (by rfl) (some 119) rfl 49 _ _ rfl [.agg #[.int .u64 (p4 : Int), .int .u64 (q4 : Int)], (.int .u64 (x4 : Int)), (.int .u64 (z4 : Int))] rfl hent _ (plus_more _ _ _ _ (by assumption) (by omega) _ _ (by assumption) (by assumption) _) ?_
      rintro e wm5 ⟨p5, q5, rfl, hi5, hb5⟩
      refine ⟨_, rfl, ?_⟩
      simp only [Act.put, List.setIfInBounds_toArray, List.set_cons_zero, List.set_cons_succ]
      refine hK.out _ _ (fun _ => hkeep _ (by (repeat (first | exact c_refl _ | refine c_drew ?_ | refine c_alloc ?_ _ | refine c_call ?_ (by assumption))); first | done | fail "chain")) ?_
      clear hK K
      refine oneT 26 (by kernel_rfl) rfl (fun K hK => ?_)
      refine step_store_row rfl 72 (.tmp 12) (.tmp 119) rfl _ (wideC p5 q5) rfl rfl 72 #[.int .u64 0, .int .u64 0] (by (repeat (first | exact RowC.new _ _ _ | refine RowC.call ?_ (by assumption))); first | done | fail "row") info_wide rfl (one_wide p5 q5) ?_
      refine hK.out _ _ (fun h => absurd rfl h) ?_
      clear hK K
      refine doneT (by kernel_rfl) ?_ _
      exact h _ p5 q5 _ _ _ _ _ _ _ _ _ _ _ _ _ _ _ _ _ _ _ _ _ _ _ _ _ _ hi5 (fun L hL => Ms.finRow hL (by (repeat (first | exact c_refl _ | refine c_drew ?_ | refine c_alloc ?_ _ | refine c_call ?_ (by assumption))); first | done | fail "chain") ((show Below v1.heap.size v1 wm1 from (by (repeat (first | exact c_refl _ | refine c_drew ?_ | refine c_alloc ?_ _ | refine c_call ?_ (by assumption))); first | done | fail "chain")).size) (by (repeat (first | exact RowC.new _ _ _ | refine RowC.call ?_ (by assumption))); first | done | fail "row") _)
  · refine step_val (by rfl) (some 12) rfl _ (alloc_wide _ _ rfl _) ?_
    simp only [Act.put, List.setIfInBounds_toArray, List.set_cons_zero, List.set_cons_succ]
    refine hK.out _ _ (fun _ => hkeep _ (by (repeat (first | exact c_refl _ | refine c_drew ?_ | refine c_alloc ?_ _ | refine c_call ?_ (by assumption))); first | done | fail "chain")) ?_
    clear hK K
    refine oneT 5 (by kernel_rfl) rfl (fun K hK => ?_)
    refine step_callF (by rfl) (some 100) rfl 49 _ _ rfl [.agg #[.int .u64 0, .int .u64 0], (.int .u64 (x0 : Int)), (.int .u64 (y3 : Int))] rfl hent _ (plus_zero _ _ (by assumption) (by assumption) _) ?_
    rintro e wm1 ⟨p1, q1, rfl, hi1, hb1⟩
    refine ⟨_, rfl, ?_⟩
    simp only [Act.put, List.setIfInBounds_toArray, List.set_cons_zero, List.set_cons_succ]
    refine hK.out _ _ (fun _ => hkeep _ (by (repeat (first | exact c_refl _ | refine c_drew ?_ | refine c_alloc ?_ _ | refine c_call ?_ (by assumption))); first | done | fail "chain")) ?_
    clear hK K
    refine oneT 10 (by kernel_rfl) rfl (fun K hK => ?_)
    refine step_callF (by rfl) (some 105) rfl 49 _ _ rfl [.agg #[.int .u64 (p1 : Int), .int .u64 (q1 : Int)], (.int .u64 (x1 : Int)), (.int .u64 (y2 : Int))] rfl hent _ (plus_more _ _ _ _ (by assumption) (by omega) _ _ (by assumption) (by assumption) _) ?_
    rintro e wm2 ⟨p2, q2, rfl, hi2, hb2⟩
    refine ⟨_, rfl, ?_⟩
    simp only [Act.put, List.setIfInBounds_toArray, List.set_cons_zero, List.set_cons_succ]
    refine hK.out _ _ (fun _ => hkeep _ (by (repeat (first | exact c_refl _ | refine c_drew ?_ | refine c_alloc ?_ _ | refine c_call ?_ (by assumption))); first | done | fail "chain")) ?_
    clear hK K
    refine oneT 15 (by kernel_rfl) rfl (fun K hK => ?_)
    refine step_callF (by rfl) (some 110) rfl 49 _ _ rfl [.agg #[.int .u64 (p2 : Int), .int .u64 (q2 : Int)], (.int .u64 (x2 : Int)), (.int .u64 (y1 : Int))] rfl hent _ (plus_more _ _ _ _ (by assumption) (by omega) _ _ (by assumption) (by assumption) _) ?_
    rintro e wm3 ⟨p3, q3, rfl, hi3, hb3⟩
    refine ⟨_, rfl, ?_⟩
    simp only [Act.put, List.setIfInBounds_toArray, List.set_cons_zero, List.set_cons_succ]
    refine hK.out _ _ (fun _ => hkeep _ (by (repeat (first | exact c_refl _ | refine c_drew ?_ | refine c_alloc ?_ _ | refine c_call ?_ (by assumption))); first | done | fail "chain")) ?_
    clear hK K
    refine oneT 20 (by kernel_rfl) rfl (fun K hK => ?_)
    refine step_callF (by rfl) (some 115) rfl 49 _ _ rfl [.agg #[.int .u64 (p3 : Int), .int .u64 (q3 : Int)], (.int .u64 (x3 : Int)), (.int .u64 (y0 : Int))] rfl hent _ (plus_more _ _ _ _ (by assumption) (by omega) _ _ (by assumption) (by assumption) _) ?_
    rintro e wm4 ⟨p4, q4, rfl, hi4, hb4⟩
    refine ⟨_, rfl, ?_⟩
    simp only [Act.put, List.setIfInBounds_toArray, List.set_cons_zero, List.set_cons_succ]
    refine hK.out _ _ (fun _ => hkeep _ (by (repeat (first | exact c_refl _ | refine c_drew ?_ | refine c_alloc ?_ _ | refine c_call ?_ (by assumption))); first | done | fail "chain")) ?_
    clear hK K
    refine oneT 24 (by kernel_rfl) rfl (fun K hK => ?_)
    refine step_callF (by rfl) (some 119) rfl 49 _ _ rfl [.agg #[.int .u64 (p4 : Int), .int .u64 (q4 : Int)], (.int .u64 (x4 : Int)), (.int .u64 (z4 : Int))] rfl hent _ (plus_more _ _ _ _ (by assumption) (by omega) _ _ (by assumption) (by assumption) _) ?_
    rintro e wm5 ⟨p5, q5, rfl, hi5, hb5⟩
    refine ⟨_, rfl, ?_⟩
    simp only [Act.put, List.setIfInBounds_toArray, List.set_cons_zero, List.set_cons_succ]
    refine hK.out _ _ (fun _ => hkeep _ (by (repeat (first | exact c_refl _ | refine c_drew ?_ | refine c_alloc ?_ _ | refine c_call ?_ (by assumption))); first | done | fail "chain")) ?_
    clear hK K
    refine oneT 26 (by kernel_rfl) rfl (fun K hK => ?_)
    refine step_store_row rfl 72 (.tmp 12) (.tmp 119) rfl _ (wideC p5 q5) rfl rfl 72 #[.int .u64 0, .int .u64 0] (by (repeat (first | exact RowC.new _ _ _ | refine RowC.call ?_ (by assumption))); first | done | fail "row") info_wide rfl (one_wide p5 q5) ?_
    refine hK.out _ _ (fun h => absurd rfl h) ?_
    clear hK K
    refine doneT (by kernel_rfl) ?_ _
    exact h _ p5 q5 _ _ _ _ _ _ _ _ _ _ _ _ _ _ _ _ _ _ _ _ _ _ _ _ _ _ hi5 (fun L hL => Ms.finRow hL (by (repeat (first | exact c_refl _ | refine c_drew ?_ | refine c_alloc ?_ _ | refine c_call ?_ (by assumption))); first | done | fail "chain") ((show Below v1.heap.size v1 v1.drew from (by (repeat (first | exact c_refl _ | refine c_drew ?_ | refine c_alloc ?_ _ | refine c_call ?_ (by assumption))); first | done | fail "chain")).size) (by (repeat (first | exact RowC.new _ _ _ | refine RowC.call ?_ (by assumption))); first | done | fail "row") _)

end Go.Proofs.Ytimgnpcojamafaa
