import Derived.Test.YtmganbdbihjbmaaK45
import Derived.Test.YtmganbdbihjbmaaK46
import Derived.Test.YtmganbdbihjbmaaK47
/-
  WHAT PlanReaches' walk asks of a member's way up, where another one changes.
-/
set_option linter.unusedVariables false
namespace Go.Proofs.Ytmganbdbihjbmaa
open Go.RowKit

theorem castL_count (c : Nat) : ∀ l : List Nat, (castL l).count (c : Int) = l.count c
  | [] => rfl
  | x :: l => by
    rw [castL, List.map_cons, ← castL, List.count_cons, List.count_cons, castL_count c l]
    by_cases h : x = c
    · subst h; simp
    · have h2 : ¬ (x : Int) = (c : Int) := by omega
      simp [h, h2]
/-- all that the walk asks of one member's way -/
structure RWF (now : List RN) (kp : List Int) (at_ : Nat) (P : List Nat) : Prop where
  pos : 0 < P.length
  lt : ∀ k ∈ P, k < now.length
  last : P.getLast? = some (now.length - 1)
  root : kpA kp (now.length - 1) = -1
  kept : ∀ i (h : i < P.length), kpA kp P[i] = -1 ∨ 0 ≤ kpA kp P[i]
  up : ∀ i (h : i + 1 < P.length), kpA kp P[i] = -1 → kpA kp P[i + 1] = -1
  step : ∀ i (h : i + 1 < P.length), (P[i + 1] ∈ posT kp 0 now ↔ kpA kp P[i + 1] = -1) ∧
    (((stepK now kp at_ P[i + 1]).from_ = (P[i] : Nat) ∧ (stepK now kp at_ P[i + 1]).send.count (P[i] : Int) = 0) ∨ ((stepK now kp at_ P[i + 1]).from_ ≠ (P[i] : Nat) ∧ (stepK now kp at_ P[i + 1]).send.count (P[i] : Int) = 1))
section
variable {kind : Int} {oids ids tl : List Int} {by_ : Int} {was now : List RN}
/-- a way up on which its leaf is another one, is another one all along -/
theorem way_gone {kp : List Int} {P : List Nat} (hup : ∀ i (h : i + 1 < P.length), kpA kp P[i] = -1 → kpA kp P[i + 1] = -1) (h0 : ∀ h : 0 < P.length, kpA kp P[0] = -1) : ∀ i (h : i < P.length), kpA kp P[i] = -1
  | 0, h => h0 h
  | i + 1, h => hup i h (way_gone hup h0 i (by omega))
theorem up_gone {kp : List Int} {p : Nat} {P : List Nat} (hn : NF kind ids now) (hW : WayF now p P) (hkk : ∀ (i : Nat) (x : RN), now[i]? = some x → kpA kp i ≠ -1 → ∀ c ∈ x.kids, kpA kp c ≠ -1) : ∀ i (h : i + 1 < P.length), kpA kp P[i] = -1 → kpA kp P[i + 1] = -1 := fun i h e => by
  obtain ⟨x, hx, hm⟩ := way_kid hn hW h
  by_cases e2 : kpA kp P[i + 1] = -1
  · exact e2
  · exact absurd e (hkk _ x hx e2 _ hm)
theorem leaf_gone {p : Nat} {P : List Nat} (hw : NF kind oids was) (hn : NF kind ids now) (hW : WayF now p P) (hb : ids.getD p 0 = by_) (h0 : 0 < P.length) : kpA (keepT was ids (lfT was oids tl by_) now) P[0] = -1 := by
  obtain ⟨x, hx, h1, h2⟩ := way_first hn hW h0
  rcases keep_ok (touched := tl) (by_ := by_) hw hn _ x hx with h | ⟨q, y, _, _, h3⟩
  · exact h
  · exfalso
    have hs := hn.span x (List.mem_of_getElem? hx)
    have hat := hn.leafAt hx h1
    have := (h3.mem 0 (by omega)).2
    rw [Nat.add_zero, show x.fr = p by omega, hb, goneT] at this
    simp at this
theorem rwf_facts {p pb : Nat} {P PB : List Nat} (at_ : Nat) (hw : NF kind oids was) (hn : NF kind ids now) (hW : WayF now p P) (hB : WayF now pb PB) (hb : ids.getD pb 0 = by_) :
    RWF now (keepT was ids (lfT was oids tl by_) now) at_ P ∧ (p = pb → ∀ i (h : i < P.length), kpA (keepT was ids (lfT was oids tl by_) now) P[i] = -1) := by
  have hkk : ∀ (i : Nat) (x : RN), now[i]? = some x → kpA (keepT was ids (lfT was oids tl by_) now) i ≠ -1 → ∀ c ∈ x.kids, kpA (keepT was ids (lfT was oids tl by_) now) c ≠ -1 := fun i x hx hk c hc => keep_kids (touched := tl) (by_ := by_) hw hn hx hk hc
  have hin := keep_in (ids := ids) (now := now) (touched := tl) (by_ := by_) hw
  have hl := fun h => leaf_gone (tl := tl) hw hn hB hb h
  have hlP := fun (e : p = pb) h => leaf_gone (by_ := by_) (tl := tl) hw hn hW (by rw [e]; exact hb) h
  generalize keepT was ids (lfT was oids tl by_) now = kp at *
  have hupP := up_gone hn hW hkk
  have hupB := up_gone hn hB hkk
  have hpos : ∀ {p' : Nat} {P' : List Nat}, WayF now p' P' → 0 < P'.length := fun h => by
    obtain ⟨a, t, x, e, _⟩ := h.first
    rw [e]; simp
  have hPB := hpos hB
  have hlt : ∀ k ∈ P, k < now.length := fun k hk => by
    obtain ⟨y, hy, _⟩ := hW.has k hk
    exact (List.getElem?_eq_some_iff.1 hy).1
  refine ⟨⟨hpos hW, hlt, hW.last, ?_, fun i h => ?_, hupP, fun i h => ⟨?_, ?_⟩⟩, fun e => way_gone hupP (hlP e)⟩
  · have h1 := way_gone hupB hl (PB.length - 1) (by omega)
    have h2 := hB.last
    rw [List.getLast?_eq_getElem?, List.getElem?_eq_getElem (show PB.length - 1 < PB.length by omega)] at h2
    rw [Option.some.inj h2] at h1
    exact h1
  · rcases hin _ (hlt _ (List.getElem_mem h)) with h1 | ⟨q, h1, _⟩
    · exact .inl h1
    · exact .inr (by omega)
  · obtain ⟨x, hx, hm⟩ := way_kid hn hW h
    have hlv := way_lev hn hW h hx
    rw [posT_in]
    constructor
    · rintro ⟨y, hy, hs⟩
      rw [isStep, Bool.and_eq_true] at hs
      simpa using hs.2
    · intro e
      exact ⟨x, hx, by rw [isStep, e]; simp [hlv]⟩
  · obtain ⟨x, hx, hm⟩ := way_kid hn hW h
    rw [stepK_at hx]
    simp only [stepT, castL_count]
    exact stK_count _ (hn.nodup hx) hm
end
theorem ways_reach {kind : Int} {oids ids : List Int} {oll ll : List (List Int)} (tl : List Int) {by_ id : Int} (hmo : mayB kind oids oll = true) (hms : mayB kind ids ll = true) (hb : by_ ∈ ids) (hi : id ∈ ids) :
    RWF (wasU kind ids ll) (keepU kind oids oll ids ll tl by_) (belT ids by_) (pathI kind ids ll id) ∧ (id = by_ → ∀ i (h : i < (pathI kind ids ll id).length), kpA (keepU kind oids oll ids ll tl by_) (pathI kind ids ll id)[i] = -1) ∧ pathE kind ids ll id = 0 := by
  have h0 : 0 < ids.length := List.length_pos_of_mem hi
  have hT := top_facts hms h0
  have hwas : wasU kind ids ll = (treeOf kind (lvN ll) (lvN ll).length 0).flat 0 (-1) := by rw [wasU, nodesU, if_neg (by omega)]
  have NFw := (nf_was hmo).2
  have NFs := (nf_was hms).2
  obtain ⟨hpa, hpl⟩ := path_top hT hms (isT_mem.2 hi)
  obtain ⟨_, hpb⟩ := path_top hT hms (isT_mem.2 hb)
  have hW := way_top hT hpl
  have hB := way_top hT hpb
  rw [← hwas] at hW hB
  have hbid : ids.getD (belT ids by_) 0 = by_ := by
    obtain ⟨hb1, e⟩ := rise_bel ids by_ hT.rise (isT_mem.2 hb)
    rw [getD_at (List.getElem?_eq_getElem hb1), e]
  have hR := rwf_facts (tl := tl) (belT ids by_) NFw NFs hW hB hbid
  refine ⟨?_, fun e i h => ?_, by rw [pathE, if_pos hms, if_pos (isT_mem.2 hi)]⟩
  · rw [hpa]
    exact hR.1
  · have := hR.2 (by rw [e])
    simp only [hpa] at h ⊢
    exact this i h
/-- the map tells of the first so many steps -/
def StepF (wA : World) (ss : List SI) (f : Int → Option Value) : Prop :=
  (∀ k v, f k = some v → ∃ x ∈ ss, x.node = k ∧ ∃ Au cu, v = .agg (siC x (.slice Au x.send.length cu)).toArray ∧ Rd wA wA.heap.size Au x.send.length (x.send.map iv)) ∧ ∀ x ∈ ss, (f x.node).isSome = true
theorem StepF.nil (wA : World) : StepF wA [] (fun _ => none) := ⟨fun k v h => by simp at h, fun x h => by simp at h⟩
theorem StepF.snoc {wA : World} {ss : List SI} {f : Int → Option Value} {j : Nat} {x : SI} (h : StepF wA (ss.take j) f) (hx : ss[j]? = some x) {Au : Option Addr} {cu : Nat} (hr : Rd wA wA.heap.size Au x.send.length (x.send.map iv)) :
    StepF wA (ss.take (j + 1)) (fun y => if y = x.node then some (.agg (siC x (.slice Au x.send.length cu)).toArray) else f y) := by
  obtain ⟨hj, e⟩ := List.getElem?_eq_some_iff.1 hx
  rw [List.take_succ_eq_append_getElem hj, e]
  refine ⟨fun k v hv => ?_, fun y hy => ?_⟩
  · dsimp only at hv
    by_cases c : k = x.node
    · rw [if_pos c] at hv
      exact ⟨x, by simp, c.symm, Au, cu, (Option.some.inj hv).symm, hr⟩
    · rw [if_neg c] at hv
      obtain ⟨y, hy, r⟩ := h.1 k v hv
      exact ⟨y, by simp [hy], r⟩
  · dsimp only
    by_cases c : y.node = x.node
    · rw [if_pos c]; rfl
    · rw [if_neg c]
      rcases List.mem_append.1 hy with hy | hy
      · exact h.2 y hy
      · rw [List.mem_singleton] at hy
        exact absurd (by rw [hy]) c
theorem stepK_node {now : List RN} {kp : List Int} {at_ k : Nat} (h : k ∈ posT kp 0 now) : (stepK now kp at_ k).node = (k : Nat) ∧ k < now.length := by
  obtain ⟨x, hx, _⟩ := posT_in.1 h
  rw [stepK_at hx]
  exact ⟨rfl, (List.getElem?_eq_some_iff.1 hx).1⟩
theorem node_i64 {now : List RN} {kp : List Int} {at_ : Nat} {x : SI} (hl : now.length ≤ 2000) (h : x ∈ (posT kp 0 now).map (stepK now kp at_)) : I64 x.node := by
  obtain ⟨k, hk, rfl⟩ := List.mem_map.1 h
  obtain ⟨e, h2⟩ := stepK_node (at_ := at_) hk
  rw [e]
  exact ⟨by omega, by omega⟩
/-- what the whole map tells of a node -/
theorem StepF.at {wA : World} {now : List RN} {kp : List Int} {at_ : Nat} {f : Int → Option Value} (h : StepF wA ((posT kp 0 now).map (stepK now kp at_)) f) (k : Nat) :
    (k ∈ posT kp 0 now → ∃ Au cu, f (k : Int) = some (.agg (siC (stepK now kp at_ k) (.slice Au (stepK now kp at_ k).send.length cu)).toArray) ∧ Rd wA wA.heap.size Au (stepK now kp at_ k).send.length ((stepK now kp at_ k).send.map iv)) ∧ (¬ k ∈ posT kp 0 now → f (k : Int) = none) := by
  have hk : ∀ v, f (k : Int) = some v → k ∈ posT kp 0 now ∧ ∃ Au cu, v = .agg (siC (stepK now kp at_ k) (.slice Au (stepK now kp at_ k).send.length cu)).toArray ∧ Rd wA wA.heap.size Au (stepK now kp at_ k).send.length ((stepK now kp at_ k).send.map iv) := fun v hv => by
    obtain ⟨x, hx, e, r⟩ := h.1 _ v hv
    obtain ⟨k', hk', rfl⟩ := List.mem_map.1 hx
    rw [(stepK_node hk').1] at e
    obtain rfl : k' = k := by omega
    exact ⟨hk', r⟩
  refine ⟨fun hm => ?_, fun hm => ?_⟩
  · have h1 := h.2 _ (List.mem_map_of_mem hm)
    rw [(stepK_node hm).1] at h1
    obtain ⟨v, hv⟩ := Option.isSome_iff_exists.1 h1
    obtain ⟨_, Au, cu, rfl, hr⟩ := hk v hv
    exact ⟨Au, cu, hv, hr⟩
  · cases hv : f (k : Int) with
    | none => rfl
    | some v => exact absurd (hk v hv).1 hm
/-- has another one been met on the way, behind the leaf? -/
def openB (kp : List Int) (P : List Nat) (j : Nat) : Bool := decide (2 ≤ j) && (kpA kp (P.getD (j - 1) 0) == -1)
theorem openB_succ (kp : List Int) {P : List Nat} {j : Nat} (h0 : 1 ≤ j) (h : j < P.length) : openB kp P (j + 1) = (kpA kp P[j] == -1) := by
  rw [openB, decide_eq_true (by omega), Bool.true_and, Nat.add_sub_cancel, List.getD_eq_getElem?_getD, List.getElem?_eq_getElem h]
  rfl
theorem openB_kept {now : List RN} {kp : List Int} {at_ : Nat} {P : List Nat} (hR : RWF now kp at_ P) {i : Nat} (h : i + 1 < P.length) (hk : ¬ kpA kp P[i + 1] = -1) : openB kp P (i + 1) = false := by
  rcases Nat.eq_zero_or_pos i with rfl | h0
  · rfl
  · rw [openB_succ kp h0 (by omega), beq_eq_false_iff_ne]
    exact fun e => hk (hR.up i h e)
theorem openB_end {now : List RN} {kp : List Int} {at_ : Nat} {P : List Nat} (hR : RWF now kp at_ P) {m : Nat} (hl : P.length = m + 1) : openB kp P (m + 1) = decide (1 ≤ m) := by
  rcases Nat.eq_zero_or_pos m with rfl | h0
  · rfl
  · rw [openB_succ kp h0 (by omega), decide_eq_true (show 1 ≤ m from h0), beq_iff_eq]
    have h1 := hR.last
    rw [List.getLast?_eq_getElem?, List.getElem?_eq_getElem (show P.length - 1 < P.length by omega)] at h1
    have h2 := Option.some.inj h1
    have h3 := hR.root
    rw [← h2] at h3
    simpa [hl] using h3
theorem way_last {now : List RN} {kp : List Int} {at_ : Nat} {P : List Nat} (hR : RWF now kp at_ P) {m : Nat} (hl : P.length = m + 1) : (castL P).getD m 0 = ((now.length - 1 : Nat) : Int) := by
  have h1 := hR.last
  rw [List.getLast?_eq_getElem?, hl, Nat.add_sub_cancel] at h1
  exact getD_at (by rw [castL, List.getElem?_map, h1]; rfl)
theorem Path11_eq (w : World) (kind : Int) (ids : List Int) (ll : List (List Int)) (id : Int) : Path11Post w kind ids ll id = fun e w' => Below w.heap.size w w' ∧ ∃ A n c, e = .returned (.tuple #[.slice A n c, .int .i64 (pathE kind ids ll id)]) ∧ n ≤ c ∧ c ≤ maxLen ∧ Rd w' w'.heap.size A n (kidV (pathI kind ids ll id)) := rfl
end Go.Proofs.Ytmganbdbihjbmaa

/-
  THE WALK of PlanReaches (coterielaw12). Printed by gen_planlaw.py.
-/
set_option linter.unusedVariables false
namespace Go.Proofs.Ytmganbdbihjbmaa
open Go.RowKit

set_option maxRecDepth 100000 in
set_option maxHeartbeats 16000000 in
theorem core_PlanReaches (kind : Int) (Ax : Option Addr) (nx cx : Nat) (xs : List Int) (Ao : Option Addr) (no co : Nat) (out : List Int) (An : Option Addr) (nn cn : Nat) (inn : List Int) (Am : Option Addr) (nm cm : Nat) (more : List Int) (by_ : Int) (w : World)
    (hx : Rd w w.heap.size Ax nx (xs.map iv)) (hro : Rd w w.heap.size Ao no (out.map iv)) (hrn : Rd w w.heap.size An nn (inn.map iv)) (hrm : Rd w w.heap.size Am nm (more.map iv)) (hm64 : ∀ x ∈ more, I64 x) (hb1 : -9223372036854775808 ≤ by_) (hb2 : by_ ≤ 9223372036854775807) :
    Calls Try.prog 5 #[.int .i64 kind, .slice Ax nx cx, .slice Ao no co, .slice An nn cn, .slice Am nm cm, .int .i64 by_] w fun e w' => e = .returned (.bool true) ∧ Below w.heap.size w w' := by
  obtain ⟨i0, hi0, hz0, hz1, hz2⟩ := info_parts intInfo
  have Hxl := Lib.hid (show xs.length = nx by have := hx.len; rwa [List.length_map] at this)
  have Hol := Lib.hid (show out.length = no by have := hro.len; rwa [List.length_map] at this)
  have Hil := Lib.hid (show inn.length = nn by have := hrn.len; rwa [List.length_map] at this)
  have Hml := Lib.hid (show more.length = nm by have := hrm.len; rwa [List.length_map] at this)
  go_enter Try.func5, Try.ntmps5
  go_wp2_with fail
  refine (live12 _).mono ?_
  rintro e w1 ⟨he, hold1⟩
  subst he
  by_cases c1 : nx ≤ 100
  case neg =>
    have z1 : (100 : Int) < (nx : Int) := by omega
    go_wp2_with fail
    go_ret
    exact ⟨rfl, hold1⟩
  have z1 : ¬ (100 : Int) < (nx : Int) := by omega
  by_cases c2 : no ≤ 40
  case neg =>
    have z2 : (40 : Int) < (no : Int) := by omega
    go_wp2_with fail
    go_ret
    exact ⟨rfl, hold1⟩
  have z2 : ¬ (40 : Int) < (no : Int) := by omega
  by_cases c3 : nn ≤ 40
  case neg =>
    have z3 : (40 : Int) < (nn : Int) := by omega
    go_wp2_with fail
    go_ret
    exact ⟨rfl, hold1⟩
  have z3 : ¬ (40 : Int) < (nn : Int) := by omega
  by_cases c4 : nm ≤ 40
  case neg =>
    have z4 : (40 : Int) < (nm : Int) := by omega
    go_wp2_with fail
    go_ret
    exact ⟨rfl, hold1⟩
  have z4 : ¬ (40 : Int) < (nm : Int) := by omega
  have hcg := Changed_any Ax nx cx xs Ao no co out An nn cn inn Am nm cm more w1 ((hx.below hold1).more hold1.size) ((hro.below hold1).more hold1.size) ((hrn.below hold1).more hold1.size) ((hrm.below hold1).more hold1.size) c1 c2 c3 c4
  by_cases hk0 : kind = 1 ∨ kind = 2
  case neg =>
    have k1b : (kind != 1) = true := by simp only [bne_iff_ne, ne_eq]; exact fun h => hk0 (.inl h)
    have k2b : (kind != 2) = true := by simp only [bne_iff_ne, ne_eq]; exact fun h => hk0 (.inr h)
    clear hk0
    go_wp2_with fail
    go_ret
    exact ⟨rfl, hold1⟩
  have Hk := Lib.hid hk0
  clear hk0
  go_upto_region 4 with fail
  rename_i K6 h6 K4 h4
  have hall : ∀ (v37 v38 v39 v40 v41 v42 v43 v44 v45 v46 v47 v48 v49 v50 v51 v52 v53 v54 v55 v56 v57 v58 v59 v60 v61 v62 v63 v64 v65 : Value), K6 ⟨#[.int .i64 kind, .slice Ax nx cx, .slice Ao no co, .slice An nn cn, .slice Am nm cm, .int .i64 by_, undef, undef, undef, undef, undef, undef, .bool false, .bool true, undef, undef, undef, undef, undef, undef, undef, undef, undef, undef, undef, undef, undef, undef, undef, undef, undef, undef, undef, undef, undef, undef, undef, v37, v38, v39, v40, v41, v42, v43, v44, v45, v46, v47, v48, v49, v50, v51, v52, v53, v54, v55, v56, v57, v58, v59, v60, v61, v62, v63, v64, v65, undef, undef, undef, undef, undef, undef, undef, undef, undef, undef, undef, undef, undef, undef, undef, undef, undef, undef, undef, undef, undef, undef, undef, undef, undef, undef, undef, undef, undef, undef, undef, undef, undef, undef, undef, undef, undef, undef, undef, undef, undef, undef, undef, undef, undef, undef, undef, undef, undef, undef, undef, undef, undef, undef, undef, undef, undef, undef, undef, undef, undef, undef, undef, undef, undef, undef, undef, undef, undef, undef, undef, undef, undef, undef, undef, undef, undef, undef, undef, undef, undef, undef, undef, undef, undef, undef, undef, undef, undef, undef, undef, undef, undef, undef, undef, undef, undef, undef, undef, undef, undef, undef, undef, undef, undef, undef, undef, undef, undef, undef, undef, undef, undef, undef, undef, undef, undef, undef, undef, undef, undef, undef, undef, undef, undef, undef, undef, undef, undef, undef, undef, undef, undef, undef, undef, undef, undef, undef, undef, undef, undef, undef, undef, undef, undef, undef, undef, undef, undef, undef, undef, undef, undef, undef, undef, undef, undef, undef, undef, undef, undef, undef, undef, undef, undef, undef, undef, undef, undef, undef, undef, undef, undef, undef, undef, undef, undef, undef, undef], []⟩ w1 := by
    intro v37 v38 v39 v40 v41 v42 v43 v44 v45 v46 v47 v48 v49 v50 v51 v52 v53 v54 v55 v56 v57 v58 v59 v60 v61 v62 v63 v64 v65
    clear h4
    refine h6 _ _ ?_
    clear h6
    go_wp2_with fail
    refine hcg.mono ?_
    rintro e w2 ⟨hb2', Oi, oi, ocap, Ol, ol, olc, Ai, ni, ci, Al, nl, cl, At, nt, ct, lo, eo, la, ea, he, hO, hOe, hA, hAe, hown, hsp⟩
    subst he
    have hS := hA.sh.more hAe
    have hOR := hO.sh.more hOe
    have hB0 := (((Ms.nil w2).box 25 sh0).box 25 sh0)
    simp only [World.size_alloc] at hB0
    have hB1 := (hB0.subT (L' := [(w2.heap.size, 25, sh0), (w2.heap.size + 1, 25, sh0)]) (fun p hp => by simp only [List.mem_cons, List.not_mem_nil, or_false] at hp ⊢; rcases hp with rfl | rfl <;> simp)).setT (Nat.le_refl _) (fun p hp => by simp only [List.mem_cons, List.not_mem_nil, or_false] at hp; subst hp; simp) (shV Oi oi ocap Ol ol olc)
    have hrA := hB1.get 1 rfl
    have hM := (hB1.subT (L' := [(w2.heap.size + 1, 25, sh0), (w2.heap.size, 25, shV Oi oi ocap Ol ol olc)]) (fun p hp => by simp only [List.mem_cons, List.not_mem_nil, or_false] at hp ⊢; rcases hp with rfl | rfl <;> simp)).setT (Nat.le_succ _) (fun p hp => by simp only [List.mem_cons, List.not_mem_nil, or_false] at hp; subst hp; simp) (shV Ai ni ci Al nl cl)
    have hrO := hB0.get 1 rfl
    go_upto_region 7 with (first
      | ((with_reducible show wpList _ _ _ (⟨none, Op.store 25 (.tmp 14) _, _, _, _, _⟩ :: _) _ _); refine wpList_store_row rfl 25 (.tmp 14) (.tmp 73) rfl w2.heap.size (shV Oi oi ocap Ol ol olc) rfl rfl 25 _ hrO (sizeSh _ _ _ _ _ _) rfl (one_sh _ _ _ _ _ _) ?_)
      | ((with_reducible show wpList _ _ _ (⟨none, Op.store 25 (.tmp 15) _, _, _, _, _⟩ :: _) _ _); refine wpList_store_row rfl 25 (.tmp 15) (.tmp 74) rfl (w2.heap.size + 1) (shV Ai ni ci Al nl cl) rfl rfl 25 _ hrA (sizeSh _ _ _ _ _ _) rfl (one_sh _ _ _ _ _ _) ?_))
    try simp only [Act.put]
    refine wp_gen (fun wx => Ms w2 wx [(w2.heap.size + 1, 25, shV Ai ni ci Al nl cl), (w2.heap.size, 25, shV Oi oi ocap Ol ol olc)]) hM ?_
    clear hB0 hB1 hrA hrO hM hcg
    rintro w3 hM
    have hold2 := hold1.trans (hb2'.mono hold1.size)
    have Hsz12 := Lib.hid hb2'.size
    have hb12 := hb2'
    clear hb2' hx hro hrn hrm
    by_cases hn0 : ni = 0
    case pos =>
      subst hn0
      have hold3 := hold2.trans (hM.old.mono hold2.size)
      clear hM
      go_wp2_with fail
      go_ret
      exact ⟨rfl, hold3⟩
    have hn1 : 0 < ni := by omega
    have hni := hS.hni
    have hfS := few_of_chk (chg_chk xs out inn)
    have hfO := few_of_chk (old_chk xs)
    have hn2 : ni ≤ 1000000 := by have := (chkT_lv (chg_chk xs out inn)).1; omega
    obtain ⟨r, d, zr, zw, zd, hdn⟩ := draw_at by_ ni hb1 hb2 hn1 hn2
    have hMd := hM.drew
    have c0 := (hMd.get 0 rfl).cell (i := 0) (v := .slice Ai ni ci) rfl
    have hSd := hS.below hMd.old
    obtain ⟨bS, oS, rfl, hbS, cS⟩ := rd_num hSd.hids hdn
    have hby : (chgT xs out inn).1.1.getD d 0 ∈ (chgT xs out inn).1.1 := by
      rw [getD_at (List.getElem?_eq_getElem (show d < (chgT xs out inn).1.1.length by omega))]
      exact List.getElem_mem _
    have hby64 := okI_i64 (chg_chk xs out inn) hby
    obtain ⟨hmk, hmo, hms⟩ := chg_make (kind := kind) Hk.out xs out inn hby
    generalize (chgT xs out inn).1.1.getD d 0 = by2 at *
    have zn0 : ¬ (ni : Int) = 0 := by omega
    have zn1 : ((ni : Int) == 0) = false := by simpa using zn0
    have zdd : (d : Int) < (ni : Int) := by omega
    have znp : (0 : Int) < (ni : Int) := by omega
    go_upto_region 9 with fail
    try simp only [Act.put]
    refine wp_region_still_lit (by kernel_rfl) (by kernel_rfl) ?_
    repeat (with_reducible refine wpStill_step (fun K hK => ?_); go_simp; with_reducible refine hK _ ?_; clear hK K)
    with_reducible refine wpStill_nil ?_
    change Exit.then _ _ Exit.normal _ w3.drew
    have hS4 := hSd.more hMd.old.size
    have hO4 := (hOR.below hMd.old).more hMd.old.size
    have hT4 := ((Rd.of_own hown).below hMd.old).more hMd.old.size
    obtain ⟨_, _, e0, hcT, hmT⟩ := own_formT hown
    injection e0 with e0 _ e1
    subst e0 e1
    have hrO := hMd.get 1 rfl
    have hrA := hMd.get 0 rfl
    have hold4 := hold2.trans (hMd.old.mono hold2.size)
    have hT64 := Lib.hid (show ∀ x ∈ (chgT xs out inn).2 ++ more, I64 x from fun x hx => (List.mem_append.1 hx).elim (chg_i64 xs out inn x) (hm64 x))
    have HL := Lib.hid (show (oldS xs).1.length ≤ 1000 ∧ (chgT xs out inn).1.1.length ≤ 1000 from ⟨(chkT_lv (old_chk xs)).1, (chkT_lv (chg_chk xs out inn)).1⟩)
    clear hM hMd c0 hSd cS hown hO hA hS hOR hold1 hold2 hsp
    generalize w3.drew = w4 at *
    generalize (chgT xs out inn).2 ++ more = tl at *
    generalize (chgT xs out inn).1.1 = ids at *
    generalize (chgT xs out inn).1.2 = ll at *
    generalize (oldS xs).1 = oids at *
    generalize (oldS xs).2 = oll at *
    have hmkc := PMake_any kind Oi oi ocap Ol ol olc oids oll (some ⟨bS, oS, none⟩) ni ci Al nl cl ids ll At nt ct tl by2 w4 hO4 hS4 hfO hfS hT4 (Nat.le_trans hcT hmT) (fun _ x hx => hT64.out x hx) hby64
    go_wp2_with (first
      | ((with_reducible show wpList _ _ _ (⟨some 99, _, _, _, _, _⟩ :: _) _ _); refine wpList_loadC (by kernel_rfl) 25 (.tmp 14) rfl w2.heap.size rfl 25 (shV Oi oi ocap Ol ol olc) _ hrO Try.underlying25 rfl shapeInfo2 ?_)
      | ((with_reducible show wpList _ _ _ (⟨some 100, _, _, _, _, _⟩ :: _) _ _); refine wpList_loadC (by kernel_rfl) 25 (.tmp 15) rfl (w2.heap.size + 1) rfl 25 (shV (some ⟨bS, oS, none⟩) ni ci Al nl cl) _ hrA Try.underlying25 rfl shapeInfo2 ?_))
    refine hmkc.mono ?_
    rintro e w5 ⟨hb5, Ak, nk, ck, As, ns, cs, he, hPl⟩
    subst he
    have hM5 := ((Ms.nil w4).call hb5).put 28 zP (plV Ak nk ck As ns cs)
    have hB5 := below_setRow ((Below.refl w5.heap.size w5).alloc (Nat.le_refl _) (.cells zP 28)) (Nat.le_refl _) (plV Ak nk ck As ns cs)
    have hPl5 := hPl.below hB5
    clear hmkc hb5 hPl
    go_upto_region 11 with ((with_reducible show wpList _ _ _ (⟨none, Op.store 28 _ _, _, _, _, _⟩ :: _) _ _); refine wpList_store_row rfl 28 (.tmp 18) (.tmp 104) rfl w5.heap.size (plV Ak nk ck As ns cs) rfl rfl 28 zP (RowC.new _ _ _) plInfo2 rfl (by simp [plV, Value.oneCell']) ?_)
    try simp only [Act.put]
    obtain ⟨g2, hg2⟩ : ∃ g, g = w5.heap.size := ⟨_, rfl⟩
    rw [← hg2] at hM5 hPl5 ⊢
    refine wp_gen (fun wx => Ms w4 wx [(g2, 28, plV Ak nk ck As ns cs)] ∧ PlR wx g2 Ak nk ck As ns cs (keepM kind oids oll ids ll tl by2) (stepsM kind oids oll ids ll tl by2)) ⟨hM5, hPl5⟩ ?_
    clear hM5 hPl5 hB5 hg2
    rintro w6 ⟨hM6, hPl⟩
    have hb6 := hM6.old
    have hnS := PNodes_any kind (some ⟨bS, oS, none⟩) ni ci Al nl cl ids ll w6 ((hS4.below hb6).more hb6.size) hfS
    go_wp2_with ((with_reducible show wpList _ _ _ (⟨some 108, _, _, _, _, _⟩ :: _) _ _); refine wpList_loadC (by kernel_rfl) 25 (.tmp 15) rfl (w2.heap.size + 1) rfl 25 (shV (some ⟨bS, oS, none⟩) ni ci Al nl cl) _ (hrA.call hb6) Try.underlying25 rfl shapeInfo2 ?_)
    refine hnS.mono ?_
    rintro e wA ⟨hbA, Bb, mb, db, he, hNb⟩
    subst he
    have hMA := hM6.call hbA
    have hPlA := hPl.below (hbA.mono (Nat.le_of_lt (hM6.get 0 rfl).lt))
    clear hM6 hPl hb6 hnS
    rw [show makeE kind oids oll ids ll by2 = 0 by rw [makeE, hmk]; rfl, show mayE kind ids ll = 0 by rw [mayE, hms]; rfl]
    rw [show keepM kind oids oll ids ll tl by2 = keepU kind oids oll ids ll tl by2 by rw [keepM, hmk]; rfl, show stepsM kind oids oll ids ll tl by2 = stepsT (wasU kind ids ll) (keepU kind oids oll ids ll tl by2) (belT ids by2) 0 (wasU kind ids ll) by rw [stepsM, hmk]; rfl] at hPlA
    obtain ⟨es, NFs⟩ := nf_was hms
    rw [es] at hNb
    have hls := nodesU_len kind ids ll
    rw [es, List.length_map] at hls
    have H3 := Lib.hid (nf_three NFs (show 1 ≤ kind by have h := hms; rw [mayB, Bool.and_eq_true, Bool.or_eq_true, decide_eq_true_eq, decide_eq_true_eq] at h; omega))
    have HW := Lib.hid (fun id (hi : id ∈ ids) => ways_reach tl hmo hms hby hi)
    have hkl : (keepU kind oids oll ids ll tl by2).length = (wasU kind ids ll).length := keepT_len _
    have HPL := Lib.hid (pathI_len kind ids ll)
    generalize keepU kind oids oll ids ll tl by2 = kp at *
    generalize wasU kind ids ll = now at *
    generalize belT ids by2 = at_ at *
    rw [stepsT_all] at hPlA
    have hnb : now.length = mb := by have := hNb.len; rwa [List.length_map] at this
    have hnk : kp.length = nk := by have := hPlA.keep.len; rwa [List.length_map] at this
    have hns : ((posT kp 0 now).map (stepK now kp at_)).length = ns := hPlA.steps.len
    have hkb : nk = mb := by omega
    subst hkb
    have hrP := hMA.get 0 rfl
    have hgA := hrP.lt
    have c0 := hrP.cell (i := 0) (v := .slice Ak nk ck) rfl
    have hPlB := hPlA.more (Nat.le_of_lt hgA)
    have hmm := @run_makeMap Try.prog
    have hnk2 : nk ≤ 2000 := by omega
    have Hnb := Lib.hid hnb
    have Hnk := Lib.hid hnk
    have Hns := Lib.hid hns
    have hcP := hPlB.kcap
    have hcB := hNb.cap
    have hcS := hPlB.steps.cap
    unfold maxLen at hcP hcB hcS
    have hnn0 : 0 < nk := by
      have := (HW.out by2 hby).1.pos
      have h2 := (HW.out by2 hby).1.lt _ (List.getElem_mem this)
      omega
    have holdA := hold4.trans (hMA.old.mono hold4.size)
    have hSA := (hS4.below hMA.old).more hMA.old.size
    have hrA1 := hrA.call hMA.old
    have Hni := Lib.hid hS4.hni
    clear es NFs hls hkl hnb hnk hns hMA hPlA hO4 hS4 hT4 hrO hrA hfO hmk hmo hms hbA
    go_upto_region 15 with fail
    try simp only [Act.put]
    obtain ⟨gM, hgM⟩ : ∃ g, g = wA.heap.size := ⟨_, rfl⟩
    have hSM0 := MapS.made wA
    rw [← hgM] at hSM0 ⊢
    refine wp_gen (fun wx => Below wA.heap.size wA wx ∧ MapS wx gM 0 (fun _ => none)) ⟨d_al wA _, hSM0⟩ ?_
    have HgM := Lib.hid hgM
    clear hSM0 hmm c0 hgM
    rintro wB ⟨hbB, hSB⟩
    have c1 := (hrP.call hbB).cell (i := 1) (v := .slice As ns cs) rfl
    have HbB := Lib.hid hbB
    have HSB := Lib.hid hSB
    clear hbB hSB
    go_wp2_with fail
    go_loopw [130] (fun v130 wr => ∃ (j n : Nat) (f : Int → Option Value), j ≤ ns ∧ v130 = .int .i64 (j : Int) ∧ n ≤ j ∧ MapS wr gM n f ∧ Below wA.heap.size wA wr ∧ StepF wA (((posT kp 0 now).map (stepK now kp at_)).take j) f) (fun v130 _ => ns - (intOf v130).toNat)
    case atStart => exact ⟨0, 0, _, by omega, rfl, Nat.le_refl _, HSB.out, HbB.out, StepF.nil _⟩
    case round =>
      clear HSB HbB c1
      obtain ⟨j, n, f, hj, rfl, hnj, hMS, hb, hF⟩ := hrel
      by_cases hjn : j < ns
      · have hjl : j < ((posT kp 0 now).map (stepK now kp at_)).length := by rw [Hns.out]; exact hjn
        have hx := List.getElem?_eq_getElem hjl
        have hx64 := node_i64 (now := now) (kp := kp) (at_ := at_) (by rw [Hnb.out]; exact hnk2) (List.getElem_mem hjl)
        obtain ⟨bb, o, Au, cu, rfl, hbb, hrg, hcu, hmu, hku⟩ := hPlB.steps.told _ _ hx
        have Htk := Lib.hid (hF.snoc hx (cu := cu) hku)
        generalize ((posT kp 0 now).map (stepK now kp at_))[j] = x at *
        have hrg := rangeK hrg hbb hb
        have hP := ((Ms.nil wr).put 51 zS (siC x (.slice Au x.send.length cu)).toArray)
        have zj : (j : Int) < (ns : Int) := by omega
        go_upto_region 18 with (first
          | ((with_reducible show wpList _ _ _ (⟨some 133, _, _, _, _, _⟩ :: _) _ _); refine wpList_load_midG (by kernel_rfl) 51 (.tmp 132) rfl bb (o + j * 3) rfl (siC x (.slice Au x.send.length cu)) _ hrg Try.underlying51 rfl stInfo2 ?_)
          | ((with_reducible show wpList _ _ _ (⟨none, Op.store 51 _ _, _, _, _, _⟩ :: _) _ _); refine wpList_store_row rfl 51 (.tmp 24) (.tmp 133) rfl wr.heap.size (siC x (.slice Au x.send.length cu)).toArray rfl rfl 51 zS (RowC.new _ _ _) stInfo2 rfl (by simp [siC, Value.oneCell']) ?_))
        try simp only [Act.put]
        obtain ⟨g1, hg1⟩ : ∃ g1, g1 = wr.heap.size := ⟨_, rfl⟩
        rw [← hg1] at hP ⊢
        refine wp_gen (fun wx => Ms wr wx [(g1, 51, (siC x (.slice Au x.send.length cu)).toArray)]) hP ?_
        clear hP hrg hx hg1
        rintro wC hMC
        have p0 := (hMC.get 0 rfl).cell (i := 0) (v := .int .i64 x.node) rfl
        obtain ⟨wE, hrun, hSE, hgE⟩ := (hMS.below hMC.old hMS.lt).put hx64 (by simp only [maxLen]; omega) (.agg (siC x (.slice Au x.send.length cu)).toArray)
        have HbE := Lib.hid ((hb.trans (hMC.old.mono hb.size)).grown hgE (Nat.le_trans hb.size hMC.old.size) (fun k hk => by injection hk with hk; exact Nat.le_of_eq (by rw [← hk, HgM.out])))
        have HSE := Lib.hid hSE
        clear hgE hSE hMS hb hF
        go_wp2_with ((with_reducible show wpList _ _ _ (⟨some 137, _, _, _, _, _⟩ :: _) _ _); refine wpList_loadC (by kernel_rfl) 51 (.tmp 24) rfl g1 rfl 51 (siC x (.slice Au x.send.length cu)).toArray _ (hMC.get 0 rfl) Try.underlying51 rfl stInfo2 ?_)
        go_roundw
        case rel => exact ⟨j + 1, n + 1, _, by omega, by go_num, by omega, HSE.out, HbE.out, Htk.out⟩
        case measure => simp [intOf]; omega
      · obtain rfl : j = ns := by omega
        rw [show ((posT kp 0 now).map (stepK now kp at_)).take j = (posT kp 0 now).map (stepK now kp at_) by rw [← Hns.out, List.take_length]] at hF
        have c0 := (hrA1.call hb).cell (i := 0) (v := .slice (some ⟨bS, oS, none⟩) ni ci) rfl
        have hSB := (hSA.below hb).more hb.size
        have hrB := hrA1.call hb
        have hrPB := hrP.call hb
        have hNB := (hNb.below hb).more hb.size
        have hKB := hPlB.keep.below hb
        have hF2 := Lib.hid (fun k => hF.at k)
        have HMB := Lib.hid hMS
        have holdB := holdA.trans (hb.mono holdA.size)
        have hgz := hMS.lt
        have hAz := hb.size
        have HAM := Lib.hid hb
        clear hF hb hPlB hNb hSA hrA1 hrP holdA
        obtain ⟨wM, hwM⟩ : ∃ wM, wM = wr := ⟨_, rfl⟩
        subst hwM
        obtain ⟨lk, hlk⟩ : ∃ l, l + 1 = nk := ⟨nk - 1, by omega⟩
        have zk : IntKind.i64.wrap ((nk : Int) - 1) = (lk : Int) := by rw [IntKind.wrap_i64]; omega
        have Hlk := Lib.hid hlk
        clear hlk hMS
        go_wp2_with fail
        go_loopw [142] (fun v142 wx => ∃ i : Nat, i ≤ ni ∧ v142 = .int .i64 (i : Int) ∧ Below wM.heap.size wM wx) (fun v142 _ => ni - (intOf v142).toNat)
        case atStart => exact ⟨0, by omega, rfl, Below.refl _ _⟩
        case round =>
          obtain ⟨i, hi, rfl, hb⟩ := hrel
          by_cases hin : i < ni
          · obtain ⟨_, _, e1, _, q0⟩ := rd_num (hSB.hids.below hb) hin
            injection e1 with e1
            injection e1 with e1 e2
            subst e1 e2
            have hmem : ids.getD i 0 ∈ ids := by
              have hl : i < ids.length := by rw [Hni.out]; exact hin
              rw [getD_at (List.getElem?_eq_getElem hl)]
              exact List.getElem_mem hl
            obtain ⟨hR, hRby, hpe⟩ := HW.out _ hmem
            have hplen := HPL.out (ids.getD i 0)
            have zi : (i : Int) < (ni : Int) := by omega
            have hpa := PPath_any11 kind (some ⟨bS, oS, none⟩) ni ci Al nl cl ids ll (ids.getD i 0) wr ((hSB.below hb).more hb.size) hfS
            rw [Path11_eq, hpe] at hpa
            generalize pathI kind ids ll (ids.getD i 0) = P at *
            generalize ids.getD i 0 = id at *
            go_wp2_with ((with_reducible show wpList _ _ _ (⟨some 148, _, _, _, _, _⟩ :: _) _ _); refine wpList_loadC (by kernel_rfl) 25 (.tmp 15) rfl (w2.heap.size + 1) rfl 25 (shV (some ⟨bS, oS, none⟩) ni ci Al nl cl) _ (hrB.call hb) Try.underlying25 rfl shapeInfo2 ?_)
            refine hpa.mono ?_
            rintro e w9 ⟨hb9, Ap, n9, cp, he, hcp, hmp, hrp⟩
            subst he
            have hbC := c_call hb hb9
            have hnp : P.length = n9 := by have := hrp.len; rwa [kidV, List.length_map] at this
            obtain ⟨m, rfl⟩ : ∃ m, n9 = m + 1 := ⟨n9 - 1, by have := hR.pos; omega⟩
            rw [show kidV P = (castL P).map iv from (castL_iv P).symm] at hrp
            have hm2 : m ≤ 2000 := by omega
            obtain ⟨bp, op, rfl, _, q1⟩ := rd_num hrp (k := m) (by omega)
            rw [way_last hR hnp, Hnb.out, show nk - 1 = lk by have := Hlk.out; omega] at q1
            have HR := Lib.hid hR
            have HRby := Lib.hid hRby
            have Hnp := Lib.hid hnp
            have HbC := Lib.hid hbC
            have zm1 : IntKind.i64.wrap (((m + 1 : Nat) : Int) - 1) = (m : Int) := by rw [IntKind.wrap_i64]; omega
            have zm2 : IntKind.i64.wrap ((m : Int) + 1 - 1) = (m : Int) := by rw [IntKind.wrap_i64]; omega
            have zm3 : (m : Int) < ((m + 1 : Nat) : Int) := by omega
            have zm4 : (m : Int) < (m : Int) + 1 := by omega
            have zm5 : ¬ (m : Int) + 1 = 0 := by omega
            have zm6 : (((m + 1 : Nat) : Int) == 0) = false := by rw [beq_eq_false_iff_ne]; omega
            have zm7 : ((m : Int) + 1 == 0) = false := by rw [beq_eq_false_iff_ne]; omega
            unfold maxLen at hmp
            clear hb hpa hpe hR hRby hplen hb9 hnp hbC q0
            go_wp2_with fail
            go_loopw [29, 174] (fun v29 v174 wx => ∃ j : Nat, j ≤ m + 1 ∧ v174 = .int .i64 (j : Int) ∧ v29 = .bool (openB kp P j) ∧ Below w9.heap.size w9 wx) (fun _ v174 _ => m + 1 - (intOf v174).toNat)
            case atStart => exact ⟨0, by omega, rfl, rfl, Below.refl _ _⟩
            case round =>
              clear q1
              obtain ⟨j, hj, rfl, rfl, hb⟩ := hrel
              by_cases hjm : j < m + 1
              · have hjl : j < P.length := by rw [Hnp.out]; exact hjm
                obtain ⟨_, _, e1, _, q1⟩ := rd_num (hrp.below hb) hjm
                injection e1 with e1
                injection e1 with e1 e2
                subst e1 e2
                rw [show (castL P).getD j 0 = ((P[j] : Nat) : Int) from getD_at (by rw [castL, List.getElem?_map, List.getElem?_eq_getElem hjl]; rfl)] at q1
                have zj : (j : Int) < ((m + 1 : Nat) : Int) := by omega
                have zj2 : (j : Int) < (m : Int) + 1 := by omega
                have Hb := Lib.hid hb
                rcases Nat.eq_zero_or_pos j with h0 | h0
                · subst h0
                  rw [Nat.add_zero] at q1
                  rw [show openB kp P 0 = false from rfl]
                  generalize P[0] = k at *
                  clear hb
                  go_wp2_with fail
                  go_roundw
                  case rel => exact ⟨1, by omega, by first | go_num | rfl, rfl, Hb.out⟩
                  case measure => first | (simp [intOf]; done) | (simp [intOf]; omega)
                · obtain ⟨i', rfl⟩ : ∃ i', j = i' + 1 := ⟨j - 1, by omega⟩
                  obtain ⟨hiff, hcnt⟩ := HR.out.step i' hjl
                  have hkl := HR.out.lt _ (List.getElem_mem hjl)
                  rw [Hnb.out] at hkl
                  have hsc := openB_succ kp (show 1 ≤ i' + 1 by omega) hjl
                  have zi1 : IntKind.i64.wrap (((i' + 1 : Nat) : Int) - 1) = (i' : Int) := by rw [IntKind.wrap_i64]; omega
                  have zi2 : IntKind.i64.wrap ((i' : Int) + 1 - 1) = (i' : Int) := by rw [IntKind.wrap_i64]; omega
                  have zi3 : (((i' + 1 : Nat) : Int) == 0) = false := by rw [beq_eq_false_iff_ne]; omega
                  have zi4 : ((i' : Int) + 1 == 0) = false := by rw [beq_eq_false_iff_ne]; omega
                  have zi5 : (i' : Int) < ((m + 1 : Nat) : Int) := by omega
                  have zi6 : (i' : Int) < (m : Int) + 1 := by omega
                  have hMw := (HMB.out.below HbC.out HMB.out.lt).below hb (HMB.out.below HbC.out HMB.out.lt).lt
                  by_cases hg : kpA kp P[i' + 1] = -1
                  · obtain ⟨Au, cu, hfk, hku⟩ := (hF2.out P[i' + 1]).1 (hiff.2 hg)
                    rw [hg] at hsc
                    have Hsc := Lib.hid hsc
                    have hl3 : (stepK now kp at_ P[i' + 1]).send.length ≤ 3 := by
                      obtain ⟨x0, hx0, _⟩ := posT_in.1 (hiff.2 hg)
                      rw [stepK_at hx0]
                      have h1 := stK_len (knownB now kp at_) x0.kids
                      have h2 := H3.out x0 (List.mem_of_getElem? hx0)
                      simp only [stepT, castL, List.length_map]
                      omega
                    generalize P[i' + 1] = k at *
                    generalize hc0 : P[i'] = c at *
                    generalize stepK now kp at_ k = x at *
                    have hlk := hMw.look (x := (k : Int)) ⟨by omega, by omega⟩
                    rw [hfk] at hlk
                    simp only [Option.getD_some, Option.isSome_some] at hlk
                    have hP := (Ms.nil wr).put 51 zS (siC x (.slice Au x.send.length cu)).toArray
                    clear hb hfk hMw hsc
                    go_upto_region 32 with ((with_reducible show wpList _ _ _ (⟨none, Op.store 51 _ _, _, _, _, _⟩ :: _) _ _); refine wpList_store_row rfl 51 (.tmp 32) (.tmp 185) rfl wr.heap.size (siC x (.slice Au x.send.length cu)).toArray rfl rfl 51 zS (RowC.new _ _ _) stInfo2 rfl (by simp [siC, Value.oneCell']) ?_)
                    try simp only [Act.put]
                    obtain ⟨g1, hg1⟩ : ∃ g1, g1 = wr.heap.size := ⟨_, rfl⟩
                    rw [← hg1] at hP ⊢
                    refine wp_gen (fun wx => Ms wr wx [(g1, 51, (siC x (.slice Au x.send.length cu)).toArray)]) hP ?_
                    clear hP hlk q1 hg1
                    rintro wX hMX
                    have HbX := Lib.hid (c_call Hb.out hMX.old)
                    have hku2 := hku.below (HAM.out.trans ((c_call (c_call HbC.out Hb.out) hMX.old).mono hAz))
                    have p2 := (hMX.get 0 rfl).cell (i := 2) (v := .slice Au x.send.length cu) rfl
                    have HrX := Lib.hid (hMX.get 0 rfl)
                    have hrpX := hrp.below HbX.out
                    clear hMX
                    obtain ⟨_, _, e1, _, q4⟩ := rd_num hrpX (k := i') (by omega)
                    injection e1 with e1
                    injection e1 with e1 e2
                    subst e1 e2
                    rw [show (castL P).getD i' 0 = ((c : Nat) : Int) from getD_at (by rw [castL, List.getElem?_map, List.getElem?_eq_getElem (show i' < P.length by omega), hc0]; rfl)] at q4
                    have Hc0 := Lib.hid hc0
                    clear hc0
                    have zl0 := x.send.length
                    go_wp2_with fail
                    go_loopw [34, 206] (fun v34 v206 wy => ∃ (t s : Nat), t ≤ x.send.length ∧ v206 = .int .i64 (t : Int) ∧ s = (x.send.take t).count (c : Int) ∧ v34 = .int .i64 (s : Int) ∧ wy = wX) (fun _ v206 _ => x.send.length - (intOf v206).toNat)
                    case atStart => exact ⟨0, 0, by omega, rfl, rfl, rfl, rfl⟩
                    case round =>
                      obtain ⟨t, s, ht, rfl, hs, rfl, hw⟩ := hrel
                      subst hw
                      by_cases htl : t < x.send.length
                      · obtain ⟨bu, ou, rfl, _, k1⟩ := rd_num hku2 htl
                        rw [getD_at (List.getElem?_eq_getElem htl)] at k1
                        have hcs : (x.send.take (t + 1)).count (c : Int) = s + (if x.send[t] = (c : Int) then 1 else 0) := by
                          rw [List.take_succ_eq_append_getElem htl, List.count_append, ← hs, List.count_singleton]
                          simp only [beq_iff_eq]
                        have hs3 : s ≤ 3 := by
                          rw [hs]
                          have := List.count_le_length (a := (c : Int)) (l := x.send.take t)
                          rw [List.length_take] at this
                          omega
                        have zs1 : IntKind.i64.wrap ((s : Int) + 1) = ((s + 1 : Nat) : Int) := by rw [IntKind.wrap_i64]; omega
                        have zt1 : (t : Int) < (x.send.length : Int) := by omega
                        generalize x.send[t] = z at *
                        by_cases hz : z = (c : Int)
                        · have zb1 : (z == (c : Int)) = true := by rw [beq_iff_eq]; exact hz
                          have zb2 : decide (z = (c : Int)) = true := decide_eq_true hz
                          rw [if_pos hz] at hcs
                          have Hcs := Lib.hid hcs.symm
                          clear hcs hz hs
                          go_wp2_with fail
                          go_roundw
                          case rel => exact ⟨t + 1, s + 1, by omega, by go_num, Hcs.out, by go_num, trivial⟩
                          case measure => simp [intOf]; omega
                        · have zb1 : (z == (c : Int)) = false := by rw [beq_eq_false_iff_ne]; exact hz
                          have zb2 : decide (z = (c : Int)) = false := decide_eq_false hz
                          rw [if_neg hz] at hcs
                          have Hcs := Lib.hid hcs.symm
                          clear hcs hs
                          go_wp2_with fail
                          go_roundw
                          case rel => exact ⟨t + 1, s, by omega, by go_num, Hcs.out, by go_num, trivial⟩
                          case measure => simp [intOf]; omega
                      · obtain rfl : t = x.send.length := by omega
                        rw [List.take_length] at hs
                        have hbd := c_drew HbX.out
                        have p1 := (HrX.out.drew).cell (i := 1) (v := .int .i64 x.from_) rfl
                        obtain ⟨_, _, e1, _, q5⟩ := rd_num (hrp.below hbd) (k := i') (by omega)
                        injection e1 with e1
                        injection e1 with e1 e2
                        subst e1 e2
                        rw [show (castL P).getD i' 0 = ((c : Nat) : Int) from getD_at (by rw [castL, List.getElem?_map, List.getElem?_eq_getElem (show i' < P.length by omega), Hc0.out]; rfl)] at q5
                        have zt1 : ¬ (x.send.length : Int) < (x.send.length : Int) := by omega
                        obtain ⟨bf, zf1, zf2, zf3, zf4, zf5, zf6⟩ : ∃ b : Bool, (x.from_ == (c : Int)) = b ∧ decide (x.from_ = (c : Int)) = b ∧ ((s : Int) == 0) = b ∧ decide ((s : Int) = 0) = b ∧ decide (1 < (s : Int)) = false ∧ ¬ 1 < (s : Int) := by
                          rcases hcnt with ⟨f1, f2⟩ | ⟨f1, f2⟩
                          · exact ⟨true, by rw [beq_iff_eq]; exact f1, decide_eq_true f1, by rw [beq_iff_eq]; omega, decide_eq_true (by omega), decide_eq_false (by omega), by omega⟩
                          · exact ⟨false, by rw [beq_eq_false_iff_ne]; exact f1, decide_eq_false f1, by rw [beq_eq_false_iff_ne]; omega, decide_eq_false (by omega), decide_eq_false (by omega), by omega⟩
                        have zi7 : IntKind.i64.wrap (i' : Int) = (i' : Int) := by rw [IntKind.wrap_i64]; omega
                        clear hcnt hs q4 p2
                        go_upto_region 43 with fail
                        try simp only [Act.put]
                        refine wp_region_still_lit (by kernel_rfl) (by kernel_rfl) ?_
                        repeat (with_reducible refine wpStill_step (fun K hK => ?_); go_simp; with_reducible refine hK _ ?_; clear hK K)
                        with_reducible refine wpStill_nil ?_
                        change Exit.then _ _ Exit.normal _ wr.drew
                        generalize wr.drew = wC at *
                        clear p1 q5
                        go_wp2_with fail
                        go_roundw
                        case rel => exact ⟨i' + 1 + 1, by omega, by go_num, by rw [Hsc.out]; rfl, hbd⟩
                        case measure => simp [intOf]; omega
                  · have hnone := (hF2.out P[i' + 1]).2 (fun h => hg (hiff.1 h))
                    have hge : 0 ≤ kpA kp P[i' + 1] := by rcases HR.out.kept _ hjl with h | h <;> omega
                    have hbe : (id == by2) = false := by
                      rw [beq_eq_false_iff_ne]
                      exact fun e => hg (HRby.out e _ hjl)
                    have hob := openB_kept HR.out hjl hg
                    have Hsc := Lib.hid (show openB kp P (i' + 1 + 1) = false by rw [hsc, beq_eq_false_iff_ne]; exact hg)
                    rw [hob]
                    clear hob
                    generalize P[i' + 1] = k at *
                    have hlk := hMw.look (x := (k : Int)) ⟨by omega, by omega⟩
                    rw [hnone] at hlk
                    simp only [Option.getD_none, Option.isSome_none] at hlk
                    unfold stepZ at hlk
                    have hP := (Ms.nil wr).put 51 zS zS
                    clear hb hnone hMw hsc
                    go_upto_region 32 with ((with_reducible show wpList _ _ _ (⟨none, Op.store 51 _ _, _, _, _, _⟩ :: _) _ _); refine wpList_store_row rfl 51 (.tmp 32) (.tmp 185) rfl wr.heap.size zS rfl rfl 51 zS (RowC.new _ _ _) stInfo2 rfl (by simp [zS, Value.oneCell']) ?_)
                    try simp only [Act.put]
                    refine wp_gen (fun wx => Ms wr wx []) (hP.subT (fun p hp => by cases hp)) ?_
                    clear hP hlk q1
                    rintro wX hMX
                    have hbX := c_call (c_call HbC.out Hb.out) hMX.old
                    have HbX := Lib.hid (c_call Hb.out hMX.old)
                    have q2 := (hrPB.call hbX).cell (i := 0) (v := .slice Ak nk ck) rfl
                    obtain ⟨bk, ok, rfl, _, q3⟩ := rd_num (hKB.below (hbX.mono hAz)) hkl
                    rw [← kpA] at q3
                    generalize kpA kp k = kc at *
                    have zk1 : (k : Int) < (nk : Int) := by omega
                    have zk2 : ¬ kc < 0 := by omega
                    have zk3 : decide (kc < 0) = false := decide_eq_false zk2
                    clear hMX hbX
                    go_wp2_with fail
                    go_roundw
                    case rel => exact ⟨i' + 1 + 1, by omega, by go_num, by rw [Hsc.out], HbX.out⟩
                    case measure => simp [intOf]; omega
              · obtain rfl : j = m + 1 := by omega
                have hob := openB_end HR.out Hnp.out
                rw [hob]
                have Hb := Lib.hid (c_call HbC.out hb)
                clear hb
                rcases Nat.eq_zero_or_pos m with h0 | h0
                · subst h0
                  go_wp2_with fail
                  go_roundw
                  case rel => exact ⟨i + 1, by omega, by go_num, Hb.out⟩
                  case measure => simp [intOf]; omega
                · have zo1 : decide (1 ≤ m) = true := decide_eq_true h0
                  rw [zo1]
                  go_wp2_with fail
                  go_roundw
                  case rel => exact ⟨i + 1, by omega, by go_num, Hb.out⟩
                  case measure => simp [intOf]; omega
          · obtain rfl : i = ni := by omega
            have hfin := holdB.trans (hb.mono holdB.size)
            clear hb
            go_wp2_with fail
            go_ret
            exact ⟨rfl, hfin⟩
  have Hall := Lib.hid hall
  clear h6 hall
  rcases Hk.out with h | h
  · subst h
    clear Hk
    go_wp2_with fail
    exact Hall.out _ _ _ _ _ _ _ _ _ _ _ _ _ _ _ _ _ _ _ _ _ _ _ _ _ _ _ _ _
  · subst h
    clear Hk
    go_wp2_with fail
    exact Hall.out _ _ _ _ _ _ _ _ _ _ _ _ _ _ _ _ _ _ _ _ _ _ _ _ _ _ _ _ _
theorem walk_PlanReaches (kind : Int) (Ax : Option Addr) (nx cx : Nat) (xs : List Int) (Ao : Option Addr) (no co : Nat) (out : List Int) (An : Option Addr) (nn cn : Nat) (inn : List Int) (Am : Option Addr) (nm cm : Nat) (more : List Int) (by_ : Int) (w : World)
    (_ : -9223372036854775808 ≤ kind) (_ : kind ≤ 9223372036854775807) (_ : nx ≤ cx) (_ : cx ≤ maxLen) (hx : Rd w w.heap.size Ax nx (xs.map iv)) (_ : no ≤ co) (_ : co ≤ maxLen) (hro : Rd w w.heap.size Ao no (out.map iv)) (_ : nn ≤ cn) (_ : cn ≤ maxLen) (hrn : Rd w w.heap.size An nn (inn.map iv)) (_ : nm ≤ cm) (_ : cm ≤ maxLen) (hrm : Rd w w.heap.size Am nm (more.map iv)) (hm64 : ∀ x ∈ more, I64 x) (hb1 : -9223372036854775808 ≤ by_) (hb2 : by_ ≤ 9223372036854775807) :
    Calls Try.prog 5 #[.int .i64 kind, .slice Ax nx cx, .slice Ao no co, .slice An nn cn, .slice Am nm cm, .int .i64 by_] w fun e w' => e = .returned (.bool true) ∧ Below w.heap.size w w' :=
  core_PlanReaches kind Ax nx cx xs Ao no co out An nn cn inn Am nm cm more by_ w hx hro hrn hrm hm64 hb1 hb2
end Go.Proofs.Ytmganbdbihjbmaa


