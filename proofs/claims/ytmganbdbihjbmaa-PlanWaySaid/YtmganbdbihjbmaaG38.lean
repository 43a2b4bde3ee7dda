import Derived.Test.YtmganbdbihjbmaaG37
/-
  CONTRACT of the program's copied (tree): a handed tree in rows of the call's own. Printed by gen_treecopied.py.
-/
set_option linter.unusedVariables false
namespace Go.Proofs.Ytmganbdbihjbmaa
open Go.RowKit

theorem own_monoT {w : World} {base base' : Nat} {e : TypeId} {size : Nat} {v : Value} {n : Nat} {xs : List Value} (h : w.ownsRow base e size v n xs) (hb : base' ≤ base) : w.ownsRow base' e size v n xs := by
  refine ⟨h.1, ?_⟩
  rcases h.2 with h2 | ⟨g, cap, cur, h1, h2, h3⟩
  · exact .inl h2
  · exact .inr ⟨g, cap, cur, h1, by omega, h3⟩
/-- make of no elements and some room: one step of a region that draws its order -/
theorem step_makeT {P : Program} {w : World} {ops : Array Oper} {o : Oper} {a : Act} {K : Act → World → Prop} {Q : Exit → Act → World → Prop} {E : Prop} (hgd : Region.wanted o (yielded ops a.tmps) = true) (dst : Option Tmp) (hd : o.dst = dst) (l c : Operand) (t : TypeId) (hop : o.op = Op.makeSlice t l c)
    (base : Nat) (e : TypeId) (i : TypeInfo) (z : Value) (size : Nat) (h1 : P.underlying t = some (.slice e)) (h2 : P.info? e = some i) (h3 : i.zero = some z) (h4 : i.size = size)
    (kl kc : IntKind) (C : Int) (n : Nat) (hl : a.eval l = .int kl 0) (hc : a.eval c = .int kc C) (hC : C = (n : Int)) (b2 : i.bytes * n ≤ 281474976710656) (b3 : n ≤ maxLen) (b4 : base ≤ w.heap.size)
    (hK : ∀ w', w'.ownsRow base e size (.slice (some ⟨w.heap.size, 0, none⟩) 0 n) 0 [] → w.grownBy w' none → K (a.put dst (.slice (some ⟨w.heap.size, 0, none⟩) 0 n)) w') : if Region.wanted o (yielded ops a.tmps) = true then Oper.wp P o a w K Q else E := by
  obtain ⟨w', hrun, r1, r2⟩ := run_make_own (P := P) w base t e i z size h1 h2 h3 h4 kl kc n b2 b3 b4
  subst hC
  refine step_val hgd dst hd (.slice (some ⟨w.heap.size, 0, none⟩) 0 n) (w' := w') ?_ (hK w' r1 r2)
  simp [execOp, hop, hl, hc, hrun, Result.andThen]

set_option maxRecDepth 100000 in
set_option maxHeartbeats 8000000 in
theorem PCopied_any (Ai : Option Addr) (ni ci : Nat) (Al : Option Addr) (nl cl : Nat) (ids : List Int) (lv : List (List Nat)) (w : World) (hn2 : lv.length ≤ 20) (hn1 : ids.length ≤ 1000) (hlm : ∀ l ∈ lv, l.length ≤ 1000) (h : ShR w w.heap.size Ai ni ci Al nl cl ids (levI lv)) :
    Calls Try.prog 51 #[.agg (shV Ai ni ci Al nl cl)] w (PutPost w.heap.size w ids lv) := by
  obtain ⟨i1, hi1, hy0, hy1, hy2⟩ := info_parts listInfo
  have Hpost := Lib.hid (show ∀ Ai ni ci Al nl cl vs w', Below w.heap.size w w' → OwW w.heap.size w' (.slice Ai ni ci) (.slice Al nl cl) vs vs ids (levI lv) → PutPost w.heap.size w ids lv (.returned (.agg (shV Ai ni ci Al nl cl))) w' from fun _ _ _ _ _ _ _ _ h1 h2 => ⟨h1, _, _, _, _, _, _, _, rfl, h2⟩)
  generalize PutPost w.heap.size w ids lv = PO at *
  have hM0 := ((Ms.nil w).box 25 (shV Ai ni ci Al nl cl)).box 25 #[.slice none 0 0, .slice none 0 0]
  simp only [World.size_alloc] at hM0
  have Hni := Lib.hid h.hni
  have Hnl := Lib.hid (show lv.length = nl by have := h.hnl; rwa [levI_lenX] at this)
  have hnl20 : nl ≤ 20 := by rw [← Hnl.out]; exact hn2
  have hni1 : ni ≤ 1000 := by rw [← Hni.out]; exact hn1
  have hci := h.hci
  have hcl := h.hcl
  have hwn : IntKind.i64.wrap ((nl : Int) + 1) = (nl : Int) + 1 := by rw [IntKind.wrap_i64]; omega
  obtain ⟨vs, hv, hlv⟩ := h.lvs
  have hids := h.hids
  clear h
  go_enter Try.func51, Try.ntmps51
  go_upto_region 1 with fail
  try simp only [Act.put]
  obtain ⟨gS, hgS⟩ : ∃ g, g = w.heap.size := ⟨_, rfl⟩
  refine wp_gen (fun wx => Ms w wx [(w.heap.size + 1, 25, #[.slice none 0 0, .slice none 0 0]), (w.heap.size, 25, shV Ai ni ci Al nl cl)]) hM0 ?_
  clear hM0
  rintro w0 hM0
  have hs0 := (hM0.get 0 rfl).lt
  have hw00 := hM0.old
  rw [← hgS] at hM0 hs0 ⊢
  have HgS := Lib.hid hgS
  clear hgS
  have hid0 := (hids.below hw00).more hw00.size
  go_cut [3] (fun p wx => ∃ (gO : Nat) (A2 : Option Addr) (c2 gM : Nat), p = .pointer (some ⟨gO, 0, none⟩) ∧ w0.heap.size ≤ gO ∧ RowC wx gO 25 #[.slice A2 ni c2, .slice (some ⟨gM, 0, none⟩) 0 (nl + 1)] ∧ Below w0.heap.size w0 wx ∧
    wx.ownsRow w.heap.size 3 1 (.slice A2 ni c2) ni (ids.map iv) ∧ wx.ownsRow w.heap.size 22 1 (.slice (some ⟨gM, 0, none⟩) 0 (nl + 1)) 0 [])
  case first =>
    have hkeep : ∀ wx : World, Below w0.heap.size w0 wx → wx.cell? ⟨gS, 0, none⟩ = some (.slice Ai ni ci) ∧ wx.cell? ⟨gS, 1, none⟩ = some (.slice Al nl cl) := fun wx hb => ⟨((hM0.get 1 rfl).call hb).cell rfl, ((hM0.get 1 rfl).call hb).cell rfl⟩
    have hcl : ∀ wx : World, Below w0.heap.size w0 wx → Calls Try.prog 48 #[.slice Ai ni ci] wx fun e w' => ∃ A' c', e = .returned (.slice A' ni c') ∧ w'.ownsRow wx.heap.size 3 1 (.slice A' ni c') ni (ids.map iv) ∧ Below wx.heap.size wx w' := fun wx hb => Clone_any Ai ni ci (ids.map iv) wx hci (by omega) (one_iv _) ((hid0.below hb).more hb.size)
    have hsw : w.heap.size ≤ w0.heap.size := by have := HgS.out; omega
    have c_size : ∀ wx : World, Below w0.heap.size w0 wx → w.heap.size ≤ wx.heap.size := fun wx hb => by have := hb.size; omega
    refine beginT (fun wx => wx.cell? ⟨gS, 0, none⟩ = some (.slice Ai ni ci) ∧ wx.cell? ⟨gS, 1, none⟩ = some (.slice Al nl cl)) 10 (by kernel_rfl) ?_
    have hS := hkeep _ (c_drew (c_refl _))
    refine takeD 0 (some 6) (.pointer (some ⟨gS, 0, none⟩)) rfl rfl (by kernel_rfl) (by kernel_rfl) (by kernel_rfl) (by kernel_rfl) (fun _ _ _ h => h) (Or.inl ⟨by kernel_rfl, fun wx hSw => by have h := hSw.1; have h2 := hSw.2; go_simp⟩) hS ?_
    simp only [Act.put, List.setIfInBounds_toArray, List.set_cons_zero, List.set_cons_succ]
    refine takeD 1 (some 7) (.slice Ai ni ci) rfl rfl (by kernel_rfl) (by kernel_rfl) (by kernel_rfl) (by kernel_rfl) (fun _ _ _ h => h) (Or.inl ⟨by kernel_rfl, fun wx hSw => by have h := hSw.1; have h2 := hSw.2; go_simp⟩) hS ?_
    simp only [Act.put, List.setIfInBounds_toArray, List.set_cons_zero, List.set_cons_succ]
    refine takeD 3 (some 9) (.pointer (some ⟨gS, 1, none⟩)) rfl rfl (by kernel_rfl) (by kernel_rfl) (by kernel_rfl) (by kernel_rfl) (fun _ _ _ h => h) (Or.inl ⟨by kernel_rfl, fun wx hSw => by have h := hSw.1; have h2 := hSw.2; go_simp⟩) hS ?_
    simp only [Act.put, List.setIfInBounds_toArray, List.set_cons_zero, List.set_cons_succ]
    refine takeD 4 (some 10) (.slice Al nl cl) rfl rfl (by kernel_rfl) (by kernel_rfl) (by kernel_rfl) (by kernel_rfl) (fun _ _ _ h => h) (Or.inl ⟨by kernel_rfl, fun wx hSw => by have h := hSw.1; have h2 := hSw.2; go_simp⟩) hS ?_
    simp only [Act.put, List.setIfInBounds_toArray, List.set_cons_zero, List.set_cons_succ]
    refine takeD 5 (some 11) (.int .i64 (nl : Int)) rfl rfl (by kernel_rfl) (by kernel_rfl) (by kernel_rfl) (by kernel_rfl) (fun _ _ _ h => h) (Or.inl ⟨by kernel_rfl, fun wx hSw => by have h := hSw.1; have h2 := hSw.2; go_simp⟩) hS ?_
    simp only [Act.put, List.setIfInBounds_toArray, List.set_cons_zero, List.set_cons_succ]
    refine takeD 6 (some 12) (.int .i64 ((nl : Int) + 1)) rfl rfl (by kernel_rfl) (by kernel_rfl) (by kernel_rfl) (by kernel_rfl) (fun _ _ _ h => h) (Or.inl ⟨by kernel_rfl, fun wx hSw => by have h := hSw.1; have h2 := hSw.2; go_simp⟩) hS ?_
    simp only [Act.put, List.setIfInBounds_toArray, List.set_cons_zero, List.set_cons_succ]
    have hwx0 : Below w0.heap.size w0 w0.drew := c_drew (c_refl _)
    generalize w0.drew = x0 at *
    refine readyT [2, 7, 9] (by kernel_rfl) (by simp) (AllReadyT.cons rfl (fun K hK => ?_) (AllReadyT.cons rfl (fun K hK => ?_) (AllReadyT.cons rfl (fun K hK => ?_) AllReadyT.nil)))
    · go_simp
      refine (hcl x0 hwx0).mono ?_
      rintro e x1 ⟨A2, c2, rfl, ho2, hx1⟩
      have hwx1 := c_call hwx0 hx1
      have ho2 := own_monoT ho2 (c_size x0 hwx0)
      refine hK.out _ _ (fun _ => hkeep _ hwx1) ?_
      clear hK K
      try simp only [Act.put, List.setIfInBounds_toArray, List.set_cons_zero, List.set_cons_succ]
      refine readyT [7, 9] (by kernel_rfl) (by simp) (AllReadyT.cons rfl (fun K hK => ?_) (AllReadyT.cons rfl (fun K hK => ?_) AllReadyT.nil))
      · refine step_makeT (by kernel_rfl) (some 13) rfl _ _ 23 rfl w.heap.size 22 i1 _ 1 Try.underlying23 hi1 hy0 hy1 .i64 .i64 _ (nl + 1) rfl rfl (by omega) (by rw [hy2]; omega) (by simp only [maxLen]; omega) (c_size x1 hwx1) ?_
        intro x2 hoM hgM
        have hx2 := (Below.refl x1.heap.size x1).grown hgM (Nat.le_refl _) (by simp)
        have hwx2 := c_call hwx1 hx2
        have ho2 := own_below ho2 hx2
        clear hgM
        generalize x1.heap.size = gM at *
        refine hK.out _ _ (fun _ => hkeep _ hwx2) ?_
        clear hK K
        try simp only [Act.put, List.setIfInBounds_toArray, List.set_cons_zero, List.set_cons_succ]
        have hS9 := hkeep _ hwx2
        refine takeD 8 (some 14) (.agg #[.slice A2 ni c2, .slice (some ⟨gM, 0, none⟩) 0 (nl + 1)]) rfl rfl (by kernel_rfl) (by kernel_rfl) (by kernel_rfl) (by kernel_rfl) (fun _ _ _ h => h) (Or.inl ⟨by kernel_rfl, fun wx hSw => by have h := hSw; go_simp⟩) hS9 ?_
        simp only [Act.put, List.setIfInBounds_toArray, List.set_cons_zero, List.set_cons_succ]
        refine oneT 9 (by kernel_rfl) rfl (fun K hK => ?_)
        go_simp
        have hx3 := d_al x2 (.cells #[.slice none 0 0, .slice none 0 0] 25)
        have hrO : RowC (x2.alloc (.cells #[.slice none 0 0, .slice none 0 0] 25)) x2.heap.size 25 #[.slice none 0 0, .slice none 0 0] := RowC.new _ _ _
        have hgO := hwx2.size
        have ho2 := own_below ho2 hx3
        have hoM := own_below hoM hx3
        have hwx3 := c_call hwx2 hx3
        generalize (x2.alloc (.cells #[.slice none 0 0, .slice none 0 0] 25)) = x3 at *
        generalize x2.heap.size = gO at *
        refine hK.out _ _ (fun _ => hkeep _ hwx3) ?_
        clear hK K
        try simp only [Act.put, List.setIfInBounds_toArray, List.set_cons_zero, List.set_cons_succ]
        have hR9 := hrO.row #[.slice A2 ni c2, .slice (some ⟨gM, 0, none⟩) 0 (nl + 1)]
        have hg9 := grown_setRow x3 gO #[.slice A2 ni c2, .slice (some ⟨gM, 0, none⟩) 0 (nl + 1)]
        have ho9 := own_farT ho2 hg9 hrO sh_ne.1
        have hm9 := own_farT hoM hg9 hrO sh_ne.2
        have hb9 := below_setRow hwx3 (show w0.heap.size ≤ gO by omega) #[.slice A2 ni c2, .slice (some ⟨gM, 0, none⟩) 0 (nl + 1)]
        refine oneT 10 (by kernel_rfl) rfl (fun K hK => ?_)
        refine step_store_row rfl 25 (.tmp 3) (.tmp 14) rfl gO #[.slice A2 ni c2, .slice (some ⟨gM, 0, none⟩) 0 (nl + 1)] rfl rfl 25 _ hrO shapeInfo2 rfl (by simp [Value.oneCell']) ?_
        refine hK.out _ _ (fun h => absurd rfl h) ?_
        clear hK K
        refine doneT (by kernel_rfl) ?_ _
        go_wp2_with fail
        go_meet
        exact ⟨gO, A2, c2, gM, rfl, by omega, hR9, hb9, ho9, hm9⟩
      · go_simp
        have hx2 := d_al x1 (.cells #[.slice none 0 0, .slice none 0 0] 25)
        have hrO : RowC (x1.alloc (.cells #[.slice none 0 0, .slice none 0 0] 25)) x1.heap.size 25 #[.slice none 0 0, .slice none 0 0] := RowC.new _ _ _
        have hgO := hwx1.size
        have ho2 := own_below ho2 hx2
        have hwx2 := c_call hwx1 hx2
        generalize (x1.alloc (.cells #[.slice none 0 0, .slice none 0 0] 25)) = x2 at *
        generalize x1.heap.size = gO at *
        refine hK.out _ _ (fun _ => hkeep _ hwx2) ?_
        clear hK K
        try simp only [Act.put, List.setIfInBounds_toArray, List.set_cons_zero, List.set_cons_succ]
        refine oneT 7 (by kernel_rfl) rfl (fun K hK => ?_)
        refine step_makeT (by kernel_rfl) (some 13) rfl _ _ 23 rfl w.heap.size 22 i1 _ 1 Try.underlying23 hi1 hy0 hy1 .i64 .i64 _ (nl + 1) rfl rfl (by omega) (by rw [hy2]; omega) (by simp only [maxLen]; omega) (c_size x2 hwx2) ?_
        intro x3 hoM hgM
        have hx3 := (Below.refl x2.heap.size x2).grown hgM (Nat.le_refl _) (by simp)
        have hwx3 := c_call hwx2 hx3
        have ho2 := own_below ho2 hx3
        have hrO := hrO.call hx3
        clear hgM
        generalize x2.heap.size = gM at *
        refine hK.out _ _ (fun _ => hkeep _ hwx3) ?_
        clear hK K
        try simp only [Act.put, List.setIfInBounds_toArray, List.set_cons_zero, List.set_cons_succ]
        have hS9 := hkeep _ hwx3
        refine takeD 8 (some 14) (.agg #[.slice A2 ni c2, .slice (some ⟨gM, 0, none⟩) 0 (nl + 1)]) rfl rfl (by kernel_rfl) (by kernel_rfl) (by kernel_rfl) (by kernel_rfl) (fun _ _ _ h => h) (Or.inl ⟨by kernel_rfl, fun wx hSw => by have h := hSw; go_simp⟩) hS9 ?_
        simp only [Act.put, List.setIfInBounds_toArray, List.set_cons_zero, List.set_cons_succ]
        have hR9 := hrO.row #[.slice A2 ni c2, .slice (some ⟨gM, 0, none⟩) 0 (nl + 1)]
        have hg9 := grown_setRow x3 gO #[.slice A2 ni c2, .slice (some ⟨gM, 0, none⟩) 0 (nl + 1)]
        have ho9 := own_farT ho2 hg9 hrO sh_ne.1
        have hm9 := own_farT hoM hg9 hrO sh_ne.2
        have hb9 := below_setRow hwx3 (show w0.heap.size ≤ gO by omega) #[.slice A2 ni c2, .slice (some ⟨gM, 0, none⟩) 0 (nl + 1)]
        refine oneT 10 (by kernel_rfl) rfl (fun K hK => ?_)
        refine step_store_row rfl 25 (.tmp 3) (.tmp 14) rfl gO #[.slice A2 ni c2, .slice (some ⟨gM, 0, none⟩) 0 (nl + 1)] rfl rfl 25 _ hrO shapeInfo2 rfl (by simp [Value.oneCell']) ?_
        refine hK.out _ _ (fun h => absurd rfl h) ?_
        clear hK K
        refine doneT (by kernel_rfl) ?_ _
        go_wp2_with fail
        go_meet
        exact ⟨gO, A2, c2, gM, rfl, by omega, hR9, hb9, ho9, hm9⟩
    · refine step_makeT (by kernel_rfl) (some 13) rfl _ _ 23 rfl w.heap.size 22 i1 _ 1 Try.underlying23 hi1 hy0 hy1 .i64 .i64 _ (nl + 1) rfl rfl (by omega) (by rw [hy2]; omega) (by simp only [maxLen]; omega) (c_size x0 hwx0) ?_
      intro x1 hoM hgM
      have hx1 := (Below.refl x0.heap.size x0).grown hgM (Nat.le_refl _) (by simp)
      have hwx1 := c_call hwx0 hx1
      clear hgM
      generalize x0.heap.size = gM at *
      refine hK.out _ _ (fun _ => hkeep _ hwx1) ?_
      clear hK K
      try simp only [Act.put, List.setIfInBounds_toArray, List.set_cons_zero, List.set_cons_succ]
      refine readyT [2, 9] (by kernel_rfl) (by simp) (AllReadyT.cons rfl (fun K hK => ?_) (AllReadyT.cons rfl (fun K hK => ?_) AllReadyT.nil))
      · go_simp
        refine (hcl x1 hwx1).mono ?_
        rintro e x2 ⟨A2, c2, rfl, ho2, hx2⟩
        have hwx2 := c_call hwx1 hx2
        have ho2 := own_monoT ho2 (c_size x1 hwx1)
        have hoM := own_below hoM hx2
        refine hK.out _ _ (fun _ => hkeep _ hwx2) ?_
        clear hK K
        try simp only [Act.put, List.setIfInBounds_toArray, List.set_cons_zero, List.set_cons_succ]
        have hS9 := hkeep _ hwx2
        refine takeD 8 (some 14) (.agg #[.slice A2 ni c2, .slice (some ⟨gM, 0, none⟩) 0 (nl + 1)]) rfl rfl (by kernel_rfl) (by kernel_rfl) (by kernel_rfl) (by kernel_rfl) (fun _ _ _ h => h) (Or.inl ⟨by kernel_rfl, fun wx hSw => by have h := hSw; go_simp⟩) hS9 ?_
        simp only [Act.put, List.setIfInBounds_toArray, List.set_cons_zero, List.set_cons_succ]
        refine oneT 9 (by kernel_rfl) rfl (fun K hK => ?_)
        go_simp
        have hx3 := d_al x2 (.cells #[.slice none 0 0, .slice none 0 0] 25)
        have hrO : RowC (x2.alloc (.cells #[.slice none 0 0, .slice none 0 0] 25)) x2.heap.size 25 #[.slice none 0 0, .slice none 0 0] := RowC.new _ _ _
        have hgO := hwx2.size
        have ho2 := own_below ho2 hx3
        have hoM := own_below hoM hx3
        have hwx3 := c_call hwx2 hx3
        generalize (x2.alloc (.cells #[.slice none 0 0, .slice none 0 0] 25)) = x3 at *
        generalize x2.heap.size = gO at *
        refine hK.out _ _ (fun _ => hkeep _ hwx3) ?_
        clear hK K
        try simp only [Act.put, List.setIfInBounds_toArray, List.set_cons_zero, List.set_cons_succ]
        have hR9 := hrO.row #[.slice A2 ni c2, .slice (some ⟨gM, 0, none⟩) 0 (nl + 1)]
        have hg9 := grown_setRow x3 gO #[.slice A2 ni c2, .slice (some ⟨gM, 0, none⟩) 0 (nl + 1)]
        have ho9 := own_farT ho2 hg9 hrO sh_ne.1
        have hm9 := own_farT hoM hg9 hrO sh_ne.2
        have hb9 := below_setRow hwx3 (show w0.heap.size ≤ gO by omega) #[.slice A2 ni c2, .slice (some ⟨gM, 0, none⟩) 0 (nl + 1)]
        refine oneT 10 (by kernel_rfl) rfl (fun K hK => ?_)
        refine step_store_row rfl 25 (.tmp 3) (.tmp 14) rfl gO #[.slice A2 ni c2, .slice (some ⟨gM, 0, none⟩) 0 (nl + 1)] rfl rfl 25 _ hrO shapeInfo2 rfl (by simp [Value.oneCell']) ?_
        refine hK.out _ _ (fun h => absurd rfl h) ?_
        clear hK K
        refine doneT (by kernel_rfl) ?_ _
        go_wp2_with fail
        go_meet
        exact ⟨gO, A2, c2, gM, rfl, by omega, hR9, hb9, ho9, hm9⟩
      · go_simp
        have hx2 := d_al x1 (.cells #[.slice none 0 0, .slice none 0 0] 25)
        have hrO : RowC (x1.alloc (.cells #[.slice none 0 0, .slice none 0 0] 25)) x1.heap.size 25 #[.slice none 0 0, .slice none 0 0] := RowC.new _ _ _
        have hgO := hwx1.size
        have hoM := own_below hoM hx2
        have hwx2 := c_call hwx1 hx2
        generalize (x1.alloc (.cells #[.slice none 0 0, .slice none 0 0] 25)) = x2 at *
        generalize x1.heap.size = gO at *
        refine hK.out _ _ (fun _ => hkeep _ hwx2) ?_
        clear hK K
        try simp only [Act.put, List.setIfInBounds_toArray, List.set_cons_zero, List.set_cons_succ]
        refine oneT 2 (by kernel_rfl) rfl (fun K hK => ?_)
        go_simp
        refine (hcl x2 hwx2).mono ?_
        rintro e x3 ⟨A2, c2, rfl, ho2, hx3⟩
        have hwx3 := c_call hwx2 hx3
        have ho2 := own_monoT ho2 (c_size x2 hwx2)
        have hoM := own_below hoM hx3
        have hrO := hrO.call hx3
        refine hK.out _ _ (fun _ => hkeep _ hwx3) ?_
        clear hK K
        try simp only [Act.put, List.setIfInBounds_toArray, List.set_cons_zero, List.set_cons_succ]
        have hS9 := hkeep _ hwx3
        refine takeD 8 (some 14) (.agg #[.slice A2 ni c2, .slice (some ⟨gM, 0, none⟩) 0 (nl + 1)]) rfl rfl (by kernel_rfl) (by kernel_rfl) (by kernel_rfl) (by kernel_rfl) (fun _ _ _ h => h) (Or.inl ⟨by kernel_rfl, fun wx hSw => by have h := hSw; go_simp⟩) hS9 ?_
        simp only [Act.put, List.setIfInBounds_toArray, List.set_cons_zero, List.set_cons_succ]
        have hR9 := hrO.row #[.slice A2 ni c2, .slice (some ⟨gM, 0, none⟩) 0 (nl + 1)]
        have hg9 := grown_setRow x3 gO #[.slice A2 ni c2, .slice (some ⟨gM, 0, none⟩) 0 (nl + 1)]
        have ho9 := own_farT ho2 hg9 hrO sh_ne.1
        have hm9 := own_farT hoM hg9 hrO sh_ne.2
        have hb9 := below_setRow hwx3 (show w0.heap.size ≤ gO by omega) #[.slice A2 ni c2, .slice (some ⟨gM, 0, none⟩) 0 (nl + 1)]
        refine oneT 10 (by kernel_rfl) rfl (fun K hK => ?_)
        refine step_store_row rfl 25 (.tmp 3) (.tmp 14) rfl gO #[.slice A2 ni c2, .slice (some ⟨gM, 0, none⟩) 0 (nl + 1)] rfl rfl 25 _ hrO shapeInfo2 rfl (by simp [Value.oneCell']) ?_
        refine hK.out _ _ (fun h => absurd rfl h) ?_
        clear hK K
        refine doneT (by kernel_rfl) ?_ _
        go_wp2_with fail
        go_meet
        exact ⟨gO, A2, c2, gM, rfl, by omega, hR9, hb9, ho9, hm9⟩
    · go_simp
      have hx1 := d_al x0 (.cells #[.slice none 0 0, .slice none 0 0] 25)
      have hrO : RowC (x0.alloc (.cells #[.slice none 0 0, .slice none 0 0] 25)) x0.heap.size 25 #[.slice none 0 0, .slice none 0 0] := RowC.new _ _ _
      have hgO := hwx0.size
      have hwx1 := c_call hwx0 hx1
      generalize (x0.alloc (.cells #[.slice none 0 0, .slice none 0 0] 25)) = x1 at *
      generalize x0.heap.size = gO at *
      refine hK.out _ _ (fun _ => hkeep _ hwx1) ?_
      clear hK K
      try simp only [Act.put, List.setIfInBounds_toArray, List.set_cons_zero, List.set_cons_succ]
      refine readyT [2, 7] (by kernel_rfl) (by simp) (AllReadyT.cons rfl (fun K hK => ?_) (AllReadyT.cons rfl (fun K hK => ?_) AllReadyT.nil))
      · go_simp
        refine (hcl x1 hwx1).mono ?_
        rintro e x2 ⟨A2, c2, rfl, ho2, hx2⟩
        have hwx2 := c_call hwx1 hx2
        have ho2 := own_monoT ho2 (c_size x1 hwx1)
        have hrO := hrO.call hx2
        refine hK.out _ _ (fun _ => hkeep _ hwx2) ?_
        clear hK K
        try simp only [Act.put, List.setIfInBounds_toArray, List.set_cons_zero, List.set_cons_succ]
        refine oneT 7 (by kernel_rfl) rfl (fun K hK => ?_)
        refine step_makeT (by kernel_rfl) (some 13) rfl _ _ 23 rfl w.heap.size 22 i1 _ 1 Try.underlying23 hi1 hy0 hy1 .i64 .i64 _ (nl + 1) rfl rfl (by omega) (by rw [hy2]; omega) (by simp only [maxLen]; omega) (c_size x2 hwx2) ?_
        intro x3 hoM hgM
        have hx3 := (Below.refl x2.heap.size x2).grown hgM (Nat.le_refl _) (by simp)
        have hwx3 := c_call hwx2 hx3
        have ho2 := own_below ho2 hx3
        have hrO := hrO.call hx3
        clear hgM
        generalize x2.heap.size = gM at *
        refine hK.out _ _ (fun _ => hkeep _ hwx3) ?_
        clear hK K
        try simp only [Act.put, List.setIfInBounds_toArray, List.set_cons_zero, List.set_cons_succ]
        have hS9 := hkeep _ hwx3
        refine takeD 8 (some 14) (.agg #[.slice A2 ni c2, .slice (some ⟨gM, 0, none⟩) 0 (nl + 1)]) rfl rfl (by kernel_rfl) (by kernel_rfl) (by kernel_rfl) (by kernel_rfl) (fun _ _ _ h => h) (Or.inl ⟨by kernel_rfl, fun wx hSw => by have h := hSw; go_simp⟩) hS9 ?_
        simp only [Act.put, List.setIfInBounds_toArray, List.set_cons_zero, List.set_cons_succ]
        have hR9 := hrO.row #[.slice A2 ni c2, .slice (some ⟨gM, 0, none⟩) 0 (nl + 1)]
        have hg9 := grown_setRow x3 gO #[.slice A2 ni c2, .slice (some ⟨gM, 0, none⟩) 0 (nl + 1)]
        have ho9 := own_farT ho2 hg9 hrO sh_ne.1
        have hm9 := own_farT hoM hg9 hrO sh_ne.2
        have hb9 := below_setRow hwx3 (show w0.heap.size ≤ gO by omega) #[.slice A2 ni c2, .slice (some ⟨gM, 0, none⟩) 0 (nl + 1)]
        refine oneT 10 (by kernel_rfl) rfl (fun K hK => ?_)
        refine step_store_row rfl 25 (.tmp 3) (.tmp 14) rfl gO #[.slice A2 ni c2, .slice (some ⟨gM, 0, none⟩) 0 (nl + 1)] rfl rfl 25 _ hrO shapeInfo2 rfl (by simp [Value.oneCell']) ?_
        refine hK.out _ _ (fun h => absurd rfl h) ?_
        clear hK K
        refine doneT (by kernel_rfl) ?_ _
        go_wp2_with fail
        go_meet
        exact ⟨gO, A2, c2, gM, rfl, by omega, hR9, hb9, ho9, hm9⟩
      · refine step_makeT (by kernel_rfl) (some 13) rfl _ _ 23 rfl w.heap.size 22 i1 _ 1 Try.underlying23 hi1 hy0 hy1 .i64 .i64 _ (nl + 1) rfl rfl (by omega) (by rw [hy2]; omega) (by simp only [maxLen]; omega) (c_size x1 hwx1) ?_
        intro x2 hoM hgM
        have hx2 := (Below.refl x1.heap.size x1).grown hgM (Nat.le_refl _) (by simp)
        have hwx2 := c_call hwx1 hx2
        have hrO := hrO.call hx2
        clear hgM
        generalize x1.heap.size = gM at *
        refine hK.out _ _ (fun _ => hkeep _ hwx2) ?_
        clear hK K
        try simp only [Act.put, List.setIfInBounds_toArray, List.set_cons_zero, List.set_cons_succ]
        refine oneT 2 (by kernel_rfl) rfl (fun K hK => ?_)
        go_simp
        refine (hcl x2 hwx2).mono ?_
        rintro e x3 ⟨A2, c2, rfl, ho2, hx3⟩
        have hwx3 := c_call hwx2 hx3
        have ho2 := own_monoT ho2 (c_size x2 hwx2)
        have hoM := own_below hoM hx3
        have hrO := hrO.call hx3
        refine hK.out _ _ (fun _ => hkeep _ hwx3) ?_
        clear hK K
        try simp only [Act.put, List.setIfInBounds_toArray, List.set_cons_zero, List.set_cons_succ]
        have hS9 := hkeep _ hwx3
        refine takeD 8 (some 14) (.agg #[.slice A2 ni c2, .slice (some ⟨gM, 0, none⟩) 0 (nl + 1)]) rfl rfl (by kernel_rfl) (by kernel_rfl) (by kernel_rfl) (by kernel_rfl) (fun _ _ _ h => h) (Or.inl ⟨by kernel_rfl, fun wx hSw => by have h := hSw; go_simp⟩) hS9 ?_
        simp only [Act.put, List.setIfInBounds_toArray, List.set_cons_zero, List.set_cons_succ]
        have hR9 := hrO.row #[.slice A2 ni c2, .slice (some ⟨gM, 0, none⟩) 0 (nl + 1)]
        have hg9 := grown_setRow x3 gO #[.slice A2 ni c2, .slice (some ⟨gM, 0, none⟩) 0 (nl + 1)]
        have ho9 := own_farT ho2 hg9 hrO sh_ne.1
        have hm9 := own_farT hoM hg9 hrO sh_ne.2
        have hb9 := below_setRow hwx3 (show w0.heap.size ≤ gO by omega) #[.slice A2 ni c2, .slice (some ⟨gM, 0, none⟩) 0 (nl + 1)]
        refine oneT 10 (by kernel_rfl) rfl (fun K hK => ?_)
        refine step_store_row rfl 25 (.tmp 3) (.tmp 14) rfl gO #[.slice A2 ni c2, .slice (some ⟨gM, 0, none⟩) 0 (nl + 1)] rfl rfl 25 _ hrO shapeInfo2 rfl (by simp [Value.oneCell']) ?_
        refine hK.out _ _ (fun h => absurd rfl h) ?_
        clear hK K
        refine doneT (by kernel_rfl) ?_ _
        go_wp2_with fail
        go_meet
        exact ⟨gO, A2, c2, gM, rfl, by omega, hR9, hb9, ho9, hm9⟩
  case rest =>
    obtain ⟨gO, A2, c2, gM, rfl, hgO, hRO, hbc, ho, hmm⟩ := hcut
    have hMc := hM0.call hbc
    have hMB : MsB w.heap.size w wc [(gO, 25, #[.slice A2 ni c2, .slice (some ⟨gM, 0, none⟩) 0 (nl + 1)]), (gS + 1, 25, #[.slice none 0 0, .slice none 0 0]), (gS, 25, shV Ai ni ci Al nl cl)] := ⟨hMc.old, fun p hp => by
      simp only [List.mem_cons, List.not_mem_nil, or_false] at hp
      rcases hp with rfl | rfl | rfl
      · exact hRO
      · exact hMc.get 0 rfl
      · exact hMc.get 1 rfl⟩
    have hO : OwW w.heap.size wc (.slice A2 ni c2) (.slice (some ⟨gM, 0, none⟩) 0 (nl + 1)) [] [] ids (levI (lv.take 0)) := ⟨by rw [Hni.out]; exact ho, hmm, rfl, fun k u l hk => by simp at hk, fun k u g hk => by simp at hk, fun j k u v g hj => by simp at hj⟩
    have k1 := (hMB.get 2 rfl).cell (i := 1) (v := .slice Al nl cl) rfl
    clear hM0 hw00 hid0 hMc hRO hbc ho hmm
    go_wp2_with fail
    go_loopw [18] (fun i wr => ∃ (j : Nat) (A3 : Option Addr) (c3 : Nat) (us : List Value), j ≤ nl ∧ i = .int .i64 (j : Int) ∧ OwW w.heap.size wr (.slice A2 ni c2) (.slice A3 j c3) us us ids (levI (lv.take j)) ∧
      MsB w.heap.size w wr [(gO, 25, #[.slice A2 ni c2, .slice A3 j c3]), (gS + 1, 25, #[.slice none 0 0, .slice none 0 0]), (gS, 25, shV Ai ni ci Al nl cl)]) (fun i _ => nl - (intOf i).toNat)
    case atStart => exact ⟨0, some ⟨gM, 0, none⟩, nl + 1, [], by omega, rfl, hO, hMB⟩
    case round =>
      clear hMB hO k1
      obtain ⟨j, A3, c3, us, hj, rfl, h, hM⟩ := hrel
      have hb := hM.old
      have hltO := (hM.get 0 rfl).lt
      have hbs := hb.size
      by_cases hjn : j < nl
      · have hjl : j < lv.length := by rw [Hnl.out]; exact hjn
        obtain ⟨l, hl⟩ : ∃ l, lv[j]? = some l := ⟨_, List.getElem?_eq_getElem hjl⟩
        have hjl' : j < (levI lv).length := by rw [levI_lenX]; exact hjl
        obtain ⟨b, o, rfl, hbb, hcell⟩ := (hv.below hb).pos (by omega)
        obtain ⟨Aj, cj, hvj, hcj, hmj, hrj⟩ := hlv.get hjl'
        have hce : (levI lv)[j] = castL l := Option.some.inj ((List.getElem?_eq_getElem hjl').symm.trans (levI_get hl))
        rw [hce, castL_len] at hvj hcj hrj
        have c1 := hcell j _ hvj
        have hlen : l.length ≤ 1000 := hlm _ (List.mem_of_getElem? hl)
        have hrjw := hrj.below hb
        have Htk := Lib.hid (show lv.take (j + 1) = lv.take j ++ [l] by rw [List.take_add_one, hl]; rfl)
        have hlj : (levI (lv.take j)).length = j := by rw [levI_lenX, List.length_take]; omega
        have hol := h.l
        rw [hlj] at hol
        have Hlj := Lib.hid hlj
        obtain ⟨m, hm⟩ : ∃ m, m = l.length := ⟨_, rfl⟩
        rw [← hm] at hvj hcj hrjw c1 hlen
        have Hm := Lib.hid hm
        have kO := (hM.get 0 rfl).cell (i := 1) (v := .slice A3 j c3) rfl
        clear hcell hvj hrj hjl hjl' hce hl hlj hm
        go_upto_region 5 with fail
        try simp only [Act.put]
        have hkeep : ∀ wx : World, Below wr.heap.size wr wx → wx.cell? ⟨gO, 1, none⟩ = some (.slice A3 j c3) := fun wx hb => ((hM.get 0 rfl).call hb).cell rfl
        refine beginT (fun wx => wx.cell? ⟨gO, 1, none⟩ = some (.slice A3 j c3)) 7 (by kernel_rfl) ?_
        have hS := hkeep _ (c_drew (c_refl _))
        refine takeD 0 (some 22) (.pointer (some ⟨gO, 1, none⟩)) rfl rfl (by kernel_rfl) (by kernel_rfl) (by kernel_rfl) (by kernel_rfl) (fun _ _ _ h => h) (Or.inl ⟨by kernel_rfl, fun wx hSw => by have h := hSw; go_simp⟩) hS ?_
        simp only [Act.put, List.setIfInBounds_toArray, List.set_cons_zero, List.set_cons_succ]
        refine takeD 1 (some 23) (.slice A3 j c3) rfl rfl (by kernel_rfl) (by kernel_rfl) (by kernel_rfl) (by kernel_rfl) (fun _ _ _ h => h) (Or.inl ⟨by kernel_rfl, fun wx hSw => by have h := hSw; go_simp⟩) hS ?_
        simp only [Act.put, List.setIfInBounds_toArray, List.set_cons_zero, List.set_cons_succ]
        refine takeD 2 (some 24) (.slice Aj m cj) rfl rfl (by kernel_rfl) (by kernel_rfl) (by kernel_rfl) (by kernel_rfl) (fun _ _ _ h => h) (Or.inl ⟨by kernel_rfl, fun wx hSw => by have h := hSw; go_simp⟩) hS ?_
        simp only [Act.put, List.setIfInBounds_toArray, List.set_cons_zero, List.set_cons_succ]
        have hx0 : Below wr.heap.size wr wr.drew := c_drew (c_refl _)
        have hrj0 := (hrjw.below (hx0.mono hbs)).more (show w.heap.size ≤ wr.drew.heap.size from hbs)
        have hsx0 : wr.drew.heap.size = wr.heap.size := rfl
        have hMx0 := hM.call hx0 hbs
        have hox0 := own_below hol hx0
        generalize wr.drew = x0 at *
        refine oneT 3 (by kernel_rfl) rfl (fun K hK => ?_)
        go_simp
        refine (Clone_any Aj m cj ((castL l).map iv) x0 hcj (by omega) (one_iv _) hrj0).mono ?_
        rintro e x1 ⟨A5, c5, rfl, ho5, hx1⟩
        have hwx1 := c_call hx0 hx1
        have hMx1 := hMx0.call hx1 (by omega)
        have hox1 := own_below hox0 hx1
        have hf5 : ∀ q, (Value.slice A5 m c5).ownBlock = some q → wr.heap.size ≤ q := fun q hq => by rw [← hsx0]; exact own_blockT ho5 q hq
        have ho5 := own_monoT ho5 (show w.heap.size ≤ x0.heap.size by omega)
        refine hK.out _ _ (fun _ => hkeep _ hwx1) ?_
        clear hK K
        try simp only [Act.put, List.setIfInBounds_toArray, List.set_cons_zero, List.set_cons_succ]
        have hal := d_al x1 (.cells #[.slice A5 m c5] 22)
        have hwx2 := c_call hwx1 hal
        have hMx2 := hMx1.call hal (by have := hwx1.size; omega)
        have hox2 := own_below hox1 hal
        have ho52 := own_below ho5 hal
        have hs1 := hwx1.size
        refine oneT 4 (by kernel_rfl) rfl (fun K hK => ?_)
        go_simp
        refine hK.out _ _ (fun _ => hkeep _ hwx2) ?_
        clear hK K
        have hone : ∀ u ∈ [Value.slice A5 m c5], u.oneCell' = true := by intro u hu; simp at hu; subst hu; rfl
        have hz2 : (x1.alloc (.cells #[.slice A5 m c5] 22)).heap.size = x1.heap.size + 1 := by simp
        refine oneT 5 (by kernel_rfl) rfl (fun K hK => ?_)
        refine step_append_rdT (by kernel_rfl) (some 27) rfl (.tmp 23) (.tmp 26) _ rfl w.heap.size 22 i1 _ 24 Try.underlying23 hi1 hy0 hy1 hy2 rfl (.slice A3 j c3) j us rfl hox2 (x1.heap.size + 1) (some ⟨x1.heap.size, 0, none⟩) 1 1 [.slice A5 m c5] rfl (Rd.mk_ _ _ _ rfl (by omega) rfl rfl) hone (by simp only [maxLen]; omega) (by omega) (by omega) ?_
        intro v6 x3 hown6 hgr6 hat6
        obtain ⟨A6, c6, rfl, _, _⟩ := own_formT hown6
        have h6 := h.snoc (u := .slice A5 m c5) (vL' := .slice A6 (j + 1) c6) (l := castL l) hwx2 (by rw [castL_len, ← Hm.out]; exact ho52) hf5 hgr6 (by rw [Hlj.out]; exact hown6)
        rw [show levI (lv.take j) ++ [castL l] = levI (lv.take (j + 1)) by rw [Htk.out]; simp [levI_cast]] at h6
        have hMx3 := hMx2.turn hgr6 (by omega) (fun q hq => by
          obtain ⟨cs, hr⟩ := own_tyT hox2 hq
          exact ⟨own_blockT hox2 q hq, _, cs, hr, fun p hp => by simp at hp; rcases hp with rfl | rfl | rfl <;> exact sh_ne.2.symm⟩)
        have kx : x3.cell? ⟨gO, 1, none⟩ = some (.slice A3 j c3) := (hMx3.get 0 rfl).cell rfl
        have fx := (hMx3.get 0 rfl).frozen 1
        refine hK.out _ _ (fun _ => kx) ?_
        clear hK K
        try simp only [Act.put, List.setIfInBounds_toArray, List.set_cons_zero, List.set_cons_succ]
        generalize us ++ [Value.slice A5 m c5] = us2 at h6
        have hgw : w.heap.size ≤ gO := by have := HgS.out; omega
        have hM7 := hMx3.set hgw (fun q hq => by simp at hq; rcases hq with rfl | rfl <;> simp <;> omega) 1 (.slice A6 (j + 1) c6)
        rw [show (#[.slice A2 ni c2, .slice A3 j c3] : Array Value).setIfInBounds 1 (.slice A6 (j + 1) c6) = #[.slice A2 ni c2, .slice A6 (j + 1) c6] from rfl] at hM7
        have h7 := h6.far (grown_setCell x3 gO 1 (.slice A6 (j + 1) c6)) (hMx3.get 0 rfl) sh_ne.1 sh_ne.2
        clear hMx3 hMx2 hMx1 hMx0 hox2 hox1 hox0 ho52 ho5 hf5 hown6 hgr6 hat6 h6 h hM hol hrj0 hrjw hS hkeep hone
        refine takeD 6 (some 28) (.pointer (some ⟨gO, 1, none⟩)) rfl rfl (by kernel_rfl) (by kernel_rfl) (by kernel_rfl) (by kernel_rfl) (fun _ _ _ h => h) (Or.inl ⟨by kernel_rfl, fun wx hSw => by go_simp⟩) kx ?_
        simp only [Act.put, List.setIfInBounds_toArray, List.set_cons_zero, List.set_cons_succ]
        refine oneT 7 (by kernel_rfl) rfl (fun K hK => ?_)
        go_simp
        refine hK.out _ _ (fun h => absurd rfl h) ?_
        clear hK K
        refine doneT (by kernel_rfl) ?_ _
        go_wp2_with fail
        go_roundw
        case rel => exact ⟨j + 1, A6, c6, us2, by omega, by go_num, h7, hM7⟩
        case measure => simp [intOf]; omega
      · obtain rfl : j = nl := by omega
        rw [List.take_of_length_le (by rw [Hnl.out]; exact Nat.le_refl _)] at h
        go_wp2_with (first
          | ((with_reducible show wpList _ _ _ (⟨some 30, _, _, _, _, _⟩ :: _) _ _); refine wpList_loadC (by kernel_rfl) 25 (.tmp 3) rfl gO rfl 25 #[.slice A2 ni c2, .slice A3 j c3] _ (hM.get 0 rfl) Try.underlying25 rfl shapeInfo2 ?_)
          | ((with_reducible show wpList _ _ _ (⟨none, Op.store 25 _ _, _, _, _, _⟩ :: _) _ _); refine wpList_store_row rfl 25 (.tmp 2) (.tmp 30) rfl (gS + 1) #[.slice A2 ni c2, .slice A3 j c3] rfl rfl 25 _ (hM.get 1 rfl) shapeInfo2 rfl (by simp [Value.oneCell']) ?_))
        try simp only [Act.put]
        have hR9 := (hM.get 1 rfl).row #[.slice A2 ni c2, .slice A3 j c3]
        have hw9 := h.far (grown_setRow _ (gS + 1) #[.slice A2 ni c2, .slice A3 j c3]) (hM.get 1 rfl) sh_ne.1 sh_ne.2
        have hb9 := below_setRow hM.old (show w.heap.size ≤ gS + 1 by have := HgS.out; omega) #[.slice A2 ni c2, .slice A3 j c3]
        refine bodyPost_ret (results_cell_one rfl _ _ (gS + 1) _ #[.slice A2 ni c2, .slice A3 j c3] _ rfl hR9 Try.underlying25 rfl shapeInfo2) rfl (Hpost.out _ _ _ _ _ _ _ _ hb9 hw9)

end Go.Proofs.Ytmganbdbihjbmaa

/-
  CONTRACTS of the program's Insert and Delete (tree). Printed by gen_treepid.py.
-/
set_option linter.unusedVariables false
namespace Go.Proofs.Ytmganbdbihjbmaa
open Go.RowKit

theorem tells_nil (w : World) (er : Value) : TellsThawed (.returned (.tuple #[.agg #[.slice none 0 0, .slice none 0 0], er])) w := by
  intro Ai ni ci Al nl cl er' e
  simp only [shV, Ending.returned.injEq, Value.tuple.injEq, Array.mk.injEq, List.cons.injEq, Value.agg.injEq, Value.slice.injEq, and_true] at e
  obtain ⟨⟨⟨rfl, _, _⟩, rfl, _, _⟩, _⟩ := e
  exact ⟨fun ad h => (by cases h), fun b o j h => (by cases h)⟩
theorem tells_own {w : World} {Ai Al : Option Addr} {ni ci nl cl : Nat} {er : Value} (h : ThawS w Ai Al nl) : TellsThawed (.returned (.tuple #[.agg (shV Ai ni ci Al nl cl), er])) w := by
  intro Ai' ni' ci' Al' nl' cl' er' e
  simp only [shV, Ending.returned.injEq, Value.tuple.injEq, Array.mk.injEq, List.cons.injEq, Value.agg.injEq, Value.slice.injEq, and_true] at e
  obtain ⟨⟨⟨rfl, _, _⟩, rfl, rfl, _⟩, _⟩ := e
  exact h
theorem insE_ref {ids : List Int} {ll : List (List Int)} {id : Int} (h : chkT ids ll = true) : insE ids ll id = refT ids id := by
  have h1 := (chkT_lv h).1
  unfold insE refT
  by_cases hm : mayT id = false
  · rw [if_pos hm, if_pos]
    rw [mayT, Bool.and_eq_false_iff, decide_eq_false_iff_not, decide_eq_false_iff_not] at hm
    omega
  · rw [if_neg hm, if_neg]
    · split
      · rfl
      · by_cases h2 : ids.length = 1000
        · rw [if_pos h2, if_pos (by omega)]
        · rw [if_neg h2, if_neg (by omega)]
    · simp only [mayT, Bool.and_eq_false_iff, decide_eq_false_iff_not] at hm
      rw [h]
      simp only [Bool.true_eq_false, false_or]
      omega

set_option maxRecDepth 100000 in
set_option maxHeartbeats 4000000 in
theorem PInsert_any (Ai : Option Addr) (ni ci : Nat) (Al : Option Addr) (nl cl : Nat) (ids : List Int) (ll : List (List Int)) (id : Int) (w : World) (h : ShR w w.heap.size Ai ni ci Al nl cl ids ll) (hf : fewT ids ll = true) :
    Calls Try.prog 30 #[.agg (shV Ai ni ci Al nl cl), .int .i64 id] w fun e w' => InsPost w ids ll id e w' ∧ TellsThawed e w' := by
  have HE := Lib.hid (show ∀ er : Int, insE ids ll id = er → er ≠ 0 → ∀ w', Below w.heap.size w w' → (fun e w' => InsPost w ids ll id e w' ∧ TellsThawed e w') (.returned (.tuple #[.agg #[.slice none 0 0, .slice none 0 0], .int .i64 er])) w' from fun er h1 h2 w' hb => ⟨⟨hb, .inl ⟨by rw [h1]; exact h2, by rw [h1]; rfl⟩⟩, tells_nil _ _⟩)
  have HO := Lib.hid (show insE ids ll id = 0 → ∀ base w' Ai ni ci Al nl cl vs, w.heap.size ≤ base → Below w.heap.size w w' → OwW base w' (.slice Ai ni ci) (.slice Al nl cl) vs vs (insS ids (lvN ll) id).1 (levI (insS ids (lvN ll) id).2) →
    (fun e w' => InsPost w ids ll id e w' ∧ TellsThawed e w') (.returned (.tuple #[.agg (shV Ai ni ci Al nl cl), .int .i64 0])) w' from fun h0 base w' _ _ _ _ _ _ vs hb h1 h2 => ⟨⟨h1, .inr ⟨h0, _, _, _, _, _, _, rfl, (h2.shN hb).1⟩⟩, tells_own (h2.shN hb).2⟩)
  generalize (fun e w' => InsPost w ids ll id e w' ∧ TellsThawed e w') = PO at *
  have hM0 := ((Ms.nil w).box 25 (shV Ai ni ci Al nl cl)).box 25 #[.slice none 0 0, .slice none 0 0]
  simp only [World.size_alloc] at hM0
  have hsh0 := (h.below hM0.old).more hM0.old.size
  have hck := PCheck_any Ai ni ci Al nl cl ids ll _ hsh0 (few_million hf) (by have := (few_len hf).2.1; have := h.hni; omega)
  clear hsh0
  have hci := h.hci
  have hmi := h.hmi
  go_enter Try.func30, Try.ntmps30
  go_wp2_with ((with_reducible show wpList _ _ _ (⟨some 8, _, _, _, _, _⟩ :: _) _ _); refine wpList_loadC (by kernel_rfl) 25 (.tmp 2) rfl (w.heap.size) rfl 25 (shV Ai ni ci Al nl cl) _ (hM0.get 1 rfl) Try.underlying25 rfl shapeInfo2 ?_)
  refine hck.mono ?_
  rintro e w1 ⟨rfl, hb1⟩
  have hM1 := hM0.call hb1
  clear hM0 hb1 hck
  by_cases hc : chkT ids ll = true
  rotate_left
  · have hcf : chkT ids ll = false := by simpa using hc
    rw [show chkE ids ll = 1 by rw [chkE, hcf]; rfl]
    clear hc
    go_wp2_with ((with_reducible show wpList _ _ _ (⟨none, Op.store 25 _ _, _, _, _, _⟩ :: _) _ _); refine wpList_store_row rfl 25 (.tmp 4) (.tmp 12) rfl (w.heap.size + 1) #[.slice none 0 0, .slice none 0 0] rfl rfl 25 _ (hM1.get 0 rfl) shapeInfo2 rfl (by simp [Value.oneCell']) ?_)
    refine bodyPost_ret (results_cell_two rfl _ _ (w.heap.size + 1) 25 #[.slice none 0 0, .slice none 0 0] _ rfl ((hM1.get 0 rfl).row _) Try.underlying25 rfl shapeInfo2) rfl ?_
    exact (HE.out 1 (by rw [insE, if_pos (.inl hcf)]) (by decide) _ (below_setRow hM1.old (by omega) _))
  rw [show chkE ids ll = 0 by rw [chkE, hc]; rfl]
  obtain ⟨c1, c2, c3, c4⟩ := chkT_lv hc
  have hl2 := levI_lvN c4
  have hlm : ∀ l ∈ lvN ll, l.length ≤ 1000 := fun l hl => Nat.le_trans (lvOK_len _ _ c3 l hl) c1
  have hh := lv_high hc
  have hrise := okI_rise ids c2
  have hrf := PRefused_any Ai ni ci ids id w1 hci hmi (by have := h.hni; omega) hrise ((h.hids.below hM1.old).more hM1.old.size)
  have hsh1 : ShR w1 w1.heap.size Ai ni ci Al nl cl ids (levI (lvN ll)) := by rw [hl2]; exact (h.below hM1.old).more hM1.old.size
  have hcp := PCopied_any Ai ni ci Al nl cl ids (lvN ll) w1 (by omega) c1 hlm hsh1
  have Her := Lib.hid (insE_ref (id := id) hc)
  have k0 := (hM1.get 1 rfl).cell (i := 0) (v := .slice Ai ni ci) rfl
  clear hc hsh1 h hlm c2 c4
  go_wp2_with fail
  refine hrf.mono ?_
  rintro e w1 ⟨rfl, rfl⟩
  by_cases hr : refT ids id = 0
  rotate_left
  · have Hr := Lib.hid hr
    have hne : (refT ids id != 0) = true := by rw [bne_iff_ne]; exact hr
    obtain ⟨er, her⟩ : ∃ er, er = refT ids id := ⟨_, rfl⟩
    rw [← her] at hne Her Hr ⊢
    clear hr her k0
    go_wp2_with ((with_reducible show wpList _ _ _ (⟨none, Op.store 25 _ _, _, _, _, _⟩ :: _) _ _); refine wpList_store_row rfl 25 (.tmp 4) (.tmp 20) rfl (w.heap.size + 1) #[.slice none 0 0, .slice none 0 0] rfl rfl 25 _ (hM1.get 0 rfl) shapeInfo2 rfl (by simp [Value.oneCell']) ?_)
    refine bodyPost_ret (results_cell_two rfl _ _ (w.heap.size + 1) 25 #[.slice none 0 0, .slice none 0 0] _ rfl ((hM1.get 0 rfl).row _) Try.underlying25 rfl shapeInfo2) rfl ?_
    exact (HE.out er (Her.out) Hr.out _ (below_setRow hM1.old (by omega) _))
  have Hr := Lib.hid (Her.out.trans hr)
  rw [hr]
  clear hr k0
  go_wp2_with ((with_reducible show wpList _ _ _ (⟨some 22, _, _, _, _, _⟩ :: _) _ _); refine wpList_loadC (by kernel_rfl) 25 (.tmp 2) rfl (w.heap.size) rfl 25 (shV Ai ni ci Al nl cl) _ (hM1.get 1 rfl) Try.underlying25 rfl shapeInfo2 ?_)
  refine hcp.mono ?_
  rintro e w2 ⟨hb2, A2, n2, c2', B2, m2, d2, vs2, rfl, h2⟩
  have hM2 := hM1.call hb2
  have hput := PPut_any w1.heap.size A2 n2 c2' B2 m2 d2 vs2 ids (lvN ll) id w2 hb2.size c1 (by omega) hrise c3 h2
  have hlt1 := (hM1.get 0 rfl).lt
  clear hcp hM1 h2
  go_wp2_with fail
  refine hput.mono ?_
  rintro e w3 ⟨hb3, A3, n3, c3', B3, m3, d3, vs3, rfl, h3⟩
  have hR3 := (hM2.get 0 rfl).below hb3 hlt1
  have hB3 : Below w.heap.size w w3 := hM2.old.trans (hb3.mono (by omega))
  clear hM2 hput hb3 hb2
  have h4 := h3.far (grown_setRow w3 (w.heap.size + 1) (shV A3 n3 c3' B3 m3 d3)) hR3 sh_ne.1 sh_ne.2
  have hB4 := below_setRow hB3 (show w.heap.size ≤ w.heap.size + 1 by omega) (shV A3 n3 c3' B3 m3 d3)
  have hlw : w.heap.size ≤ w1.heap.size := by omega
  go_wp2_with ((with_reducible show wpList _ _ _ (⟨none, Op.store 25 _ _, _, _, _, _⟩ :: _) _ _); refine wpList_store_row rfl 25 (.tmp 4) (.tmp 25) rfl (w.heap.size + 1) (shV A3 n3 c3' B3 m3 d3) rfl rfl 25 _ (hR3) shapeInfo2 rfl (by simp [shV, Value.oneCell']) ?_)
  refine bodyPost_ret (results_cell_two rfl _ _ (w.heap.size + 1) 25 (shV A3 n3 c3' B3 m3 d3) _ rfl (hR3.row _) Try.underlying25 rfl shapeInfo2) rfl ?_
  exact HO.out Hr.out _ _ _ _ _ _ _ _ _ hlw hB4 h4

set_option maxRecDepth 100000 in
set_option maxHeartbeats 4000000 in
theorem PDelete_any (Ai : Option Addr) (ni ci : Nat) (Al : Option Addr) (nl cl : Nat) (ids : List Int) (ll : List (List Int)) (id : Int) (w : World) (h : ShR w w.heap.size Ai ni ci Al nl cl ids ll) (hf : fewT ids ll = true) :
    Calls Try.prog 29 #[.agg (shV Ai ni ci Al nl cl), .int .i64 id] w fun e w' => DelPost w ids ll id e w' ∧ TellsThawed e w' := by
  have HE := Lib.hid (show ∀ er : Int, delE ids ll id = er → er ≠ 0 → ∀ w', Below w.heap.size w w' → (fun e w' => DelPost w ids ll id e w' ∧ TellsThawed e w') (.returned (.tuple #[.agg #[.slice none 0 0, .slice none 0 0], .int .i64 er])) w' from fun er h1 h2 w' hb => ⟨⟨hb, .inl ⟨by rw [h1]; exact h2, by rw [h1]; rfl⟩⟩, tells_nil _ _⟩)
  have HO := Lib.hid (show delE ids ll id = 0 → ∀ base w' Ai ni ci Al nl cl vs, w.heap.size ≤ base → Below w.heap.size w w' → OwW base w' (.slice Ai ni ci) (.slice Al nl cl) vs vs (delS ids (lvN ll) id).1 (levI (delS ids (lvN ll) id).2) →
    (fun e w' => DelPost w ids ll id e w' ∧ TellsThawed e w') (.returned (.tuple #[.agg (shV Ai ni ci Al nl cl), .int .i64 0])) w' from fun h0 base w' _ _ _ _ _ _ vs hb h1 h2 => ⟨⟨h1, .inr ⟨h0, _, _, _, _, _, _, rfl, (h2.shN hb).1⟩⟩, tells_own (h2.shN hb).2⟩)
  generalize (fun e w' => DelPost w ids ll id e w' ∧ TellsThawed e w') = PO at *
  have hM0 := ((Ms.nil w).box 25 (shV Ai ni ci Al nl cl)).box 25 #[.slice none 0 0, .slice none 0 0]
  simp only [World.size_alloc] at hM0
  have hsh0 := (h.below hM0.old).more hM0.old.size
  have hck := PCheck_any Ai ni ci Al nl cl ids ll _ hsh0 (few_million hf) (by have := (few_len hf).2.1; have := h.hni; omega)
  clear hsh0
  have hci := h.hci
  have hmi := h.hmi
  go_enter Try.func29, Try.ntmps29
  go_wp2_with ((with_reducible show wpList _ _ _ (⟨some 9, _, _, _, _, _⟩ :: _) _ _); refine wpList_loadC (by kernel_rfl) 25 (.tmp 2) rfl (w.heap.size) rfl 25 (shV Ai ni ci Al nl cl) _ (hM0.get 1 rfl) Try.underlying25 rfl shapeInfo2 ?_)
  refine hck.mono ?_
  rintro e w1 ⟨rfl, hb1⟩
  have hM1 := hM0.call hb1
  clear hM0 hb1 hck
  by_cases hc : chkT ids ll = true
  rotate_left
  · have hcf : chkT ids ll = false := by simpa using hc
    rw [show chkE ids ll = 1 by rw [chkE, hcf]; rfl]
    clear hc
    go_wp2_with ((with_reducible show wpList _ _ _ (⟨none, Op.store 25 _ _, _, _, _, _⟩ :: _) _ _); refine wpList_store_row rfl 25 (.tmp 4) (.tmp 13) rfl (w.heap.size + 1) #[.slice none 0 0, .slice none 0 0] rfl rfl 25 _ (hM1.get 0 rfl) shapeInfo2 rfl (by simp [Value.oneCell']) ?_)
    refine bodyPost_ret (results_cell_two rfl _ _ (w.heap.size + 1) 25 #[.slice none 0 0, .slice none 0 0] _ rfl ((hM1.get 0 rfl).row _) Try.underlying25 rfl shapeInfo2) rfl ?_
    exact (HE.out 1 (by rw [delE, if_pos hcf]) (by decide) _ (below_setRow hM1.old (by omega) _))
  rw [show chkE ids ll = 0 by rw [chkE, hc]; rfl]
  obtain ⟨c1, c2, c3, c4⟩ := chkT_lv hc
  have hl2 := levI_lvN c4
  have hlm : ∀ l ∈ lvN ll, l.length ≤ 1000 := fun l hl => Nat.le_trans (lvOK_len _ _ c3 l hl) c1
  have hh := lv_high hc
  have hrise := okI_rise ids c2
  have hsr := Search_any Ai ni ci ids id w1 hci hmi (by have := h.hni; omega) hrise ((h.hids.below hM1.old).more hM1.old.size)
  have hsh1 : ShR w1 w1.heap.size Ai ni ci Al nl cl ids (levI (lvN ll)) := by rw [hl2]; exact (h.below hM1.old).more hM1.old.size
  have hcp := PCopied_any Ai ni ci Al nl cl ids (lvN ll) w1 (by omega) c1 hlm hsh1
  have Hc := Lib.hid hc
  have k0 := (hM1.get 1 rfl).cell (i := 0) (v := .slice Ai ni ci) rfl
  have Hrb := Lib.hid (fun h => rise_bel ids id hrise h)
  have Hdl := Lib.hid (show isT ids id = true → (delS ids (lvN ll) id).1 = ids.eraseIdx (belT ids id) ∧ (delS ids (lvN ll) id).2 = delL (lvN ll) (belT ids id) from fun hi => by
    have hb := (rise_bel ids id hrise hi).1
    rw [delS]
    split
    · rename_i h1
      have h0 : belT ids id = 0 := by omega
      have hlv : lvN ll = [] := lv_nilT c3 (by omega)
      rw [h0, hlv]
      match ids, h1 with
      | [x], _ => exact ⟨rfl, rfl⟩
    · exact ⟨rfl, rfl⟩)
  have Hbb := Lib.hid (show isT ids id = true → belT ids id < ids.length from fun hi => (rise_bel ids id hrise hi).1)
  clear hc hsh1 h hlm c2 c4 Hrb
  generalize belT ids id = p at *
  go_wp2_with fail
  refine hsr.mono ?_
  rintro e w1 ⟨rfl, rfl⟩
  by_cases hi : isT ids id = true
  rotate_left
  · have hif : isT ids id = false := by simpa using hi
    have He := Lib.hid (show delE ids ll id = 6 by rw [delE, if_neg (by rw [Hc.out]; simp), if_pos hif])
    rw [hif]
    clear hi hif k0
    go_wp2_with ((with_reducible show wpList _ _ _ (⟨none, Op.store 25 _ _, _, _, _, _⟩ :: _) _ _); refine wpList_store_row rfl 25 (.tmp 4) (.tmp 24) rfl (w.heap.size + 1) #[.slice none 0 0, .slice none 0 0] rfl rfl 25 _ (hM1.get 0 rfl) shapeInfo2 rfl (by simp [Value.oneCell']) ?_)
    refine bodyPost_ret (results_cell_two rfl _ _ (w.heap.size + 1) 25 #[.slice none 0 0, .slice none 0 0] _ rfl ((hM1.get 0 rfl).row _) Try.underlying25 rfl shapeInfo2) rfl ?_
    exact (HE.out 6 (He.out) (by decide) _ (below_setRow hM1.old (by omega) _))
  have Hr := Lib.hid (show delE ids ll id = 0 by rw [delE, if_neg (by rw [Hc.out]; simp), if_neg (by rw [hi]; simp)])
  have Hdl2 := Lib.hid (Hdl.out hi)
  have hpl := Hbb.out hi
  rw [hi]
  clear hi k0 hsr
  go_wp2_with ((with_reducible show wpList _ _ _ (⟨some 25, _, _, _, _, _⟩ :: _) _ _); refine wpList_loadC (by kernel_rfl) 25 (.tmp 2) rfl (w.heap.size) rfl 25 (shV Ai ni ci Al nl cl) _ (hM1.get 1 rfl) Try.underlying25 rfl shapeInfo2 ?_)
  refine hcp.mono ?_
  rintro e w2 ⟨hb2, A2, n2, c2', B2, m2, d2, vs2, rfl, h2⟩
  have hM2 := hM1.call hb2
  have hput := PTaken_any w1.heap.size A2 n2 c2' B2 m2 d2 vs2 ids (lvN ll) p w2 hb2.size c1 (by omega) hpl c3 h2
  have hlt1 := (hM1.get 0 rfl).lt
  clear hcp hM1 h2
  go_wp2_with fail
  refine hput.mono ?_
  rintro e w3 ⟨hb3, A3, n3, c3', B3, m3, d3, vs3, rfl, h3⟩
  have hR3 := (hM2.get 0 rfl).below hb3 hlt1
  have hB3 : Below w.heap.size w w3 := hM2.old.trans (hb3.mono (by omega))
  clear hM2 hput hb3 hb2
  have h4 := h3.far (grown_setRow w3 (w.heap.size + 1) (shV A3 n3 c3' B3 m3 d3)) hR3 sh_ne.1 sh_ne.2
  have hB4 := below_setRow hB3 (show w.heap.size ≤ w.heap.size + 1 by omega) (shV A3 n3 c3' B3 m3 d3)
  have hlw : w.heap.size ≤ w1.heap.size := by omega
  go_wp2_with ((with_reducible show wpList _ _ _ (⟨none, Op.store 25 _ _, _, _, _, _⟩ :: _) _ _); refine wpList_store_row rfl 25 (.tmp 4) (.tmp 28) rfl (w.heap.size + 1) (shV A3 n3 c3' B3 m3 d3) rfl rfl 25 _ (hR3) shapeInfo2 rfl (by simp [shV, Value.oneCell']) ?_)
  refine bodyPost_ret (results_cell_two rfl _ _ (w.heap.size + 1) 25 (shV A3 n3 c3' B3 m3 d3) _ rfl (hR3.row _) Try.underlying25 rfl shapeInfo2) rfl ?_
  exact HO.out Hr.out _ _ _ _ _ _ _ _ _ hlw hB4 (by rw [Hdl2.out.1, Hdl2.out.2]; exact h4)

end Go.Proofs.Ytmganbdbihjbmaa

/-
  CONTRACT of the program's Build (tree). Printed by gen_treepj.py.
-/
set_option linter.unusedVariables false
namespace Go.Proofs.Ytmganbdbihjbmaa
open Go.RowKit

theorem bld_cons (id : Int) (r ids : List Int) (lv : List (List Nat)) : bldS (id :: r) ids lv = if insE ids (levI lv) id = 0 then bldS r (insS ids lv id).1 (insS ids lv id).2 else (insE ids (levI lv) id, [], []) := rfl
theorem OwW.nil (base : Nat) (w : World) : OwW base w (.slice none 0 0) (.slice none 0 0) [] [] [] (levI []) := ⟨World.ownsRow_nil _ _ _ _, World.ownsRow_nil _ _ _ _, rfl, fun k u l h => by simp at h, fun k u g h => by simp at h, fun j k u v g h => by simp at h⟩

set_option maxRecDepth 100000 in
set_option maxHeartbeats 4000000 in
theorem PBuild_any (A : Option Addr) (n c : Nat) (xs : List Int) (w : World) (hn : n ≤ 1000000) (hx : Rd w w.heap.size A n (xs.map iv)) :
    Calls Try.prog 24 #[.slice A n c] w (BuildPost w xs) := by
  have Hxl := Lib.hid (show xs.length = n by simpa using hx.len)
  have HE := Lib.hid (show ∀ er w', (bldS xs [] []) = (er, [], []) → Below w.heap.size w w' → BuildPost w xs (.returned (.tuple #[.agg #[.slice none 0 0, .slice none 0 0], .int .i64 er])) w' from fun er w' h1 hb => ⟨hb, none, 0, 0, none, 0, 0, by rw [h1]; rfl, by rw [h1]; exact ShN.nil _ _ _⟩)
  have HO := Lib.hid (show ∀ base w' Ai ni ci Al nl cl vs ids lv, bldS xs [] [] = (0, ids, lv) → w.heap.size ≤ base → Below w.heap.size w w' → OwW base w' (.slice Ai ni ci) (.slice Al nl cl) vs vs ids (levI lv) →
    BuildPost w xs (.returned (.tuple #[.agg (shV Ai ni ci Al nl cl), .int .i64 0])) w' from fun base w' _ _ _ _ _ _ vs ids lv h0 hb h1 h2 => ⟨h1, _, _, _, _, _, _, by rw [h0], by rw [h0]; exact (h2.shN hb).1⟩)
  generalize BuildPost w xs = PO at *
  have hM0 := ((Ms.nil w).box 25 #[.slice none 0 0, .slice none 0 0]).put 25 #[.slice none 0 0, .slice none 0 0] #[.slice none 0 0, .slice none 0 0]
  simp only [World.size_alloc] at hM0
  go_enter Try.func24, Try.ntmps24
  go_upto_region 2 with ((with_reducible show wpList _ _ _ (⟨none, Op.store 25 _ _, _, _, _, _⟩ :: _) _ _); refine wpList_store_row rfl 25 (.tmp 4) (.tmp 8) rfl (w.heap.size + 1) #[.slice none 0 0, .slice none 0 0] rfl rfl 25 _ (RowC.mk_ _ _ _ (by simp)) shapeInfo2 rfl (by simp [Value.oneCell']) ?_)
  try simp only [Act.put]
  refine wp_gen (fun wx => Ms w wx [(w.heap.size + 1, 25, #[.slice none 0 0, .slice none 0 0]), (w.heap.size, 25, #[.slice none 0 0, .slice none 0 0])]) hM0 ?_
  clear hM0
  rintro w1 hM1
  go_wp2_with fail
  go_loopw [11] (fun i wr => ∃ (j : Nat) (Ai : Option Addr) (ni ci : Nat) (Al : Option Addr) (nl cl : Nat) (vs : List Value) (ids : List Int) (lv : List (List Nat)), j ≤ n ∧ i = .int .i64 (j : Int) ∧ chkT ids (levI lv) = true ∧ bldS xs [] [] = bldS (xs.drop j) ids lv ∧
    OwW (w.heap.size + 1 + 1) wr (.slice Ai ni ci) (.slice Al nl cl) vs vs ids (levI lv) ∧ Ms w wr [(w.heap.size + 1, 25, shV Ai ni ci Al nl cl), (w.heap.size, 25, #[.slice none 0 0, .slice none 0 0])]) (fun i _ => n - (intOf i).toNat)
  case atStart => exact ⟨0, none, 0, 0, none, 0, 0, [], [], [], by omega, rfl, by decide, rfl, OwW.nil _ _, hM1⟩
  case round =>
    clear hM1
    obtain ⟨j, Ai, ni, ci, Al, nl, cl, vs, ids, lv, hj, rfl, hc, hbl, h, hM⟩ := hrel
    have Hbl := Lib.hid hbl
    have hb := hM.old
    have hlt1 := (hM.get 0 rfl).lt
    clear hbl
    by_cases hlt : j < n
    · have hjx : j < xs.length := by rw [Hxl.out]; exact hlt
      obtain ⟨x, hxj⟩ : ∃ x, xs[j]? = some x := ⟨_, List.getElem?_eq_getElem hjx⟩
      obtain ⟨g, o, rfl, hgl, hcell⟩ := (hx.below hb).pos (by omega)
      have c1 := hcell j (iv x) (by rw [List.getElem?_map, hxj]; rfl)
      rw [iv_def] at c1
      have Hst := Lib.hid (show bldS xs [] [] = if insE ids (levI lv) x = 0 then bldS (xs.drop (j + 1)) (insS ids lv x).1 (insS ids lv x).2 else (insE ids (levI lv) x, [], []) by
        rw [Hbl.out, List.drop_eq_getElem_cons hjx, (List.getElem?_eq_some_iff.1 hxj).2, bld_cons])
      obtain ⟨q1, q2, q3, q4⟩ := chkT_lv hc
      rw [lvN_levI] at q3
      have hrise := okI_rise ids q2
      have hh := lv_high hc
      rw [lvN_levI] at hh
      obtain ⟨_, _, e1, hci, hmi⟩ := own_formT h.i
      injection e1 with e0 e2 e3
      subst e3 e0
      have Hni := Lib.hid e2
      rw [← e2] at hci
      have hio := h.i
      rw [← e2] at hio
      clear e2
      have hrf := PRefused_any Ai ni ci ids x wr hci hmi (by have := Hni.out; omega) hrise (Rd.of_own hio)
      have Her := Lib.hid (insE_ref (id := x) hc)
      have Hik := Lib.hid (fun h0 => ins_chk (ids := ids) (ll := levI lv) (id := x) h0)
      have k0 := (hM.get 0 rfl).cell (i := 0) (v := .slice Ai ni ci) rfl
      clear hcell hxj hjx hc q2 q4 hio
      go_wp2_with fail
      refine hrf.mono ?_
      rintro e wr ⟨rfl, rfl⟩
      by_cases hr : refT ids x = 0
      rotate_left
      · have hne : (refT ids x != 0) = true := by rw [bne_iff_ne]; exact hr
        have Hfin := Lib.hid (show bldS xs [] [] = (refT ids x, [], []) by rw [Hst.out, if_neg (by rw [Her.out]; exact hr), Her.out])
        obtain ⟨er, her⟩ : ∃ er, er = refT ids x := ⟨_, rfl⟩
        rw [← her] at hne Hfin ⊢
        clear hr her k0
        go_wp2_with ((with_reducible show wpList _ _ _ (⟨none, Op.store 25 _ _, _, _, _, _⟩ :: _) _ _); refine wpList_store_row rfl 25 (.tmp 2) (.tmp 21) rfl (w.heap.size) #[.slice none 0 0, .slice none 0 0] rfl rfl 25 _ (hM.get 1 rfl) shapeInfo2 rfl (by simp [Value.oneCell']) ?_)
        refine bodyPost_ret (results_cell_two rfl _ _ (w.heap.size) 25 #[.slice none 0 0, .slice none 0 0] _ rfl ((hM.get 1 rfl).row _) Try.underlying25 rfl shapeInfo2) rfl ?_
        exact HE.out _ _ Hfin.out (below_setRow hM.old (Nat.le_refl _) _)
      have Hfin := Lib.hid (show bldS xs [] [] = bldS (xs.drop (j + 1)) (insS ids lv x).1 (insS ids lv x).2 by rw [Hst.out, if_pos (by rw [Her.out]; exact hr)])
      have Hck := Lib.hid (show chkT (insS ids lv x).1 (levI (insS ids lv x).2) = true by
        have := (Hik.out (by rw [Her.out]; exact hr)).2.2
        rwa [lvN_levI] at this)
      rw [hr]
      clear hr k0 hrf
      have hput := PPut_any (w.heap.size + 1 + 1) Ai ni ci Al nl cl vs ids lv x wr (by omega) q1 (by omega) hrise q3 h
      obtain ⟨S, hS⟩ : ∃ S, S = insS ids lv x := ⟨_, rfl⟩
      rw [← hS] at hput Hfin Hck
      go_wp2_with ((with_reducible show wpList _ _ _ (⟨some 23, _, _, _, _, _⟩ :: _) _ _); refine wpList_loadC (by kernel_rfl) 25 (.tmp 4) rfl (w.heap.size + 1) rfl 25 (shV Ai ni ci Al nl cl) _ (hM.get 0 rfl) Try.underlying25 rfl shapeInfo2 ?_)
      refine hput.mono ?_
      rintro e w3 ⟨hb3, A3, n3, c3, B3, m3, d3, vs3, rfl, h3⟩
      have hR1 := (hM.get 0 rfl).below hb3 (by omega)
      have hR2 := (hM.get 1 rfl).below hb3 (by omega)
      have hB3 : Below w.heap.size w w3 := hM.old.trans (hb3.mono (by omega))
      have hM3 : Ms w w3 [(w.heap.size + 1, 25, shV Ai ni ci Al nl cl), (w.heap.size, 25, #[.slice none 0 0, .slice none 0 0])] := ⟨hB3, fun p hp => by
        simp only [List.mem_cons, List.not_mem_nil, or_false] at hp
        rcases hp with rfl | rfl
        · exact hR1
        · exact hR2⟩
      have hM4 := hM3.setT (by omega) (fun p hp => by simp at hp; subst hp; simp) (shV A3 n3 c3 B3 m3 d3)
      have h4 := h3.far (grown_setRow w3 (w.heap.size + 1) (shV A3 n3 c3 B3 m3 d3)) hR1 sh_ne.1 sh_ne.2
      clear hput hS hR2 hB3 hM h h3 hb3
      go_wp2_with ((with_reducible show wpList _ _ _ (⟨none, Op.store 25 _ _, _, _, _, _⟩ :: _) _ _); refine wpList_store_row rfl 25 (.tmp 4) (.tmp 25) rfl (w.heap.size + 1) (shV A3 n3 c3 B3 m3 d3) rfl rfl 25 _ (hR1) shapeInfo2 rfl (by simp [shV, Value.oneCell']) ?_)
      try simp only [Act.put]
      go_roundw
      case rel => exact ⟨j + 1, A3, n3, c3, B3, m3, d3, vs3, S.1, S.2, by omega, by go_num, Hck.out, Hfin.out, h4, hM4⟩
      case measure => simp [intOf]; omega
    · obtain rfl : j = n := by omega
      have Hfin := Lib.hid (show bldS xs [] [] = (0, ids, lv) by rw [Hbl.out, List.drop_of_length_le (by rw [Hxl.out]; exact Nat.le_refl _)]; rfl)
      have h4 := h.far (grown_setRow wr w.heap.size (shV Ai ni ci Al nl cl)) (hM.get 1 rfl) sh_ne.1 sh_ne.2
      go_wp2_with (first
        | ((with_reducible show wpList _ _ _ (⟨some 27, _, _, _, _, _⟩ :: _) _ _); refine wpList_loadC (by kernel_rfl) 25 (.tmp 4) rfl (w.heap.size + 1) rfl 25 (shV Ai ni ci Al nl cl) _ (hM.get 0 rfl) Try.underlying25 rfl shapeInfo2 ?_)
        | ((with_reducible show wpList _ _ _ (⟨none, Op.store 25 _ _, _, _, _, _⟩ :: _) _ _); refine wpList_store_row rfl 25 (.tmp 2) (.tmp 27) rfl (w.heap.size) (shV Ai ni ci Al nl cl) rfl rfl 25 _ (hM.get 1 rfl) shapeInfo2 rfl (by simp [shV, Value.oneCell']) ?_))
      refine bodyPost_ret (results_cell_two rfl _ _ (w.heap.size) 25 (shV Ai ni ci Al nl cl) _ rfl ((hM.get 1 rfl).row _) Try.underlying25 rfl shapeInfo2) rfl ?_
      exact HO.out _ _ _ _ _ _ _ _ _ _ _ Hfin.out (by omega) (below_setRow hM.old (Nat.le_refl _) _) h4

end Go.Proofs.Ytmganbdbihjbmaa

