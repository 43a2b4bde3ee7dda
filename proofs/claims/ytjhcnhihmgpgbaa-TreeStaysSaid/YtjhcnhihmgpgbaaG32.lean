import Derived.Test.YtjhcnhihmgpgbaaG31
/-
  CONTRACT of the program's copied (tree): a handed tree in rows of the call's own. Printed by gen_treecopied.py.
-/
set_option linter.unusedVariables false
namespace Go.Proofs.Ytjhcnhihmgpgbaa
open Go.RowKit

theorem own_monoT {w : World} {base base' : Nat} {e : TypeId} {size : Nat} {v : Value} {n : Nat} {xs : List Value} (h : w.ownsRow base e size v n xs) (hb : base' ≤ base) : w.ownsRow base' e size v n xs := by
  refine ⟨h.1, ?_⟩
  rcases h.2 with h2 | ⟨g, cap, cur, h1, h2, h3⟩
  · exact .inl h2
  · exact .inr ⟨g, cap, cur, h1, by omega, h3⟩
/-- make of no elements and some room: one step of a region that draws its order -/
theorem step_makeT {P : Program} {w : World} {ops : Array Oper} {o : Oper} {a : Act} {K : Act → World → Prop} {Q : Exit → Act → World → Prop} {E : Prop} (hgd : Region.wanted o (yielded ops a.tmps) = true) (dst : Option Tmp) (hd : o.dst = dst) (l c : Operand) (t : TypeId) (hop : o.op = Op.makeSlice t l c)
    (base : Nat) (e : TypeId) (i : TypeInfo) (z : Value) (size : Nat) (h1 : P.underlying t = some (.slice e)) (h2 : P.info? e = some i) (h3 : i.zero = some z) (h4 : i.size = size)
    (kl kc : IntKind) (C : Int) (n : Nat) (hl : a.eval l = .int kl 0) (hc : a.eval c = .int kc C) (hC : C = (n : Int)) (b2 : i.bytes * n ≤ 281474976710656) (b3 : n ≤ maxLen) (b4 : base ≤ w.heap.size)
    (hK : ∀ w', w'.ownsRow base e size (.slice (some ⟨w.heap.size, 0, none⟩) 0 n) 0 [] → w.grownBy w' none → K (a.put dst (.slice (some ⟨w.heap.size, 0, none⟩) 0 n)) w') : if Region.wanted o (yielded ops a.tmps) = true then Oper.wp P o a w K Q else E := by
  obtain ⟨w', hrun, r1, r2⟩ := run_make_own (P := P) w base t e i z size h1 h2 h3 h4 kl kc n b2 b3 b4
  subst hC
  refine step_val hgd dst hd (.slice (some ⟨w.heap.size, 0, none⟩) 0 n) (w' := w') ?_ (hK w' r1 r2)
  simp [execOp, hop, hl, hc, hrun, Result.andThen]

set_option maxRecDepth 100000 in
set_option maxHeartbeats 8000000 in
theorem PCopied_any (Ai : Option Addr) (ni ci : Nat) (Al : Option Addr) (nl cl : Nat) (ids : List Int) (lv : List (List Nat)) (w : World) (hn2 : lv.length ≤ 20) (hn1 : ids.length ≤ 1000) (hlm : ∀ l ∈ lv, l.length ≤ 1000) (h : ShR w w.heap.size Ai ni ci Al nl cl ids (levI lv)) :
    Calls Try.prog 34 #[.agg (shV Ai ni ci Al nl cl)] w (PutPost w.heap.size w ids lv) := by
  obtain ⟨i1, hi1, hy0, hy1, hy2⟩ := info_parts listInfo
  have Hpost := Lib.hid (show ∀ Ai ni ci Al nl cl vs w', Below w.heap.size w w' → OwW w.heap.size w' (.slice Ai ni ci) (.slice Al nl cl) vs vs ids (levI lv) → PutPost w.heap.size w ids lv (.returned (.agg (shV Ai ni ci Al nl cl))) w' from fun _ _ _ _ _ _ _ _ h1 h2 => ⟨h1, _, _, _, _, _, _, _, rfl, h2⟩)
  generalize PutPost w.heap.size w ids lv = PO at *
  have hM0 := ((Ms.nil w).box 25 (shV Ai ni ci Al nl cl)).box 25 #[.slice none 0 0, .slice none 0 0]
  simp only [World.size_alloc] at hM0
  have Hni := Lib.hid h.hni
  have Hnl := Lib.hid (show lv.length = nl by have := h.hnl; rwa [levI_lenX] at this)
  have hnl20 : nl ≤ 20 := by rw [← Hnl.out]; exact hn2
  have hni1 : ni ≤ 1000 := by rw [← Hni.out]; exact hn1
  have hci := h.hci
  have hcl := h.hcl
  have hwn : IntKind.i64.wrap ((nl : Int) + 1) = (nl : Int) + 1 := by rw [IntKind.wrap_i64]; omega
  obtain ⟨vs, hv, hlv⟩ := h.lvs
  have hids := h.hids
  clear h
  go_enter Try.func34, Try.ntmps34
  go_upto_region 1 with fail
  try simp only [Act.put]
  obtain ⟨gS, hgS⟩ : ∃ g, g = w.heap.size := ⟨_, rfl⟩
  refine wp_gen (fun wx => Ms w wx [(w.heap.size + 1, 25, #[.slice none 0 0, .slice none 0 0]), (w.heap.size, 25, shV Ai ni ci Al nl cl)]) hM0 ?_
  clear hM0
  rintro w0 hM0
  have hs0 := (hM0.get 0 rfl).lt
  have hw00 := hM0.old
  rw [← hgS] at hM0 hs0 ⊢
  have HgS := Lib.hid hgS
  clear hgS
  have hid0 := (hids.below hw00).more hw00.size
  go_cut [3] (fun p wx => ∃ (gO : Nat) (A2 : Option Addr) (c2 gM : Nat), p = .pointer (some ⟨gO, 0, none⟩) ∧ w0.heap.size ≤ gO ∧ RowC wx gO 25 #[.slice A2 ni c2, .slice (some ⟨gM, 0, none⟩) 0 (nl + 1)] ∧ Below w0.heap.size w0 wx ∧
    wx.ownsRow w.heap.size 3 1 (.slice A2 ni c2) ni (ids.map iv) ∧ wx.ownsRow w.heap.size 22 1 (.slice (some ⟨gM, 0, none⟩) 0 (nl + 1)) 0 [])
  case first =>
    have hkeep : ∀ wx : World, Below w0.heap.size w0 wx → wx.cell? ⟨gS, 0, none⟩ = some (.slice Ai ni ci) ∧ wx.cell? ⟨gS, 1, none⟩ = some (.slice Al nl cl) := fun wx hb => ⟨((hM0.get 1 rfl).call hb).cell rfl, ((hM0.get 1 rfl).call hb).cell rfl⟩
    have hcl : ∀ wx : World, Below w0.heap.size w0 wx → Calls Try.prog 49 #[.slice Ai ni ci] wx fun e w' => ∃ A' c', e = .returned (.slice A' ni c') ∧ w'.ownsRow wx.heap.size 3 1 (.slice A' ni c') ni (ids.map iv) ∧ Below wx.heap.size wx w' := fun wx hb => Clone_any Ai ni ci (ids.map iv) wx hci (by omega) (one_iv _) ((hid0.below hb).more hb.size)
    have hsw : w.heap.size ≤ w0.heap.size := by have := HgS.out; omega
    have c_size : ∀ wx : World, Below w0.heap.size w0 wx → w.heap.size ≤ wx.heap.size := fun wx hb => by have := hb.size; omega
    refine beginT (fun wx => wx.cell? ⟨gS, 0, none⟩ = some (.slice Ai ni ci) ∧ wx.cell? ⟨gS, 1, none⟩ = some (.slice Al nl cl)) 10 (by kernel_rfl) ?_
    have hS := hkeep _ (c_drew (c_refl _))
    refine takeD 0 (some 6) (.pointer (some ⟨gS, 0, none⟩)) rfl rfl (by kernel_rfl) (by kernel_rfl) (by kernel_rfl) (by kernel_rfl) (fun _ _ _ h => h) (Or.inl ⟨by kernel_rfl, fun wx hSw => by have h := hSw.1; have h2 := hSw.2; go_simp⟩) hS ?_
    simp only [Act.put, List.setIfInBounds_toArray, List.set_cons_zero, List.set_cons_succ]
    refine takeD 1 (some 7) (.slice Ai ni ci) rfl rfl (by kernel_rfl) (by kernel_rfl) (by kernel_rfl) (by kernel_rfl) (fun _ _ _ h => h) (Or.inl ⟨by kernel_rfl, fun wx hSw => by have h := hSw.1; have h2 := hSw.2; go_simp⟩) hS ?_
    simp only [Act.put, List.setIfInBounds_toArray, List.set_cons_zero, List.set_cons_succ]
    refine takeD 3 (some 9) (.pointer (some ⟨gS, 1, none⟩)) rfl rfl (by kernel_rfl) (by kernel_rfl) (by kernel_rfl) (by kernel_rfl) (fun _ _ _ h => h) (Or.inl ⟨by kernel_rfl, fun wx hSw => by have h := hSw.1; have h2 := hSw.2; go_simp⟩) hS ?_
    simp only [Act.put, List.setIfInBounds_toArray, List.set_cons_zero, List.set_cons_succ]
    refine takeD 4 (some 10) (.slice Al nl cl) rfl rfl (by kernel_rfl) (by kernel_rfl) (by kernel_rfl) (by kernel_rfl) (fun _ _ _ h => h) (Or.inl ⟨by kernel_rfl, fun wx hSw => by have h := hSw.1; have h2 := hSw.2; go_simp⟩) hS ?_
    simp only [Act.put, List.setIfInBounds_toArray, List.set_cons_zero, List.set_cons_succ]
    refine takeD 5 (some 11) (.int .i64 (nl : Int)) rfl rfl (by kernel_rfl) (by kernel_rfl) (by kernel_rfl) (by kernel_rfl) (fun _ _ _ h => h) (Or.inl ⟨by kernel_rfl, fun wx hSw => by have h := hSw.1; have h2 := hSw.2; go_simp⟩) hS ?_
    simp only [Act.put, List.setIfInBounds_toArray, List.set_cons_zero, List.set_cons_succ]
    refine takeD 6 (some 12) (.int .i64 ((nl : Int) + 1)) rfl rfl (by kernel_rfl) (by kernel_rfl) (by kernel_rfl) (by kernel_rfl) (fun _ _ _ h => h) (Or.inl ⟨by kernel_rfl, fun wx hSw => by have h := hSw.1; have h2 := hSw.2; go_simp⟩) hS ?_
    simp only [Act.put, List.setIfInBounds_toArray, List.set_cons_zero, List.set_cons_succ]
    have hwx0 : Below w0.heap.size w0 w0.drew := c_drew (c_refl _)
    generalize w0.drew = x0 at *
    refine readyT [2, 7, 9] (by kernel_rfl) (by simp) (AllReadyT.cons rfl (fun K hK => ?_) (AllReadyT.cons rfl (fun K hK => ?_) (AllReadyT.cons rfl (fun K hK => ?_) AllReadyT.nil)))
    · go_simp
      refine (hcl x0 hwx0).mono ?_
      rintro e x1 ⟨A2, c2, rfl, ho2, hx1⟩
      have hwx1 := c_call hwx0 hx1
      have ho2 := own_monoT ho2 (c_size x0 hwx0)
      refine hK.out _ _ (fun _ => hkeep _ hwx1) ?_
      clear hK K
      try simp only [Act.put, List.setIfInBounds_toArray, List.set_cons_zero, List.set_cons_succ]
      refine readyT [7, 9] (by kernel_rfl) (by simp) (AllReadyT.cons rfl (fun K hK => ?_) (AllReadyT.cons rfl (fun K hK => ?_) AllReadyT.nil))
      · refine step_makeT (by kernel_rfl) (some 13) rfl _ _ 23 rfl w.heap.size 22 i1 _ 1 Try.underlying23 hi1 hy0 hy1 .i64 .i64 _ (nl + 1) rfl rfl (by omega) (by rw [hy2]; omega) (by simp only [maxLen]; omega) (c_size x1 hwx1) ?_
        intro x2 hoM hgM
        have hx2 := (Below.refl x1.heap.size x1).grown hgM (Nat.le_refl _) (by simp)
        have hwx2 := c_call hwx1 hx2
        have ho2 := own_below ho2 hx2
        clear hgM
        generalize x1.heap.size = gM at *
        refine hK.out _ _ (fun _ => hkeep _ hwx2) ?_
        clear hK K
        try simp only [Act.put, List.setIfInBounds_toArray, List.set_cons_zero, List.set_cons_succ]
        have hS9 := hkeep _ hwx2
        refine takeD 8 (some 14) (.agg #[.slice A2 ni c2, .slice (some ⟨gM, 0, none⟩) 0 (nl + 1)]) rfl rfl (by kernel_rfl) (by kernel_rfl) (by kernel_rfl) (by kernel_rfl) (fun _ _ _ h => h) (Or.inl ⟨by kernel_rfl, fun wx hSw => by have h := hSw; go_simp⟩) hS9 ?_
        simp only [Act.put, List.setIfInBounds_toArray, List.set_cons_zero, List.set_cons_succ]
        refine oneT 9 (by kernel_rfl) rfl (fun K hK => ?_)
        go_simp
        have hx3 := d_al x2 (.cells #[.slice none 0 0, .slice none 0 0] 25)
        have hrO : RowC (x2.alloc (.cells #[.slice none 0 0, .slice none 0 0] 25)) x2.heap.size 25 #[.slice none 0 0, .slice none 0 0] := RowC.new _ _ _
        have hgO := hwx2.size
        have ho2 := own_below ho2 hx3
        have hoM := own_below hoM hx3
        have hwx3 := c_call hwx2 hx3
        generalize (x2.alloc (.cells #[.slice none 0 0, .slice none 0 0] 25)) = x3 at *
        generalize x2.heap.size = gO at *
        refine hK.out _ _ (fun _ => hkeep _ hwx3) ?_
        clear hK K
        try simp only [Act.put, List.setIfInBounds_toArray, List.set_cons_zero, List.set_cons_succ]
        have hR9 := hrO.row #[.slice A2 ni c2, .slice (some ⟨gM, 0, none⟩) 0 (nl + 1)]
        have hg9 := grown_setRow x3 gO #[.slice A2 ni c2, .slice (some ⟨gM, 0, none⟩) 0 (nl + 1)]
        have ho9 := own_farT ho2 hg9 hrO sh_ne.1
        have hm9 := own_farT hoM hg9 hrO sh_ne.2
        have hb9 := below_setRow hwx3 (show w0.heap.size ≤ gO by omega) #[.slice A2 ni c2, .slice (some ⟨gM, 0, none⟩) 0 (nl + 1)]
        refine oneT 10 (by kernel_rfl) rfl (fun K hK => ?_)
        refine step_store_row rfl 25 (.tmp 3) (.tmp 14) rfl gO #[.slice A2 ni c2, .slice (some ⟨gM, 0, none⟩) 0 (nl + 1)] rfl rfl 25 _ hrO shapeInfo2 rfl (by simp [Value.oneCell']) ?_
        refine hK.out _ _ (fun h => absurd rfl h) ?_
        clear hK K
        refine doneT (by kernel_rfl) ?_ _
        go_wp2_with fail
        go_meet
        exact ⟨gO, A2, c2, gM, rfl, by omega, hR9, hb9, ho9, hm9⟩
      · go_simp
        have hx2 := d_al x1 (.cells #[.slice none 0 0, .slice none 0 0] 25)
        have hrO : RowC (x1.alloc (.cells #[.slice none 0 0, .slice none 0 0] 25)) x1.heap.size 25 #[.slice none 0 0, .slice none 0 0] := RowC.new _ _ _
        have hgO := hwx1.size
        have ho2 := own_below ho2 hx2
        have hwx2 := c_call hwx1 hx2
        generalize (x1.alloc (.cells #[.slice none 0 0, .slice none 0 0] 25)) = x2 at *
        generalize x1.heap.size = gO at *
        refine hK.out _ _ (fun _ => hkeep _ hwx2) ?_
        clear hK K
        try simp only [Act.put, List.setIfInBounds_toArray, List.set_cons_zero, List.set_cons_succ]
        refine oneT 7 (by kernel_rfl) rfl (fun K hK => ?_)
        refine step_makeT (by kernel_rfl) (some 13) rfl _ _ 23 rfl w.heap.size 22 i1 _ 1 Try.underlying23 hi1 hy0 hy1 .i64 .i64 _ (nl + 1) rfl rfl (by omega) (by rw [hy2]; omega) (by simp only [maxLen]; omega) (c_size x2 hwx2) ?_
        intro x3 hoM hgM
        have hx3 := (Below.refl x2.heap.size x2).grown hgM (Nat.le_refl _) (by simp)
        have hwx3 := c_call hwx2 hx3
        have ho2 := own_below ho2 hx3
        have hrO := hrO.call hx3
        clear hgM
        generalize x2.heap.size = gM at *
        refine hK.out _ _ (fun _ => hkeep _ hwx3) ?_
        clear hK K
        try simp only [Act.put, List.setIfInBounds_toArray, List.set_cons_zero, List.set_cons_succ]
        have hS9 := hkeep _ hwx3
        refine takeD 8 (some 14) (.agg #[.slice A2 ni c2, .slice (some ⟨gM, 0, none⟩) 0 (nl + 1)]) rfl rfl (by kernel_rfl) (by kernel_rfl) (by kernel_rfl) (by kernel_rfl) (fun _ _ _ h => h) (Or.inl ⟨by kernel_rfl, fun wx hSw => by have h := hSw; go_simp⟩) hS9 ?_
        simp only [Act.put, List.setIfInBounds_toArray, List.set_cons_zero, List.set_cons_succ]
        have hR9 := hrO.row #[.slice A2 ni c2, .slice (some ⟨gM, 0, none⟩) 0 (nl + 1)]
        have hg9 := grown_setRow x3 gO #[.slice A2 ni c2, .slice (some ⟨gM, 0, none⟩) 0 (nl + 1)]
        have ho9 := own_farT ho2 hg9 hrO sh_ne.1
        have hm9 := own_farT hoM hg9 hrO sh_ne.2
        have hb9 := below_setRow hwx3 (show w0.heap.size ≤ gO by omega) #[.slice A2 ni c2, .slice (some ⟨gM, 0, none⟩) 0 (nl + 1)]
        refine oneT 10 (by kernel_rfl) rfl (fun K hK => ?_)
        refine step_store_row rfl 25 (.tmp 3) (.tmp 14) rfl gO #[.slice A2 ni c2, .slice (some ⟨gM, 0, none⟩) 0 (nl + 1)] rfl rfl 25 _ hrO shapeInfo2 rfl (by simp [Value.oneCell']) ?_
        refine hK.out _ _ (fun h => absurd rfl h) ?_
        clear hK K
        refine doneT (by kernel_rfl) ?_ _
        go_wp2_with fail
        go_meet
        exact ⟨gO, A2, c2, gM, rfl, by omega, hR9, hb9, ho9, hm9⟩
    · refine step_makeT (by kernel_rfl) (some 13) rfl _ _ 23 rfl w.heap.size 22 i1 _ 1 Try.underlying23 hi1 hy0 hy1 .i64 .i64 _ (nl + 1) rfl rfl (by omega) (by rw [hy2]; omega) (by simp only [maxLen]; omega) (c_size x0 hwx0) ?_
      intro x1 hoM hgM
      have hx1 := (Below.refl x0.heap.size x0).grown hgM (Nat.le_refl _) (by simp)
      have hwx1 := c_call hwx0 hx1
      clear hgM
      generalize x0.heap.size = gM at *
      refine hK.out _ _ (fun _ => hkeep _ hwx1) ?_
      clear hK K
      try simp only [Act.put, List.setIfInBounds_toArray, List.set_cons_zero, List.set_cons_succ]
      refine readyT [2, 9] (by kernel_rfl) (by simp) (AllReadyT.cons rfl (fun K hK => ?_) (AllReadyT.cons rfl (fun K hK => ?_) AllReadyT.nil))
      · go_simp
        refine (hcl x1 hwx1).mono ?_
        rintro e x2 ⟨A2, c2, rfl, ho2, hx2⟩
        have hwx2 := c_call hwx1 hx2
        have ho2 := own_monoT ho2 (c_size x1 hwx1)
        have hoM := own_below hoM hx2
        refine hK.out _ _ (fun _ => hkeep _ hwx2) ?_
        clear hK K
        try simp only [Act.put, List.setIfInBounds_toArray, List.set_cons_zero, List.set_cons_succ]
        have hS9 := hkeep _ hwx2
        refine takeD 8 (some 14) (.agg #[.slice A2 ni c2, .slice (some ⟨gM, 0, none⟩) 0 (nl + 1)]) rfl rfl (by kernel_rfl) (by kernel_rfl) (by kernel_rfl) (by kernel_rfl) (fun _ _ _ h => h) (Or.inl ⟨by kernel_rfl, fun wx hSw => by have h := hSw; go_simp⟩) hS9 ?_
        simp only [Act.put, List.setIfInBounds_toArray, List.set_cons_zero, List.set_cons_succ]
        refine oneT 9 (by kernel_rfl) rfl (fun K hK => ?_)
        go_simp
        have hx3 := d_al x2 (.cells #[.slice none 0 0, .slice none 0 0] 25)
        have hrO : RowC (x2.alloc (.cells #[.slice none 0 0, .slice none 0 0] 25)) x2.heap.size 25 #[.slice none 0 0, .slice none 0 0] := RowC.new _ _ _
        have hgO := hwx2.size
        have ho2 := own_below ho2 hx3
        have hoM := own_below hoM hx3
        have hwx3 := c_call hwx2 hx3
        generalize (x2.alloc (.cells #[.slice none 0 0, .slice none 0 0] 25)) = x3 at *
        generalize x2.heap.size = gO at *
        refine hK.out _ _ (fun _ => hkeep _ hwx3) ?_
        clear hK K
        try simp only [Act.put, List.setIfInBounds_toArray, List.set_cons_zero, List.set_cons_succ]
        have hR9 := hrO.row #[.slice A2 ni c2, .slice (some ⟨gM, 0, none⟩) 0 (nl + 1)]
        have hg9 := grown_setRow x3 gO #[.slice A2 ni c2, .slice (some ⟨gM, 0, none⟩) 0 (nl + 1)]
        have ho9 := own_farT ho2 hg9 hrO sh_ne.1
        have hm9 := own_farT hoM hg9 hrO sh_ne.2
        have hb9 := below_setRow hwx3 (show w0.heap.size ≤ gO by omega) #[.slice A2 ni c2, .slice (some ⟨gM, 0, none⟩) 0 (nl + 1)]
        refine oneT 10 (by kernel_rfl) rfl (fun K hK => ?_)
        refine step_store_row rfl 25 (.tmp 3) (.tmp 14) rfl gO #[.slice A2 ni c2, .slice (some ⟨gM, 0, none⟩) 0 (nl + 1)] rfl rfl 25 _ hrO shapeInfo2 rfl (by simp [Value.oneCell']) ?_
        refine hK.out _ _ (fun h => absurd rfl h) ?_
        clear hK K
        refine doneT (by kernel_rfl) ?_ _
        go_wp2_with fail
        go_meet
        exact ⟨gO, A2, c2, gM, rfl, by omega, hR9, hb9, ho9, hm9⟩
      · go_simp
        have hx2 := d_al x1 (.cells #[.slice none 0 0, .slice none 0 0] 25)
        have hrO : RowC (x1.alloc (.cells #[.slice none 0 0, .slice none 0 0] 25)) x1.heap.size 25 #[.slice none 0 0, .slice none 0 0] := RowC.new _ _ _
        have hgO := hwx1.size
        have hoM := own_below hoM hx2
        have hwx2 := c_call hwx1 hx2
        generalize (x1.alloc (.cells #[.slice none 0 0, .slice none 0 0] 25)) = x2 at *
        generalize x1.heap.size = gO at *
        refine hK.out _ _ (fun _ => hkeep _ hwx2) ?_
        clear hK K
        try simp only [Act.put, List.setIfInBounds_toArray, List.set_cons_zero, List.set_cons_succ]
        refine oneT 2 (by kernel_rfl) rfl (fun K hK => ?_)
        go_simp
        refine (hcl x2 hwx2).mono ?_
        rintro e x3 ⟨A2, c2, rfl, ho2, hx3⟩
        have hwx3 := c_call hwx2 hx3
        have ho2 := own_monoT ho2 (c_size x2 hwx2)
        have hoM := own_below hoM hx3
        have hrO := hrO.call hx3
        refine hK.out _ _ (fun _ => hkeep _ hwx3) ?_
        clear hK K
        try simp only [Act.put, List.setIfInBounds_toArray, List.set_cons_zero, List.set_cons_succ]
        have hS9 := hkeep _ hwx3
        refine takeD 8 (some 14) (.agg #[.slice A2 ni c2, .slice (some ⟨gM, 0, none⟩) 0 (nl + 1)]) rfl rfl (by kernel_rfl) (by kernel_rfl) (by kernel_rfl) (by kernel_rfl) (fun _ _ _ h => h) (Or.inl ⟨by kernel_rfl, fun wx hSw => by have h := hSw; go_simp⟩) hS9 ?_
        simp only [Act.put, List.setIfInBounds_toArray, List.set_cons_zero, List.set_cons_succ]
        have hR9 := hrO.row #[.slice A2 ni c2, .slice (some ⟨gM, 0, none⟩) 0 (nl + 1)]
        have hg9 := grown_setRow x3 gO #[.slice A2 ni c2, .slice (some ⟨gM, 0, none⟩) 0 (nl + 1)]
        have ho9 := own_farT ho2 hg9 hrO sh_ne.1
        have hm9 := own_farT hoM hg9 hrO sh_ne.2
        have hb9 := below_setRow hwx3 (show w0.heap.size ≤ gO by omega) #[.slice A2 ni c2, .slice (some ⟨gM, 0, none⟩) 0 (nl + 1)]
        refine oneT 10 (by kernel_rfl) rfl (fun K hK => ?_)
        refine step_store_row rfl 25 (.tmp 3) (.tmp 14) rfl gO #[.slice A2 ni c2, .slice (some ⟨gM, 0, none⟩) 0 (nl + 1)] rfl rfl 25 _ hrO shapeInfo2 rfl (by simp [Value.oneCell']) ?_
        refine hK.out _ _ (fun h => absurd rfl h) ?_
        clear hK K
        refine doneT (by kernel_rfl) ?_ _
        go_wp2_with fail
        go_meet
        exact ⟨gO, A2, c2, gM, rfl, by omega, hR9, hb9, ho9, hm9⟩
    · go_simp
      have hx1 := d_al x0 (.cells #[.slice none 0 0, .slice none 0 0] 25)
      have hrO : RowC (x0.alloc (.cells #[.slice none 0 0, .slice none 0 0] 25)) x0.heap.size 25 #[.slice none 0 0, .slice none 0 0] := RowC.new _ _ _
      have hgO := hwx0.size
      have hwx1 := c_call hwx0 hx1
      generalize (x0.alloc (.cells #[.slice none 0 0, .slice none 0 0] 25)) = x1 at *
      generalize x0.heap.size = gO at *
      refine hK.out _ _ (fun _ => hkeep _ hwx1) ?_
      clear hK K
      try simp only [Act.put, List.setIfInBounds_toArray, List.set_cons_zero, List.set_cons_succ]
      refine readyT [2, 7] (by kernel_rfl) (by simp) (AllReadyT.cons rfl (fun K hK => ?_) (AllReadyT.cons rfl (fun K hK => ?_) AllReadyT.nil))
      · go_simp
        refine (hcl x1 hwx1).mono ?_
        rintro e x2 ⟨A2, c2, rfl, ho2, hx2⟩
        have hwx2 := c_call hwx1 hx2
        have ho2 := own_monoT ho2 (c_size x1 hwx1)
        have hrO := hrO.call hx2
        refine hK.out _ _ (fun _ => hkeep _ hwx2) ?_
        clear hK K
        try simp only [Act.put, List.setIfInBounds_toArray, List.set_cons_zero, List.set_cons_succ]
        refine oneT 7 (by kernel_rfl) rfl (fun K hK => ?_)
        refine step_makeT (by kernel_rfl) (some 13) rfl _ _ 23 rfl w.heap.size 22 i1 _ 1 Try.underlying23 hi1 hy0 hy1 .i64 .i64 _ (nl + 1) rfl rfl (by omega) (by rw [hy2]; omega) (by simp only [maxLen]; omega) (c_size x2 hwx2) ?_
        intro x3 hoM hgM
        have hx3 := (Below.refl x2.heap.size x2).grown hgM (Nat.le_refl _) (by simp)
        have hwx3 := c_call hwx2 hx3
        have ho2 := own_below ho2 hx3
        have hrO := hrO.call hx3
        clear hgM
        generalize x2.heap.size = gM at *
        refine hK.out _ _ (fun _ => hkeep _ hwx3) ?_
        clear hK K
        try simp only [Act.put, List.setIfInBounds_toArray, List.set_cons_zero, List.set_cons_succ]
        have hS9 := hkeep _ hwx3
        refine takeD 8 (some 14) (.agg #[.slice A2 ni c2, .slice (some ⟨gM, 0, none⟩) 0 (nl + 1)]) rfl rfl (by kernel_rfl) (by kernel_rfl) (by kernel_rfl) (by kernel_rfl) (fun _ _ _ h => h) (Or.inl ⟨by kernel_rfl, fun wx hSw => by have h := hSw; go_simp⟩) hS9 ?_
        simp only [Act.put, List.setIfInBounds_toArray, List.set_cons_zero, List.set_cons_succ]
        have hR9 := hrO.row #[.slice A2 ni c2, .slice (some ⟨gM, 0, none⟩) 0 (nl + 1)]
        have hg9 := grown_setRow x3 gO #[.slice A2 ni c2, .slice (some ⟨gM, 0, none⟩) 0 (nl + 1)]
        have ho9 := own_farT ho2 hg9 hrO sh_ne.1
        have hm9 := own_farT hoM hg9 hrO sh_ne.2
        have hb9 := below_setRow hwx3 (show w0.heap.size ≤ gO by omega) #[.slice A2 ni c2, .slice (some ⟨gM, 0, none⟩) 0 (nl + 1)]
        refine oneT 10 (by kernel_rfl) rfl (fun K hK => ?_)
        refine step_store_row rfl 25 (.tmp 3) (.tmp 14) rfl gO #[.slice A2 ni c2, .slice (some ⟨gM, 0, none⟩) 0 (nl + 1)] rfl rfl 25 _ hrO shapeInfo2 rfl (by simp [Value.oneCell']) ?_
        refine hK.out _ _ (fun h => absurd rfl h) ?_
        clear hK K
        refine doneT (by kernel_rfl) ?_ _
        go_wp2_with fail
        go_meet
        exact ⟨gO, A2, c2, gM, rfl, by omega, hR9, hb9, ho9, hm9⟩
      · refine step_makeT (by kernel_rfl) (some 13) rfl _ _ 23 rfl w.heap.size 22 i1 _ 1 Try.underlying23 hi1 hy0 hy1 .i64 .i64 _ (nl + 1) rfl rfl (by omega) (by rw [hy2]; omega) (by simp only [maxLen]; omega) (c_size x1 hwx1) ?_
        intro x2 hoM hgM
        have hx2 := (Below.refl x1.heap.size x1).grown hgM (Nat.le_refl _) (by simp)
        have hwx2 := c_call hwx1 hx2
        have hrO := hrO.call hx2
        clear hgM
        generalize x1.heap.size = gM at *
        refine hK.out _ _ (fun _ => hkeep _ hwx2) ?_
        clear hK K
        try simp only [Act.put, List.setIfInBounds_toArray, List.set_cons_zero, List.set_cons_succ]
        refine oneT 2 (by kernel_rfl) rfl (fun K hK => ?_)
        go_simp
        refine (hcl x2 hwx2).mono ?_
        rintro e x3 ⟨A2, c2, rfl, ho2, hx3⟩
        have hwx3 := c_call hwx2 hx3
        have ho2 := own_monoT ho2 (c_size x2 hwx2)
        have hoM := own_below hoM hx3
        have hrO := hrO.call hx3
        refine hK.out _ _ (fun _ => hkeep _ hwx3) ?_
        clear hK K
        try simp only [Act.put, List.setIfInBounds_toArray, List.set_cons_zero, List.set_cons_succ]
        have hS9 := hkeep _ hwx3
        refine takeD 8 (some 14) (.agg #[.slice A2 ni c2, .slice (some ⟨gM, 0, none⟩) 0 (nl + 1)]) rfl rfl (by kernel_rfl) (by kernel_rfl) (by kernel_rfl) (by kernel_rfl) (fun _ _ _ h => h) (Or.inl ⟨by kernel_rfl, fun wx hSw => by have h := hSw; go_simp⟩) hS9 ?_
        simp only [Act.put, List.setIfInBounds_toArray, List.set_cons_zero, List.set_cons_succ]
        have hR9 := hrO.row #[.slice A2 ni c2, .slice (some ⟨gM, 0, none⟩) 0 (nl + 1)]
        have hg9 := grown_setRow x3 gO #[.slice A2 ni c2, .slice (some ⟨gM, 0, none⟩) 0 (nl + 1)]
        have ho9 := own_farT ho2 hg9 hrO sh_ne.1
        have hm9 := own_farT hoM hg9 hrO sh_ne.2
        have hb9 := below_setRow hwx3 (show w0.heap.size ≤ gO by omega) #[.slice A2 ni c2, .slice (some ⟨gM, 0, none⟩) 0 (nl + 1)]
        refine oneT 10 (by kernel_rfl) rfl (fun K hK => ?_)
        refine step_store_row rfl 25 (.tmp 3) (.tmp 14) rfl gO #[.slice A2 ni c2, .slice (some ⟨gM, 0, none⟩) 0 (nl + 1)] rfl rfl 25 _ hrO shapeInfo2 rfl (by simp [Value.oneCell']) ?_
        refine hK.out _ _ (fun h => absurd rfl h) ?_
        clear hK K
        refine doneT (by kernel_rfl) ?_ _
        go_wp2_with fail
        go_meet
        exact ⟨gO, A2, c2, gM, rfl, by omega, hR9, hb9, ho9, hm9⟩
  case rest =>
    obtain ⟨gO, A2, c2, gM, rfl, hgO, hRO, hbc, ho, hmm⟩ := hcut
    have hMc := hM0.call hbc
    have hMB : MsB w.heap.size w wc [(gO, 25, #[.slice A2 ni c2, .slice (some ⟨gM, 0, none⟩) 0 (nl + 1)]), (gS + 1, 25, #[.slice none 0 0, .slice none 0 0]), (gS, 25, shV Ai ni ci Al nl cl)] := ⟨hMc.old, fun p hp => by
      simp only [List.mem_cons, List.not_mem_nil, or_false] at hp
      rcases hp with rfl | rfl | rfl
      · exact hRO
      · exact hMc.get 0 rfl
      · exact hMc.get 1 rfl⟩
    have hO : OwW w.heap.size wc (.slice A2 ni c2) (.slice (some ⟨gM, 0, none⟩) 0 (nl + 1)) [] [] ids (levI (lv.take 0)) := ⟨by rw [Hni.out]; exact ho, hmm, rfl, fun k u l hk => by simp at hk, fun k u g hk => by simp at hk, fun j k u v g hj => by simp at hj⟩
    have k1 := (hMB.get 2 rfl).cell (i := 1) (v := .slice Al nl cl) rfl
    clear hM0 hw00 hid0 hMc hRO hbc ho hmm
    go_wp2_with fail
    go_loopw [18] (fun i wr => ∃ (j : Nat) (A3 : Option Addr) (c3 : Nat) (us : List Value), j ≤ nl ∧ i = .int .i64 (j : Int) ∧ OwW w.heap.size wr (.slice A2 ni c2) (.slice A3 j c3) us us ids (levI (lv.take j)) ∧
      MsB w.heap.size w wr [(gO, 25, #[.slice A2 ni c2, .slice A3 j c3]), (gS + 1, 25, #[.slice none 0 0, .slice none 0 0]), (gS, 25, shV Ai ni ci Al nl cl)]) (fun i _ => nl - (intOf i).toNat)
    case atStart => exact ⟨0, some ⟨gM, 0, none⟩, nl + 1, [], by omega, rfl, hO, hMB⟩
    case round =>
      clear hMB hO k1
      obtain ⟨j, A3, c3, us, hj, rfl, h, hM⟩ := hrel
      have hb := hM.old
      have hltO := (hM.get 0 rfl).lt
      have hbs := hb.size
      by_cases hjn : j < nl
      · have hjl : j < lv.length := by rw [Hnl.out]; exact hjn
        obtain ⟨l, hl⟩ : ∃ l, lv[j]? = some l := ⟨_, List.getElem?_eq_getElem hjl⟩
        have hjl' : j < (levI lv).length := by rw [levI_lenX]; exact hjl
        obtain ⟨b, o, rfl, hbb, hcell⟩ := (hv.below hb).pos (by omega)
        obtain ⟨Aj, cj, hvj, hcj, hmj, hrj⟩ := hlv.get hjl'
        have hce : (levI lv)[j] = castL l := Option.some.inj ((List.getElem?_eq_getElem hjl').symm.trans (levI_get hl))
        rw [hce, castL_len] at hvj hcj hrj
        have c1 := hcell j _ hvj
        have hlen : l.length ≤ 1000 := hlm _ (List.mem_of_getElem? hl)
        have hrjw := hrj.below hb
        have Htk := Lib.hid (show lv.take (j + 1) = lv.take j ++ [l] by rw [List.take_add_one, hl]; rfl)
        have hlj : (levI (lv.take j)).length = j := by rw [levI_lenX, List.length_take]; omega
        have hol := h.l
        rw [hlj] at hol
        have Hlj := Lib.hid hlj
        obtain ⟨m, hm⟩ : ∃ m, m = l.length := ⟨_, rfl⟩
        rw [← hm] at hvj hcj hrjw c1 hlen
        have Hm := Lib.hid hm
        have kO := (hM.get 0 rfl).cell (i := 1) (v := .slice A3 j c3) rfl
        clear hcell hvj hrj hjl hjl' hce hl hlj hm
        go_upto_region 5 with fail
        try simp only [Act.put]
        have hkeep : ∀ wx : World, Below wr.heap.size wr wx → wx.cell? ⟨gO, 1, none⟩ = some (.slice A3 j c3) := fun wx hb => ((hM.get 0 rfl).call hb).cell rfl
        refine beginT (fun wx => wx.cell? ⟨gO, 1, none⟩ = some (.slice A3 j c3)) 7 (by kernel_rfl) ?_
        have hS := hkeep _ (c_drew (c_refl _))
        refine takeD 0 (some 22) (.pointer (some ⟨gO, 1, none⟩)) rfl rfl (by kernel_rfl) (by kernel_rfl) (by kernel_rfl) (by kernel_rfl) (fun _ _ _ h => h) (Or.inl ⟨by kernel_rfl, fun wx hSw => by have h := hSw; go_simp⟩) hS ?_
        simp only [Act.put, List.setIfInBounds_toArray, List.set_cons_zero, List.set_cons_succ]
        refine takeD 1 (some 23) (.slice A3 j c3) rfl rfl (by kernel_rfl) (by kernel_rfl) (by kernel_rfl) (by kernel_rfl) (fun _ _ _ h => h) (Or.inl ⟨by kernel_rfl, fun wx hSw => by have h := hSw; go_simp⟩) hS ?_
        simp only [Act.put, List.setIfInBounds_toArray, List.set_cons_zero, List.set_cons_succ]
        refine takeD 2 (some 24) (.slice Aj m cj) rfl rfl (by kernel_rfl) (by kernel_rfl) (by kernel_rfl) (by kernel_rfl) (fun _ _ _ h => h) (Or.inl ⟨by kernel_rfl, fun wx hSw => by have h := hSw; go_simp⟩) hS ?_
        simp only [Act.put, List.setIfInBounds_toArray, List.set_cons_zero, List.set_cons_succ]
        have hx0 : Below wr.heap.size wr wr.drew := c_drew (c_refl _)
        have hrj0 := (hrjw.below (hx0.mono hbs)).more (show w.heap.size ≤ wr.drew.heap.size from hbs)
        have hsx0 : wr.drew.heap.size = wr.heap.size := rfl
        have hMx0 := hM.call hx0 hbs
        have hox0 := own_below hol hx0
        generalize wr.drew = x0 at *
        refine oneT 3 (by kernel_rfl) rfl (fun K hK => ?_)
        go_simp
        refine (Clone_any Aj m cj ((castL l).map iv) x0 hcj (by omega) (one_iv _) hrj0).mono ?_
        rintro e x1 ⟨A5, c5, rfl, ho5, hx1⟩
        have hwx1 := c_call hx0 hx1
        have hMx1 := hMx0.call hx1 (by omega)
        have hox1 := own_below hox0 hx1
        have hf5 : ∀ q, (Value.slice A5 m c5).ownBlock = some q → wr.heap.size ≤ q := fun q hq => by rw [← hsx0]; exact own_blockT ho5 q hq
        have ho5 := own_monoT ho5 (show w.heap.size ≤ x0.heap.size by omega)
        refine hK.out _ _ (fun _ => hkeep _ hwx1) ?_
        clear hK K
        try simp only [Act.put, List.setIfInBounds_toArray, List.set_cons_zero, List.set_cons_succ]
        have hal := d_al x1 (.cells #[.slice A5 m c5] 22)
        have hwx2 := c_call hwx1 hal
        have hMx2 := hMx1.call hal (by have := hwx1.size; omega)
        have hox2 := own_below hox1 hal
        have ho52 := own_below ho5 hal
        have hs1 := hwx1.size
        refine oneT 4 (by kernel_rfl) rfl (fun K hK => ?_)
        go_simp
        refine hK.out _ _ (fun _ => hkeep _ hwx2) ?_
        clear hK K
        have hone : ∀ u ∈ [Value.slice A5 m c5], u.oneCell' = true := by intro u hu; simp at hu; subst hu; rfl
        have hz2 : (x1.alloc (.cells #[.slice A5 m c5] 22)).heap.size = x1.heap.size + 1 := by simp
        refine oneT 5 (by kernel_rfl) rfl (fun K hK => ?_)
        refine step_append_rdT (by kernel_rfl) (some 27) rfl (.tmp 23) (.tmp 26) _ rfl w.heap.size 22 i1 _ 24 Try.underlying23 hi1 hy0 hy1 hy2 rfl (.slice A3 j c3) j us rfl hox2 (x1.heap.size + 1) (some ⟨x1.heap.size, 0, none⟩) 1 1 [.slice A5 m c5] rfl (Rd.mk_ _ _ _ rfl (by omega) rfl rfl) hone (by simp only [maxLen]; omega) (by omega) (by omega) ?_
        intro v6 x3 hown6 hgr6 hat6
        obtain ⟨A6, c6, rfl, _, _⟩ := own_formT hown6
        have h6 := h.snoc (u := .slice A5 m c5) (vL' := .slice A6 (j + 1) c6) (l := castL l) hwx2 (by rw [castL_len, ← Hm.out]; exact ho52) hf5 hgr6 (by rw [Hlj.out]; exact hown6)
        rw [show levI (lv.take j) ++ [castL l] = levI (lv.take (j + 1)) by rw [Htk.out]; simp [levI_cast]] at h6
        have hMx3 := hMx2.turn hgr6 (by omega) (fun q hq => by
          obtain ⟨cs, hr⟩ := own_tyT hox2 hq
          exact ⟨own_blockT hox2 q hq, _, cs, hr, fun p hp => by simp at hp; rcases hp with rfl | rfl | rfl <;> exact sh_ne.2.symm⟩)
        have kx : x3.cell? ⟨gO, 1, none⟩ = some (.slice A3 j c3) := (hMx3.get 0 rfl).cell rfl
        have fx := (hMx3.get 0 rfl).frozen 1
        refine hK.out _ _ (fun _ => kx) ?_
        clear hK K
        try simp only [Act.put, List.setIfInBounds_toArray, List.set_cons_zero, List.set_cons_succ]
        generalize us ++ [Value.slice A5 m c5] = us2 at h6
        have hgw : w.heap.size ≤ gO := by have := HgS.out; omega
        have hM7 := hMx3.set hgw (fun q hq => by simp at hq; rcases hq with rfl | rfl <;> simp <;> omega) 1 (.slice A6 (j + 1) c6)
        rw [show (#[.slice A2 ni c2, .slice A3 j c3] : Array Value).setIfInBounds 1 (.slice A6 (j + 1) c6) = #[.slice A2 ni c2, .slice A6 (j + 1) c6] from rfl] at hM7
        have h7 := h6.far (grown_setCell x3 gO 1 (.slice A6 (j + 1) c6)) (hMx3.get 0 rfl) sh_ne.1 sh_ne.2
        clear hMx3 hMx2 hMx1 hMx0 hox2 hox1 hox0 ho52 ho5 hf5 hown6 hgr6 hat6 h6 h hM hol hrj0 hrjw hS hkeep hone
        refine takeD 6 (some 28) (.pointer (some ⟨gO, 1, none⟩)) rfl rfl (by kernel_rfl) (by kernel_rfl) (by kernel_rfl) (by kernel_rfl) (fun _ _ _ h => h) (Or.inl ⟨by kernel_rfl, fun wx hSw => by go_simp⟩) kx ?_
        simp only [Act.put, List.setIfInBounds_toArray, List.set_cons_zero, List.set_cons_succ]
        refine oneT 7 (by kernel_rfl) rfl (fun K hK => ?_)
        go_simp
        refine hK.out _ _ (fun h => absurd rfl h) ?_
        clear hK K
        refine doneT (by kernel_rfl) ?_ _
        go_wp2_with fail
        go_roundw
        case rel => exact ⟨j + 1, A6, c6, us2, by omega, by go_num, h7, hM7⟩
        case measure => simp [intOf]; omega
      · obtain rfl : j = nl := by omega
        rw [List.take_of_length_le (by rw [Hnl.out]; exact Nat.le_refl _)] at h
        go_wp2_with (first
          | ((with_reducible show wpList _ _ _ (⟨some 30, _, _, _, _, _⟩ :: _) _ _); refine wpList_loadC (by kernel_rfl) 25 (.tmp 3) rfl gO rfl 25 #[.slice A2 ni c2, .slice A3 j c3] _ (hM.get 0 rfl) Try.underlying25 rfl shapeInfo2 ?_)
          | ((with_reducible show wpList _ _ _ (⟨none, Op.store 25 _ _, _, _, _, _⟩ :: _) _ _); refine wpList_store_row rfl 25 (.tmp 2) (.tmp 30) rfl (gS + 1) #[.slice A2 ni c2, .slice A3 j c3] rfl rfl 25 _ (hM.get 1 rfl) shapeInfo2 rfl (by simp [Value.oneCell']) ?_))
        try simp only [Act.put]
        have hR9 := (hM.get 1 rfl).row #[.slice A2 ni c2, .slice A3 j c3]
        have hw9 := h.far (grown_setRow _ (gS + 1) #[.slice A2 ni c2, .slice A3 j c3]) (hM.get 1 rfl) sh_ne.1 sh_ne.2
        have hb9 := below_setRow hM.old (show w.heap.size ≤ gS + 1 by have := HgS.out; omega) #[.slice A2 ni c2, .slice A3 j c3]
        refine bodyPost_ret (results_cell_one rfl _ _ (gS + 1) _ #[.slice A2 ni c2, .slice A3 j c3] _ rfl hR9 Try.underlying25 rfl shapeInfo2) rfl (Hpost.out _ _ _ _ _ _ _ _ hb9 hw9)

end Go.Proofs.Ytjhcnhihmgpgbaa

