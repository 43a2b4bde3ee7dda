import Derived.Test.YtlidhdljgnijaaaDoorN20
import Derived.Test.YtlidhdljgnijaaaDoorN22
import Derived.Test.YtlidhdljgnijaaaDoorN36
import Derived.Test.YtlidhdljgnijaaaDoorN11
/-
  CONTRACTS of the program's tag.nodesOf and tag.Check, and of slices.Contains and slices.Index of keys (asked for the key of no byte).
-/
set_option linter.unusedVariables false
namespace Go.Proofs.YtlidhdljgnijaaaDoor
open Go.RowKit

theorem beq_swapK (a b : List UInt8) : (a == b) = (b == a) := by
  rw [Bool.eq_iff_iff, beq_iff_eq, beq_iff_eq]
  exact eq_comm
set_option maxRecDepth 100000 in
set_option maxHeartbeats 2000000 in
theorem PIndexK (A : Option Addr) (k c : Nat) (ps : List UInt8) (w : World) (hx : KyR w w.heap.size A k c ps) (hk : k ≤ 1000000) :
    Calls Tryd.prog 89 #[.slice A k c, .agg (keyC zeroK)] w fun e w' => (∃ r : Int, e = .returned (.int .i64 r) ∧ -1 ≤ r ∧ r ≤ k ∧ decide (0 ≤ r) = !someP ps k) ∧ Below w.heap.size w w' := by
  have hM := (Ms.nil w).box 36 (keyC zeroK)
  have Hpost := Lib.hid (show ∀ w' (r : Int), -1 ≤ r → r ≤ k → decide (0 ≤ r) = !someP ps k → Below w.heap.size w w' → (fun e w' => (∃ r : Int, e = Ending.returned (Value.int .i64 r) ∧ -1 ≤ r ∧ r ≤ k ∧ decide (0 ≤ r) = !someP ps k) ∧ Below w.heap.size w w') (.returned (.int .i64 r)) w' from fun w' r h1 h2 h3 h4 => ⟨⟨r, rfl, h1, h2, h3⟩, h4⟩)
  generalize (fun e w' => (∃ r : Int, e = Ending.returned (Value.int .i64 r) ∧ -1 ≤ r ∧ r ≤ k ∧ decide (0 ≤ r) = !someP ps k) ∧ Below w.heap.size w w') = PO at *
  go_enter Tryd.func89, Tryd.ntmps89
  go_upto_region 1 with fail
  try simp only [Act.put]
  obtain ⟨g, hg⟩ : ∃ g, g = w.heap.size := ⟨_, rfl⟩
  rw [← hg] at hM ⊢
  refine wp_gen (fun wx => Ms w wx [(g, 36, keyC zeroK)]) hM ?_
  clear hM hg
  rintro w0 hM0
  go_wp2_with fail
  go_loopw [8] (fun i wr => ∃ j : Nat, j ≤ k ∧ i = .int .i64 (j : Int) ∧ Hid (someP ps j = true) ∧ Ms w wr [(g, 36, keyC zeroK)]) (fun i _ => k - (intOf i).toNat)
  case atStart => exact ⟨0, by omega, rfl, Lib.hid rfl, hM0⟩
  case round =>
    clear hM0
    obtain ⟨j, hj, rfl, hs, hM⟩ := hrel
    by_cases hlt : j < k
    · have j0 : (0 : Int) ≤ (j : Int) := by omega
      have j1 : (j : Int) < (k : Int) := by omega
      obtain ⟨b, o, rfl, hb, hrb⟩ := (hx.below hM.old).range hlt
      have Hlx := Lib.hid (keyI_len hx.len hlt)
      have hkeep : ∀ wx : World, Below wr.heap.size wr wx → wx.rangeAt g 0 (keyC zeroK).toList ∧ wx.rangeAt b (o + j * 32) (keyC (keyI ps j)).toList := fun wx hbx => ⟨((hM.get 0 rfl).call hbx).range, rangeW hrb (Nat.lt_of_lt_of_le hb hM.old.size) hbx⟩
      have hq := fun wx => eql_keyK wx zeroK (keyI ps j) zeroK_len Hlx.out
      have hun := Tryd.underlying36
      have hsx := sizeKeyL Hlx.out
      have hsz := sizeKeyL zeroK_len
      have Hk := Lib.hid (show (keyI ps j == zeroK) = false → someP ps (j + 1) = true from fun e => by rw [someP, hs.out, e]; rfl)
      have Hk2 := Lib.hid (show (keyI ps j == zeroK) = true → someP ps k = false from fun e => someP_no (beq_iff_eq.1 e) k hlt)
      simp only [beq_swapK zeroK] at hq
      generalize (keyI ps j == zeroK) = sb at *
      generalize keyI ps j = ky at *
      generalize zeroK = zk at *
      have hM1 := hM.drew
      clear hrb hs
      go_wp2_with fail
      refine beginT (fun wx => wx.rangeAt g 0 (keyC zk).toList ∧ wx.rangeAt b (o + j * 32) (keyC ky).toList) 6 (by kernel_rfl) ?_
      have hS := hkeep _ (c_drew (c_refl _))
      refine loadT 0 (some 11) 36 (.tmp 3) g 0 (keyC zk).toList rfl rfl (by kernel_rfl) (by kernel_rfl) (by kernel_rfl) (by kernel_rfl) rfl (by kernel_rfl) rfl (fun wx hSw => hSw.1) hun rfl hsz (fun _ _ _ h => h) hS ?_
      simp only [Act.put, List.setIfInBounds_toArray, List.set_cons_zero, List.set_cons_succ, Array.toArray_toList]
      refine takeD 1 (some 12) (.slice (some ⟨b, o, none⟩) k c) rfl rfl (by kernel_rfl) (by kernel_rfl) (by kernel_rfl) (by kernel_rfl) (fun _ _ _ h => h) (Or.inl ⟨by kernel_rfl, fun wx hSw => by go_simp⟩) hS ?_
      simp only [Act.put, List.setIfInBounds_toArray, List.set_cons_zero, List.set_cons_succ]
      refine takeD 2 (some 13) (.int .i64 (j : Int)) rfl rfl (by kernel_rfl) (by kernel_rfl) (by kernel_rfl) (by kernel_rfl) (fun _ _ _ h => h) (Or.inl ⟨by kernel_rfl, fun wx hSw => by go_simp⟩) hS ?_
      simp only [Act.put, List.setIfInBounds_toArray, List.set_cons_zero, List.set_cons_succ]
      refine takeD 3 (some 14) (.pointer (some ⟨b, o + j * 32, none⟩)) rfl rfl (by kernel_rfl) (by kernel_rfl) (by kernel_rfl) (by kernel_rfl) (fun _ _ _ h => h) (Or.inl ⟨by kernel_rfl, fun wx hSw => by go_simp⟩) hS ?_
      simp only [Act.put, List.setIfInBounds_toArray, List.set_cons_zero, List.set_cons_succ]
      refine loadT 4 (some 15) 36 (.tmp 14) b (o + j * 32) (keyC ky).toList rfl rfl (by kernel_rfl) (by kernel_rfl) (by kernel_rfl) (by kernel_rfl) rfl (by kernel_rfl) rfl (fun wx hSw => hSw.2) hun rfl hsx (fun _ _ _ h => h) hS ?_
      simp only [Act.put, List.setIfInBounds_toArray, List.set_cons_zero, List.set_cons_succ, Array.toArray_toList]
      refine takeD 5 (some 16) (.bool sb) rfl rfl (by kernel_rfl) (by kernel_rfl) (by kernel_rfl) (by kernel_rfl) (fun _ _ _ h => h) (Or.inl ⟨by kernel_rfl, fun wx hSw => by go_simp⟩) hS ?_
      simp only [Act.put, List.setIfInBounds_toArray, List.set_cons_zero, List.set_cons_succ]
      refine doneT (by kernel_rfl) ?_ _
      have hold := hM1.old
      cases sb
      · clear hold
        go_wp2_with fail
        go_roundw
        case rel => exact ⟨j + 1, by omega, by go_num, Lib.hid (Hk.out rfl), hM1⟩
        case measure => simp [intOf]; omega
      · have Hc := Lib.hid (show decide (0 ≤ (j : Int)) = !someP ps k by rw [Hk2.out rfl, decide_eq_true j0]; rfl)
        clear hM1 hM
        go_wp2_with fail
        exact Hpost.out _ _ (by omega) (by omega) Hc.out hold
    · obtain rfl : j = k := by omega
      have Hc := Lib.hid (show decide (0 ≤ (-1 : Int)) = !someP ps j by rw [hs.out]; rfl)
      have hold := hM.old
      clear hM
      go_wp2_with fail
      exact Hpost.out _ _ (by omega) (by omega) Hc.out hold

set_option maxRecDepth 100000 in
set_option maxHeartbeats 2000000 in
theorem PContainsK (A : Option Addr) (k c : Nat) (ps : List UInt8) (w : World) (hx : KyR w w.heap.size A k c ps) (hk : k ≤ 1000000) :
    Calls Tryd.prog 59 #[.slice A k c, .agg (keyC zeroK)] w fun e w' => e = .returned (.bool (!someP ps k)) ∧ Below w.heap.size w w' := by
  have hM := (Ms.nil w).box 36 (keyC zeroK)
  have hix := fun wx (hb : Below w.heap.size w wx) => PIndexK A k c ps wx ((hx.below hb).more hb.size) hk
  have Hpost := Lib.hid (show ∀ w' r, r = (!someP ps k) → Below w.heap.size w w' → (fun e w' => e = Ending.returned (Value.bool (!someP ps k)) ∧ Below w.heap.size w w') (.returned (.bool r)) w' from fun w' r h1 h2 => ⟨by rw [h1], h2⟩)
  generalize (fun e w' => e = Ending.returned (Value.bool (!someP ps k)) ∧ Below w.heap.size w w') = PO at *
  have hsz := sizeKey zeroK_len
  clear hx
  generalize zeroK = zk at *
  go_enter Tryd.func59, Tryd.ntmps59
  go_upto_region 1 with fail
  try simp only [Act.put]
  obtain ⟨g, hg⟩ : ∃ g, g = w.heap.size := ⟨_, rfl⟩
  rw [← hg] at hM ⊢
  refine wp_gen (fun wx => Ms w wx [(g, 36, keyC zk)]) hM ?_
  clear hM hg
  rintro w0 hM0
  go_wp2_with ((with_reducible show wpList _ _ _ (⟨some 6, _, _, _, _, _⟩ :: _) _ _); refine wpList_loadC (by kernel_rfl) 36 (.tmp 3) rfl g rfl 36 (keyC zk) _ (hM0.get 0 rfl) Tryd.underlying36 rfl hsz ?_)
  refine (hix _ hM0.old).mono ?_
  rintro e w1 ⟨⟨r, rfl, hr1, hr2, hr3⟩, hb1⟩
  have hold := hM0.old.trans (hb1.mono hM0.old.size)
  have Hr := Lib.hid hr3
  by_cases h0 : 0 ≤ r
  · have Hc := Lib.hid (show true = !someP ps k by rw [← Hr.out, decide_eq_true h0])
    clear hM0 hix hb1 hr3
    go_wp2_with fail
    exact Hpost.out _ _ Hc.out hold
  · have Hc := Lib.hid (show false = !someP ps k by rw [← Hr.out, decide_eq_false h0])
    have h1 : r < 0 := by omega
    clear hM0 hix hb1 hr3
    go_wp2_with fail
    exact Hpost.out _ _ Hr.out hold

end Go.Proofs.YtlidhdljgnijaaaDoor

/-
  CONTRACTS of the program's tag.nodesOf and tag.Check.
-/
set_option linter.unusedVariables false
namespace Go.Proofs.YtlidhdljgnijaaaDoor
open Go.RowKit

/-- a tree that may be, of one member at the least, has a node -/
theorem nodesI_pos {kind : Int} {ids : List Int} {ll : List (List Int)} (hm : mayB kind ids ll = true) (h0 : 0 < ids.length) : 0 < (nodesI kind ids ll).length := by
  have hT := top_facts hm h0
  rw [hT.nodes, List.length_map, RT.flat_len]
  exact RT.size_pos _
theorem nodesI_le (kind : Int) (ids : List Int) (ll : List (List Int)) : (nodesI kind ids ll).length ≤ 2000 := by
  by_cases hm : mayB kind ids ll = true
  · rcases Nat.eq_zero_or_pos ids.length with h0 | h0
    · rw [(nodesG_nf hm).1, List.length_map, nodesG, nodesU, if_pos h0]
      simp
    · have hT := top_facts hm h0
      have := hT.size
      have := hT.n
      rw [hT.nodes, List.length_map, RT.flat_len]
      omega
  · rw [nodesI, if_neg hm]
    simp
theorem okG_iff {kind : Int} {ids : List Int} {ll : List (List Int)} {np : Nat} {ps : List UInt8} (hm : mayB kind ids ll = true) (h0 : 0 < ids.length) (hn : (nodesI kind ids ll).length = np) : okG kind ids ll np ps = someP ps np := by
  rw [okG, hm, decide_eq_true (nodesI_pos hm h0), decide_eq_true hn]
  simp
def NOfPost (w : World) (ok : Bool) (l : List RI) (e : Ending) (w' : World) : Prop :=
  Below w.heap.size w w' ∧ ((ok = false ∧ e = .returned (.tuple #[.slice none 0 0, .int .i64 1])) ∨ (ok = true ∧ ∃ A c, e = .returned (.tuple #[.slice A l.length c, .int .i64 0]) ∧ NdR w' w'.heap.size A l.length c l))

set_option maxRecDepth 100000 in
set_option maxHeartbeats 8000000 in
theorem PNodesOf (kind : Int) (Ai : Option Addr) (ni ci : Nat) (Al : Option Addr) (nl cl : Nat) (ids : List Int) (ll : List (List Int)) (Ap : Option Addr) (np cp : Nat) (ps : List UInt8) (w : World) (h : TgR w w.heap.size Ai ni ci Al nl cl ids ll Ap np cp ps) (hf : fewT ids ll = true) :
    Calls Tryd.prog 35 #[.agg (tgV kind Ai ni ci Al nl cl Ap np cp)] w (NOfPost w (okG kind ids ll np ps) (nodesI kind ids ll)) := by
  have hM := (Ms.nil w).box 28 (tgV kind Ai ni ci Al nl cl Ap np cp)
  have hnd := fun wx (hb : Below w.heap.size w wx) => PNodes_any kind Ai ni ci Al nl cl ids ll wx ((h.sh.below hb).more hb.size) hf
  have hkc := fun wx (hb : Below w.heap.size w wx) (hk : np ≤ 1000000) => PContainsK Ap np cp ps wx ((h.pts.below hb).more hb.size) hk
  rw [keyC_zero] at hkc
  have Hpost := Lib.hid (show (∀ w', Below w.heap.size w w' → okG kind ids ll np ps = false → NOfPost w (okG kind ids ll np ps) (nodesI kind ids ll) (.returned (.tuple #[.slice none 0 0, .int .i64 1])) w') ∧ (∀ w' A n c, Below w.heap.size w w' → okG kind ids ll np ps = true → NdR w' w'.heap.size A n c (nodesI kind ids ll) → NOfPost w (okG kind ids ll np ps) (nodesI kind ids ll) (.returned (.tuple #[.slice A n c, .int .i64 0])) w') from
    ⟨fun w' h1 h2 => ⟨h1, .inl ⟨h2, rfl⟩⟩, fun w' A n c h1 h2 h3 => ⟨h1, .inr ⟨h2, A, c, by rw [h3.len], by rw [h3.len]; exact h3⟩⟩⟩)
  generalize NOfPost w (okG kind ids ll np ps) (nodesI kind ids ll) = PO at *
  have hni := h.sh.hni
  have hnm : ni ≤ maxLen := Nat.le_trans h.sh.hci h.sh.hmi
  have hpm : np ≤ maxLen := Nat.le_trans h.pts.hnc h.pts.hcm
  unfold maxLen at hpm hnm
  have Hni := Lib.hid hni
  clear h hni
  go_enter Tryd.func35, Tryd.ntmps35
  go_upto_region 1 with fail
  try simp only [Act.put]
  obtain ⟨g, hg⟩ : ∃ g, g = w.heap.size := ⟨_, rfl⟩
  rw [← hg] at hM ⊢
  refine wp_gen (fun wx => Ms w wx [(g, 28, tgV kind Ai ni ci Al nl cl Ap np cp)]) hM ?_
  clear hM hg
  rintro w0 hM0
  have c0 := (hM0.get 0 rfl).cell (i := 0) (v := .int .i64 kind) rfl
  have hr1 := tg_sh (hM0.get 0 rfl)
  go_wp2_with ((with_reducible show wpList _ _ _ (⟨some 10, _, _, _, _, _⟩ :: _) _ _); refine wpList_load_midG (by kernel_rfl) 25 (.tmp 9) rfl g 1 rfl (shV Ai ni ci Al nl cl).toList _ hr1 Tryd.underlying25 rfl shapeInfo2 ?_)
  refine (hnd _ hM0.old).mono ?_
  rintro e w1 ⟨hb1, An, nn, cn, he, hN⟩
  subst he
  have hM1 := hM0.call hb1
  have hN1 := hN
  have Hl := Lib.hid hN.len
  have hnn : nn ≤ 1000000 := by
    have := nodesI_le kind ids ll
    have h2 := hN.len
    omega
  clear hM0 hb1 hnd c0 hr1 hN
  have hold := hM1.old
  have c1 := (hM1.get 0 rfl).cell (i := 1) (v := .slice Ai ni ci) rfl
  have c3 := (hM1.get 0 rfl).cell (i := 3) (v := .slice Ap np cp) rfl
  obtain ⟨mb, hmb⟩ : ∃ mb, mb = mayB kind ids ll := ⟨_, rfl⟩
  rw [mayE, ← hmb]
  have Hmb := Lib.hid hmb
  clear hmb
  cases mb
  · have HF := Lib.hid (Hpost.out.1 w1 hold (by rw [okG, ← Hmb.out, Bool.false_and]))
    clear hM1 hN1 c1 c3
    go_wp2_with fail
    exact HF.out
  by_cases hn0 : ni = 0
  · subst hn0
    have HF := Lib.hid (Hpost.out.1 w1 hold (by
      rw [Bool.eq_false_iff]
      intro h
      have := (okG_mayD h).2.2
      have := Hni.out
      omega))
    clear hM1 hN1 hpm
    go_wp2_with fail
    exact HF.out
  have zn : ((ni : Int) == 0) = false := by rw [beq_eq_false_iff_ne]; omega
  have zn2 : ¬ (ni : Int) = 0 := by omega
  by_cases hnp : np = nn
  rotate_left
  · have HF := Lib.hid (Hpost.out.1 w1 hold (by rw [okG, Hl.out, decide_eq_false (show ¬ nn = np from fun e => hnp e.symm), Bool.false_and, Bool.and_false, Bool.and_false]))
    have zp : ¬ (np : Int) = (nn : Int) := by omega
    have zp2 : ((np : Int) == (nn : Int)) = false := by rw [beq_eq_false_iff_ne]; exact zp
    clear hM1 hN1
    go_wp2_with fail
    exact HF.out
  subst hnp
  have hok := okG_iff (ps := ps) Hmb.out.symm (show 0 < ids.length by rw [Hni.out]; omega) Hl.out
  have Hok := Lib.hid hok
  have hct := fun wx (hb : Below w.heap.size w wx) => hkc wx hb hnn
  clear hok hkc
  generalize someP ps np = sb at *
  have hNb := fun wx (hb : Below w1.heap.size w1 wx) => (hN1.below hb).more hb.size
  clear hN1
  go_wp2_with fail
  refine (hct _ hold).mono ?_
  rintro e w2 ⟨rfl, hb2⟩
  have hold2 := hold.trans (hb2.mono hold.size)
  have hN2 := hNb _ hb2
  clear hct hM1 hNb c1 c3 hold hb2
  cases sb
  · have HF := Lib.hid (Hpost.out.1 w2 hold2 Hok.out)
    clear hN2
    go_wp2_with fail
    exact HF.out
  · have HF := Lib.hid (Hpost.out.2 w2 An np cn hold2 Hok.out hN2)
    clear hN2
    go_wp2_with fail
    exact HF.out

set_option maxRecDepth 100000 in
set_option maxHeartbeats 2000000 in
theorem PCheck13 (kind : Int) (Ai : Option Addr) (ni ci : Nat) (Al : Option Addr) (nl cl : Nat) (ids : List Int) (ll : List (List Int)) (Ap : Option Addr) (np cp : Nat) (ps : List UInt8) (w : World) (h : TgR w w.heap.size Ai ni ci Al nl cl ids ll Ap np cp ps) (hf : fewT ids ll = true) :
    Calls Tryd.prog 21 #[.agg (tgV kind Ai ni ci Al nl cl Ap np cp)] w fun e w' => e = .returned (.int .i64 (chkG kind ids ll np ps)) ∧ Below w.heap.size w w' := by
  have hM := (Ms.nil w).box 28 (tgV kind Ai ni ci Al nl cl Ap np cp)
  have hnf := fun wx (hb : Below w.heap.size w wx) => PNodesOf kind Ai ni ci Al nl cl ids ll Ap np cp ps wx ((h.below hb).more hb.size) hf
  clear h
  go_enter Tryd.func21, Tryd.ntmps21
  go_upto_region 1 with fail
  try simp only [Act.put]
  obtain ⟨g, hg⟩ : ∃ g, g = w.heap.size := ⟨_, rfl⟩
  rw [← hg] at hM ⊢
  refine wp_gen (fun wx => Ms w wx [(g, 28, tgV kind Ai ni ci Al nl cl Ap np cp)]) hM ?_
  clear hM hg
  rintro w0 hM0
  go_wp2_with ((with_reducible show wpList _ _ _ (⟨some 6, _, _, _, _, _⟩ :: _) _ _); refine wpList_loadC (by kernel_rfl) 28 (.tmp 1) rfl g rfl 28 (tgV kind Ai ni ci Al nl cl Ap np cp) _ (hM0.get 0 rfl) Tryd.underlying28 rfl tgInfo2 ?_)
  refine (hnf _ hM0.old).mono ?_
  rintro e w1 ⟨hb1, ⟨ho, rfl⟩ | ⟨ho, A, c, rfl, _⟩⟩
  · have hold := hM0.old.trans (hb1.mono hM0.old.size)
    have Hc := Lib.hid (show chkG kind ids ll np ps = 1 by rw [chkG, ho]; rfl)
    clear hM0 hnf hb1 ho
    go_wp2_with fail
    go_ret
    exact ⟨by rw [Hc.out]; rfl, hold⟩
  · have hold := hM0.old.trans (hb1.mono hM0.old.size)
    have Hc := Lib.hid (show chkG kind ids ll np ps = 0 by rw [chkG, ho]; rfl)
    clear hM0 hnf hb1 ho
    go_wp2_with fail
    go_ret
    exact ⟨by rw [Hc.out]; rfl, hold⟩

end Go.Proofs.YtlidhdljgnijaaaDoor

