import Derived.Test.YtmganbdbihjbmaaG39
import Derived.Test.YtmganbdbihjbmaaG48
import Derived.Test.YtmganbdbihjbmaaG34
import Derived.Test.YtmganbdbihjbmaaG19
/-
  THE WALK of PlanChanges (coterielaw12).
-/
set_option linter.unusedVariables false
namespace Go.Proofs.Ytmganbdbihjbmaa
open Go.RowKit

/-- what a change tells, as a tree: nothing, with an error -/
def chgS (R : Int × List Int × List (List Int)) : List Int × List (List Int) := if R.1 = 0 then (R.2.1, R.2.2) else ([], [])
theorem chg_told {w : World} {out inn ids : List Int} {ll : List (List Int)} {e : Ending} {w' : World} (h : ChgPost w.heap.size w out inn ids ll e w') :
    Below w.heap.size w w' ∧ ∃ Ai ni ci Al nl cl, e = .returned (.tuple #[.agg (shV Ai ni ci Al nl cl), .int .i64 (chgR out inn ids ll).1]) ∧ ShR w' w'.heap.size Ai ni ci Al nl cl (chgS (chgR out inn ids ll)).1 (chgS (chgR out inn ids ll)).2 ∧ NI w.heap.size w' Ai := by
  obtain ⟨hb, ⟨h1, h2⟩ | ⟨h1, Ai, ni, ci, Al, nl, cl, h2, h3, h4⟩⟩ := h
  · exact ⟨hb, none, 0, 0, none, 0, 0, h2, by rw [chgS, if_neg h1]; exact (ShN.nil 0 _ _).sh, NI.none _ _⟩
  · exact ⟨hb, Ai, ni, ci, Al, nl, cl, by rw [h1]; exact h2, by rw [chgS, if_pos h1]; exact h3, h4⟩
theorem doc_told {w : World} {out inn ids : List Int} {ll : List (List Int)} {e : Ending} {w' : World} (h : DocPost w out inn ids ll e w') :
    Below w.heap.size w w' ∧ ∃ Ai ni ci Al nl cl, e = .returned (.tuple #[.agg (shV Ai ni ci Al nl cl), .int .i64 (chgR out inn ids ll).1]) ∧ ShR w' w'.heap.size Ai ni ci Al nl cl (chgS (chgR out inn ids ll)).1 (chgS (chgR out inn ids ll)).2 := by
  obtain ⟨hb, ⟨h1, h2⟩ | ⟨h1, Ai, ni, ci, Al, nl, cl, h2, h3⟩⟩ := h
  · exact ⟨hb, none, 0, 0, none, 0, 0, h2, by rw [chgS, if_neg h1]; exact (ShN.nil 0 _ _).sh⟩
  · exact ⟨hb, Ai, ni, ci, Al, nl, cl, by rw [h1]; exact h2, by rw [chgS, if_pos h1]; exact h3⟩

set_option maxRecDepth 100000 in
set_option maxHeartbeats 16000000 in
theorem walk_PlanChanges (Ai : Option Addr) (ni ci : Nat) (Al : Option Addr) (nl cl : Nat) (ids : List Int) (ll : List (List Int)) (Ao : Option Addr) (no co : Nat) (out : List Int) (An : Option Addr) (nn cn : Nat) (inn : List Int)
    (Ak : Option Addr) (nk ck : Nat) (As : Option Addr) (ns cs : Nat) (ks : List Int) (ss : List SI) (Ak' : Option Addr) (nk' ck' : Nat) (As' : Option Addr) (ns' cs' : Nat) (ks' : List Int) (ss' : List SI) (w : World)
    (h : ShR w w.heap.size Ai ni ci Al nl cl ids ll) (hno : no ≤ co) (hco : co ≤ maxLen) (hro : Rd w w.heap.size Ao no (out.map iv)) (hnn : nn ≤ cn) (hcn : cn ≤ maxLen) (hrn : Rd w w.heap.size An nn (inn.map iv))
    (hp : PlR w w.heap.size Ak nk ck As ns cs ks ss) (hq : PlR w w.heap.size Ak' nk' ck' As' ns' cs' ks' ss') :
    Calls Try.prog 3 #[.agg (shV Ai ni ci Al nl cl), .slice Ao no co, .slice An nn cn, .agg (plV Ak nk ck As ns cs), .agg (plV Ak' nk' ck' As' ns' cs')] w fun e w' => e = .returned (.bool true) ∧ Below w.heap.size w w' := by
  have hM0 := (((Ms.nil w).box 25 (shV Ai ni ci Al nl cl)).box 28 (plV Ak nk ck As ns cs)).box 28 (plV Ak' nk' ck' As' ns' cs')
  simp only [World.size_alloc] at hM0
  have Hs := Lib.hid (fun wx (hb : Below w.heap.size w wx) => (h.below hb).more hb.size)
  have Hro := Lib.hid (fun wx (hb : Below w.heap.size w wx) => (hro.below hb).more hb.size)
  have Hrn := Lib.hid (fun wx (hb : Below w.heap.size w wx) => (hrn.below hb).more hb.size)
  have Hp := Lib.hid (fun wx (hb : Below w.heap.size w wx) => (hp.below hb).more hb.size)
  have Hq := Lib.hid (fun wx (hb : Below w.heap.size w wx) => (hq.below hb).more hb.size)
  clear h hro hrn hp hq
  go_enter Try.func3, Try.ntmps3
  go_wp2_with fail
  refine (live12 _).mono ?_
  rintro e w1 ⟨he, hb1⟩
  subst he
  have hM1 := hM0.call hb1
  clear hM0 hb1
  have a0 := (hM1.get 2 rfl).cell (i := 0) (v := .slice Ai ni ci) rfl
  have a1 := (hM1.get 2 rfl).cell (i := 1) (v := .slice Al nl cl) rfl
  have hf1 := Few12_any Ai ni ci Al nl cl ids ll Ao no co _ (Hs.out _ hM1.old)
  obtain ⟨f1, hf1e⟩ : ∃ f1, f1 = fewL ids ll no := ⟨_, rfl⟩
  rw [← hf1e] at hf1
  have Hf1 := Lib.hid hf1e
  clear hf1e
  go_wp2_with fail
  refine hf1.mono ?_
  rintro e w2 ⟨he, hb2⟩
  subst he
  have hM2 := hM1.call hb2
  have hold2 := hM2.old
  clear hM1 hb2 a0 a1 hf1
  cases f1 with
  | false =>
    clear hM2
    go_wp2_with fail
    go_ret
    exact ⟨rfl, hold2⟩
  | true =>
    have a0 := (hM2.get 2 rfl).cell (i := 0) (v := .slice Ai ni ci) rfl
    have a1 := (hM2.get 2 rfl).cell (i := 1) (v := .slice Al nl cl) rfl
    have hf2 := Few12_any Ai ni ci Al nl cl ids ll An nn cn _ (Hs.out _ hM2.old)
    obtain ⟨f2, hf2e⟩ : ∃ f2, f2 = fewL ids ll nn := ⟨_, rfl⟩
    rw [← hf2e] at hf2
    clear hf2e
    go_wp2_with fail
    refine hf2.mono ?_
    rintro e w3 ⟨he, hb3⟩
    subst he
    have hM3 := hM2.call hb3
    have hold3 := hM3.old
    clear hM2 hb3 a0 a1 hf2 hold2
    cases f2 with
    | false =>
      clear hM3
      go_wp2_with fail
      go_ret
      exact ⟨rfl, hold3⟩
    | true =>
      have p0 := (hM3.get 1 rfl).cell (i := 0) (v := .slice Ak nk ck) rfl
      have p1 := (hM3.get 1 rfl).cell (i := 1) (v := .slice As ns cs) rfl
      have q0 := (hM3.get 0 rfl).cell (i := 0) (v := .slice Ak' nk' ck') rfl
      have q1 := (hM3.get 0 rfl).cell (i := 1) (v := .slice As' ns' cs') rfl
      obtain ⟨s1, hs1⟩ : ∃ s1, IntKind.i64.wrap ((nk : Int) + (nk' : Int)) = s1 := ⟨_, rfl⟩
      obtain ⟨s2, hs2⟩ : ∃ s2, IntKind.i64.wrap (s1 + (ns : Int)) = s2 := ⟨_, rfl⟩
      obtain ⟨s3, hs3⟩ : ∃ s3, IntKind.i64.wrap (s2 + (ns' : Int)) = s3 := ⟨_, rfl⟩
      by_cases hbig : (500 : Int) < s3
      · have hbd : decide ((500 : Int) < s3) = true := decide_eq_true hbig
        clear hM3
        go_wp2_with fail
        go_ret
        exact ⟨rfl, hold3⟩
      · have hbd : decide ((500 : Int) < s3) = false := decide_eq_false hbig
        have hfs : fewT ids ll = true := by have := Hf1.out; rw [fewL, Bool.and_assoc] at this; simp only [Bool.true_eq, Bool.and_eq_true] at this; exact this.1
        have hcp := CopyT_any Ai ni ci Al nl cl ids ll w3 (Hs.out _ hold3) hfs
        go_wp2_with ((with_reducible show wpList _ _ _ (⟨some 49, _, _, _, _, _⟩ :: _) _ _); refine wpList_loadC (by kernel_rfl) 25 (.tmp 5) rfl w.heap.size rfl 25 (shV Ai ni ci Al nl cl) _ (hM3.get 2 rfl) Try.underlying25 rfl shapeInfo2 ?_)
        refine hcp.mono ?_
        rintro e w4 ⟨hb4, A2, n2, k2, B2, m2, d2, he, hsN⟩
        subst he
        have hM4 := (hM3.call hb4).put 25 #[.slice none 0 0, .slice none 0 0] (shV A2 n2 k2 B2 m2 d2)
        have hB4 := below_setRow ((Below.refl w4.heap.size w4).alloc (Nat.le_refl _) (.cells #[.slice none 0 0, .slice none 0 0] 25)) (Nat.le_refl _) (shV A2 n2 k2 B2 m2 d2)
        have hsh4 := (hsN.sh.below hB4).more hB4.size
        clear hM3 hcp hb4 hsN hB4 p0 p1 q0 q1 hs1 hs2 hs3 hold3
        go_upto_region 5 with ((with_reducible show wpList _ _ _ (⟨none, Op.store 25 _ _, _, _, _, _⟩ :: _) _ _); refine wpList_store_row rfl 25 (.tmp 12) (.tmp 50) rfl (w4.heap.size) (shV A2 n2 k2 B2 m2 d2) rfl rfl 25 _ (RowC.new _ _ _) (sizeSh _ _ _ _ _ _) rfl (one_sh _ _ _ _ _ _) ?_)
        try simp only [Act.put]
        obtain ⟨g12, hg12⟩ : ∃ g, g = w4.heap.size := ⟨_, rfl⟩
        rw [← hg12] at hM4 hsh4 ⊢
        refine wp_gen (fun wx => Ms w wx [(g12, 25, shV A2 n2 k2 B2 m2 d2), (w.heap.size + 1 + 1, 28, plV Ak' nk' ck' As' ns' cs'), (w.heap.size + 1, 28, plV Ak nk ck As ns cs), (w.heap.size, 25, shV Ai ni ci Al nl cl)] ∧ ShR wx wx.heap.size A2 n2 k2 B2 m2 d2 ids ll) ⟨hM4, hsh4⟩ ?_
        clear hM4 hsh4 hg12
        rintro wB ⟨hMB, hshB⟩
        have hch := PChange_any Ai ni ci Al nl cl ids ll Ao no co out An nn cn inn wB (Hs.out _ hMB.old) hfs (Hro.out _ hMB.old) (by omega) (Hrn.out _ hMB.old) (by omega)
        go_wp2_with ((with_reducible show wpList _ _ _ (⟨some 52, _, _, _, _, _⟩ :: _) _ _); refine wpList_loadC (by kernel_rfl) 25 (.tmp 5) rfl w.heap.size rfl 25 (shV Ai ni ci Al nl cl) _ (hMB.get 3 rfl) Try.underlying25 rfl shapeInfo2 ?_)
        refine hch.mono ?_
        intro e w5 hpo
        obtain ⟨hb5, A3, n3, k3, B3, m3, d3, he, hsh3, hN3⟩ := chg_told hpo
        subst he
        clear hpo hch
        generalize hRR : chgR out inn ids ll = R at *
        have hP5 := (Ms.nil wB).call hb5 |>.put 25 #[.slice none 0 0, .slice none 0 0] (shV A3 n3 k3 B3 m3 d3)
        have hB5 := below_setRow ((Below.refl w5.heap.size w5).alloc (Nat.le_refl _) (.cells #[.slice none 0 0, .slice none 0 0] 25)) (Nat.le_refl _) (shV A3 n3 k3 B3 m3 d3)
        have hsh5 := (hsh3.below hB5).more hB5.size
        have hN5 := hN3.below hB5
        clear hb5 hsh3 hN3 hB5
        go_upto_region 6 with ((with_reducible show wpList _ _ _ (⟨none, Op.store 25 _ _, _, _, _, _⟩ :: _) _ _); refine wpList_store_row rfl 25 (.tmp 13) (.tmp 56) rfl (w5.heap.size) (shV A3 n3 k3 B3 m3 d3) rfl rfl 25 _ (RowC.new _ _ _) (sizeSh _ _ _ _ _ _) rfl (one_sh _ _ _ _ _ _) ?_)
        try simp only [Act.put]
        obtain ⟨g13, hg13⟩ : ∃ g, g = w5.heap.size := ⟨_, rfl⟩
        rw [← hg13] at hP5 hsh5 hN5 ⊢
        refine wp_gen (fun wx => Ms wB wx [(g13, 25, shV A3 n3 k3 B3 m3 d3)] ∧ ShR wx wx.heap.size A3 n3 k3 B3 m3 d3 (chgS R).1 (chgS R).2 ∧ NI wB.heap.size wx A3) ⟨hP5, hsh5, hN5⟩ ?_
        clear hP5 hsh5 hN5 hg13
        rintro w6 ⟨hM6, hsh6, hN6⟩
        have hold6 := hMB.old.trans (hM6.old.mono hMB.old.size)
        have hdc := Change12_any Ai ni ci Al nl cl ids ll Ao no co out An nn cn inn w6 (Hs.out _ hold6) hfs (Hro.out _ hold6) (by omega) (Hrn.out _ hold6) (by omega)
        go_wp2_with ((with_reducible show wpList _ _ _ (⟨some 59, _, _, _, _, _⟩ :: _) _ _); refine wpList_loadC (by kernel_rfl) 25 (.tmp 5) rfl w.heap.size rfl 25 (shV Ai ni ci Al nl cl) _ ((hMB.get 3 rfl).call hM6.old) Try.underlying25 rfl shapeInfo2 ?_)
        refine hdc.mono ?_
        intro e w7 hpo
        obtain ⟨hb7, A4, n4, k4, B4, m4, d4, he, hsh7⟩ := doc_told hpo
        subst he
        clear hpo hdc
        rw [hRR] at hsh7 ⊢
        have hP7 := (hM6.call hb7).put 25 #[.slice none 0 0, .slice none 0 0] (shV A4 n4 k4 B4 m4 d4)
        have hB7 := below_setRow ((Below.refl w7.heap.size w7).alloc (Nat.le_refl _) (.cells #[.slice none 0 0, .slice none 0 0] 25)) (Nat.le_refl _) (shV A4 n4 k4 B4 m4 d4)
        have hsh8 := (hsh7.below hB7).more hB7.size
        have hb67 := c_call (c_call (c_refl w6) hb7) hB7
        have hsh6' := (hsh6.below hb67).more hb67.size
        have hN8 := hN6.below hb67
        clear hb7 hsh7 hB7 hsh6 hN6 hb67
        go_upto_region 7 with ((with_reducible show wpList _ _ _ (⟨none, Op.store 25 _ _, _, _, _, _⟩ :: _) _ _); refine wpList_store_row rfl 25 (.tmp 15) (.tmp 63) rfl (w7.heap.size) (shV A4 n4 k4 B4 m4 d4) rfl rfl 25 _ (RowC.new _ _ _) (sizeSh _ _ _ _ _ _) rfl (one_sh _ _ _ _ _ _) ?_)
        try simp only [Act.put]
        obtain ⟨g15, hg15⟩ : ∃ g, g = w7.heap.size := ⟨_, rfl⟩
        rw [← hg15] at hP7 hsh8 hsh6' hN8 ⊢
        refine wp_gen (fun wx => Ms wB wx [(g15, 25, shV A4 n4 k4 B4 m4 d4), (g13, 25, shV A3 n3 k3 B3 m3 d3)] ∧ ShR wx wx.heap.size A4 n4 k4 B4 m4 d4 (chgS R).1 (chgS R).2 ∧ ShR wx wx.heap.size A3 n3 k3 B3 m3 d3 (chgS R).1 (chgS R).2 ∧ NI wB.heap.size wx A3) ⟨hP7, hsh8, hsh6', hN8⟩ ?_
        clear hP7 hsh8 hsh6' hN8 hg15 hM6 hold6
        rintro w8 ⟨hM8, hsh8, hshA, hN8⟩
        have hsm := Same_anyT A3 n3 k3 B3 m3 d3 (chgS R).1 (chgS R).2 A4 n4 k4 B4 m4 d4 (chgS R).1 (chgS R).2 w8 hshA hsh8
        rw [show ((chgS R).1 == (chgS R).1 && (chgS R).2 == (chgS R).2) = true by simp] at hsm
        obtain ⟨er, her⟩ : ∃ er, er = R.1 := ⟨_, rfl⟩
        rw [← her]
        have u0 := (hM8.get 1 rfl).cell (i := 0) (v := .slice A3 n3 k3) rfl
        have u1 := (hM8.get 1 rfl).cell (i := 1) (v := .slice B3 m3 d3) rfl
        have v0 := (hM8.get 0 rfl).cell (i := 0) (v := .slice A4 n4 k4) rfl
        have v1 := (hM8.get 0 rfl).cell (i := 1) (v := .slice B4 m4 d4) rfl
        clear her hRR
        go_wp2_with fail
        refine hsm.mono ?_
        rintro e w9 ⟨he, hb9⟩
        subst he
        have hM9 := hM8.call hb9
        have hshA9 := (hshA.below hb9).more hb9.size
        have hN9 := hN8.below hb9
        have hint : IntsM wB.heap.size w9 A3 n3 := IntsM.of hshA9.hids (fun ad e => (hN9 ad e).1) (fun ad e => (hN9 ad e).2)
        have hn3 := Nat.le_trans hshA9.hci hshA9.hmi
        have r0 := (hM9.get 1 rfl).cell (i := 0) (v := .slice A3 n3 k3) rfl
        have hold9 := hM9.old
        unfold maxLen at hn3
        clear hM8 hsh8 hshA hN8 hsm hb9 hshA9 hN9 u0 u1 v0 v1 hM9
        go_wp2_with fail
        go_loopw [76] (fun v76 wr => ∃ j : Nat, j ≤ n3 ∧ v76 = .int .i64 (j : Int) ∧ Mut wB.heap.size w9 wr) (fun v76 _ => n3 - (intOf v76).toNat)
        case atStart => exact ⟨0, by omega, rfl, Mut.refl _ _⟩
        case round =>
          obtain ⟨j, hj, rfl, hmu⟩ := hrel
          by_cases hjn : j < n3
          · obtain ⟨bi, oi, rfl, hbi, hth, x, hx⟩ := hint.mut hmu j hjn
            have r1 : wr.cell? ⟨g13, 0, none⟩ = some (.slice (some ⟨bi, oi, none⟩) n3 k3) := hmu.non _ _ r0 (fun ⟨x, h⟩ => by cases h)
            have hfz := hth.free (oi + j)
            have Hmu := Lib.hid (fun y => hmu.set hx hbi y)
            have zj : (j : Int) < (n3 : Int) := by omega
            clear hth
            go_wp2_with fail
            go_roundw
            case rel => exact ⟨j + 1, by omega, by go_num, Hmu.out _⟩
            case measure => simp [intOf]; omega
          · obtain rfl : n3 = j := by omega
            have hlow : Below wB.heap.size wB wr := hold9.trans (hmu.low)
            have hoW : Below w.heap.size w wr := hMB.old.trans (hlow.mono hMB.old.size)
            have hMr : Ms w wr [(g12, 25, shV A2 n2 k2 B2 m2 d2), (w.heap.size + 1 + 1, 28, plV Ak' nk' ck' As' ns' cs'), (w.heap.size + 1, 28, plV Ak nk ck As ns cs), (w.heap.size, 25, shV Ai ni ci Al nl cl)] := hMB.call hlow
            have hs2 := (hshB.below hlow).more hlow.size
            have hkeep : ∀ wx : World, Below wr.heap.size wr wx → ((wx.cell? ⟨w.heap.size, 0, none⟩ = some (.slice Ai ni ci) ∧ wx.cell? ⟨w.heap.size, 1, none⟩ = some (.slice Al nl cl)) ∧ (wx.cell? ⟨g12, 0, none⟩ = some (.slice A2 n2 k2) ∧ wx.cell? ⟨g12, 1, none⟩ = some (.slice B2 m2 d2))) ∧ ((wx.cell? ⟨w.heap.size + 1, 0, none⟩ = some (.slice Ak nk ck) ∧ wx.cell? ⟨w.heap.size + 1, 1, none⟩ = some (.slice As ns cs)) ∧ (wx.cell? ⟨w.heap.size + 1 + 1, 0, none⟩ = some (.slice Ak' nk' ck') ∧ wx.cell? ⟨w.heap.size + 1 + 1, 1, none⟩ = some (.slice As' ns' cs'))) := fun wx hb =>
              ⟨⟨⟨((hMr.get 3 rfl).call hb).cell (i := 0) rfl, ((hMr.get 3 rfl).call hb).cell (i := 1) rfl⟩, ((hMr.get 0 rfl).call hb).cell (i := 0) rfl, ((hMr.get 0 rfl).call hb).cell (i := 1) rfl⟩, ⟨((hMr.get 2 rfl).call hb).cell (i := 0) rfl, ((hMr.get 2 rfl).call hb).cell (i := 1) rfl⟩, ((hMr.get 1 rfl).call hb).cell (i := 0) rfl, ((hMr.get 1 rfl).call hb).cell (i := 1) rfl⟩
            have hc1 := fun wx (hb : Below wr.heap.size wr wx) => Same_anyT Ai ni ci Al nl cl ids ll A2 n2 k2 B2 m2 d2 ids ll wx (Hs.out _ (hoW.trans (hb.mono hoW.size))) ((hs2.below hb).more hb.size)
            rw [show (ids == ids && ll == ll) = true by simp] at hc1
            have hc2 := fun wx (hb : Below wr.heap.size wr wx) => PSame_any12 Ak nk ck As ns cs ks ss Ak' nk' ck' As' ns' cs' ks' ss' wx (Hp.out _ (hoW.trans (hb.mono hoW.size))) (Hq.out _ (hoW.trans (hb.mono hoW.size)))
            have hc3 := fun wx (hb : Below wr.heap.size wr wx) => Same12_any Ak nk ck As ns cs ks ss Ak' nk' ck' As' ns' cs' ks' ss' wx (Hp.out _ (hoW.trans (hb.mono hoW.size))) (Hq.out _ (hoW.trans (hb.mono hoW.size)))
            generalize samePl ks ks' ss ss' = sp at *
            have hb0 : Below wr.heap.size wr wr.drew := c_drew (c_refl wr)
            clear hMB hshB hint r0 hold9 hmu hlow hMr hs2
            go_upto_region 13 with fail
            try simp only [Act.put]
            go_region_held3 (fun wx : World => ((wx.cell? ⟨w.heap.size, 0, none⟩ = some (.slice Ai ni ci) ∧ wx.cell? ⟨w.heap.size, 1, none⟩ = some (.slice Al nl cl)) ∧ (wx.cell? ⟨g12, 0, none⟩ = some (.slice A2 n2 k2) ∧ wx.cell? ⟨g12, 1, none⟩ = some (.slice B2 m2 d2))) ∧ ((wx.cell? ⟨w.heap.size + 1, 0, none⟩ = some (.slice Ak nk ck) ∧ wx.cell? ⟨w.heap.size + 1, 1, none⟩ = some (.slice As ns cs)) ∧ (wx.cell? ⟨w.heap.size + 1 + 1, 0, none⟩ = some (.slice Ak' nk' ck') ∧ wx.cell? ⟨w.heap.size + 1 + 1, 1, none⟩ = some (.slice As' ns' cs'))))
              (first | exact hkeep _ hb3 | exact hkeep _ hb2 | exact hkeep _ hb1 | exact hkeep _ hb0)
              (first
                | (go_at_call 14; refine (hc1 _ hb0).mono ?_; rintro e wC ⟨he, hbC⟩; subst he; have hb1 := c_call hb0 hbC)
                | (go_at_call 15; refine (hc2 _ hb1).mono ?_; rintro e wD ⟨he, hbD⟩; subst he; have hb2 := c_call hb1 hbD)
                | (go_at_call 16; refine (hc3 _ hb2).mono ?_; rintro e wE ⟨he, hbE⟩; subst he; have hb3 := c_call hb2 hbE))
            have hfin := hoW.trans (hb3.mono hoW.size)
            clear hc1 hc2 hc3 hkeep
            go_wp2_with fail
            go_ret
            exact ⟨by simp, hfin⟩

end Go.Proofs.Ytmganbdbihjbmaa

