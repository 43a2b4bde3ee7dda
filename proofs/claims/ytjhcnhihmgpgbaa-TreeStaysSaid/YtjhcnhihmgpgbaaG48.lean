import Derived.Test.YtjhcnhihmgpgbaaG47
import Derived.Carry
/-
  THE WALK of TreeStays (coterielaw10), over what the program's calls answer.
-/
set_option linter.unusedVariables false
namespace Go.Proofs.Ytjhcnhihmgpgbaa
open Go.RowKit
open Go.Maps

theorem SetM.keep {w w' : World} {b n : Nat} {s : List Int} (h : SetM w b n s) (hk : w'.heap[b]? = w.heap[b]?) : SetM w' b n s := by
  obtain ⟨D, ⟨es, clock, q1, q2⟩, h2⟩ := h
  exact ⟨D, ⟨es, clock, by rw [hk, q1], q2⟩, h2⟩
theorem SetM.row {w : World} {b n g : Nat} {s : List Int} (h : SetM w b n s) (hne : b ≠ g) (cs : Array Value) : SetM (w.setRow g cs) b n s := h.keep (by
  have := below_setRow (Below.refl g w) (Nat.le_refl g) cs
  unfold World.setRow
  simp [Array.getElem?_modify, hne.symm])
theorem ShN.turned {lo : Nat} {w w' : World} {Ai : Option Addr} {ni ci : Nat} {Al : Option Addr} {nl cl : Nat} {ids : List Int} {ll : List (List Int)} (h : ShN lo w w.heap.size Ai ni ci Al nl cl ids ll) {b : Nat} (hg : w.grownBy w' (some b)) (hb : b < lo) : ShN lo w' w'.heap.size Ai ni ci Al nl cl ids ll :=
  (h.keep fun A n xs hn hr => (hr.grownD hg (Nat.le_refl _) (fun ad had e => by have := hn ad had; injection e with e; omega))).more hg.size
theorem rangeAt_below {w w' : World} {B b o : Nat} {cs : List Value} (h : w.rangeAt b o cs) (hb : b < B) (hw : Below B w w') : w'.rangeAt b o cs := fun j u hu => by
  rw [World.cell?_of_block (hw.block _ hb)]
  exact h j u hu
theorem SetM.le {w : World} {b n : Nat} {s : List Int} (h : SetM w b n s) : s.length ≤ n := by
  obtain ⟨D, h1, h2, _⟩ := h
  rw [← h2]
  exact h1.size_le
theorem insE_one {ids : List Int} {ll : List (List Int)} {id : Int} (h : id < 0 ∨ 1048576 < id) : insE ids ll id = 1 := by rw [insE, if_pos (Or.inr h)]
theorem insE_seven {ids : List Int} {ll : List (List Int)} {id : Int} (hc : chkT ids ll = true) (h0 : ¬ id < 0) (h1 : ¬ 1048576 < id) (hi : id ∈ ids) : insE ids ll id = 7 := by
  rw [insE, if_neg (by simp [hc]; omega), if_pos (isT_mem.2 hi)]
theorem delE_not {ids : List Int} {ll : List (List Int)} {id : Int} (hc : chkT ids ll = true) (hi : id ∉ ids) : delE ids ll id = 6 := (delE_six hc (fun h => hi (delE_zero h).2)).1
theorem shl_small : ∀ k : Nat, k ≤ 10 → IntKind.i64.wrap ((2 : Int) ^ k) = (2 : Int) ^ k := by decide +kernel
theorem opInfo : (Try.prog.info? 47).map (·.size) = some 2 := by kernel_rfl

set_option maxRecDepth 100000 in
set_option maxHeartbeats 8000000 in
theorem walkH_TreeStays (hB : HTB) (hC : HTC) (hS : HTM) (hI : HTI) (hD : HTD) (A : Option Addr) (n c : Nat) (ops : List (Int × Bool)) (w : World) (hn : n ≤ maxLen) (hl : ops.length = n) (hi64 : ∀ p ∈ ops, I64 p.1)
    (hops : ∀ j (hj : j < ops.length), ∃ b o, A = some ⟨b, o, none⟩ ∧ b < w.heap.size ∧ w.rangeAt b (o + j * 2) [iv ops[j].1, .bool ops[j].2]) :
    Calls Try.prog 6 #[.slice A n c] w fun e w' => e = .returned (.bool true) ∧ Below w.heap.size w w' := by
  have hm : n < 9223372036854775808 := by unfold maxLen at hn; omega
  have Hl := Lib.hid hl
  clear hl hn
  go_enter Try.func6, Try.ntmps6
  go_wp2_with fail
  refine (live10 hB hC hS _).mono ?_
  rintro e w1 ⟨rfl, hb1⟩
  by_cases hx : 120 < n
  · go_wp2_with fail
    go_ret
    exact ⟨rfl, hb1⟩
  have hmm := @run_makeMap Try.prog
  have hp1 := below_put w1 25 #[.slice none 0 0, .slice none 0 0] #[.slice none 0 0, .slice none 0 0]
  have hz1 := size_put w1 25 #[.slice none 0 0, .slice none 0 0] #[.slice none 0 0, .slice none 0 0]
  have hR1 : RowC ((w1.alloc (.cells #[.slice none 0 0, .slice none 0 0] 25)).setRow w1.heap.size #[.slice none 0 0, .slice none 0 0]) w1.heap.size 25 #[.slice none 0 0, .slice none 0 0] := (RowC.new _ _ _).row _
  have hS1 := SetM.made ((w1.alloc (.cells #[.slice none 0 0, .slice none 0 0] 25)).setRow w1.heap.size #[.slice none 0 0, .slice none 0 0])
  have hal := d_al ((w1.alloc (.cells #[.slice none 0 0, .slice none 0 0] 25)).setRow w1.heap.size #[.slice none 0 0, .slice none 0 0]) (.map #[] 0)
  have hbb := c_call hb1 (c_call hp1 hal)
  have hR2 := hR1.call hal
  have hle := hb1.size
  rw [hz1] at hS1
  go_upto_region 8 with ((with_reducible show wpList _ _ _ (⟨none, Op.store 25 _ _, _, _, _, _⟩ :: _) _ _); refine wpList_store_row rfl 25 (.tmp 4) (.tmp 20) rfl (w1.heap.size) #[.slice none 0 0, .slice none 0 0] rfl rfl 25 _ (RowC.new _ _ _) shapeInfo2 rfl (by simp [Value.oneCell']) ?_)
  try simp only [Act.put]
  refine wp_gen (fun wx => Below w.heap.size w wx ∧ RowC wx w1.heap.size 25 #[.slice none 0 0, .slice none 0 0] ∧ SetM wx (w1.heap.size + 1) 0 []) ⟨hbb, hR2, hS1⟩ ?_
  clear hbb hR2 hS1 hR1 hal hp1 hz1 hb1 hmm
  rintro w2 ⟨hb2, hR2, hS2⟩
  obtain ⟨g4, hg4⟩ : ∃ g, g = w1.heap.size := ⟨_, rfl⟩
  rw [← hg4] at hR2 hS2 hle ⊢
  clear hg4
  go_wp2_with fail
  go_loopw [24] (fun i wr => ∃ (j : Nat) (Ai : Option Addr) (ni ci : Nat) (Al : Option Addr) (nl cl : Nat) (ids : List Int) (ll : List (List Int)), j ≤ n ∧ i = .int .i64 (j : Int) ∧ Below w.heap.size w wr ∧ RowC wr g4 25 (shV Ai ni ci Al nl cl) ∧ SetM wr (g4 + 1) j ids ∧
    ShN (g4 + 2) wr wr.heap.size Ai ni ci Al nl cl ids ll ∧ chkT ids ll = true) (fun i _ => n - (intOf i).toNat)
  case atStart => exact ⟨0, none, 0, 0, none, 0, 0, [], [], by omega, rfl, hb2, hR2, hS2, ShN.nil _ _ _, by decide⟩
  case round =>
    clear hb2 hR2 hS2
    obtain ⟨j, Ai, ni, ci, Al, nl, cl, ids, ll, hj, rfl, hb, hR4, hSet, hsh, hck⟩ := hrel
    by_cases hlt : j < n
    · have hjl : j < ops.length := by rw [Hl.out]; exact hlt
      obtain ⟨b, o, rfl, hbw, hrg⟩ := hops j hjl
      have hrg := (rangeAt_below hrg hbw hb)
      have hx64 := hi64 _ (List.getElem_mem hjl)
      generalize ops[j].1 = id at *
      generalize ops[j].2 = out at *
      have j0 : (0 : Int) ≤ (j : Int) := by omega
      have j1 : (j : Int) < (n : Int) := by omega
      have hpa := below_put wr 47 #[.int .i64 0, .bool false] #[iv id, .bool out]
      have hRa : RowC ((wr.alloc (.cells #[.int .i64 0, .bool false] 47)).setRow wr.heap.size #[iv id, .bool out]) wr.heap.size 47 #[iv id, .bool out] := (RowC.new _ _ _).row _
      go_upto_region 11 with first | ((with_reducible show wpList _ _ _ (⟨some 27, _, _, _, _, _⟩ :: _) _ _); refine wpList_load_midG (by kernel_rfl) 47 (.tmp 26) rfl b (o + j * 2) rfl [iv id, .bool out] _ hrg Try.underlying47 rfl opInfo ?_) | ((with_reducible show wpList _ _ _ (⟨none, Op.store 47 _ _, _, _, _, _⟩ :: _) _ _); refine wpList_store_row rfl 47 (.tmp 7) (.tmp 27) rfl (wr.heap.size) #[iv id, .bool out] rfl rfl 47 _ (RowC.new _ _ _) opInfo rfl (by simp [Value.oneCell', iv]) ?_)
      try simp only [Act.put]
      refine wp_gen (fun wx => Below wr.heap.size wr wx ∧ RowC wx wr.heap.size 47 #[iv id, .bool out]) ⟨hpa, hRa⟩ ?_
      clear hpa hRa hrg
      rintro wa ⟨hba, hRa⟩
      have hpb := below_put wa 25 #[.slice none 0 0, .slice none 0 0] #[.slice none 0 0, .slice none 0 0]
      have hRb : RowC ((wa.alloc (.cells #[.slice none 0 0, .slice none 0 0] 25)).setRow wa.heap.size #[.slice none 0 0, .slice none 0 0]) wa.heap.size 25 #[.slice none 0 0, .slice none 0 0] := (RowC.new _ _ _).row _
      have hRab := hRa.call hpb
      have hbab := c_call hba hpb
      have hlab := hba.size
      have hltb : wr.heap.size < wa.heap.size := hRa.lt
      go_upto_region 13 with ((with_reducible show wpList _ _ _ (⟨none, Op.store 25 _ _, _, _, _, _⟩ :: _) _ _); refine wpList_store_row rfl 25 (.tmp 8) (.tmp 28) rfl (wa.heap.size) #[.slice none 0 0, .slice none 0 0] rfl rfl 25 _ (RowC.new _ _ _) shapeInfo2 rfl (by simp [Value.oneCell']) ?_)
      try simp only [Act.put]
      refine wp_gen (fun wx => Below wr.heap.size wr wx ∧ RowC wx wr.heap.size 47 #[iv id, .bool out] ∧ RowC wx wa.heap.size 25 #[.slice none 0 0, .slice none 0 0]) ⟨hbab, hRab, hRb⟩ ?_
      clear hba hRa hpb hRb hRab hbab
      rintro wb ⟨hbb, hR7, hR8⟩
      obtain ⟨g7, hg7⟩ : ∃ g, g = wr.heap.size := ⟨_, rfl⟩
      obtain ⟨g8, hg8⟩ : ∃ g, g = wa.heap.size := ⟨_, rfl⟩
      rw [← hg7] at hR7 hltb hbb ⊢
      rw [← hg8] at hR8 hltb ⊢
      have hLO : g4 + 2 ≤ wb.heap.size := by
        have h1 := hSet.lt
        have h2 := hR8.lt
        omega
      clear hg8 hlab
      have hbb' : Below wr.heap.size wr wb := by rw [← hg7]; exact hbb
      have hg47 : g4 + 1 < g7 := by rw [hg7]; exact hSet.lt
      have Hg7 := Lib.hid hg7
      clear hg7
      have k0 := hR7.cell (i := 0) (v := .int .i64 id) rfl
      have k1 := hR7.cell (i := 1) (v := .bool out) rfl
      have hsb := (hsh.call hbb').sh
      have hR4b := hR4.call hbb'
      have hfw := few_of_chk hck
      have Hsz := Lib.hid (sizeSh Ai ni ci Al nl cl)
      have Hlt := Lib.hid hlt
      cases out
      · have hcl := hI Ai ni ci Al nl cl ids ll id wb hsb hfw
        go_wp2_with ((with_reducible show wpList _ _ _ (⟨some 39, _, _, _, _, _⟩ :: _) _ _); refine wpList_loadC (by kernel_rfl) 25 (.tmp 4) rfl (g4) rfl 25 (shV Ai ni ci Al nl cl) _ (hR4b) Try.underlying25 rfl Hsz.out ?_)
        refine hcl.mono ?_
        intro e w6 hP
        obtain ⟨hb6, Ai', ni', ci', Al', nl', cl', rfl, hn⟩ := hP.shape2
        have hbc := hbb.trans (hb6.mono (Nat.le_trans (Nat.le_of_lt hltb) (Nat.le_of_lt hR8.lt)))
        have hbc := below_setRow hbc (Nat.le_of_lt hltb) (shV Ai' ni' ci' Al' nl' cl')
        have hR7c := ((hR7.call hb6).rowFar (g' := g8) (by omega) (shV Ai' ni' ci' Al' nl' cl'))
        have hR8b := hR8.call hb6
        have hR8c := hR8b.row (shV Ai' ni' ci' Al' nl' cl')
        have hn := (hn.box hR8.lt (shV Ai' ni' ci' Al' nl' cl')).mono (show g4 + 2 ≤ wb.heap.size from hLO)
        rw [← size_setRowT w6 g8 (shV Ai' ni' ci' Al' nl' cl')] at hn
        clear hcl hP hb6 k0 k1 hsb hR4b
        go_upto_region 16 with first | ((with_reducible show wpList _ _ _ (⟨some 39, _, _, _, _, _⟩ :: _) _ _); refine wpList_loadC (by kernel_rfl) 25 (.tmp 4) rfl (g4) rfl 25 (shV Ai ni ci Al nl cl) _ (hR4b) Try.underlying25 rfl Hsz.out ?_) | ((with_reducible show wpList _ _ _ (⟨none, Op.store 25 _ _, _, _, _, _⟩ :: _) _ _); refine wpList_store_row rfl 25 (.tmp 8) (.tmp 43) rfl (g8) (shV Ai' ni' ci' Al' nl' cl') rfl rfl 25 _ (hR8b) (sizeSh _ _ _ _ _ _) rfl (one_sh _ _ _ _ _ _) ?_)
        try simp only [Act.put]
        refine wp_gen (fun wx => Below g7 wr wx ∧ RowC wx g7 47 #[iv id, .bool false] ∧ RowC wx g8 25 (shV Ai' ni' ci' Al' nl' cl') ∧ ShN (g4 + 2) wx wx.heap.size Ai' ni' ci' Al' nl' cl' (insR ids ll id).1 (insR ids ll id).2) ⟨hbc, hR7c, hR8c, hn⟩ ?_
        clear hbc hR7c hR8c hn hR8b hR7 hR8 hbb hbb'
        rintro wc ⟨hbc, hR7, hR8, hn⟩
        rw [Hg7.out] at hbc
        have hshc := hsh.call hbc
        have hSetc := hSet.below hbc hSet.lt
        have hR4c := hR4.call hbc
        have hbw := c_call hb hbc
        have k0 := hR7.cell (i := 0) (v := .int .i64 id) rfl
        have k1 := hR7.cell (i := 1) (v := .bool false) rfl
        have hlk := hSetc.look hx64
        clear hsh hSet hR4 hb hbc
        by_cases h0 : id < 0
        · rw [insE_one (Or.inl h0)]
          clear hn
          go_wp2_with fail
          go_roundw
          case rel => exact ⟨j + 1, Ai, ni, ci, Al, nl, cl, ids, ll, by omega, by go_num, hbw, hR4c, hSetc.more (by omega), hshc, hck⟩
          case measure => simp [intOf]; omega
        by_cases h1 : 1048576 < id
        · rw [insE_one (Or.inr h1)]
          clear hn
          go_wp2_with fail
          go_roundw
          case rel => exact ⟨j + 1, Ai, ni, ci, Al, nl, cl, ids, ll, by omega, by go_num, hbw, hR4c, hSetc.more (by omega), hshc, hck⟩
          case measure => simp [intOf]; omega
        by_cases hin : id ∈ ids
        · rw [insE_seven hck h0 h1 hin]
          rw [decide_eq_true hin] at hlk
          clear hn
          go_wp2_with fail
          go_roundw
          case rel => exact ⟨j + 1, Ai, ni, ci, Al, nl, cl, ids, ll, by omega, by go_num, hbw, hR4c, hSetc.more (by omega), hshc, hck⟩
          case measure => simp [intOf]; omega
        have he := insE_mk hck (by omega) (by omega) hin (by have := hSetc.le; omega)
        rw [insR, if_pos he] at hn
        obtain ⟨e1, _, hck'⟩ := ins_chk he
        rw [he]
        rw [decide_eq_false hin] at hlk
        obtain ⟨wd, hrun, hSd, hgd⟩ := hSetc.put hx64 (by unfold maxLen; omega) hin (s' := (insS ids (lvN ll) id).1) (by rw [e1, insI_len]) (fun y => by rw [e1]; exact mem_insI)
        clear he e1
        generalize (insS ids (lvN ll) id).1 = ids' at *
        generalize levI (insS ids (lvN ll) id).2 = ll' at *
        have hR4d := hR4c.grownT hgd (fun k hk => by injection hk with hk; omega)
        have hR8d := hR8.grownT hgd (fun k hk => by injection hk with hk; omega)
        have hnd := hn.turned hgd (by omega)
        have hbd := hbw.grown hgd hbw.size (fun k hk => by injection hk with hk; omega)
        go_upto_region 29 with fail
        try simp only [Act.put]
        refine wp_gen (fun wx => Below w.heap.size w wx ∧ RowC wx g4 25 (shV Ai ni ci Al nl cl) ∧ RowC wx g8 25 (shV Ai' ni' ci' Al' nl' cl') ∧ ShN (g4 + 2) wx wx.heap.size Ai' ni' ci' Al' nl' cl' ids' ll' ∧ SetM wx (g4 + 1) (j + 1) ids') ⟨hbd, hR4d, hR8d, hnd, hSd⟩ ?_
        clear hR4d hR8d hnd hbd hSd hrun hgd hR4c hR8 hR7 hn hbw hshc hSetc k0 k1 hlk
        rintro we ⟨hbe, hR4e, hR8e, hne, hSe⟩
        have Hsz' := Lib.hid (sizeSh Ai' ni' ci' Al' nl' cl')
        have hbf := below_setRow hbe (show w.heap.size ≤ g4 by omega) (shV Ai' ni' ci' Al' nl' cl')
        have hR4f := hR4e.row (shV Ai' ni' ci' Al' nl' cl')
        have hnf := hne.box (show g4 < g4 + 2 by omega) (shV Ai' ni' ci' Al' nl' cl')
        rw [← size_setRowT we g4 (shV Ai' ni' ci' Al' nl' cl')] at hnf
        have hSf := hSe.row (show g4 + 1 ≠ g4 by omega) (shV Ai' ni' ci' Al' nl' cl')
        go_upto_region 30 with first | ((with_reducible show wpList _ _ _ (⟨some 92, _, _, _, _, _⟩ :: _) _ _); refine wpList_loadC (by kernel_rfl) 25 (.tmp 8) rfl (g8) rfl 25 (shV Ai' ni' ci' Al' nl' cl') _ (hR8e) Try.underlying25 rfl Hsz'.out ?_) | ((with_reducible show wpList _ _ _ (⟨none, Op.store 25 _ _, _, _, _, _⟩ :: _) _ _); refine wpList_store_row rfl 25 (.tmp 4) (.tmp 92) rfl (g4) (shV Ai' ni' ci' Al' nl' cl') rfl rfl 25 _ (hR4e) (sizeSh _ _ _ _ _ _) rfl (one_sh _ _ _ _ _ _) ?_)
        try simp only [Act.put]
        refine wp_gen (fun wx => Below w.heap.size w wx ∧ RowC wx g4 25 (shV Ai' ni' ci' Al' nl' cl') ∧ ShN (g4 + 2) wx wx.heap.size Ai' ni' ci' Al' nl' cl' ids' ll' ∧ SetM wx (g4 + 1) (j + 1) ids') ⟨hbf, hR4f, hnf, hSf⟩ ?_
        clear hbf hR4f hnf hSf hbe hR4e hR8e hne hSe
        rintro wf ⟨hbf, hR4f, hnf, hSf⟩
        obtain ⟨sv', hsv'⟩ : ∃ sv', sv' = shV Ai' ni' ci' Al' nl' cl' := ⟨_, rfl⟩
        have hcc := fun wx (hb : Below wf.heap.size wf wx) => hC Ai' ni' ci' Al' nl' cl' ids' ll' wx ((hnf.call hb).sh) (few_of_chk hck')
        rw [chkE, if_pos hck'] at hcc
        have Hni := Lib.hid hnf.sh.hni
        have Hnl := Lib.hid hnf.sh.hnl
        have hfl := few_len (few_of_chk hck')
        rw [Hni.out, Hnl.out] at hfl
        have hhi := lv_high hck'
        rw [lvN_len, Hnl.out] at hhi
        have hkeep : ∀ wx : World, Below wf.heap.size wf wx → wx.rangeAt g4 0 sv'.toList ∧ wx.cell? ⟨g4, 0, none⟩ = some (.slice Ai' ni' ci') ∧ wx.cell? ⟨g4, 1, none⟩ = some (.slice Al' nl' cl') ∧ ∀ ty, (Builtin.len_ #[45] ty #[.map (some (g4 + 1))]).run Try.prog wx = .ok (.int .i64 (ni' : Int)) wx := fun wx hb => by
          have h4 := hR4f.call hb
          refine ⟨by rw [hsv']; exact h4.range, h4.cell (i := 0) rfl, h4.cell (i := 1) rfl, fun ty => ?_⟩
          rw [(hSf.below hb hSf.lt).len ty, Hni.out]
        have hsc := fun wx (hR : RowC wx g4 25 (shV Ai' ni' ci' Al' nl' cl')) => hR.cell (i := 0) (v := .slice Ai' ni' ci') rfl
        rw [← hsv'] at hR4f Hsz' hcc hsc ⊢
        have Hsv' := Lib.hid hsv'
        clear hsv'
        have hun := Try.underlying25
        have hzz : (Try.prog.info? 25).map (·.size) = some sv'.toList.length := by simpa using Hsz'.out
        have n1 : decide (20 < nl') = false := decide_eq_false (by omega)
        have n3 : (nl' : Int) ≤ 20 := by omega
        by_cases hn0 : ni' = 0
        · subst hn0
          refine beginT (fun wx => wx.rangeAt g4 0 sv'.toList ∧ wx.cell? ⟨g4, 0, none⟩ = some (.slice Ai' 0 ci') ∧ wx.cell? ⟨g4, 1, none⟩ = some (.slice Al' nl' cl') ∧ ∀ ty, (Builtin.len_ #[45] ty #[.map (some (g4 + 1))]).run Try.prog wx = .ok (.int .i64 ((0 : Nat) : Int)) wx) 33 (by kernel_rfl) ?_
          have hS := hkeep _ (c_drew (c_refl _))
          refine loadT 0 (some 93) 25 (.tmp 4) g4 0 sv'.toList rfl rfl (by kernel_rfl) (by kernel_rfl) (by kernel_rfl) (by kernel_rfl) rfl (by kernel_rfl) rfl (fun wx hSw => hSw.1) hun rfl hzz (fun _ _ _ h => h) hS ?_
          simp only [Act.put, List.setIfInBounds_toArray, List.set_cons_zero, List.set_cons_succ]
          refine oneT 1 (by kernel_rfl) rfl (fun K hK => ?_)
          go_simp
          refine (hcc _ (c_drew (c_refl _))).mono ?_
          rintro e wg ⟨rfl, hbg⟩
          have hbg := c_call (c_drew (c_refl wf)) hbg
          refine hK.out _ _ (fun _ => hkeep _ hbg) ?_
          clear hK K
          have hS := hkeep _ hbg
          refine takeD 2 (some 95) (.bool false) rfl rfl (by kernel_rfl) (by kernel_rfl) (by kernel_rfl) (by kernel_rfl) (fun _ _ _ h => h) (Or.inl ⟨by kernel_rfl, fun wx hSw => by obtain ⟨q1, q2, q3, q4⟩ := hSw; go_simp⟩) hS ?_
          simp only [Act.put, List.setIfInBounds_toArray, List.set_cons_zero, List.set_cons_succ]
          refine takeD 3 (some 96) (.bool false) rfl rfl (by kernel_rfl) (by kernel_rfl) (by kernel_rfl) (by kernel_rfl) (fun _ _ _ h => h) (Or.inl ⟨by kernel_rfl, fun wx hSw => by obtain ⟨q1, q2, q3, q4⟩ := hSw; go_simp⟩) hS ?_
          simp only [Act.put, List.setIfInBounds_toArray, List.set_cons_zero, List.set_cons_succ]
          refine takeD 4 (some 97) (.pointer (some ⟨g4, 0, none⟩)) rfl rfl (by kernel_rfl) (by kernel_rfl) (by kernel_rfl) (by kernel_rfl) (fun _ _ _ h => h) (Or.inl ⟨by kernel_rfl, fun wx hSw => by obtain ⟨q1, q2, q3, q4⟩ := hSw; go_simp⟩) hS ?_
          simp only [Act.put, List.setIfInBounds_toArray, List.set_cons_zero, List.set_cons_succ]
          refine takeD 5 (some 98) (.slice Ai' 0 ci') rfl rfl (by kernel_rfl) (by kernel_rfl) (by kernel_rfl) (by kernel_rfl) (fun _ _ _ h => h) (Or.inl ⟨by kernel_rfl, fun wx hSw => by obtain ⟨q1, q2, q3, q4⟩ := hSw; go_simp⟩) hS ?_
          simp only [Act.put, List.setIfInBounds_toArray, List.set_cons_zero, List.set_cons_succ]
          refine takeD 6 (some 99) (.int .i64 (0 : Int)) rfl rfl (by kernel_rfl) (by kernel_rfl) (by kernel_rfl) (by kernel_rfl) (fun _ _ _ h => h) (Or.inl ⟨by kernel_rfl, fun wx hSw => by obtain ⟨q1, q2, q3, q4⟩ := hSw; go_simp⟩) hS ?_
          simp only [Act.put, List.setIfInBounds_toArray, List.set_cons_zero, List.set_cons_succ]
          refine takeD 7 (some 100) (.map (some (g4 + 1))) rfl rfl (by kernel_rfl) (by kernel_rfl) (by kernel_rfl) (by kernel_rfl) (fun _ _ _ h => h) (Or.inl ⟨by kernel_rfl, fun wx hSw => by obtain ⟨q1, q2, q3, q4⟩ := hSw; go_simp⟩) hS ?_
          simp only [Act.put, List.setIfInBounds_toArray, List.set_cons_zero, List.set_cons_succ]
          refine takeD 8 (some 101) (.int .i64 (0 : Int)) rfl rfl (by kernel_rfl) (by kernel_rfl) (by kernel_rfl) (by kernel_rfl) (fun _ _ _ h => h) (Or.inl ⟨by kernel_rfl, fun wx hSw => by obtain ⟨q1, q2, q3, q4⟩ := hSw; go_simp⟩) hS ?_
          simp only [Act.put, List.setIfInBounds_toArray, List.set_cons_zero, List.set_cons_succ]
          refine takeD 9 (some 102) (.bool false) rfl rfl (by kernel_rfl) (by kernel_rfl) (by kernel_rfl) (by kernel_rfl) (fun _ _ _ h => h) (Or.inl ⟨by kernel_rfl, fun wx hSw => by obtain ⟨q1, q2, q3, q4⟩ := hSw; go_simp⟩) hS ?_
          simp only [Act.put, List.setIfInBounds_toArray, List.set_cons_zero, List.set_cons_succ]
          refine takeD 10 (some 103) (.bool false) rfl rfl (by kernel_rfl) (by kernel_rfl) (by kernel_rfl) (by kernel_rfl) (fun _ _ _ h => h) (Or.inl ⟨by kernel_rfl, fun wx hSw => by obtain ⟨q1, q2, q3, q4⟩ := hSw; go_simp⟩) hS ?_
          simp only [Act.put, List.setIfInBounds_toArray, List.set_cons_zero, List.set_cons_succ]
          refine takeD 11 (some 104) (.bool false) rfl rfl (by kernel_rfl) (by kernel_rfl) (by kernel_rfl) (by kernel_rfl) (fun _ _ _ h => h) (Or.inl ⟨by kernel_rfl, fun wx hSw => by obtain ⟨q1, q2, q3, q4⟩ := hSw; go_simp⟩) hS ?_
          simp only [Act.put, List.setIfInBounds_toArray, List.set_cons_zero, List.set_cons_succ]
          refine takeD 12 (some 105) (.pointer (some ⟨g4, 1, none⟩)) rfl rfl (by kernel_rfl) (by kernel_rfl) (by kernel_rfl) (by kernel_rfl) (fun _ _ _ h => h) (Or.inl ⟨by kernel_rfl, fun wx hSw => by obtain ⟨q1, q2, q3, q4⟩ := hSw; go_simp⟩) hS ?_
          simp only [Act.put, List.setIfInBounds_toArray, List.set_cons_zero, List.set_cons_succ]
          refine takeD 13 (some 106) (.slice Al' nl' cl') rfl rfl (by kernel_rfl) (by kernel_rfl) (by kernel_rfl) (by kernel_rfl) (fun _ _ _ h => h) (Or.inl ⟨by kernel_rfl, fun wx hSw => by obtain ⟨q1, q2, q3, q4⟩ := hSw; go_simp⟩) hS ?_
          simp only [Act.put, List.setIfInBounds_toArray, List.set_cons_zero, List.set_cons_succ]
          refine takeD 14 (some 107) (.int .i64 (nl' : Int)) rfl rfl (by kernel_rfl) (by kernel_rfl) (by kernel_rfl) (by kernel_rfl) (fun _ _ _ h => h) (Or.inl ⟨by kernel_rfl, fun wx hSw => by obtain ⟨q1, q2, q3, q4⟩ := hSw; go_simp⟩) hS ?_
          simp only [Act.put, List.setIfInBounds_toArray, List.set_cons_zero, List.set_cons_succ]
          refine takeD 15 (some 108) (.bool false) rfl rfl (by kernel_rfl) (by kernel_rfl) (by kernel_rfl) (by kernel_rfl) (fun _ _ _ h => h) (Or.inl ⟨by kernel_rfl, fun wx hSw => by obtain ⟨q1, q2, q3, q4⟩ := hSw; go_simp⟩) hS ?_
          simp only [Act.put, List.setIfInBounds_toArray, List.set_cons_zero, List.set_cons_succ]
          refine takeD 16 (some 109) (.bool false) rfl rfl (by kernel_rfl) (by kernel_rfl) (by kernel_rfl) (by kernel_rfl) (fun _ _ _ h => h) (Or.inl ⟨by kernel_rfl, fun wx hSw => by obtain ⟨q1, q2, q3, q4⟩ := hSw; go_simp⟩) hS ?_
          simp only [Act.put, List.setIfInBounds_toArray, List.set_cons_zero, List.set_cons_succ]
          refine takeD 17 (some 110) (.bool false) rfl rfl (by kernel_rfl) (by kernel_rfl) (by kernel_rfl) (by kernel_rfl) (fun _ _ _ h => h) (Or.inl ⟨by kernel_rfl, fun wx hSw => by obtain ⟨q1, q2, q3, q4⟩ := hSw; go_simp⟩) hS ?_
          simp only [Act.put, List.setIfInBounds_toArray, List.set_cons_zero, List.set_cons_succ]
          refine takeD 18 (some 111) (.pointer (some ⟨g4, 0, none⟩)) rfl rfl (by kernel_rfl) (by kernel_rfl) (by kernel_rfl) (by kernel_rfl) (fun _ _ _ h => h) (Or.inl ⟨by kernel_rfl, fun wx hSw => by obtain ⟨q1, q2, q3, q4⟩ := hSw; go_simp⟩) hS ?_
          simp only [Act.put, List.setIfInBounds_toArray, List.set_cons_zero, List.set_cons_succ]
          refine takeD 19 (some 112) (.slice Ai' 0 ci') rfl rfl (by kernel_rfl) (by kernel_rfl) (by kernel_rfl) (by kernel_rfl) (fun _ _ _ h => h) (Or.inl ⟨by kernel_rfl, fun wx hSw => by obtain ⟨q1, q2, q3, q4⟩ := hSw; go_simp⟩) hS ?_
          simp only [Act.put, List.setIfInBounds_toArray, List.set_cons_zero, List.set_cons_succ]
          refine takeD 20 (some 113) (.int .i64 (0 : Int)) rfl rfl (by kernel_rfl) (by kernel_rfl) (by kernel_rfl) (by kernel_rfl) (fun _ _ _ h => h) (Or.inl ⟨by kernel_rfl, fun wx hSw => by obtain ⟨q1, q2, q3, q4⟩ := hSw; go_simp⟩) hS ?_
          simp only [Act.put, List.setIfInBounds_toArray, List.set_cons_zero, List.set_cons_succ]
          refine takeD 21 (some 114) (.bool false) rfl rfl (by kernel_rfl) (by kernel_rfl) (by kernel_rfl) (by kernel_rfl) (fun _ _ _ h => h) (Or.inl ⟨by kernel_rfl, fun wx hSw => by obtain ⟨q1, q2, q3, q4⟩ := hSw; go_simp⟩) hS ?_
          simp only [Act.put, List.setIfInBounds_toArray, List.set_cons_zero, List.set_cons_succ]
          refine takeD 22 (some 115) (.bool false) rfl rfl (by kernel_rfl) (by kernel_rfl) (by kernel_rfl) (by kernel_rfl) (fun _ _ _ h => h) (Or.inl ⟨by kernel_rfl, fun wx hSw => by obtain ⟨q1, q2, q3, q4⟩ := hSw; go_simp⟩) hS ?_
          simp only [Act.put, List.setIfInBounds_toArray, List.set_cons_zero, List.set_cons_succ]
          refine takeD 23 (some 116) undef rfl rfl (by kernel_rfl) (by kernel_rfl) (by kernel_rfl) (by kernel_rfl) (fun _ _ _ h => h) (Or.inr ⟨by kernel_rfl, rfl⟩) hS ?_
          simp only [Act.put, List.setIfInBounds_toArray, List.set_cons_zero, List.set_cons_succ]
          refine takeD 24 (some 117) undef rfl rfl (by kernel_rfl) (by kernel_rfl) (by kernel_rfl) (by kernel_rfl) (fun _ _ _ h => h) (Or.inr ⟨by kernel_rfl, rfl⟩) hS ?_
          simp only [Act.put, List.setIfInBounds_toArray, List.set_cons_zero, List.set_cons_succ]
          refine takeD 25 (some 118) undef rfl rfl (by kernel_rfl) (by kernel_rfl) (by kernel_rfl) (by kernel_rfl) (fun _ _ _ h => h) (Or.inr ⟨by kernel_rfl, rfl⟩) hS ?_
          simp only [Act.put, List.setIfInBounds_toArray, List.set_cons_zero, List.set_cons_succ]
          refine takeD 26 (some 119) undef rfl rfl (by kernel_rfl) (by kernel_rfl) (by kernel_rfl) (by kernel_rfl) (fun _ _ _ h => h) (Or.inr ⟨by kernel_rfl, rfl⟩) hS ?_
          simp only [Act.put, List.setIfInBounds_toArray, List.set_cons_zero, List.set_cons_succ]
          refine takeD 27 (some 120) undef rfl rfl (by kernel_rfl) (by kernel_rfl) (by kernel_rfl) (by kernel_rfl) (fun _ _ _ h => h) (Or.inr ⟨by kernel_rfl, rfl⟩) hS ?_
          simp only [Act.put, List.setIfInBounds_toArray, List.set_cons_zero, List.set_cons_succ]
          refine takeD 28 (some 121) undef rfl rfl (by kernel_rfl) (by kernel_rfl) (by kernel_rfl) (by kernel_rfl) (fun _ _ _ h => h) (Or.inr ⟨by kernel_rfl, rfl⟩) hS ?_
          simp only [Act.put, List.setIfInBounds_toArray, List.set_cons_zero, List.set_cons_succ]
          refine takeD 29 (some 122) undef rfl rfl (by kernel_rfl) (by kernel_rfl) (by kernel_rfl) (by kernel_rfl) (fun _ _ _ h => h) (Or.inr ⟨by kernel_rfl, rfl⟩) hS ?_
          simp only [Act.put, List.setIfInBounds_toArray, List.set_cons_zero, List.set_cons_succ]
          refine takeD 30 (some 123) undef rfl rfl (by kernel_rfl) (by kernel_rfl) (by kernel_rfl) (by kernel_rfl) (fun _ _ _ h => h) (Or.inr ⟨by kernel_rfl, rfl⟩) hS ?_
          simp only [Act.put, List.setIfInBounds_toArray, List.set_cons_zero, List.set_cons_succ]
          refine takeD 31 (some 124) (.bool false) rfl rfl (by kernel_rfl) (by kernel_rfl) (by kernel_rfl) (by kernel_rfl) (fun _ _ _ h => h) (Or.inl ⟨by kernel_rfl, fun wx hSw => by obtain ⟨q1, q2, q3, q4⟩ := hSw; go_simp⟩) hS ?_
          simp only [Act.put, List.setIfInBounds_toArray, List.set_cons_zero, List.set_cons_succ]
          refine oneT 32 (by kernel_rfl) rfl (fun K hK => ?_)
          go_simp
          refine hK.out _ _ (fun _ => hS) ?_
          clear hK K
          refine doneT (by kernel_rfl) ?_ _
          have hMe := hkeep wg hbg
          have hSg := hSf.below hbg hSf.lt
          have hRg := hR4f.call hbg
          have hng := hnf.call hbg
          have hbw := c_call hbf hbg
          have hids := hng.sh.hids
          have hmx := Nat.le_trans hng.sh.hci hng.sh.hmi
          rw [maxLen] at hmx
          clear hS hkeep hcc hMe hSf hR4f hnf hbf hbg hun hzz
          have q0 := hsc wg hRg
          go_wp2_with fail
          clear q0
          go_loopw [129] (fun i wz => ∃ q : Nat, q ≤ 0 ∧ i = .int .i64 (q : Int) ∧ wz = wg) (fun i _ => 0 - (intOf i).toNat)
          case atStart => exact ⟨0, by omega, rfl, rfl⟩
          case round =>
            obtain ⟨q, hq, rfl, hwe⟩ := hrel
            subst hwe
            by_cases hq1 : q < 0
            · exact absurd hq1 (Nat.not_lt_zero _)
            · obtain rfl : q = 0 := by omega
              go_wp2_with fail
              go_roundw
              case rel => exact ⟨j + 1, Ai', _, ci', Al', nl', cl', ids', ll', by have := Hlt.out; omega, by go_num, hbw, (by rw [← Hsv'.out]; exact hRg), hSg, hng, hck'⟩
              case measure => have := Hlt.out; simp [intOf]; omega
        · have n2 : decide (0 < ni') = true := decide_eq_true (by omega)
          have n4 : (0 : Int) < (ni' : Int) := by omega
          have hp := lvOK_high _ _ (chkT_lv hck').2.2.1 (by rw [Hni.out]; omega)
          rw [lvN_len, Hnl.out, Hni.out] at hp
          have n5 : ¬ (ni' : Int) < (2 : Int) ^ nl' := by
            have : ((2 ^ nl' : Nat) : Int) ≤ (ni' : Int) := by exact_mod_cast hp
            rw [Int.natCast_pow] at this
            have e : ((2 : Nat) : Int) = 2 := rfl
            rw [e] at this
            omega
          have n6 : IntKind.i64.wrap ((2 : Int) ^ nl') = (2 : Int) ^ nl' := shl_small nl' hhi
          refine beginT (fun wx => wx.rangeAt g4 0 sv'.toList ∧ wx.cell? ⟨g4, 0, none⟩ = some (.slice Ai' ni' ci') ∧ wx.cell? ⟨g4, 1, none⟩ = some (.slice Al' nl' cl') ∧ ∀ ty, (Builtin.len_ #[45] ty #[.map (some (g4 + 1))]).run Try.prog wx = .ok (.int .i64 ((ni' : Nat) : Int)) wx) 33 (by kernel_rfl) ?_
          have hS := hkeep _ (c_drew (c_refl _))
          refine loadT 0 (some 93) 25 (.tmp 4) g4 0 sv'.toList rfl rfl (by kernel_rfl) (by kernel_rfl) (by kernel_rfl) (by kernel_rfl) rfl (by kernel_rfl) rfl (fun wx hSw => hSw.1) hun rfl hzz (fun _ _ _ h => h) hS ?_
          simp only [Act.put, List.setIfInBounds_toArray, List.set_cons_zero, List.set_cons_succ]
          refine oneT 1 (by kernel_rfl) rfl (fun K hK => ?_)
          go_simp
          refine (hcc _ (c_drew (c_refl _))).mono ?_
          rintro e wg ⟨rfl, hbg⟩
          have hbg := c_call (c_drew (c_refl wf)) hbg
          refine hK.out _ _ (fun _ => hkeep _ hbg) ?_
          clear hK K
          have hS := hkeep _ hbg
          refine takeD 2 (some 95) (.bool false) rfl rfl (by kernel_rfl) (by kernel_rfl) (by kernel_rfl) (by kernel_rfl) (fun _ _ _ h => h) (Or.inl ⟨by kernel_rfl, fun wx hSw => by obtain ⟨q1, q2, q3, q4⟩ := hSw; go_simp⟩) hS ?_
          simp only [Act.put, List.setIfInBounds_toArray, List.set_cons_zero, List.set_cons_succ]
          refine takeD 3 (some 96) (.bool false) rfl rfl (by kernel_rfl) (by kernel_rfl) (by kernel_rfl) (by kernel_rfl) (fun _ _ _ h => h) (Or.inl ⟨by kernel_rfl, fun wx hSw => by obtain ⟨q1, q2, q3, q4⟩ := hSw; go_simp⟩) hS ?_
          simp only [Act.put, List.setIfInBounds_toArray, List.set_cons_zero, List.set_cons_succ]
          refine takeD 4 (some 97) (.pointer (some ⟨g4, 0, none⟩)) rfl rfl (by kernel_rfl) (by kernel_rfl) (by kernel_rfl) (by kernel_rfl) (fun _ _ _ h => h) (Or.inl ⟨by kernel_rfl, fun wx hSw => by obtain ⟨q1, q2, q3, q4⟩ := hSw; go_simp⟩) hS ?_
          simp only [Act.put, List.setIfInBounds_toArray, List.set_cons_zero, List.set_cons_succ]
          refine takeD 5 (some 98) (.slice Ai' ni' ci') rfl rfl (by kernel_rfl) (by kernel_rfl) (by kernel_rfl) (by kernel_rfl) (fun _ _ _ h => h) (Or.inl ⟨by kernel_rfl, fun wx hSw => by obtain ⟨q1, q2, q3, q4⟩ := hSw; go_simp⟩) hS ?_
          simp only [Act.put, List.setIfInBounds_toArray, List.set_cons_zero, List.set_cons_succ]
          refine takeD 6 (some 99) (.int .i64 (ni' : Int)) rfl rfl (by kernel_rfl) (by kernel_rfl) (by kernel_rfl) (by kernel_rfl) (fun _ _ _ h => h) (Or.inl ⟨by kernel_rfl, fun wx hSw => by obtain ⟨q1, q2, q3, q4⟩ := hSw; go_simp⟩) hS ?_
          simp only [Act.put, List.setIfInBounds_toArray, List.set_cons_zero, List.set_cons_succ]
          refine takeD 7 (some 100) (.map (some (g4 + 1))) rfl rfl (by kernel_rfl) (by kernel_rfl) (by kernel_rfl) (by kernel_rfl) (fun _ _ _ h => h) (Or.inl ⟨by kernel_rfl, fun wx hSw => by obtain ⟨q1, q2, q3, q4⟩ := hSw; go_simp⟩) hS ?_
          simp only [Act.put, List.setIfInBounds_toArray, List.set_cons_zero, List.set_cons_succ]
          refine takeD 8 (some 101) (.int .i64 (ni' : Int)) rfl rfl (by kernel_rfl) (by kernel_rfl) (by kernel_rfl) (by kernel_rfl) (fun _ _ _ h => h) (Or.inl ⟨by kernel_rfl, fun wx hSw => by obtain ⟨q1, q2, q3, q4⟩ := hSw; go_simp⟩) hS ?_
          simp only [Act.put, List.setIfInBounds_toArray, List.set_cons_zero, List.set_cons_succ]
          refine takeD 9 (some 102) (.bool false) rfl rfl (by kernel_rfl) (by kernel_rfl) (by kernel_rfl) (by kernel_rfl) (fun _ _ _ h => h) (Or.inl ⟨by kernel_rfl, fun wx hSw => by obtain ⟨q1, q2, q3, q4⟩ := hSw; go_simp⟩) hS ?_
          simp only [Act.put, List.setIfInBounds_toArray, List.set_cons_zero, List.set_cons_succ]
          refine takeD 10 (some 103) (.bool false) rfl rfl (by kernel_rfl) (by kernel_rfl) (by kernel_rfl) (by kernel_rfl) (fun _ _ _ h => h) (Or.inl ⟨by kernel_rfl, fun wx hSw => by obtain ⟨q1, q2, q3, q4⟩ := hSw; go_simp⟩) hS ?_
          simp only [Act.put, List.setIfInBounds_toArray, List.set_cons_zero, List.set_cons_succ]
          refine takeD 11 (some 104) (.bool false) rfl rfl (by kernel_rfl) (by kernel_rfl) (by kernel_rfl) (by kernel_rfl) (fun _ _ _ h => h) (Or.inl ⟨by kernel_rfl, fun wx hSw => by obtain ⟨q1, q2, q3, q4⟩ := hSw; go_simp⟩) hS ?_
          simp only [Act.put, List.setIfInBounds_toArray, List.set_cons_zero, List.set_cons_succ]
          refine takeD 12 (some 105) (.pointer (some ⟨g4, 1, none⟩)) rfl rfl (by kernel_rfl) (by kernel_rfl) (by kernel_rfl) (by kernel_rfl) (fun _ _ _ h => h) (Or.inl ⟨by kernel_rfl, fun wx hSw => by obtain ⟨q1, q2, q3, q4⟩ := hSw; go_simp⟩) hS ?_
          simp only [Act.put, List.setIfInBounds_toArray, List.set_cons_zero, List.set_cons_succ]
          refine takeD 13 (some 106) (.slice Al' nl' cl') rfl rfl (by kernel_rfl) (by kernel_rfl) (by kernel_rfl) (by kernel_rfl) (fun _ _ _ h => h) (Or.inl ⟨by kernel_rfl, fun wx hSw => by obtain ⟨q1, q2, q3, q4⟩ := hSw; go_simp⟩) hS ?_
          simp only [Act.put, List.setIfInBounds_toArray, List.set_cons_zero, List.set_cons_succ]
          refine takeD 14 (some 107) (.int .i64 (nl' : Int)) rfl rfl (by kernel_rfl) (by kernel_rfl) (by kernel_rfl) (by kernel_rfl) (fun _ _ _ h => h) (Or.inl ⟨by kernel_rfl, fun wx hSw => by obtain ⟨q1, q2, q3, q4⟩ := hSw; go_simp⟩) hS ?_
          simp only [Act.put, List.setIfInBounds_toArray, List.set_cons_zero, List.set_cons_succ]
          refine takeD 15 (some 108) (.bool false) rfl rfl (by kernel_rfl) (by kernel_rfl) (by kernel_rfl) (by kernel_rfl) (fun _ _ _ h => h) (Or.inl ⟨by kernel_rfl, fun wx hSw => by obtain ⟨q1, q2, q3, q4⟩ := hSw; go_simp⟩) hS ?_
          simp only [Act.put, List.setIfInBounds_toArray, List.set_cons_zero, List.set_cons_succ]
          refine takeD 16 (some 109) (.bool false) rfl rfl (by kernel_rfl) (by kernel_rfl) (by kernel_rfl) (by kernel_rfl) (fun _ _ _ h => h) (Or.inl ⟨by kernel_rfl, fun wx hSw => by obtain ⟨q1, q2, q3, q4⟩ := hSw; go_simp⟩) hS ?_
          simp only [Act.put, List.setIfInBounds_toArray, List.set_cons_zero, List.set_cons_succ]
          refine takeD 17 (some 110) (.bool false) rfl rfl (by kernel_rfl) (by kernel_rfl) (by kernel_rfl) (by kernel_rfl) (fun _ _ _ h => h) (Or.inl ⟨by kernel_rfl, fun wx hSw => by obtain ⟨q1, q2, q3, q4⟩ := hSw; go_simp⟩) hS ?_
          simp only [Act.put, List.setIfInBounds_toArray, List.set_cons_zero, List.set_cons_succ]
          refine takeD 18 (some 111) (.pointer (some ⟨g4, 0, none⟩)) rfl rfl (by kernel_rfl) (by kernel_rfl) (by kernel_rfl) (by kernel_rfl) (fun _ _ _ h => h) (Or.inl ⟨by kernel_rfl, fun wx hSw => by obtain ⟨q1, q2, q3, q4⟩ := hSw; go_simp⟩) hS ?_
          simp only [Act.put, List.setIfInBounds_toArray, List.set_cons_zero, List.set_cons_succ]
          refine takeD 19 (some 112) (.slice Ai' ni' ci') rfl rfl (by kernel_rfl) (by kernel_rfl) (by kernel_rfl) (by kernel_rfl) (fun _ _ _ h => h) (Or.inl ⟨by kernel_rfl, fun wx hSw => by obtain ⟨q1, q2, q3, q4⟩ := hSw; go_simp⟩) hS ?_
          simp only [Act.put, List.setIfInBounds_toArray, List.set_cons_zero, List.set_cons_succ]
          refine takeD 20 (some 113) (.int .i64 (ni' : Int)) rfl rfl (by kernel_rfl) (by kernel_rfl) (by kernel_rfl) (by kernel_rfl) (fun _ _ _ h => h) (Or.inl ⟨by kernel_rfl, fun wx hSw => by obtain ⟨q1, q2, q3, q4⟩ := hSw; go_simp⟩) hS ?_
          simp only [Act.put, List.setIfInBounds_toArray, List.set_cons_zero, List.set_cons_succ]
          refine takeD 21 (some 114) (.bool true) rfl rfl (by kernel_rfl) (by kernel_rfl) (by kernel_rfl) (by kernel_rfl) (fun _ _ _ h => h) (Or.inl ⟨by kernel_rfl, fun wx hSw => by obtain ⟨q1, q2, q3, q4⟩ := hSw; go_simp⟩) hS ?_
          simp only [Act.put, List.setIfInBounds_toArray, List.set_cons_zero, List.set_cons_succ]
          refine takeD 22 (some 115) (.bool true) rfl rfl (by kernel_rfl) (by kernel_rfl) (by kernel_rfl) (by kernel_rfl) (fun _ _ _ h => h) (Or.inl ⟨by kernel_rfl, fun wx hSw => by obtain ⟨q1, q2, q3, q4⟩ := hSw; go_simp⟩) hS ?_
          simp only [Act.put, List.setIfInBounds_toArray, List.set_cons_zero, List.set_cons_succ]
          refine takeD 23 (some 116) (.pointer (some ⟨g4, 1, none⟩)) rfl rfl (by kernel_rfl) (by kernel_rfl) (by kernel_rfl) (by kernel_rfl) (fun _ _ _ h => h) (Or.inl ⟨by kernel_rfl, fun wx hSw => by obtain ⟨q1, q2, q3, q4⟩ := hSw; go_simp⟩) hS ?_
          simp only [Act.put, List.setIfInBounds_toArray, List.set_cons_zero, List.set_cons_succ]
          refine takeD 24 (some 117) (.slice Al' nl' cl') rfl rfl (by kernel_rfl) (by kernel_rfl) (by kernel_rfl) (by kernel_rfl) (fun _ _ _ h => h) (Or.inl ⟨by kernel_rfl, fun wx hSw => by obtain ⟨q1, q2, q3, q4⟩ := hSw; go_simp⟩) hS ?_
          simp only [Act.put, List.setIfInBounds_toArray, List.set_cons_zero, List.set_cons_succ]
          refine takeD 25 (some 118) (.int .i64 (nl' : Int)) rfl rfl (by kernel_rfl) (by kernel_rfl) (by kernel_rfl) (by kernel_rfl) (fun _ _ _ h => h) (Or.inl ⟨by kernel_rfl, fun wx hSw => by obtain ⟨q1, q2, q3, q4⟩ := hSw; go_simp⟩) hS ?_
          simp only [Act.put, List.setIfInBounds_toArray, List.set_cons_zero, List.set_cons_succ]
          refine takeD 26 (some 119) (.int .i64 ((2 : Int) ^ nl')) rfl rfl (by kernel_rfl) (by kernel_rfl) (by kernel_rfl) (by kernel_rfl) (fun _ _ _ h => h) (Or.inl ⟨by kernel_rfl, fun wx hSw => by obtain ⟨q1, q2, q3, q4⟩ := hSw; go_simp⟩) hS ?_
          simp only [Act.put, List.setIfInBounds_toArray, List.set_cons_zero, List.set_cons_succ]
          refine takeD 27 (some 120) (.pointer (some ⟨g4, 0, none⟩)) rfl rfl (by kernel_rfl) (by kernel_rfl) (by kernel_rfl) (by kernel_rfl) (fun _ _ _ h => h) (Or.inl ⟨by kernel_rfl, fun wx hSw => by obtain ⟨q1, q2, q3, q4⟩ := hSw; go_simp⟩) hS ?_
          simp only [Act.put, List.setIfInBounds_toArray, List.set_cons_zero, List.set_cons_succ]
          refine takeD 28 (some 121) (.slice Ai' ni' ci') rfl rfl (by kernel_rfl) (by kernel_rfl) (by kernel_rfl) (by kernel_rfl) (fun _ _ _ h => h) (Or.inl ⟨by kernel_rfl, fun wx hSw => by obtain ⟨q1, q2, q3, q4⟩ := hSw; go_simp⟩) hS ?_
          simp only [Act.put, List.setIfInBounds_toArray, List.set_cons_zero, List.set_cons_succ]
          refine takeD 29 (some 122) (.int .i64 (ni' : Int)) rfl rfl (by kernel_rfl) (by kernel_rfl) (by kernel_rfl) (by kernel_rfl) (fun _ _ _ h => h) (Or.inl ⟨by kernel_rfl, fun wx hSw => by obtain ⟨q1, q2, q3, q4⟩ := hSw; go_simp⟩) hS ?_
          simp only [Act.put, List.setIfInBounds_toArray, List.set_cons_zero, List.set_cons_succ]
          refine takeD 30 (some 123) (.bool false) rfl rfl (by kernel_rfl) (by kernel_rfl) (by kernel_rfl) (by kernel_rfl) (fun _ _ _ h => h) (Or.inl ⟨by kernel_rfl, fun wx hSw => by obtain ⟨q1, q2, q3, q4⟩ := hSw; go_simp⟩) hS ?_
          simp only [Act.put, List.setIfInBounds_toArray, List.set_cons_zero, List.set_cons_succ]
          refine takeD 31 (some 124) (.bool false) rfl rfl (by kernel_rfl) (by kernel_rfl) (by kernel_rfl) (by kernel_rfl) (fun _ _ _ h => h) (Or.inl ⟨by kernel_rfl, fun wx hSw => by obtain ⟨q1, q2, q3, q4⟩ := hSw; go_simp⟩) hS ?_
          simp only [Act.put, List.setIfInBounds_toArray, List.set_cons_zero, List.set_cons_succ]
          refine oneT 32 (by kernel_rfl) rfl (fun K hK => ?_)
          go_simp
          refine hK.out _ _ (fun _ => hS) ?_
          clear hK K
          refine doneT (by kernel_rfl) ?_ _
          have hMe := hkeep wg hbg
          have hSg := hSf.below hbg hSf.lt
          have hRg := hR4f.call hbg
          have hng := hnf.call hbg
          have hbw := c_call hbf hbg
          have hids := hng.sh.hids
          have hmx := Nat.le_trans hng.sh.hci hng.sh.hmi
          rw [maxLen] at hmx
          clear hS hkeep hcc hMe hSf hR4f hnf hbf hbg hun hzz hn0
          have q0 := hsc wg hRg
          go_wp2_with fail
          clear q0
          go_loopw [129] (fun i wz => ∃ q : Nat, q ≤ ni' ∧ i = .int .i64 (q : Int) ∧ wz = wg) (fun i _ => ni' - (intOf i).toNat)
          case atStart => exact ⟨0, by omega, rfl, rfl⟩
          case round =>
            obtain ⟨q, hq, rfl, hwe⟩ := hrel
            subst hwe
            by_cases hq1 : q < ni'
            · have hql : q < ids'.length := by rw [Hni.out]; exact hq1
              obtain ⟨b', o', rfl, hbb', hcell⟩ := hids.pos (by omega)
              have c1 := hcell q (iv ids'[q]) (by rw [List.getElem?_map, List.getElem?_eq_getElem hql]; rfl)
              rw [iv_def] at c1
              have hmem := List.getElem_mem hql
              have hyr := okI_mem (chkT_lv hck').2.1 _ hmem
              have hlk := hSg.look (x := ids'[q]) ⟨by omega, by omega⟩
              rw [decide_eq_true hmem] at hlk
              have b0 : (0 : Int) ≤ (q : Int) := by omega
              have b1 : (q : Int) < (ni' : Int) := by omega
              clear hcell hmem hyr
              generalize ids'[q] = y at *
              go_wp2_with fail
              go_roundw
              case rel => exact ⟨q + 1, by omega, by go_num, trivial⟩
              case measure => simp [intOf]; omega
            · obtain rfl : q = ni' := by omega
              go_wp2_with fail
              go_roundw
              case rel => exact ⟨j + 1, Ai', _, ci', Al', nl', cl', ids', ll', by have := Hlt.out; omega, by go_num, hbw, (by rw [← Hsv'.out]; exact hRg), hSg, hng, hck'⟩
              case measure => have := Hlt.out; simp [intOf]; omega
      · have hcl := hD Ai ni ci Al nl cl ids ll id wb hsb hfw
        go_wp2_with ((with_reducible show wpList _ _ _ (⟨some 32, _, _, _, _, _⟩ :: _) _ _); refine wpList_loadC (by kernel_rfl) 25 (.tmp 4) rfl (g4) rfl 25 (shV Ai ni ci Al nl cl) _ (hR4b) Try.underlying25 rfl Hsz.out ?_)
        refine hcl.mono ?_
        intro e w6 hP
        obtain ⟨hb6, Ai', ni', ci', Al', nl', cl', rfl, hn⟩ := hP.shape2
        have hbc := hbb.trans (hb6.mono (Nat.le_trans (Nat.le_of_lt hltb) (Nat.le_of_lt hR8.lt)))
        have hbc := below_setRow hbc (Nat.le_of_lt hltb) (shV Ai' ni' ci' Al' nl' cl')
        have hR7c := ((hR7.call hb6).rowFar (g' := g8) (by omega) (shV Ai' ni' ci' Al' nl' cl'))
        have hR8b := hR8.call hb6
        have hR8c := hR8b.row (shV Ai' ni' ci' Al' nl' cl')
        have hn := (hn.box hR8.lt (shV Ai' ni' ci' Al' nl' cl')).mono (show g4 + 2 ≤ wb.heap.size from hLO)
        rw [← size_setRowT w6 g8 (shV Ai' ni' ci' Al' nl' cl')] at hn
        clear hcl hP hb6 k0 k1 hsb hR4b
        go_upto_region 16 with first | ((with_reducible show wpList _ _ _ (⟨some 32, _, _, _, _, _⟩ :: _) _ _); refine wpList_loadC (by kernel_rfl) 25 (.tmp 4) rfl (g4) rfl 25 (shV Ai ni ci Al nl cl) _ (hR4b) Try.underlying25 rfl Hsz.out ?_) | ((with_reducible show wpList _ _ _ (⟨none, Op.store 25 _ _, _, _, _, _⟩ :: _) _ _); refine wpList_store_row rfl 25 (.tmp 8) (.tmp 36) rfl (g8) (shV Ai' ni' ci' Al' nl' cl') rfl rfl 25 _ (hR8b) (sizeSh _ _ _ _ _ _) rfl (one_sh _ _ _ _ _ _) ?_)
        try simp only [Act.put]
        refine wp_gen (fun wx => Below g7 wr wx ∧ RowC wx g7 47 #[iv id, .bool true] ∧ RowC wx g8 25 (shV Ai' ni' ci' Al' nl' cl') ∧ ShN (g4 + 2) wx wx.heap.size Ai' ni' ci' Al' nl' cl' (delR ids ll id).1 (delR ids ll id).2) ⟨hbc, hR7c, hR8c, hn⟩ ?_
        clear hbc hR7c hR8c hn hR8b hR7 hR8 hbb hbb'
        rintro wc ⟨hbc, hR7, hR8, hn⟩
        rw [Hg7.out] at hbc
        have hshc := hsh.call hbc
        have hSetc := hSet.below hbc hSet.lt
        have hR4c := hR4.call hbc
        have hbw := c_call hb hbc
        have k0 := hR7.cell (i := 0) (v := .int .i64 id) rfl
        have k1 := hR7.cell (i := 1) (v := .bool true) rfl
        have hlk := hSetc.look hx64
        clear hsh hSet hR4 hb hbc
        by_cases hin : id ∈ ids
        rotate_left
        · rw [delE_not hck hin]
          rw [decide_eq_false hin] at hlk
          clear hn
          go_wp2_with fail
          go_roundw
          case rel => exact ⟨j + 1, Ai, ni, ci, Al, nl, cl, ids, ll, by omega, by go_num, hbw, hR4c, hSetc.more (by omega), hshc, hck⟩
          case measure => simp [intOf]; omega
        have he := delE_mk hck hin
        rw [delR, if_pos he] at hn
        obtain ⟨e1, _, hck'⟩ := del_chk he
        have hrs := okI_rise _ (chkT_lv hck).2.1
        rw [he]
        rw [decide_eq_true hin] at hlk
        obtain ⟨wd, hrun, hSd0, hgd⟩ := hSetc.del hx64 hin (s' := (delS ids (lvN ll) id).1) (by have := bel_lt hrs hin; rw [e1, List.length_eraseIdx, if_pos this]; omega) (fun y => by rw [e1]; exact mem_erase hrs hin) 0
        have hSd := hSd0.more (Nat.le_succ j)
        clear he e1 hSd0
        generalize (delS ids (lvN ll) id).1 = ids' at *
        generalize levI (delS ids (lvN ll) id).2 = ll' at *
        have hR4d := hR4c.grownT hgd (fun k hk => by injection hk with hk; omega)
        have hR8d := hR8.grownT hgd (fun k hk => by injection hk with hk; omega)
        have hnd := hn.turned hgd (by omega)
        have hbd := hbw.grown hgd hbw.size (fun k hk => by injection hk with hk; omega)
        go_upto_region 29 with fail
        try simp only [Act.put]
        refine wp_gen (fun wx => Below w.heap.size w wx ∧ RowC wx g4 25 (shV Ai ni ci Al nl cl) ∧ RowC wx g8 25 (shV Ai' ni' ci' Al' nl' cl') ∧ ShN (g4 + 2) wx wx.heap.size Ai' ni' ci' Al' nl' cl' ids' ll' ∧ SetM wx (g4 + 1) (j + 1) ids') ⟨hbd, hR4d, hR8d, hnd, hSd⟩ ?_
        clear hR4d hR8d hnd hbd hSd hrun hgd hR4c hR8 hR7 hn hbw hshc hSetc k0 k1 hlk hrs
        rintro we ⟨hbe, hR4e, hR8e, hne, hSe⟩
        have Hsz' := Lib.hid (sizeSh Ai' ni' ci' Al' nl' cl')
        have hbf := below_setRow hbe (show w.heap.size ≤ g4 by omega) (shV Ai' ni' ci' Al' nl' cl')
        have hR4f := hR4e.row (shV Ai' ni' ci' Al' nl' cl')
        have hnf := hne.box (show g4 < g4 + 2 by omega) (shV Ai' ni' ci' Al' nl' cl')
        rw [← size_setRowT we g4 (shV Ai' ni' ci' Al' nl' cl')] at hnf
        have hSf := hSe.row (show g4 + 1 ≠ g4 by omega) (shV Ai' ni' ci' Al' nl' cl')
        go_upto_region 30 with first | ((with_reducible show wpList _ _ _ (⟨some 92, _, _, _, _, _⟩ :: _) _ _); refine wpList_loadC (by kernel_rfl) 25 (.tmp 8) rfl (g8) rfl 25 (shV Ai' ni' ci' Al' nl' cl') _ (hR8e) Try.underlying25 rfl Hsz'.out ?_) | ((with_reducible show wpList _ _ _ (⟨none, Op.store 25 _ _, _, _, _, _⟩ :: _) _ _); refine wpList_store_row rfl 25 (.tmp 4) (.tmp 92) rfl (g4) (shV Ai' ni' ci' Al' nl' cl') rfl rfl 25 _ (hR4e) (sizeSh _ _ _ _ _ _) rfl (one_sh _ _ _ _ _ _) ?_)
        try simp only [Act.put]
        refine wp_gen (fun wx => Below w.heap.size w wx ∧ RowC wx g4 25 (shV Ai' ni' ci' Al' nl' cl') ∧ ShN (g4 + 2) wx wx.heap.size Ai' ni' ci' Al' nl' cl' ids' ll' ∧ SetM wx (g4 + 1) (j + 1) ids') ⟨hbf, hR4f, hnf, hSf⟩ ?_
        clear hbf hR4f hnf hSf hbe hR4e hR8e hne hSe
        rintro wf ⟨hbf, hR4f, hnf, hSf⟩
        obtain ⟨sv', hsv'⟩ : ∃ sv', sv' = shV Ai' ni' ci' Al' nl' cl' := ⟨_, rfl⟩
        have hcc := fun wx (hb : Below wf.heap.size wf wx) => hC Ai' ni' ci' Al' nl' cl' ids' ll' wx ((hnf.call hb).sh) (few_of_chk hck')
        rw [chkE, if_pos hck'] at hcc
        have Hni := Lib.hid hnf.sh.hni
        have Hnl := Lib.hid hnf.sh.hnl
        have hfl := few_len (few_of_chk hck')
        rw [Hni.out, Hnl.out] at hfl
        have hhi := lv_high hck'
        rw [lvN_len, Hnl.out] at hhi
        have hkeep : ∀ wx : World, Below wf.heap.size wf wx → wx.rangeAt g4 0 sv'.toList ∧ wx.cell? ⟨g4, 0, none⟩ = some (.slice Ai' ni' ci') ∧ wx.cell? ⟨g4, 1, none⟩ = some (.slice Al' nl' cl') ∧ ∀ ty, (Builtin.len_ #[45] ty #[.map (some (g4 + 1))]).run Try.prog wx = .ok (.int .i64 (ni' : Int)) wx := fun wx hb => by
          have h4 := hR4f.call hb
          refine ⟨by rw [hsv']; exact h4.range, h4.cell (i := 0) rfl, h4.cell (i := 1) rfl, fun ty => ?_⟩
          rw [(hSf.below hb hSf.lt).len ty, Hni.out]
        have hsc := fun wx (hR : RowC wx g4 25 (shV Ai' ni' ci' Al' nl' cl')) => hR.cell (i := 0) (v := .slice Ai' ni' ci') rfl
        rw [← hsv'] at hR4f Hsz' hcc hsc ⊢
        have Hsv' := Lib.hid hsv'
        clear hsv'
        have hun := Try.underlying25
        have hzz : (Try.prog.info? 25).map (·.size) = some sv'.toList.length := by simpa using Hsz'.out
        have n1 : decide (20 < nl') = false := decide_eq_false (by omega)
        have n3 : (nl' : Int) ≤ 20 := by omega
        by_cases hn0 : ni' = 0
        · subst hn0
          refine beginT (fun wx => wx.rangeAt g4 0 sv'.toList ∧ wx.cell? ⟨g4, 0, none⟩ = some (.slice Ai' 0 ci') ∧ wx.cell? ⟨g4, 1, none⟩ = some (.slice Al' nl' cl') ∧ ∀ ty, (Builtin.len_ #[45] ty #[.map (some (g4 + 1))]).run Try.prog wx = .ok (.int .i64 ((0 : Nat) : Int)) wx) 33 (by kernel_rfl) ?_
          have hS := hkeep _ (c_drew (c_refl _))
          refine loadT 0 (some 93) 25 (.tmp 4) g4 0 sv'.toList rfl rfl (by kernel_rfl) (by kernel_rfl) (by kernel_rfl) (by kernel_rfl) rfl (by kernel_rfl) rfl (fun wx hSw => hSw.1) hun rfl hzz (fun _ _ _ h => h) hS ?_
          simp only [Act.put, List.setIfInBounds_toArray, List.set_cons_zero, List.set_cons_succ]
          refine oneT 1 (by kernel_rfl) rfl (fun K hK => ?_)
          go_simp
          refine (hcc _ (c_drew (c_refl _))).mono ?_
          rintro e wg ⟨rfl, hbg⟩
          have hbg := c_call (c_drew (c_refl wf)) hbg
          refine hK.out _ _ (fun _ => hkeep _ hbg) ?_
          clear hK K
          have hS := hkeep _ hbg
          refine takeD 2 (some 95) (.bool false) rfl rfl (by kernel_rfl) (by kernel_rfl) (by kernel_rfl) (by kernel_rfl) (fun _ _ _ h => h) (Or.inl ⟨by kernel_rfl, fun wx hSw => by obtain ⟨q1, q2, q3, q4⟩ := hSw; go_simp⟩) hS ?_
          simp only [Act.put, List.setIfInBounds_toArray, List.set_cons_zero, List.set_cons_succ]
          refine takeD 3 (some 96) (.bool false) rfl rfl (by kernel_rfl) (by kernel_rfl) (by kernel_rfl) (by kernel_rfl) (fun _ _ _ h => h) (Or.inl ⟨by kernel_rfl, fun wx hSw => by obtain ⟨q1, q2, q3, q4⟩ := hSw; go_simp⟩) hS ?_
          simp only [Act.put, List.setIfInBounds_toArray, List.set_cons_zero, List.set_cons_succ]
          refine takeD 4 (some 97) (.pointer (some ⟨g4, 0, none⟩)) rfl rfl (by kernel_rfl) (by kernel_rfl) (by kernel_rfl) (by kernel_rfl) (fun _ _ _ h => h) (Or.inl ⟨by kernel_rfl, fun wx hSw => by obtain ⟨q1, q2, q3, q4⟩ := hSw; go_simp⟩) hS ?_
          simp only [Act.put, List.setIfInBounds_toArray, List.set_cons_zero, List.set_cons_succ]
          refine takeD 5 (some 98) (.slice Ai' 0 ci') rfl rfl (by kernel_rfl) (by kernel_rfl) (by kernel_rfl) (by kernel_rfl) (fun _ _ _ h => h) (Or.inl ⟨by kernel_rfl, fun wx hSw => by obtain ⟨q1, q2, q3, q4⟩ := hSw; go_simp⟩) hS ?_
          simp only [Act.put, List.setIfInBounds_toArray, List.set_cons_zero, List.set_cons_succ]
          refine takeD 6 (some 99) (.int .i64 (0 : Int)) rfl rfl (by kernel_rfl) (by kernel_rfl) (by kernel_rfl) (by kernel_rfl) (fun _ _ _ h => h) (Or.inl ⟨by kernel_rfl, fun wx hSw => by obtain ⟨q1, q2, q3, q4⟩ := hSw; go_simp⟩) hS ?_
          simp only [Act.put, List.setIfInBounds_toArray, List.set_cons_zero, List.set_cons_succ]
          refine takeD 7 (some 100) (.map (some (g4 + 1))) rfl rfl (by kernel_rfl) (by kernel_rfl) (by kernel_rfl) (by kernel_rfl) (fun _ _ _ h => h) (Or.inl ⟨by kernel_rfl, fun wx hSw => by obtain ⟨q1, q2, q3, q4⟩ := hSw; go_simp⟩) hS ?_
          simp only [Act.put, List.setIfInBounds_toArray, List.set_cons_zero, List.set_cons_succ]
          refine takeD 8 (some 101) (.int .i64 (0 : Int)) rfl rfl (by kernel_rfl) (by kernel_rfl) (by kernel_rfl) (by kernel_rfl) (fun _ _ _ h => h) (Or.inl ⟨by kernel_rfl, fun wx hSw => by obtain ⟨q1, q2, q3, q4⟩ := hSw; go_simp⟩) hS ?_
          simp only [Act.put, List.setIfInBounds_toArray, List.set_cons_zero, List.set_cons_succ]
          refine takeD 9 (some 102) (.bool false) rfl rfl (by kernel_rfl) (by kernel_rfl) (by kernel_rfl) (by kernel_rfl) (fun _ _ _ h => h) (Or.inl ⟨by kernel_rfl, fun wx hSw => by obtain ⟨q1, q2, q3, q4⟩ := hSw; go_simp⟩) hS ?_
          simp only [Act.put, List.setIfInBounds_toArray, List.set_cons_zero, List.set_cons_succ]
          refine takeD 10 (some 103) (.bool false) rfl rfl (by kernel_rfl) (by kernel_rfl) (by kernel_rfl) (by kernel_rfl) (fun _ _ _ h => h) (Or.inl ⟨by kernel_rfl, fun wx hSw => by obtain ⟨q1, q2, q3, q4⟩ := hSw; go_simp⟩) hS ?_
          simp only [Act.put, List.setIfInBounds_toArray, List.set_cons_zero, List.set_cons_succ]
          refine takeD 11 (some 104) (.bool false) rfl rfl (by kernel_rfl) (by kernel_rfl) (by kernel_rfl) (by kernel_rfl) (fun _ _ _ h => h) (Or.inl ⟨by kernel_rfl, fun wx hSw => by obtain ⟨q1, q2, q3, q4⟩ := hSw; go_simp⟩) hS ?_
          simp only [Act.put, List.setIfInBounds_toArray, List.set_cons_zero, List.set_cons_succ]
          refine takeD 12 (some 105) (.pointer (some ⟨g4, 1, none⟩)) rfl rfl (by kernel_rfl) (by kernel_rfl) (by kernel_rfl) (by kernel_rfl) (fun _ _ _ h => h) (Or.inl ⟨by kernel_rfl, fun wx hSw => by obtain ⟨q1, q2, q3, q4⟩ := hSw; go_simp⟩) hS ?_
          simp only [Act.put, List.setIfInBounds_toArray, List.set_cons_zero, List.set_cons_succ]
          refine takeD 13 (some 106) (.slice Al' nl' cl') rfl rfl (by kernel_rfl) (by kernel_rfl) (by kernel_rfl) (by kernel_rfl) (fun _ _ _ h => h) (Or.inl ⟨by kernel_rfl, fun wx hSw => by obtain ⟨q1, q2, q3, q4⟩ := hSw; go_simp⟩) hS ?_
          simp only [Act.put, List.setIfInBounds_toArray, List.set_cons_zero, List.set_cons_succ]
          refine takeD 14 (some 107) (.int .i64 (nl' : Int)) rfl rfl (by kernel_rfl) (by kernel_rfl) (by kernel_rfl) (by kernel_rfl) (fun _ _ _ h => h) (Or.inl ⟨by kernel_rfl, fun wx hSw => by obtain ⟨q1, q2, q3, q4⟩ := hSw; go_simp⟩) hS ?_
          simp only [Act.put, List.setIfInBounds_toArray, List.set_cons_zero, List.set_cons_succ]
          refine takeD 15 (some 108) (.bool false) rfl rfl (by kernel_rfl) (by kernel_rfl) (by kernel_rfl) (by kernel_rfl) (fun _ _ _ h => h) (Or.inl ⟨by kernel_rfl, fun wx hSw => by obtain ⟨q1, q2, q3, q4⟩ := hSw; go_simp⟩) hS ?_
          simp only [Act.put, List.setIfInBounds_toArray, List.set_cons_zero, List.set_cons_succ]
          refine takeD 16 (some 109) (.bool false) rfl rfl (by kernel_rfl) (by kernel_rfl) (by kernel_rfl) (by kernel_rfl) (fun _ _ _ h => h) (Or.inl ⟨by kernel_rfl, fun wx hSw => by obtain ⟨q1, q2, q3, q4⟩ := hSw; go_simp⟩) hS ?_
          simp only [Act.put, List.setIfInBounds_toArray, List.set_cons_zero, List.set_cons_succ]
          refine takeD 17 (some 110) (.bool false) rfl rfl (by kernel_rfl) (by kernel_rfl) (by kernel_rfl) (by kernel_rfl) (fun _ _ _ h => h) (Or.inl ⟨by kernel_rfl, fun wx hSw => by obtain ⟨q1, q2, q3, q4⟩ := hSw; go_simp⟩) hS ?_
          simp only [Act.put, List.setIfInBounds_toArray, List.set_cons_zero, List.set_cons_succ]
          refine takeD 18 (some 111) (.pointer (some ⟨g4, 0, none⟩)) rfl rfl (by kernel_rfl) (by kernel_rfl) (by kernel_rfl) (by kernel_rfl) (fun _ _ _ h => h) (Or.inl ⟨by kernel_rfl, fun wx hSw => by obtain ⟨q1, q2, q3, q4⟩ := hSw; go_simp⟩) hS ?_
          simp only [Act.put, List.setIfInBounds_toArray, List.set_cons_zero, List.set_cons_succ]
          refine takeD 19 (some 112) (.slice Ai' 0 ci') rfl rfl (by kernel_rfl) (by kernel_rfl) (by kernel_rfl) (by kernel_rfl) (fun _ _ _ h => h) (Or.inl ⟨by kernel_rfl, fun wx hSw => by obtain ⟨q1, q2, q3, q4⟩ := hSw; go_simp⟩) hS ?_
          simp only [Act.put, List.setIfInBounds_toArray, List.set_cons_zero, List.set_cons_succ]
          refine takeD 20 (some 113) (.int .i64 (0 : Int)) rfl rfl (by kernel_rfl) (by kernel_rfl) (by kernel_rfl) (by kernel_rfl) (fun _ _ _ h => h) (Or.inl ⟨by kernel_rfl, fun wx hSw => by obtain ⟨q1, q2, q3, q4⟩ := hSw; go_simp⟩) hS ?_
          simp only [Act.put, List.setIfInBounds_toArray, List.set_cons_zero, List.set_cons_succ]
          refine takeD 21 (some 114) (.bool false) rfl rfl (by kernel_rfl) (by kernel_rfl) (by kernel_rfl) (by kernel_rfl) (fun _ _ _ h => h) (Or.inl ⟨by kernel_rfl, fun wx hSw => by obtain ⟨q1, q2, q3, q4⟩ := hSw; go_simp⟩) hS ?_
          simp only [Act.put, List.setIfInBounds_toArray, List.set_cons_zero, List.set_cons_succ]
          refine takeD 22 (some 115) (.bool false) rfl rfl (by kernel_rfl) (by kernel_rfl) (by kernel_rfl) (by kernel_rfl) (fun _ _ _ h => h) (Or.inl ⟨by kernel_rfl, fun wx hSw => by obtain ⟨q1, q2, q3, q4⟩ := hSw; go_simp⟩) hS ?_
          simp only [Act.put, List.setIfInBounds_toArray, List.set_cons_zero, List.set_cons_succ]
          refine takeD 23 (some 116) undef rfl rfl (by kernel_rfl) (by kernel_rfl) (by kernel_rfl) (by kernel_rfl) (fun _ _ _ h => h) (Or.inr ⟨by kernel_rfl, rfl⟩) hS ?_
          simp only [Act.put, List.setIfInBounds_toArray, List.set_cons_zero, List.set_cons_succ]
          refine takeD 24 (some 117) undef rfl rfl (by kernel_rfl) (by kernel_rfl) (by kernel_rfl) (by kernel_rfl) (fun _ _ _ h => h) (Or.inr ⟨by kernel_rfl, rfl⟩) hS ?_
          simp only [Act.put, List.setIfInBounds_toArray, List.set_cons_zero, List.set_cons_succ]
          refine takeD 25 (some 118) undef rfl rfl (by kernel_rfl) (by kernel_rfl) (by kernel_rfl) (by kernel_rfl) (fun _ _ _ h => h) (Or.inr ⟨by kernel_rfl, rfl⟩) hS ?_
          simp only [Act.put, List.setIfInBounds_toArray, List.set_cons_zero, List.set_cons_succ]
          refine takeD 26 (some 119) undef rfl rfl (by kernel_rfl) (by kernel_rfl) (by kernel_rfl) (by kernel_rfl) (fun _ _ _ h => h) (Or.inr ⟨by kernel_rfl, rfl⟩) hS ?_
          simp only [Act.put, List.setIfInBounds_toArray, List.set_cons_zero, List.set_cons_succ]
          refine takeD 27 (some 120) undef rfl rfl (by kernel_rfl) (by kernel_rfl) (by kernel_rfl) (by kernel_rfl) (fun _ _ _ h => h) (Or.inr ⟨by kernel_rfl, rfl⟩) hS ?_
          simp only [Act.put, List.setIfInBounds_toArray, List.set_cons_zero, List.set_cons_succ]
          refine takeD 28 (some 121) undef rfl rfl (by kernel_rfl) (by kernel_rfl) (by kernel_rfl) (by kernel_rfl) (fun _ _ _ h => h) (Or.inr ⟨by kernel_rfl, rfl⟩) hS ?_
          simp only [Act.put, List.setIfInBounds_toArray, List.set_cons_zero, List.set_cons_succ]
          refine takeD 29 (some 122) undef rfl rfl (by kernel_rfl) (by kernel_rfl) (by kernel_rfl) (by kernel_rfl) (fun _ _ _ h => h) (Or.inr ⟨by kernel_rfl, rfl⟩) hS ?_
          simp only [Act.put, List.setIfInBounds_toArray, List.set_cons_zero, List.set_cons_succ]
          refine takeD 30 (some 123) undef rfl rfl (by kernel_rfl) (by kernel_rfl) (by kernel_rfl) (by kernel_rfl) (fun _ _ _ h => h) (Or.inr ⟨by kernel_rfl, rfl⟩) hS ?_
          simp only [Act.put, List.setIfInBounds_toArray, List.set_cons_zero, List.set_cons_succ]
          refine takeD 31 (some 124) (.bool false) rfl rfl (by kernel_rfl) (by kernel_rfl) (by kernel_rfl) (by kernel_rfl) (fun _ _ _ h => h) (Or.inl ⟨by kernel_rfl, fun wx hSw => by obtain ⟨q1, q2, q3, q4⟩ := hSw; go_simp⟩) hS ?_
          simp only [Act.put, List.setIfInBounds_toArray, List.set_cons_zero, List.set_cons_succ]
          refine oneT 32 (by kernel_rfl) rfl (fun K hK => ?_)
          go_simp
          refine hK.out _ _ (fun _ => hS) ?_
          clear hK K
          refine doneT (by kernel_rfl) ?_ _
          have hMe := hkeep wg hbg
          have hSg := hSf.below hbg hSf.lt
          have hRg := hR4f.call hbg
          have hng := hnf.call hbg
          have hbw := c_call hbf hbg
          have hids := hng.sh.hids
          have hmx := Nat.le_trans hng.sh.hci hng.sh.hmi
          rw [maxLen] at hmx
          clear hS hkeep hcc hMe hSf hR4f hnf hbf hbg hun hzz
          have q0 := hsc wg hRg
          go_wp2_with fail
          clear q0
          go_loopw [129] (fun i wz => ∃ q : Nat, q ≤ 0 ∧ i = .int .i64 (q : Int) ∧ wz = wg) (fun i _ => 0 - (intOf i).toNat)
          case atStart => exact ⟨0, by omega, rfl, rfl⟩
          case round =>
            obtain ⟨q, hq, rfl, hwe⟩ := hrel
            subst hwe
            by_cases hq1 : q < 0
            · exact absurd hq1 (Nat.not_lt_zero _)
            · obtain rfl : q = 0 := by omega
              go_wp2_with fail
              go_roundw
              case rel => exact ⟨j + 1, Ai', _, ci', Al', nl', cl', ids', ll', by have := Hlt.out; omega, by go_num, hbw, (by rw [← Hsv'.out]; exact hRg), hSg, hng, hck'⟩
              case measure => have := Hlt.out; simp [intOf]; omega
        · have n2 : decide (0 < ni') = true := decide_eq_true (by omega)
          have n4 : (0 : Int) < (ni' : Int) := by omega
          have hp := lvOK_high _ _ (chkT_lv hck').2.2.1 (by rw [Hni.out]; omega)
          rw [lvN_len, Hnl.out, Hni.out] at hp
          have n5 : ¬ (ni' : Int) < (2 : Int) ^ nl' := by
            have : ((2 ^ nl' : Nat) : Int) ≤ (ni' : Int) := by exact_mod_cast hp
            rw [Int.natCast_pow] at this
            have e : ((2 : Nat) : Int) = 2 := rfl
            rw [e] at this
            omega
          have n6 : IntKind.i64.wrap ((2 : Int) ^ nl') = (2 : Int) ^ nl' := shl_small nl' hhi
          refine beginT (fun wx => wx.rangeAt g4 0 sv'.toList ∧ wx.cell? ⟨g4, 0, none⟩ = some (.slice Ai' ni' ci') ∧ wx.cell? ⟨g4, 1, none⟩ = some (.slice Al' nl' cl') ∧ ∀ ty, (Builtin.len_ #[45] ty #[.map (some (g4 + 1))]).run Try.prog wx = .ok (.int .i64 ((ni' : Nat) : Int)) wx) 33 (by kernel_rfl) ?_
          have hS := hkeep _ (c_drew (c_refl _))
          refine loadT 0 (some 93) 25 (.tmp 4) g4 0 sv'.toList rfl rfl (by kernel_rfl) (by kernel_rfl) (by kernel_rfl) (by kernel_rfl) rfl (by kernel_rfl) rfl (fun wx hSw => hSw.1) hun rfl hzz (fun _ _ _ h => h) hS ?_
          simp only [Act.put, List.setIfInBounds_toArray, List.set_cons_zero, List.set_cons_succ]
          refine oneT 1 (by kernel_rfl) rfl (fun K hK => ?_)
          go_simp
          refine (hcc _ (c_drew (c_refl _))).mono ?_
          rintro e wg ⟨rfl, hbg⟩
          have hbg := c_call (c_drew (c_refl wf)) hbg
          refine hK.out _ _ (fun _ => hkeep _ hbg) ?_
          clear hK K
          have hS := hkeep _ hbg
          refine takeD 2 (some 95) (.bool false) rfl rfl (by kernel_rfl) (by kernel_rfl) (by kernel_rfl) (by kernel_rfl) (fun _ _ _ h => h) (Or.inl ⟨by kernel_rfl, fun wx hSw => by obtain ⟨q1, q2, q3, q4⟩ := hSw; go_simp⟩) hS ?_
          simp only [Act.put, List.setIfInBounds_toArray, List.set_cons_zero, List.set_cons_succ]
          refine takeD 3 (some 96) (.bool false) rfl rfl (by kernel_rfl) (by kernel_rfl) (by kernel_rfl) (by kernel_rfl) (fun _ _ _ h => h) (Or.inl ⟨by kernel_rfl, fun wx hSw => by obtain ⟨q1, q2, q3, q4⟩ := hSw; go_simp⟩) hS ?_
          simp only [Act.put, List.setIfInBounds_toArray, List.set_cons_zero, List.set_cons_succ]
          refine takeD 4 (some 97) (.pointer (some ⟨g4, 0, none⟩)) rfl rfl (by kernel_rfl) (by kernel_rfl) (by kernel_rfl) (by kernel_rfl) (fun _ _ _ h => h) (Or.inl ⟨by kernel_rfl, fun wx hSw => by obtain ⟨q1, q2, q3, q4⟩ := hSw; go_simp⟩) hS ?_
          simp only [Act.put, List.setIfInBounds_toArray, List.set_cons_zero, List.set_cons_succ]
          refine takeD 5 (some 98) (.slice Ai' ni' ci') rfl rfl (by kernel_rfl) (by kernel_rfl) (by kernel_rfl) (by kernel_rfl) (fun _ _ _ h => h) (Or.inl ⟨by kernel_rfl, fun wx hSw => by obtain ⟨q1, q2, q3, q4⟩ := hSw; go_simp⟩) hS ?_
          simp only [Act.put, List.setIfInBounds_toArray, List.set_cons_zero, List.set_cons_succ]
          refine takeD 6 (some 99) (.int .i64 (ni' : Int)) rfl rfl (by kernel_rfl) (by kernel_rfl) (by kernel_rfl) (by kernel_rfl) (fun _ _ _ h => h) (Or.inl ⟨by kernel_rfl, fun wx hSw => by obtain ⟨q1, q2, q3, q4⟩ := hSw; go_simp⟩) hS ?_
          simp only [Act.put, List.setIfInBounds_toArray, List.set_cons_zero, List.set_cons_succ]
          refine takeD 7 (some 100) (.map (some (g4 + 1))) rfl rfl (by kernel_rfl) (by kernel_rfl) (by kernel_rfl) (by kernel_rfl) (fun _ _ _ h => h) (Or.inl ⟨by kernel_rfl, fun wx hSw => by obtain ⟨q1, q2, q3, q4⟩ := hSw; go_simp⟩) hS ?_
          simp only [Act.put, List.setIfInBounds_toArray, List.set_cons_zero, List.set_cons_succ]
          refine takeD 8 (some 101) (.int .i64 (ni' : Int)) rfl rfl (by kernel_rfl) (by kernel_rfl) (by kernel_rfl) (by kernel_rfl) (fun _ _ _ h => h) (Or.inl ⟨by kernel_rfl, fun wx hSw => by obtain ⟨q1, q2, q3, q4⟩ := hSw; go_simp⟩) hS ?_
          simp only [Act.put, List.setIfInBounds_toArray, List.set_cons_zero, List.set_cons_succ]
          refine takeD 9 (some 102) (.bool false) rfl rfl (by kernel_rfl) (by kernel_rfl) (by kernel_rfl) (by kernel_rfl) (fun _ _ _ h => h) (Or.inl ⟨by kernel_rfl, fun wx hSw => by obtain ⟨q1, q2, q3, q4⟩ := hSw; go_simp⟩) hS ?_
          simp only [Act.put, List.setIfInBounds_toArray, List.set_cons_zero, List.set_cons_succ]
          refine takeD 10 (some 103) (.bool false) rfl rfl (by kernel_rfl) (by kernel_rfl) (by kernel_rfl) (by kernel_rfl) (fun _ _ _ h => h) (Or.inl ⟨by kernel_rfl, fun wx hSw => by obtain ⟨q1, q2, q3, q4⟩ := hSw; go_simp⟩) hS ?_
          simp only [Act.put, List.setIfInBounds_toArray, List.set_cons_zero, List.set_cons_succ]
          refine takeD 11 (some 104) (.bool false) rfl rfl (by kernel_rfl) (by kernel_rfl) (by kernel_rfl) (by kernel_rfl) (fun _ _ _ h => h) (Or.inl ⟨by kernel_rfl, fun wx hSw => by obtain ⟨q1, q2, q3, q4⟩ := hSw; go_simp⟩) hS ?_
          simp only [Act.put, List.setIfInBounds_toArray, List.set_cons_zero, List.set_cons_succ]
          refine takeD 12 (some 105) (.pointer (some ⟨g4, 1, none⟩)) rfl rfl (by kernel_rfl) (by kernel_rfl) (by kernel_rfl) (by kernel_rfl) (fun _ _ _ h => h) (Or.inl ⟨by kernel_rfl, fun wx hSw => by obtain ⟨q1, q2, q3, q4⟩ := hSw; go_simp⟩) hS ?_
          simp only [Act.put, List.setIfInBounds_toArray, List.set_cons_zero, List.set_cons_succ]
          refine takeD 13 (some 106) (.slice Al' nl' cl') rfl rfl (by kernel_rfl) (by kernel_rfl) (by kernel_rfl) (by kernel_rfl) (fun _ _ _ h => h) (Or.inl ⟨by kernel_rfl, fun wx hSw => by obtain ⟨q1, q2, q3, q4⟩ := hSw; go_simp⟩) hS ?_
          simp only [Act.put, List.setIfInBounds_toArray, List.set_cons_zero, List.set_cons_succ]
          refine takeD 14 (some 107) (.int .i64 (nl' : Int)) rfl rfl (by kernel_rfl) (by kernel_rfl) (by kernel_rfl) (by kernel_rfl) (fun _ _ _ h => h) (Or.inl ⟨by kernel_rfl, fun wx hSw => by obtain ⟨q1, q2, q3, q4⟩ := hSw; go_simp⟩) hS ?_
          simp only [Act.put, List.setIfInBounds_toArray, List.set_cons_zero, List.set_cons_succ]
          refine takeD 15 (some 108) (.bool false) rfl rfl (by kernel_rfl) (by kernel_rfl) (by kernel_rfl) (by kernel_rfl) (fun _ _ _ h => h) (Or.inl ⟨by kernel_rfl, fun wx hSw => by obtain ⟨q1, q2, q3, q4⟩ := hSw; go_simp⟩) hS ?_
          simp only [Act.put, List.setIfInBounds_toArray, List.set_cons_zero, List.set_cons_succ]
          refine takeD 16 (some 109) (.bool false) rfl rfl (by kernel_rfl) (by kernel_rfl) (by kernel_rfl) (by kernel_rfl) (fun _ _ _ h => h) (Or.inl ⟨by kernel_rfl, fun wx hSw => by obtain ⟨q1, q2, q3, q4⟩ := hSw; go_simp⟩) hS ?_
          simp only [Act.put, List.setIfInBounds_toArray, List.set_cons_zero, List.set_cons_succ]
          refine takeD 17 (some 110) (.bool false) rfl rfl (by kernel_rfl) (by kernel_rfl) (by kernel_rfl) (by kernel_rfl) (fun _ _ _ h => h) (Or.inl ⟨by kernel_rfl, fun wx hSw => by obtain ⟨q1, q2, q3, q4⟩ := hSw; go_simp⟩) hS ?_
          simp only [Act.put, List.setIfInBounds_toArray, List.set_cons_zero, List.set_cons_succ]
          refine takeD 18 (some 111) (.pointer (some ⟨g4, 0, none⟩)) rfl rfl (by kernel_rfl) (by kernel_rfl) (by kernel_rfl) (by kernel_rfl) (fun _ _ _ h => h) (Or.inl ⟨by kernel_rfl, fun wx hSw => by obtain ⟨q1, q2, q3, q4⟩ := hSw; go_simp⟩) hS ?_
          simp only [Act.put, List.setIfInBounds_toArray, List.set_cons_zero, List.set_cons_succ]
          refine takeD 19 (some 112) (.slice Ai' ni' ci') rfl rfl (by kernel_rfl) (by kernel_rfl) (by kernel_rfl) (by kernel_rfl) (fun _ _ _ h => h) (Or.inl ⟨by kernel_rfl, fun wx hSw => by obtain ⟨q1, q2, q3, q4⟩ := hSw; go_simp⟩) hS ?_
          simp only [Act.put, List.setIfInBounds_toArray, List.set_cons_zero, List.set_cons_succ]
          refine takeD 20 (some 113) (.int .i64 (ni' : Int)) rfl rfl (by kernel_rfl) (by kernel_rfl) (by kernel_rfl) (by kernel_rfl) (fun _ _ _ h => h) (Or.inl ⟨by kernel_rfl, fun wx hSw => by obtain ⟨q1, q2, q3, q4⟩ := hSw; go_simp⟩) hS ?_
          simp only [Act.put, List.setIfInBounds_toArray, List.set_cons_zero, List.set_cons_succ]
          refine takeD 21 (some 114) (.bool true) rfl rfl (by kernel_rfl) (by kernel_rfl) (by kernel_rfl) (by kernel_rfl) (fun _ _ _ h => h) (Or.inl ⟨by kernel_rfl, fun wx hSw => by obtain ⟨q1, q2, q3, q4⟩ := hSw; go_simp⟩) hS ?_
          simp only [Act.put, List.setIfInBounds_toArray, List.set_cons_zero, List.set_cons_succ]
          refine takeD 22 (some 115) (.bool true) rfl rfl (by kernel_rfl) (by kernel_rfl) (by kernel_rfl) (by kernel_rfl) (fun _ _ _ h => h) (Or.inl ⟨by kernel_rfl, fun wx hSw => by obtain ⟨q1, q2, q3, q4⟩ := hSw; go_simp⟩) hS ?_
          simp only [Act.put, List.setIfInBounds_toArray, List.set_cons_zero, List.set_cons_succ]
          refine takeD 23 (some 116) (.pointer (some ⟨g4, 1, none⟩)) rfl rfl (by kernel_rfl) (by kernel_rfl) (by kernel_rfl) (by kernel_rfl) (fun _ _ _ h => h) (Or.inl ⟨by kernel_rfl, fun wx hSw => by obtain ⟨q1, q2, q3, q4⟩ := hSw; go_simp⟩) hS ?_
          simp only [Act.put, List.setIfInBounds_toArray, List.set_cons_zero, List.set_cons_succ]
          refine takeD 24 (some 117) (.slice Al' nl' cl') rfl rfl (by kernel_rfl) (by kernel_rfl) (by kernel_rfl) (by kernel_rfl) (fun _ _ _ h => h) (Or.inl ⟨by kernel_rfl, fun wx hSw => by obtain ⟨q1, q2, q3, q4⟩ := hSw; go_simp⟩) hS ?_
          simp only [Act.put, List.setIfInBounds_toArray, List.set_cons_zero, List.set_cons_succ]
          refine takeD 25 (some 118) (.int .i64 (nl' : Int)) rfl rfl (by kernel_rfl) (by kernel_rfl) (by kernel_rfl) (by kernel_rfl) (fun _ _ _ h => h) (Or.inl ⟨by kernel_rfl, fun wx hSw => by obtain ⟨q1, q2, q3, q4⟩ := hSw; go_simp⟩) hS ?_
          simp only [Act.put, List.setIfInBounds_toArray, List.set_cons_zero, List.set_cons_succ]
          refine takeD 26 (some 119) (.int .i64 ((2 : Int) ^ nl')) rfl rfl (by kernel_rfl) (by kernel_rfl) (by kernel_rfl) (by kernel_rfl) (fun _ _ _ h => h) (Or.inl ⟨by kernel_rfl, fun wx hSw => by obtain ⟨q1, q2, q3, q4⟩ := hSw; go_simp⟩) hS ?_
          simp only [Act.put, List.setIfInBounds_toArray, List.set_cons_zero, List.set_cons_succ]
          refine takeD 27 (some 120) (.pointer (some ⟨g4, 0, none⟩)) rfl rfl (by kernel_rfl) (by kernel_rfl) (by kernel_rfl) (by kernel_rfl) (fun _ _ _ h => h) (Or.inl ⟨by kernel_rfl, fun wx hSw => by obtain ⟨q1, q2, q3, q4⟩ := hSw; go_simp⟩) hS ?_
          simp only [Act.put, List.setIfInBounds_toArray, List.set_cons_zero, List.set_cons_succ]
          refine takeD 28 (some 121) (.slice Ai' ni' ci') rfl rfl (by kernel_rfl) (by kernel_rfl) (by kernel_rfl) (by kernel_rfl) (fun _ _ _ h => h) (Or.inl ⟨by kernel_rfl, fun wx hSw => by obtain ⟨q1, q2, q3, q4⟩ := hSw; go_simp⟩) hS ?_
          simp only [Act.put, List.setIfInBounds_toArray, List.set_cons_zero, List.set_cons_succ]
          refine takeD 29 (some 122) (.int .i64 (ni' : Int)) rfl rfl (by kernel_rfl) (by kernel_rfl) (by kernel_rfl) (by kernel_rfl) (fun _ _ _ h => h) (Or.inl ⟨by kernel_rfl, fun wx hSw => by obtain ⟨q1, q2, q3, q4⟩ := hSw; go_simp⟩) hS ?_
          simp only [Act.put, List.setIfInBounds_toArray, List.set_cons_zero, List.set_cons_succ]
          refine takeD 30 (some 123) (.bool false) rfl rfl (by kernel_rfl) (by kernel_rfl) (by kernel_rfl) (by kernel_rfl) (fun _ _ _ h => h) (Or.inl ⟨by kernel_rfl, fun wx hSw => by obtain ⟨q1, q2, q3, q4⟩ := hSw; go_simp⟩) hS ?_
          simp only [Act.put, List.setIfInBounds_toArray, List.set_cons_zero, List.set_cons_succ]
          refine takeD 31 (some 124) (.bool false) rfl rfl (by kernel_rfl) (by kernel_rfl) (by kernel_rfl) (by kernel_rfl) (fun _ _ _ h => h) (Or.inl ⟨by kernel_rfl, fun wx hSw => by obtain ⟨q1, q2, q3, q4⟩ := hSw; go_simp⟩) hS ?_
          simp only [Act.put, List.setIfInBounds_toArray, List.set_cons_zero, List.set_cons_succ]
          refine oneT 32 (by kernel_rfl) rfl (fun K hK => ?_)
          go_simp
          refine hK.out _ _ (fun _ => hS) ?_
          clear hK K
          refine doneT (by kernel_rfl) ?_ _
          have hMe := hkeep wg hbg
          have hSg := hSf.below hbg hSf.lt
          have hRg := hR4f.call hbg
          have hng := hnf.call hbg
          have hbw := c_call hbf hbg
          have hids := hng.sh.hids
          have hmx := Nat.le_trans hng.sh.hci hng.sh.hmi
          rw [maxLen] at hmx
          clear hS hkeep hcc hMe hSf hR4f hnf hbf hbg hun hzz hn0
          have q0 := hsc wg hRg
          go_wp2_with fail
          clear q0
          go_loopw [129] (fun i wz => ∃ q : Nat, q ≤ ni' ∧ i = .int .i64 (q : Int) ∧ wz = wg) (fun i _ => ni' - (intOf i).toNat)
          case atStart => exact ⟨0, by omega, rfl, rfl⟩
          case round =>
            obtain ⟨q, hq, rfl, hwe⟩ := hrel
            subst hwe
            by_cases hq1 : q < ni'
            · have hql : q < ids'.length := by rw [Hni.out]; exact hq1
              obtain ⟨b', o', rfl, hbb', hcell⟩ := hids.pos (by omega)
              have c1 := hcell q (iv ids'[q]) (by rw [List.getElem?_map, List.getElem?_eq_getElem hql]; rfl)
              rw [iv_def] at c1
              have hmem := List.getElem_mem hql
              have hyr := okI_mem (chkT_lv hck').2.1 _ hmem
              have hlk := hSg.look (x := ids'[q]) ⟨by omega, by omega⟩
              rw [decide_eq_true hmem] at hlk
              have b0 : (0 : Int) ≤ (q : Int) := by omega
              have b1 : (q : Int) < (ni' : Int) := by omega
              clear hcell hmem hyr
              generalize ids'[q] = y at *
              go_wp2_with fail
              go_roundw
              case rel => exact ⟨q + 1, by omega, by go_num, trivial⟩
              case measure => simp [intOf]; omega
            · obtain rfl : q = ni' := by omega
              go_wp2_with fail
              go_roundw
              case rel => exact ⟨j + 1, Ai', _, ci', Al', nl', cl', ids', ll', by have := Hlt.out; omega, by go_num, hbw, (by rw [← Hsv'.out]; exact hRg), hSg, hng, hck'⟩
              case measure => have := Hlt.out; simp [intOf]; omega
    · obtain rfl : j = n := by omega
      go_wp2_with fail
      go_ret
      exact ⟨rfl, hb⟩

end Go.Proofs.Ytjhcnhihmgpgbaa

