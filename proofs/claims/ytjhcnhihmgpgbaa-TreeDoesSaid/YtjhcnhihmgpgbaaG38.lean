import Derived.Test.YtjhcnhihmgpgbaaG28
/-
  THE WALK of TreeDoes (coterielaw10), over what the program's calls answer.
-/
set_option linter.unusedVariables false
namespace Go.Proofs.Ytjhcnhihmgpgbaa
open Go.RowKit

def HTI2 : Prop := ∀ (Ai : Option Addr) (ni ci : Nat) (Al : Option Addr) (nl cl : Nat) (ids : List Int) (ll : List (List Int)) (id : Int) (w : World), ShR w w.heap.size Ai ni ci Al nl cl ids ll → fewT ids ll = true →
  Calls Try.prog 14 #[.agg (shV Ai ni ci Al nl cl), .int .i64 id] w fun e w' => InsPost w ids ll id e w' ∧ TellsThawed e w'
def HTD2 : Prop := ∀ (Ai : Option Addr) (ni ci : Nat) (Al : Option Addr) (nl cl : Nat) (ids : List Int) (ll : List (List Int)) (id : Int) (w : World), ShR w w.heap.size Ai ni ci Al nl cl ids ll → fewT ids ll = true →
  Calls Try.prog 16 #[.agg (shV Ai ni ci Al nl cl), .int .i64 id] w fun e w' => DelPost w ids ll id e w' ∧ TellsThawed e w'
def insR (ids : List Int) (ll : List (List Int)) (id : Int) : List Int × List (List Int) := if insE ids ll id = 0 then ((insS ids (lvN ll) id).1, levI (insS ids (lvN ll) id).2) else ([], [])
def delR (ids : List Int) (ll : List (List Int)) (id : Int) : List Int × List (List Int) := if delE ids ll id = 0 then ((delS ids (lvN ll) id).1, levI (delS ids (lvN ll) id).2) else ([], [])
theorem InsPost.shape2 {w : World} {ids : List Int} {ll : List (List Int)} {id : Int} {e : Ending} {w' : World} (h : InsPost w ids ll id e w') : Below w.heap.size w w' ∧ ∃ Ai ni ci Al nl cl,
    e = .returned (.tuple #[.agg (shV Ai ni ci Al nl cl), .int .i64 (insE ids ll id)]) ∧ ShN w.heap.size w' w'.heap.size Ai ni ci Al nl cl (insR ids ll id).1 (insR ids ll id).2 := by
  unfold insR
  obtain ⟨hb, ⟨h1, h2⟩ | ⟨h1, Ai, ni, ci, Al, nl, cl, h2, h3⟩⟩ := h
  · exact ⟨hb, none, 0, 0, none, 0, 0, by rw [h2, sh0_shV], by rw [if_neg h1]; exact ShN.nil _ _ _⟩
  · exact ⟨hb, Ai, ni, ci, Al, nl, cl, by rw [h1]; exact h2, by rw [if_pos h1]; exact h3⟩
theorem DelPost.shape2 {w : World} {ids : List Int} {ll : List (List Int)} {id : Int} {e : Ending} {w' : World} (h : DelPost w ids ll id e w') : Below w.heap.size w w' ∧ ∃ Ai ni ci Al nl cl,
    e = .returned (.tuple #[.agg (shV Ai ni ci Al nl cl), .int .i64 (delE ids ll id)]) ∧ ShN w.heap.size w' w'.heap.size Ai ni ci Al nl cl (delR ids ll id).1 (delR ids ll id).2 := by
  unfold delR
  obtain ⟨hb, ⟨h1, h2⟩ | ⟨h1, Ai, ni, ci, Al, nl, cl, h2, h3⟩⟩ := h
  · exact ⟨hb, none, 0, 0, none, 0, 0, by rw [h2, sh0_shV], by rw [if_neg h1]; exact ShN.nil _ _ _⟩
  · exact ⟨hb, Ai, ni, ci, Al, nl, cl, by rw [h1]; exact h2, by rw [if_pos h1]; exact h3⟩
/-- two trees in a row of their cells, of which the numbers may be counted up -/
def TwoM (lo : Nat) (w : World) (gR : Nat) : Prop := ∀ k, k < 2 → ∃ Ax nx cx Bx mx dx, w.rangeAt gR (k * 2) [.slice Ax nx cx, .slice Bx mx dx] ∧ nx ≤ maxLen ∧ mx ≤ maxLen ∧ IntsM lo w Ax nx ∧ LvsM lo w Bx mx
theorem range_two {w : World} {g o : Nat} {u v : Value} (h1 : w.cell? ⟨g, o, none⟩ = some u) (h2 : w.cell? ⟨g, o + 1, none⟩ = some v) : w.rangeAt g o [u, v] := fun j x hx => by
  match j, hx with
  | 0, hx => simp at hx; subst hx; exact h1
  | 1, hx => simp at hx; subst hx; exact h2
theorem not_isI {A : Option Addr} {n c : Nat} : ¬ isI (.slice A n c) := fun ⟨x, h⟩ => by cases h
theorem Mut.range {lo : Nat} {w w' : World} (h : Mut lo w w') {g o : Nat} {A B : Option Addr} {n c m d : Nat} (hr : w.rangeAt g o [.slice A n c, .slice B m d]) : w'.rangeAt g o [.slice A n c, .slice B m d] := fun j x hx => by
  have hc := hr j x hx
  refine h.non _ _ hc ?_
  match j, hx with
  | 0, hx => simp at hx; subst hx; exact not_isI
  | 1, hx => simp at hx; subst hx; exact not_isI
theorem TwoM.mk_ {lo : Nat} {w : World} {gR : Nat} {A1 B1 A2 B2 : Option Addr} {n1 c1 m1 d1 n2 c2 m2 d2 : Nat} (hr : RowC w gR 25 #[.slice A1 n1 c1, .slice B1 m1 d1, .slice A2 n2 c2, .slice B2 m2 d2])
    (h1 : n1 ≤ maxLen) (h2 : m1 ≤ maxLen) (h3 : n2 ≤ maxLen) (h4 : m2 ≤ maxLen) (i1 : IntsM lo w A1 n1) (i2 : LvsM lo w B1 m1) (i3 : IntsM lo w A2 n2) (i4 : LvsM lo w B2 m2) : TwoM lo w gR := fun k hk => by
  match k, hk with
  | 0, _ => exact ⟨A1, n1, c1, B1, m1, d1, range_two (hr.cell (i := 0) rfl) (hr.cell (i := 1) rfl), h1, h2, i1, i2⟩
  | 1, _ => exact ⟨A2, n2, c2, B2, m2, d2, range_two (hr.cell (i := 2) rfl) (hr.cell (i := 3) rfl), h3, h4, i3, i4⟩
theorem below_put (w : World) (t : TypeId) (z cs : Array Value) : Below w.heap.size w ((w.alloc (.cells z t)).setRow w.heap.size cs) := below_setRow ((Below.refl _ _).alloc (Nat.le_refl _) _) (Nat.le_refl _) _
theorem size_put (w : World) (t : TypeId) (z cs : Array Value) : ((w.alloc (.cells z t)).setRow w.heap.size cs).heap.size = w.heap.size + 1 := by rw [size_setRowT]; simp

set_option maxRecDepth 100000 in
set_option maxHeartbeats 8000000 in
theorem walkH_TreeDoes (hB : HTB) (hC : HTC) (hS : HTM) (hI : HTI2) (hD : HTD2) (Ai : Option Addr) (ni ci : Nat) (Al : Option Addr) (nl cl : Nat) (ids : List Int) (ll : List (List Int)) (id : Int) (w : World)
    (h : ShR w w.heap.size Ai ni ci Al nl cl ids ll) :
    Calls Try.prog 3 #[.agg (shV Ai ni ci Al nl cl), .int .i64 id] w fun e w' => e = .returned (.bool true) ∧ Below w.heap.size w w' := by
  have hM0 := (Ms.nil w).box 25 (shV Ai ni ci Al nl cl)
  have sh := fun wx (hb : Below w.heap.size w wx) => (h.below hb).more hb.size
  have hfe := fun wx hb => FewT_any Ai ni ci Al nl cl ids ll wx (sh wx hb)
  have hcp := fun (hf : fewT ids ll = true) wx hb => CopyT_any Ai ni ci Al nl cl ids ll wx (sh wx hb) hf
  have hia := fun (hf : fewT ids ll = true) wx hb => hI Ai ni ci Al nl cl ids ll id wx (sh wx hb) hf
  have hib := fun (hf : fewT ids ll = true) wx hb => InsertT_any Ai ni ci Al nl cl ids ll id wx (sh wx hb) (few_million hf)
  have hda := fun (hf : fewT ids ll = true) wx hb => hD Ai ni ci Al nl cl ids ll id wx (sh wx hb) hf
  have hdb := fun (hf : fewT ids ll = true) wx hb => DeleteT_any Ai ni ci Al nl cl ids ll id wx (sh wx hb) (few_million hf)
  have hsm := fun wx hb Ai' ni' ci' Al' nl' cl' h' => Same_anyT Ai ni ci Al nl cl ids ll Ai' ni' ci' Al' nl' cl' ids ll wx (sh wx hb) h'
  simp only [beq_self_eq_true, Bool.and_self] at hsm
  have Hsz := Lib.hid (sizeSh Ai ni ci Al nl cl)
  clear sh h
  generalize hsv : shV Ai ni ci Al nl cl = sv at *
  clear hsv
  go_enter Try.func3, Try.ntmps3
  go_wp2_with fail
  refine (live10 hB hC hS _).mono ?_
  rintro e w1 ⟨rfl, hb1⟩
  have hM1 := hM0.call hb1
  clear hM0 hb1
  go_wp2_with ((with_reducible show wpList _ _ _ (⟨some 23, _, _, _, _, _⟩ :: _) _ _); refine wpList_loadC (by kernel_rfl) 25 (.tmp 2) rfl (w.heap.size) rfl 25 sv _ (hM1.get 0 rfl) Try.underlying25 rfl Hsz.out ?_)
  refine (hfe _ hM1.old).mono ?_
  rintro e w2 ⟨rfl, hb2⟩
  have hM2 := hM1.call hb2
  clear hM1 hb2
  by_cases hfw : fewT ids ll = true
  rotate_left
  · have hff : fewT ids ll = false := by simpa using hfw
    rw [hff]
    go_wp2_with fail
    go_ret
    exact ⟨rfl, hM2.old⟩
  rw [hfw]
  have hcp := hcp hfw
  have hia := hia hfw
  have hib := hib hfw
  have hda := hda hfw
  have hdb := hdb hfw
  clear hfe hfw
  go_wp2_with ((with_reducible show wpList _ _ _ (⟨some 27, _, _, _, _, _⟩ :: _) _ _); refine wpList_loadC (by kernel_rfl) 25 (.tmp 2) rfl (w.heap.size) rfl 25 sv _ (hM2.get 0 rfl) Try.underlying25 rfl Hsz.out ?_)
  refine (hcp _ hM2.old).mono ?_
  rintro e w3 ⟨hb3, Ai1, ni1, ci1, Al1, nl1, cl1, rfl, hn1⟩
  have hM3 := (hM2.call hb3).put 25 #[.slice none 0 0, .slice none 0 0] (shV Ai1 ni1 ci1 Al1 nl1 cl1)
  have hs1 := hn1.sh.below (below_put w3 25 #[.slice none 0 0, .slice none 0 0] (shV Ai1 ni1 ci1 Al1 nl1 cl1))
  have hz := size_put w3 25 #[.slice none 0 0, .slice none 0 0] (shV Ai1 ni1 ci1 Al1 nl1 cl1)
  clear hcp hM2 hn1 hb3
  go_upto_region 5 with first | ((with_reducible show wpList _ _ _ (⟨some 27, _, _, _, _, _⟩ :: _) _ _); refine wpList_loadC (by kernel_rfl) 25 (.tmp 2) rfl (w.heap.size) rfl 25 sv _ (hM2.get 0 rfl) Try.underlying25 rfl Hsz.out ?_) | ((with_reducible show wpList _ _ _ (⟨none, Op.store 25 _ _, _, _, _, _⟩ :: _) _ _); refine wpList_store_row rfl 25 (.tmp 6) (.tmp 28) rfl (w3.heap.size) (shV Ai1 ni1 ci1 Al1 nl1 cl1) rfl rfl 25 _ (RowC.new _ _ _) (sizeSh _ _ _ _ _ _) rfl (one_sh _ _ _ _ _ _) ?_)
  try simp only [Act.put]
  refine wp_gen (fun wx => wx.heap.size = w3.heap.size + 1 ∧ Ms w wx [(w3.heap.size, 25, shV Ai1 ni1 ci1 Al1 nl1 cl1), (w.heap.size, 25, sv)] ∧ ShR wx w3.heap.size Ai1 ni1 ci1 Al1 nl1 cl1 ids ll) ⟨hz, hM3, hs1⟩ ?_
  clear hM3 hs1 hz
  rintro w4 ⟨hz4, hM4, hs4⟩
  obtain ⟨g1, hg1⟩ : ∃ g, g = w3.heap.size := ⟨_, rfl⟩
  rw [← hg1] at hM4 hs4 hz4 ⊢
  clear hg1
  obtain ⟨lo, hlo⟩ : ∃ lo, lo = g1 + 1 := ⟨_, rfl⟩
  have hlo : w4.heap.size = lo := by omega
  have hend := fun wx (hb : Below w4.heap.size w4 wx) => (⟨hM4.call hb, (hs4.below (hb.mono (by omega))).more (show g1 ≤ wx.heap.size by have := hb.size; omega)⟩ : Ms w wx [(g1, 25, shV Ai1 ni1 ci1 Al1 nl1 cl1), (w.heap.size, 25, sv)] ∧ ShR wx wx.heap.size Ai1 ni1 ci1 Al1 nl1 cl1 ids ll)
  have Hsz1 := Lib.hid (sizeSh Ai1 ni1 ci1 Al1 nl1 cl1)
  clear hs4
  generalize hsv1 : shV Ai1 ni1 ci1 Al1 nl1 cl1 = sv1 at *
  have Hsv1 := Lib.hid hsv1
  clear hsv1
  rw [hlo] at hend
  have hB4 : Below lo w4 w4 := Below.refl _ _
  have hle4 : lo ≤ w4.heap.size := by omega
  clear hz4 hlo
  go_wp2_with ((with_reducible show wpList _ _ _ (⟨some 30, _, _, _, _, _⟩ :: _) _ _); refine wpList_loadC (by kernel_rfl) 25 (.tmp 2) rfl (w.heap.size) rfl 25 sv _ (hM4.get 1 rfl) Try.underlying25 rfl Hsz.out ?_)
  refine (hia _ hM4.old).mono ?_
  rintro e w5 ⟨hP, hT⟩
  obtain ⟨hb5, Ai2, ni2, ci2, Al2, nl2, cl2, rfl, hn⟩ := hP.shape2
  have hn := hn.mono hle4
  obtain ⟨hq1, hq2⟩ := hn.muts (hT _ _ _ _ _ _ _ rfl)
  have hM5 := (hM4.call hb5).put 25 #[.slice none 0 0, .slice none 0 0] (shV Ai2 ni2 ci2 Al2 nl2 cl2)
  have hp := below_put w5 25 #[.slice none 0 0, .slice none 0 0] (shV Ai2 ni2 ci2 Al2 nl2 cl2)
  have hbb := c_call hb5 hp
  have hB5 := hB4.trans (hbb.mono hle4)
  have hle5 := Nat.le_trans hle4 hbb.size
  have hmu := Mut.of_below hbb hle4
  have hmp := Mut.of_below hp (Nat.le_trans hle4 hb5.size)
  have hs2 := (hn.sh.below hp).more hp.size
  have hi2 := hq1.mut hmp
  have hl2 := hq2.mut hmp
  clear hia hM4 hB4 hle4 hb5 hn hP hp hbb hmu hmp hq1 hq2 hT
  go_upto_region 6 with first | ((with_reducible show wpList _ _ _ (⟨some 30, _, _, _, _, _⟩ :: _) _ _); refine wpList_loadC (by kernel_rfl) 25 (.tmp 2) rfl (w.heap.size) rfl 25 sv _ (hM4.get 1 rfl) Try.underlying25 rfl Hsz.out ?_) | ((with_reducible show wpList _ _ _ (⟨none, Op.store 25 _ _, _, _, _, _⟩ :: _) _ _); refine wpList_store_row rfl 25 (.tmp 7) (.tmp 33) rfl (w5.heap.size) (shV Ai2 ni2 ci2 Al2 nl2 cl2) rfl rfl 25 _ (RowC.new _ _ _) (sizeSh _ _ _ _ _ _) rfl (one_sh _ _ _ _ _ _) ?_)
  try simp only [Act.put]
  refine wp_gen (fun wx => Ms w wx [(w5.heap.size, 25, shV Ai2 ni2 ci2 Al2 nl2 cl2), (g1, 25, sv1), (w.heap.size, 25, sv)] ∧ Below lo w4 wx ∧ lo ≤ wx.heap.size ∧ ShR wx wx.heap.size Ai2 ni2 ci2 Al2 nl2 cl2 (insR ids ll id).1 (insR ids ll id).2 ∧ IntsM lo wx Ai2 ni2 ∧ LvsM lo wx Al2 nl2) ⟨hM5, hB5, hle5, hs2, hi2, hl2⟩ ?_
  clear hM5 hB5 hle5 hs2 hi2 hl2
  rintro w6 ⟨hM6, hB6, hle6, hs2, hi2, hl2⟩
  obtain ⟨g2, hg2⟩ : ∃ g, g = w5.heap.size := ⟨_, rfl⟩
  rw [← hg2] at hM6 ⊢
  clear hg2
  go_wp2_with ((with_reducible show wpList _ _ _ (⟨some 36, _, _, _, _, _⟩ :: _) _ _); refine wpList_loadC (by kernel_rfl) 25 (.tmp 2) rfl (w.heap.size) rfl 25 sv _ (hM6.get 2 rfl) Try.underlying25 rfl Hsz.out ?_)
  refine (hib _ hM6.old).mono ?_
  intro e w7 hP
  obtain ⟨hb7, Ai3, ni3, ci3, Al3, nl3, cl3, rfl, hn⟩ := hP.shape2
  have hn := hn.mono hle6
  have hM7 := (hM6.call hb7).put 25 #[.slice none 0 0, .slice none 0 0] (shV Ai3 ni3 ci3 Al3 nl3 cl3)
  have hp := below_put w7 25 #[.slice none 0 0, .slice none 0 0] (shV Ai3 ni3 ci3 Al3 nl3 cl3)
  have hbb := c_call hb7 hp
  have hB7 := hB6.trans (hbb.mono hle6)
  have hle7 := Nat.le_trans hle6 hbb.size
  have hmu := Mut.of_below hbb hle6
  have hmp := Mut.of_below hp (Nat.le_trans hle6 hb7.size)
  have hs2 := (hs2.below hbb).more hbb.size
  have hi2 := hi2.mut hmu
  have hl2 := hl2.mut hmu
  have hs3 := (hn.sh.below hp).more hp.size
  clear hib hM6 hB6 hle6 hb7 hn hP hp hbb hmu hmp 
  go_upto_region 7 with first | ((with_reducible show wpList _ _ _ (⟨some 36, _, _, _, _, _⟩ :: _) _ _); refine wpList_loadC (by kernel_rfl) 25 (.tmp 2) rfl (w.heap.size) rfl 25 sv _ (hM6.get 2 rfl) Try.underlying25 rfl Hsz.out ?_) | ((with_reducible show wpList _ _ _ (⟨none, Op.store 25 _ _, _, _, _, _⟩ :: _) _ _); refine wpList_store_row rfl 25 (.tmp 9) (.tmp 39) rfl (w7.heap.size) (shV Ai3 ni3 ci3 Al3 nl3 cl3) rfl rfl 25 _ (RowC.new _ _ _) (sizeSh _ _ _ _ _ _) rfl (one_sh _ _ _ _ _ _) ?_)
  try simp only [Act.put]
  refine wp_gen (fun wx => Ms w wx [(w7.heap.size, 25, shV Ai3 ni3 ci3 Al3 nl3 cl3), (g2, 25, shV Ai2 ni2 ci2 Al2 nl2 cl2), (g1, 25, sv1), (w.heap.size, 25, sv)] ∧ Below lo w4 wx ∧ lo ≤ wx.heap.size ∧ ShR wx wx.heap.size Ai2 ni2 ci2 Al2 nl2 cl2 (insR ids ll id).1 (insR ids ll id).2 ∧ IntsM lo wx Ai2 ni2 ∧ LvsM lo wx Al2 nl2 ∧ ShR wx wx.heap.size Ai3 ni3 ci3 Al3 nl3 cl3 (insR ids ll id).1 (insR ids ll id).2) ⟨hM7, hB7, hle7, hs2, hi2, hl2, hs3⟩ ?_
  clear hM7 hB7 hle7 hs2 hi2 hl2 hs3
  rintro w8 ⟨hM8, hB8, hle8, hs2, hi2, hl2, hs3⟩
  obtain ⟨g3, hg3⟩ : ∃ g, g = w7.heap.size := ⟨_, rfl⟩
  rw [← hg3] at hM8 ⊢
  clear hg3
  go_wp2_with ((with_reducible show wpList _ _ _ (⟨some 42, _, _, _, _, _⟩ :: _) _ _); refine wpList_loadC (by kernel_rfl) 25 (.tmp 2) rfl (w.heap.size) rfl 25 sv _ (hM8.get 3 rfl) Try.underlying25 rfl Hsz.out ?_)
  refine (hda _ hM8.old).mono ?_
  rintro e w9 ⟨hP, hT⟩
  obtain ⟨hb9, Ai4, ni4, ci4, Al4, nl4, cl4, rfl, hn⟩ := hP.shape2
  have hn := hn.mono hle8
  obtain ⟨hq1, hq2⟩ := hn.muts (hT _ _ _ _ _ _ _ rfl)
  have hM9 := (hM8.call hb9).put 25 #[.slice none 0 0, .slice none 0 0] (shV Ai4 ni4 ci4 Al4 nl4 cl4)
  have hp := below_put w9 25 #[.slice none 0 0, .slice none 0 0] (shV Ai4 ni4 ci4 Al4 nl4 cl4)
  have hbb := c_call hb9 hp
  have hB9 := hB8.trans (hbb.mono hle8)
  have hle9 := Nat.le_trans hle8 hbb.size
  have hmu := Mut.of_below hbb hle8
  have hmp := Mut.of_below hp (Nat.le_trans hle8 hb9.size)
  have hs2 := (hs2.below hbb).more hbb.size
  have hi2 := hi2.mut hmu
  have hl2 := hl2.mut hmu
  have hs3 := (hs3.below hbb).more hbb.size
  have hs4 := (hn.sh.below hp).more hp.size
  have hi4 := hq1.mut hmp
  have hl4 := hq2.mut hmp
  clear hda hM8 hB8 hle8 hb9 hn hP hp hbb hmu hmp hq1 hq2 hT
  go_upto_region 8 with first | ((with_reducible show wpList _ _ _ (⟨some 42, _, _, _, _, _⟩ :: _) _ _); refine wpList_loadC (by kernel_rfl) 25 (.tmp 2) rfl (w.heap.size) rfl 25 sv _ (hM8.get 3 rfl) Try.underlying25 rfl Hsz.out ?_) | ((with_reducible show wpList _ _ _ (⟨none, Op.store 25 _ _, _, _, _, _⟩ :: _) _ _); refine wpList_store_row rfl 25 (.tmp 11) (.tmp 45) rfl (w9.heap.size) (shV Ai4 ni4 ci4 Al4 nl4 cl4) rfl rfl 25 _ (RowC.new _ _ _) (sizeSh _ _ _ _ _ _) rfl (one_sh _ _ _ _ _ _) ?_)
  try simp only [Act.put]
  refine wp_gen (fun wx => Ms w wx [(w9.heap.size, 25, shV Ai4 ni4 ci4 Al4 nl4 cl4), (g3, 25, shV Ai3 ni3 ci3 Al3 nl3 cl3), (g2, 25, shV Ai2 ni2 ci2 Al2 nl2 cl2), (g1, 25, sv1), (w.heap.size, 25, sv)] ∧ Below lo w4 wx ∧ lo ≤ wx.heap.size ∧ ShR wx wx.heap.size Ai2 ni2 ci2 Al2 nl2 cl2 (insR ids ll id).1 (insR ids ll id).2 ∧ IntsM lo wx Ai2 ni2 ∧ LvsM lo wx Al2 nl2 ∧ ShR wx wx.heap.size Ai3 ni3 ci3 Al3 nl3 cl3 (insR ids ll id).1 (insR ids ll id).2 ∧ ShR wx wx.heap.size Ai4 ni4 ci4 Al4 nl4 cl4 (delR ids ll id).1 (delR ids ll id).2 ∧ IntsM lo wx Ai4 ni4 ∧ LvsM lo wx Al4 nl4) ⟨hM9, hB9, hle9, hs2, hi2, hl2, hs3, hs4, hi4, hl4⟩ ?_
  clear hM9 hB9 hle9 hs2 hi2 hl2 hs3 hs4 hi4 hl4
  rintro w10 ⟨hM10, hB10, hle10, hs2, hi2, hl2, hs3, hs4, hi4, hl4⟩
  obtain ⟨g4, hg4⟩ : ∃ g, g = w9.heap.size := ⟨_, rfl⟩
  rw [← hg4] at hM10 ⊢
  clear hg4
  go_wp2_with ((with_reducible show wpList _ _ _ (⟨some 48, _, _, _, _, _⟩ :: _) _ _); refine wpList_loadC (by kernel_rfl) 25 (.tmp 2) rfl (w.heap.size) rfl 25 sv _ (hM10.get 4 rfl) Try.underlying25 rfl Hsz.out ?_)
  refine (hdb _ hM10.old).mono ?_
  intro e w11 hP
  obtain ⟨hb11, Ai5, ni5, ci5, Al5, nl5, cl5, rfl, hn⟩ := hP.shape2
  have hn := hn.mono hle10
  have hM11 := (hM10.call hb11).put 25 #[.slice none 0 0, .slice none 0 0] (shV Ai5 ni5 ci5 Al5 nl5 cl5)
  have hp := below_put w11 25 #[.slice none 0 0, .slice none 0 0] (shV Ai5 ni5 ci5 Al5 nl5 cl5)
  have hbb := c_call hb11 hp
  have hB11 := hB10.trans (hbb.mono hle10)
  have hle11 := Nat.le_trans hle10 hbb.size
  have hmu := Mut.of_below hbb hle10
  have hmp := Mut.of_below hp (Nat.le_trans hle10 hb11.size)
  have hs2 := (hs2.below hbb).more hbb.size
  have hi2 := hi2.mut hmu
  have hl2 := hl2.mut hmu
  have hs3 := (hs3.below hbb).more hbb.size
  have hs4 := (hs4.below hbb).more hbb.size
  have hi4 := hi4.mut hmu
  have hl4 := hl4.mut hmu
  have hs5 := (hn.sh.below hp).more hp.size
  clear hdb hM10 hB10 hle10 hb11 hn hP hp hbb hmu hmp 
  go_upto_region 9 with first | ((with_reducible show wpList _ _ _ (⟨some 48, _, _, _, _, _⟩ :: _) _ _); refine wpList_loadC (by kernel_rfl) 25 (.tmp 2) rfl (w.heap.size) rfl 25 sv _ (hM10.get 4 rfl) Try.underlying25 rfl Hsz.out ?_) | ((with_reducible show wpList _ _ _ (⟨none, Op.store 25 _ _, _, _, _, _⟩ :: _) _ _); refine wpList_store_row rfl 25 (.tmp 13) (.tmp 51) rfl (w11.heap.size) (shV Ai5 ni5 ci5 Al5 nl5 cl5) rfl rfl 25 _ (RowC.new _ _ _) (sizeSh _ _ _ _ _ _) rfl (one_sh _ _ _ _ _ _) ?_)
  try simp only [Act.put]
  refine wp_gen (fun wx => Ms w wx [(w11.heap.size, 25, shV Ai5 ni5 ci5 Al5 nl5 cl5), (g4, 25, shV Ai4 ni4 ci4 Al4 nl4 cl4), (g3, 25, shV Ai3 ni3 ci3 Al3 nl3 cl3), (g2, 25, shV Ai2 ni2 ci2 Al2 nl2 cl2), (g1, 25, sv1), (w.heap.size, 25, sv)] ∧ Below lo w4 wx ∧ lo ≤ wx.heap.size ∧ ShR wx wx.heap.size Ai2 ni2 ci2 Al2 nl2 cl2 (insR ids ll id).1 (insR ids ll id).2 ∧ IntsM lo wx Ai2 ni2 ∧ LvsM lo wx Al2 nl2 ∧ ShR wx wx.heap.size Ai3 ni3 ci3 Al3 nl3 cl3 (insR ids ll id).1 (insR ids ll id).2 ∧ ShR wx wx.heap.size Ai4 ni4 ci4 Al4 nl4 cl4 (delR ids ll id).1 (delR ids ll id).2 ∧ IntsM lo wx Ai4 ni4 ∧ LvsM lo wx Al4 nl4 ∧ ShR wx wx.heap.size Ai5 ni5 ci5 Al5 nl5 cl5 (delR ids ll id).1 (delR ids ll id).2) ⟨hM11, hB11, hle11, hs2, hi2, hl2, hs3, hs4, hi4, hl4, hs5⟩ ?_
  clear hM11 hB11 hle11 hs2 hi2 hl2 hs3 hs4 hi4 hl4 hs5
  rintro w12 ⟨hM12, hB12, hle12, hs2, hi2, hl2, hs3, hs4, hi4, hl4, hs5⟩
  obtain ⟨g5, hg5⟩ : ∃ g, g = w11.heap.size := ⟨_, rfl⟩
  rw [← hg5] at hM12 ⊢
  clear hg5
  have hab := Same_anyT Ai2 ni2 ci2 Al2 nl2 cl2 _ _ Ai3 ni3 ci3 Al3 nl3 cl3 _ _ w12 hs2 hs3
  have hcd := fun wx (hx : Below w12.heap.size w12 wx) => Same_anyT Ai4 ni4 ci4 Al4 nl4 cl4 _ _ Ai5 ni5 ci5 Al5 nl5 cl5 _ _ wx ((hs4.below hx).more hx.size) ((hs5.below hx).more hx.size)
  simp only [beq_self_eq_true, Bool.and_self] at hab hcd
  have hbd : ni2 ≤ maxLen ∧ nl2 ≤ maxLen ∧ ni4 ≤ maxLen ∧ nl4 ≤ maxLen := ⟨Nat.le_trans hs2.hci hs2.hmi, Nat.le_trans hs2.hcl hs2.hml, Nat.le_trans hs4.hci hs4.hmi, Nat.le_trans hs4.hcl hs4.hml⟩
  clear hs2 hs3 hs4 hs5
  go_wp2_with first | ((with_reducible show wpList _ _ _ (⟨some 53, _, _, _, _, _⟩ :: _) _ _); refine wpList_loadC (by kernel_rfl) 25 (.tmp 7) rfl (g2) rfl 25 #[.slice Ai2 ni2 ci2, .slice Al2 nl2 cl2] _ (hM12.get 3 rfl) Try.underlying25 rfl shapeInfo2 ?_) | ((with_reducible show wpList _ _ _ (⟨some 54, _, _, _, _, _⟩ :: _) _ _); refine wpList_loadC (by kernel_rfl) 25 (.tmp 9) rfl (g3) rfl 25 #[.slice Ai3 ni3 ci3, .slice Al3 nl3 cl3] _ (hM12.get 2 rfl) Try.underlying25 rfl shapeInfo2 ?_)
  refine hab.mono ?_
  rintro e w13 ⟨rfl, hb13⟩
  have hM13 := hM12.call hb13
  have hcd := hcd w13 hb13
  clear hab
  go_wp2_with first | ((with_reducible show wpList _ _ _ (⟨some 62, _, _, _, _, _⟩ :: _) _ _); refine wpList_loadC (by kernel_rfl) 25 (.tmp 11) rfl (g4) rfl 25 #[.slice Ai4 ni4 ci4, .slice Al4 nl4 cl4] _ (hM13.get 1 rfl) Try.underlying25 rfl shapeInfo2 ?_) | ((with_reducible show wpList _ _ _ (⟨some 63, _, _, _, _, _⟩ :: _) _ _); refine wpList_loadC (by kernel_rfl) 25 (.tmp 13) rfl (g5) rfl 25 #[.slice Ai5 ni5 ci5, .slice Al5 nl5 cl5] _ (hM13.get 0 rfl) Try.underlying25 rfl shapeInfo2 ?_)
  refine hcd.mono ?_
  rintro e w14 ⟨rfl, hb14⟩
  have hM14 := hM13.call hb14
  have hb124 := hb13.trans (hb14.mono hb13.size)
  have hB14 := hB12.trans (hb124.mono hle12)
  have hle14 := Nat.le_trans hle12 hb124.size
  have hmu := Mut.of_below hb124 hle12
  have hi2 := hi2.mut hmu
  have hl2 := hl2.mut hmu
  have hi4 := hi4.mut hmu
  have hl4 := hl4.mut hmu
  clear hcd hM13 hM12 hB12 hle12 hb13 hb14 hb124 hmu
  go_upto_region 11 with first | ((with_reducible show wpList _ _ _ (⟨some 71, _, _, _, _, _⟩ :: _) _ _); refine wpList_loadC (by kernel_rfl) 25 (.tmp 7) rfl (g2) rfl 25 #[.slice Ai2 ni2 ci2, .slice Al2 nl2 cl2] _ (hM14.get 3 rfl) Try.underlying25 rfl shapeInfo2 ?_) | ((with_reducible show wpList _ _ _ (⟨some 72, _, _, _, _, _⟩ :: _) _ _); refine wpList_loadC (by kernel_rfl) 25 (.tmp 11) rfl (g4) rfl 25 #[.slice Ai4 ni4 ci4, .slice Al4 nl4 cl4] _ (hM14.get 1 rfl) Try.underlying25 rfl shapeInfo2 ?_)
  try simp only [Act.put]
  have hal := d_al w14 (.cells #[.slice Ai2 ni2 ci2, .slice Al2 nl2 cl2, .slice Ai4 ni4 ci4, .slice Al4 nl4 cl4] 25)
  have hma := Mut.of_below hal hle14
  have hTwo : TwoM lo (w14.alloc (.cells #[.slice Ai2 ni2 ci2, .slice Al2 nl2 cl2, .slice Ai4 ni4 ci4, .slice Al4 nl4 cl4] 25)) w14.heap.size := TwoM.mk_ (RowC.new _ _ _) hbd.1 hbd.2.1 hbd.2.2.1 hbd.2.2.2 (hi2.mut hma) (hl2.mut hma) (hi4.mut hma) (hl4.mut hma)
  have hBO := hB14.trans (hal.mono hle14)
  have hleO := Nat.le_trans hle14 hal.size
  refine wp_gen (fun wx => TwoM lo wx w14.heap.size ∧ Below lo w4 wx ∧ lo ≤ wx.heap.size) ⟨hTwo, hBO, hleO⟩ ?_
  clear hTwo hBO hleO hal hma hi2 hl2 hi4 hl4 hM14 hB14 hle14 hbd hia hib hda hdb
  rintro wO ⟨hTwo, hBO, hleO⟩
  obtain ⟨gR, hgR⟩ : ∃ g, g = w14.heap.size := ⟨_, rfl⟩
  rw [← hgR] at hTwo ⊢
  clear hgR
  go_loopw [75] (fun i wr => ∃ k : Nat, k ≤ 2 ∧ i = .int .i64 (k : Int) ∧ Mut lo wO wr ∧ lo ≤ wr.heap.size) (fun i _ => 2 - (intOf i).toNat)
  case atStart => exact ⟨0, by omega, rfl, Mut.refl _ _, hleO⟩
  case round =>
    obtain ⟨k, hk, rfl, hmO, hler⟩ := hrel
    by_cases hk2 : k < 2
    · obtain ⟨Ax, nx, cx, Bx, mx, dx, hrg, hnx, hmx, hix, hlx⟩ := hTwo k hk2
      have hrg := hmO.range hrg
      have hix := hix.mut hmO
      have hlx := hlx.mut hmO
      have k0 : (0 : Int) ≤ (k : Int) := by omega
      have k1 : (k : Int) < 2 := by omega
      have hbp := below_put wr 25 #[.slice none 0 0, .slice none 0 0] #[.slice Ax nx cx, .slice Bx mx dx]
      have hmp := Mut.of_below hbp hler
      have hRx : RowC ((wr.alloc (.cells #[.slice none 0 0, .slice none 0 0] 25)).setRow wr.heap.size #[.slice Ax nx cx, .slice Bx mx dx]) wr.heap.size 25 #[.slice Ax nx cx, .slice Bx mx dx] := (RowC.new _ _ _).row _
      have q0 := hRx.cell (i := 0) (v := .slice Ax nx cx) rfl
      have q1 := hRx.cell (i := 1) (v := .slice Bx mx dx) rfl
      have hix := hix.mut hmp
      have hlx := hlx.mut hmp
      have hmO := hmO.trans hmp
      have hler2 := Nat.le_trans hler hbp.size
      clear hRx hmp hbp hler
      go_upto_region 13 with first | ((with_reducible show wpList _ _ _ (⟨some 78, _, _, _, _, _⟩ :: _) _ _); refine wpList_load_midG (by kernel_rfl) 25 (.tmp 77) rfl gR (k * 2) rfl [.slice Ax nx cx, .slice Bx mx dx] _ hrg Try.underlying25 rfl shapeInfo2 ?_) | ((with_reducible show wpList _ _ _ (⟨none, Op.store 25 _ _, _, _, _, _⟩ :: _) _ _); refine wpList_store_row rfl 25 (.tmp 17) (.tmp 78) rfl (wr.heap.size) #[.slice Ax nx cx, .slice Bx mx dx] rfl rfl 25 _ (RowC.new _ _ _) shapeInfo2 rfl (by simp [Value.oneCell']) ?_)
      try simp only [Act.put]
      refine wp_gen (fun wx => Mut lo wO wx ∧ lo ≤ wx.heap.size ∧ IntsM lo wx Ax nx ∧ LvsM lo wx Bx mx ∧ wx.cell? ⟨wr.heap.size, 0, none⟩ = some (.slice Ax nx cx) ∧ wx.cell? ⟨wr.heap.size, 1, none⟩ = some (.slice Bx mx dx)) ⟨hmO, hler2, hix, hlx, q0, q1⟩ ?_
      clear hmO hler2 hix hlx q0 q1 hrg
      rintro wb ⟨hmO, hleb, hix, hlx, q0, q1⟩
      obtain ⟨gx, hgx⟩ : ∃ g, g = wr.heap.size := ⟨_, rfl⟩
      rw [← hgx] at q0 q1 ⊢
      clear hgx
      rw [maxLen] at hnx hmx
      go_wp2_with fail
      go_loopw [82] (fun i wz => ∃ j : Nat, j ≤ nx ∧ i = .int .i64 (j : Int) ∧ Mut lo wb wz) (fun i _ => nx - (intOf i).toNat)
      case atStart => exact ⟨0, by omega, rfl, Mut.refl _ _⟩
      case round =>
        obtain ⟨j, hj, rfl, hm⟩ := hrel
        have p0 := hm.non _ _ q0 not_isI
        by_cases hjn : j < nx
        · obtain ⟨b, o, rfl, hb, ht, x, hx⟩ := (hix.mut hm) j hjn
          have f0 := ht.free (o + j)
          have hm2 := hm.set hx hb (wrap64 (x + 1))
          have j0 : (0 : Int) ≤ (j : Int) := by omega
          have j1 : (j : Int) < (nx : Int) := by omega
          clear ht
          go_wp2_with fail
          go_roundw
          case rel => exact ⟨j + 1, by omega, by go_num, hm2⟩
          case measure => simp [intOf]; omega
        · obtain rfl : j = nx := by omega
          have p1 := hm.non _ _ q1 not_isI
          have hlx := hlx.mut hm
          go_wp2_with fail
          clear p0 p1
          go_loopw [96] (fun i wz => ∃ q : Nat, q ≤ mx ∧ i = .int .i64 (q : Int) ∧ Mut lo wb wz ∧ LvsM lo wz Bx mx) (fun i _ => mx - (intOf i).toNat)
          case atStart => exact ⟨0, by omega, rfl, hm, hlx⟩
          case round =>
            clear hm hlx
            obtain ⟨q, hq, rfl, hm, hlx⟩ := hrel
            by_cases hqm : q < mx
            · obtain ⟨b, o, A', m, c, rfl, hc, hmm, hi⟩ := hlx q hqm
              have j0 : (0 : Int) ≤ (q : Int) := by omega
              have j1 : (q : Int) < (mx : Int) := by omega
              rw [maxLen] at hmm
              go_wp2_with fail
              go_loopw [102] (fun i wz2 => ∃ r : Nat, r ≤ m ∧ i = .int .i64 (r : Int) ∧ Mut lo wr wz2) (fun i _ => m - (intOf i).toNat)
              case atStart => exact ⟨0, by omega, rfl, Mut.refl _ _⟩
              case round =>
                obtain ⟨r, hr, rfl, hm3⟩ := hrel
                by_cases hrm : r < m
                · obtain ⟨b3, o3, rfl, hb3, ht3, x, hx⟩ := (hi.mut hm3) r hrm
                  have f0 := ht3.free (o3 + r)
                  have hm4 := hm3.set hx hb3 (wrap64 (x + 1))
                  have r0 : (0 : Int) ≤ (r : Int) := by omega
                  have r1 : (r : Int) < (m : Int) := by omega
                  clear ht3
                  go_wp2_with fail
                  go_roundw
                  case rel => exact ⟨r + 1, by omega, by go_num, hm4⟩
                  case measure => simp [intOf]; omega
                · obtain rfl : r = m := by omega
                  have hm5 := hm.trans hm3
                  have hlx5 := hlx.mut hm3
                  go_wp2_with fail
                  go_roundw
                  case rel => exact ⟨q + 1, by omega, by go_num, hm5, hlx5⟩
                  case measure => simp [intOf]; omega
            · obtain rfl : q = mx := by omega
              have hm6 := hmO.trans hm
              have hle6 := Nat.le_trans hleb hm.low.size
              clear hm hlx
              go_wp2_with fail
              go_roundw
              case rel => exact ⟨k + 1, by omega, by go_num, hm6, hle6⟩
              case measure => simp [intOf]; omega
    · obtain rfl : k = 2 := by omega
      obtain ⟨hMe, hse⟩ := hend wr (hBO.trans hmO.low)
      have hsm := hsm wr hMe.old Ai1 ni1 ci1 Al1 nl1 cl1 hse
      rw [Hsv1.out] at hsm
      clear hse hend hTwo hmO hBO hleO hler
      go_wp2_with first | ((with_reducible show wpList _ _ _ (⟨some 119, _, _, _, _, _⟩ :: _) _ _); refine wpList_loadC (by kernel_rfl) 25 (.tmp 2) rfl (w.heap.size) rfl 25 sv _ (hMe.get 1 rfl) Try.underlying25 rfl Hsz.out ?_) | ((with_reducible show wpList _ _ _ (⟨some 120, _, _, _, _, _⟩ :: _) _ _); refine wpList_loadC (by kernel_rfl) 25 (.tmp 6) rfl (g1) rfl 25 sv1 _ (hMe.get 0 rfl) Try.underlying25 rfl Hsz1.out ?_)
      refine hsm.mono ?_
      rintro e wl ⟨rfl, hbl⟩
      have hw := (hMe.call hbl).old
      clear hsm
      go_wp2_with fail
      go_ret
      exact ⟨rfl, hw⟩

end Go.Proofs.Ytjhcnhihmgpgbaa

