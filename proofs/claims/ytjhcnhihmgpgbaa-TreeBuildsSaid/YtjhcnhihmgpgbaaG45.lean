import Derived.Test.YtjhcnhihmgpgbaaG26
/-
  THE WALK of TreeBuilds (coterielaw10), over what the program's calls answer.
-/
set_option linter.unusedVariables false
namespace Go.Proofs.Ytjhcnhihmgpgbaa
open Go.RowKit

set_option maxRecDepth 100000 in
set_option maxHeartbeats 4000000 in
theorem walkH_TreeBuilds (hB : HTB) (hC : HTC) (hS : HTM) (A : Option Addr) (n c : Nat) (xs : List Int) (w : World) (hn : n ≤ maxLen) (hr : Rd w w.heap.size A n (xs.map iv)) :
    Calls Try.prog 5 #[.slice A n c] w fun e w' => e = .returned (.bool true) ∧ Below w.heap.size w w' := by
  have hm : n < 9223372036854775808 := by unfold maxLen at hn; omega
  have hpa := fun (hx : n ≤ 150) wx (hb : Below w.heap.size w wx) => hB A n c xs wx (by omega) (d_rd hr hb)
  have hpb := fun wx (hb : Below w.heap.size w wx) => BuildT_any A n c xs wx hn (d_rd hr hb)
  clear hr
  go_enter Try.func5, Try.ntmps5
  go_wp2_with fail
  refine (live10 hB hC hS _).mono ?_
  rintro e w1 ⟨rfl, hb1⟩
  have hM1 := (Ms.nil w).call hb1
  clear hb1
  by_cases hx : 150 < n
  · go_wp2_with fail
    go_ret
    exact ⟨rfl, hM1.old⟩
  have hpa := hpa (by omega)
  go_wp2_with fail
  refine (hpa _ hM1.old).mono ?_
  rintro e w2 ⟨hb2, Ai, ni, ci, Al, nl, cl, rfl, hsh⟩
  have hM2 := (hM1.call hb2).put 25 #[.slice none 0 0, .slice none 0 0] (shV Ai ni ci Al nl cl)
  have hB2 : Below w2.heap.size w2 ((w2.alloc (.cells #[.slice none 0 0, .slice none 0 0] 25)).setRow w2.heap.size (shV Ai ni ci Al nl cl)) := below_setRow ((Below.refl _ _).alloc (Nat.le_refl _) _) (Nat.le_refl _) _
  have hsh2 := hsh.sh.below hB2
  clear hpa hM1 hB2 hsh hb2
  go_upto_region 7 with ((with_reducible show wpList _ _ _ (⟨none, Op.store 25 _ _, _, _, _, _⟩ :: _) _ _); refine wpList_store_row rfl 25 (.tmp 4) (.tmp 18) rfl (w2.heap.size) (shV Ai ni ci Al nl cl) rfl rfl 25 _ (RowC.new _ _ _) (sizeSh _ _ _ _ _ _) rfl (one_sh _ _ _ _ _ _) ?_)
  try simp only [Act.put]
  refine wp_gen (fun wx => Ms w wx [(w2.heap.size, 25, shV Ai ni ci Al nl cl)] ∧ ShR wx w2.heap.size Ai ni ci Al nl cl (bldS xs [] []).2.1 (levI (bldS xs [] []).2.2)) ⟨hM2, hsh2⟩ ?_
  clear hM2 hsh2
  rintro w3 ⟨hM3, hsh3⟩
  obtain ⟨g1, hg1⟩ : ∃ g, g = w2.heap.size := ⟨_, rfl⟩
  rw [← hg1] at hM3 hsh3 ⊢
  clear hg1
  go_wp2_with fail
  refine (hpb _ hM3.old).mono ?_
  rintro e w4 ⟨hb4, Ai', ni', ci', Al', nl', cl', rfl, hsh'⟩
  have hM4 := (hM3.call hb4).put 25 #[.slice none 0 0, .slice none 0 0] (shV Ai' ni' ci' Al' nl' cl')
  have hB4 : Below w4.heap.size w4 ((w4.alloc (.cells #[.slice none 0 0, .slice none 0 0] 25)).setRow w4.heap.size (shV Ai' ni' ci' Al' nl' cl')) := below_setRow ((Below.refl _ _).alloc (Nat.le_refl _) _) (Nat.le_refl _) _
  have hlt := Nat.le_of_lt (hM3.get 0 rfl).lt
  have hsh4 := (hsh3.below (hb4.mono hlt)).below (hB4.mono (Nat.le_trans hlt hb4.size))
  have hsh4' := hsh'.sh.below hB4
  clear hpb hM3 hB4 hsh' hsh3
  go_upto_region 8 with ((with_reducible show wpList _ _ _ (⟨none, Op.store 25 _ _, _, _, _, _⟩ :: _) _ _); refine wpList_store_row rfl 25 (.tmp 6) (.tmp 23) rfl (w4.heap.size) (shV Ai' ni' ci' Al' nl' cl') rfl rfl 25 _ (RowC.new _ _ _) (sizeSh _ _ _ _ _ _) rfl (one_sh _ _ _ _ _ _) ?_)
  try simp only [Act.put]
  refine wp_gen (fun wx => w4.heap.size ≤ wx.heap.size ∧ Ms w wx [(w4.heap.size, 25, shV Ai' ni' ci' Al' nl' cl'), (g1, 25, shV Ai ni ci Al nl cl)] ∧ ShR wx w4.heap.size Ai ni ci Al nl cl (bldS xs [] []).2.1 (levI (bldS xs [] []).2.2) ∧ ShR wx w4.heap.size Ai' ni' ci' Al' nl' cl' (bldS xs [] []).2.1 (levI (bldS xs [] []).2.2)) ⟨by simp, hM4, hsh4.more (Nat.le_trans hlt hb4.size), hsh4'⟩ ?_
  clear hM4 hsh4 hsh4' hb4 hlt
  rintro w5 ⟨hle, hM5, hsh5, hsh5'⟩
  have hsm := Same_anyT Ai ni ci Al nl cl _ _ Ai' ni' ci' Al' nl' cl' _ _ w5 (hsh5.more hle) (hsh5'.more hle)
  simp only [beq_self_eq_true, Bool.and_self] at hsm
  obtain ⟨g2, hg2⟩ : ∃ g, g = w4.heap.size := ⟨_, rfl⟩
  rw [← hg2] at hM5 ⊢
  clear hg2 hsh5 hsh5' hle
  have Hsz := Lib.hid (sizeSh Ai ni ci Al nl cl)
  have Hsz' := Lib.hid (sizeSh Ai' ni' ci' Al' nl' cl')
  generalize shV Ai ni ci Al nl cl = sv at *
  generalize shV Ai' ni' ci' Al' nl' cl' = sv' at *
  generalize (bldS xs [] []).1 = er at *
  go_wp2_with first | ((with_reducible show wpList _ _ _ (⟨some 27, _, _, _, _, _⟩ :: _) _ _); refine wpList_loadC (by kernel_rfl) 25 (.tmp 4) rfl (g1) rfl 25 sv _ (hM5.get 1 rfl) Try.underlying25 rfl Hsz.out ?_) | ((with_reducible show wpList _ _ _ (⟨some 28, _, _, _, _, _⟩ :: _) _ _); refine wpList_loadC (by kernel_rfl) 25 (.tmp 6) rfl (g2) rfl 25 sv' _ (hM5.get 0 rfl) Try.underlying25 rfl Hsz'.out ?_)
  refine hsm.mono ?_
  rintro e w6 ⟨rfl, hb6⟩
  have hw := (hM5.call hb6).old
  clear hsm
  go_wp2_with fail
  go_ret
  exact ⟨rfl, hw⟩

end Go.Proofs.Ytjhcnhihmgpgbaa

