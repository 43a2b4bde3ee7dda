import Derived.Test.YtlidhdljgnijaaaDoorL32
import Derived.Test.YtlidhdljgnijaaaDoorL35
/-
  WHAT IS READ, told of one kind: a tree, or none; what the program's Read is asked to do.
-/
set_option linter.unusedVariables false
namespace Go.Proofs.YtlidhdljgnijaaaDoor
open Go.RowKit

def HGR : Prop := ∀ (Ab : Option Addr) (nb cb : Nat) (l : List UInt8) (d : Int) (w : World), Rd w w.heap.size Ab nb (l.map bv) → nb ≤ cb → cb ≤ maxLen → nb ≤ 1000000 → -9223372036854775808 ≤ d → d ≤ 9223372036854775807 →
  Calls Tryd.prog 25 #[.slice Ab nb cb, .int .i64 d] w (ReadPost w l d)

def kindU (l : List UInt8) (d : Int) : Int := if readE l d = 0 then kindR l d.toNat else 0
def idsU (l : List UInt8) (d : Int) : List Int := if readE l d = 0 then (idsR l d.toNat).1 else []
def lvsU (l : List UInt8) (d : Int) : List (List Int) := if readE l d = 0 then (lvsR l d.toNat).1 else []
def manyU (l : List UInt8) (d : Int) : Nat := if readE l d = 0 then manyR l d.toNat else 0
def ptsU (l : List UInt8) (d : Int) : List UInt8 := if readE l d = 0 then ptsR l d.toNat else []
def readM (l : List UInt8) (d : Int) : Int := if readE l d = 0 then readN l d else 0
theorem nodesI_leU (kind : Int) (ids : List Int) (ll : List (List Int)) : (nodesI kind ids ll).length ≤ 2000 := by
  by_cases hm : mayB kind ids ll = true
  · rcases Nat.eq_zero_or_pos ids.length with h0 | h0
    · rw [(nodesG_nf hm).1, List.length_map, nodesG, nodesU, if_pos h0]
      simp
    · have hT := top_facts hm h0
      have := hT.size
      have := hT.n
      rw [hT.nodes, List.length_map, RT.flat_len]
      omega
  · rw [nodesI, if_neg hm]
    simp
theorem manyR_le (l : List UInt8) (a : Nat) : manyR l a ≤ 2000 := nodesI_leU _ _ _
theorem manyU_le (l : List UInt8) (d : Int) : manyU l d ≤ 2000 := by
  rw [manyU]
  split
  · exact manyR_le l _
  · omega
theorem ReadPost.gen {w w' : World} {l : List UInt8} {d : Int} {e : Ending} (h : ReadPost w l d e w') :
    Below w.heap.size w w' ∧ ∃ Ai ni ci Al nl cl Ap cp, e = .returned (.tuple #[.agg (tgV (kindU l d) Ai ni ci Al nl cl Ap (manyU l d) cp), .int .i64 (readM l d), .int .i64 (readE l d)]) ∧ TgR w' w'.heap.size Ai ni ci Al nl cl (idsU l d) (lvsU l d) Ap (manyU l d) cp (ptsU l d) := by
  obtain ⟨hb, ⟨h1, h2⟩ | ⟨h1, Ai, ni, ci, Al, nl, cl, Ap, cp, h2, h3⟩⟩ := h
  · refine ⟨hb, none, 0, 0, none, 0, 0, none, 0, ?_, ?_⟩
    · rw [h2, kindU, manyU, readM, if_neg h1, if_neg h1, if_neg h1]
    · rw [idsU, lvsU, manyU, ptsU, if_neg h1, if_neg h1, if_neg h1, if_neg h1]
      exact ⟨⟨rfl, rfl, Nat.le_refl _, Nat.le_refl _, by simp [maxLen], by simp [maxLen], Rd.zero _ _ _, [], Rd.zero _ _ _, Lvs.nil _ _⟩, ⟨Rd.zero _ _ _, Nat.le_refl _, by simp [maxLen]⟩⟩
  · refine ⟨hb, Ai, ni, ci, Al, nl, cl, Ap, cp, ?_, ?_⟩
    · rw [h2, kindU, manyU, readM, if_pos h1, if_pos h1, if_pos h1, h1]
    · rw [idsU, lvsU, manyU, ptsU, if_pos h1, if_pos h1, if_pos h1, if_pos h1]
      exact h3
theorem sameG_self (kind : Int) (ids : List Int) (ll : List (List Int)) (ps : List UInt8) : sameG kind ids ll ps kind ids ll ps = true := by simp [sameG]

end Go.Proofs.YtlidhdljgnijaaaDoor

/-
  THE WALK of coterielaw13.TagReads over what the program's functions are asked to do.
-/
set_option linter.unusedVariables false
namespace Go.Proofs.YtlidhdljgnijaaaDoor
open Go.RowKit

set_option maxRecDepth 100000 in
set_option maxHeartbeats 8000000 in
theorem walkH_TagReads (hC : HGC) (hS : HGS) (hU : HGU) (hR : HGR) (Ab : Option Addr) (nb cb : Nat) (l : List UInt8) (d : Int) (w : World) (hc : nb ≤ cb) (hm : cb ≤ maxLen) (hr : Rd w w.heap.size Ab nb (l.map bv))
    (hd1 : -9223372036854775808 ≤ d) (hd2 : d ≤ 9223372036854775807) (hT : CTab w) :
    Calls Tryd.prog 4 #[.slice Ab nb cb, .int .i64 d] w fun e w' => e = .returned (.bool true) ∧ Below w.heap.size w w' := by
  go_enter Tryd.func4, Tryd.ntmps4
  go_wp2_with fail
  refine (live13 hC hS hU w hT).mono ?_
  rintro e w1 ⟨he, hb1⟩
  subst he
  by_cases hn : nb ≤ 6000
  rotate_left
  · have zn : (6000 : Int) < (nb : Int) := by omega
    go_wp2_with fail
    go_ret
    exact ⟨rfl, hb1⟩
  have zn : ¬ (6000 : Int) < (nb : Int) := by omega
  have h1 := hR Ab nb cb l d w1 ((hr.below hb1).more hb1.size) hc hm (by omega) hd1 hd2
  go_wp2_with fail
  refine h1.mono ?_
  rintro e w2 h2
  obtain ⟨hb2, Ai, ni, ci, Al, nl, cl, Ap, cp, he, hT2⟩ := h2.gen
  subst he
  clear h1 h2
  have hM2 := (Ms.nil w2).put 28 #[.int .i64 0, .slice none 0 0, .slice none 0 0, .slice none 0 0] (tgV (kindU l d) Ai ni ci Al nl cl Ap (manyU l d) cp)
  have hb02 := hb1.trans (hb2.mono hb1.size)
  obtain ⟨g, hg⟩ : ∃ g, g = w2.heap.size := ⟨_, rfl⟩
  rw [← hg] at hM2
  go_upto_region 7 with ((with_reducible show wpList _ _ _ (⟨none, Op.store 28 _ _, _, _, _, _⟩ :: _) _ _); refine wpList_store_row rfl 28 (.tmp 6) _ rfl w2.heap.size (tgV (kindU l d) Ai ni ci Al nl cl Ap (manyU l d) cp) rfl rfl 28 _ (RowC.new _ _ _) tgInfo2 rfl (by simp [tgV, Value.oneCell']) ?_)
  try simp only [Act.put]
  have hTs := hT2.below (below_setRow (d_al w2 (.cells #[.int .i64 0, .slice none 0 0, .slice none 0 0, .slice none 0 0] 28)) (Nat.le_refl _) (tgV (kindU l d) Ai ni ci Al nl cl Ap (manyU l d) cp))
  have hgw : w.heap.size ≤ g := by rw [hg]; exact hb02.size
  rw [← hg] at hTs ⊢
  refine wp_gen (fun wx => TgR wx g Ai ni ci Al nl cl (idsU l d) (lvsU l d) Ap (manyU l d) cp (ptsU l d) ∧ Ms w2 wx [(g, 28, tgV (kindU l d) Ai ni ci Al nl cl Ap (manyU l d) cp)]) ⟨hTs, hM2⟩ ?_
  clear hTs hM2 hb2 hT2 hg
  rintro w3 ⟨hT3, hM3⟩
  have hb03 := hb02.trans (hM3.old.mono hb02.size)
  have h3 := RRead13 Ab nb cb l d w3 ((hr.below hb03).more hb03.size) hc (by omega)
  go_wp2_with fail
  refine h3.mono ?_
  rintro e w4 h4
  obtain ⟨hb4, Ai', ni', ci', Al', nl', cl', Ap', cp', he, hT4⟩ := h4.gen
  subst he
  clear h3 h4
  have hg3 := (hM3.get 0 rfl).lt
  have hb04 := hb03.trans (hb4.mono hb03.size)
  have hM4 := (Ms.mk (L := [(g, 28, tgV (kindU l d) Ai ni ci Al nl cl Ap (manyU l d) cp)]) hb04 (fun p hp => (hM3.call hb4).rows p hp)).put 28 #[.int .i64 0, .slice none 0 0, .slice none 0 0, .slice none 0 0] (tgV (kindU l d) Ai' ni' ci' Al' nl' cl' Ap' (manyU l d) cp')
  have hB5 := below_setRow (d_al w4 (.cells #[.int .i64 0, .slice none 0 0, .slice none 0 0, .slice none 0 0] 28)) (Nat.le_refl _) (tgV (kindU l d) Ai' ni' ci' Al' nl' cl' Ap' (manyU l d) cp')
  have hTa := (hT3.below (hb4.mono (Nat.le_of_lt hg3))).below (hB5.mono (by have := hb4.size; omega))
  have hTb := hT4.below hB5
  obtain ⟨g', hg'⟩ : ∃ g', g' = w4.heap.size := ⟨_, rfl⟩
  have hgg : g ≤ g' := by have := hb4.size; omega
  go_upto_region 8 with ((with_reducible show wpList _ _ _ (⟨none, Op.store 28 _ _, _, _, _, _⟩ :: _) _ _); refine wpList_store_row rfl 28 (.tmp 9) _ rfl w4.heap.size (tgV (kindU l d) Ai' ni' ci' Al' nl' cl' Ap' (manyU l d) cp') rfl rfl 28 _ (RowC.new _ _ _) tgInfo2 rfl (by simp [tgV, Value.oneCell']) ?_)
  try simp only [Act.put]
  rw [← hg'] at hM4 hTa hTb ⊢
  refine wp_gen (fun wx => (TgR wx g Ai ni ci Al nl cl (idsU l d) (lvsU l d) Ap (manyU l d) cp (ptsU l d) ∧ TgR wx g' Ai' ni' ci' Al' nl' cl' (idsU l d) (lvsU l d) Ap' (manyU l d) cp' (ptsU l d)) ∧ Ms w wx [(g', 28, tgV (kindU l d) Ai' ni' ci' Al' nl' cl' Ap' (manyU l d) cp'), (g, 28, tgV (kindU l d) Ai ni ci Al nl cl Ap (manyU l d) cp)]) ⟨⟨hTa, hTb⟩, hM4⟩ ?_
  clear hTa hTb hM4 hB5 hT4 hT3 hM3 hb4 hg'
  rintro w5 ⟨⟨hTa, hTb⟩, hM5⟩
  have hlt := (hM5.get 0 rfl).lt
  have hmn := manyU_le l d
  have hsm := RSame13 (kindU l d) Ai ni ci Al nl cl (idsU l d) (lvsU l d) Ap (manyU l d) cp (ptsU l d) (kindU l d) Ai' ni' ci' Al' nl' cl' (idsU l d) (lvsU l d) Ap' (manyU l d) cp' (ptsU l d) w5 (hTa.more (by omega)) (hTb.more (by omega)) (by omega) (by omega)
  rw [sameG_self] at hsm
  have hold := hM5.old
  have r1 := hM5.get 1 rfl
  have r0 := hM5.get 0 rfl
  go_wp2_with (first
    | ((with_reducible show wpList _ _ _ (⟨some 35, _, _, _, _, _⟩ :: _) _ _); refine wpList_loadC (by kernel_rfl) 28 (.tmp 6) rfl g rfl 28 (tgV (kindU l d) Ai ni ci Al nl cl Ap (manyU l d) cp) _ r1 Tryd.underlying28 rfl tgInfo2 ?_)
    | ((with_reducible show wpList _ _ _ (⟨some 36, _, _, _, _, _⟩ :: _) _ _); refine wpList_loadC (by kernel_rfl) 28 (.tmp 9) rfl g' rfl 28 (tgV (kindU l d) Ai' ni' ci' Al' nl' cl' Ap' (manyU l d) cp') _ r0 Tryd.underlying28 rfl tgInfo2 ?_))
  refine hsm.mono ?_
  rintro e w6 ⟨he, hb6⟩
  subst he
  have hfin := c_call hold hb6
  clear hsm hM5 hTa hTb r0 r1 hb6
  go_wp2_with fail
  go_ret
  exact ⟨rfl, hfin⟩

end Go.Proofs.YtlidhdljgnijaaaDoor

