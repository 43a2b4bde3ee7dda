import Derived.Test.YtlidhdljgnijaaaDoorL18
import Derived.StillTailTactics
import Derived.Test.YtlidhdljgnijaaaDoorL20
import Derived.Test.YtlidhdljgnijaaaDoorL04
import Derived.Test.YtlidhdljgnijaaaDoorL12
import Derived.Test.YtlidhdljgnijaaaDoorL05
import Derived.Test.YtlidhdljgnijaaaDoorL15
/-
  CONTRACTS of the document's First and Sum (coterieref02).
-/
set_option linter.unusedVariables false
namespace Go.Proofs.YtlidhdljgnijaaaDoor
open Go.RowKit

set_option maxRecDepth 1000000 in
set_option maxHeartbeats 400000 in
theorem First_any (w : World) :
    Calls Tryd.prog 65 #[] w fun e w' => e = .returned (.agg (firstU.map wv).toArray) ∧ Below w.heap.size w w' := by
  go_enter Tryd.func65, Tryd.ntmps65
  go_wp2_with (
    ((with_reducible show wpList _ _ _ (⟨none, _, _, _, _, _⟩ :: _) _ _)
     refine wpList_store_row rfl 94 (.tmp 0) (.tmp 1) rfl w.heap.size (firstU.map wv).toArray rfl rfl 94 _ (heap_alloc_new _ _) info8 rfl (one_wv _) ?_
     rw [World.setRow_alloc_new]))
  exact bodyPost_ret (results_cell_row rfl _ _ w.heap.size 94 _ (0, 0) _ rfl (heap_alloc_new _ _) Tryd.underlying94 rfl info8) rfl ⟨rfl, (Below.refl _ _).alloc (Nat.le_refl _) _⟩

def chunk (b : List UInt8) (q : Nat) : List UInt8 := (b.drop (64 * q)).take 64
def blocksTo (h : List UInt32) (b : List UInt8) : Nat → List UInt32
  | 0 => h
  | q + 1 => blockW (blocksTo h b q) (wordsU (chunk b q))
theorem blocksTo_len {h : List UInt32} (hh : h.length = 8) (b : List UInt8) : ∀ q, (blocksTo h b q).length = 8
  | 0 => hh
  | _ + 1 => addTo_len _ _ _
def sumU (l : List UInt8) : List UInt8 := bytesU (blocksTo firstU (padU l) ((padU l).length / 64))

set_option maxRecDepth 1000000 in
set_option maxHeartbeats 800000 in
theorem Sum_any (At : Option Addr) (m ct : Nat) (vs : List Value) (ts : List (List UInt8)) (w : World) (hm : m ≤ 5864062014805) (htot : ts.flatten.length ≤ 1099511627776)
    (hv : Rd w w.heap.size At m vs) (ht : Txs w w.heap.size vs ts) (hT : KTab w) :
    Calls Tryd.prog 38 #[.slice At m ct] w fun e w' => e = .returned (.agg ((sumU ts.flatten).map bv).toArray) ∧ Below w.heap.size w w' := by
  have Htot := Lib.hid htot
  clear htot
  go_enter Tryd.func38, Tryd.ntmps38
  go_wp2_with fail
  refine (All_any At m ct vs ts _ hm Htot.out ((hv.alloc (Nat.le_refl _) _).more (al0 _ _)) ((ht.below ((Below.refl _ _).alloc (Nat.le_refl _) _)).more (al0 _ _))).mono ?_
  rintro e w2 ⟨A2, n2, c2, rfl, hc2, hown2, hb2⟩
  have hn2 : n2 = ts.flatten.length := by have := hown2.1; rw [List.length_map] at this; omega
  have hn2' : n2 ≤ 1099511627776 := by rw [hn2]; exact Htot.out
  have hs2 : w.heap.size + 1 ≤ w2.heap.size := by have := hb2.size; simpa using this
  have hbw2 : Below w.heap.size w w2 := ((Below.refl _ _).alloc (Nat.le_refl _) _).trans (hb2.mono (al0 _ _))
  have hr0 : ArrB w2 w.heap.size 36 (List.replicate 32 0) := (ArrB.mk_ w _ _ (List.replicate 32 0) rfl rfl).below hb2 (by simp)
  clear hn2
  go_wp2_with fail
  refine (Padded_any A2 n2 c2 ts.flatten _ hn2' (Rd.of_own hown2)).mono ?_
  rintro e w3 ⟨A3, n3, c3, rfl, hc3, hown3, hb3⟩
  generalize hp : padU ts.flatten = p at *
  have Hp := Lib.hid hp
  have Hn3 := Lib.hid (show p.length = n3 by have := hown3.1; simpa using this)
  have Hp64 := Lib.hid (show p.length % 64 = 0 by rw [← hp]; exact padU_64 _)
  clear hp
  go_wp2_with fail
  refine (First_any _).mono ?_
  rintro e w4 ⟨rfl, hb4⟩
  have hn3 : n3 ≤ 1099511627848 := by
    have h1 := Hn3.out
    rw [← Hp.out, padU_len] at h1
    have := zeros_le ts.flatten.length
    have := Htot.out
    omega
  have Hfl := Lib.hid (show firstU.length = 8 from rfl)
  have hs3 : w.heap.size + 1 ≤ w3.heap.size := by have := hb3.size; omega
  have hs4 : w.heap.size + 1 ≤ w4.heap.size := by have := hb4.size; omega
  generalize hfu : firstU = f0 at *
  have Hfu := Lib.hid hfu
  clear hfu
  go_wp2_with (
    ((with_reducible show wpList _ _ _ (⟨none, _, _, _, _, _⟩ :: _) _ _)
     refine wpList_store_row rfl 94 (.tmp 4) (.tmp 9) rfl w4.heap.size (f0.map wv).toArray rfl rfl 94 _ (heap_alloc_new _ _) (by rw [info8]; simp [Hfl.out]) (by simp [Hfl.out]) (one_wv _) ?_
     rw [World.setRow_alloc_new]))
  go_loopw [5] (fun i wr => ∃ q : Nat, 64 * q ≤ n3 ∧ i = .int .i64 ((64 * q : Nat) : Int) ∧ ArrW wr w4.heap.size 94 (blocksTo f0 p q) ∧ Rd wr w4.heap.size A3 n3 (p.map bv) ∧ ArrB wr w.heap.size 36 (List.replicate 32 0) ∧ Below w.heap.size w wr) (fun i _ => (n3 - intOf i).toNat)
  case atStart =>
    refine ⟨0, by omega, rfl, ArrW.mk_ _ _ _ _ rfl rfl, ?_, ?_, ?_⟩
    · exact ((((Rd.of_own hown3).below hb4).alloc hb4.size _).more hb4.size)
    · exact ((hr0.below hb3 hs2).below hb4 hs3).alloc _
    · exact ((hbw2.trans (hb3.mono (Nat.le_of_succ_le hs2))).trans (hb4.mono (Nat.le_of_succ_le hs3))).alloc (Nat.le_of_succ_le hs4) _
  case round =>
    obtain ⟨q, hq, rfl, k4, kr, k2, hbel⟩ := hrel
    have hm64 := Hp64.out
    have hnp := Hn3.out
    by_cases hlt : 64 * q < n3
    · have hfit : 64 * q + 64 ≤ n3 := by omega
      clear hm64 hnp
      have hl4 := blocksTo_len Hfl.out p q
      have Hl4 := Lib.hid hl4
      have Hi4 := Lib.hid (show (Tryd.prog.info? 94).map (·.size) = some (((blocksTo f0 p q).map wv).toArray).size by rw [info8]; simp [hl4])
      clear hl4
      have Hnx := Lib.hid (show blocksTo f0 p (q + 1) = blockW (blocksTo f0 p q) (wordsU (chunk p q)) from rfl)
      have q0 : 0 ≤ 64 * (q : Int) := by omega
      have q1 : 64 * (q : Int) + 64 ≤ (n3 : Int) := by omega
      obtain ⟨a0, a1, a2, a3, a4, a5, a6, a7, hv⟩ := eight Hl4.out
      have k4' := k4
      rw [hv] at k4'
      have m0 := k4'.cell (i := 0) rfl
      have m1 := k4'.cell (i := 1) rfl
      have m2 := k4'.cell (i := 2) rfl
      have m3 := k4'.cell (i := 3) rfl
      have m4 := k4'.cell (i := 4) rfl
      have m5 := k4'.cell (i := 5) rfl
      have m6 := k4'.cell (i := 6) rfl
      have m7 := k4'.cell (i := 7) rfl
      have Hv := Lib.hid hv
      clear hv
      have hw : IntKind.i64.wrap (64 * (q : Int) + 64) = 64 * (q : Int) + 64 := by
        exact IntWalk.i64_in _ (by omega)
      obtain ⟨bb, oo, rfl, hbb, hcc⟩ := kr.pos (by omega)
      obtain ⟨nx, hnx⟩ : ∃ nx, blocksTo f0 p (q + 1) = nx := ⟨_, rfl⟩
      have hnl : nx.length = 8 := by rw [← hnx]; exact blocksTo_len Hfl.out p _
      have Hin := Lib.hid (show (Tryd.prog.info? 94).map (·.size) = some ((nx.map wv).toArray).size by rw [info8]; simp [hnl])
      have Hsn := Lib.hid (show (((blocksTo f0 p q).map wv).toArray).size = ((nx.map wv).toArray).size by simp [hnl, Hl4.out])
      have Hblk := Lib.hid (show Calls Tryd.prog 66 #[.agg #[.int .u32 (a0.toNat : Int), .int .u32 (a1.toNat : Int), .int .u32 (a2.toNat : Int), .int .u32 (a3.toNat : Int), .int .u32 (a4.toNat : Int), .int .u32 (a5.toNat : Int), .int .u32 (a6.toNat : Int), .int .u32 (a7.toNat : Int)], .slice (some ⟨bb, oo + 64 * q, none⟩) 64 (c3 - 64 * q)] wr.drew
          (fun e w' => e = .returned (.agg (nx.map wv).toArray) ∧ Below wr.heap.size wr.drew w') by
        have hrc : Rd wr.drew wr.drew.heap.size (some ⟨bb, oo + 64 * q, none⟩) 64 ((chunk p q).map bv) := by
          refine ⟨?_, fun _ => ⟨bb, oo + 64 * q, rfl, Nat.lt_trans hbb k4.lt, fun j u hu => ?_⟩⟩
          · simp [chunk, Hn3.out]; omega
          · have := hcc (64 * q + j) u (by
              rw [chunk, List.map_take, List.map_drop, List.getElem?_take] at hu
              split at hu
              · rwa [List.getElem?_drop] at hu
              · cases hu)
            rw [← Nat.add_assoc] at this
            exact this
        have hb := Block_any [a0, a1, a2, a3, a4, a5, a6, a7] (some ⟨bb, oo + 64 * q, none⟩) 64 (c3 - 64 * q) (chunk p q) wr.drew rfl (by omega) (by omega) hrc (fun i x hx => (hT.below hbel) i x hx)
        rw [← Hv.out, ← Hnx.out, hnx, Hv.out] at hb
        exact hb)
      have Hnx2 := Lib.hid hnx
      clear hnx hnl hcc k4'
      have q2 : 64 * (q : Int) ≤ 64 * (q : Int) + 64 := by omega
      have q3 : 64 * (q : Int) + 64 ≤ (c3 : Int) := by omega
      have q4 : (64 * (q : Int)).toNat = 64 * q := by omega
      have q5 : (64 * (q : Int) + 64).toNat = 64 * q + 64 := by omega
      have q6 : ¬ c3 = 64 * q := by omega
      have q7 : 0 ≤ 64 * (q : Int) + 64 := by omega
      go_wp2_with fail
      go_still_tail 6, (by kernel_rfl)
      change wpList _ _ _ _ _ wr.drew
      go_wp2_with (first
        | (go_at_call 66; refine Hblk.out.mono ?_; rintro e w5 ⟨rfl, hb5⟩)
        | ((with_reducible show wpList _ _ _ (⟨none, Op.store 94 _ _, _, _, _, _⟩ :: _) _ _); refine wpList_store_row rfl 94 (.tmp 4) (.tmp 22) rfl w4.heap.size (nx.map wv).toArray rfl rfl 94 _ (k4.drew.below hb5 k4.lt) Hin.out Hsn.out (one_wv _) ?_))
      go_roundw
      case rel =>
        have hbb5 : Below w.heap.size w w5 := hbel.trans ((⟨rfl, rfl, rfl, Nat.le_refl _, fun _ _ => rfl⟩ : Below w.heap.size wr wr.drew).trans (hb5.mono hbel.size))
        refine ⟨q + 1, by omega, by go_num, ?_, ?_, ?_, ?_⟩
        · rw [Hnx2.out]
          exact (k4.drew.below hb5 k4.lt).row nx
        · exact (kr.drew.below (hb5.mono (Nat.le_of_lt k4.lt))).keep fun p hp => cell_setRow_other _ _ _ _ (by omega)
        · exact (k2.drew.below hb5 k2.lt).rowFar (by omega) _
        · exact below_setRow hbb5 (Nat.le_of_succ_le hs4) _
      case measure => simp [intOf]; omega
    · have hqe : 64 * q = n3 := by omega
      have hl4 := blocksTo_len Hfl.out p q
      have Hfin := Lib.hid (show sumU ts.flatten = bytesU (blocksTo f0 p q) by
        rw [sumU, Hfu.out, Hp.out, Hn3.out, ← hqe, Nat.mul_div_cancel_left _ (by omega)])
      clear hm64 hnp
      generalize blocksTo f0 p q = hx at *
      have Hi4 := Lib.hid (show (Tryd.prog.info? 94).map (·.size) = some ((hx.map wv).toArray).size by rw [info8]; simp [hl4])
      have Hl4 := Lib.hid hl4
      have Hf := Lib.hid (show (Tryd.prog.info? 36).map (·.size) = some (((bytesU hx).map bv).toArray).size by rw [info32]; simp [bytesU_len, hl4])
      have Hz := Lib.hid (show ((List.replicate 32 (0 : UInt8)).map bv).toArray.size = (((bytesU hx).map bv).toArray).size by simp [bytesU_len, hl4])
      clear hl4
      go_wp2_with (first
        | ((with_reducible show wpList _ _ _ (⟨some 23, _, _, _, _, _⟩ :: _) _ _); refine wpList_load_row rfl 94 (.tmp 4) rfl w4.heap.size rfl 94 (hx.map wv).toArray (0, 0) _ k4 Tryd.underlying94 rfl Hi4.out ?_)
        | (go_at_call 67; refine (ShaBytes_any hx _ Hl4.out).mono ?_; rintro e w5 ⟨rfl, hb5⟩)
        | ((with_reducible show wpList _ _ _ (⟨none, Op.store 36 _ _, _, _, _, _⟩ :: _) _ _); refine wpList_store_row rfl 36 (.tmp 2) (.tmp 24) rfl w.heap.size ((bytesU hx).map bv).toArray rfl rfl 36 _ (k2.below hb5 k2.lt) Hf.out Hz.out (one_bvA _) ?_))
      exact bodyPost_ret (results_cell_row rfl _ _ w.heap.size 36 _ (0, 0) _ rfl ((k2.below hb5 k2.lt).row (bytesU hx)) Tryd.underlying36 rfl Hf.out) rfl ⟨by rw [Hfin.out], below_setRow (hbel.trans (hb5.mono hbel.size)) (Nat.le_refl _) _⟩

end Go.Proofs.YtlidhdljgnijaaaDoor

/-
  NODES OF A TREE (layer 11): both kinds have the same nodes but the red ones, as a pure fact.
-/
set_option linter.unusedVariables false
namespace Go.Proofs.YtlidhdljgnijaaaDoor

/-- what both kinds say alike of a node -/
def coreR (x : RN) : Nat × Nat × Nat × Nat := (x.lev, x.at_, x.fr, x.to)
theorem treeOf_fr (kind : Int) (lv : List (List Nat)) : ∀ k a, (treeOf kind lv k a).fr = leafS lv k a
  | 0, a => rfl
  | k + 1, a => by
    rw [treeOf, leafS]
    split
    · split
      · exact treeOf_fr kind lv k _
      · exact treeOf_fr kind lv k _
    · exact treeOf_fr kind lv k _
theorem treeOf_to (lv : List (List Nat)) : ∀ k a, (treeOf 2 lv k a).to = (treeOf 1 lv k a).to
  | 0, a => rfl
  | k + 1, a => by
    rw [treeOf, treeOf]
    split
    · rw [if_pos rfl, if_neg (by decide)]
      exact treeOf_to lv k _
    · exact treeOf_to lv k _
theorem kinds_core (lv : List (List Nat)) : ∀ (k a off off' : Nat) (up up' : Int), (((treeOf 2 lv k a).flat off up).filter (fun x => !x.red)).map coreR = ((treeOf 1 lv k a).flat off' up').map coreR
  | 0, a, off, off', up, up' => by simp [treeOf, RT.flat, coreR]
  | k + 1, a, off, off', up, up' => by
    have ih := kinds_core lv k
    have hf := treeOf_fr 2 lv k
    have hf1 := treeOf_fr 1 lv k
    have ht := treeOf_to lv k
    rw [treeOf, treeOf]
    split
    · rw [if_pos rfl, if_neg (by decide)]
      simp only [RT.flat, RT.fr, List.filter_append, List.map_append]
      rw [ih _ _ off' _ ((off' + (treeOf 1 lv k (startT (lv.getD k []) a)).size + (treeOf 1 lv k (startT (lv.getD k []) a + 1)).size + (treeOf 1 lv k (startT (lv.getD k []) a + 2)).size : Nat) : Int), ih _ _ (off' + (treeOf 1 lv k (startT (lv.getD k []) a)).size) _ ((off' + (treeOf 1 lv k (startT (lv.getD k []) a)).size + (treeOf 1 lv k (startT (lv.getD k []) a + 1)).size + (treeOf 1 lv k (startT (lv.getD k []) a + 2)).size : Nat) : Int), ih _ _ (off' + (treeOf 1 lv k (startT (lv.getD k []) a)).size + (treeOf 1 lv k (startT (lv.getD k []) a + 1)).size) _ ((off' + (treeOf 1 lv k (startT (lv.getD k []) a)).size + (treeOf 1 lv k (startT (lv.getD k []) a + 1)).size + (treeOf 1 lv k (startT (lv.getD k []) a + 2)).size : Nat) : Int)]
      simp [coreR, hf, hf1, ht]
    · simp only [RT.flat, List.filter_append, List.map_append]
      rw [ih _ _ off' _ ((off' + (treeOf 1 lv k (startT (lv.getD k []) a)).size + (treeOf 1 lv k (startT (lv.getD k []) a + 1)).size : Nat) : Int), ih _ _ (off' + (treeOf 1 lv k (startT (lv.getD k []) a)).size) _ ((off' + (treeOf 1 lv k (startT (lv.getD k []) a)).size + (treeOf 1 lv k (startT (lv.getD k []) a + 1)).size : Nat) : Int)]
      simp [coreR, hf, hf1, ht]

end Go.Proofs.YtlidhdljgnijaaaDoor

/-
  CONTRACTS of the program's Path and ahead (tree). Printed by gen_treepk.py.
-/
set_option linter.unusedVariables false
namespace Go.Proofs.YtlidhdljgnijaaaDoor
open Go.RowKit

theorem wpList_makeT {P : Program} {ops : Array Oper} {rest : List Oper} {o : Oper} {a : Act} {w : World} {Q : Exit → Act → World → Prop} (hgd : Region.wanted o (yielded ops a.tmps) = true) (l c : Operand) (t : TypeId)
    (ho : o.op = .makeSlice t l c) (v u : Value) (hl : a.eval l = v) (hc : a.eval c = u) {v' : Value} {w' : World}
    (hr : (Instr.makeSlice t v u).run P w = .ok v' w') (h : wpList P ops Q rest (a.put o.dst v') w') : wpList P ops Q (o :: rest) a w := by
  refine wpList_step fun _ hK => ?_
  rw [if_pos hgd]
  unfold Oper.wp
  simp [execOp, ho, hl, hc, hr, Result.andThen]
  exact hK _ _ h
theorem own_madeT (w : World) (base : Nat) (e : TypeId) (z : Value) (cap : Nat) (hb : base ≤ w.heap.size) (hm : cap ≤ maxLen) (h1 : 1 ≤ cap) : (w.alloc (.cells (madeCells #[z] cap) e)).ownsRow base e 1 (.slice (some ⟨w.heap.size, 0, none⟩) 1 cap) 1 [z] := by
  refine ⟨rfl, .inr ⟨w.heap.size, cap, madeCells #[z] cap, rfl, hb, heap_alloc_new w _, h1, hm, by rw [size_madeCells]; omega, ?_⟩⟩
  rw [toList_madeCells_one, Nat.mul_one, List.take_replicate, Nat.min_eq_left h1]
  rfl
theorem scan_succ (l : List Nat) {k : Nat} (hk : k < l.length) : scanTo l (k + 1) = scanTo l k ++ [startT l k + l[k]] := by
  rw [scanTo, List.range_succ, List.map_append, ← scanTo, List.map_cons, List.map_nil, startT_succ l hk]

end Go.Proofs.YtlidhdljgnijaaaDoor

/-
  CONTRACT of the program's Spans (tree). Printed by gen_treepl.py.
-/
set_option linter.unusedVariables false
namespace Go.Proofs.YtlidhdljgnijaaaDoor
open Go.RowKit

theorem chunk_ones : ∀ (l : List Nat) (m : Nat), l.sum ≤ m → chunkT l (List.replicate m 1) = l
  | [], _, _ => rfl
  | n :: l, m, h => by
    rw [List.sum_cons] at h
    rw [chunkT, List.take_replicate, Nat.min_eq_left (by omega), List.drop_replicate, chunk_ones l (m - n) (by omega)]
    simp
theorem scan_len (l : List Nat) : (scanT l).length = l.length + 1 := by simp [scanT, scanTo]
theorem scan_upto (l : List Nat) (f : Nat → Nat) : scanT l = uptoN f (startT l) (l.length + 1) 0 := by rw [uptoN_zero]; rfl
theorem scan_done (l W : List Nat) (g : Nat → Nat) (hs : l.sum ≤ W.length) : uptoN (fun k => startT W (startT l k)) g (l.length + 1) (l.length + 1) = scanT (chunkT l W) := by
  rw [uptoN_all, scanT, scanTo, chunkT_len]
  apply List.map_congr_left
  intro k hk
  rw [chunkT_start l W k (by have := List.mem_range.1 hk; omega) hs]

theorem lvOK_next : ∀ (lv : List (List Nat)) (many q : Nat), lvOK many lv → ∀ (h : q + 1 < lv.length), lv[q + 1].sum = lv[q].length
  | [], many, q, _, h => by simp at h
  | [l], many, q, _, h => by simp at h
  | l :: l2 :: ls, many, 0, ⟨h1, h2, h3, h4⟩, h => h4.2.2.1
  | l :: l2 :: ls, many, q + 1, ⟨h1, h2, h3, h4⟩, h => by
    have := lvOK_next (l2 :: ls) l.length q h4 (by simpa using h)
    simpa using this
theorem wide_next {lv : List (List Nat)} {W : List Nat} {q : Nat} {l : List Nat} (h : lv[q]? = some l) : wideL W (lv.take (q + 1)) = chunkT l (wideL W (lv.take q)) := by
  rw [List.take_add_one, h]
  exact wideL_snoc _ _ _
theorem wide_len {lv : List (List Nat)} {W : List Nat} {q : Nat} {l : List Nat} (h : lv[q]? = some l) : (wideL W (lv.take (q + 1))).length = l.length := by rw [wide_next h, chunkT_len]
theorem scanTo_getT (W : List Nat) (i : Nat) (h : i ≤ W.length) : (scanTo W W.length)[i]? = some (startT W i) := by
  rw [scanTo, List.getElem?_map, List.getElem?_range (by omega)]
  rfl
theorem upto_get {f g : Nat → Nat} {m i : Nat} (h : i < m) : ((uptoN f g m i).map ivn)[i]? = some (.int .i64 (g i : Nat)) := by
  rw [List.getElem?_map, uptoN_old f g h (Nat.le_refl _)]
  rfl

end Go.Proofs.YtlidhdljgnijaaaDoor

/-
  NODES OF A TREE (layer 11): where a group's leaves begin, as tree.Spans tells it: a pure fact.
-/
set_option linter.unusedVariables false
namespace Go.Proofs.YtlidhdljgnijaaaDoor

theorem start_ones (m a : Nat) (h : a ≤ m) : startT (List.replicate m 1) a = a := by
  rw [startT, List.take_replicate, Nat.min_eq_left h]
  simp
theorem wide_lenN {many : Nat} {lv : List (List Nat)} (hs : lvSum many lv) : ∀ k, k ≤ lv.length → (wideL (List.replicate many 1) (lv.take k)).length = wideN many lv k
  | 0, _ => by simp [wideL, wideN]
  | k + 1, h => by
    have hl : lv[k]? = some lv[k] := List.getElem?_eq_getElem (by omega)
    rw [wide_len hl, wideN, getD_at hl]
theorem leafS_start {many : Nat} {lv : List (List Nat)} (hs : lvSum many lv) : ∀ (k a : Nat), k ≤ lv.length → a ≤ wideN many lv k → leafS lv k a = startT (wideL (List.replicate many 1) (lv.take k)) a
  | 0, a, _, h => by
    rw [leafS, List.take_zero, wideL, start_ones many a h]
  | k + 1, a, hk, h => by
    have hl : lv[k]? = some lv[k] := List.getElem?_eq_getElem (by omega)
    have hsum := wideN_sum hs hl
    have hle := startT_le lv[k] a
    rw [wideN, getD_at hl] at h
    rw [leafS, getD_at hl, leafS_start hs k _ (by omega) (by omega), wide_next hl, chunkT_start lv[k] _ a h (by rw [wide_lenN hs k (by omega), hsum]; exact Nat.le_refl _)]

end Go.Proofs.YtlidhdljgnijaaaDoor

/-
  NODES OF A TREE (layer 11): how many are red; which leaves a group has; a list of nodes that may be: pure facts for the laws.
-/
set_option linter.unusedVariables false
namespace Go.Proofs.YtlidhdljgnijaaaDoor

def RT.reds : RT → Nat
  | .leaf _ => 0
  | .two _ _ red l r => l.reds + r.reds + (if red then 1 else 0)
  | .three _ _ l m r => l.reds + m.reds + r.reds
theorem RT.reds_flat : ∀ (T : RT) (off : Nat) (up : Int), (T.flat off up).countP (fun x => x.red) = T.reds
  | .leaf a, off, up => by simp [RT.flat, RT.reds]
  | .two lev a red l r, off, up => by
    simp only [RT.flat, List.countP_append, RT.reds_flat l, RT.reds_flat r, RT.reds, List.countP_cons, List.countP_nil]
    cases red <;> simp
  | .three lev a l m r, off, up => by
    simp only [RT.flat, List.countP_append, RT.reds_flat l, RT.reds_flat m, RT.reds_flat r, RT.reds, List.countP_cons, List.countP_nil]
    simp
def sumTo (g : Nat → Nat) (n : Nat) : Nat := ((List.range n).map g).sum
theorem sumTo_succ (g : Nat → Nat) (n : Nat) : sumTo g (n + 1) = sumTo g n + g n := by
  rw [sumTo, List.range_succ, List.map_append, List.sum_append]
  simp [sumTo]
def three (n : Nat) : Bool := n == 3
def thrN (lv : List (List Nat)) : Nat := (lv.map fun l => l.countP three).sum
theorem reds_row {lv : List (List Nat)} {k : Nat} {l : List Nat} (hl : lv[k]? = some l) (h23 : two3 l) : ∀ A, A ≤ l.length → sumTo (fun a => (treeOf 2 lv (k + 1) a).reds) A = sumTo (fun a => (treeOf 2 lv k a).reds) (startT l A) + (l.take A).countP three
  | 0, _ => by rw [startT_zero]; rfl
  | A + 1, h => by
    have hA : A < l.length := h
    have hx : l.getD A 0 = l[A] := getD_at (List.getElem?_eq_getElem hA)
    rw [sumTo_succ, reds_row hl h23 A (by omega), startT_succ l hA, List.take_succ_eq_append_getElem hA, List.countP_append, List.countP_cons, List.countP_nil, treeOf, getD_at hl, hx]
    rcases two3_get h23 hA with e | e
    · rw [e, if_neg (by decide), show startT l A + 2 = startT l A + 1 + 1 from rfl, sumTo_succ, sumTo_succ, RT.reds, if_neg (by simp), if_neg (by simp [three])]
      omega
    · rw [e, if_pos rfl, if_pos rfl, show startT l A + 3 = startT l A + 1 + 1 + 1 from rfl, sumTo_succ, sumTo_succ, sumTo_succ, RT.reds, RT.reds, if_pos rfl, if_neg (by simp), if_pos (by simp [three])]
      omega
theorem reds_level {many : Nat} {lv : List (List Nat)} (hs : lvSum many lv) : ∀ k, k ≤ lv.length → sumTo (fun a => (treeOf 2 lv k a).reds) (wideN many lv k) = thrN (lv.take k)
  | 0, _ => by
    have : ∀ n, sumTo (fun a => (treeOf 2 lv 0 a).reds) n = 0 := fun n => by
      induction n with
      | zero => rfl
      | succ n ih => rw [sumTo_succ, ih]; rfl
    rw [this]
    rfl
  | k + 1, hk => by
    have hl : lv[k]? = some lv[k] := List.getElem?_eq_getElem (by omega)
    rw [wideN, getD_at hl, reds_row hl (hs k _ hl).1 _ (Nat.le_refl _), startT_all, wideN_sum hs hl, reds_level hs k (by omega), List.take_length, List.take_succ_eq_append_getElem (by omega), thrN, thrN, List.map_append, List.sum_append]
    simp
def thrI (ll : List (List Int)) : Nat := (ll.map fun l => l.countP (fun x => x == 3)).sum
theorem thr_cast (lv : List (List Nat)) : thrI (levI lv) = thrN lv := by
  have e : ∀ l : List Nat, (castL l).countP (fun x => x == 3) = l.countP three := fun l => by
    rw [castL, List.countP_map]
    apply List.countP_congr
    intro n _
    simp only [Function.comp, three, beq_iff_eq]
    omega
  rw [thrI, thrN, levI, List.map_map]
  congr 1
  apply List.map_congr_left
  intro l _
  exact e l
theorem treeOf_nodes {kind : Int} {many : Nat} {lv : List (List Nat)} (hs : lvSum many lv) : ∀ (k a : Nat), k ≤ lv.length → a < wideN many lv k → ∀ (off : Nat) (up : Int), ∀ x ∈ (treeOf kind lv k a).flat off up,
    x.red = true ∨ (x.lev ≤ lv.length ∧ x.at_ < wideN many lv x.lev ∧ x.fr = leafS lv x.lev x.at_ ∧ x.to = leafS lv x.lev (x.at_ + 1))
  | 0, a, hk, ha, off, up => fun x hx => by
    simp only [treeOf, RT.flat, List.mem_singleton] at hx
    subst hx
    exact .inr ⟨Nat.zero_le _, ha, rfl, rfl⟩
  | k + 1, a, hk, ha, off, up => fun x hx => by
    have hl : lv[k]? = some lv[k] := List.getElem?_eq_getElem (by omega)
    have hsum := wideN_sum hs hl
    have hal : a < lv[k].length := by rw [wideN, getD_at hl] at ha; exact ha
    have hst := startT_succ lv[k] hal
    have hle := startT_le lv[k] (a + 1)
    have h23 := two3_get (hs k _ hl).1 hal
    have hg : lv.getD k [] = lv[k] := getD_at hl
    have hx0 : lv[k].getD a 0 = lv[k][a] := getD_at (List.getElem?_eq_getElem hal)
    have ih := fun b (hb : b < lv[k].sum) => treeOf_nodes (kind := kind) hs k b (by omega) (by omega)
    obtain ⟨o1, o2, o3⟩ := treeOf_ok (kind := kind) hs (k + 1) a hk ha
    have key : ∀ y : RN, y.lev = k + 1 → y.at_ = a → y.fr = (treeOf kind lv (k + 1) a).fr → y.to = (treeOf kind lv (k + 1) a).to → y.red = true ∨ (y.lev ≤ lv.length ∧ y.at_ < wideN many lv y.lev ∧ y.fr = leafS lv y.lev y.at_ ∧ y.to = leafS lv y.lev (y.at_ + 1)) := fun y e1 e2 e3 e4 => by
      rw [e1, e2, e3, e4, o2, o3]
      exact .inr ⟨hk, ha, rfl, rfl⟩
    have hroot := key ((treeOf kind lv (k + 1) a).node off up)
    rw [RT.flat_split, List.mem_append, List.mem_singleton] at hx
    rcases hx with hx | hx
    · clear hroot key o1 o2 o3
      rw [treeOf, hg, hx0] at hx
      rcases h23 with e | e
      · rw [e, if_neg (by decide)] at hx
        simp only [RT.init, List.mem_append] at hx
        rcases hx with hx | hx
        · exact ih _ (by omega) _ _ x hx
        · exact ih _ (by omega) _ _ x hx
      · rw [e, if_pos rfl] at hx
        by_cases hk2 : kind = 2
        · rw [if_pos hk2] at hx
          simp only [RT.init, RT.flat, List.mem_append, List.mem_singleton] at hx
          rcases hx with ((hx | hx) | hx) | hx
          · exact ih _ (by omega) _ _ x hx
          · exact ih _ (by omega) _ _ x hx
          · subst hx; exact .inl rfl
          · exact ih _ (by omega) _ _ x hx
        · rw [if_neg hk2] at hx
          simp only [RT.init, List.mem_append] at hx
          rcases hx with (hx | hx) | hx
          · exact ih _ (by omega) _ _ x hx
          · exact ih _ (by omega) _ _ x hx
          · exact ih _ (by omega) _ _ x hx
    · subst hx
      refine hroot ?_ ?_ (RT.node_fr _ _ _) (RT.node_to _ _ _)
      · rw [treeOf]; split
        · split <;> rfl
        · rfl
      · rw [treeOf]; split
        · split <;> rfl
        · rfl
/-- the nodes of a tree that may be -/
structure LstF (kind : Int) (ids : List Int) (ll : List (List Int)) (L : List RN) : Prop where
  nodes : nodesI kind ids ll = L.map RN.i
  kid : ∀ (q : Nat) (x : RN), L[q]? = some x → nodeKid L q x
  ok : ∀ x ∈ L, nodeOK kind L x
  grp : ∀ x ∈ L, x.red = true ∨ (x.lev ≤ (lvN ll).length ∧ x.at_ < wideN ids.length (lvN ll) x.lev ∧ x.fr = leafS (lvN ll) x.lev x.at_ ∧ x.to = leafS (lvN ll) x.lev (x.at_ + 1))
  leaves : L.countP (fun x => x.lev == 0) = ids.length
  len : (ids.length = 0 → L = []) ∧ (0 < ids.length → L.length < 2 * ids.length)
  small : L.length ≤ 2000
theorem lst_facts {kind : Int} {ids : List Int} {ll : List (List Int)} (hm : mayB kind ids ll = true) : ∃ L, LstF kind ids ll L := by
  have hl2 := nodesU_len kind ids ll
  rcases Nat.eq_zero_or_pos ids.length with h0 | h0
  · have hn : nodesI kind ids ll = [] := by simp [nodesI, nodesU, h0]
    exact ⟨[], by rw [hn]; rfl, fun q x h => by simp at h, fun x h => by simp at h, fun x h => by simp at h, by rw [h0]; rfl, ⟨fun _ => rfl, fun h => by omega⟩, by simp⟩
  · have hT := top_facts hm h0
    have hm' := hm
    rw [mayB, Bool.and_eq_true] at hm'
    obtain ⟨_, _, h3, _⟩ := chkT_lv hm'.2
    have hs := lvOK_sum _ _ h3
    have hw0 := wideN_pos hs h0 _ (Nat.le_refl _)
    have hg := treeOf_nodes (kind := kind) hs _ 0 (Nat.le_refl _) hw0 0 (-1)
    refine ⟨_, hT.nodes, kid_top hT, fun x hx => ?_, hg, ?_, ⟨fun h => by omega, fun _ => ?_⟩, ?_⟩
    · have := RT.nodes_ok hT.k12 _ [] [] (-1) hT.good x hx
      simpa using this
    · rw [RT.leaves _ _ _ hT.good]
      have := RT.lvs_ok _ hT.ok
      rw [hT.fr, hT.to_] at this
      omega
    · rw [RT.flat_len]
      have := hT.size
      omega
    · rw [hT.nodes, List.length_map] at hl2
      exact hl2
/-- both kinds of a tree -/
theorem kinds_facts {ids : List Int} {ll : List (List Int)} (hc : chkT ids ll = true) : ∃ L1 L2, LstF 1 ids ll L1 ∧ LstF 2 ids ll L2 ∧ (L2.filter fun x => !x.red).map coreR = L1.map coreR ∧ L2.countP (fun x => x.red) = thrI ll := by
  have m1 : mayB 1 ids ll = true := by rw [mayB, hc]; rfl
  have m2 : mayB 2 ids ll = true := by rw [mayB, hc]; rfl
  obtain ⟨_, _, h3, hin⟩ := chkT_lv hc
  have hs := lvOK_sum _ _ h3
  have hthr : thrI ll = thrN (lvN ll) := by rw [← thr_cast, levI_lvN hin]
  obtain ⟨L1, f1⟩ := lst_facts m1
  obtain ⟨L2, f2⟩ := lst_facts m2
  refine ⟨L1, L2, f1, f2, ?_⟩
  have inj : ∀ a b : List RN, a.map RN.i = b.map RN.i → a = b := by
    intro a
    induction a with
    | nil => intro b h; cases b with
      | nil => rfl
      | cons y b => simp at h
    | cons x a ih => intro b h; cases b with
      | nil => simp at h
      | cons y b =>
        simp only [List.map_cons, List.cons.injEq] at h
        rw [ih b h.2]
        congr 1
        have hxy := h.1
        cases x with | mk l1 a1 r1 f1 t1 k1 u1 =>
        cases y with | mk l2 a2 r2 f2 t2 k2 u2 =>
        simp only [RN.i, RI.mk.injEq, Int.natCast_inj] at hxy
        obtain ⟨e1, e2, e3, e4, e5, e6, e7⟩ := hxy
        have e6' : k1 = k2 := by
          have g : ∀ l : List Nat, (castL l).map Int.toNat = l := fun l => by
            induction l with
            | nil => rfl
            | cons n l ih =>
              show Int.toNat (n : Int) :: (castL l).map Int.toNat = n :: l
              rw [ih, Int.toNat_natCast]
          rw [← g k1, ← g k2, e6]
        subst e1 e2 e3 e4 e5 e6' e7
        rfl
  rcases Nat.eq_zero_or_pos ids.length with h0 | h0
  · have n1 := f1.len.1 h0
    have n2 := f2.len.1 h0
    subst n1 n2
    refine ⟨rfl, ?_⟩
    rw [hthr]
    cases hlv : lvN ll with
    | nil => rfl
    | cons l ls =>
      rw [hlv, h0] at h3
      exact absurd h3.1 (by omega)
  · have t1 := top_facts m1 h0
    have t2 := top_facts m2 h0
    have e1 := inj _ _ (f1.nodes.symm.trans t1.nodes)
    have e2 := inj _ _ (f2.nodes.symm.trans t2.nodes)
    rw [e1, e2]
    refine ⟨kinds_core _ _ _ _ _ _ _, ?_⟩
    rw [RT.reds_flat, hthr]
    have hr := reds_level hs _ (Nat.le_refl _)
    have hw0 := wideN_pos hs h0 _ (Nat.le_refl _)
    have hw1 := wideN_top _ _ h3
    rw [show wideN ids.length (lvN ll) (lvN ll).length = 0 + 1 by omega, sumTo_succ, List.take_length] at hr
    rw [← hr]
    simp [sumTo]

end Go.Proofs.YtlidhdljgnijaaaDoor

/-
  NODES OF A TREE (layers 11, 12): all that is asked of them for a plan: pure facts.
-/
set_option linter.unusedVariables false
namespace Go.Proofs.YtlidhdljgnijaaaDoor

theorem RT.leaf_at {kind : Int} : ∀ (T : RT) (off : Nat) (up : Int), T.good kind → ∀ x ∈ T.flat off up, x.lev = 0 → x.fr = x.at_ ∧ x.to = x.at_ + 1
  | .leaf a, off, up, _ => fun x hx _ => by
    simp only [RT.flat, List.mem_singleton] at hx
    subst hx
    exact ⟨rfl, rfl⟩
  | .two lev a red l r, off, up, ⟨h1, h2, h3, _⟩ => fun x hx h0 => by
    simp only [RT.flat, List.mem_append, List.mem_singleton] at hx
    rcases hx with (hx | hx) | hx
    · exact RT.leaf_at l _ _ h1 x hx h0
    · exact RT.leaf_at r _ _ h2 x hx h0
    · subst hx; simp only at h0; omega
  | .three lev a l m r, off, up, ⟨h1, h2, h3, h4, _⟩ => fun x hx h0 => by
    simp only [RT.flat, List.mem_append, List.mem_singleton] at hx
    rcases hx with ((hx | hx) | hx) | hx
    · exact RT.leaf_at l _ _ h1 x hx h0
    · exact RT.leaf_at m _ _ h2 x hx h0
    · exact RT.leaf_at r _ _ h3 x hx h0
    · subst hx; simp only at h0; omega
def leafLt (x y : RN) : Prop := x.lev = 0 → y.lev = 0 → x.at_ < y.at_
theorem leafLt_of {kind : Int} {l r : RT} {o1 o2 : Nat} {u1 u2 : Int} (g1 : l.good kind) (g2 : r.good kind) (k1 : l.ok) (k2 : r.ok) (h : l.to ≤ r.fr) : ∀ x ∈ l.flat o1 u1, ∀ y ∈ r.flat o2 u2, leafLt x y := fun x hx y hy h1 h2 => by
  have := l.span o1 u1 k1 x hx
  have := r.span o2 u2 k2 y hy
  have := RT.leaf_at l o1 u1 g1 x hx h1
  have := RT.leaf_at r o2 u2 g2 y hy h2
  omega
theorem RT.leafs {kind : Int} : ∀ (T : RT) (off : Nat) (up : Int), T.good kind → T.ok → (T.flat off up).Pairwise leafLt
  | .leaf a, off, up, _, _ => by simp [RT.flat]
  | .two lev a red l r, off, up, ⟨h1, h2, h3, _⟩, ⟨k1, k2, k3⟩ => by
    rw [RT.flat, List.pairwise_append, List.pairwise_append]
    refine ⟨⟨RT.leafs l _ _ h1 k1, RT.leafs r _ _ h2 k2, leafLt_of h1 h2 k1 k2 (by omega)⟩, List.pairwise_singleton _ _, fun x _ y hy _ h0 => ?_⟩
    rw [List.mem_singleton] at hy
    subst hy
    simp only at h0
    omega
  | .three lev a l m r, off, up, ⟨h1, h2, h3, h4, _⟩, ⟨k1, k2, k3, k4, k5⟩ => by
    have f2 := RT.fr_lt m k2
    rw [RT.flat, List.pairwise_append, List.pairwise_append, List.pairwise_append]
    refine ⟨⟨⟨RT.leafs l _ _ h1 k1, RT.leafs m _ _ h2 k2, leafLt_of h1 h2 k1 k2 (by omega)⟩, RT.leafs r _ _ h3 k3, fun x hx y hy => ?_⟩, List.pairwise_singleton _ _, fun x _ y hy _ h0 => ?_⟩
    · rcases List.mem_append.1 hx with hx | hx
      · exact leafLt_of h1 h3 k1 k3 (by omega) x hx y hy
      · exact leafLt_of h2 h3 k2 k3 (by omega) x hx y hy
    · rw [List.mem_singleton] at hy
      subst hy
      simp only at h0
      omega
/-- each node is the last one, or below another one -/
def upOK (L : List RN) (up : Int) (e q : Nat) (x : RN) : Prop := (x.up = up ∧ q + 1 = e) ∨ ∃ (u : Nat) (z : RN), x.up = (u : Int) ∧ L[u]? = some z ∧ q ∈ z.kids
theorem RT.up_ok : ∀ (T : RT) (pre post : List RN) (up : Int) (q : Nat) (x : RN), pre.length ≤ q → q < pre.length + T.size → (pre ++ T.flat pre.length up ++ post)[q]? = some x → upOK (pre ++ T.flat pre.length up ++ post) up (pre.length + T.size) q x
  | .leaf a, pre, post, up, q, x, h1, h2, hx => by
    have e := flat_end pre post (.leaf a) q up (by simp only [RT.size] at h2 ⊢; omega)
    rw [e] at hx
    have hx := Option.some.inj hx
    subst hx
    exact .inl ⟨RT.node_upv _ _ _, by simp only [RT.size] at h2 ⊢; omega⟩
  | .two lev a red l r, pre, post, up, q, x, h1, h2, hx => by
    have p1 := l.size_pos
    have p2 := r.size_pos
    have hA : (pre ++ l.flat pre.length ((pre.length + l.size + r.size : Nat) : Int)).length = pre.length + l.size := by rw [List.length_append, RT.flat_len]
    have hroot := flat_end pre post (.two lev a red l r) (pre.length + l.size + r.size) up (by simp only [RT.size]; omega)
    simp only [RT.size] at h2 ⊢
    by_cases c1 : q < pre.length + l.size
    · have ih := RT.up_ok l pre (r.flat (pre.length + l.size) ((pre.length + l.size + r.size : Nat) : Int) ++ [⟨lev, a, red, l.fr, r.to, [pre.length + l.size - 1, pre.length + l.size + r.size - 1], up⟩] ++ post) ((pre.length + l.size + r.size : Nat) : Int) q x h1 c1 (by simpa only [RT.flat, List.append_assoc] using hx)
      rcases ih with ⟨e1, e2⟩ | ⟨u, z, e1, e2, e3⟩
      · exact .inr ⟨_, _, e1, hroot, by simp only [RT.node, List.mem_cons]; left; omega⟩
      · exact .inr ⟨u, z, e1, by simpa only [RT.flat, List.append_assoc] using e2, e3⟩
    · by_cases c2 : q < pre.length + l.size + r.size
      · have ih := RT.up_ok r (pre ++ l.flat pre.length ((pre.length + l.size + r.size : Nat) : Int)) ([⟨lev, a, red, l.fr, r.to, [pre.length + l.size - 1, pre.length + l.size + r.size - 1], up⟩] ++ post) ((pre.length + l.size + r.size : Nat) : Int) q x (by omega) (by omega) (by rw [hA]; simpa only [RT.flat, List.append_assoc] using hx)
        rw [hA] at ih
        rcases ih with ⟨e1, e2⟩ | ⟨u, z, e1, e2, e3⟩
        · exact .inr ⟨_, _, e1, hroot, by simp only [RT.node, List.mem_cons]; right; left; omega⟩
        · exact .inr ⟨u, z, e1, by simpa only [RT.flat, List.append_assoc] using e2, e3⟩
      · have hq : q = pre.length + l.size + r.size := by omega
        rw [hq, hroot] at hx
        have hx := Option.some.inj hx
        subst hx
        exact .inl ⟨RT.node_upv _ _ _, by omega⟩
  | .three lev a l m r, pre, post, up, q, x, h1, h2, hx => by
    have p1 := l.size_pos
    have p2 := m.size_pos
    have p3 := r.size_pos
    have hroot := flat_end pre post (.three lev a l m r) (pre.length + l.size + m.size + r.size) up (by simp only [RT.size]; omega)
    obtain ⟨U, hU⟩ : ∃ U : Int, U = ((pre.length + l.size + m.size + r.size : Nat) : Int) := ⟨_, rfl⟩
    have hA : (pre ++ l.flat pre.length U).length = pre.length + l.size := by rw [List.length_append, RT.flat_len]
    have hB : (pre ++ l.flat pre.length U ++ m.flat (pre.length + l.size) U).length = pre.length + l.size + m.size := by rw [List.length_append, RT.flat_len, hA]
    obtain ⟨X, hX⟩ : ∃ X : RN, X = ⟨lev, a, false, l.fr, r.to, [pre.length + l.size - 1, pre.length + l.size + m.size - 1, pre.length + l.size + m.size + r.size - 1], up⟩ := ⟨_, rfl⟩
    have hfl : (RT.three lev a l m r).flat pre.length up = l.flat pre.length U ++ m.flat (pre.length + l.size) U ++ r.flat (pre.length + l.size + m.size) U ++ [X] := by rw [RT.flat, hU, hX]
    have hXn : (RT.three lev a l m r).node pre.length up = X := hX.symm
    have hXk : X.kids = [pre.length + l.size - 1, pre.length + l.size + m.size - 1, pre.length + l.size + m.size + r.size - 1] := by rw [hX]
    rw [hXn] at hroot
    rw [hfl] at hx hroot ⊢
    simp only [RT.size] at h2 ⊢
    by_cases c1 : q < pre.length + l.size
    · have ih := RT.up_ok l pre (m.flat (pre.length + l.size) U ++ r.flat (pre.length + l.size + m.size) U ++ [X] ++ post) U q x h1 c1 (by simpa only [List.append_assoc] using hx)
      rcases ih with ⟨e1, e2⟩ | ⟨u, z, e1, e2, e3⟩
      · exact .inr ⟨_, _, e1.trans hU, hroot, by simp only [hXk, List.mem_cons]; left; omega⟩
      · exact .inr ⟨u, z, e1, by simpa only [List.append_assoc] using e2, e3⟩
    · by_cases c2 : q < pre.length + l.size + m.size
      · have ih := RT.up_ok m (pre ++ l.flat pre.length U) (r.flat (pre.length + l.size + m.size) U ++ [X] ++ post) U q x (by omega) (by omega) (by rw [hA]; simpa only [List.append_assoc] using hx)
        rw [hA] at ih
        rcases ih with ⟨e1, e2⟩ | ⟨u, z, e1, e2, e3⟩
        · exact .inr ⟨_, _, e1.trans hU, hroot, by simp only [hXk, List.mem_cons]; right; left; omega⟩
        · exact .inr ⟨u, z, e1, by simpa only [List.append_assoc] using e2, e3⟩
      · by_cases c3 : q < pre.length + l.size + m.size + r.size
        · have ih := RT.up_ok r (pre ++ l.flat pre.length U ++ m.flat (pre.length + l.size) U) ([X] ++ post) U q x (by omega) (by omega) (by rw [hB]; simpa only [List.append_assoc] using hx)
          rw [hB] at ih
          rcases ih with ⟨e1, e2⟩ | ⟨u, z, e1, e2, e3⟩
          · exact .inr ⟨_, _, e1.trans hU, hroot, by simp only [hXk, List.mem_cons]; right; right; left; omega⟩
          · exact .inr ⟨u, z, e1, by simpa only [List.append_assoc] using e2, e3⟩
        · have hq : q = pre.length + l.size + m.size + r.size := by omega
          rw [hq, hroot] at hx
          have hx := Option.some.inj hx
          subst hx
          exact .inl ⟨by rw [hX], by omega⟩
/-- the nodes of a tree that may be -/
structure NF (kind : Int) (ids : List Int) (L : List RN) : Prop where
  kid : ∀ (q : Nat) (x : RN), L[q]? = some x → nodeKid L q x
  ok : ∀ x ∈ L, nodeOK kind L x
  span : ∀ x ∈ L, x.fr < x.to ∧ x.to ≤ ids.length
  leafs : L.Pairwise leafLt
  up : ∀ (q : Nat) (x : RN), L[q]? = some x → upOK L (-1) L.length q x
  rise : ids.Pairwise (· < ·)
theorem top_nf {kind : Int} {ids : List Int} {ll : List (List Int)} {T : RT} (hT : TopF kind ids ll T) : NF kind ids (T.flat 0 (-1)) where
  kid := kid_top hT
  ok := fun x hx => by
    have := RT.nodes_ok hT.k12 T [] [] (-1) hT.good x hx
    simpa using this
  span := fun x hx => by
    have := T.span 0 (-1) hT.ok x hx
    have := hT.to_
    omega
  leafs := RT.leafs T 0 (-1) hT.good hT.ok
  up := fun q x hx => by
    have hlt : q < T.size := by rw [← RT.flat_len T 0 (-1)]; exact (List.getElem?_eq_some_iff.1 hx).1
    have := RT.up_ok T [] [] (-1) q x
    simp only [List.length_nil, List.nil_append, List.append_nil, Nat.zero_add] at this
    rw [RT.flat_len]
    exact this (by omega) hlt hx
  rise := hT.rise
theorem nf_nil (kind : Int) : NF kind [] [] where
  kid := fun q x h => by simp at h
  ok := fun x h => by simp at h
  span := fun x h => by simp at h
  leafs := List.Pairwise.nil
  up := fun q x h => by simp at h
  rise := List.Pairwise.nil
theorem nf_facts {kind : Int} {ids : List Int} {ll : List (List Int)} (hm : mayB kind ids ll = true) : ∃ L, nodesI kind ids ll = L.map RN.i ∧ NF kind ids L ∧ (0 < ids.length → TopF kind ids ll (treeOf kind (lvN ll) (lvN ll).length 0) ∧ L = (treeOf kind (lvN ll) (lvN ll).length 0).flat 0 (-1)) := by
  rcases Nat.eq_zero_or_pos ids.length with h0 | h0
  · have hn : nodesI kind ids ll = [] := by simp [nodesI, nodesU, h0]
    have hi : ids = [] := List.eq_nil_of_length_eq_zero h0
    subst hi
    exact ⟨[], by rw [hn]; rfl, nf_nil kind, fun h => absurd h (by simp)⟩
  · have hT := top_facts hm h0
    exact ⟨_, hT.nodes, top_nf hT, fun _ => ⟨hT, rfl⟩⟩
section
variable {kind : Int} {ids : List Int} {L : List RN}
theorem leaf_one (h : NF kind ids L) {i j : Nat} {x y : RN} (hx : L[i]? = some x) (hy : L[j]? = some y) (h1 : x.lev = 0) (h2 : y.lev = 0) (h3 : x.at_ = y.at_) : i = j := by
  obtain ⟨hi, e1⟩ := List.getElem?_eq_some_iff.1 hx
  obtain ⟨hj, e2⟩ := List.getElem?_eq_some_iff.1 hy
  have hp := List.pairwise_iff_getElem.1 h.leafs
  rcases Nat.lt_trichotomy i j with hlt | he | hlt
  · have := hp i j hi hj hlt (by rw [e1]; exact h1) (by rw [e2]; exact h2)
    rw [e1, e2] at this
    omega
  · exact he
  · have := hp j i hj hi hlt (by rw [e2]; exact h2) (by rw [e1]; exact h1)
    rw [e1, e2] at this
    omega
theorem NF.leafAt (h : NF kind ids L) {q : Nat} {x : RN} (hx : L[q]? = some x) (h0 : x.lev = 0) : x.fr = x.at_ ∧ x.to = x.at_ + 1 ∧ x.at_ < ids.length := by
  have h1 := (h.kid q x hx).2.2.1 h0
  have h2 := h.span x (List.mem_of_getElem? hx)
  omega
theorem NF.kids0 (h : NF kind ids L) {q : Nat} {x : RN} (hx : L[q]? = some x) : x.kids = [] ↔ x.lev = 0 := by
  have := (h.ok x (List.mem_of_getElem? hx)).2.2.1
  rw [← List.length_eq_zero_iff]
  exact this
/-- a kid's place has its own node, which has that one above -/
theorem NF.kidUp (h : NF kind ids L) {q k : Nat} {x : RN} (hx : L[q]? = some x) (hk : k ∈ x.kids) : ∃ y, L[k]? = some y ∧ y.up = (q : Int) ∧ k < q := by
  obtain ⟨_, h2, _, h4⟩ := h.kid q x hx
  obtain ⟨y, e1, e2⟩ := h2 k hk
  exact ⟨y, e1, e2, h4 k hk⟩
theorem span_lo {L : List RN} (hs : ∀ x ∈ L, x.fr < x.to) : ∀ (ks : List Nat) (a z : Nat), spanK L a ks z → (∀ k ∈ ks, ∃ y, L[k]? = some y ∧ a ≤ y.fr) ∧ ks.Nodup
  | [], a, z, _ => ⟨fun k h => by simp at h, List.nodup_nil⟩
  | k :: ks, a, z, ⟨y, h1, h2, h3⟩ => by
    have hy := hs y (List.mem_of_getElem? h1)
    obtain ⟨g1, g2⟩ := span_lo hs ks y.to z h3
    refine ⟨fun c hc => ?_, List.nodup_cons.2 ⟨fun hm => ?_, g2⟩⟩
    · rcases List.mem_cons.1 hc with rfl | hc
      · exact ⟨y, h1, by omega⟩
      · obtain ⟨u, e1, e2⟩ := g1 c hc
        exact ⟨u, e1, by omega⟩
    · obtain ⟨u, e1, e2⟩ := g1 k hm
      rw [h1] at e1
      have e1 := Option.some.inj e1
      subst e1
      omega
theorem NF.nodup (h : NF kind ids L) {q : Nat} {x : RN} (hx : L[q]? = some x) : x.kids.Nodup := by
  by_cases h0 : x.kids = []
  · rw [h0]; exact List.nodup_nil
  · exact (span_lo (fun y hy => (h.span y hy).1) _ _ _ ((h.kid q x hx).1 h0)).2
end

end Go.Proofs.YtlidhdljgnijaaaDoor

