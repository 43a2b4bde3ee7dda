import Derived.Test.YtlidhdljgnijaaaDoorK18
import Derived.StillTailTactics
/-
  CONTRACTS of the document's First and Sum (coterieref02).
-/
set_option linter.unusedVariables false
namespace Go.Proofs.YtlidhdljgnijaaaDoor
open Go.RowKit

set_option maxRecDepth 1000000 in
set_option maxHeartbeats 400000 in
theorem First_any (w : World) :
    Calls Tryd.prog 65 #[] w fun e w' => e = .returned (.agg (firstU.map wv).toArray) ∧ Below w.heap.size w w' := by
  go_enter Tryd.func65, Tryd.ntmps65
  go_wp2_with (
    ((with_reducible show wpList _ _ _ (⟨none, _, _, _, _, _⟩ :: _) _ _)
     refine wpList_store_row rfl 94 (.tmp 0) (.tmp 1) rfl w.heap.size (firstU.map wv).toArray rfl rfl 94 _ (heap_alloc_new _ _) info8 rfl (one_wv _) ?_
     rw [World.setRow_alloc_new]))
  exact bodyPost_ret (results_cell_row rfl _ _ w.heap.size 94 _ (0, 0) _ rfl (heap_alloc_new _ _) Tryd.underlying94 rfl info8) rfl ⟨rfl, (Below.refl _ _).alloc (Nat.le_refl _) _⟩

def chunk (b : List UInt8) (q : Nat) : List UInt8 := (b.drop (64 * q)).take 64
def blocksTo (h : List UInt32) (b : List UInt8) : Nat → List UInt32
  | 0 => h
  | q + 1 => blockW (blocksTo h b q) (wordsU (chunk b q))
theorem blocksTo_len {h : List UInt32} (hh : h.length = 8) (b : List UInt8) : ∀ q, (blocksTo h b q).length = 8
  | 0 => hh
  | _ + 1 => addTo_len _ _ _
def sumU (l : List UInt8) : List UInt8 := bytesU (blocksTo firstU (padU l) ((padU l).length / 64))

set_option maxRecDepth 1000000 in
set_option maxHeartbeats 800000 in
theorem Sum_any (At : Option Addr) (m ct : Nat) (vs : List Value) (ts : List (List UInt8)) (w : World) (hm : m ≤ 5864062014805) (htot : ts.flatten.length ≤ 1099511627776)
    (hv : Rd w w.heap.size At m vs) (ht : Txs w w.heap.size vs ts) (hT : KTab w) :
    Calls Tryd.prog 38 #[.slice At m ct] w fun e w' => e = .returned (.agg ((sumU ts.flatten).map bv).toArray) ∧ Below w.heap.size w w' := by
  have Htot := Lib.hid htot
  clear htot
  go_enter Tryd.func38, Tryd.ntmps38
  go_wp2_with fail
  refine (All_any At m ct vs ts _ hm Htot.out ((hv.alloc (Nat.le_refl _) _).more (al0 _ _)) ((ht.below ((Below.refl _ _).alloc (Nat.le_refl _) _)).more (al0 _ _))).mono ?_
  rintro e w2 ⟨A2, n2, c2, rfl, hc2, hown2, hb2⟩
  have hn2 : n2 = ts.flatten.length := by have := hown2.1; rw [List.length_map] at this; omega
  have hn2' : n2 ≤ 1099511627776 := by rw [hn2]; exact Htot.out
  have hs2 : w.heap.size + 1 ≤ w2.heap.size := by have := hb2.size; simpa using this
  have hbw2 : Below w.heap.size w w2 := ((Below.refl _ _).alloc (Nat.le_refl _) _).trans (hb2.mono (al0 _ _))
  have hr0 : ArrB w2 w.heap.size 36 (List.replicate 32 0) := (ArrB.mk_ w _ _ (List.replicate 32 0) rfl rfl).below hb2 (by simp)
  clear hn2
  go_wp2_with fail
  refine (Padded_any A2 n2 c2 ts.flatten _ hn2' (Rd.of_own hown2)).mono ?_
  rintro e w3 ⟨A3, n3, c3, rfl, hc3, hown3, hb3⟩
  generalize hp : padU ts.flatten = p at *
  have Hp := Lib.hid hp
  have Hn3 := Lib.hid (show p.length = n3 by have := hown3.1; simpa using this)
  have Hp64 := Lib.hid (show p.length % 64 = 0 by rw [← hp]; exact padU_64 _)
  clear hp
  go_wp2_with fail
  refine (First_any _).mono ?_
  rintro e w4 ⟨rfl, hb4⟩
  have hn3 : n3 ≤ 1099511627848 := by
    have h1 := Hn3.out
    rw [← Hp.out, padU_len] at h1
    have := zeros_le ts.flatten.length
    have := Htot.out
    omega
  have Hfl := Lib.hid (show firstU.length = 8 from rfl)
  have hs3 : w.heap.size + 1 ≤ w3.heap.size := by have := hb3.size; omega
  have hs4 : w.heap.size + 1 ≤ w4.heap.size := by have := hb4.size; omega
  generalize hfu : firstU = f0 at *
  have Hfu := Lib.hid hfu
  clear hfu
  go_wp2_with (
    ((with_reducible show wpList _ _ _ (⟨none, _, _, _, _, _⟩ :: _) _ _)
     refine wpList_store_row rfl 94 (.tmp 4) (.tmp 9) rfl w4.heap.size (f0.map wv).toArray rfl rfl 94 _ (heap_alloc_new _ _) (by rw [info8]; simp [Hfl.out]) (by simp [Hfl.out]) (one_wv _) ?_
     rw [World.setRow_alloc_new]))
  go_loopw [5] (fun i wr => ∃ q : Nat, 64 * q ≤ n3 ∧ i = .int .i64 ((64 * q : Nat) : Int) ∧ ArrW wr w4.heap.size 94 (blocksTo f0 p q) ∧ Rd wr w4.heap.size A3 n3 (p.map bv) ∧ ArrB wr w.heap.size 36 (List.replicate 32 0) ∧ Below w.heap.size w wr) (fun i _ => (n3 - intOf i).toNat)
  case atStart =>
    refine ⟨0, by omega, rfl, ArrW.mk_ _ _ _ _ rfl rfl, ?_, ?_, ?_⟩
    · exact ((((Rd.of_own hown3).below hb4).alloc hb4.size _).more hb4.size)
    · exact ((hr0.below hb3 hs2).below hb4 hs3).alloc _
    · exact ((hbw2.trans (hb3.mono (Nat.le_of_succ_le hs2))).trans (hb4.mono (Nat.le_of_succ_le hs3))).alloc (Nat.le_of_succ_le hs4) _
  case round =>
    obtain ⟨q, hq, rfl, k4, kr, k2, hbel⟩ := hrel
    have hm64 := Hp64.out
    have hnp := Hn3.out
    by_cases hlt : 64 * q < n3
    · have hfit : 64 * q + 64 ≤ n3 := by omega
      clear hm64 hnp
      have hl4 := blocksTo_len Hfl.out p q
      have Hl4 := Lib.hid hl4
      have Hi4 := Lib.hid (show (Tryd.prog.info? 94).map (·.size) = some (((blocksTo f0 p q).map wv).toArray).size by rw [info8]; simp [hl4])
      clear hl4
      have Hnx := Lib.hid (show blocksTo f0 p (q + 1) = blockW (blocksTo f0 p q) (wordsU (chunk p q)) from rfl)
      have q0 : 0 ≤ 64 * (q : Int) := by omega
      have q1 : 64 * (q : Int) + 64 ≤ (n3 : Int) := by omega
      obtain ⟨a0, a1, a2, a3, a4, a5, a6, a7, hv⟩ := eight Hl4.out
      have k4' := k4
      rw [hv] at k4'
      have m0 := k4'.cell (i := 0) rfl
      have m1 := k4'.cell (i := 1) rfl
      have m2 := k4'.cell (i := 2) rfl
      have m3 := k4'.cell (i := 3) rfl
      have m4 := k4'.cell (i := 4) rfl
      have m5 := k4'.cell (i := 5) rfl
      have m6 := k4'.cell (i := 6) rfl
      have m7 := k4'.cell (i := 7) rfl
      have Hv := Lib.hid hv
      clear hv
      have hw : IntKind.i64.wrap (64 * (q : Int) + 64) = 64 * (q : Int) + 64 := by
        exact IntWalk.i64_in _ (by omega)
      obtain ⟨bb, oo, rfl, hbb, hcc⟩ := kr.pos (by omega)
      obtain ⟨nx, hnx⟩ : ∃ nx, blocksTo f0 p (q + 1) = nx := ⟨_, rfl⟩
      have hnl : nx.length = 8 := by rw [← hnx]; exact blocksTo_len Hfl.out p _
      have Hin := Lib.hid (show (Tryd.prog.info? 94).map (·.size) = some ((nx.map wv).toArray).size by rw [info8]; simp [hnl])
      have Hsn := Lib.hid (show (((blocksTo f0 p q).map wv).toArray).size = ((nx.map wv).toArray).size by simp [hnl, Hl4.out])
      have Hblk := Lib.hid (show Calls Tryd.prog 66 #[.agg #[.int .u32 (a0.toNat : Int), .int .u32 (a1.toNat : Int), .int .u32 (a2.toNat : Int), .int .u32 (a3.toNat : Int), .int .u32 (a4.toNat : Int), .int .u32 (a5.toNat : Int), .int .u32 (a6.toNat : Int), .int .u32 (a7.toNat : Int)], .slice (some ⟨bb, oo + 64 * q, none⟩) 64 (c3 - 64 * q)] wr.drew
          (fun e w' => e = .returned (.agg (nx.map wv).toArray) ∧ Below wr.heap.size wr.drew w') by
        have hrc : Rd wr.drew wr.drew.heap.size (some ⟨bb, oo + 64 * q, none⟩) 64 ((chunk p q).map bv) := by
          refine ⟨?_, fun _ => ⟨bb, oo + 64 * q, rfl, Nat.lt_trans hbb k4.lt, fun j u hu => ?_⟩⟩
          · simp [chunk, Hn3.out]; omega
          · have := hcc (64 * q + j) u (by
              rw [chunk, List.map_take, List.map_drop, List.getElem?_take] at hu
              split at hu
              · rwa [List.getElem?_drop] at hu
              · cases hu)
            rw [← Nat.add_assoc] at this
            exact this
        have hb := Block_any [a0, a1, a2, a3, a4, a5, a6, a7] (some ⟨bb, oo + 64 * q, none⟩) 64 (c3 - 64 * q) (chunk p q) wr.drew rfl (by omega) (by omega) hrc (fun i x hx => (hT.below hbel) i x hx)
        rw [← Hv.out, ← Hnx.out, hnx, Hv.out] at hb
        exact hb)
      have Hnx2 := Lib.hid hnx
      clear hnx hnl hcc k4'
      have q2 : 64 * (q : Int) ≤ 64 * (q : Int) + 64 := by omega
      have q3 : 64 * (q : Int) + 64 ≤ (c3 : Int) := by omega
      have q4 : (64 * (q : Int)).toNat = 64 * q := by omega
      have q5 : (64 * (q : Int) + 64).toNat = 64 * q + 64 := by omega
      have q6 : ¬ c3 = 64 * q := by omega
      have q7 : 0 ≤ 64 * (q : Int) + 64 := by omega
      go_wp2_with fail
      go_still_tail 6, (by kernel_rfl)
      change wpList _ _ _ _ _ wr.drew
      go_wp2_with (first
        | (go_at_call 66; refine Hblk.out.mono ?_; rintro e w5 ⟨rfl, hb5⟩)
        | ((with_reducible show wpList _ _ _ (⟨none, Op.store 94 _ _, _, _, _, _⟩ :: _) _ _); refine wpList_store_row rfl 94 (.tmp 4) (.tmp 22) rfl w4.heap.size (nx.map wv).toArray rfl rfl 94 _ (k4.drew.below hb5 k4.lt) Hin.out Hsn.out (one_wv _) ?_))
      go_roundw
      case rel =>
        have hbb5 : Below w.heap.size w w5 := hbel.trans ((⟨rfl, rfl, rfl, Nat.le_refl _, fun _ _ => rfl⟩ : Below w.heap.size wr wr.drew).trans (hb5.mono hbel.size))
        refine ⟨q + 1, by omega, by go_num, ?_, ?_, ?_, ?_⟩
        · rw [Hnx2.out]
          exact (k4.drew.below hb5 k4.lt).row nx
        · exact (kr.drew.below (hb5.mono (Nat.le_of_lt k4.lt))).keep fun p hp => cell_setRow_other _ _ _ _ (by omega)
        · exact (k2.drew.below hb5 k2.lt).rowFar (by omega) _
        · exact below_setRow hbb5 (Nat.le_of_succ_le hs4) _
      case measure => simp [intOf]; omega
    · have hqe : 64 * q = n3 := by omega
      have hl4 := blocksTo_len Hfl.out p q
      have Hfin := Lib.hid (show sumU ts.flatten = bytesU (blocksTo f0 p q) by
        rw [sumU, Hfu.out, Hp.out, Hn3.out, ← hqe, Nat.mul_div_cancel_left _ (by omega)])
      clear hm64 hnp
      generalize blocksTo f0 p q = hx at *
      have Hi4 := Lib.hid (show (Tryd.prog.info? 94).map (·.size) = some ((hx.map wv).toArray).size by rw [info8]; simp [hl4])
      have Hl4 := Lib.hid hl4
      have Hf := Lib.hid (show (Tryd.prog.info? 36).map (·.size) = some (((bytesU hx).map bv).toArray).size by rw [info32]; simp [bytesU_len, hl4])
      have Hz := Lib.hid (show ((List.replicate 32 (0 : UInt8)).map bv).toArray.size = (((bytesU hx).map bv).toArray).size by simp [bytesU_len, hl4])
      clear hl4
      go_wp2_with (first
        | ((with_reducible show wpList _ _ _ (⟨some 23, _, _, _, _, _⟩ :: _) _ _); refine wpList_load_row rfl 94 (.tmp 4) rfl w4.heap.size rfl 94 (hx.map wv).toArray (0, 0) _ k4 Tryd.underlying94 rfl Hi4.out ?_)
        | (go_at_call 67; refine (ShaBytes_any hx _ Hl4.out).mono ?_; rintro e w5 ⟨rfl, hb5⟩)
        | ((with_reducible show wpList _ _ _ (⟨none, Op.store 36 _ _, _, _, _, _⟩ :: _) _ _); refine wpList_store_row rfl 36 (.tmp 2) (.tmp 24) rfl w.heap.size ((bytesU hx).map bv).toArray rfl rfl 36 _ (k2.below hb5 k2.lt) Hf.out Hz.out (one_bvA _) ?_))
      exact bodyPost_ret (results_cell_row rfl _ _ w.heap.size 36 _ (0, 0) _ rfl ((k2.below hb5 k2.lt).row (bytesU hx)) Tryd.underlying36 rfl Hf.out) rfl ⟨by rw [Hfin.out], below_setRow (hbel.trans (hb5.mono hbel.size)) (Nat.le_refl _) _⟩

end Go.Proofs.YtlidhdljgnijaaaDoor

