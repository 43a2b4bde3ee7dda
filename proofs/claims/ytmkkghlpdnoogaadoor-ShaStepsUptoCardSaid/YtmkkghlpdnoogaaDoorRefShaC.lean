/-
  CONTRACTS of the document's own Write where all is well (coterieref02).
-/
import Derived.Test.YtmkkghlpdnoogaaDoorRefShaB
set_option linter.unusedVariables false
namespace Go.Proofs.YtmkkghlpdnoogaaDoor
open Go.RowKit

/-- what the document's Write answers where all is well -/
def RWriteOk (h : List UInt32) (n : Nat) (all : List UInt8) (m : Nat) (w : World) (e : Ending) (w' : World) : Prop :=
  ∃ A' k' c', e = .returned (.tuple #[.agg (shaL (blocksTo h all (all.length / 64)) (n + m) (.slice A' k' c')).toArray, .int .i64 0]) ∧
    Rd w' w'.heap.size A' k' ((all.drop (64 * (all.length / 64))).map bv) ∧ Below w.heap.size w w'

set_option maxRecDepth 1000000 in
set_option maxHeartbeats 1000000 in
theorem rWrite_ok (h : List UInt32) (n : Nat) (A : Option Addr) (k c : Nat) (rest : List UInt8) (At : Option Addr) (m ct : Nat) (vs : List Value) (ts : List (List UInt8)) (w : World) (hh : h.length = 8) (hn : n < 18446744073709551616) (hr : Rd w w.heap.size A k (rest.map bv)) (hm : m ≤ 5864062014805) (htot : ts.flatten.length ≤ 1099511627776)
    (hv : Rd w w.heap.size At m vs) (ht : Txs w w.heap.size vs ts) (hT : KTab w) (hc : chkU h n k = true) (hrm : roomB n ts.flatten.length = true) :
    Calls Tryd.prog 15 #[.agg (shaL h n (.slice A k c)).toArray, .slice At m ct] w (RWriteOk h n (rest ++ ts.flatten) ts.flatten.length w) := by
  have Hal0 := Lib.hid (show (rest ++ ts.flatten).length = rest.length + ts.flatten.length by simp)
  obtain ⟨tot, hto⟩ : ∃ tot, tot = ts.flatten.length := ⟨_, rfl⟩
  obtain ⟨all, hall⟩ : ∃ all, all = rest ++ ts.flatten := ⟨_, rfl⟩
  rw [← hto, ← hall]
  have Hto := Lib.hid hto
  have Hall := Lib.hid hall
  clear hto hall
  have Hh := Lib.hid hh
  have Hc := Lib.hid hc
  have Htot := Lib.hid htot
  have hn1 := (chk_true hc).1
  have hk : k < 64 := by have := (chk_true hc).2; omega
  have Hrm := Lib.hid (show n + tot ≤ 1099511627776 by rw [Hto.out]; simpa only [roomB, decide_eq_true_eq] using hrm)
  have Hrl := Lib.hid (show rest.length = k by simpa using hr.len)
  have I10 := Lib.hid (show (Tryd.prog.info? 27).map (·.size) = some ((shaL h n (.slice A k c)).toArray).size by rw [infoSha]; simp [shaL_len hh])
  clear hh hc htot hrm
  obtain ⟨i0, hi0, hz0, hz1, hz2⟩ := info_parts byteInfo
  go_enter Tryd.func15, Tryd.ntmps15
  go_wp2_with ((with_reducible show wpList _ _ _ (⟨some 7, _, _, _, _, _⟩ :: _) _ _); refine wpList_load_row rfl 27 (.tmp 2) rfl w.heap.size rfl 27 (shaL h n (.slice A k c)).toArray (0, 0) _ ((heap_alloc_old _ _ (by simp)).trans (heap_alloc_new _ _)) Tryd.underlying27 rfl I10.out ?_)
  refine (rCheck_any h n A k c _ Hh.out hn (by omega)).mono ?_
  rintro e w2 ⟨rfl, hb2⟩
  rw [Hc.out, errK]
  have hR2 : w2.heap[w.heap.size + 1]? = some (.cells zeroSha.toArray 27 (0, 0)) := (hb2.block _ (by simp)).trans (heap_new (by simp) _)
  have hS2 : ShaAt w2 w.heap.size h n (.slice A k c) := (ShaAt.alloc ⟨Hh.out, heap_alloc_new _ _⟩ _).below hb2 (by simp; omega)
  have hB2 : Below w.heap.size w w2 := (((Below.refl _ _).alloc (Nat.le_refl _) _).alloc (al0 _ _) _).trans (hb2.mono (Nat.le_trans (al0 _ _) (al0 _ _)))
  have hs2 : w.heap.size + 2 ≤ w2.heap.size := by have := (Array.getElem?_eq_some_iff.1 hR2).1; omega
  clear hb2
  go_wp2_with fail
  refine (All_any At m ct vs ts w2 hm Htot.out ((hv.below hB2).more hB2.size) ((ht.below hB2).more hB2.size)).mono ?_
  rintro e w3 ⟨A3, n3, c3, rfl, hn3, hown3, hb3⟩
  have Hl3 := Lib.hid (show tot = n3 by rw [Hto.out]; have h := (Rd.of_own hown3).len; rwa [List.length_map] at h)
  have hR3 : w3.heap[w.heap.size + 1]? = some (.cells zeroSha.toArray 27 (0, 0)) := (hb3.block _ (Array.getElem?_eq_some_iff.1 hR2).1).trans hR2
  have hS3 := hS2.below hb3 hS2.lt
  have cN3 := hS3.cellN
  have fN3 := hS3.frozen 8
  have cV3 := hS3.cellV
  have hB3 : Below w.heap.size w w3 := hB2.trans (hb3.mono hB2.size)
  have hrm3 : n + n3 ≤ 1099511627776 := by rw [← Hl3.out]; exact Hrm.out
  have hs3 : w.heap.size + 2 ≤ w3.heap.size := by have := hb3.size; omega
  have hr3 : Rd w3 w3.heap.size A3 n3 (ts.flatten.map bv) := Rd.of_own hown3
  have n2 : IntKind.u64.wrap (n3 : Int) = (n3 : Int) := by rw [IntKind.wrap_u64]; omega
  have n1 : IntKind.u64.wrap ((n : Int) + (n3 : Int)) = (n : Int) + (n3 : Int) := by rw [IntKind.wrap_u64]; omega
  clear hS2 hR2 hB2 hb3 hr3
  go_wp2_with fail
  have e4 : ((n + n3 : Nat) : Int) = (n : Int) + (n3 : Int) := by omega
  have hS4 := hS3.setN (n + n3)
  have hR4 : (w3.setCell ⟨w.heap.size, 8, none⟩ (.int .u64 ((n + n3 : Nat) : Int))).heap[w.heap.size + 1]? = some (.cells zeroSha.toArray 27 (0, 0)) := (Below.heap_setCell _ _ _ _ (by simp)).trans hR3
  have hB4 : Below w.heap.size w (w3.setCell ⟨w.heap.size, 8, none⟩ (.int .u64 ((n + n3 : Nat) : Int))) := hB3.setCell (Nat.le_refl _) _
  have hown4 : (w3.setCell ⟨w.heap.size, 8, none⟩ (.int .u64 ((n + n3 : Nat) : Int))).ownsRow w2.heap.size 5 1 (.slice A3 n3 c3) n3 (ts.flatten.map bv) :=
    own_far hown3 (by simp) (fun g hg => Below.heap_setCell _ _ _ _ (by have := (hown3.lt g hg).1; simp; omega))
  have hs4 : (w3.setCell ⟨w.heap.size, 8, none⟩ (.int .u64 ((n + n3 : Nat) : Int))).heap.size = w3.heap.size := by simp
  rw [e4] at hS4 hR4 hB4 hown4 hs4
  refine calls_gen (fun wx => ShaAt wx w.heap.size h (n + n3) (.slice A k c) ∧ wx.heap[w.heap.size + 1]? = some (.cells zeroSha.toArray 27 (0, 0)) ∧ Below w.heap.size w wx ∧ wx.ownsRow w2.heap.size 5 1 (.slice A3 n3 c3) n3 (ts.flatten.map bv) ∧ wx.heap.size = w3.heap.size) ⟨hS4, hR4, hB4, hown4, hs4⟩ ?_
  clear hS4 hR4 hB4 hown4 hs4 hS3 hR3 hB3 hown3 cN3 cV3 fN3 e4
  rintro w4 ⟨hS4, hR4, hB4, hown4, hs4⟩
  refine (Copy_any A k c rest w4 (by omega) ((hr.below hB4).more hB4.size)).mono ?_
  rintro e w5 ⟨A5, c5, rfl, hown5, hb5⟩
  have hr5 : Rd w5 w4.heap.size A3 n3 (ts.flatten.map bv) := (Rd.of_own hown4).below hb5
  have hlt5 : w4.heap.size ≤ w5.heap.size := hb5.size
  go_wp2_with (at_builtin; refine wpList_append_rd _ rfl (.tmp 30) (.tmp 31) _ rfl w4.heap.size 5 i0 _ 1 Tryd.underlying25 hi0 hz0 hz1 hz2 rfl (.slice A5 k c5) k _ rfl hown5 w4.heap.size A3 n3 c3 (ts.flatten.map bv) rfl hr5 (one_bv _) (by simp only [maxLen]; omega) (by omega) hlt5 ?_; intro v6 w6 hown6 hgr6 hat6)
  have hlen6 : all.length = k + n3 := by rw [Hall.out, Hal0.out, Hrl.out, ← Hto.out, Hl3.out]
  obtain ⟨N, hN⟩ : ∃ N, N = k + n3 := ⟨_, rfl⟩
  rw [← List.map_append, ← Hall.out, ← hN] at hown6
  rw [← hN] at hlen6
  have HN := Lib.hid hlen6
  have hNle : N ≤ 1099511627840 := by omega
  have hB6 : Below w.heap.size w w6 := hB4.trans ((hb5.grown hgr6 hlt5 (fun g hg => (hown5.lt g hg).1)).mono hB4.size)
  have hbg6 : Below w4.heap.size w4 w6 := hb5.grown hgr6 hlt5 (fun g hg => (hown5.lt g hg).1)
  have hS6 : ShaAt w6 w.heap.size h (n + n3) (.slice A k c) := hS4.below hbg6 (by omega)
  have hR6 : w6.heap[w.heap.size + 1]? = some (.cells zeroSha.toArray 27 (0, 0)) := (hbg6.block _ (by omega)).trans hR4
  have hs6 : w.heap.size + 2 ≤ w4.heap.size := by omega
  clear hN hlen6 hS4 hR4 hB4 hown4 hs4 hown5 hb5 hr5 hgr6 hat6 hbg6
  obtain ⟨A6, c6, rfl, hc6, _⟩ := own_form hown6
  have hr6 : Rd w6 w6.heap.size A6 N (all.map bv) := Rd.of_own hown6
  have hfar6 : ∀ ad, A6 = some ad → w.heap.size + 1 < ad.block := by
    intro ad e
    subst e
    have := (hown6.lt ad.block rfl).1
    omega
  obtain ⟨B6, hB6e⟩ : ∃ B6, B6 = w6.heap.size := ⟨_, rfl⟩
  rw [← hB6e] at hr6
  have HB6 := Lib.hid hB6e
  clear hB6e hown6 hlt5 hs3 hs2
  go_loopw [6] (fun b wr => ∃ (q n' : Nat) (A' : Option Addr) (c' : Nat), 64 * q + n' ≤ N ∧ N ≤ 64 * q + n' ∧ b = .slice A' n' c' ∧ n' ≤ c' ∧ Rd wr B6 A' n' ((all.drop (64 * q)).map bv) ∧ (∀ ad, A' = some ad → w.heap.size + 1 < ad.block) ∧ B6 ≤ wr.heap.size ∧ ShaAt wr w.heap.size (blocksTo h all q) (n + n3) (.slice A k c) ∧ wr.heap[w.heap.size + 1]? = some (.cells zeroSha.toArray 27 (0, 0)) ∧ Below w.heap.size w wr) (fun b _ => lenOf b)
  case atStart => exact ⟨0, N, A6, c6, by omega, by omega, rfl, hc6, by simpa using hr6, hfar6, by rw [HB6.out]; exact Nat.le_refl _, hS6, hR6, hB6⟩
  case round =>
    obtain ⟨q, n', A', c', hq1, hq2, rfl, hnc, hrr, hfar, hsz, hS, hR, hB⟩ := hrel
    by_cases hge : 64 ≤ n'
    · obtain ⟨bb, oo, rfl, hbb, hcc⟩ := hrr.pos (by omega)
      have hfb : w.heap.size + 1 < bb := hfar _ rfl
      have hl4 := hS.1
      have Hl4 := Lib.hid hl4
      clear hl4 hcc
      obtain ⟨nx, hnx⟩ : ∃ nx, blocksTo h all (q + 1) = nx := ⟨_, rfl⟩
      have hnl : nx.length = 8 := by rw [← hnx]; exact blocksTo_len Hh.out all _
      have Hnx := Lib.hid (show blocksTo h all (q + 1) = blockW (blocksTo h all q) (wordsU (chunk all q)) from rfl)
      obtain ⟨a0, a1, a2, a3, a4, a5, a6, a7, hv⟩ := eight Hl4.out
      have hS' := hS
      rw [hv] at hS'
      have m0 := hS'.word (i := 0) (x := a0) rfl
      have m1 := hS'.word (i := 1) (x := a1) rfl
      have m2 := hS'.word (i := 2) (x := a2) rfl
      have m3 := hS'.word (i := 3) (x := a3) rfl
      have m4 := hS'.word (i := 4) (x := a4) rfl
      have m5 := hS'.word (i := 5) (x := a5) rfl
      have m6 := hS'.word (i := 6) (x := a6) rfl
      have m7 := hS'.word (i := 7) (x := a7) rfl
      have Hv := Lib.hid hv
      clear hv
      have Hblk := Lib.hid (show Calls Tryd.prog 40 #[.agg #[.int .u32 (a0.toNat : Int), .int .u32 (a1.toNat : Int), .int .u32 (a2.toNat : Int), .int .u32 (a3.toNat : Int), .int .u32 (a4.toNat : Int), .int .u32 (a5.toNat : Int), .int .u32 (a6.toNat : Int), .int .u32 (a7.toNat : Int)], .slice (some ⟨bb, oo, none⟩) 64 c'] wr.drew
          (fun e w' => e = .returned (.agg (nx.map wv).toArray) ∧ Below wr.heap.size wr.drew w') by
        have hrc : Rd wr.drew wr.drew.heap.size (some ⟨bb, oo, none⟩) 64 ((chunk all q).map bv) := by
          have h := (hrr.take hge).drew.more hsz
          rwa [← List.map_take] at h
        have hb := Block_any [a0, a1, a2, a3, a4, a5, a6, a7] (some ⟨bb, oo, none⟩) 64 c' (chunk all q) wr.drew rfl (by omega) (by omega) hrc (fun i x hx => (hT.below hB) i x hx)
        rw [← Hv.out, ← Hnx.out, hnx, Hv.out] at hb
        exact hb)
      have Hnx2 := Lib.hid hnx
      have Hnl := Lib.hid hnl
      have Hi7 := Lib.hid (show (Tryd.prog.info? 23).map (·.size) = some ((nx.map wv).toArray).size by rw [info8]; simp [hnl])
      clear hnx hnl
      have q0 : (64 : Int) ≤ (n' : Int) := by omega
      have q1 : (64 : Int) ≤ (c' : Int) := by omega
      go_wp2_with fail
      go_still_tail 4, (by kernel_rfl)
      change wpList _ _ _ _ _ wr.drew
      clear m0 m1 m2 m3 m4 m5 m6 m7
      go_wp2_with fail
      refine Hblk.out.mono ?_
      rintro e w5 ⟨rfl, hb5⟩
      have hb5' : Below wr.heap.size wr w5 := (⟨rfl, rfl, rfl, Nat.le_refl _, fun _ _ => rfl⟩ : Below wr.heap.size wr wr.drew).trans hb5
      have hS5 := hS.below hb5' hS.lt
      have hR5 : w5.heap[w.heap.size + 1]? = some (.cells zeroSha.toArray 27 (0, 0)) := (hb5'.block _ (Array.getElem?_eq_some_iff.1 hR).1).trans hR
      have hB5 : Below w.heap.size w w5 := hB.trans (hb5'.mono hB.size)
      have hr5 : Rd w5 B6 (some ⟨bb, oo, none⟩) n' ((all.drop (64 * q)).map bv) := hrr.below (hb5'.mono hsz)
      have hsz5 : B6 ≤ w5.heap.size := Nat.le_trans hsz hb5'.size
      have Ht5 := Lib.hid (show w5.there w.heap.size 0 ((nx.map wv).toArray).size by simp [Hnl.out]; exact hS5.there)
      have hS6 := hS5.setH Hnl.out
      have hR6 : (w5.setCells w.heap.size 0 (nx.map wv)).heap[w.heap.size + 1]? = some (.cells zeroSha.toArray 27 (0, 0)) := (setCells_far _ _ (by omega) _ _ _).trans hR5
      have hB6 := below_setCells (Nat.le_refl w.heap.size) (nx.map wv) 0 _ hB5
      have hr6 : Rd (w5.setCells w.heap.size 0 (nx.map wv)) B6 (some ⟨bb, oo, none⟩) n' ((all.drop (64 * q)).map bv) := hr5.keepAt (fun ad e p hp => World.cell?_of_block (w := w5) (setCells_far _ _ (by injection e with e; rw [hp, ← e]; show bb ≠ _; omega) _ _ _))
      have hsz6 : B6 ≤ (w5.setCells w.heap.size 0 (nx.map wv)).heap.size := by
        exact Nat.le_trans hsz5 (below_setCells (Nat.le_refl w.heap.size) (nx.map wv) 0 w5 (Below.refl w.heap.size w5)).size
      clear hS hR hB hrr hb5 hb5' hS5 hR5 hB5 hr5 hS'
      go_wp2_with ((with_reducible show wpList _ _ _ (⟨none, Op.store 23 _ _, _, _, _, _⟩ :: _) _ _); refine wpList_store_mid rfl 23 (.tmp 41) (.tmp 40) rfl w.heap.size 0 (nx.map wv).toArray rfl rfl Ht5.out Hi7.out (one_wv _) ?_)
      have hcut : Rd (w5.setCells w.heap.size 0 (nx.map wv)) B6 (if c' = 64 then some ⟨bb, oo, none⟩ else some ⟨bb, oo + 64, none⟩) (n' - 64) ((all.drop (64 * (q + 1))).map bv) := by
        have h := hr6.cut (k := 64) hge hnc
        rw [← List.map_drop, List.drop_drop] at h
        exact h
      refine ⟨⟨q + 1, n' - 64, _, c' - 64, by omega, by omega, rfl, by omega, hcut, ?_, hsz6, by rw [Hnx2.out]; exact hS6, hR6, hB6⟩, by simp [lenOf]; omega⟩
      intro ad e
      split at e <;> (injection e with e; subst e; exact hfb)
    · have hqe : q = all.length / 64 := by have := HN.out; omega
      have Hqe := Lib.hid hqe
      have hl4 := hS.1
      have hS8 := hS.setV (.slice A' n' c')
      have cV8 := hS.cellV
      have fV8 := hS.frozen 9
      have hR8 : (wr.setCell ⟨w.heap.size, 9, none⟩ (.slice A' n' c')).heap[w.heap.size + 1]? = some (.cells zeroSha.toArray 27 (0, 0)) := (Below.heap_setCell _ _ _ _ (by simp)).trans hR
      have hB8 : Below w.heap.size w (wr.setCell ⟨w.heap.size, 9, none⟩ (.slice A' n' c')) := hB.setCell (Nat.le_refl _) _
      have hsz8 := hB8.size
      obtain ⟨hf, hhf⟩ : ∃ hf, hf = blocksTo h all q := ⟨_, rfl⟩
      rw [← hhf] at hS8 hl4
      have Hhf := Lib.hid hhf
      obtain ⟨nf, hnf⟩ : ∃ nf, nf = n + n3 := ⟨_, rfl⟩
      rw [← hnf] at hS8
      have Hnf := Lib.hid hnf
      have Ho := Lib.hid (one_sha hf nf A' n' c')
      have hsl := shaL_len hl4 nf (.slice A' n' c')
      have Hi := Lib.hid (show (Tryd.prog.info? 27).map (·.size) = some ((shaL hf nf (.slice A' n' c')).toArray).size by rw [infoSha]; simp [hsl])
      have Hz := Lib.hid (show zeroSha.toArray.size = ((shaL hf nf (.slice A' n' c')).toArray).size by simp [hsl]; rfl)
      clear hqe hl4 hsl hhf hnf hq1 hq2
      have q0 : ¬ (64 : Int) ≤ (n' : Int) := by omega
      go_wp2_with (first
        | ((with_reducible show wpList _ _ _ (⟨some 46, _, _, _, _, _⟩ :: _) _ _); refine wpList_load_row rfl 27 (.tmp 2) rfl w.heap.size rfl 27 (shaL hf nf (.slice A' n' c')).toArray (0, 0) _ hS8.2 Tryd.underlying27 rfl Hi.out ?_)
        | ((with_reducible show wpList _ _ _ (⟨none, Op.store 27 _ _, _, _, _, _⟩ :: _) _ _); refine wpList_store_row rfl 27 (.tmp 4) (.tmp 46) rfl (w.heap.size + 1) (shaL hf nf (.slice A' n' c')).toArray rfl rfl 27 _ hR8 Hi.out Hz.out Ho.out ?_))
      refine bodyPost_ret (results_cell_tmp rfl _ _ (w.heap.size + 1) 27 _ (0, 0) _ rfl (setRow_heap _ _ _ _ _ _ hR8) Tryd.underlying27 rfl Hi.out) rfl ⟨A', n', c', ?_, ?_, below_setRow hB8 (by omega) _⟩
      · rw [← Hqe.out, ← Hhf.out, Hl3.out, ← Hnf.out]
        rfl
      · rw [← Hqe.out]
        refine (hrr.keepAt fun ad e p hp => ?_).more ?_
        · have hfa := hfar ad e
          refine World.cell?_of_block (w := wr) ((setRow_other _ _ _ _ ?_).trans (Below.heap_setCell _ _ _ _ ?_))
          · omega
          · simp; omega
        · have : (wr.setCell ⟨w.heap.size, 9, none⟩ (.slice A' n' c')).heap.size = wr.heap.size := by simp
          simp [World.setRow]
          omega

end Go.Proofs.YtmkkghlpdnoogaaDoor
