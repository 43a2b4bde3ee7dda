/-
  THE WALK of MacDerives (coterielaw03).
-/
import Derived.Test.YtmkkghlpdnoogaaDoorMacD
import Derived.Test.YtmkkghlpdnoogaaDoorMacLive
import Derived.Test.YtmkkghlpdnoogaaDoorFewAll
set_option linter.unusedVariables false
namespace Go.Proofs.YtmkkghlpdnoogaaDoor
open Go.RowKit

theorem mem_good {ts : List (List UInt8)} {t : List UInt8} (h : GoodT ts) (ht : t ∈ ts) : t.length ≤ 65535 := by
  obtain ⟨i, hi, rfl⟩ := List.mem_iff_getElem.1 ht
  exact h i _ (List.getElem?_eq_getElem hi)
/-- few texts, and a label that is not long: they fit, if each may be written -/
theorem fit_few {label : List UInt8} {ts : List (List UInt8)} (hl : label.length ≤ 70000) (hm : ts.length ≤ 200) (hs : fewSum ts ≤ 140000) (hg : GoodT (nameU :: label :: ts)) : fitD label ts := by
  refine ⟨hg, ?_⟩
  unfold infoU
  rw [txs_len]
  have h1 := fewSum_good ts (fun t ht => by
    have := mem_good hg (List.mem_cons_of_mem _ (List.mem_cons_of_mem _ ht))
    omega)
  simp only [List.flatten_cons, List.length_append, List.length_cons, name_len]
  omega

theorem DerivePost.get {w w' : World} {k label : List UInt8} {ts : List (List UInt8)} {e : Ending} (h : DerivePost w k label ts e w') :
    ∃ (r : List UInt8) (er : Int), e = .returned (.tuple #[.agg (r.map bv).toArray, .int .i64 er]) ∧ r.length = 32 ∧ (fitD label ts → er = 0 ∧ r = deriveU k label ts) ∧ (¬ fitD label ts → er = 4 ∧ r = zeroKey) ∧ Below w.heap.size w w' := by
  obtain ⟨hb, ⟨hf, he⟩ | ⟨hf, he⟩⟩ := h
  · exact ⟨_, 0, he, deriveU_len _ _ _, fun _ => ⟨rfl, rfl⟩, fun h => absurd hf h, hb⟩
  · exact ⟨_, 4, he, rfl, fun h => absurd h hf, fun _ => ⟨rfl, rfl⟩, hb⟩

set_option maxRecDepth 1000000 in
set_option maxHeartbeats 2000000 in
theorem walk_MacDerives (k : List UInt8) (s : ByteArray) (At : Option Addr) (m ct : Nat) (vs : List Value) (ts : List (List UInt8)) (w : World) (hk : k.length = 32) (hsm : s.size ≤ maxLen) (hmc : m ≤ ct) (hct : ct ≤ maxLen) (hm24 : m * 24 ≤ 140737488355328)
    (hv : Rd w w.heap.size At m vs) (ht : Txs w w.heap.size vs ts) (hT : CTab w) :
    Calls Tryd.prog 9 #[.agg (k.map bv).toArray, .string s, .slice At m ct] w fun e w' => e = .returned (.bool true) ∧ Below w.heap.size w w' := by
  have Hk := Lib.hid hk
  have Htl := Lib.hid (show ts.length = m by rw [← ht.1, hv.len])
  obtain ⟨i0, hi0, hz0, hz1, hz2⟩ := info_parts textInfo
  clear hk
  go_enter Tryd.func9, Tryd.ntmps9
  go_wp2_with fail
  refine (live03 _ (hT.below (d_al _ _))).mono ?_
  rintro e w2 ⟨rfl, hb2⟩
  have hK2 : ArrB w2 w.heap.size 36 k := (ArrB.mk_ w _ _ k rfl rfl).below hb2 (by simp)
  have hB2 : Below w.heap.size w w2 := c_call (d_al _ _) hb2
  clear hb2
  by_cases hs : s.size ≤ 1000
  rotate_left
  · go_wp2_with fail
    go_ret
    exact ⟨rfl, hB2⟩
  go_wp2_with (first
    | (go_at_call 12; refine (FewAll_any At m ct vs ts _ _ (by omega) (d_rd hv hB2) (d_txs ht hB2)).mono ?_; rintro e wf ⟨bf, rfl, hbf0, rfl⟩; have hbf := Lib.hid hbf0; clear hbf0; cases bf)
    | ((with_reducible show wpList _ _ _ (⟨some 27, _, _, _, _, _⟩ :: _) _ _); refine wpList_load_row rfl 36 (.tmp 3) rfl w.heap.size rfl 36 (k.map bv).toArray (0, 0) _ hK2 Tryd.underlying36 rfl (infoK32 Hk.out) ?_))
  · go_ret
    exact ⟨rfl, hB2⟩
  obtain ⟨hm, hfs⟩ := hbf.out (by first | rfl | trivial)
  have Hfs := Lib.hid hfs
  have Hsl := Lib.hid (strB_len s)
  clear hbf hfs
  refine (Derive_any k s At m ct vs ts _ Hk.out (by omega) (by omega) hmc (d_rd hv hB2) (d_txs ht hB2) (hT.below hB2)).mono ?_
  rintro e w3 h3
  obtain ⟨r, er, rfl, hrl, hfit, hnot, hb3⟩ := h3.get
  have Hrl := Lib.hid hrl
  have Hfit := Lib.hid hfit
  have Hnot := Lib.hid hnot
  have hK3 := hK2.below hb3 hK2.lt
  have hB3 : Below w.heap.size w w3 := c_call hB2 hb3
  clear hK2 hB2 hb3 h3 hrl hfit hnot
  have hA4 : ArrB (w3.alloc (.cells (r.map bv).toArray 36)) w3.heap.size 36 r := ArrB.mk_ _ _ _ _ rfl rfl
  have hK4 := hK3.alloc (.cells (r.map bv).toArray 36)
  have hB4 := c_alloc hB3 (.cells (r.map bv).toArray 36)
  go_wp2_with ((with_reducible show wpList _ _ _ (⟨none, Op.store 36 _ _, _, _, _, _⟩ :: _) _ _); refine wpList_store_row rfl 36 (.tmp 8) (.tmp 31) rfl w3.heap.size (r.map bv).toArray rfl rfl 36 ((List.replicate 32 (0 : UInt8)).map bv).toArray (heap_alloc_new _ _) (infoK32 Hrl.out) (sizeK Hrl.out) (one_bvA _) ?_; rw [World.setRow_alloc_new]; clear hK3 hB3; generalize w3.alloc (.cells (r.map bv).toArray 36) = w4 at *; generalize w3.heap.size = gA at *)
  obtain ⟨cf, wf, hcv, hC⟩ := conv_any s
  have Hcv := Lib.hid hcv
  clear hcv
  have f1 : Rd (w4.alloc (.cells #[.int .u8 99, .int .u8 111, .int .u8 116, .int .u8 101, .int .u8 114, .int .u8 105, .int .u8 101] 5 (7, 8))) (w4.heap.size + 1) (some ⟨w4.heap.size, 0, none⟩) 7 (nameU.map bv) := Rd.mkFr _ _ _ _ rfl (by omega) rfl rfl
  have f2 : Below w4.heap.size w4 (w4.alloc (.cells #[.int .u8 99, .int .u8 111, .int .u8 116, .int .u8 101, .int .u8 114, .int .u8 105, .int .u8 101] 5 (7, 8))) := d_al _ _
  have f3 : (w4.alloc (.cells #[.int .u8 99, .int .u8 111, .int .u8 116, .int .u8 101, .int .u8 114, .int .u8 105, .int .u8 101] 5 (7, 8))).heap.size = w4.heap.size + 1 := by simp
  have K0 := Lib.hid (Go.Joins.run_convert_bytes_const_at (P := Tryd.prog) w4 25 5 #[.int .u8 99, .int .u8 111, .int .u8 116, .int .u8 101, .int .u8 114, .int .u8 105, .int .u8 101] 7 7 w4.heap.size rfl Tryd.underlying25 Tryd.underlying5)
  rw [K0.out]
  clear K0
  generalize w4.alloc (.cells #[.int .u8 99, .int .u8 111, .int .u8 116, .int .u8 101, .int .u8 114, .int .u8 105, .int .u8 101] 5 (7, 8)) = wa at *
  go_wp2_with fail
  rw [Hcv.out wa]
  have hC1 := hC wa
  clear hC Hcv
  have hc1 := hC1.cap
  have hr1 := hC1.rd
  have hb1 := hC1.below
  have hz1' := hC1.size
  rw [f3] at hr1 hz1' hb1 ⊢
  have Hz1 := Lib.hid (show w4.heap.size + 1 ≤ (wf wa).heap.size by omega)
  clear hC1 hz1'
  generalize wf wa = wb at *
  generalize cf wa = cb at *
  have hB1 : Below w4.heap.size w4 wb := f2.trans (hb1.mono (by omega))
  have f1b : Rd wb (w4.heap.size + 1) (some ⟨w4.heap.size, 0, none⟩) 7 (nameU.map bv) := f1.below hb1
  clear f1 f2 f3 hb1
  have hBb : Below w.heap.size w wb := c_call hB4 hB1
  have hAb := hA4.below hB1 hA4.lt
  have hKb := hK4.below hB1 hK4.lt
  have hown0 := own_new wb wb.heap.size 25 #[.slice (some ⟨w4.heap.size, 0, none⟩) 7 7, .slice (some ⟨w4.heap.size + 1, 0, none⟩) s.size cb] (Nat.le_refl _) (by simp [maxLen])
  have hal := d_al wb (.cells #[.slice (some ⟨w4.heap.size, 0, none⟩) 7 7, .slice (some ⟨w4.heap.size + 1, 0, none⟩) s.size cb] 25)
  have hone := (d_txs ht hBb).one_cell
  have hvb := d_rd hv hBb
  clear hB1 hA4 hK4 hB4
  go_wp2_with (at_builtin; refine wpList_append_rd _ rfl (.tmp 38) (.tmp 39) _ rfl wb.heap.size 25 i0 _ 24 Tryd.underlying28 hi0 hz0 hz1 hz2 rfl _ 2 _ rfl hown0 wb.heap.size At m ct vs rfl (hvb.below hal) hone (by simp only [maxLen]; omega) (by omega) (al0 _ _) ?_; intro v5 w5 hown5 hgr5 hat5; obtain ⟨A5, c5, rfl, hc5, _⟩ := own_form hown5; have hB5 : Below wb.heap.size wb w5 := hal.grown hgr5 (al0 _ _) (fun g hg => (hown0.lt g hg).1))
  have hr5 := Rd.of_own hown5
  rw [show (#[Value.slice (some ⟨w4.heap.size, 0, none⟩) 7 7, .slice (some ⟨w4.heap.size + 1, 0, none⟩) s.size cb] : Array Value).toList ++ vs = .slice (some ⟨w4.heap.size, 0, none⟩) 7 7 :: .slice (some ⟨w4.heap.size + 1, 0, none⟩) s.size cb :: vs from rfl] at hr5
  have ht5 : Txs w5 w5.heap.size (.slice (some ⟨w4.heap.size, 0, none⟩) 7 7 :: .slice (some ⟨w4.heap.size + 1, 0, none⟩) s.size cb :: vs) (nameU :: strB s :: ts) :=
    d_txs (Txs.cons (txs_one1 name_len (Nat.le_refl _) (f1b.more Hz1.out)) (Txs.cons (txs_one1 (strB_len s) hc1 hr1) (d_txs ht hBb))) hB5
  have hBc : Below w.heap.size w w5 := c_call hBb hB5
  have hA5 := hAb.below hB5 hAb.lt
  have hK5 := hKb.below hB5 hKb.lt
  have Hi := Lib.hid (show txs (nameU :: strB s :: ts) = infoU (strB s) ts from rfl)
  have HF := Lib.hid (show fitD (strB s) ts → GoodT (nameU :: strB s :: ts) from fun h => h.1)
  have HG := Lib.hid (show GoodT (nameU :: strB s :: ts) → fitD (strB s) ts from fun h => fit_few (by rw [Hsl.out]; omega) (by rw [Htl.out]; exact hm) Hfs.out h)
  have HD := Lib.hid (show deriveU k (strB s) ts = expandU k (infoU (strB s) ts) 32 from rfl)
  generalize nameU :: strB s :: ts = L at *
  generalize Value.slice (some ⟨w4.heap.size, 0, none⟩) 7 7 :: Value.slice (some ⟨w4.heap.size + 1, 0, none⟩) s.size cb :: vs = V at *
  clear hAb hKb hBb hB5 hown5 hgr5 hat5 hown0 hal hone hvb f1b hr1 hv ht Hz1
  refine (refText_any none 0 0 [] A5 (2 + m) c5 V L w5 (by omega) (by omega) (Rd.zero _ _ _) hr5 ht5).mono ?_
  intro e w7 hP
  by_cases hg : GoodT L
  · obtain ⟨A, n, c, rfl, hown, hnc, hln, hb7⟩ := hP.yes hg
    have hr7 := Rd.of_own hown
    have hfD := HG.out hg
    obtain ⟨rfl, hrd⟩ := Hfit.out hfD
    have hn7 : n ≤ 1048576 := by
      have h1 := hfD.2
      have h2 := hln.out
      rw [List.nil_append, Hi.out] at h2
      omega
    rw [List.nil_append, Hi.out] at hr7
    have hA7 := hA5.below hb7 hA5.lt
    have hK7 := hK5.below hb7 hK5.lt
    have hB7 := c_call hBc hb7
    rw [HD.out] at hrd
    have Hrd := Lib.hid hrd
    clear hA5 hK5 hBc hb7 hP hrd hr5 ht5 hown
    go_wp2_with ((with_reducible show wpList _ _ _ (⟨some 53, _, _, _, _, _⟩ :: _) _ _); refine wpList_load_row rfl 36 (.tmp 3) rfl w.heap.size rfl 36 (k.map bv).toArray (0, 0) _ hK7 Tryd.underlying36 rfl (infoK32 Hk.out) ?_)
    rw [show (32 : Int) = ((32 : Nat) : Int) from rfl]
    refine (Expand_ok k A n c (infoU (strB s) ts) 32 _ Hk.out (by omega) hnc hn7 hr7 (hT.below hB7)).mono ?_
    rintro e w8 ⟨A8, c8, rfl, hc8, hr8, hb8⟩
    rw [← Hrd.out] at hr8
    have hA8 := (hA7.below hb8 hA7.lt).rd Hrl.out
    have hB8 := c_call hB7 hb8
    have Hsame := Lib.hid (sameB_refl r)
    clear hA7 hK7 hr7 hb8 hB7 hnc
    go_wp2_with (go_at_call 24; refine (Same_any _ A8 32 _ 32 c8 r r w8 _ _ hA8 hr8).mono ?_; rintro e w9 ⟨rfl, rfl⟩; rw [Hsame.out])
    go_ret
    exact ⟨rfl, hB8⟩
  · obtain ⟨rfl, hb7⟩ := hP.no hg
    obtain ⟨rfl, _⟩ := Hnot.out (fun h => hg (HF.out h))
    have hB7 := c_call hBc hb7
    go_wp2_with fail
    go_ret
    exact ⟨rfl, hB7⟩

end Go.Proofs.YtmkkghlpdnoogaaDoor
