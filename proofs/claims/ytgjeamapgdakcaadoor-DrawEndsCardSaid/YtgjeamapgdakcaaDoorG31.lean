import Derived.Test.YtgjeamapgdakcaaDoorG28
import Derived.Test.YtgjeamapgdakcaaDoorG29
import Derived.Test.YtgjeamapgdakcaaDoorG30
import Derived.Laws.IdiomStrings
import Derived.Laws.Cover3
import Derived.Deep.MidRow
import Derived.Lib.SmallJoins
import Derived.Test.YtgjeamapgdakcaaDoorG26
/-
  CONTRACTS of mac's mayFit, labelled and Derive.
-/
set_option linter.unusedVariables false
namespace Go.Proofs.YtgjeamapgdakcaaDoor
open Go.RowKit

theorem mayFit_any (At : Option Addr) (m ct : Nat) (vs : List Value) (ts : List (List UInt8)) (w : World) (B : Nat) (hm : m ≤ 1073741824) (hv : Rd w B At m vs) (ht : Txs w B vs ts) :
    Calls Tryd.prog 58 #[.slice At m ct] w fun e w' => e = .returned (.bool (decide (ts.flatten.length ≤ 1048576))) ∧ w = w' := by
  have hml : vs.length = m := hv.len
  have htl : ts.length = m := by rw [← ht.1, hml]
  have Hml := Lib.hid hml
  have Htl := Lib.hid htl
  have Hle := Lib.hid (flat_take_le ts)
  clear hml htl
  go_enter Tryd.func58, Tryd.ntmps58
  go_wp2_with fail
  go_loop [3, 8] (fun x i => ∃ j q : Nat, j ≤ m ∧ i = .int .i64 (j : Int) ∧ x = .int .i64 (q : Int) ∧ Hid (q + (ts.take j).flatten.length = 1048576)) (fun _ i => m - (intOf i).toNat)
  case atStart => exact ⟨0, 1048576, by omega, rfl, rfl, Lib.hid (by simp)⟩
  case round =>
    obtain ⟨j, q, hj, rfl, rfl, hq⟩ := hrel
    by_cases hlt : j < m
    · obtain ⟨b, o, rfl, hb, hc⟩ := hv.pos (by omega)
      obtain ⟨v, hvj⟩ : ∃ v, vs[j]? = some v := ⟨_, List.getElem?_eq_getElem (by have := Hml.out; omega)⟩
      obtain ⟨t, htj⟩ : ∃ t, ts[j]? = some t := ⟨_, List.getElem?_eq_getElem (by have := Htl.out; omega)⟩
      obtain ⟨Ax, cx, rfl, hcx, hrx⟩ := ht.2 j v t hvj htj
      have hcell := hc j _ hvj
      have Hsn := Lib.hid (show (ts.take (j + 1)).flatten.length = (ts.take j).flatten.length + t.length by rw [flat_take_succ htj, List.length_append])
      have hq1 : q ≤ 1048576 := by have := hq.out; omega
      clear hvj htj hc
      by_cases hs : t.length ≤ q
      · go_wp2_with fail
        go_round
        case rel => exact ⟨j + 1, q - t.length, by omega, by go_num, by go_num, Lib.hid (by have := hq.out; have := Hsn.out; omega)⟩
        case measure => simp [intOf]; omega
      · have hd : decide (ts.flatten.length ≤ 1048576) = false := by
          have h1 := Hle.out (j + 1)
          have := hq.out
          have := Hsn.out
          exact decide_eq_false (by omega)
        go_wp2_with fail
        go_ret
        rw [List.length_flatten] at hd
        exact ⟨congrArg (fun x => Ending.returned (Value.bool x)) hd.symm, rfl⟩
    · obtain rfl : j = m := by omega
      have hd : decide (ts.flatten.length ≤ 1048576) = true := by
        have h2 : ts.take j = ts := List.take_of_length_le (by have := Htl.out; omega)
        have h3 := hq.out
        rw [h2] at h3
        exact decide_eq_true (by omega)
      go_wp2_with fail
      go_ret
      rw [List.length_flatten] at hd
      exact ⟨congrArg (fun x => Ending.returned (Value.bool x)) hd.symm, rfl⟩


theorem txs_len (ts : List (List UInt8)) : (txs ts).length = ts.flatten.length + 2 * ts.length := by
  induction ts with
  | nil => rfl
  | cons t r ih => rw [txs_cons]; simp only [List.length_append, List.flatten_cons, List.length_cons, be_length, ih]; omega

/-- what 'labelled' takes -/
def fitL (label : List UInt8) (ts : List (List UInt8)) : Prop := (nameU :: label :: ts).flatten.length ≤ 1048576 ∧ GoodT (nameU :: label :: ts)
theorem fitD_L {label : List UInt8} {ts : List (List UInt8)} (h : fitD label ts) : fitL label ts := by
  refine ⟨?_, h.1⟩
  have := h.2
  unfold infoU at this
  rw [txs_len] at this
  omega

def LabelPost (w : World) (label : List UInt8) (ts : List (List UInt8)) (e : Ending) (w' : World) : Prop :=
  Below w.heap.size w w' ∧ ((fitL label ts ∧ ∃ A n c, e = .returned (.tuple #[.slice A n c, .int .i64 0]) ∧ n ≤ c ∧ n = (infoU label ts).length ∧ Rd w' w'.heap.size A n ((infoU label ts).map bv)) ∨
    (¬ fitL label ts ∧ e = .returned (.tuple #[.slice none 0 0, .int .i64 4])))

set_option maxRecDepth 1000000 in
set_option maxHeartbeats 1000000 in
theorem labelled_any (s : ByteArray) (At : Option Addr) (m ct : Nat) (vs : List Value) (ts : List (List UInt8)) (w : World) (hs : s.size ≤ 70000) (hm : m ≤ 1000000) (hmc : m ≤ ct)
    (hv : Rd w w.heap.size At m vs) (ht : Txs w w.heap.size vs ts) :
    Calls Tryd.prog 51 #[.string s, .slice At m ct] w (LabelPost w (strB s) ts) := by
  obtain ⟨cf, wf, hcv, hC⟩ := conv_any s
  have Hcv := Lib.hid hcv
  clear hcv
  have f1 : Rd (w.alloc (.cells #[.int .u8 99, .int .u8 111, .int .u8 116, .int .u8 101, .int .u8 114, .int .u8 105, .int .u8 101] 5 (7, 8))) (w.heap.size + 1) (some ⟨w.heap.size, 0, none⟩) 7 (nameU.map bv) := Rd.mkFr _ _ _ _ rfl (by omega) rfl rfl
  have f2 : Below w.heap.size w (w.alloc (.cells #[.int .u8 99, .int .u8 111, .int .u8 116, .int .u8 101, .int .u8 114, .int .u8 105, .int .u8 101] 5 (7, 8))) := d_al _ _
  have f3 : (w.alloc (.cells #[.int .u8 99, .int .u8 111, .int .u8 116, .int .u8 101, .int .u8 114, .int .u8 105, .int .u8 101] 5 (7, 8))).heap.size = w.heap.size + 1 := by simp
  have K0 := Lib.hid (Go.Joins.run_convert_bytes_const_at (P := Tryd.prog) w 45 5 #[.int .u8 99, .int .u8 111, .int .u8 116, .int .u8 101, .int .u8 114, .int .u8 105, .int .u8 101] 7 7 w.heap.size rfl Tryd.underlying45 Tryd.underlying5)
  go_enter Tryd.func51, Tryd.ntmps51
  go_wp2_with fail
  rw [K0.out]
  clear K0
  change Below w.heap.size w (w.alloc (.cells #[.int .u8 99, .int .u8 111, .int .u8 116, .int .u8 101, .int .u8 114, .int .u8 105, .int .u8 101] 5 (7, 8))) at f2
  generalize w.alloc (.cells #[.int .u8 99, .int .u8 111, .int .u8 116, .int .u8 101, .int .u8 114, .int .u8 105, .int .u8 101] 5 (7, 8)) = wa at *
  go_wp2_with fail
  rw [Hcv.out wa]
  have hC1 := hC wa
  clear hC Hcv
  have hc1 := hC1.cap
  have hr1 := hC1.rd
  have hb1 := hC1.below
  have hz1 := hC1.size
  rw [f3] at hr1 hz1 hb1 ⊢
  clear hC1
  generalize wf wa = wb at *
  generalize cf wa = cb at *
  have hB1 : Below w.heap.size w wb := f2.trans (hb1.mono (by omega))
  have f1b : Rd wb (w.heap.size + 1) (some ⟨w.heap.size, 0, none⟩) 7 (nameU.map bv) := f1.below hb1
  clear f1 f2 f3 hb1
  go_wp2_with fail
  refine calls_gen (fun wx => ((Rd wx wx.heap.size (some ⟨w.heap.size + 1 + 1 + 1, 0, none⟩) 2 [.slice (some ⟨w.heap.size + 1 + 1, 0, none⟩) 2 2, .slice At m ct] ∧ Rd wx wx.heap.size (some ⟨w.heap.size + 1 + 1, 0, none⟩) 2 [.slice (some ⟨w.heap.size, 0, none⟩) 7 7, .slice (some ⟨w.heap.size + 1, 0, none⟩) s.size cb]) ∧ Rd wx wx.heap.size (some ⟨w.heap.size, 0, none⟩) 7 (nameU.map bv) ∧ Rd wx wx.heap.size (some ⟨w.heap.size + 1, 0, none⟩) s.size ((strB s).map bv)) ∧ Below w.heap.size w wx) ?_ ?_
  · have b2 := (d_al wb (.cells #[.slice (some ⟨w.heap.size, 0, none⟩) 7 7, .slice (some ⟨w.heap.size + 1, 0, none⟩) s.size cb] 45)).alloc (al0 _ _) (.cells #[.slice (some ⟨w.heap.size + 1 + 1, 0, none⟩) 2 2, .slice At m ct] 22)
    exact ⟨⟨⟨Rd.mk_ _ _ _ (by simp [hz1]) (by simp [hz1]) rfl rfl, ((Rd.mk_ (B := w.heap.size + 1 + 1 + 1) _ _ _ hz1 (by omega) rfl rfl).alloc (by simp [hz1]) _).more (by first | (simp [hz1]; done) | (simp [hz1]; omega))⟩, d_rd (f1b.more (by omega)) b2, d_rd hr1 b2⟩, (hB1.alloc (by omega) _).alloc (by first | (simp [hz1]; done) | (simp [hz1]; omega)) _⟩
  clear f1b hr1 hz1 hB1
  rintro w4 ⟨⟨⟨hh4, hl4⟩, hn4, hs4⟩, hB4⟩
  have hv4 := d_rd hv hB4
  have ht4 := d_txs ht hB4
  refine (Concat_any _ 2 2 _ [[.slice (some ⟨w.heap.size, 0, none⟩) 7 7, .slice (some ⟨w.heap.size + 1, 0, none⟩) s.size cb], vs] w4 (by omega) (by simp) (by simp [hv.len]; omega) hh4 (Lists.two hl4 (Nat.le_refl _) (by intro u hu; simp only [List.mem_cons, List.not_mem_nil, or_false] at hu; rcases hu with rfl | rfl <;> rfl) hv4 hmc ht4.one_cell)).mono ?_
  rintro e w5 ⟨A5, n5, c5, rfl, hn5, hown5, hb5⟩
  have hr5 := Rd.of_own hown5
  rw [show [[Value.slice (some ⟨w.heap.size, 0, none⟩) 7 7, .slice (some ⟨w.heap.size + 1, 0, none⟩) s.size cb], vs].flatten = .slice (some ⟨w.heap.size, 0, none⟩) 7 7 :: .slice (some ⟨w.heap.size + 1, 0, none⟩) s.size cb :: vs by simp] at hr5
  have ht5 : Txs w5 w5.heap.size (.slice (some ⟨w.heap.size, 0, none⟩) 7 7 :: .slice (some ⟨w.heap.size + 1, 0, none⟩) s.size cb :: vs) (nameU :: strB s :: ts) :=
    d_txs (Txs.cons (txs_one1 name_len (Nat.le_refl _) hn4) (Txs.cons (txs_one1 (strB_len s) hc1 hs4) ht4)) hb5
  have hB5 : Below w.heap.size w w5 := hB4.trans (hb5.mono hB4.size)
  have hn5m : n5 ≤ 1000002 := by have := hr5.len; have h2 := hv.len; simp only [List.length_cons] at this; omega
  have Hi := Lib.hid (show txs (nameU :: strB s :: ts) = infoU (strB s) ts from rfl)
  have HL := Lib.hid (show fitL (strB s) ts ↔ (nameU :: strB s :: ts).flatten.length ≤ 1048576 ∧ GoodT (nameU :: strB s :: ts) from Iff.rfl)
  generalize nameU :: strB s :: ts = L at *
  generalize Value.slice (some ⟨w.heap.size, 0, none⟩) 7 7 :: Value.slice (some ⟨w.heap.size + 1, 0, none⟩) s.size cb :: vs = V at *
  clear hh4 hl4 hn4 hs4 hB4 hv4 ht4 hown5 hb5 hv ht
  go_wp2_with fail
  refine (mayFit_any A5 n5 c5 V L w5 _ (by omega) hr5 ht5).mono ?_
  rintro e w6 ⟨rfl, rfl⟩
  by_cases hf : L.flatten.length ≤ 1048576
  · rw [decide_eq_true hf]
    go_wp2_with fail
    refine (Text_any none 0 0 [] A5 n5 c5 V L w5 (by omega) (by omega) (Rd.zero _ _ _) hr5 ht5).mono ?_
    intro e w7 hP
    by_cases hg : GoodT L
    · obtain ⟨A, n, c, rfl, hown, hnc, hln, hb⟩ := hP.yes hg
      have hr7 := Rd.of_own hown
      rw [List.nil_append, Hi.out] at hr7
      go_wp2_with fail
      go_ret2
      refine ⟨c_call hB5 hb, .inl ⟨HL.out.2 ⟨hf, hg⟩, A, n, c, rfl, hnc, ?_, hr7⟩⟩
      have := hln.out
      rwa [List.nil_append, Hi.out] at this
    · obtain ⟨rfl, hb⟩ := hP.no hg
      go_wp2_with fail
      go_ret2
      exact ⟨c_call hB5 hb, .inr ⟨fun h => hg (HL.out.1 h).2, rfl⟩⟩
  · rw [decide_eq_false hf]
    go_wp2_with fail
    go_ret2
    exact ⟨hB5, .inr ⟨fun h => hf (HL.out.1 h).1, rfl⟩⟩

def DerivePost (w : World) (k label : List UInt8) (ts : List (List UInt8)) (e : Ending) (w' : World) : Prop :=
  Below w.heap.size w w' ∧ ((fitD label ts ∧ e = .returned (.tuple #[.agg ((deriveU k label ts).map bv).toArray, .int .i64 0])) ∨
    (¬ fitD label ts ∧ e = .returned (.tuple #[.agg (zeroKey.map bv).toArray, .int .i64 4])))

set_option maxRecDepth 1000000 in
set_option maxHeartbeats 1000000 in
theorem Derive_any (k : List UInt8) (s : ByteArray) (At : Option Addr) (m ct : Nat) (vs : List Value) (ts : List (List UInt8)) (w : World) (hk : k.length = 32) (hs : s.size ≤ 70000) (hm : m ≤ 1000000) (hmc : m ≤ ct)
    (hv : Rd w w.heap.size At m vs) (ht : Txs w w.heap.size vs ts) (hT : CTab w) :
    Calls Tryd.prog 39 #[.agg (k.map bv).toArray, .string s, .slice At m ct] w (DerivePost w k (strB s) ts) := by
  have Hk := Lib.hid hk
  have b2 := (d_al w (.cells (k.map bv).toArray 24)).alloc (al0 _ _) (.cells (zeroKey.map bv).toArray 24)
  have hK2 : ArrB ((w.alloc (.cells (k.map bv).toArray 24)).alloc (.cells (zeroKey.map bv).toArray 24)) w.heap.size 24 k := (ArrB.mk_ w _ _ k rfl rfl).alloc _
  have hR2 : ArrB ((w.alloc (.cells (k.map bv).toArray 24)).alloc (.cells (zeroKey.map bv).toArray 24)) (w.heap.size + 1) 24 zeroKey := ArrB.mk_ _ _ _ _ (by simp) rfl
  clear hk
  go_enter Tryd.func39, Tryd.ntmps39
  go_wp2_with fail
  refine (labelled_any s At m ct vs ts _ hs hm hmc (d_rd hv b2) (d_txs ht b2)).mono ?_
  rintro e w3 ⟨hb3, h3⟩
  have hK3 := hK2.below hb3 hK2.lt
  have hR3 := hR2.below hb3 hR2.lt
  have hB3 : Below w.heap.size w w3 := c_call b2 hb3
  have Hw := Lib.hid (show w.heap.size + 1 < w3.heap.size from hR3.lt)
  clear hK2 hR2 hb3 b2
  rcases h3 with ⟨hL, A, n, c, rfl, hnc, hn0, hr⟩ | ⟨hL, rfl⟩
  rotate_left
  · go_wp2_with ((with_reducible show wpList _ _ _ (⟨none, Op.store 24 _ _, _, _, _, _⟩ :: _) _ _); refine wpList_store_row rfl 24 (.tmp 6) (.tmp 19) rfl (w.heap.size + 1) (zeroKey.map bv).toArray rfl rfl 24 _ hR3 key_zero rfl one_key ?_)
    exact bodyPost_ret (results_cell_tmp rfl _ _ (w.heap.size + 1) 24 _ (0, 0) _ rfl (hR3.row zeroKey) Tryd.underlying24 rfl key_zero) rfl ⟨below_setRow hB3 (by omega) _, .inr ⟨fun h => hL (fitD_L h), rfl⟩⟩
  have hn := Lib.hid hn0
  clear hn0
  go_wp2_with ((with_reducible show wpList _ _ _ (⟨some 22, _, _, _, _, _⟩ :: _) _ _); refine wpList_load_row rfl 24 (.tmp 3) rfl w.heap.size rfl 24 (k.map bv).toArray (0, 0) _ hK3 Tryd.underlying24 rfl (infoK32 Hk.out) ?_)
  by_cases hl : n ≤ 1048576
  rotate_left
  · refine (Expand_long k A n c 32 _ (by omega) (by omega) (by omega)).mono ?_
    rintro e w4 ⟨rfl, hb4⟩
    have hR4 := hR3.below hb4 hR3.lt
    have hB4 : Below w.heap.size w w4 := c_call hB3 hb4
    clear hK3 hR3 hB3 hb4 hr
    go_wp2_with ((with_reducible show wpList _ _ _ (⟨none, Op.store 24 _ _, _, _, _, _⟩ :: _) _ _); refine wpList_store_row rfl 24 (.tmp 6) (.tmp 29) rfl (w.heap.size + 1) (zeroKey.map bv).toArray rfl rfl 24 _ hR4 key_zero rfl one_key ?_)
    exact bodyPost_ret (results_cell_tmp rfl _ _ (w.heap.size + 1) 24 _ (0, 0) _ rfl (hR4.row zeroKey) Tryd.underlying24 rfl key_zero) rfl ⟨below_setRow hB4 (by omega) _, .inr ⟨fun h => hl (by rw [hn.out]; exact h.2), rfl⟩⟩
  rw [show (32 : Int) = ((32 : Nat) : Int) from rfl]
  refine (Expand_ok k A n c (infoU (strB s) ts) 32 _ Hk.out (by omega) hnc hl hr (hT.below hB3)).mono ?_
  rintro e w4 ⟨A4, c4, rfl, hc4, hr4, hb4⟩
  have hR4 := hR3.below hb4 hR3.lt
  have hB4 : Below w.heap.size w w4 := c_call hB3 hb4
  have Hf := Lib.hid (show fitD (strB s) ts from ⟨hL.2, by have := hn.out; omega⟩)
  have Hd := Lib.hid (show expandU k (infoU (strB s) ts) 32 = deriveU k (strB s) ts from rfl)
  have Hl := Lib.hid (expandU_len k (infoU (strB s) ts) 32)
  generalize expandU k (infoU (strB s) ts) 32 = r at *
  clear hK3 hR3 hB3 hb4 hr hL hn hl
  obtain ⟨b, o, rfl, hb, hc⟩ := hr4.pos (by omega)
  have K1 := Lib.hid (run_arrayAt (P := Tryd.prog) (w := w4) 24 5 32 (some ⟨b, o, none⟩) 32 c4 Tryd.underlying24 (Nat.le_refl _))
  have hi2 : (Tryd.prog.info? 24).map (·.size) = some (r.map bv).length := by rw [info32]; simp [Hl.out]
  have hz2 : ((zeroKey.map bv).toArray).size = ((r.map bv).toArray).size := by simp [Hl.out, zeroKey]
  go_wp2_with fail
  rw [K1.out]
  go_wp2_with (first
    | ((with_reducible show wpList _ _ _ (⟨some 33, _, _, _, _, _⟩ :: _) _ _); refine wpList_load_mid rfl 24 (.tmp 32) rfl b o rfl (r.map bv) _ hc Tryd.underlying24 rfl hi2 ?_)
    | ((with_reducible show wpList _ _ _ (⟨none, Op.store 24 _ _, _, _, _, _⟩ :: _) _ _); refine wpList_store_row rfl 24 (.tmp 6) (.tmp 33) rfl (w.heap.size + 1) (r.map bv).toArray rfl rfl 24 _ hR4 (infoK32 Hl.out) hz2 (one_bvA _) ?_))
  exact bodyPost_ret (results_cell_tmp rfl _ _ (w.heap.size + 1) 24 _ (0, 0) _ rfl (hR4.row r) Tryd.underlying24 rfl (infoK32 Hl.out)) rfl ⟨below_setRow hB4 (by omega) _, .inl ⟨Hf.out, by rw [Hd.out]; rfl⟩⟩

end Go.Proofs.YtgjeamapgdakcaaDoor

/-
  CONTRACTS of the document's own Key and Derive (coterieref03).
-/
set_option linter.unusedVariables false
namespace Go.Proofs.YtgjeamapgdakcaaDoor
open Go.RowKit

def keyTo (b : List UInt8) (j : Nat) : List UInt8 := b.take j ++ List.replicate (32 - j) 0
theorem keyTo_zero (b : List UInt8) : keyTo b 0 = List.replicate 32 0 := by simp [keyTo]
theorem keyTo_all {b : List UInt8} (hb : b.length = 32) : keyTo b 32 = b := by simp [keyTo, ← hb]
theorem keyTo_len {b : List UInt8} {j : Nat} (hb : b.length = 32) (hj : j ≤ 32) : (keyTo b j).length = 32 := by
  unfold keyTo
  simp
  omega
theorem keyTo_succ {b : List UInt8} {j : Nat} {y : UInt8} (h : b[j]? = some y) (hb : b.length = 32) : keyTo b (j + 1) = (keyTo b j).set j y := by
  have hj := (List.getElem?_eq_some_iff.1 h).1
  unfold keyTo
  rw [take_succ_of h, List.set_append_right _ _ (by simp; omega), show j - (b.take j).length = 0 from by simp; omega, show 32 - j = (32 - (j + 1)) + 1 from by omega, List.replicate_succ]
  simp

set_option maxRecDepth 100000 in
set_option maxHeartbeats 400000 in
theorem Key_any (A : Option Addr) (c : Nat) (b : List UInt8) (w : World) (hr : Rd w w.heap.size A 32 (b.map bv)) :
    Calls Tryd.prog 42 #[.slice A 32 c] w fun e w' => e = .returned (.agg (b.map bv).toArray) ∧ Below w.heap.size w w' := by
  have Hb := Lib.hid (show b.length = 32 by simpa using hr.len)
  obtain ⟨ba, o, rfl, hba, hcell⟩ := hr.pos (by omega)
  clear hcell
  go_enter Tryd.func42, Tryd.ntmps42
  go_wp2_with fail
  go_loopw [5] (fun i wr => ∃ j : Nat, j ≤ 32 ∧ i = .int .i64 (j : Int) ∧ ArrB wr (w.heap.size + 1) 24 (keyTo b j) ∧ ArrB wr w.heap.size 24 (List.replicate 32 0) ∧ Rd wr w.heap.size (some ⟨ba, o, none⟩) 32 (b.map bv) ∧ Below w.heap.size w wr) (fun i _ => 32 - (intOf i).toNat)
  case atStart => exact ⟨0, by omega, rfl, by rw [keyTo_zero]; exact ArrB.mk_ _ _ _ _ (by simp) rfl, (ArrB.mk_ w _ _ (List.replicate 32 0) rfl rfl).alloc _, (hr.alloc (Nat.le_refl _) _).alloc (al0 _ _) _, (d_al _ _).alloc (al0 _ _) _⟩
  case round =>
    obtain ⟨j, hj, rfl, hA, hZ, hR, hB⟩ := hrel
    by_cases hlt : j < 32
    · obtain ⟨y, hy⟩ : ∃ y, b[j]? = some y := ⟨_, List.getElem?_eq_getElem (by have := Hb.out; omega)⟩
      have cb : wr.cell? ⟨ba, o + j, none⟩ = some (.int .u8 (y.toNat : Int)) := by
        obtain ⟨b', o', he, _, hcz⟩ := hR.pos (by omega)
        injection he with he
        injection he with he1 he2
        subst he1 he2
        exact hcz j _ (by rw [List.getElem?_map, hy]; rfl)
      have kl := keyTo_len Hb.out hj
      obtain ⟨z0, hz0⟩ : ∃ z0, (keyTo b j)[j]? = some z0 := ⟨_, List.getElem?_eq_getElem (by omega)⟩
      have c0 := hA.cell hz0
      have f0 := hA.frozen j
      have Hs := Lib.hid (keyTo_succ hy Hb.out)
      have hA2 := hA.set_ j y
      rw [← Hs.out] at hA2
      have hZ2 := hZ.far (p := ⟨w.heap.size + 1, j, none⟩) (show w.heap.size ≠ w.heap.size + 1 by omega) (.int .u8 (y.toNat : Int))
      have hR2 := hR.setCell (p := ⟨w.heap.size + 1, j, none⟩) (Nat.le_succ _) (.int .u8 (y.toNat : Int))
      have hB2 := hB.setCell (p := ⟨w.heap.size + 1, j, none⟩) (Nat.le_succ _) (.int .u8 (y.toNat : Int))
      have j0 : (0 : Int) ≤ (j : Int) := by omega
      have j1 : (j : Int) < 32 := by omega
      clear hy hz0 kl
      go_wp2_with fail
      go_roundw
      case rel => exact ⟨j + 1, by omega, by go_num, hA2, hZ2, hR2, hB2⟩
      case measure => simp [intOf]; omega
    · obtain rfl : j = 32 := by omega
      rw [keyTo_all Hb.out] at hA
      rw [show ((32 : Nat) : Int) = 32 from rfl]
      go_wp2_with (first
        | ((with_reducible show wpList _ _ _ (⟨some 19, _, _, _, _, _⟩ :: _) _ _); refine wpList_load_row rfl 24 (.tmp 3) rfl (w.heap.size + 1) rfl 24 (b.map bv).toArray (0, 0) _ hA Tryd.underlying24 rfl (infoK32 Hb.out) ?_)
        | ((with_reducible show wpList _ _ _ (⟨none, Op.store 24 _ _, _, _, _, _⟩ :: _) _ _); refine wpList_store_row rfl 24 (.tmp 2) (.tmp 19) rfl w.heap.size (b.map bv).toArray rfl rfl 24 _ hZ (infoK32 Hb.out) (sizeK Hb.out) (one_bvA _) ?_))
      exact bodyPost_ret (results_cell_row rfl _ _ w.heap.size 24 _ (0, 0) _ rfl (hZ.row b) Tryd.underlying24 rfl (infoK32 Hb.out)) rfl ⟨rfl, below_setRow hB (Nat.le_refl _) _⟩

set_option maxRecDepth 1000000 in
set_option maxHeartbeats 2000000 in
theorem rDerive_any (k : List UInt8) (s : ByteArray) (At : Option Addr) (m ct : Nat) (vs : List Value) (ts : List (List UInt8)) (w : World) (hk : k.length = 32) (hs : s.size ≤ 70000) (hm : m ≤ 1000000) (hmc : m ≤ ct)
    (hv : Rd w w.heap.size At m vs) (ht : Txs w w.heap.size vs ts) (hT : KTab w) :
    Calls Tryd.prog 25 #[.agg (k.map bv).toArray, .string s, .slice At m ct] w (DerivePost w k (strB s) ts) := by
  have Hk := Lib.hid hk
  have Hsl := Lib.hid (strB_len s)
  obtain ⟨i0, hi0, hz0, hz1, hz2⟩ := info_parts textInfo
  have hB4 : Below w.heap.size w ((w.alloc (.cells (k.map bv).toArray 24)).alloc (.cells #[.int .u8 0, .int .u8 0, .int .u8 0, .int .u8 0, .int .u8 0, .int .u8 0, .int .u8 0, .int .u8 0, .int .u8 0, .int .u8 0, .int .u8 0, .int .u8 0, .int .u8 0, .int .u8 0, .int .u8 0, .int .u8 0, .int .u8 0, .int .u8 0, .int .u8 0, .int .u8 0, .int .u8 0, .int .u8 0, .int .u8 0, .int .u8 0, .int .u8 0, .int .u8 0, .int .u8 0, .int .u8 0, .int .u8 0, .int .u8 0, .int .u8 0, .int .u8 0] 24)) := (d_al w (.cells (k.map bv).toArray 24)).alloc (al0 _ _) _
  have hK4 : ArrB ((w.alloc (.cells (k.map bv).toArray 24)).alloc (.cells #[.int .u8 0, .int .u8 0, .int .u8 0, .int .u8 0, .int .u8 0, .int .u8 0, .int .u8 0, .int .u8 0, .int .u8 0, .int .u8 0, .int .u8 0, .int .u8 0, .int .u8 0, .int .u8 0, .int .u8 0, .int .u8 0, .int .u8 0, .int .u8 0, .int .u8 0, .int .u8 0, .int .u8 0, .int .u8 0, .int .u8 0, .int .u8 0, .int .u8 0, .int .u8 0, .int .u8 0, .int .u8 0, .int .u8 0, .int .u8 0, .int .u8 0, .int .u8 0] 24)) w.heap.size 24 k := (ArrB.mk_ w _ _ k rfl rfl).alloc _
  have hA4 : ArrB ((w.alloc (.cells (k.map bv).toArray 24)).alloc (.cells #[.int .u8 0, .int .u8 0, .int .u8 0, .int .u8 0, .int .u8 0, .int .u8 0, .int .u8 0, .int .u8 0, .int .u8 0, .int .u8 0, .int .u8 0, .int .u8 0, .int .u8 0, .int .u8 0, .int .u8 0, .int .u8 0, .int .u8 0, .int .u8 0, .int .u8 0, .int .u8 0, .int .u8 0, .int .u8 0, .int .u8 0, .int .u8 0, .int .u8 0, .int .u8 0, .int .u8 0, .int .u8 0, .int .u8 0, .int .u8 0, .int .u8 0, .int .u8 0] 24)) (w.heap.size + 1) 24 zeroKey := ArrB.mk_ _ _ _ zeroKey (by simp) rfl
  have hz4 := Lib.hid (show ((w.alloc (.cells (k.map bv).toArray 24)).alloc (.cells #[.int .u8 0, .int .u8 0, .int .u8 0, .int .u8 0, .int .u8 0, .int .u8 0, .int .u8 0, .int .u8 0, .int .u8 0, .int .u8 0, .int .u8 0, .int .u8 0, .int .u8 0, .int .u8 0, .int .u8 0, .int .u8 0, .int .u8 0, .int .u8 0, .int .u8 0, .int .u8 0, .int .u8 0, .int .u8 0, .int .u8 0, .int .u8 0, .int .u8 0, .int .u8 0, .int .u8 0, .int .u8 0, .int .u8 0, .int .u8 0, .int .u8 0, .int .u8 0] 24)).heap.size = w.heap.size + 1 + 1 by simp)
  clear hk
  go_enter Tryd.func25, Tryd.ntmps25
  go_wp2_with fail
  have hgr : w.heap.size + 1 < w.heap.size + 1 + 1 := by omega
  generalize w.heap.size + 1 + 1 = g0 at *
  generalize ((w.alloc (.cells (k.map bv).toArray 24)).alloc (.cells #[.int .u8 0, .int .u8 0, .int .u8 0, .int .u8 0, .int .u8 0, .int .u8 0, .int .u8 0, .int .u8 0, .int .u8 0, .int .u8 0, .int .u8 0, .int .u8 0, .int .u8 0, .int .u8 0, .int .u8 0, .int .u8 0, .int .u8 0, .int .u8 0, .int .u8 0, .int .u8 0, .int .u8 0, .int .u8 0, .int .u8 0, .int .u8 0, .int .u8 0, .int .u8 0, .int .u8 0, .int .u8 0, .int .u8 0, .int .u8 0, .int .u8 0, .int .u8 0] 24)) = w4 at *
  obtain ⟨cf, wf, hcv, hC⟩ := conv_any s
  have Hcv := Lib.hid hcv
  clear hcv
  have f1 : Rd (w4.alloc (.cells #[.int .u8 99, .int .u8 111, .int .u8 116, .int .u8 101, .int .u8 114, .int .u8 105, .int .u8 101] 5 (7, 8))) (g0 + 1) (some ⟨g0, 0, none⟩) 7 (nameU.map bv) := Rd.mkFr _ _ _ _ hz4.out (by omega) rfl rfl
  have f2 : Below w4.heap.size w4 (w4.alloc (.cells #[.int .u8 99, .int .u8 111, .int .u8 116, .int .u8 101, .int .u8 114, .int .u8 105, .int .u8 101] 5 (7, 8))) := d_al _ _
  have f3 : (w4.alloc (.cells #[.int .u8 99, .int .u8 111, .int .u8 116, .int .u8 101, .int .u8 114, .int .u8 105, .int .u8 101] 5 (7, 8))).heap.size = g0 + 1 := by rw [← hz4.out]; simp
  have K0 := Lib.hid (Go.Joins.run_convert_bytes_const_at (P := Tryd.prog) w4 45 5 #[.int .u8 99, .int .u8 111, .int .u8 116, .int .u8 101, .int .u8 114, .int .u8 105, .int .u8 101] 7 7 g0 hz4.out.symm Tryd.underlying45 Tryd.underlying5)
  rw [K0.out]
  clear K0
  generalize w4.alloc (.cells #[.int .u8 99, .int .u8 111, .int .u8 116, .int .u8 101, .int .u8 114, .int .u8 105, .int .u8 101] 5 (7, 8)) = wa at *
  go_wp2_with fail
  rw [Hcv.out wa]
  have hC1 := hC wa
  clear hC Hcv
  have hc1 := hC1.cap
  have hr1 := hC1.rd
  have hb1 := hC1.below
  have hz1' := hC1.size
  rw [f3] at hr1 hz1' hb1 ⊢
  have Hz1 := Lib.hid (show g0 + 1 ≤ (wf wa).heap.size by omega)
  clear hC1 hz1'
  generalize wf wa = wb at *
  generalize cf wa = cb at *
  have hB1 : Below w4.heap.size w4 wb := f2.trans (hb1.mono (by have := hz4.out; omega))
  have f1b : Rd wb (g0 + 1) (some ⟨g0, 0, none⟩) 7 (nameU.map bv) := f1.below hb1
  clear f1 f2 f3 hb1
  have hBb : Below w.heap.size w wb := c_call hB4 hB1
  have hAb := hA4.below hB1 hA4.lt
  have hKb := hK4.below hB1 hK4.lt
  have hown0 := own_new wb wb.heap.size 45 #[.slice (some ⟨g0, 0, none⟩) 7 7, .slice (some ⟨g0 + 1, 0, none⟩) s.size cb] (Nat.le_refl _) (by simp [maxLen])
  have hal := d_al wb (.cells #[.slice (some ⟨g0, 0, none⟩) 7 7, .slice (some ⟨g0 + 1, 0, none⟩) s.size cb] 45)
  have hone := (d_txs ht hBb).one_cell
  have hvb := d_rd hv hBb
  clear hB1 hA4 hK4 hB4 hz4
  go_wp2_with (at_builtin; refine wpList_append_rd _ rfl (.tmp 16) (.tmp 17) _ rfl wb.heap.size 45 i0 _ 24 Tryd.underlying22 hi0 hz0 hz1 hz2 rfl _ 2 _ rfl hown0 wb.heap.size At m ct vs rfl (hvb.below hal) hone (by simp only [maxLen]; omega) (by omega) (al0 _ _) ?_; intro v5 w5 hown5 hgr5 hat5; obtain ⟨A5, c5, rfl, hc5, _⟩ := own_form hown5; have hB5 : Below wb.heap.size wb w5 := hal.grown hgr5 (al0 _ _) (fun g hg => (hown0.lt g hg).1))
  have hr5 := Rd.of_own hown5
  rw [show (#[Value.slice (some ⟨g0, 0, none⟩) 7 7, .slice (some ⟨g0 + 1, 0, none⟩) s.size cb] : Array Value).toList ++ vs = .slice (some ⟨g0, 0, none⟩) 7 7 :: .slice (some ⟨g0 + 1, 0, none⟩) s.size cb :: vs from rfl] at hr5
  have ht5 : Txs w5 w5.heap.size (.slice (some ⟨g0, 0, none⟩) 7 7 :: .slice (some ⟨g0 + 1, 0, none⟩) s.size cb :: vs) (nameU :: strB s :: ts) :=
    d_txs (Txs.cons (txs_one1 name_len (Nat.le_refl _) (f1b.more Hz1.out)) (Txs.cons (txs_one1 (strB_len s) hc1 hr1) (d_txs ht hBb))) hB5
  have hBc : Below w.heap.size w w5 := c_call hBb hB5
  have hA5 := hAb.below hB5 hAb.lt
  have hK5 := hKb.below hB5 hKb.lt
  have Hi := Lib.hid (show txs (nameU :: strB s :: ts) = infoU (strB s) ts from rfl)
  have HF := Lib.hid (show fitD (strB s) ts ↔ GoodT (nameU :: strB s :: ts) ∧ (infoU (strB s) ts).length ≤ 1048576 from Iff.rfl)
  have HD := Lib.hid (show deriveU k (strB s) ts = expandU k (infoU (strB s) ts) 32 from rfl)
  generalize nameU :: strB s :: ts = L at *
  generalize Value.slice (some ⟨g0, 0, none⟩) 7 7 :: Value.slice (some ⟨g0 + 1, 0, none⟩) s.size cb :: vs = V at *
  clear hAb hKb hBb hB5 hown5 hgr5 hat5 hown0 hal hone hvb f1b hr1 hv ht Hz1
  refine (refText_any none 0 0 [] A5 (2 + m) c5 V L w5 (by omega) (by omega) (Rd.zero _ _ _) hr5 ht5).mono ?_
  intro e w7 hP
  by_cases hg : GoodT L
  rotate_left
  · obtain ⟨rfl, hb7⟩ := hP.no hg
    have hA7 := hA5.below hb7 hA5.lt
    have hB7 := c_call hBc hb7
    clear hA5 hK5 hBc hb7 hP hr5 ht5
    go_wp2_with ((with_reducible show wpList _ _ _ (⟨none, Op.store 24 _ _, _, _, _, _⟩ :: _) _ _); refine wpList_store_row rfl 24 (.tmp 6) (.tmp 24) rfl (w.heap.size + 1) (zeroKey.map bv).toArray rfl rfl 24 _ hA7 key_zero rfl one_key ?_)
    exact bodyPost_ret (results_cell_tmp rfl _ _ (w.heap.size + 1) 24 _ (0, 0) _ rfl (hA7.row zeroKey) Tryd.underlying24 rfl key_zero) rfl ⟨below_setRow hB7 (by omega) _, .inr ⟨fun h => hg (HF.out.1 h).1, rfl⟩⟩
  obtain ⟨A, n, c, rfl, hown, hnc, hln0, hb7⟩ := hP.yes hg
  have hr7 := Rd.of_own hown
  rw [List.nil_append, Hi.out] at hr7
  have hln := Lib.hid (show n = (infoU (strB s) ts).length by have h := hln0.out; rwa [List.nil_append, Hi.out] at h)
  have hA7 := hA5.below hb7 hA5.lt
  have hK7 := hK5.below hb7 hK5.lt
  have hB7 := c_call hBc hb7
  clear hA5 hK5 hBc hb7 hP hr5 ht5 hown hln0
  go_wp2_with ((with_reducible show wpList _ _ _ (⟨some 27, _, _, _, _, _⟩ :: _) _ _); refine wpList_load_row rfl 24 (.tmp 3) rfl w.heap.size rfl 24 (k.map bv).toArray (0, 0) _ hK7 Tryd.underlying24 rfl (infoK32 Hk.out) ?_)
  by_cases hl : n ≤ 1048576
  rotate_left
  · refine (rExpand_long k A n c 32 _ (by omega) (by omega) (by omega)).mono ?_
    rintro e w8 ⟨rfl, hb8⟩
    have hA8 := hA7.below hb8 hA7.lt
    have hB8 := c_call hB7 hb8
    clear hA7 hK7 hr7 hb8 hB7
    go_wp2_with ((with_reducible show wpList _ _ _ (⟨none, Op.store 24 _ _, _, _, _, _⟩ :: _) _ _); refine wpList_store_row rfl 24 (.tmp 6) (.tmp 34) rfl (w.heap.size + 1) (zeroKey.map bv).toArray rfl rfl 24 _ hA8 key_zero rfl one_key ?_)
    exact bodyPost_ret (results_cell_tmp rfl _ _ (w.heap.size + 1) 24 _ (0, 0) _ rfl (hA8.row zeroKey) Tryd.underlying24 rfl key_zero) rfl ⟨below_setRow hB8 (by omega) _, .inr ⟨fun h => hl (by rw [hln.out]; exact (HF.out.1 h).2), rfl⟩⟩
  have hfD : fitD (strB s) ts := HF.out.2 ⟨hg, by rw [← hln.out]; exact hl⟩
  rw [show (32 : Int) = ((32 : Nat) : Int) from rfl]
  refine (rExpand_ok k A n c (infoU (strB s) ts) 32 _ Hk.out (by omega) hnc hl hr7 (hT.below hB7)).mono ?_
  rintro e w8 ⟨A8, c8, rfl, hc8, hr8, hb8⟩
  rw [← HD.out] at hr8
  have Hl := Lib.hid (deriveU_len k (strB s) ts)
  generalize hr0 : deriveU k (strB s) ts = r at *
  have Hr0 := Lib.hid hr0
  have hA8 := hA7.below hb8 hA7.lt
  have hB8 := c_call hB7 hb8
  have Hfd := Lib.hid hfD
  clear hA7 hK7 hr7 hb8 hB7 hnc hr0 hfD
  go_wp2_with fail
  refine (Key_any A8 c8 r _ hr8).mono ?_
  rintro e w9 ⟨rfl, hb9⟩
  have hA9 := hA8.below hb9 hA8.lt
  have hB9 := c_call hB8 hb9
  go_wp2_with ((with_reducible show wpList _ _ _ (⟨none, Op.store 24 _ _, _, _, _, _⟩ :: _) _ _); refine wpList_store_row rfl 24 (.tmp 6) (.tmp 37) rfl (w.heap.size + 1) (r.map bv).toArray rfl rfl 24 _ hA9 (infoK32 Hl.out) (sizeK Hl.out) (one_bvA _) ?_)
  exact bodyPost_ret (results_cell_tmp rfl _ _ (w.heap.size + 1) 24 _ (0, 0) _ rfl (hA9.row r) Tryd.underlying24 rfl (infoK32 Hl.out)) rfl ⟨below_setRow hB9 (by omega) _, .inl ⟨Hfd.out, by rw [Hr0.out]; rfl⟩⟩

end Go.Proofs.YtgjeamapgdakcaaDoor

