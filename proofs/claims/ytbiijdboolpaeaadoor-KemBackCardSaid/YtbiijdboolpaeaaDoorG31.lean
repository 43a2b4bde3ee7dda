import Derived.Test.YtbiijdboolpaeaaDoorG04
import Derived.Laws.IdiomStrings
import Derived.Laws.Cover3
import Derived.Deep.MidRow
import Derived.Lib.SmallJoins
import Derived.Test.YtbiijdboolpaeaaDoorG29
import Derived.Test.YtbiijdboolpaeaaDoorG30
set_option linter.unusedVariables false
namespace Go.Proofs.YtbiijdboolpaeaaDoor
open Go.RowKit
def strB (s : ByteArray) : List UInt8 := s.data.toList
theorem strB_len (s : ByteArray) : (strB s).length = s.size := by simp [strB]
structure Conv (wx : World) (s : ByteArray) (c : Nat) (w' : World) : Prop where
 cap : s.size ≤ c
 rd : Rd w' w'.heap.size (some ⟨wx.heap.size, 0, none⟩) s.size ((strB s).map bv)
 below : Below wx.heap.size wx w'
 size : w'.heap.size = wx.heap.size + 1
theorem conv_any (s : ByteArray) : ∃ (cf : World → Nat) (wf : World → World), (∀ wx, (convert 9 24 (.string s)).run Tryd.prog wx = .ok (.slice (some ⟨wx.heap.size, 0, none⟩) s.size (cf wx)) (wf wx)) ∧ ∀ wx, Conv wx s (cf wx) (wf wx) := by
 refine ⟨_, _, fun wx => run_bytes_of_string wx 9 24 5 s Tryd.underlying9 Tryd.underlying24 Tryd.underlying5, fun wx => ⟨grownCap_ge wx s.size 0 _, ?_, ((c_refl wx).drew).alloc (Nat.le_refl _) _, by simp⟩⟩
 refine ⟨by simp [strB_len], fun hp => ⟨wx.heap.size, 0, rfl, by simp, fun j u hu => ?_⟩⟩
 have hj : j < s.size := by
  have := (List.getElem?_eq_some_iff.1 hu).1
  rw [List.length_map, strB_len] at this
  exact this
 rw [Nat.zero_add, cell_of_row _ wx.heap.size j _ _ _ (heap_alloc_new wx.drew _)]
 have h2 : (strB s)[j]? = some s.data[j] := by
  unfold strB
  rw [Array.getElem?_toList]
  exact Array.getElem?_eq_getElem hj
 rw [List.getElem?_map, h2] at hu
 simp only [Option.map_some, Option.some.injEq] at hu
 rw [← hu]
 unfold bytesRow
 rw [Array.getElem?_append_left (by simpa using hj), Array.getElem?_map, Array.getElem?_eq_getElem hj]
 rfl
theorem mayFit_any (At : Option Addr) (m ct : Nat) (vs : List Value) (ts : List (List UInt8)) (w : World) (B : Nat) (hm : m ≤ 1073741824) (hv : Rd w B At m vs) (ht : Txs w B vs ts) :
  Calls Tryd.prog 52 #[.slice At m ct] w fun e w' => e = .returned (.bool (decide (ts.flatten.length ≤ 1048576))) ∧ w = w' := by
 have hml : vs.length = m := hv.len
 have htl : ts.length = m := by rw [← ht.1, hml]
 have Hml := Lib.hid hml
 have Htl := Lib.hid htl
 have Hle := Lib.hid (flat_take_le ts)
 clear hml htl
 go_enter Tryd.func52, Tryd.ntmps52
 go_wp2_with fail
 go_loop [3, 8] (fun x i => ∃ j q : Nat, j ≤ m ∧ i = .int .i64 (j : Int) ∧ x = .int .i64 (q : Int) ∧ Hid (q + (ts.take j).flatten.length = 1048576)) (fun _ i => m - (intOf i).toNat)
 case atStart => exact ⟨0, 1048576, by omega, rfl, rfl, Lib.hid (by simp)⟩
 case round =>
  obtain ⟨j, q, hj, rfl, rfl, hq⟩ := hrel
  by_cases hlt : j < m
  ·
   obtain ⟨b, o, rfl, hb, hc⟩ := hv.pos (by omega)
   obtain ⟨v, hvj⟩ : ∃ v, vs[j]? = some v := ⟨_, List.getElem?_eq_getElem (by have := Hml.out; omega)⟩
   obtain ⟨t, htj⟩ : ∃ t, ts[j]? = some t := ⟨_, List.getElem?_eq_getElem (by have := Htl.out; omega)⟩
   obtain ⟨Ax, cx, rfl, hcx, hrx⟩ := ht.2 j v t hvj htj
   have hcell := hc j _ hvj
   have Hsn := Lib.hid (show (ts.take (j + 1)).flatten.length = (ts.take j).flatten.length + t.length by rw [flat_take_succ htj, List.length_append])
   have hq1 : q ≤ 1048576 := by have := hq.out; omega
   clear hvj htj hc
   by_cases hs : t.length ≤ q
   ·
    go_wp2_with fail
    go_round
    case rel => exact ⟨j + 1, q - t.length, by omega, by go_num, by go_num, Lib.hid (by have := hq.out; have := Hsn.out; omega)⟩
    case measure => simp [intOf]; omega
   ·
    have hd : decide (ts.flatten.length ≤ 1048576) = false := by
     have h1 := Hle.out (j + 1)
     have := hq.out
     have := Hsn.out
     exact decide_eq_false (by omega)
    go_wp2_with fail
    go_ret
    rw [List.length_flatten] at hd
    exact ⟨congrArg (fun x => Ending.returned (Value.bool x)) hd.symm, rfl⟩
  ·
   obtain rfl : j = m := by omega
   have hd : decide (ts.flatten.length ≤ 1048576) = true := by
    have h2 : ts.take j = ts := List.take_of_length_le (by have := Htl.out; omega)
    have h3 := hq.out
    rw [h2] at h3
    exact decide_eq_true (by omega)
   go_wp2_with fail
   go_ret
   rw [List.length_flatten] at hd
   exact ⟨congrArg (fun x => Ending.returned (Value.bool x)) hd.symm, rfl⟩
theorem txs_len (ts : List (List UInt8)) : (txs ts).length = ts.flatten.length + 2 * ts.length := by
 induction ts with
 | nil => rfl
 | cons t r ih => rw [txs_cons]; simp only [List.length_append, List.flatten_cons, List.length_cons, be_length, ih]; omega
def fitL (label : List UInt8) (ts : List (List UInt8)) : Prop := (nameU :: label :: ts).flatten.length ≤ 1048576 ∧ GoodT (nameU :: label :: ts)
theorem fitD_L {label : List UInt8} {ts : List (List UInt8)} (h : fitD label ts) : fitL label ts := by
 refine ⟨?_, h.1⟩
 have := h.2
 unfold infoU at this
 rw [txs_len] at this
 omega
def LabelPost (w : World) (label : List UInt8) (ts : List (List UInt8)) (e : Ending) (w' : World) : Prop :=
 Below w.heap.size w w' ∧ ((fitL label ts ∧ ∃ A n c, e = .returned (.tuple #[.slice A n c, .int .i64 0]) ∧ n ≤ c ∧ n = (infoU label ts).length ∧ Rd w' w'.heap.size A n ((infoU label ts).map bv)) ∨
  (¬ fitL label ts ∧ e = .returned (.tuple #[.slice none 0 0, .int .i64 4])))
set_option maxRecDepth 1000000 in
set_option maxHeartbeats 1000000 in
theorem labelled_any (s : ByteArray) (At : Option Addr) (m ct : Nat) (vs : List Value) (ts : List (List UInt8)) (w : World) (hs : s.size ≤ 70000) (hm : m ≤ 1000000) (hmc : m ≤ ct)
  (hv : Rd w w.heap.size At m vs) (ht : Txs w w.heap.size vs ts) :
  Calls Tryd.prog 35 #[.string s, .slice At m ct] w (LabelPost w (strB s) ts) := by
 obtain ⟨cf, wf, hcv, hC⟩ := conv_any s
 have Hcv := Lib.hid hcv
 clear hcv
 have f1 : Rd (w.alloc (.cells #[.int .u8 99, .int .u8 111, .int .u8 116, .int .u8 101, .int .u8 114, .int .u8 105, .int .u8 101] 5 (7, 8))) (w.heap.size + 1) (some ⟨w.heap.size, 0, none⟩) 7 (nameU.map bv) := Rd.mkFr _ _ _ _ rfl (by omega) rfl rfl
 have f2 : Below w.heap.size w (w.alloc (.cells #[.int .u8 99, .int .u8 111, .int .u8 116, .int .u8 101, .int .u8 114, .int .u8 105, .int .u8 101] 5 (7, 8))) := d_al _ _
 have f3 : (w.alloc (.cells #[.int .u8 99, .int .u8 111, .int .u8 116, .int .u8 101, .int .u8 114, .int .u8 105, .int .u8 101] 5 (7, 8))).heap.size = w.heap.size + 1 := by simp
 have K0 := Lib.hid (Go.Joins.run_convert_bytes_const_at (P := Tryd.prog) w 24 5 #[.int .u8 99, .int .u8 111, .int .u8 116, .int .u8 101, .int .u8 114, .int .u8 105, .int .u8 101] 7 7 w.heap.size rfl Tryd.underlying24 Tryd.underlying5)
 go_enter Tryd.func35, Tryd.ntmps35
 go_wp2_with fail
 rw [K0.out]
 clear K0
 change Below w.heap.size w (w.alloc (.cells #[.int .u8 99, .int .u8 111, .int .u8 116, .int .u8 101, .int .u8 114, .int .u8 105, .int .u8 101] 5 (7, 8))) at f2
 generalize w.alloc (.cells #[.int .u8 99, .int .u8 111, .int .u8 116, .int .u8 101, .int .u8 114, .int .u8 105, .int .u8 101] 5 (7, 8)) = wa at *
 go_wp2_with fail
 rw [Hcv.out wa]
 have hC1 := hC wa
 clear hC Hcv
 have hc1 := hC1.cap
 have hr1 := hC1.rd
 have hb1 := hC1.below
 have hz1 := hC1.size
 rw [f3] at hr1 hz1 hb1 ⊢
 clear hC1
 generalize wf wa = wb at *
 generalize cf wa = cb at *
 have hB1 : Below w.heap.size w wb := f2.trans (hb1.mono (by omega))
 have f1b : Rd wb (w.heap.size + 1) (some ⟨w.heap.size, 0, none⟩) 7 (nameU.map bv) := f1.below hb1
 clear f1 f2 f3 hb1
 go_wp2_with fail
 refine calls_gen (fun wx => ((Rd wx wx.heap.size (some ⟨w.heap.size + 1 + 1 + 1, 0, none⟩) 2 [.slice (some ⟨w.heap.size + 1 + 1, 0, none⟩) 2 2, .slice At m ct] ∧ Rd wx wx.heap.size (some ⟨w.heap.size + 1 + 1, 0, none⟩) 2 [.slice (some ⟨w.heap.size, 0, none⟩) 7 7, .slice (some ⟨w.heap.size + 1, 0, none⟩) s.size cb]) ∧ Rd wx wx.heap.size (some ⟨w.heap.size, 0, none⟩) 7 (nameU.map bv) ∧ Rd wx wx.heap.size (some ⟨w.heap.size + 1, 0, none⟩) s.size ((strB s).map bv)) ∧ Below w.heap.size w wx) ?_ ?_
 ·
  have b2 := (d_al wb (.cells #[.slice (some ⟨w.heap.size, 0, none⟩) 7 7, .slice (some ⟨w.heap.size + 1, 0, none⟩) s.size cb] 24)).alloc (al0 _ _) (.cells #[.slice (some ⟨w.heap.size + 1 + 1, 0, none⟩) 2 2, .slice At m ct] 25)
  exact ⟨⟨⟨Rd.mk_ _ _ _ (by simp [hz1]) (by simp [hz1]) rfl rfl, ((Rd.mk_ (B := w.heap.size + 1 + 1 + 1) _ _ _ hz1 (by omega) rfl rfl).alloc (by simp [hz1]) _).more (by first | (simp [hz1]; done) | (simp [hz1]; omega))⟩, d_rd (f1b.more (by omega)) b2, d_rd hr1 b2⟩, (hB1.alloc (by omega) _).alloc (by first | (simp [hz1]; done) | (simp [hz1]; omega)) _⟩
 clear f1b hr1 hz1 hB1
 rintro w4 ⟨⟨⟨hh4, hl4⟩, hn4, hs4⟩, hB4⟩
 have hv4 := d_rd hv hB4
 have ht4 := d_txs ht hB4
 refine (Concat_any _ 2 2 _ [[.slice (some ⟨w.heap.size, 0, none⟩) 7 7, .slice (some ⟨w.heap.size + 1, 0, none⟩) s.size cb], vs] w4 (by omega) (by simp) (by simp [hv.len]; omega) hh4 (Lists.two hl4 (Nat.le_refl _) (by intro u hu; simp only [List.mem_cons, List.not_mem_nil, or_false] at hu; rcases hu with rfl | rfl <;> rfl) hv4 hmc ht4.one_cell)).mono ?_
 rintro e w5 ⟨A5, n5, c5, rfl, hn5, hown5, hb5⟩
 have hr5 := Rd.of_own hown5
 rw [show [[Value.slice (some ⟨w.heap.size, 0, none⟩) 7 7, .slice (some ⟨w.heap.size + 1, 0, none⟩) s.size cb], vs].flatten = .slice (some ⟨w.heap.size, 0, none⟩) 7 7 :: .slice (some ⟨w.heap.size + 1, 0, none⟩) s.size cb :: vs by simp] at hr5
 have ht5 : Txs w5 w5.heap.size (.slice (some ⟨w.heap.size, 0, none⟩) 7 7 :: .slice (some ⟨w.heap.size + 1, 0, none⟩) s.size cb :: vs) (nameU :: strB s :: ts) :=
  d_txs (Txs.cons (txs_one1 name_len (Nat.le_refl _) hn4) (Txs.cons (txs_one1 (strB_len s) hc1 hs4) ht4)) hb5
 have hB5 : Below w.heap.size w w5 := hB4.trans (hb5.mono hB4.size)
 have hn5m : n5 ≤ 1000002 := by have := hr5.len; have h2 := hv.len; simp only [List.length_cons] at this; omega
 have Hi := Lib.hid (show txs (nameU :: strB s :: ts) = infoU (strB s) ts from rfl)
 have HL := Lib.hid (show fitL (strB s) ts ↔ (nameU :: strB s :: ts).flatten.length ≤ 1048576 ∧ GoodT (nameU :: strB s :: ts) from Iff.rfl)
 generalize nameU :: strB s :: ts = L at *
 generalize Value.slice (some ⟨w.heap.size, 0, none⟩) 7 7 :: Value.slice (some ⟨w.heap.size + 1, 0, none⟩) s.size cb :: vs = V at *
 clear hh4 hl4 hn4 hs4 hB4 hv4 ht4 hown5 hb5 hv ht
 go_wp2_with fail
 refine (mayFit_any A5 n5 c5 V L w5 _ (by omega) hr5 ht5).mono ?_
 rintro e w6 ⟨rfl, rfl⟩
 by_cases hf : L.flatten.length ≤ 1048576
 ·
  rw [decide_eq_true hf]
  go_wp2_with fail
  refine (Text_any none 0 0 [] A5 n5 c5 V L w5 (by omega) (by omega) (Rd.zero _ _ _) hr5 ht5).mono ?_
  intro e w7 hP
  by_cases hg : GoodT L
  ·
   obtain ⟨A, n, c, rfl, hown, hnc, hln, hb⟩ := hP.yes hg
   have hr7 := Rd.of_own hown
   rw [List.nil_append, Hi.out] at hr7
   go_wp2_with fail
   go_ret2
   refine ⟨c_call hB5 hb, .inl ⟨HL.out.2 ⟨hf, hg⟩, A, n, c, rfl, hnc, ?_, hr7⟩⟩
   have := hln.out
   rwa [List.nil_append, Hi.out] at this
  ·
   obtain ⟨rfl, hb⟩ := hP.no hg
   go_wp2_with fail
   go_ret2
   exact ⟨c_call hB5 hb, .inr ⟨fun h => hg (HL.out.1 h).2, rfl⟩⟩
 ·
  rw [decide_eq_false hf]
  go_wp2_with fail
  go_ret2
  exact ⟨hB5, .inr ⟨fun h => hf (HL.out.1 h).1, rfl⟩⟩
def DerivePost (w : World) (k label : List UInt8) (ts : List (List UInt8)) (e : Ending) (w' : World) : Prop :=
 Below w.heap.size w w' ∧ ((fitD label ts ∧ e = .returned (.tuple #[.agg ((deriveU k label ts).map bv).toArray, .int .i64 0])) ∨
  (¬ fitD label ts ∧ e = .returned (.tuple #[.agg (zeroKey.map bv).toArray, .int .i64 4])))
set_option maxRecDepth 1000000 in
set_option maxHeartbeats 1000000 in
theorem Derive_any (k : List UInt8) (s : ByteArray) (At : Option Addr) (m ct : Nat) (vs : List Value) (ts : List (List UInt8)) (w : World) (hk : k.length = 32) (hs : s.size ≤ 70000) (hm : m ≤ 1000000) (hmc : m ≤ ct)
  (hv : Rd w w.heap.size At m vs) (ht : Txs w w.heap.size vs ts) (hT : CTab w) :
  Calls Tryd.prog 19 #[.agg (k.map bv).toArray, .string s, .slice At m ct] w (DerivePost w k (strB s) ts) := by
 have Hk := Lib.hid hk
 have b2 := (d_al w (.cells (k.map bv).toArray 23)).alloc (al0 _ _) (.cells (zeroKey.map bv).toArray 23)
 have hK2 : ArrB ((w.alloc (.cells (k.map bv).toArray 23)).alloc (.cells (zeroKey.map bv).toArray 23)) w.heap.size 23 k := (ArrB.mk_ w _ _ k rfl rfl).alloc _
 have hR2 : ArrB ((w.alloc (.cells (k.map bv).toArray 23)).alloc (.cells (zeroKey.map bv).toArray 23)) (w.heap.size + 1) 23 zeroKey := ArrB.mk_ _ _ _ _ (by simp) rfl
 clear hk
 go_enter Tryd.func19, Tryd.ntmps19
 go_wp2_with fail
 refine (labelled_any s At m ct vs ts _ hs hm hmc (d_rd hv b2) (d_txs ht b2)).mono ?_
 rintro e w3 ⟨hb3, h3⟩
 have hK3 := hK2.below hb3 hK2.lt
 have hR3 := hR2.below hb3 hR2.lt
 have hB3 : Below w.heap.size w w3 := c_call b2 hb3
 have Hw := Lib.hid (show w.heap.size + 1 < w3.heap.size from hR3.lt)
 clear hK2 hR2 hb3 b2
 rcases h3 with ⟨hL, A, n, c, rfl, hnc, hn0, hr⟩ | ⟨hL, rfl⟩
 rotate_left
 ·
  go_wp2_with ((with_reducible refine tsQ 23 ?_); refine wpList_store_row rfl 23 (.tmp 6) (.tmp 19) rfl (w.heap.size + 1) (zeroKey.map bv).toArray rfl rfl 23 _ hR3 key_zero rfl one_key ?_)
  exact bodyPost_ret (results_cell_tmp rfl _ _ (w.heap.size + 1) 23 _ (0, 0) _ rfl (hR3.row zeroKey) Tryd.underlying23 rfl key_zero) rfl ⟨below_setRow hB3 (by omega) _, .inr ⟨fun h => hL (fitD_L h), rfl⟩⟩
 have hn := Lib.hid hn0
 clear hn0
 go_wp2_with ((with_reducible refine tdQ 22 ?_); refine wpList_load_row rfl 23 (.tmp 3) rfl w.heap.size rfl 23 (k.map bv).toArray (0, 0) _ hK3 Tryd.underlying23 rfl (infoK32 Hk.out) ?_)
 by_cases hl : n ≤ 1048576
 rotate_left
 ·
  refine (Expand_long k A n c 32 _ (by omega) (by omega) (by omega)).mono ?_
  rintro e w4 ⟨rfl, hb4⟩
  have hR4 := hR3.below hb4 hR3.lt
  have hB4 : Below w.heap.size w w4 := c_call hB3 hb4
  clear hK3 hR3 hB3 hb4 hr
  go_wp2_with ((with_reducible refine tsQ 23 ?_); refine wpList_store_row rfl 23 (.tmp 6) (.tmp 29) rfl (w.heap.size + 1) (zeroKey.map bv).toArray rfl rfl 23 _ hR4 key_zero rfl one_key ?_)
  exact bodyPost_ret (results_cell_tmp rfl _ _ (w.heap.size + 1) 23 _ (0, 0) _ rfl (hR4.row zeroKey) Tryd.underlying23 rfl key_zero) rfl ⟨below_setRow hB4 (by omega) _, .inr ⟨fun h => hl (by rw [hn.out]; exact h.2), rfl⟩⟩
 rw [show (32 : Int) = ((32 : Nat) : Int) from rfl]
 refine (Expand_ok k A n c (infoU (strB s) ts) 32 _ Hk.out (by omega) hnc hl hr (hT.below hB3)).mono ?_
 rintro e w4 ⟨A4, c4, rfl, hc4, hr4, hb4⟩
 have hR4 := hR3.below hb4 hR3.lt
 have hB4 : Below w.heap.size w w4 := c_call hB3 hb4
 have Hf := Lib.hid (show fitD (strB s) ts from ⟨hL.2, by have := hn.out; omega⟩)
 have Hd := Lib.hid (show expandU k (infoU (strB s) ts) 32 = deriveU k (strB s) ts from rfl)
 have Hl := Lib.hid (expandU_len k (infoU (strB s) ts) 32)
 generalize expandU k (infoU (strB s) ts) 32 = r at *
 clear hK3 hR3 hB3 hb4 hr hL hn hl
 obtain ⟨b, o, rfl, hb, hc⟩ := hr4.pos (by omega)
 have K1 := Lib.hid (run_arrayAt (P := Tryd.prog) (w := w4) 23 5 32 (some ⟨b, o, none⟩) 32 c4 Tryd.underlying23 (Nat.le_refl _))
 have hi2 : (Tryd.prog.info? 23).map (·.size) = some (r.map bv).length := by rw [info32]; simp [Hl.out]
 have hz2 : ((zeroKey.map bv).toArray).size = ((r.map bv).toArray).size := by simp [Hl.out, zeroKey]
 go_wp2_with fail
 rw [K1.out]
 go_wp2_with (first
  | ((with_reducible refine tdQ 33 ?_); refine wpList_load_mid rfl 23 (.tmp 32) rfl b o rfl (r.map bv) _ hc Tryd.underlying23 rfl hi2 ?_)
  | ((with_reducible refine tsQ 23 ?_); refine wpList_store_row rfl 23 (.tmp 6) (.tmp 33) rfl (w.heap.size + 1) (r.map bv).toArray rfl rfl 23 _ hR4 (infoK32 Hl.out) hz2 (one_bvA _) ?_))
 exact bodyPost_ret (results_cell_tmp rfl _ _ (w.heap.size + 1) 23 _ (0, 0) _ rfl (hR4.row r) Tryd.underlying23 rfl (infoK32 Hl.out)) rfl ⟨below_setRow hB4 (by omega) _, .inl ⟨Hf.out, by rw [Hd.out]; rfl⟩⟩
end Go.Proofs.YtbiijdboolpaeaaDoor
