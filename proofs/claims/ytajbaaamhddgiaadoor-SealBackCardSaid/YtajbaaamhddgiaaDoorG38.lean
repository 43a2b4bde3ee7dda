import Derived.Test.YtajbaaamhddgiaaDoorG35
import Derived.Test.YtajbaaamhddgiaaDoorG36
import Derived.Test.YtajbaaamhddgiaaDoorG37
import Derived.Test.YtajbaaamhddgiaaDoorG22
/-
  WHAT LAYER 7's CALLS OF THE PROGRAM ANSWER, as hypotheses of the walks, and the walk of the laws' live (coterielaw07).
-/
set_option linter.unusedVariables false
namespace Go.Proofs.YtajbaaamhddgiaaDoor
open Go.RowKit

def PS : Prop := ∀ (k b : List UInt8) (A : Option Addr) (m c : Nat) (At : Option Addr) (mt ct : Nat) (vs : List Value) (ts : List (List UInt8)) (w : World), k.length = 32 → m ≤ c → c ≤ maxLen → Rd w w.heap.size A m (b.map bv) → mt ≤ ct → ct ≤ maxLen → mt ≤ 200 → fewSum ts ≤ 140000 → Rd w w.heap.size At mt vs → Txs w w.heap.size vs ts → CTab w →
  Calls Tryd.prog 11 #[.agg (k.map bv).toArray, .slice A m c, .slice At mt ct] w (SealPost w k b ts)
def PO : Prop := ∀ (k b : List UInt8) (A : Option Addr) (m c : Nat) (At : Option Addr) (mt ct : Nat) (vs : List Value) (ts : List (List UInt8)) (w : World), k.length = 32 → m ≤ c → c ≤ maxLen → Rd w w.heap.size A m (b.map bv) → mt ≤ ct → ct ≤ maxLen → mt ≤ 200 → fewSum ts ≤ 140000 → Rd w w.heap.size At mt vs → Txs w w.heap.size vs ts → CTab w →
  Calls Tryd.prog 13 #[.agg (k.map bv).toArray, .slice A m c, .slice At mt ct] w (OpenPost w k b ts)
def PL : Prop := ∀ (n : Int) (w : World), -9223372036854775808 ≤ n → n ≤ 9223372036854775807 →
  Calls Tryd.prog 15 #[.int .i64 n] w fun e w' => e = .returned (longV n) ∧ Below w.heap.size w w'
theorem longV_ok {n : Nat} (h : n ≤ 1048576) : longV (n : Int) = .tuple #[.int .i64 ((n : Int) + 16), .int .i64 0] := by
  rw [longV, if_neg (by omega)]
theorem txs_lenS (ts : List (List UInt8)) : (txs ts).length = ts.flatten.length + 2 * ts.length := by
  induction ts with
  | nil => rfl
  | cons t r ih => rw [txs_cons]; simp only [List.length_append, List.flatten_cons, List.length_cons, be_length, ih]; omega
theorem few_txs {ts : List (List UInt8)} {mt : Nat} (hl : ts.length = mt) (hm : mt ≤ 200) (hf : fewSum ts ≤ 140000) : GoodT ts → (txs ts).length ≤ 536870912 := by
  intro hg
  have h := fewSum_good ts (fun t ht => by
    obtain ⟨i, hi⟩ := List.getElem?_of_mem ht
    have := hg i t hi
    omega)
  rw [txs_lenS]
  omega
theorem NewB.rd {w w' : World} {A : Option Addr} {n c : Nat} {xs : List UInt8} (h : NewB w w' A n c xs) : Rd w' w'.heap.size A n (xs.map bv) := h.1
theorem good_nil : GoodT [] := fun i t h => by simp at h

set_option maxRecDepth 100000 in
set_option maxHeartbeats 1000000 in
theorem live07 (hS : PS) (w : World) (hT : CTab w) :
    Calls Tryd.prog 8 #[] w fun e w' => e = .returned (.bool true) ∧ Below w.heap.size w w' := by
  have f1 : Rd (w.alloc (.cells #[.int .u8 104, .int .u8 101, .int .u8 108, .int .u8 108, .int .u8 111] 5 (5, 6))) (w.alloc (.cells #[.int .u8 104, .int .u8 101, .int .u8 108, .int .u8 108, .int .u8 111] 5 (5, 6))).heap.size (some ⟨w.heap.size, 0, none⟩) 5 (([104, 101, 108, 108, 111] : List UInt8).map bv) := Rd.mkFr _ _ _ _ rfl (by simp) rfl rfl
  have f2 : Below w.heap.size w (w.alloc (.cells #[.int .u8 104, .int .u8 101, .int .u8 108, .int .u8 108, .int .u8 111] 5 (5, 6))) := d_al _ _
  have K0 := Lib.hid (Go.Joins.run_convert_bytes_const_at (P := Tryd.prog) w 24 5 #[.int .u8 104, .int .u8 101, .int .u8 108, .int .u8 108, .int .u8 111] 5 5 w.heap.size rfl Tryd.underlying24 Tryd.underlying5)
  go_enter Tryd.func8, Tryd.ntmps8
  go_wp2_with fail
  rw [K0.out]
  clear K0
  generalize w.alloc (.cells #[.int .u8 104, .int .u8 101, .int .u8 108, .int .u8 108, .int .u8 111] 5 (5, 6)) = wa at *
  have hcall := hS (1 :: List.replicate 31 0) [104, 101, 108, 108, 111] (some ⟨w.heap.size, 0, none⟩) 5 5 none 0 0 [] [] wa rfl (Nat.le_refl _) (by simp [maxLen]) f1 (Nat.le_refl _) (by simp [maxLen]) (by omega) (by simp [fewSum]) (Rd.zero _ _ _) ⟨rfl, fun i v t h => by simp at h⟩ (hT.below f2)
  rw [show (((1 :: List.replicate 31 0 : List UInt8)).map bv).toArray = #[.int .u8 1, .int .u8 0, .int .u8 0, .int .u8 0, .int .u8 0, .int .u8 0, .int .u8 0, .int .u8 0, .int .u8 0, .int .u8 0, .int .u8 0, .int .u8 0, .int .u8 0, .int .u8 0, .int .u8 0, .int .u8 0, .int .u8 0, .int .u8 0, .int .u8 0, .int .u8 0, .int .u8 0, .int .u8 0, .int .u8 0, .int .u8 0, .int .u8 0, .int .u8 0, .int .u8 0, .int .u8 0, .int .u8 0, .int .u8 0, .int .u8 0, .int .u8 0] from rfl] at hcall
  go_wp2_with fail
  refine hcall.mono ?_
  intro e w1 hP
  obtain ⟨A1, c1, rfl, hn, hb1⟩ := hP.yes (by simp) good_nil
  have hB1 := c_call f2 hb1
  clear hcall hP hn f1 f2 hb1
  go_wp2_with fail
  go_ret
  exact ⟨rfl, hB1⟩

end Go.Proofs.YtajbaaamhddgiaaDoor

/-
  WHAT SEALING AND OPENING ANSWER, in one form: the same for all that answer so (the program, and the document).
-/
set_option linter.unusedVariables false
namespace Go.Proofs.YtajbaaamhddgiaaDoor
open Go.RowKit

/-- what sealing, and opening, answer, the same for all that answer so -/
noncomputable def sealE (b : List UInt8) (ts : List (List UInt8)) : Int := by
  classical exact if b.length ≤ 1048576 ∧ GoodT ts then 0 else 4
noncomputable def sealX (k b : List UInt8) (ts : List (List UInt8)) : List UInt8 := by
  classical exact if b.length ≤ 1048576 ∧ GoodT ts then sealU k b ts else []
noncomputable def openE (k b : List UInt8) (ts : List (List UInt8)) : Int := by
  classical exact if b.length < 16 then 2 else if ¬ (b.length ≤ 1048592 ∧ GoodT ts) then 4 else if ¬ soundU k b ts then 5 else 0
noncomputable def openX (k b : List UInt8) (ts : List (List UInt8)) : List UInt8 := by
  classical exact if b.length < 16 then [] else if ¬ (b.length ≤ 1048592 ∧ GoodT ts) then [] else if ¬ soundU k b ts then [] else openU k b
theorem NewB.none_ {w w' : World} (hb : Below w.heap.size w w') : NewB w w' none 0 0 [] := ⟨Rd.zero _ _ _, Nat.le_refl _, by simp [maxLen], fun _ h => by cases h⟩
theorem SealPost.get {w w' : World} {k b : List UInt8} {ts : List (List UInt8)} {e : Ending} (h : SealPost w k b ts e w') :
    ∃ A n c, e = .returned (.tuple #[.slice A n c, .int .i64 (sealE b ts)]) ∧ NewB w w' A n c (sealX k b ts) ∧ Below w.heap.size w w' := by
  classical
  by_cases hg : b.length ≤ 1048576 ∧ GoodT ts
  · obtain ⟨A, c, h1, h2, h3⟩ := h.yes hg.1 hg.2
    exact ⟨A, _, c, by rw [h1, sealE, if_pos hg], by rw [sealX, if_pos hg]; exact h2, h3⟩
  · obtain ⟨h1, h2⟩ := h.no hg
    exact ⟨none, 0, 0, by rw [h1, sealE, if_neg hg], by rw [sealX, if_neg hg]; exact NewB.none_ h2, h2⟩
theorem OpenPost.get {w w' : World} {k b : List UInt8} {ts : List (List UInt8)} {e : Ending} (h : OpenPost w k b ts e w') :
    ∃ A n c, e = .returned (.tuple #[.slice A n c, .int .i64 (openE k b ts)]) ∧ NewB w w' A n c (openX k b ts) ∧ Below w.heap.size w w' := by
  classical
  by_cases h0 : b.length < 16
  · obtain ⟨h1, h2⟩ := h.short h0
    exact ⟨none, 0, 0, by rw [h1, openE, if_pos h0], by rw [openX, if_pos h0]; exact NewB.none_ h2, h2⟩
  · by_cases hg : b.length ≤ 1048592 ∧ GoodT ts
    · by_cases hs : soundU k b ts
      · obtain ⟨A, c, h1, h2, h3⟩ := h.yes (by omega) hg.1 hg.2 hs
        exact ⟨A, _, c, by rw [h1, openE, if_neg h0, if_neg (not_not_intro hg), if_neg (not_not_intro hs)], by rw [openX, if_neg h0, if_neg (not_not_intro hg), if_neg (not_not_intro hs)]; exact h2, h3⟩
      · obtain ⟨h1, h2⟩ := h.bad (by omega) hg.1 hg.2 hs
        exact ⟨none, 0, 0, by rw [h1, openE, if_neg h0, if_neg (not_not_intro hg), if_pos hs], by rw [openX, if_neg h0, if_neg (not_not_intro hg), if_pos hs]; exact NewB.none_ h2, h2⟩
    · obtain ⟨h1, h2⟩ := h.long (by omega) hg
      exact ⟨none, 0, 0, by rw [h1, openE, if_neg h0, if_pos hg], by rw [openX, if_neg h0, if_pos hg]; exact NewB.none_ h2, h2⟩
theorem longV_form (n : Int) : ∃ l i : Int, longV n = .tuple #[.int .i64 l, .int .i64 i] := by
  unfold longV
  split
  · exact ⟨0, 1, rfl⟩
  · exact ⟨n + 16, 0, rfl⟩
theorem u8_inc (y : UInt8) : IntKind.u8.wrap ((y.toNat : Int) + 1) = (((y + 1 : UInt8).toNat : Nat) : Int) := by
  have h : (y + 1).toNat = (y.toNat + 1) % 256 := by rw [UInt8.toNat_add]; rfl
  rw [IntKind.wrap_u8, h]
  omega

end Go.Proofs.YtajbaaamhddgiaaDoor

/-
  THE WALK of SealDoes (coterielaw07), the program's calls told by what they answer (hypotheses here).
-/
set_option linter.unusedVariables false
namespace Go.Proofs.YtajbaaamhddgiaaDoor
open Go.RowKit

set_option maxRecDepth 100000 in
set_option maxHeartbeats 4000000 in
theorem walkH_SealDoes (hS : PS) (hO : PO) (hL : PL) (k b : List UInt8) (A : Option Addr) (m c : Nat) (At : Option Addr) (mt ct : Nat) (vs : List Value) (ts : List (List UInt8)) (n : Int) (w : World) (hk : k.length = 32)
    (hmc : m ≤ c) (hcm : c ≤ maxLen) (hm47 : m ≤ 140737488355328) (hr : Rd w w.heap.size A m (b.map bv)) (hmt : mt ≤ ct) (hct : ct ≤ maxLen) (hm24 : mt * 24 ≤ 140737488355328)
    (hv : Rd w w.heap.size At mt vs) (ht : Txs w w.heap.size vs ts) (hn1 : -9223372036854775808 ≤ n) (hn2 : n ≤ 9223372036854775807) (hK : KTab w) (hT : CTab w) :
    Calls Tryd.prog 3 #[.agg (k.map bv).toArray, .slice A m c, .slice At mt ct, .int .i64 n] w fun e w' => e = .returned (.bool true) ∧ Below w.heap.size w w' := by
  have Hk := Lib.hid hk
  have Hbl := Lib.hid (show b.length = m by simpa using hr.len)
  clear hk
  go_enter Tryd.func3, Tryd.ntmps3
  go_wp2_with fail
  refine (live07 hS _ (hT.below (d_al _ _))).mono ?_
  rintro e w2 ⟨rfl, hb2⟩
  have hK2 : ArrB w2 w.heap.size 23 k := (ArrB.mk_ w _ _ k rfl rfl).below hb2 (by simp)
  have hB2 : Below w.heap.size w w2 := c_call (d_al _ _) hb2
  clear hb2
  have hcn : c ≤ 9223372036854775807 := by simp [maxLen] at hcm; omega
  by_cases h1 : 400 < m ∧ m ≤ 1048576
  · have h1' : (400 : Int) < (m : Int) := by omega
    have h1'' : (m : Int) ≤ 1048576 := by omega
    go_wp2_with fail
    go_ret
    exact ⟨rfl, hB2⟩
  have hg0 : (decide ((400 : Int) < (m : Int)) && decide ((m : Int) ≤ 1048576)) = false := by
    rw [Bool.and_eq_false_iff, decide_eq_false_iff_not, decide_eq_false_iff_not]
    omega
  by_cases hbig : 400 < m
  · have hbig1 : (400 : Int) < (m : Int) := by omega
    have hbig2 : ¬ (m : Int) ≤ 1048576 := by omega
    go_upto_region 6 with (go_at_call 9; refine (FewAll_any At mt ct vs ts _ _ (by omega) (d_rd hv hB2) (d_txs ht hB2)).mono ?_; rintro e wf ⟨bf, rfl, hbf0, rfl⟩; have hbf := Lib.hid hbf0; clear hbf0; cases bf)
    · go_wp2_with fail
      go_ret
      exact ⟨rfl, hB2⟩
    obtain ⟨hm, hfs⟩ := hbf.out (by first | rfl | trivial)
    have Hfs := Lib.hid hfs
    have htl : ts.length = mt := by rw [← ht.1]; exact hv.len
    have Htx := Lib.hid (few_txs htl hm hfs)
    clear hbf hfs htl hg0
    have hcp := Copy_all A m c b w2 hm47 (d_rd hr hB2)
    go_wp2_with fail
    refine hcp.mono ?_
    rintro e w3 ⟨A3, c3, rfl, hown3, hb3⟩
    have hw3 := Rd.of_own hown3
    have hK3 := hK2.below hb3 hK2.lt
    have hB3 := c_call hB2 hb3
    clear hcp hown3 hK2 hB2 hb3
    go_wp2_with ((with_reducible show wpList _ _ _ (⟨some 45, _, _, _, _, _⟩ :: _) _ _); refine wpList_load_row rfl 23 (.tmp 4) rfl (w.heap.size) rfl 23 (k.map bv).toArray (0, 0) _ (hK3) Tryd.underlying23 rfl (infoK32 Hk.out) ?_)
    refine (hS k b A m c At mt ct vs ts w3 Hk.out hmc hcm (d_rd hr hB3) hmt hct hm Hfs.out (d_rd hv hB3) (d_txs ht hB3) (hT.below hB3)).mono ?_
    intro e w4 hP
    obtain ⟨A4, n4, c4, rfl, hn4, hb4⟩ := hP.get
    have hK4 := hK3.below hb4 hK3.lt
    have hB4 := c_call hB3 hb4
    have hC4 := c_call (c_refl w3) hb4
    have Hfz := Lib.hid hn4.2.2.2
    have hX4 := hn4.1
    have hn4b : n4 ≤ 9223372036854775807 := by
      have h1 := hn4.2.1
      have h2 := hn4.2.2.1
      simp [maxLen] at h2
      omega
    have Hb4 := Lib.hid (show 0 < n4 → ∀ ad, A4 = some ad → ad.block < w4.heap.size from fun h0 ad had => by obtain ⟨b', o', he, hlt, _⟩ := hX4.pos h0; rw [had] at he; injection he with he; subst he; exact hlt)
    clear hP hn4 hK3 hb4
    go_wp2_with ((with_reducible show wpList _ _ _ (⟨some 52, _, _, _, _, _⟩ :: _) _ _); refine wpList_load_row rfl 23 (.tmp 4) rfl (w.heap.size) rfl 23 (k.map bv).toArray (0, 0) _ (hK4) Tryd.underlying23 rfl (infoK32 Hk.out) ?_)
    refine (RSeal_any k b A m c At mt ct vs ts w4 Hk.out (d_rd hr hB4) (by omega) (by omega) Htx.out (d_rd hv hB4) (d_txs ht hB4) (hK.below hB4)).mono ?_
    intro e w5 hP
    obtain ⟨A5, n5, c5, rfl, hn5, hb5⟩ := hP.get
    have hK5 := hK4.below hb5 hK4.lt
    have hB5 := c_call hB4 hb5
    have hC5 := c_call hC4 hb5
    have hX5 := d_rd hX4 hb5
    have hD5 := c_call (c_refl w4) hb5
    have hY5 := hn5.1
    have es := fun wx (h1 : Rd wx wx.heap.size A4 n4 ((sealX k b ts).map bv)) (h2 : Rd wx wx.heap.size A5 n5 ((sealX k b ts).map bv)) => Same_any A4 A5 n4 c4 n5 c5 (sealX k b ts) (sealX k b ts) wx wx.heap.size wx.heap.size h1 h2
    rw [sameB_refl] at es
    have Hes := Lib.hid es
    clear hP hn5 hK4 hb5 hB4 hC4 hX4 es
    generalize sealX k b ts = X at *
    generalize sealE b ts = ex at *
    go_wp2_with ((with_reducible show wpList _ _ _ (⟨some 59, _, _, _, _, _⟩ :: _) _ _); refine wpList_load_row rfl 23 (.tmp 4) rfl (w.heap.size) rfl 23 (k.map bv).toArray (0, 0) _ (hK5) Tryd.underlying23 rfl (infoK32 Hk.out) ?_)
    refine (hO k b A m c At mt ct vs ts w5 Hk.out hmc hcm (d_rd hr hB5) hmt hct hm Hfs.out (d_rd hv hB5) (d_txs ht hB5) (hT.below hB5)).mono ?_
    intro e w6 hP
    obtain ⟨A6, n6, c6, rfl, hn6, hb6⟩ := hP.get
    have hK6 := hK5.below hb6 hK5.lt
    have hB6 := c_call hB5 hb6
    have hC6 := c_call hC5 hb6
    have hD6 := c_call hD5 hb6
    have hX6 := d_rd hX5 hb6
    have hY6 := d_rd hY5 hb6
    have hP6 := hn6.1
    clear hP hn6 hK5 hb6 hB5 hC5 hX5 hY5 hD5
    go_wp2_with ((with_reducible show wpList _ _ _ (⟨some 66, _, _, _, _, _⟩ :: _) _ _); refine wpList_load_row rfl 23 (.tmp 4) rfl (w.heap.size) rfl 23 (k.map bv).toArray (0, 0) _ (hK6) Tryd.underlying23 rfl (infoK32 Hk.out) ?_)
    refine (ROpen_any k b A m c At mt ct vs ts w6 Hk.out hmc (d_rd hr hB6) hcn (by omega) Htx.out (d_rd hv hB6) (d_txs ht hB6) (hK.below hB6)).mono ?_
    intro e w7 hP
    obtain ⟨A7, n7, c7, rfl, hn7, hb7⟩ := hP.get
    have hB7 := c_call hB6 hb7
    have hC7 := c_call hC6 hb7
    have hD7 := c_call hD6 hb7
    have hX7 := d_rd hX6 hb7
    have hY7 := d_rd hY6 hb7
    have hP7 := d_rd hP6 hb7
    have hQ7 := hn7.1
    have eo := fun wx (h1 : Rd wx wx.heap.size A6 n6 ((openX k b ts).map bv)) (h2 : Rd wx wx.heap.size A7 n7 ((openX k b ts).map bv)) => Same_any A6 A7 n6 c6 n7 c7 (openX k b ts) (openX k b ts) wx wx.heap.size wx.heap.size h1 h2
    rw [sameB_refl] at eo
    have Heo := Lib.hid eo
    clear hP hn7 hK6 hb7 hB6 hC6 hX6 hY6 hP6 hD6 eo
    generalize openX k b ts = O at *
    generalize openE k b ts = eo at *
    have hlo := fun wx => hL n wx hn1 hn2
    have hlr := fun wx => RLong_any n wx hn1 hn2
    obtain ⟨l, i, hli⟩ := longV_form n
    rw [hli] at hlo hlr
    clear hli
    go_wp2_with fail
    refine (hlo _).mono ?_
    rintro e w8 ⟨rfl, hb8⟩
    have hB8 := c_call hB7 hb8
    have hC8 := c_call hC7 hb8
    have hD8 := c_call hD7 hb8
    have hX8 := d_rd hX7 hb8
    have hY8 := d_rd hY7 hb8
    have hP8 := d_rd hP7 hb8
    have hQ8 := d_rd hQ7 hb8
    clear hB7 hC7 hD7 hX7 hY7 hP7 hQ7 hb8 hlo
    go_wp2_with fail
    refine (hlr _).mono ?_
    rintro e w9 ⟨rfl, rfl⟩
    have Hs1 := Lib.hid (Hes.out _ hX8 hY8)
    have Hs2 := Lib.hid (Heo.out _ hP8 hQ8)
    have Hw := Lib.hid (fun wx (hb : Below w3.heap.size w3 wx) => Same_any A A3 m c m c3 b b wx wx.heap.size wx.heap.size (d_rd hr (c_call hB3 hb)) (d_rd hw3 hb))
    clear Hes Heo hY8 hP8 hQ8 hlr
    go_wp2_with (first
      | (go_at_call 17; refine Hs1.out.mono ?_; rintro e wz ⟨rfl, rfl⟩)
      | (go_at_call 17; refine Hs2.out.mono ?_; rintro e wz ⟨rfl, rfl⟩))
    go_loopw [112] (fun i wr => ∃ j : Nat, j ≤ n4 ∧ i = .int .i64 (j : Int) ∧ Below w3.heap.size w3 wr ∧ (0 < n4 → ∀ ad, A4 = some ad → ∀ t, wr.frozen? ⟨ad.block, t, none⟩ = false) ∧ (∀ bx ox, A4 = some ⟨bx, ox, none⟩ → ∀ t, t < n4 → ∃ y : UInt8, wr.cell? ⟨bx, ox + t, none⟩ = some (.int .u8 (y.toNat : Int)))) (fun i _ => n4 - (intOf i).toNat)
    case atStart =>
      refine ⟨0, by omega, rfl, hC8, fun h0 ad had t => ?_, fun bx ox had t ht' => ?_⟩
      · obtain ⟨hp1, hp2⟩ := Hfz.out ad had
        rw [World.frozen?_of_block (a := ⟨ad.block, t, none⟩) (hD8.block _ (Hb4.out h0 ad had))]
        exact hp2 t
      · obtain ⟨b', o', he, _, hcz⟩ := hX8.pos (by omega)
        rw [had] at he
        injection he with he
        injection he with he1 he2
        subst he1 he2
        have hxl : X.length = n4 := by simpa using hX8.len
        exact ⟨at0 X t, by rw [← bv_def]; exact hcz t _ (by rw [List.getElem?_map, at0_of (by omega)]; rfl)⟩
    case round =>
      obtain ⟨j, hj, rfl, hBr, hFr, hCr⟩ := hrel
      by_cases hlt : j < n4
      · obtain ⟨bx, ox, rfl, _, _⟩ := hX8.pos (by omega)
        obtain ⟨y, hy⟩ := hCr bx ox rfl j hlt
        have hf := hFr (by omega) _ rfl (ox + j)
        have hinc := u8_inc y
        have hge := (Hfz.out _ rfl).1
        have hB' := hBr.setCell (p := ⟨bx, ox + j, none⟩) hge (.int .u8 (((y + 1 : UInt8).toNat : Nat) : Int))
        have hF' : 0 < n4 → ∀ ad, some (⟨bx, ox, none⟩ : Addr) = some ad → ∀ t, (wr.setCell ⟨bx, ox + j, none⟩ (.int .u8 (((y + 1 : UInt8).toNat : Nat) : Int))).frozen? ⟨ad.block, t, none⟩ = false := fun h0 ad had t => by rw [World.frozen?_setCell]; exact hFr h0 ad had t
        have hC' : ∀ bx' ox', some (⟨bx, ox, none⟩ : Addr) = some ⟨bx', ox', none⟩ → ∀ t, t < n4 → ∃ z : UInt8, (wr.setCell ⟨bx, ox + j, none⟩ (.int .u8 (((y + 1 : UInt8).toNat : Nat) : Int))).cell? ⟨bx', ox' + t, none⟩ = some (.int .u8 (z.toNat : Int)) := fun bx' ox' had t ht' => by
          injection had with had
          injection had with h1 h2
          subst h1 h2
          by_cases htj : t = j
          · subst htj
            exact ⟨y + 1, World.cell?_setCell_same (h := hy) ..⟩
          · obtain ⟨z, hz⟩ := hCr bx ox rfl t ht'
            exact ⟨z, by rw [World.cell?_setCell_other (h := fun h => htj (by injection h with _ h; omega))]; exact hz⟩
        have Hlt := Lib.hid hlt
        have HB := Lib.hid hB'
        have HF := Lib.hid hF'
        have HC := Lib.hid hC'
        have j0 : 0 ≤ (j : Int) := by omega
        have j1 : (j : Int) < (n4 : Int) := by omega
        clear hB' hF' hC' hFr hCr hBr
        generalize (((y + 1 : UInt8).toNat : Nat) : Int) = y1 at *
        generalize (y.toNat : Int) = y0 at *
        go_wp2_with fail
        go_roundw
        case rel => exact ⟨j + 1, by have := Hlt.out; omega, by go_num, HB.out, HF.out, HC.out⟩
        case measure => have := Hlt.out; simp [intOf]; omega
      · obtain rfl : j = n4 := by omega
        have hsw := Hw.out wr hBr
        rw [sameB_refl] at hsw
        have Hsw := Lib.hid hsw
        have hBz := c_call hB3 hBr
        clear hsw hFr hCr
        go_wp2_with (go_at_call 17; refine Hsw.out.mono ?_; rintro e wz ⟨rfl, rfl⟩)
        go_ret
        exact ⟨rfl, hBz⟩
  · have hbig1 : ¬ (400 : Int) < (m : Int) := by omega
    go_upto_region 6 with (go_at_call 9; refine (FewAll_any At mt ct vs ts _ _ (by omega) (d_rd hv hB2) (d_txs ht hB2)).mono ?_; rintro e wf ⟨bf, rfl, hbf0, rfl⟩; have hbf := Lib.hid hbf0; clear hbf0; cases bf)
    · go_wp2_with fail
      go_ret
      exact ⟨rfl, hB2⟩
    obtain ⟨hm, hfs⟩ := hbf.out (by first | rfl | trivial)
    have Hfs := Lib.hid hfs
    have htl : ts.length = mt := by rw [← ht.1]; exact hv.len
    have Htx := Lib.hid (few_txs htl hm hfs)
    clear hbf hfs htl hg0
    have hcp := Copy_all A m c b w2 hm47 (d_rd hr hB2)
    go_wp2_with fail
    refine hcp.mono ?_
    rintro e w3 ⟨A3, c3, rfl, hown3, hb3⟩
    have hw3 := Rd.of_own hown3
    have hK3 := hK2.below hb3 hK2.lt
    have hB3 := c_call hB2 hb3
    clear hcp hown3 hK2 hB2 hb3
    go_wp2_with ((with_reducible show wpList _ _ _ (⟨some 45, _, _, _, _, _⟩ :: _) _ _); refine wpList_load_row rfl 23 (.tmp 4) rfl (w.heap.size) rfl 23 (k.map bv).toArray (0, 0) _ (hK3) Tryd.underlying23 rfl (infoK32 Hk.out) ?_)
    refine (hS k b A m c At mt ct vs ts w3 Hk.out hmc hcm (d_rd hr hB3) hmt hct hm Hfs.out (d_rd hv hB3) (d_txs ht hB3) (hT.below hB3)).mono ?_
    intro e w4 hP
    obtain ⟨A4, n4, c4, rfl, hn4, hb4⟩ := hP.get
    have hK4 := hK3.below hb4 hK3.lt
    have hB4 := c_call hB3 hb4
    have hC4 := c_call (c_refl w3) hb4
    have Hfz := Lib.hid hn4.2.2.2
    have hX4 := hn4.1
    have hn4b : n4 ≤ 9223372036854775807 := by
      have h1 := hn4.2.1
      have h2 := hn4.2.2.1
      simp [maxLen] at h2
      omega
    have Hb4 := Lib.hid (show 0 < n4 → ∀ ad, A4 = some ad → ad.block < w4.heap.size from fun h0 ad had => by obtain ⟨b', o', he, hlt, _⟩ := hX4.pos h0; rw [had] at he; injection he with he; subst he; exact hlt)
    clear hP hn4 hK3 hb4
    go_wp2_with ((with_reducible show wpList _ _ _ (⟨some 52, _, _, _, _, _⟩ :: _) _ _); refine wpList_load_row rfl 23 (.tmp 4) rfl (w.heap.size) rfl 23 (k.map bv).toArray (0, 0) _ (hK4) Tryd.underlying23 rfl (infoK32 Hk.out) ?_)
    refine (RSeal_any k b A m c At mt ct vs ts w4 Hk.out (d_rd hr hB4) (by omega) (by omega) Htx.out (d_rd hv hB4) (d_txs ht hB4) (hK.below hB4)).mono ?_
    intro e w5 hP
    obtain ⟨A5, n5, c5, rfl, hn5, hb5⟩ := hP.get
    have hK5 := hK4.below hb5 hK4.lt
    have hB5 := c_call hB4 hb5
    have hC5 := c_call hC4 hb5
    have hX5 := d_rd hX4 hb5
    have hD5 := c_call (c_refl w4) hb5
    have hY5 := hn5.1
    have es := fun wx (h1 : Rd wx wx.heap.size A4 n4 ((sealX k b ts).map bv)) (h2 : Rd wx wx.heap.size A5 n5 ((sealX k b ts).map bv)) => Same_any A4 A5 n4 c4 n5 c5 (sealX k b ts) (sealX k b ts) wx wx.heap.size wx.heap.size h1 h2
    rw [sameB_refl] at es
    have Hes := Lib.hid es
    clear hP hn5 hK4 hb5 hB4 hC4 hX4 es
    generalize sealX k b ts = X at *
    generalize sealE b ts = ex at *
    go_wp2_with ((with_reducible show wpList _ _ _ (⟨some 59, _, _, _, _, _⟩ :: _) _ _); refine wpList_load_row rfl 23 (.tmp 4) rfl (w.heap.size) rfl 23 (k.map bv).toArray (0, 0) _ (hK5) Tryd.underlying23 rfl (infoK32 Hk.out) ?_)
    refine (hO k b A m c At mt ct vs ts w5 Hk.out hmc hcm (d_rd hr hB5) hmt hct hm Hfs.out (d_rd hv hB5) (d_txs ht hB5) (hT.below hB5)).mono ?_
    intro e w6 hP
    obtain ⟨A6, n6, c6, rfl, hn6, hb6⟩ := hP.get
    have hK6 := hK5.below hb6 hK5.lt
    have hB6 := c_call hB5 hb6
    have hC6 := c_call hC5 hb6
    have hD6 := c_call hD5 hb6
    have hX6 := d_rd hX5 hb6
    have hY6 := d_rd hY5 hb6
    have hP6 := hn6.1
    clear hP hn6 hK5 hb6 hB5 hC5 hX5 hY5 hD5
    go_wp2_with ((with_reducible show wpList _ _ _ (⟨some 66, _, _, _, _, _⟩ :: _) _ _); refine wpList_load_row rfl 23 (.tmp 4) rfl (w.heap.size) rfl 23 (k.map bv).toArray (0, 0) _ (hK6) Tryd.underlying23 rfl (infoK32 Hk.out) ?_)
    refine (ROpen_any k b A m c At mt ct vs ts w6 Hk.out hmc (d_rd hr hB6) hcn (by omega) Htx.out (d_rd hv hB6) (d_txs ht hB6) (hK.below hB6)).mono ?_
    intro e w7 hP
    obtain ⟨A7, n7, c7, rfl, hn7, hb7⟩ := hP.get
    have hB7 := c_call hB6 hb7
    have hC7 := c_call hC6 hb7
    have hD7 := c_call hD6 hb7
    have hX7 := d_rd hX6 hb7
    have hY7 := d_rd hY6 hb7
    have hP7 := d_rd hP6 hb7
    have hQ7 := hn7.1
    have eo := fun wx (h1 : Rd wx wx.heap.size A6 n6 ((openX k b ts).map bv)) (h2 : Rd wx wx.heap.size A7 n7 ((openX k b ts).map bv)) => Same_any A6 A7 n6 c6 n7 c7 (openX k b ts) (openX k b ts) wx wx.heap.size wx.heap.size h1 h2
    rw [sameB_refl] at eo
    have Heo := Lib.hid eo
    clear hP hn7 hK6 hb7 hB6 hC6 hX6 hY6 hP6 hD6 eo
    generalize openX k b ts = O at *
    generalize openE k b ts = eo at *
    have hlo := fun wx => hL n wx hn1 hn2
    have hlr := fun wx => RLong_any n wx hn1 hn2
    obtain ⟨l, i, hli⟩ := longV_form n
    rw [hli] at hlo hlr
    clear hli
    go_wp2_with fail
    refine (hlo _).mono ?_
    rintro e w8 ⟨rfl, hb8⟩
    have hB8 := c_call hB7 hb8
    have hC8 := c_call hC7 hb8
    have hD8 := c_call hD7 hb8
    have hX8 := d_rd hX7 hb8
    have hY8 := d_rd hY7 hb8
    have hP8 := d_rd hP7 hb8
    have hQ8 := d_rd hQ7 hb8
    clear hB7 hC7 hD7 hX7 hY7 hP7 hQ7 hb8 hlo
    go_wp2_with fail
    refine (hlr _).mono ?_
    rintro e w9 ⟨rfl, rfl⟩
    have Hs1 := Lib.hid (Hes.out _ hX8 hY8)
    have Hs2 := Lib.hid (Heo.out _ hP8 hQ8)
    have Hw := Lib.hid (fun wx (hb : Below w3.heap.size w3 wx) => Same_any A A3 m c m c3 b b wx wx.heap.size wx.heap.size (d_rd hr (c_call hB3 hb)) (d_rd hw3 hb))
    clear Hes Heo hY8 hP8 hQ8 hlr
    go_wp2_with (first
      | (go_at_call 17; refine Hs1.out.mono ?_; rintro e wz ⟨rfl, rfl⟩)
      | (go_at_call 17; refine Hs2.out.mono ?_; rintro e wz ⟨rfl, rfl⟩))
    go_loopw [112] (fun i wr => ∃ j : Nat, j ≤ n4 ∧ i = .int .i64 (j : Int) ∧ Below w3.heap.size w3 wr ∧ (0 < n4 → ∀ ad, A4 = some ad → ∀ t, wr.frozen? ⟨ad.block, t, none⟩ = false) ∧ (∀ bx ox, A4 = some ⟨bx, ox, none⟩ → ∀ t, t < n4 → ∃ y : UInt8, wr.cell? ⟨bx, ox + t, none⟩ = some (.int .u8 (y.toNat : Int)))) (fun i _ => n4 - (intOf i).toNat)
    case atStart =>
      refine ⟨0, by omega, rfl, hC8, fun h0 ad had t => ?_, fun bx ox had t ht' => ?_⟩
      · obtain ⟨hp1, hp2⟩ := Hfz.out ad had
        rw [World.frozen?_of_block (a := ⟨ad.block, t, none⟩) (hD8.block _ (Hb4.out h0 ad had))]
        exact hp2 t
      · obtain ⟨b', o', he, _, hcz⟩ := hX8.pos (by omega)
        rw [had] at he
        injection he with he
        injection he with he1 he2
        subst he1 he2
        have hxl : X.length = n4 := by simpa using hX8.len
        exact ⟨at0 X t, by rw [← bv_def]; exact hcz t _ (by rw [List.getElem?_map, at0_of (by omega)]; rfl)⟩
    case round =>
      obtain ⟨j, hj, rfl, hBr, hFr, hCr⟩ := hrel
      by_cases hlt : j < n4
      · obtain ⟨bx, ox, rfl, _, _⟩ := hX8.pos (by omega)
        obtain ⟨y, hy⟩ := hCr bx ox rfl j hlt
        have hf := hFr (by omega) _ rfl (ox + j)
        have hinc := u8_inc y
        have hge := (Hfz.out _ rfl).1
        have hB' := hBr.setCell (p := ⟨bx, ox + j, none⟩) hge (.int .u8 (((y + 1 : UInt8).toNat : Nat) : Int))
        have hF' : 0 < n4 → ∀ ad, some (⟨bx, ox, none⟩ : Addr) = some ad → ∀ t, (wr.setCell ⟨bx, ox + j, none⟩ (.int .u8 (((y + 1 : UInt8).toNat : Nat) : Int))).frozen? ⟨ad.block, t, none⟩ = false := fun h0 ad had t => by rw [World.frozen?_setCell]; exact hFr h0 ad had t
        have hC' : ∀ bx' ox', some (⟨bx, ox, none⟩ : Addr) = some ⟨bx', ox', none⟩ → ∀ t, t < n4 → ∃ z : UInt8, (wr.setCell ⟨bx, ox + j, none⟩ (.int .u8 (((y + 1 : UInt8).toNat : Nat) : Int))).cell? ⟨bx', ox' + t, none⟩ = some (.int .u8 (z.toNat : Int)) := fun bx' ox' had t ht' => by
          injection had with had
          injection had with h1 h2
          subst h1 h2
          by_cases htj : t = j
          · subst htj
            exact ⟨y + 1, World.cell?_setCell_same (h := hy) ..⟩
          · obtain ⟨z, hz⟩ := hCr bx ox rfl t ht'
            exact ⟨z, by rw [World.cell?_setCell_other (h := fun h => htj (by injection h with _ h; omega))]; exact hz⟩
        have Hlt := Lib.hid hlt
        have HB := Lib.hid hB'
        have HF := Lib.hid hF'
        have HC := Lib.hid hC'
        have j0 : 0 ≤ (j : Int) := by omega
        have j1 : (j : Int) < (n4 : Int) := by omega
        clear hB' hF' hC' hFr hCr hBr
        generalize (((y + 1 : UInt8).toNat : Nat) : Int) = y1 at *
        generalize (y.toNat : Int) = y0 at *
        go_wp2_with fail
        go_roundw
        case rel => exact ⟨j + 1, by have := Hlt.out; omega, by go_num, HB.out, HF.out, HC.out⟩
        case measure => have := Hlt.out; simp [intOf]; omega
      · obtain rfl : j = n4 := by omega
        have hsw := Hw.out wr hBr
        rw [sameB_refl] at hsw
        have Hsw := Lib.hid hsw
        have hBz := c_call hB3 hBr
        clear hsw hFr hCr
        go_wp2_with (go_at_call 17; refine Hsw.out.mono ?_; rintro e wz ⟨rfl, rfl⟩)
        go_ret
        exact ⟨rfl, hBz⟩

end Go.Proofs.YtajbaaamhddgiaaDoor

/-
  THE WALK of SealBack (coterielaw07), the program's calls told by what they answer (hypotheses here).
-/
set_option linter.unusedVariables false
namespace Go.Proofs.YtajbaaamhddgiaaDoor
open Go.RowKit

set_option maxRecDepth 100000 in
set_option maxHeartbeats 4000000 in
theorem walkH_SealBack (hS : PS) (hO : PO) (hL : PL) (k p b : List UInt8) (A : Option Addr) (m c : Nat) (A' : Option Addr) (m' c' : Nat) (At : Option Addr) (mt ct : Nat) (vs : List Value) (ts : List (List UInt8)) (w : World) (hk : k.length = 32)
    (hmc : m ≤ c) (hcm : c ≤ maxLen) (hr : Rd w w.heap.size A m (p.map bv)) (hmc' : m' ≤ c') (hcm' : c' ≤ maxLen) (hr' : Rd w w.heap.size A' m' (b.map bv)) (hmt : mt ≤ ct) (hct : ct ≤ maxLen) (hm24 : mt * 24 ≤ 140737488355328)
    (hv : Rd w w.heap.size At mt vs) (ht : Txs w w.heap.size vs ts) (hT : CTab w) :
    Calls Tryd.prog 4 #[.agg (k.map bv).toArray, .slice A m c, .slice A' m' c', .slice At mt ct] w fun e w' => e = .returned (.bool true) ∧ Below w.heap.size w w' := by
  have Hk := Lib.hid hk
  have Hpl := Lib.hid (show p.length = m by simpa using hr.len)
  have Hbl := Lib.hid (show b.length = m' by simpa using hr'.len)
  clear hk
  go_enter Tryd.func4, Tryd.ntmps4
  go_wp2_with fail
  refine (live07 hS _ (hT.below (d_al _ _))).mono ?_
  rintro e w2 ⟨rfl, hb2⟩
  have hK2 : ArrB w2 w.heap.size 23 k := (ArrB.mk_ w _ _ k rfl rfl).below hb2 (by simp)
  have hB2 : Below w.heap.size w w2 := c_call (d_al _ _) hb2
  clear hb2
  by_cases h1 : m ≤ 1000
  rotate_left
  · have h1' : (1000 : Int) < (m : Int) := by omega
    go_wp2_with fail
    go_ret
    exact ⟨rfl, hB2⟩
  by_cases h2 : m' ≤ 1000
  rotate_left
  · have h2' : (1000 : Int) < (m' : Int) := by omega
    have h1' : ¬ (1000 : Int) < (m : Int) := by omega
    go_wp2_with fail
    go_ret
    exact ⟨rfl, hB2⟩
  have h2' : ¬ (1000 : Int) < (m' : Int) := by omega
  have h1' : ¬ (1000 : Int) < (m : Int) := by omega
  go_upto_region 6 with (go_at_call 9; refine (FewAll_any At mt ct vs ts _ _ (by omega) (d_rd hv hB2) (d_txs ht hB2)).mono ?_; rintro e wf ⟨bf, rfl, hbf0, rfl⟩; have hbf := Lib.hid hbf0; clear hbf0; cases bf)
  · go_wp2_with fail
    go_ret
    exact ⟨rfl, hB2⟩
  obtain ⟨hm, hfs⟩ := hbf.out (by first | rfl | trivial)
  have Hfs := Lib.hid hfs
  clear hbf hfs
  have Hm := Lib.hid hm
  have Htx := Lib.hid hm
  go_wp2_with ((with_reducible show wpList _ _ _ (⟨some 38, _, _, _, _, _⟩ :: _) _ _); refine wpList_load_row rfl 23 (.tmp 4) rfl (w.heap.size) rfl 23 (k.map bv).toArray (0, 0) _ (hK2) Tryd.underlying23 rfl (infoK32 Hk.out) ?_)
  refine (hO k b A' m' c' At mt ct vs ts w2 Hk.out hmc' hcm' (d_rd hr' hB2) hmt hct hm Hfs.out (d_rd hv hB2) (d_txs ht hB2) (hT.below hB2)).mono ?_
  intro e w3 hP
  obtain ⟨hb3, ⟨er, her, rfl⟩ | ⟨q1, q2, hg, hso, A3, c3, rfl, hn3⟩⟩ := hP.split
  · have hK3 := hK2.below hb3 hK2.lt
    have hB3 := c_call hB2 hb3
    clear hK2 hB2 hb3 hP
    go_wp2_with ((with_reducible show wpList _ _ _ (⟨some 62, _, _, _, _, _⟩ :: _) _ _); refine wpList_load_row rfl 23 (.tmp 4) rfl (w.heap.size) rfl 23 (k.map bv).toArray (0, 0) _ (hK3) Tryd.underlying23 rfl (infoK32 Hk.out) ?_)
    refine (hS k p A m c At mt ct vs ts w3 Hk.out hmc hcm (d_rd hr hB3) hmt hct Hm.out Hfs.out (d_rd hv hB3) (d_txs ht hB3) (hT.below hB3)).mono ?_
    intro e w5 hP
    by_cases hgood : GoodT ts
    rotate_left
    · obtain ⟨rfl, hb5⟩ := hP.no (fun h => hgood h.2)
      have hB5 := c_call hB3 hb5
      go_wp2_with fail
      go_ret
      exact ⟨rfl, hB5⟩
    obtain ⟨A5, c5, rfl, hn5, hb5⟩ := hP.yes (by rw [Hpl.out]; omega) hgood
    have hK5 := hK3.below hb5 hK3.lt
    have hB5 := c_call hB3 hb5
    rw [Hpl.out] at hn5
    have Hsl := Lib.hid (sealU_len k p ts)
    rw [Hpl.out] at Hsl ⊢
    clear hK3 hB3 hb5 hP
    go_wp2_with ((with_reducible show wpList _ _ _ (⟨some 81, _, _, _, _, _⟩ :: _) _ _); refine wpList_load_row rfl 23 (.tmp 4) rfl (w.heap.size) rfl 23 (k.map bv).toArray (0, 0) _ (hK5) Tryd.underlying23 rfl (infoK32 Hk.out) ?_)
    refine (hO k (sealU k p ts) A5 (m + 16) c5 At mt ct vs ts w5 Hk.out hn5.2.1 hn5.2.2.1 hn5.1 hmt hct Hm.out Hfs.out (d_rd hv hB5) (d_txs ht hB5) (hT.below hB5)).mono ?_
    intro e w6 hP
    obtain ⟨A6, c6, rfl, hn6, hb6⟩ := hP.yes (by rw [Hsl.out]; omega) (by rw [Hsl.out]; omega) hgood (sealU_sound k p ts)
    have hB6 := c_call hB5 hb6
    rw [open_seal, Hsl.out] at hn6
    rw [Hsl.out]
    clear hK5 hB5 hP hb6 hn5
    have hlo := fun wx => hL (m : Int) wx (by omega) (by omega)
    rw [longV_ok (by omega)] at hlo
    go_wp2_with fail
    refine (hlo _).mono ?_
    rintro e w7 ⟨rfl, hb7⟩
    have hB7 := c_call hB6 hb7
    have hsm := Same_any A6 A (m + 16 - 16) c6 m c p p w7 w7.heap.size w7.heap.size (d_rd hn6.1 hb7) (d_rd hr hB7)
    rw [sameB_refl] at hsm
    have Hsm := Lib.hid hsm
    have hmm : ((m + 16 : Nat) : Int) = (m : Int) + 16 := by omega
    clear hB6 hb7 hsm hlo hn6
    go_wp2_with (go_at_call 17; refine Hsm.out.mono ?_; rintro e wz ⟨rfl, rfl⟩)
    go_ret
    exact ⟨rfl, hB7⟩
  · have hK3 := hK2.below hb3 hK2.lt
    have hB3 := c_call hB2 hb3
    have Hso := Lib.hid hso
    have Hol := Lib.hid (openU_len k b)
    clear hK2 hB2 hb3 hP hso
    go_wp2_with ((with_reducible show wpList _ _ _ (⟨some 47, _, _, _, _, _⟩ :: _) _ _); refine wpList_load_row rfl 23 (.tmp 4) rfl (w.heap.size) rfl 23 (k.map bv).toArray (0, 0) _ (hK3) Tryd.underlying23 rfl (infoK32 Hk.out) ?_)
    refine (hS k (openU k b) A3 (b.length - 16) c3 At mt ct vs ts w3 Hk.out hn3.2.1 hn3.2.2.1 hn3.1 hmt hct hm Hfs.out (d_rd hv hB3) (d_txs ht hB3) (hT.below hB3)).mono ?_
    intro e w4 hP
    obtain ⟨A4, c4, rfl, hn4, hb4⟩ := hP.yes (by rw [Hol.out]; omega) hg
    rw [seal_open k b ts Hso.out] at hn4
    have hK4 := hK3.below hb4 hK3.lt
    have hB4 := c_call hB3 hb4
    have hsm := Same_any A4 A' ((openU k b).length + 16) c4 m' c' b b w4 w4.heap.size w4.heap.size hn4.1 (d_rd hr' hB4)
    rw [sameB_refl] at hsm
    have Hsm := Lib.hid hsm
    clear hK3 hB3 hb4 hP hn3 hsm
    go_wp2_with (first
      | (go_at_call 17; refine Hsm.out.mono ?_; rintro e wz ⟨rfl, rfl⟩)
      | ((with_reducible show wpList _ _ _ (⟨some 62, _, _, _, _, _⟩ :: _) _ _); refine wpList_load_row rfl 23 (.tmp 4) rfl (w.heap.size) rfl 23 (k.map bv).toArray (0, 0) _ (hK4) Tryd.underlying23 rfl (infoK32 Hk.out) ?_))
    refine (hS k p A m c At mt ct vs ts w4 Hk.out hmc hcm (d_rd hr hB4) hmt hct Hm.out Hfs.out (d_rd hv hB4) (d_txs ht hB4) (hT.below hB4)).mono ?_
    intro e w5 hP
    by_cases hgood : GoodT ts
    rotate_left
    · obtain ⟨rfl, hb5⟩ := hP.no (fun h => hgood h.2)
      have hB5 := c_call hB4 hb5
      go_wp2_with fail
      go_ret
      exact ⟨rfl, hB5⟩
    obtain ⟨A5, c5, rfl, hn5, hb5⟩ := hP.yes (by rw [Hpl.out]; omega) hgood
    have hK5 := hK4.below hb5 hK4.lt
    have hB5 := c_call hB4 hb5
    rw [Hpl.out] at hn5
    have Hsl := Lib.hid (sealU_len k p ts)
    rw [Hpl.out] at Hsl ⊢
    clear hK4 hB4 hb5 hP
    go_wp2_with ((with_reducible show wpList _ _ _ (⟨some 81, _, _, _, _, _⟩ :: _) _ _); refine wpList_load_row rfl 23 (.tmp 4) rfl (w.heap.size) rfl 23 (k.map bv).toArray (0, 0) _ (hK5) Tryd.underlying23 rfl (infoK32 Hk.out) ?_)
    refine (hO k (sealU k p ts) A5 (m + 16) c5 At mt ct vs ts w5 Hk.out hn5.2.1 hn5.2.2.1 hn5.1 hmt hct Hm.out Hfs.out (d_rd hv hB5) (d_txs ht hB5) (hT.below hB5)).mono ?_
    intro e w6 hP
    obtain ⟨A6, c6, rfl, hn6, hb6⟩ := hP.yes (by rw [Hsl.out]; omega) (by rw [Hsl.out]; omega) hgood (sealU_sound k p ts)
    have hB6 := c_call hB5 hb6
    rw [open_seal, Hsl.out] at hn6
    rw [Hsl.out]
    clear hK5 hB5 hP hb6 hn5
    have hlo := fun wx => hL (m : Int) wx (by omega) (by omega)
    rw [longV_ok (by omega)] at hlo
    go_wp2_with fail
    refine (hlo _).mono ?_
    rintro e w7 ⟨rfl, hb7⟩
    have hB7 := c_call hB6 hb7
    have hsm := Same_any A6 A (m + 16 - 16) c6 m c p p w7 w7.heap.size w7.heap.size (d_rd hn6.1 hb7) (d_rd hr hB7)
    rw [sameB_refl] at hsm
    have Hsm := Lib.hid hsm
    have hmm : ((m + 16 : Nat) : Int) = (m : Int) + 16 := by omega
    clear hB6 hb7 hsm hlo hn6
    go_wp2_with (go_at_call 17; refine Hsm.out.mono ?_; rintro e wz ⟨rfl, rfl⟩)
    go_ret
    exact ⟨rfl, hB7⟩

end Go.Proofs.YtajbaaamhddgiaaDoor

/-
  THE WALK of SealTail (coterielaw07), the program's calls told by what they answer (hypotheses here).
-/
set_option linter.unusedVariables false
namespace Go.Proofs.YtajbaaamhddgiaaDoor
open Go.RowKit

set_option maxRecDepth 100000 in
set_option maxHeartbeats 4000000 in
theorem walkH_SealTail (hS : PS) (hO : PO) (hL : PL) (k p : List UInt8) (A : Option Addr) (m c : Nat) (At : Option Addr) (mt ct : Nat) (vs : List Value) (ts : List (List UInt8)) (at_ : Int) (x : UInt8) (w : World) (hk : k.length = 32)
    (hmc : m ≤ c) (hcm : c ≤ maxLen) (hr : Rd w w.heap.size A m (p.map bv)) (hmt : mt ≤ ct) (hct : ct ≤ maxLen) (hm24 : mt * 24 ≤ 140737488355328)
    (hv : Rd w w.heap.size At mt vs) (ht : Txs w w.heap.size vs ts) (hc1 : -9223372036854775808 ≤ at_) (hc2 : at_ ≤ 9223372036854775807) (hT : CTab w) :
    Calls Tryd.prog 5 #[.agg (k.map bv).toArray, .slice A m c, .slice At mt ct, .int .i64 at_, .int .u8 (x.toNat : Int)] w fun e w' => e = .returned (.bool true) ∧ Below w.heap.size w w' := by
  have Hk := Lib.hid hk
  have Hpl := Lib.hid (show p.length = m by simpa using hr.len)
  clear hk
  go_enter Tryd.func5, Tryd.ntmps5
  go_wp2_with fail
  refine (live07 hS _ (hT.below (d_al _ _))).mono ?_
  rintro e w2 ⟨rfl, hb2⟩
  have hK2 : ArrB w2 w.heap.size 23 k := (ArrB.mk_ w _ _ k rfl rfl).below hb2 (by simp)
  have hB2 : Below w.heap.size w w2 := c_call (d_al _ _) hb2
  clear hb2
  by_cases h1 : m ≤ 1000
  rotate_left
  · have h1' : (1000 : Int) < (m : Int) := by omega
    go_wp2_with fail
    go_ret
    exact ⟨rfl, hB2⟩
  have h1' : ¬ (1000 : Int) < (m : Int) := by omega
  go_upto_region 6 with (go_at_call 9; refine (FewAll_any At mt ct vs ts _ _ (by omega) (d_rd hv hB2) (d_txs ht hB2)).mono ?_; rintro e wf ⟨bf, rfl, hbf0, rfl⟩; have hbf := Lib.hid hbf0; clear hbf0; cases bf)
  · go_wp2_with fail
    go_ret
    exact ⟨rfl, hB2⟩
  obtain ⟨hm, hfs⟩ := hbf.out (by first | rfl | trivial)
  have Hfs := Lib.hid hfs
  clear hbf hfs
  go_wp2_with ((with_reducible show wpList _ _ _ (⟨some 32, _, _, _, _, _⟩ :: _) _ _); refine wpList_load_row rfl 23 (.tmp 5) rfl (w.heap.size) rfl 23 (k.map bv).toArray (0, 0) _ (hK2) Tryd.underlying23 rfl (infoK32 Hk.out) ?_)
  refine (hS k p A m c At mt ct vs ts w2 Hk.out hmc hcm (d_rd hr hB2) hmt hct hm Hfs.out (d_rd hv hB2) (d_txs ht hB2) (hT.below hB2)).mono ?_
  intro e w3 hP
  by_cases hgood : GoodT ts
  rotate_left
  · obtain ⟨rfl, hb3⟩ := hP.no (fun h => hgood h.2)
    have hB3 := c_call hB2 hb3
    clear hP
    go_wp2_with fail
    go_ret
    exact ⟨rfl, hB3⟩
  obtain ⟨A3, c3, rfl, hn3, hb3⟩ := hP.yes (by rw [Hpl.out]; omega) hgood
  have hK3 := hK2.below hb3 hK2.lt
  have hB3 := c_call hB2 hb3
  rw [Hpl.out] at hn3 ⊢
  have Hso := Lib.hid (sealU_sound k p ts)
  have Hop := Lib.hid (open_seal k p ts)
  have Hse := Lib.hid (fun i (hi : i < p.length + 16) => seal_set k p ts i hi)
  have Hbd := Lib.hid (fun i y (h1 : p.length ≤ i) (h2 : i < p.length + 16) (h3 : y ≠ at0 (sealU k p ts) i) => bad_sound k p ts i y h1 h2 h3)
  have Hxl := Lib.hid (sealU_len k p ts)
  rw [Hpl.out] at Hxl Hse Hbd
  generalize sealU k p ts = X at *
  clear hK2 hB2 hb3 hP
  obtain ⟨r1, hr1⟩ : ∃ r1, Int.tmod at_ 16 = r1 := ⟨_, rfl⟩
  have hb1 : -16 < r1 ∧ r1 < 16 := by
    have h := Int.natAbs_tmod at_ 16
    rw [hr1, show Int.natAbs 16 = 16 from rfl] at h
    have h3 := Nat.mod_lt at_.natAbs (show 0 < 16 by omega)
    omega
  obtain ⟨q, hq⟩ : ∃ q : Nat, Int.tmod (r1 + 16) 16 = (q : Int) := ⟨(Int.tmod (r1 + 16) 16).toNat, by
    have := Int.tmod_nonneg 16 (show 0 ≤ r1 + 16 by omega)
    omega⟩
  have hq16 : q < 16 := by
    have := Int.tmod_lt_of_pos (r1 + 16) (show (0 : Int) < 16 by omega)
    omega
  have w2' : IntKind.i64.wrap r1 = r1 := by rw [IntKind.wrap_i64]; omega
  have w4' : IntKind.i64.wrap (r1 + 16) = r1 + 16 := by rw [IntKind.wrap_i64]; omega
  have w5' : IntKind.i64.wrap (q : Int) = (q : Int) := by rw [IntKind.wrap_i64]; omega
  obtain ⟨jj, hjj⟩ : ∃ jj, jj + 1 + q = m + 16 := ⟨m + 15 - q, by omega⟩
  have Hj1 := Lib.hid (show m ≤ jj by omega)
  have Hj2 := Lib.hid (show jj < m + 16 by omega)
  have hk3 := hn3.2.1
  have q0 : (0 : Int) ≤ (q : Int) := by omega
  have q1 : (q : Int) ≤ (c3 : Int) := by omega
  have g3 : ¬ (((m + 16 : Nat) : Int) < 16) := by omega
  have u1 : IntKind.i64.wrap (((m + 16 : Nat) : Int) - 1) = ((m + 16 : Nat) : Int) - 1 := by rw [IntKind.wrap_i64]; omega
  have u3 : ((m + 16 : Nat) : Int) - 1 - (q : Int) = (jj : Int) := by omega
  have u2 : IntKind.i64.wrap (jj : Int) = (jj : Int) := by rw [IntKind.wrap_i64]; omega
  have j0 : (0 : Int) ≤ (jj : Int) := by omega
  have j1 : (jj : Int) < ((m + 16 : Nat) : Int) := by omega
  have hx16 : 0 < m + 16 := by omega
  have hqx : q ≤ m + 16 := by omega
  have hcp := Copy_any A3 (m + 16) c3 X w3 (by omega) hn3.1
  have Hlong := Lib.hid (show m + 16 ≤ 1048592 by omega)
  have Hsh := Lib.hid (show 16 ≤ m + 16 by omega)
  have Hml := Lib.hid (show m + 16 - 16 = m by omega)
  generalize m + 16 = mx at *
  clear hjj
  go_wp2_with fail
  refine hcp.mono ?_
  rintro e w4 ⟨A4, c4, rfl, hown4, hb4⟩
  obtain ⟨g4, cap4, he4, hg4, _⟩ := hown4.form (by omega)
  injection he4 with he4 _ hcc
  subst he4 hcc
  have hK4 := hK3.below hb4 hK3.lt
  have hcell := hown4.cells (g := g4) rfl jj (bv (at0 X jj)) (by rw [List.getElem?_map, at0_of (show jj < X.length by rw [Hxl.out]; exact Hj2.out)]; rfl)
  rw [Addr.add_lit, Nat.zero_add, bv_def] at hcell
  have hfr := own_free hown4 jj
  have hxr := b_xor (at0 X jj) x
  have hown5 := own_set hown4 Hj2.out (bv (at0 X jj ^^^ x))
  rw [← List.map_set, bv_def] at hown5
  have hb35 : Below w3.heap.size w3 (w4.setCell ⟨g4, jj, none⟩ (.int .u8 ((at0 X jj ^^^ x).toNat : Int))) := hb4.setCell hg4 _
  have hK5 := hK4.far (p := ⟨g4, jj, none⟩) (show w.heap.size ≠ g4 by have := hK3.lt; omega) (.int .u8 ((at0 X jj ^^^ x).toNat : Int))
  have hnb := NewB.of_own (w := w3) hown5 (Nat.le_refl _)
  have hB5 := c_call hB3 hb35
  have hX5 := d_rd hn3.1 hb35
  have hc3m := hn3.2.2.1
  generalize hy : ((at0 X jj ^^^ x).toNat : Int) = y0 at *
  generalize ((at0 X jj).toNat : Int) = x0 at *
  generalize hxb : (x.toNat : Int) = xb at *
  have Hxb := Lib.hid hxb
  have Hq16 := Lib.hid hq16
  have HXq := Lib.hid (show (X.take q).length = q by rw [List.length_take, Hxl.out]; omega)
  have hund := Tryd.underlying23
  have hinf : (Tryd.prog.info? 23).map (·.size) = some (k.map bv).length := by rw [info32]; simp [Hk.out]
  clear hcp hown4 hb4 hK4 hy hxb hown5 hK3 hB3 hb35 hn3 hq16
  by_cases hx : x = 0
  · subst hx
    have hset : X.set jj (at0 X jj ^^^ 0) = X := by rw [UInt8.xor_zero]; exact Hse.out jj Hj2.out
    rw [hset] at hnb
    obtain rfl : xb = 0 := by rw [← Hxb.out]; rfl
    clear hset
    go_wp2_with ((with_reducible show wpList _ _ _ (⟨some 68, _, _, _, _, _⟩ :: _) _ _); refine wpList_load_row rfl 23 (.tmp 5) rfl (w.heap.size) rfl 23 (k.map bv).toArray (0, 0) _ (hK5) Tryd.underlying23 rfl (infoK32 Hk.out) ?_)
    generalize w4.setCell ⟨g4, jj, none⟩ (.int .u8 y0) = w5 at *
    refine (hO k X (some ⟨g4, 0, none⟩) mx c4 At mt ct vs ts w5 Hk.out hnb.2.1 hnb.2.2.1 hnb.1 hmt hct hm Hfs.out (d_rd hv hB5) (d_txs ht hB5) (hT.below hB5)).mono ?_
    intro e w6 hP
    obtain ⟨A6, c6, rfl, hn6, hb6⟩ := hP.yes (by rw [Hxl.out]; exact Hsh.out) (by rw [Hxl.out]; exact Hlong.out) hgood Hso.out
    rw [Hxl.out, Hml.out, Hop.out] at hn6
    rw [Hxl.out, Hml.out]
    have hK6 := hK5.below hb6 hK5.lt
    have hB6 := c_call hB5 hb6
    have hXq := (d_rd hX5 hb6).take hqx
    rw [← List.map_take] at hXq
    have hsm := Same_any A6 A m c6 m c p p w6 w6.heap.size w6.heap.size hn6.1 (d_rd hr hB6)
    rw [sameB_refl] at hsm
    have Hsm := Lib.hid hsm
    clear hsm hK5 hB5 hX5 hb6 hP hn6 hnb
    go_wp2_with (go_at_call 17; refine Hsm.out.mono ?_; rintro e wz ⟨rfl, rfl⟩)
    have hkeep : ∀ wx : World, Below w6.heap.size w6 wx → wx.rangeAt w.heap.size 0 (k.map bv) := fun wx hb => (hK6.below hb hK6.lt).range
    have hs15 := fun wx (hb : Below w6.heap.size w6 wx) => hO k (X.take q) A3 q c3 At mt ct vs ts wx Hk.out (by omega) hc3m (d_rd hXq hb) hmt hct hm Hfs.out (d_rd hv (c_call hB6 hb)) (d_txs ht (c_call hB6 hb)) (hT.below (c_call hB6 hb))
    have Hs15 := Lib.hid hs15
    clear hs15
    go_region_held3 (fun wx => wx.rangeAt w.heap.size 0 (k.map bv))
      (first | (refine hkeep _ ?_; (repeat (first | exact c_refl _ | refine c_drew ?_ | refine c_alloc ?_ _ | refine c_call ?_ (by assumption))); done))
      (first
        | (go_at_call 13; refine (Hs15.out _ (by ((repeat (first | exact c_refl _ | refine c_drew ?_ | refine c_alloc ?_ _)); first | done | fail "open"))).mono ?_; intro e w7 hP7; obtain ⟨rfl, hb7⟩ := hP7.short (by rw [HXq.out]; exact Hq16.out); clear hP7))
    have hE : Below w6.heap.size w6 w7 := by
      repeat (first | exact c_refl _ | refine c_drew ?_ | refine c_alloc ?_ _ | refine c_call ?_ hb7)
    go_wp2_with fail
    go_ret
    exact ⟨rfl, c_call hB6 hE⟩
  · have hxn : (xb == 0) = false := by
      rw [← Hxb.out]
      have : x.toNat ≠ 0 := fun h => hx (UInt8.toNat_inj.1 h)
      simp only [beq_eq_false_iff_ne]
      omega
    have hxn2 : (xb != 0) = true := by simp [bne, hxn]
    have hbad := Hbd.out jj (at0 X jj ^^^ x) Hj1.out Hj2.out (fun h => hx (by
      have h2 := congrArg (at0 X jj ^^^ ·) h
      simpa [← UInt8.xor_assoc] using h2))
    have Hset := Lib.hid (show (X.set jj (at0 X jj ^^^ x)).length = mx by rw [List.length_set, Hxl.out])
    generalize X.set jj (at0 X jj ^^^ x) = Bd at *
    go_wp2_with ((with_reducible show wpList _ _ _ (⟨some 68, _, _, _, _, _⟩ :: _) _ _); refine wpList_load_row rfl 23 (.tmp 5) rfl (w.heap.size) rfl 23 (k.map bv).toArray (0, 0) _ (hK5) Tryd.underlying23 rfl (infoK32 Hk.out) ?_)
    generalize w4.setCell ⟨g4, jj, none⟩ (.int .u8 y0) = w5 at *
    refine (hO k Bd (some ⟨g4, 0, none⟩) mx c4 At mt ct vs ts w5 Hk.out hnb.2.1 hnb.2.2.1 hnb.1 hmt hct hm Hfs.out (d_rd hv hB5) (d_txs ht hB5) (hT.below hB5)).mono ?_
    intro e w6 hP
    obtain ⟨rfl, hb6⟩ := hP.bad (by rw [Hset.out]; exact Hsh.out) (by rw [Hset.out]; exact Hlong.out) hgood hbad
    have hK6 := hK5.below hb6 hK5.lt
    have hB6 := c_call hB5 hb6
    have hXq := (d_rd hX5 hb6).take hqx
    rw [← List.map_take] at hXq
    clear hK5 hB5 hX5 hb6 hP hnb hbad
    go_wp2_with fail
    have hkeep : ∀ wx : World, Below w6.heap.size w6 wx → wx.rangeAt w.heap.size 0 (k.map bv) := fun wx hb => (hK6.below hb hK6.lt).range
    have hs15 := fun wx (hb : Below w6.heap.size w6 wx) => hO k (X.take q) A3 q c3 At mt ct vs ts wx Hk.out (by omega) hc3m (d_rd hXq hb) hmt hct hm Hfs.out (d_rd hv (c_call hB6 hb)) (d_txs ht (c_call hB6 hb)) (hT.below (c_call hB6 hb))
    have Hs15 := Lib.hid hs15
    clear hs15
    go_region_held3 (fun wx => wx.rangeAt w.heap.size 0 (k.map bv))
      (first | (refine hkeep _ ?_; (repeat (first | exact c_refl _ | refine c_drew ?_ | refine c_alloc ?_ _ | refine c_call ?_ (by assumption))); done))
      (first
        | (go_at_call 13; refine (Hs15.out _ (by ((repeat (first | exact c_refl _ | refine c_drew ?_ | refine c_alloc ?_ _)); first | done | fail "open"))).mono ?_; intro e w7 hP7; obtain ⟨rfl, hb7⟩ := hP7.short (by rw [HXq.out]; exact Hq16.out); clear hP7))
    have hE : Below w6.heap.size w6 w7 := by
      repeat (first | exact c_refl _ | refine c_drew ?_ | refine c_alloc ?_ _ | refine c_call ?_ hb7)
    go_wp2_with fail
    go_ret
    exact ⟨rfl, c_call hB6 hE⟩

end Go.Proofs.YtajbaaamhddgiaaDoor

/-
  THE WALK of SealStream (coterielaw07), the program's calls told by what they answer (hypotheses here).
-/
set_option linter.unusedVariables false
namespace Go.Proofs.YtajbaaamhddgiaaDoor
open Go.RowKit

set_option maxRecDepth 100000 in
set_option maxHeartbeats 4000000 in
theorem walkH_SealStream (hS : PS) (hO : PO) (hL : PL) (k a b : List UInt8) (A : Option Addr) (m c : Nat) (A' : Option Addr) (m' c' : Nat) (w : World) (hk : k.length = 32)
    (hmc : m ≤ c) (hcm : c ≤ maxLen) (hr : Rd w w.heap.size A m (a.map bv)) (hmc' : m' ≤ c') (hcm' : c' ≤ maxLen) (hr' : Rd w w.heap.size A' m' (b.map bv)) (hT : CTab w) :
    Calls Tryd.prog 6 #[.agg (k.map bv).toArray, .slice A m c, .slice A' m' c'] w fun e w' => e = .returned (.bool true) ∧ Below w.heap.size w w' := by
  have Hk := Lib.hid hk
  have Hal := Lib.hid (show a.length = m by simpa using hr.len)
  have Hbl := Lib.hid (show b.length = m' by simpa using hr'.len)
  clear hk
  go_enter Tryd.func6, Tryd.ntmps6
  go_wp2_with fail
  refine (live07 hS _ (hT.below (d_al _ _))).mono ?_
  rintro e w2 ⟨rfl, hb2⟩
  have hK2 : ArrB w2 w.heap.size 23 k := (ArrB.mk_ w _ _ k rfl rfl).below hb2 (by simp)
  have hB2 : Below w.heap.size w w2 := c_call (d_al _ _) hb2
  clear hb2
  by_cases h1 : m ≤ 1000
  rotate_left
  · have h1' : (1000 : Int) < (m : Int) := by omega
    go_wp2_with fail
    go_ret
    exact ⟨rfl, hB2⟩
  by_cases h2 : m' ≤ 1000
  rotate_left
  · have h2' : (1000 : Int) < (m' : Int) := by omega
    have h1' : ¬ (1000 : Int) < (m : Int) := by omega
    go_wp2_with fail
    go_ret
    exact ⟨rfl, hB2⟩
  have h2' : ¬ (1000 : Int) < (m' : Int) := by omega
  have h1' : ¬ (1000 : Int) < (m : Int) := by omega
  go_wp2_with ((with_reducible show wpList _ _ _ (⟨some 26, _, _, _, _, _⟩ :: _) _ _); refine wpList_load_row rfl 23 (.tmp 3) rfl (w.heap.size) rfl 23 (k.map bv).toArray (0, 0) _ (hK2) Tryd.underlying23 rfl (infoK32 Hk.out) ?_)
  refine (hS k a A m c none 0 0 [] [] w2 Hk.out hmc hcm (d_rd hr hB2) (Nat.le_refl _) (by simp [maxLen]) (by omega) (by simp [fewSum]) (Rd.zero _ _ _) (Txs.nil _ _) (hT.below hB2)).mono ?_
  intro e w3 hP
  obtain ⟨A3, c3, rfl, hn3, hb3⟩ := hP.yes (by rw [Hal.out]; omega) good_nil
  have hK3 := hK2.below hb3 hK2.lt
  have hB3 := c_call hB2 hb3
  rw [Hal.out] at hn3 ⊢
  clear hK2 hB2 hb3 hP
  go_wp2_with ((with_reducible show wpList _ _ _ (⟨some 32, _, _, _, _, _⟩ :: _) _ _); refine wpList_load_row rfl 23 (.tmp 3) rfl (w.heap.size) rfl 23 (k.map bv).toArray (0, 0) _ (hK3) Tryd.underlying23 rfl (infoK32 Hk.out) ?_)
  refine (hS k b A' m' c' none 0 0 [] [] w3 Hk.out hmc' hcm' (d_rd hr' hB3) (Nat.le_refl _) (by simp [maxLen]) (by omega) (by simp [fewSum]) (Rd.zero _ _ _) (Txs.nil _ _) (hT.below hB3)).mono ?_
  intro e w4 hP
  obtain ⟨A4, c4, rfl, hn4, hb4⟩ := hP.yes (by rw [Hbl.out]; omega) good_nil
  have hB4 := c_call hB3 hb4
  rw [Hbl.out] at hn4 ⊢
  have hx := d_rd hn3.1 hb4
  have hy := hn4.1
  have ha := d_rd hr hB4
  have hb := d_rd hr' hB4
  have Hxl := Lib.hid (sealU_len k a [])
  have Hyl := Lib.hid (sealU_len k b [])
  have Hdf := Lib.hid (fun i (ha : i < a.length) (hb : i < b.length) => sealU_differ k (a := a) (b := b) [] (i := i) ha hb)
  rw [Hal.out] at Hxl
  rw [Hbl.out] at Hyl
  clear hK3 hB3 hb4 hP hn3 hn4
  generalize sealU k a [] = X at *
  generalize sealU k b [] = Y at *
  have e1 : ((m + 16 : Nat) : Int) = (m : Int) + 16 := by omega
  have e2 : ((m' + 16 : Nat) : Int) = (m' : Int) + 16 := by omega
  obtain ⟨M, hM⟩ : ∃ M : Nat, min (m : Int) (m' : Int) = (M : Int) := ⟨min m m', by omega⟩
  have hM1 : M ≤ m := by omega
  have hM2 : M ≤ m' := by omega
  go_wp2_with fail
  go_loopw [64] (fun i wr => ∃ j : Nat, j ≤ M ∧ i = .int .i64 (j : Int) ∧ Below w4.heap.size w4 wr) (fun i _ => M - (intOf i).toNat)
  case atStart => exact ⟨0, by omega, rfl, c_refl _⟩
  case round =>
    obtain ⟨j, hj, rfl, hBr⟩ := hrel
    by_cases hlt : j < M
    · obtain ⟨gx, ox, rfl, hgx, cx⟩ := hx.pos (by omega)
      obtain ⟨gy, oy, rfl, hgy, cy⟩ := hy.pos (by omega)
      obtain ⟨ga, oa, rfl, hga, ca⟩ := ha.pos (by omega)
      obtain ⟨gb, ob, rfl, hgb, cb⟩ := hb.pos (by omega)
      have tx := fun wx (hb : Below wr.heap.size wr wx) => (show wx.cell? ⟨gx, ox + j, none⟩ = some (.int .u8 ((at0 X j).toNat : Int)) by rw [(c_call hBr hb).cell (show gx < w4.heap.size from hgx)]; exact cx j _ (by rw [List.getElem?_map, at0_of (show j < X.length by have := Hxl.out; omega)]; rfl))
      have ty := fun wx (hb : Below wr.heap.size wr wx) => (show wx.cell? ⟨gy, oy + j, none⟩ = some (.int .u8 ((at0 Y j).toNat : Int)) by rw [(c_call hBr hb).cell (show gy < w4.heap.size from hgy)]; exact cy j _ (by rw [List.getElem?_map, at0_of (show j < Y.length by have := Hyl.out; omega)]; rfl))
      have ta := fun wx (hb : Below wr.heap.size wr wx) => (show wx.cell? ⟨ga, oa + j, none⟩ = some (.int .u8 ((at0 a j).toNat : Int)) by rw [(c_call hBr hb).cell (show ga < w4.heap.size from hga)]; exact ca j _ (by rw [List.getElem?_map, at0_of (show j < a.length by have := Hal.out; omega)]; rfl))
      have tb := fun wx (hb : Below wr.heap.size wr wx) => (show wx.cell? ⟨gb, ob + j, none⟩ = some (.int .u8 ((at0 b j).toNat : Int)) by rw [(c_call hBr hb).cell (show gb < w4.heap.size from hgb)]; exact cb j _ (by rw [List.getElem?_map, at0_of (show j < b.length by have := Hbl.out; omega)]; rfl))
      have z1 := b_xor (at0 X j) (at0 Y j)
      have z2 := b_xor (at0 a j) (at0 b j)
      rw [Hdf.out j (by have := Hal.out; omega) (by have := Hbl.out; omega)] at z1
      have Hlt := Lib.hid hlt
      have j0 : 0 ≤ (j : Int) := by omega
      have jx : (j : Int) < (m : Int) + 16 := by omega
      have jy : (j : Int) < (m' : Int) + 16 := by omega
      have ja : (j : Int) < (m : Int) := by omega
      have jb : (j : Int) < (m' : Int) := by omega
      have jM : (j : Int) < (M : Int) := by omega
      generalize ((at0 a j ^^^ at0 b j).toNat : Int) = z at *
      generalize ((at0 X j).toNat : Int) = x0 at *
      generalize ((at0 Y j).toNat : Int) = y0 at *
      generalize ((at0 a j).toNat : Int) = a0 at *
      generalize ((at0 b j).toNat : Int) = b0 at *
      clear cx cy ca cb hx hy ha hb hr hr'
      go_wp2_with fail
      go_region_held3 (fun wx : World => wx.cell? ⟨gx, ox + j, none⟩ = some (.int .u8 x0) ∧ wx.cell? ⟨gy, oy + j, none⟩ = some (.int .u8 y0) ∧ wx.cell? ⟨ga, oa + j, none⟩ = some (.int .u8 a0) ∧ wx.cell? ⟨gb, ob + j, none⟩ = some (.int .u8 b0))
        (refine ⟨tx _ ?_, ty _ ?_, ta _ ?_, tb _ ?_⟩ <;> ((repeat (first | exact c_refl _ | refine c_drew ?_ | refine c_alloc ?_ _ | refine c_call ?_ (by assumption))); done))
        (fail)
      go_wp2_with fail
      go_roundw
      case rel => exact ⟨j + 1, by have := Hlt.out; omega, by go_num, c_drew hBr⟩
      case measure => have := Hlt.out; simp [intOf]; omega
    · obtain rfl : j = M := by omega
      go_wp2_with fail
      go_ret
      exact ⟨rfl, c_call hB4 hBr⟩

end Go.Proofs.YtajbaaamhddgiaaDoor

/-
  THE WALK of SealPrefix (coterielaw07), the program's calls told by what they answer (hypotheses here).
-/
set_option linter.unusedVariables false
namespace Go.Proofs.YtajbaaamhddgiaaDoor
open Go.RowKit

set_option maxRecDepth 100000 in
set_option maxHeartbeats 4000000 in
theorem walkH_SealPrefix (hS : PS) (hO : PO) (hL : PL) (k b : List UInt8) (A : Option Addr) (m c : Nat) (cut : Int) (At : Option Addr) (mt ct : Nat) (vs : List Value) (ts : List (List UInt8)) (w : World) (hk : k.length = 32)
    (hmc : m ≤ c) (hcm : c ≤ maxLen) (hr : Rd w w.heap.size A m (b.map bv)) (hc1 : -9223372036854775808 ≤ cut) (hc2 : cut ≤ 9223372036854775807) (hmt : mt ≤ ct) (hct : ct ≤ maxLen) (hm24 : mt * 24 ≤ 140737488355328)
    (hv : Rd w w.heap.size At mt vs) (ht : Txs w w.heap.size vs ts) (hT : CTab w) :
    Calls Tryd.prog 7 #[.agg (k.map bv).toArray, .slice A m c, .int .i64 cut, .slice At mt ct] w fun e w' => e = .returned (.bool true) ∧ Below w.heap.size w w' := by
  have Hk := Lib.hid hk
  have Hbl := Lib.hid (show b.length = m by simpa using hr.len)
  clear hk
  go_enter Tryd.func7, Tryd.ntmps7
  go_wp2_with fail
  refine (live07 hS _ (hT.below (d_al _ _))).mono ?_
  rintro e w2 ⟨rfl, hb2⟩
  have hK2 : ArrB w2 w.heap.size 23 k := (ArrB.mk_ w _ _ k rfl rfl).below hb2 (by simp)
  have hB2 : Below w.heap.size w w2 := c_call (d_al _ _) hb2
  clear hb2
  by_cases h1 : m ≤ 1000
  rotate_left
  · have h1' : (1000 : Int) < (m : Int) := by omega
    go_wp2_with fail
    go_ret
    exact ⟨rfl, hB2⟩
  have h1' : ¬ (1000 : Int) < (m : Int) := by omega
  go_upto_region 6 with (go_at_call 9; refine (FewAll_any At mt ct vs ts _ _ (by omega) (d_rd hv hB2) (d_txs ht hB2)).mono ?_; rintro e wf ⟨bf, rfl, hbf0, rfl⟩; have hbf := Lib.hid hbf0; clear hbf0; cases bf)
  · go_wp2_with fail
    go_ret
    exact ⟨rfl, hB2⟩
  obtain ⟨hm, hfs⟩ := hbf.out (by first | rfl | trivial)
  have Hfs := Lib.hid hfs
  clear hbf hfs
  obtain ⟨r1, hr1⟩ : ∃ r1, Int.tmod cut ((m : Int) + 1) = r1 := ⟨_, rfl⟩
  have hb1 : -((m : Int) + 1) < r1 ∧ r1 < (m : Int) + 1 := by
    have h := Int.natAbs_tmod cut ((m : Int) + 1)
    rw [hr1] at h
    have h2 : ((m : Int) + 1).natAbs = m + 1 := by omega
    rw [h2] at h
    have h3 := Nat.mod_lt cut.natAbs (show 0 < m + 1 by omega)
    omega
  obtain ⟨q, hq⟩ : ∃ q : Nat, Int.tmod (r1 + (m : Int) + 1) ((m : Int) + 1) = (q : Int) := ⟨(Int.tmod (r1 + (m : Int) + 1) ((m : Int) + 1)).toNat, by
    have := Int.tmod_nonneg ((m : Int) + 1) (show 0 ≤ r1 + (m : Int) + 1 by omega)
    omega⟩
  have hqm : q ≤ m := by
    have := Int.tmod_lt_of_pos (r1 + (m : Int) + 1) (show 0 < (m : Int) + 1 by omega)
    omega
  have w1 : IntKind.i64.wrap ((m : Int) + 1) = (m : Int) + 1 := by rw [IntKind.wrap_i64]; omega
  have w2' : IntKind.i64.wrap r1 = r1 := by rw [IntKind.wrap_i64]; omega
  have w3' : IntKind.i64.wrap (r1 + (m : Int)) = r1 + (m : Int) := by rw [IntKind.wrap_i64]; omega
  have w4' : IntKind.i64.wrap (r1 + (m : Int) + 1) = r1 + (m : Int) + 1 := by rw [IntKind.wrap_i64]; omega
  have w5' : IntKind.i64.wrap (q : Int) = (q : Int) := by rw [IntKind.wrap_i64]; omega
  have n0 : ((m : Int) + 1) ≠ 0 := by omega
  have q0 : (0 : Int) ≤ (q : Int) := by omega
  have q1 : (q : Int) ≤ (c : Int) := by omega
  have hbq := hr.take hqm
  rw [← List.map_take] at hbq
  have Hql := Lib.hid (show (b.take q).length = q by rw [List.length_take, Hbl.out]; omega)
  have Hpre := Lib.hid (sealU_take k b ts [] q (by rw [Hbl.out]; exact hqm))
  go_wp2_with ((with_reducible show wpList _ _ _ (⟨some 40, _, _, _, _, _⟩ :: _) _ _); refine wpList_load_row rfl 23 (.tmp 4) rfl (w.heap.size) rfl 23 (k.map bv).toArray (0, 0) _ (hK2) Tryd.underlying23 rfl (infoK32 Hk.out) ?_)
  refine (hS k b A m c At mt ct vs ts w2 Hk.out hmc hcm (d_rd hr hB2) hmt hct hm Hfs.out (d_rd hv hB2) (d_txs ht hB2) (hT.below hB2)).mono ?_
  intro e w3 hP
  have hund := Tryd.underlying23
  have hinf : (Tryd.prog.info? 23).map (·.size) = some (k.map bv).length := by rw [info32]; simp [Hk.out]
  by_cases hgood : GoodT ts
  rotate_left
  · obtain ⟨rfl, hb3⟩ := hP.no (fun h => hgood h.2)
    have hK3 := hK2.below hb3 hK2.lt
    have hB3 := c_call hB2 hb3
    clear hK2 hB2 hb3 hP
    have hkeep : ∀ wx : World, Below w3.heap.size w3 wx → wx.rangeAt w.heap.size 0 (k.map bv) := fun wx hb => (hK3.below hb hK3.lt).range
    have hs8 := fun wx (hb : Below w3.heap.size w3 wx) => hS k (b.take q) A q c none 0 0 [] [] wx Hk.out (by omega) hcm (d_rd hbq (c_call hB3 hb)) (Nat.le_refl _) (by simp [maxLen]) (by omega) (by simp [fewSum]) (Rd.zero _ _ _) (Txs.nil _ _) (hT.below (c_call hB3 hb))
    have Hs8 := Lib.hid hs8
    clear hs8
    go_wp2_with fail
    go_region_held3 (fun wx => wx.rangeAt w.heap.size 0 (k.map bv))
      (first | (refine hkeep _ ?_; (repeat (first | exact c_refl _ | refine c_drew ?_ | refine c_alloc ?_ _ | refine c_call ?_ (by assumption))); done))
      (first
        | (go_at_call 11; refine (Hs8.out _ (by ((repeat (first | exact c_refl _ | refine c_drew ?_ | refine c_alloc ?_ _)); first | done | fail "open"))).mono ?_; intro e w5 hP5; obtain ⟨A5, c5, rfl, hn5, hb5⟩ := hP5.yes (by rw [Hql.out]; omega) good_nil; rw [Hql.out] at hn5 ⊢; clear hP5))
    have hE : Below w3.heap.size w3 w5 := by
      repeat (first | exact c_refl _ | refine c_drew ?_ | refine c_alloc ?_ _ | refine c_call ?_ hb5)
    go_wp2_with fail
    go_ret
    exact ⟨rfl, c_call hB3 hE⟩
  obtain ⟨A3, c3, rfl, hn3, hb3⟩ := hP.yes (by rw [Hbl.out]; omega) hgood
  have hK3 := hK2.below hb3 hK2.lt
  have hB3 := c_call hB2 hb3
  rw [Hbl.out] at hn3 ⊢
  clear hK2 hB2 hb3 hP
  have hkeep : ∀ wx : World, Below w3.heap.size w3 wx → wx.rangeAt w.heap.size 0 (k.map bv) := fun wx hb => (hK3.below hb hK3.lt).range
  have hs8 := fun wx (hb : Below w3.heap.size w3 wx) => hS k (b.take q) A q c none 0 0 [] [] wx Hk.out (by omega) hcm (d_rd hbq (c_call hB3 hb)) (Nat.le_refl _) (by simp [maxLen]) (by omega) (by simp [fewSum]) (Rd.zero _ _ _) (Txs.nil _ _) (hT.below (c_call hB3 hb))
  have Hs8 := Lib.hid hs8
  clear hs8
  go_wp2_with fail
  go_region_held3 (fun wx => wx.rangeAt w.heap.size 0 (k.map bv))
    (first | (refine hkeep _ ?_; (repeat (first | exact c_refl _ | refine c_drew ?_ | refine c_alloc ?_ _ | refine c_call ?_ (by assumption))); done))
    (first
      | (go_at_call 11; refine (Hs8.out _ (by ((repeat (first | exact c_refl _ | refine c_drew ?_ | refine c_alloc ?_ _)); first | done | fail "open"))).mono ?_; intro e w5 hP5; obtain ⟨A5, c5, rfl, hn5, hb5⟩ := hP5.yes (by rw [Hql.out]; omega) good_nil; rw [Hql.out] at hn5 ⊢; clear hP5))
  have hE : Below w3.heap.size w3 w5 := by
    repeat (first | exact c_refl _ | refine c_drew ?_ | refine c_alloc ?_ _ | refine c_call ?_ hb5)
  have hx := (d_rd hn3.1 hE).take (show q ≤ m + 16 by omega)
  have hy := ((c_rd hn5.1 (c_refl _))).take (show q ≤ q + 16 by omega)
  rw [← List.map_take] at hx hy
  rw [← Hpre.out] at hy
  have k1 : (q : Int) ≤ (c3 : Int) := by have := hn3.2.1; omega
  have k2 : (q : Int) ≤ (c5 : Int) := by have := hn5.2.1; omega
  have hB5 := c_call hB3 hE
  clear hn3 hn5 hb5
  generalize hmx : m + 16 = mx at *
  generalize hqx : q + 16 = qx at *
  have g1 : ((mx : Int) == (m : Int) + 16) = true := by simp; omega
  have g2 : ((qx : Int) == (q : Int) + 16) = true := by simp; omega
  have g3 : (q : Int) ≤ (mx : Int) := by omega
  have g5 : IntKind.i64.wrap ((m : Int) + 16) = (m : Int) + 16 := by rw [IntKind.wrap_i64]; omega
  have g6 : IntKind.i64.wrap ((q : Int) + 16) = (q : Int) + 16 := by rw [IntKind.wrap_i64]; omega
  have Hmx := Lib.hid hmx
  have Hqx := Lib.hid hqx
  clear hmx hqx
  generalize (sealU k b ts).take q = Z at *
  have hsm := fun wx (h1 : Rd wx wx.heap.size A3 q (Z.map bv)) (h2 : Rd wx wx.heap.size A5 q (Z.map bv)) => Same_any A3 A5 q c3 q c5 Z Z wx wx.heap.size wx.heap.size h1 h2
  rw [sameB_refl] at hsm
  have Hsm := Lib.hid hsm
  clear hsm hK3
  go_wp2_with fail
  have hkeep1 : ∀ wx : World, Below w5.heap.size w5 wx → True := fun _ _ => trivial
  refine beginT (fun _ => True) 26 (by kernel_rfl) ?_
  have hS := hkeep1 _ (c_drew (c_refl _))
  refine takeD 0 (some 69) (.bool true) rfl rfl (by kernel_rfl) (by kernel_rfl) (by kernel_rfl) (by kernel_rfl) (fun _ _ _ h => h) (Or.inl ⟨by kernel_rfl, fun wx hSw => by go_simp⟩) hS ?_
  simp only [Act.put, List.setIfInBounds_toArray, List.set_cons_zero, List.set_cons_succ]
  refine takeD 1 (some 70) (.bool true) rfl rfl (by kernel_rfl) (by kernel_rfl) (by kernel_rfl) (by kernel_rfl) (fun _ _ _ h => h) (Or.inl ⟨by kernel_rfl, fun wx hSw => by go_simp⟩) hS ?_
  simp only [Act.put, List.setIfInBounds_toArray, List.set_cons_zero, List.set_cons_succ]
  refine takeD 2 (some 71) (.slice A3 mx c3) rfl rfl (by kernel_rfl) (by kernel_rfl) (by kernel_rfl) (by kernel_rfl) (fun _ _ _ h => h) (Or.inl ⟨by kernel_rfl, fun wx hSw => by go_simp⟩) hS ?_
  simp only [Act.put, List.setIfInBounds_toArray, List.set_cons_zero, List.set_cons_succ]
  refine takeD 3 (some 72) (.int .i64 (mx : Int)) rfl rfl (by kernel_rfl) (by kernel_rfl) (by kernel_rfl) (by kernel_rfl) (fun _ _ _ h => h) (Or.inl ⟨by kernel_rfl, fun wx hSw => by go_simp⟩) hS ?_
  simp only [Act.put, List.setIfInBounds_toArray, List.set_cons_zero, List.set_cons_succ]
  refine takeD 4 (some 73) (.slice A m c) rfl rfl (by kernel_rfl) (by kernel_rfl) (by kernel_rfl) (by kernel_rfl) (fun _ _ _ h => h) (Or.inl ⟨by kernel_rfl, fun wx hSw => by go_simp⟩) hS ?_
  simp only [Act.put, List.setIfInBounds_toArray, List.set_cons_zero, List.set_cons_succ]
  refine takeD 5 (some 74) (.int .i64 (m : Int)) rfl rfl (by kernel_rfl) (by kernel_rfl) (by kernel_rfl) (by kernel_rfl) (fun _ _ _ h => h) (Or.inl ⟨by kernel_rfl, fun wx hSw => by go_simp⟩) hS ?_
  simp only [Act.put, List.setIfInBounds_toArray, List.set_cons_zero, List.set_cons_succ]
  refine takeD 6 (some 75) (.int .i64 ((m : Int) + 16)) rfl rfl (by kernel_rfl) (by kernel_rfl) (by kernel_rfl) (by kernel_rfl) (fun _ _ _ h => h) (Or.inl ⟨by kernel_rfl, fun wx hSw => by go_simp⟩) hS ?_
  simp only [Act.put, List.setIfInBounds_toArray, List.set_cons_zero, List.set_cons_succ]
  refine takeD 7 (some 76) (.bool true) rfl rfl (by kernel_rfl) (by kernel_rfl) (by kernel_rfl) (by kernel_rfl) (fun _ _ _ h => h) (Or.inl ⟨by kernel_rfl, fun wx hSw => by go_simp⟩) hS ?_
  simp only [Act.put, List.setIfInBounds_toArray, List.set_cons_zero, List.set_cons_succ]
  refine takeD 8 (some 77) (.bool true) rfl rfl (by kernel_rfl) (by kernel_rfl) (by kernel_rfl) (by kernel_rfl) (fun _ _ _ h => h) (Or.inl ⟨by kernel_rfl, fun wx hSw => by go_simp⟩) hS ?_
  simp only [Act.put, List.setIfInBounds_toArray, List.set_cons_zero, List.set_cons_succ]
  refine takeD 9 (some 78) (.bool true) rfl rfl (by kernel_rfl) (by kernel_rfl) (by kernel_rfl) (by kernel_rfl) (fun _ _ _ h => h) (Or.inl ⟨by kernel_rfl, fun wx hSw => by go_simp⟩) hS ?_
  simp only [Act.put, List.setIfInBounds_toArray, List.set_cons_zero, List.set_cons_succ]
  refine takeD 10 (some 79) (.slice A5 qx c5) rfl rfl (by kernel_rfl) (by kernel_rfl) (by kernel_rfl) (by kernel_rfl) (fun _ _ _ h => h) (Or.inl ⟨by kernel_rfl, fun wx hSw => by go_simp⟩) hS ?_
  simp only [Act.put, List.setIfInBounds_toArray, List.set_cons_zero, List.set_cons_succ]
  refine takeD 11 (some 80) (.int .i64 (qx : Int)) rfl rfl (by kernel_rfl) (by kernel_rfl) (by kernel_rfl) (by kernel_rfl) (fun _ _ _ h => h) (Or.inl ⟨by kernel_rfl, fun wx hSw => by go_simp⟩) hS ?_
  simp only [Act.put, List.setIfInBounds_toArray, List.set_cons_zero, List.set_cons_succ]
  refine takeD 12 (some 81) (.int .i64 (q : Int)) rfl rfl (by kernel_rfl) (by kernel_rfl) (by kernel_rfl) (by kernel_rfl) (fun _ _ _ h => h) (Or.inl ⟨by kernel_rfl, fun wx hSw => by go_simp⟩) hS ?_
  simp only [Act.put, List.setIfInBounds_toArray, List.set_cons_zero, List.set_cons_succ]
  refine takeD 13 (some 82) (.int .i64 ((q : Int) + 16)) rfl rfl (by kernel_rfl) (by kernel_rfl) (by kernel_rfl) (by kernel_rfl) (fun _ _ _ h => h) (Or.inl ⟨by kernel_rfl, fun wx hSw => by go_simp⟩) hS ?_
  simp only [Act.put, List.setIfInBounds_toArray, List.set_cons_zero, List.set_cons_succ]
  refine takeD 14 (some 83) (.bool true) rfl rfl (by kernel_rfl) (by kernel_rfl) (by kernel_rfl) (by kernel_rfl) (fun _ _ _ h => h) (Or.inl ⟨by kernel_rfl, fun wx hSw => by go_simp⟩) hS ?_
  simp only [Act.put, List.setIfInBounds_toArray, List.set_cons_zero, List.set_cons_succ]
  refine takeD 15 (some 84) (.bool true) rfl rfl (by kernel_rfl) (by kernel_rfl) (by kernel_rfl) (by kernel_rfl) (fun _ _ _ h => h) (Or.inl ⟨by kernel_rfl, fun wx hSw => by go_simp⟩) hS ?_
  simp only [Act.put, List.setIfInBounds_toArray, List.set_cons_zero, List.set_cons_succ]
  refine takeD 16 (some 85) (.bool true) rfl rfl (by kernel_rfl) (by kernel_rfl) (by kernel_rfl) (by kernel_rfl) (fun _ _ _ h => h) (Or.inl ⟨by kernel_rfl, fun wx hSw => by go_simp⟩) hS ?_
  simp only [Act.put, List.setIfInBounds_toArray, List.set_cons_zero, List.set_cons_succ]
  refine takeD 17 (some 86) (.slice A3 mx c3) rfl rfl (by kernel_rfl) (by kernel_rfl) (by kernel_rfl) (by kernel_rfl) (fun _ _ _ h => h) (Or.inl ⟨by kernel_rfl, fun wx hSw => by go_simp⟩) hS ?_
  simp only [Act.put, List.setIfInBounds_toArray, List.set_cons_zero, List.set_cons_succ]
  refine takeD 18 (some 87) (.int .i64 (q : Int)) rfl rfl (by kernel_rfl) (by kernel_rfl) (by kernel_rfl) (by kernel_rfl) (fun _ _ _ h => h) (Or.inl ⟨by kernel_rfl, fun wx hSw => by go_simp⟩) hS ?_
  simp only [Act.put, List.setIfInBounds_toArray, List.set_cons_zero, List.set_cons_succ]
  refine takeD 19 (some 88) (.slice A3 q c3) rfl rfl (by kernel_rfl) (by kernel_rfl) (by kernel_rfl) (by kernel_rfl) (fun _ _ _ h => h) (Or.inl ⟨by kernel_rfl, fun wx hSw => by go_simp⟩) hS ?_
  simp only [Act.put, List.setIfInBounds_toArray, List.set_cons_zero, List.set_cons_succ]
  refine takeD 20 (some 89) (.slice A5 qx c5) rfl rfl (by kernel_rfl) (by kernel_rfl) (by kernel_rfl) (by kernel_rfl) (fun _ _ _ h => h) (Or.inl ⟨by kernel_rfl, fun wx hSw => by go_simp⟩) hS ?_
  simp only [Act.put, List.setIfInBounds_toArray, List.set_cons_zero, List.set_cons_succ]
  refine takeD 21 (some 90) (.int .i64 (q : Int)) rfl rfl (by kernel_rfl) (by kernel_rfl) (by kernel_rfl) (by kernel_rfl) (fun _ _ _ h => h) (Or.inl ⟨by kernel_rfl, fun wx hSw => by go_simp⟩) hS ?_
  simp only [Act.put, List.setIfInBounds_toArray, List.set_cons_zero, List.set_cons_succ]
  refine takeD 22 (some 91) (.slice A5 q c5) rfl rfl (by kernel_rfl) (by kernel_rfl) (by kernel_rfl) (by kernel_rfl) (fun _ _ _ h => h) (Or.inl ⟨by kernel_rfl, fun wx hSw => by go_simp⟩) hS ?_
  simp only [Act.put, List.setIfInBounds_toArray, List.set_cons_zero, List.set_cons_succ]
  refine oneT 23 (by kernel_rfl) rfl (fun K hK => ?_)
  go_simp
  refine (Hsm.out _ hx.drew hy.drew).mono ?_
  rintro e wz ⟨rfl, rfl⟩
  refine hK.out _ _ (fun _ => hkeep1 _ (by (repeat (first | exact c_refl _ | refine c_drew ?_ | refine c_alloc ?_ _ | refine c_row ?_ (by first | omega | exact Nat.le_refl _) _ | refine c_call ?_ (by assumption))); first | done | fail "open")) ?_
  clear hK K
  refine takeD 24 (some 93) (.bool true) rfl rfl (by kernel_rfl) (by kernel_rfl) (by kernel_rfl) (by kernel_rfl) (fun _ _ _ h => h) (Or.inl ⟨by kernel_rfl, fun wx hSw => by go_simp⟩) hS ?_
  simp only [Act.put, List.setIfInBounds_toArray, List.set_cons_zero, List.set_cons_succ]
  refine oneT 25 (by kernel_rfl) rfl (fun K hK => ?_)
  go_simp
  refine hK.out _ _ (fun _ => trivial) ?_
  clear hK K
  refine doneT (by kernel_rfl) ?_ _
  go_wp2_with fail
  go_ret
  exact ⟨rfl, c_drew hB5⟩

end Go.Proofs.YtajbaaamhddgiaaDoor

