/-
  THE WALK of MacExpands (coterielaw03).
-/
import Derived.Test.YtmkkghlpdnoogaaDoorRefDer
import Derived.Test.YtmkkghlpdnoogaaDoorMacDerives
set_option linter.unusedVariables false
namespace Go.Proofs.YtmkkghlpdnoogaaDoor
open Go.RowKit

/-- what is expanded of a key, and the error, for any number -/
def expL (k info : List UInt8) (n : Int) : List UInt8 := if n < 0 ∨ 8160 < n then [] else expandU k info n.toNat
def expE (n : Int) : Int := if n < 0 ∨ 8160 < n then 1 else 0
def ExpPost (w : World) (k info : List UInt8) (n : Int) (e : Ending) (w' : World) : Prop :=
  ∃ A m c, e = .returned (.tuple #[.slice A m c, .int .i64 (expE n)]) ∧ Rd w' w'.heap.size A m ((expL k info n).map bv) ∧ Below w.heap.size w w'

theorem Expand_any (k : List UInt8) (Ai : Option Addr) (ni ci : Nat) (info : List UInt8) (n : Int) (w : World) (hk : k.length = 32) (hnc : ni ≤ ci) (hni : ni ≤ 1048576) (hr : Rd w w.heap.size Ai ni (info.map bv)) (hT : CTab w) :
    Calls Tryd.prog 31 #[.agg (k.map bv).toArray, .slice Ai ni ci, .int .i64 n] w (ExpPost w k info n) := by
  by_cases h : n < 0 ∨ 8160 < n
  · refine (Expand_bad k Ai ni ci n w h).mono ?_
    rintro e w' ⟨rfl, hb⟩
    refine ⟨none, 0, 0, by rw [expE, if_pos h], ?_, hb⟩
    rw [expL, if_pos h]
    exact Rd.zero _ _ _
  · obtain ⟨m, rfl⟩ := Int.eq_ofNat_of_zero_le (show 0 ≤ n by omega)
    refine (Expand_ok k Ai ni ci info m w hk (by omega) hnc hni hr hT).mono ?_
    rintro e w' ⟨A, c, rfl, _, hr', hb⟩
    refine ⟨A, m, c, by rw [expE, if_neg h], ?_, hb⟩
    rw [expL, if_neg h]
    exact hr'
theorem rExpand_any (k : List UInt8) (Ai : Option Addr) (ni ci : Nat) (info : List UInt8) (n : Int) (w : World) (hk : k.length = 32) (hnc : ni ≤ ci) (hni : ni ≤ 1048576) (hr : Rd w w.heap.size Ai ni (info.map bv)) (hT : KTab w) :
    Calls Tryd.prog 32 #[.agg (k.map bv).toArray, .slice Ai ni ci, .int .i64 n] w (ExpPost w k info n) := by
  by_cases h : n < 0 ∨ 8160 < n
  · refine (rExpand_bad k Ai ni ci n w h).mono ?_
    rintro e w' ⟨rfl, hb⟩
    refine ⟨none, 0, 0, by rw [expE, if_pos h], ?_, hb⟩
    rw [expL, if_pos h]
    exact Rd.zero _ _ _
  · obtain ⟨m, rfl⟩ := Int.eq_ofNat_of_zero_le (show 0 ≤ n by omega)
    refine (rExpand_ok k Ai ni ci info m w hk (by omega) hnc hni hr hT).mono ?_
    rintro e w' ⟨A, c, rfl, _, hr', hb⟩
    refine ⟨A, m, c, by rw [expE, if_neg h], ?_, hb⟩
    rw [expL, if_neg h]
    exact hr'

set_option maxRecDepth 1000000 in
set_option maxHeartbeats 4000000 in
theorem walk_MacExpands (k : List UInt8) (A : Option Addr) (ni ci : Nat) (info : List UInt8) (n : Int) (s : ByteArray) (At : Option Addr) (m ct : Nat) (vs : List Value) (ts : List (List UInt8)) (w : World) (hk : k.length = 32)
    (hnc : ni ≤ ci) (hcm : ci ≤ maxLen) (hr : Rd w w.heap.size A ni (info.map bv)) (hn1 : -9223372036854775808 ≤ n) (hn2 : n ≤ 9223372036854775807) (hsm : s.size ≤ maxLen) (hmc : m ≤ ct) (hct : ct ≤ maxLen) (hm24 : m * 24 ≤ 140737488355328)
    (hv : Rd w w.heap.size At m vs) (ht : Txs w w.heap.size vs ts) (hK : KTab w) (hT : CTab w) :
    Calls Tryd.prog 5 #[.agg (k.map bv).toArray, .slice A ni ci, .int .i64 n, .string s, .slice At m ct] w fun e w' => e = .returned (.bool true) ∧ Below w.heap.size w w' := by
  have Hk := Lib.hid hk
  clear hk
  go_enter Tryd.func5, Tryd.ntmps5
  go_wp2_with fail
  refine (live03 _ (hT.below (d_al _ _))).mono ?_
  rintro e w2 ⟨rfl, hb2⟩
  have hK2 : ArrB w2 w.heap.size 36 k := (ArrB.mk_ w _ _ k rfl rfl).below hb2 (by simp)
  have hB2 : Below w.heap.size w w2 := c_call (d_al _ _) hb2
  clear hb2
  by_cases hni : ni ≤ 2000
  rotate_left
  · go_wp2_with fail
    go_ret
    exact ⟨rfl, hB2⟩
  by_cases hs : s.size ≤ 70000
  rotate_left
  · go_wp2_with (go_at_call 12; refine (Few_any At m ct vs ts _ _ (by omega) (d_rd hv hB2) (d_txs ht hB2)).mono ?_; rintro e wf ⟨bf, rfl, hbf, rfl⟩; clear hbf; cases bf)
    all_goals
      go_ret
      exact ⟨rfl, hB2⟩
  have hn3 : n ≤ 2000 ∨ (¬ n ≤ 2000 ∧ n ≤ 8160) ∨ (¬ n ≤ 2000 ∧ ¬ n ≤ 8160) := by omega
  rcases hn3 with hn | ⟨hn, hn'⟩ | ⟨hn, hn'⟩
  case inr.inl =>
    go_wp2_with (go_at_call 12; refine (Few_any At m ct vs ts _ _ (by omega) (d_rd hv hB2) (d_txs ht hB2)).mono ?_; rintro e wf ⟨bf, rfl, hbf, rfl⟩; clear hbf; cases bf)
    all_goals
      go_ret
      exact ⟨rfl, hB2⟩
  all_goals
    go_wp2_with (first
      | (go_at_call 12; refine (Few_any At m ct vs ts _ _ (by omega) (d_rd hv hB2) (d_txs ht hB2)).mono ?_; rintro e wf ⟨bf, rfl, hbf0, rfl⟩; have hbf := Lib.hid hbf0; clear hbf0; cases bf)
      | ((with_reducible show wpList _ _ _ (⟨some 46, _, _, _, _, _⟩ :: _) _ _); refine wpList_load_row rfl 36 (.tmp 5) rfl w.heap.size rfl 36 (k.map bv).toArray (0, 0) _ hK2 Tryd.underlying36 rfl (infoK32 Hk.out) ?_))
    · go_ret
      exact ⟨rfl, hB2⟩
    have hm := hbf.out (by first | rfl | trivial)
    clear hbf
    refine (Expand_any k A ni ci info n _ Hk.out hnc (by omega) (d_rd hr hB2) (hT.below hB2)).mono ?_
    rintro e w3 ⟨A3, m3, c3, rfl, hr3, hb3⟩
    have hK3 := hK2.below hb3 hK2.lt
    have hB3 : Below w.heap.size w w3 := c_call hB2 hb3
    clear hK2 hB2 hb3
    go_wp2_with ((with_reducible show wpList _ _ _ (⟨some 53, _, _, _, _, _⟩ :: _) _ _); refine wpList_load_row rfl 36 (.tmp 5) rfl w.heap.size rfl 36 (k.map bv).toArray (0, 0) _ hK3 Tryd.underlying36 rfl (infoK32 Hk.out) ?_)
    refine (rExpand_any k A ni ci info n _ Hk.out hnc (by omega) (d_rd hr hB3) (hK.below hB3)).mono ?_
    rintro e w4 ⟨A4, m4, c4, rfl, hr4, hb4⟩
    have hK4 := hK3.below hb4 hK3.lt
    have hB4 : Below w.heap.size w w4 := c_call hB3 hb4
    have hr34 := d_rd hr3 hb4
    clear hK3 hB3 hb4 hr3
    generalize expL k info n = X at *
    generalize expE n = er at *
    go_wp2_with ((with_reducible show wpList _ _ _ (⟨some 60, _, _, _, _, _⟩ :: _) _ _); refine wpList_load_row rfl 36 (.tmp 5) rfl w.heap.size rfl 36 (k.map bv).toArray (0, 0) _ hK4 Tryd.underlying36 rfl (infoK32 Hk.out) ?_)
    refine (Derive_any k s At m ct vs ts _ Hk.out hs (by omega) hmc (d_rd hv hB4) (d_txs ht hB4) (hT.below hB4)).mono ?_
    rintro e w5 h5
    obtain ⟨r, ed, rfl, hrl, hfit, hnot, hb5⟩ := h5.get
    have Hrl := Lib.hid hrl
    have Hfit := Lib.hid hfit
    have Hnot := Lib.hid hnot
    have hK5 := hK4.below hb5 hK4.lt
    have hB5 : Below w.heap.size w w5 := c_call hB4 hb5
    have hr35 := d_rd hr34 hb5
    have hr45 := d_rd hr4 hb5
    clear hK4 hB4 hb5 h5 hrl hfit hnot hr34 hr4
    have hA6 : ArrB (w5.alloc (.cells (r.map bv).toArray 36)) w5.heap.size 36 r := ArrB.mk_ _ _ _ _ rfl rfl
    have hK6 := hK5.alloc (.cells (r.map bv).toArray 36)
    have hB6 := c_alloc hB5 (.cells (r.map bv).toArray 36)
    have hr36 := d_rd hr35 (d_al w5 (.cells (r.map bv).toArray 36))
    have hr46 := d_rd hr45 (d_al w5 (.cells (r.map bv).toArray 36))
    go_wp2_with (first
      | ((with_reducible show wpList _ _ _ (⟨none, Op.store 36 _ _, _, _, _, _⟩ :: _) _ _); refine wpList_store_row rfl 36 (.tmp 16) (.tmp 64) rfl w5.heap.size (r.map bv).toArray rfl rfl 36 ((List.replicate 32 (0 : UInt8)).map bv).toArray (heap_alloc_new _ _) (infoK32 Hrl.out) (sizeK Hrl.out) (one_bvA _) ?_; rw [World.setRow_alloc_new]; clear hK5 hB5 hr35 hr45; generalize w5.alloc (.cells (r.map bv).toArray 36) = w6 at *; generalize w5.heap.size = gA at *)
      | ((with_reducible show wpList _ _ _ (⟨some 67, _, _, _, _, _⟩ :: _) _ _); refine wpList_load_row rfl 36 (.tmp 5) rfl w.heap.size rfl 36 (k.map bv).toArray (0, 0) _ hK6 Tryd.underlying36 rfl (infoK32 Hk.out) ?_))
    refine (rDerive_any k s At m ct vs ts _ Hk.out hs (by omega) hmc (d_rd hv hB6) (d_txs ht hB6) (hK.below hB6)).mono ?_
    rintro e w7 h7
    obtain ⟨r', ed', rfl, hrl', hfit', hnot', hb7⟩ := h7.get
    obtain ⟨rfl, rfl⟩ : ed' = ed ∧ r' = r := by
      by_cases hf : fitD (strB s) ts
      · obtain ⟨h1, h2⟩ := Hfit.out hf
        obtain ⟨h3, h4⟩ := hfit' hf
        exact ⟨h3.trans h1.symm, h4.trans h2.symm⟩
      · obtain ⟨h1, h2⟩ := Hnot.out hf
        obtain ⟨h3, h4⟩ := hnot' hf
        exact ⟨h3.trans h1.symm, h4.trans h2.symm⟩
    have hA7 := hA6.below hb7 hA6.lt
    have hB7 : Below w.heap.size w w7 := c_call hB6 hb7
    have hr37 := d_rd hr36 hb7
    have hr47 := d_rd hr46 hb7
    clear hK6 hB6 hb7 h7 hrl' hfit' hnot' hr36 hr46 Hfit Hnot hA6
    have hA8 : ArrB (w7.alloc (.cells (r'.map bv).toArray 36)) w7.heap.size 36 r' := ArrB.mk_ _ _ _ _ rfl rfl
    have hC8 := hA7.alloc (.cells (r'.map bv).toArray 36)
    have hB8 := c_alloc hB7 (.cells (r'.map bv).toArray 36)
    have hr38 := d_rd hr37 (d_al w7 (.cells (r'.map bv).toArray 36))
    have hr48 := d_rd hr47 (d_al w7 (.cells (r'.map bv).toArray 36))
    have hq := fun wx : World => key_same wx r' Hrl.out
    have Hsame := Lib.hid (sameB_refl X)
    go_wp2_with (first
      | ((with_reducible show wpList _ _ _ (⟨none, Op.store 36 _ _, _, _, _, _⟩ :: _) _ _); refine wpList_store_row rfl 36 (.tmp 18) (.tmp 71) rfl w7.heap.size (r'.map bv).toArray rfl rfl 36 ((List.replicate 32 (0 : UInt8)).map bv).toArray (heap_alloc_new _ _) (infoK32 Hrl.out) (sizeK Hrl.out) (one_bvA _) ?_; rw [World.setRow_alloc_new]; clear hB7 hr37 hr47 hA7; generalize w7.alloc (.cells (r'.map bv).toArray 36) = w8 at *; generalize w7.heap.size = gB at *)
      | (go_at_call 24; refine (Same_any A3 A4 m3 c3 m4 c4 X X w8 _ _ hr38 hr48).mono ?_; rintro e w9 ⟨rfl, rfl⟩; rw [Hsame.out])
      | ((with_reducible show wpList _ _ _ (⟨some 85, _, _, _, _, _⟩ :: _) _ _); refine wpList_load_rowG (by rfl) 36 (.tmp 16) rfl gA rfl 36 (r'.map bv).toArray (0, 0) _ hC8 Tryd.underlying36 rfl (infoK32 Hrl.out) ?_)
      | ((with_reducible show wpList _ _ _ (⟨some 86, _, _, _, _, _⟩ :: _) _ _); refine wpList_load_rowG (by rfl) 36 (.tmp 18) rfl gB rfl 36 (r'.map bv).toArray (0, 0) _ hA8 Tryd.underlying36 rfl (infoK32 Hrl.out) ?_))
    go_ret
    exact ⟨rfl, hB8⟩

end Go.Proofs.YtmkkghlpdnoogaaDoor
