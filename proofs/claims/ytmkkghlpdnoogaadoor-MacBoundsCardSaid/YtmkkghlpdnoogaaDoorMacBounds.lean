/-
  THE WALK of MacBounds (coterielaw03).
-/
import Derived.Test.YtmkkghlpdnoogaaDoorMacD
import Derived.Test.YtmkkghlpdnoogaaDoorMacLive
set_option linter.unusedVariables false
namespace Go.Proofs.YtmkkghlpdnoogaaDoor
open Go.RowKit

theorem fit_one (t : List UInt8) (h : t.length ≤ 65535) : fitD [] [t] := by
  have h1 : GoodT [nameU, [], t] := by
    intro i x hx
    rcases i with _ | _ | _ | i
    · simp at hx; subst hx; simp [name_len]
    · simp at hx; subst hx; simp
    · simp at hx; subst hx; exact h
    · simp at hx
  refine ⟨h1, ?_⟩
  have := txs_short _ h1
  simp only [List.length_cons, List.length_nil] at this
  unfold infoU
  omega
theorem fit_not (t : List UInt8) (h : ¬ t.length ≤ 65535) : ¬ fitD [] [t] := fun hf => h (hf.1 2 t rfl)

set_option maxRecDepth 1000000 in
set_option maxHeartbeats 2000000 in
theorem walk_MacBounds (k : List UInt8) (n : Int) (A : Option Addr) (m c : Nat) (t : List UInt8) (w : World) (hk : k.length = 32) (hn1 : -9223372036854775808 ≤ n) (hn2 : n ≤ 9223372036854775807) (hmc : m ≤ c) (hcm : c ≤ maxLen) (hr : Rd w w.heap.size A m (t.map bv)) (hT : CTab w) :
    Calls Tryd.prog 8 #[.agg (k.map bv).toArray, .int .i64 n, .slice A m c] w fun e w' => e = .returned (.bool true) ∧ Below w.heap.size w w' := by
  have Hk := Lib.hid hk
  have Ht := Lib.hid (show t.length = m by simpa using hr.len)
  clear hk
  go_enter Tryd.func8, Tryd.ntmps8
  go_wp2_with fail
  refine (live03 _ (hT.below (d_al _ _))).mono ?_
  rintro e w2 ⟨rfl, hb2⟩
  have hK2 : ArrB w2 w.heap.size 36 k := (ArrB.mk_ w _ _ k rfl rfl).below hb2 (by simp)
  have hB2 : Below w.heap.size w w2 := c_call (d_al _ _) hb2
  clear hb2
  by_cases hm : m ≤ 70000
  rotate_left
  · go_wp2_with fail
    go_ret
    exact ⟨rfl, hB2⟩
  have hc3 : n < 0 ∨ 8160 < n ∨ (¬ n < 0 ∧ ¬ 8160 < n) := by omega
  have hE := fun (wx : World) (hn : n < 0 ∨ 8160 < n) => Expand_bad k none 0 0 n wx hn
  rcases hc3 with hn | hn | ⟨hn, hn'⟩
  case' inl =>
    go_wp2_with ((with_reducible show wpList _ _ _ (⟨some 26, _, _, _, _, _⟩ :: _) _ _); refine wpList_load_row rfl 36 (.tmp 3) rfl w.heap.size rfl 36 (k.map bv).toArray (0, 0) _ hK2 Tryd.underlying36 rfl (infoK32 Hk.out) ?_)
    refine (hE _ (.inl hn)).mono ?_
    rintro e w3 ⟨rfl, hb3⟩
    have hK3 := hK2.below hb3 hK2.lt
    have hB3 : Below w.heap.size w w3 := c_call hB2 hb3
  case' inr.inl =>
    have hn0 : ¬ n < 0 := by omega
    go_wp2_with ((with_reducible show wpList _ _ _ (⟨some 26, _, _, _, _, _⟩ :: _) _ _); refine wpList_load_row rfl 36 (.tmp 3) rfl w.heap.size rfl 36 (k.map bv).toArray (0, 0) _ hK2 Tryd.underlying36 rfl (infoK32 Hk.out) ?_)
    refine (hE _ (.inr hn)).mono ?_
    rintro e w3 ⟨rfl, hb3⟩
    have hK3 := hK2.below hb3 hK2.lt
    have hB3 : Below w.heap.size w w3 := c_call hB2 hb3
  case' inr.inr =>
    have hK3 := hK2
    have hB3 := hB2
    have hb3 := c_refl w2
    generalize hw23 : w2 = w3 at hK3 hB3
    rw [hw23] at *
  all_goals
    clear hK2 hB2 hE hb3
    go_wp2_with ((with_reducible show wpList _ _ _ (⟨some 39, _, _, _, _, _⟩ :: _) _ _); refine wpList_load_row rfl 36 (.tmp 3) rfl w.heap.size rfl 36 (k.map bv).toArray (0, 0) _ hK3 Tryd.underlying36 rfl (infoK32 Hk.out) ?_)
    have hB4 := c_alloc hB3 (.cells #[.slice A m c] 25)
    refine (Derive_any k ⟨#[]⟩ _ 1 1 [.slice A m c] [t] _ Hk.out (by show (0 : Nat) ≤ 70000; omega) (by omega) (by omega) (Rd.mk_ _ _ _ rfl (by simp) rfl rfl) (txs_one1 Ht.out hmc (d_rd hr hB4)) (hT.below hB4)).mono ?_
    rintro e w5 ⟨hb5, h5⟩
    have hB5 : Below w.heap.size w w5 := c_call hB4 hb5
    by_cases hl : m ≤ 65535
    · rcases h5 with ⟨_, rfl⟩ | ⟨hf, _⟩
      rotate_left
      · exact absurd (fit_one t (by rw [Ht.out]; exact hl)) hf
      have Hl := Lib.hid (deriveU_len k (strB ⟨#[]⟩) [t])
      generalize deriveU k (strB ⟨#[]⟩) [t] = r at *
      have hB6 := c_alloc hB5 (.cells (r.map bv).toArray 36)
      go_wp2_with ((with_reducible show wpList _ _ _ (⟨none, Op.store 36 _ _, _, _, _, _⟩ :: _) _ _); refine wpList_store_row rfl 36 (.tmp 10) (.tmp 43) rfl w5.heap.size (r.map bv).toArray rfl rfl 36 ((List.replicate 32 (0 : UInt8)).map bv).toArray (heap_alloc_new _ _) (infoK32 Hl.out) (sizeK Hl.out) (one_bvA _) ?_; rw [World.setRow_alloc_new])
      go_ret
      exact ⟨rfl, hB6⟩
    · rcases h5 with ⟨hf, _⟩ | ⟨_, rfl⟩
      · exact absurd hf (fit_not t (by rw [Ht.out]; exact hl))
      have hB6 := c_alloc hB5 (.cells (zeroKey.map bv).toArray 36)
      have hA6 : ArrB (w5.alloc (.cells (zeroKey.map bv).toArray 36)) w5.heap.size 36 zeroKey := ArrB.mk_ _ _ _ _ rfl rfl
      have hq : ∀ wx : World, (Op.equalIn 10000 36 (.agg (zeroKey.map bv).toArray) (.agg #[.int .u8 0, .int .u8 0, .int .u8 0, .int .u8 0, .int .u8 0, .int .u8 0, .int .u8 0, .int .u8 0, .int .u8 0, .int .u8 0, .int .u8 0, .int .u8 0, .int .u8 0, .int .u8 0, .int .u8 0, .int .u8 0, .int .u8 0, .int .u8 0, .int .u8 0, .int .u8 0, .int .u8 0, .int .u8 0, .int .u8 0, .int .u8 0, .int .u8 0, .int .u8 0, .int .u8 0, .int .u8 0, .int .u8 0, .int .u8 0, .int .u8 0, .int .u8 0])).run Tryd.prog wx = .ok true wx := fun wx => key_same wx zeroKey rfl
      go_wp2_with (first
        | ((with_reducible show wpList _ _ _ (⟨none, Op.store 36 _ _, _, _, _, _⟩ :: _) _ _); refine wpList_store_row rfl 36 (.tmp 10) (.tmp 43) rfl w5.heap.size (zeroKey.map bv).toArray rfl rfl 36 ((List.replicate 32 (0 : UInt8)).map bv).toArray (heap_alloc_new _ _) key_zero rfl one_key ?_; rw [World.setRow_alloc_new])
        | ((with_reducible show wpList _ _ _ (⟨some 54, _, _, _, _, _⟩ :: _) _ _); refine wpList_load_rowG (by rfl) 36 (.tmp 10) rfl w5.heap.size rfl 36 (zeroKey.map bv).toArray (0, 0) _ hA6 Tryd.underlying36 rfl key_zero ?_))
      go_ret
      exact ⟨rfl, hB6⟩

end Go.Proofs.YtmkkghlpdnoogaaDoor
