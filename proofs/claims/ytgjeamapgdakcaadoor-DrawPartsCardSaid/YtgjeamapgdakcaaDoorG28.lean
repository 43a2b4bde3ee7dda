import Derived.Test.YtgjeamapgdakcaaDoorG27
/-
  CONTRACTS of mac.Expand.
-/
set_option linter.unusedVariables false
namespace Go.Proofs.YtgjeamapgdakcaaDoor
open Go.RowKit

/-- the closure's blocks stay where only a row turns that is none of them -/
theorem Turn.row {w w' : World} {base bt bk bl bi : Nat} {k info : List UInt8} {Ai : Option Addr} {ni ci i : Nat} {row : Option Nat} (h : Turn w base bt bk bl bi k info Ai ni ci i) (hg : w.grownBy w' row)
    (hf : ∀ g, row = some g → g ≠ bt ∧ g ≠ bk ∧ g ≠ bl ∧ g ≠ bi ∧ ∀ ad n c, w.heap[bl]? = some (.cells #[.slice (some ad) n c] 45 (0, 0)) → ad.block ≠ g) : Turn w' base bt bk bl bi k info Ai ni ci i := by
  obtain ⟨Al, nl, cl, h1, h2, h3, h4⟩ := h.last
  have hb : ∀ q, q < w.heap.size → (∀ g, row = some g → g ≠ q) → w'.heap[q]? = w.heap[q]? := fun q hq hn => hg.block q hq (fun e => hn q e.symm rfl)
  refine ⟨(hb _ (block_lt h.turn) (fun g e => (hf g e).1)).trans h.turn, h.key.of (hb _ h.key.lt (fun g e => (hf g e).2.1)), ⟨Al, nl, cl, (hb _ (block_lt h1) (fun g e => (hf g e).2.2.1)).trans h1, h2, ?_, fun ad e => ?_⟩, (hb _ (block_lt h.info) (fun g e => (hf g e).2.2.2.1)).trans h.info, h.ne, h.low⟩
  · refine (h3.keepAt fun ad e p hp => World.cell?_of_block (hb _ (by rw [hp]; exact (h4 ad e).2.2) (fun g eg => ?_))).more hg.size
    rw [hp]
    subst e
    exact fun e => (hf g eg).2.2.2.2 ad nl cl h1 e.symm
  · obtain ⟨a, b, c⟩ := h4 ad e
    exact ⟨a, b, Nat.lt_of_lt_of_le c hg.size⟩

theorem Expand_bad (k : List UInt8) (Ai : Option Addr) (ni ci : Nat) (n : Int) (w : World) (hn : n < 0 ∨ 8160 < n) :
    Calls Tryd.prog 52 #[.agg (k.map bv).toArray, .slice Ai ni ci, .int .i64 n] w fun e w' => e = .returned (.tuple #[.slice none 0 0, .int .i64 1]) ∧ Below w.heap.size w w' := by
  rcases hn with h | h
  · go_enter Tryd.func52, Tryd.ntmps52
    go_wp2_with fail
    go_ret2
    exact ⟨rfl, d_al _ _⟩
  · have h' : ¬ n < 0 := by omega
    go_enter Tryd.func52, Tryd.ntmps52
    go_wp2_with fail
    go_ret2
    exact ⟨rfl, d_al _ _⟩

theorem Expand_long (k : List UInt8) (Ai : Option Addr) (ni ci : Nat) (n : Int) (w : World) (h0 : 0 ≤ n) (hn : n ≤ 8160) (hni : 1048576 < ni) :
    Calls Tryd.prog 52 #[.agg (k.map bv).toArray, .slice Ai ni ci, .int .i64 n] w fun e w' => e = .returned (.tuple #[.slice none 0 0, .int .i64 4]) ∧ Below w.heap.size w w' := by
  have h' : ¬ n < 0 := by omega
  go_enter Tryd.func52, Tryd.ntmps52
  go_wp2_with fail
  go_ret2
  exact ⟨rfl, d_al _ _⟩

set_option maxRecDepth 1000000 in
set_option maxHeartbeats 1000000 in
theorem Expand_ok (k : List UInt8) (Ai : Option Addr) (ni ci : Nat) (info : List UInt8) (n : Nat) (w : World) (hk : k.length = 32) (hn : n ≤ 8160) (hnc : ni ≤ ci) (hni : ni ≤ 1048576) (hr : Rd w w.heap.size Ai ni (info.map bv)) (hT : CTab w) :
    Calls Tryd.prog 52 #[.agg (k.map bv).toArray, .slice Ai ni ci, .int .i64 (n : Int)] w fun e w' =>
      ∃ A c, e = .returned (.tuple #[.slice A n c, .int .i64 0]) ∧ n ≤ c ∧ Rd w' w'.heap.size A n ((expandU k info n).map bv) ∧ Below w.heap.size w w' := by
  obtain ⟨i0, hi0, hz0, hz1, hz2⟩ := info_parts byteInfo
  have Hk := Lib.hid hk
  have hn0 : ¬ ((n : Int) < 0) := by omega
  have hTl := hT.lt
  clear hk
  go_enter Tryd.func52, Tryd.ntmps52
  go_wp2_with (first
    | ((with_reducible show wpList _ _ _ (⟨some 20, _, _, _, _, _⟩ :: _) _ _); refine wpList_load_row rfl 24 (.tmp 3) rfl w.heap.size rfl 24 (k.map bv).toArray (0, 0) _ (heap_alloc_new _ _) Tryd.underlying24 rfl (infoK32 Hk.out) ?_))
  refine (expander_any k Ai ni ci info _ Hk.out).mono ?_
  rintro e w2 ⟨bt, bk, bl, bi, rfl, hTu, hb2⟩
  have hB2 : Below w.heap.size w w2 := (d_al _ _).trans (hb2.mono (al0 _ _))
  have hgs : w.heap.size < (w.alloc (.cells (k.map bv).toArray 24)).heap.size := by simp
  generalize (w.alloc (.cells (k.map bv).toArray 24)).heap.size = base at *
  clear hb2
  go_wp2_with fail
  go_loopw [9] (fun v wr => ∃ (j : Nat) (A : Option Addr) (c : Nat), 32 * j < n + 32 ∧ v = .slice A (32 * j) c ∧ 32 * j ≤ c ∧ wr.ownsRow w.heap.size 5 1 v (32 * j) ((outU k info j).map bv) ∧ Turn wr base bt bk bl bi k info Ai ni ci j ∧ Below w.heap.size w wr ∧ (base ≤ wr.heap.size) ∧
      ∀ g, v.ownBlock = some g → g ≠ bt ∧ g ≠ bk ∧ g ≠ bl ∧ g ≠ bi ∧ ∀ ad n c, wr.heap[bl]? = some (.cells #[.slice (some ad) n c] 45 (0, 0)) → ad.block ≠ g) (fun v _ => n + 32 - lenOf v)
  case atStart =>
    have hlb : base ≤ w2.heap.size := Nat.le_trans hTu.low.1 (Nat.le_of_lt (block_lt hTu.turn))
    exact ⟨0, none, 0, by omega, rfl, Nat.le_refl _, World.ownsRow_nil _ _ _ _, hTu, hB2, hlb, fun g h => by cases h⟩
  case round =>
    obtain ⟨j, A, c, hj, rfl, hjc, hown, hTj, hB, hbs, hfree⟩ := hrel
    have hl : ((32 * j : Nat) : Int) = 32 * (j : Int) := by omega
    by_cases hlt : 32 * j < n
    · have hj255 : j < 255 := by omega
      go_wp2_with fail
      refine (turn_any base bt bk bl bi k info Ai ni ci j _ Hk.out hj255 hnc hni ((hr.below hB).more (Nat.le_of_lt hgs)) hbs hTj (hT.below hB) (Nat.lt_trans hTl hgs)).mono ?_
      rintro e w3 ⟨rfl, hT3, hb3, hs3, hq3, g8, hg8, hl8⟩
      have hB3 : Below w.heap.size w w3 := hB.trans (hb3.mono (Nat.le_of_lt hgs))
      have hown3 : w3.ownsRow w.heap.size 5 1 (.slice A (32 * j) c) (32 * j) ((outU k info j).map bv) := own_far hown hs3 (fun g hg => hq3 g (hown.lt g hg).2 (hfree g hg).1 (hfree g hg).2.2.1)
      have Hsl := Lib.hid (stepU_len k info j)
      have Ho := Lib.hid (outU_succ k info j)
      have hfree3 : ∀ g, (Value.slice A (32 * j) c).ownBlock = some g → g ≠ bt ∧ g ≠ bk ∧ g ≠ bl ∧ g ≠ bi ∧ ∀ ad n c, w3.heap[bl]? = some (.cells #[.slice (some ad) n c] 45 (0, 0)) → ad.block ≠ g := fun g hg => by
        obtain ⟨f1, f2, f3, f4, _⟩ := hfree g hg
        refine ⟨f1, f2, f3, f4, fun ad n c e => ?_⟩
        rw [hl8] at e
        have hlt := (hown.lt g hg).2
        simp at e
        obtain ⟨rfl, _⟩ := e
        show g8 ≠ g
        omega
      clear hTj hown hfree hq3 hb3 hB
      generalize stepU k info (j + 1) = r at *
      have hA4 : ArrB (w3.alloc (.cells (r.map bv).toArray 24)) w3.heap.size 24 r := ArrB.mk_ _ _ _ _ rfl rfl
      have hB4 := c_alloc hB3 (.cells (r.map bv).toArray 24)
      have hj2 : (32 * j + 32) ≤ 8192 := by omega
      go_wp2_with (first
        | ((with_reducible show wpList _ _ _ (⟨none, Op.store 24 _ _, _, _, _, _⟩ :: _) _ _); refine wpList_store_row rfl 24 (.tmp 10) (.tmp 28) rfl w3.heap.size (r.map bv).toArray rfl rfl 24 ((List.replicate 32 (0 : UInt8)).map bv).toArray (heap_alloc_new _ _) (infoK32 Hsl.out) (sizeK Hsl.out) (one_bvA _) ?_; rw [World.setRow_alloc_new])
        | (at_builtin; refine wpList_append_rd _ rfl (.tmp 29) (.tmp 30) _ rfl w.heap.size 5 i0 _ 1 Tryd.underlying45 hi0 hz0 hz1 hz2 rfl (.slice A (32 * j) c) (32 * j) _ rfl (hown3.alloc _) _ (some ⟨w3.heap.size, 0, none⟩) 32 32 (r.map bv) rfl (hA4.rd Hsl.out) (one_bv _) (by simp only [maxLen]; omega) (by omega) hB4.size ?_; intro v5 w5 hown5 hgr5 hat5))
      obtain ⟨A5, c5, rfl, hc5, _⟩ := own_form hown5
      have hT4 : Turn (w3.alloc (.cells (r.map bv).toArray 24)) base bt bk bl bi k info Ai ni ci (j + 1) := hT3.keep (al0 _ _) (fun q hq => heap_alloc_old _ _ hq)
      have hl4 : ∀ ad n c, (w3.alloc (.cells (r.map bv).toArray 24)).heap[bl]? = some (.cells #[.slice (some ad) n c] 45 (0, 0)) → ad = ⟨g8, 0, none⟩ := fun ad n c e => by
        rw [heap_alloc_old _ _ (block_lt hl8), hl8] at e
        simp at e
        exact e.1.symm
      have hg8l : g8 < w3.heap.size := by
        obtain ⟨Al, nl, cl, h1, _, _, h4⟩ := hT3.last
        rw [hl8] at h1
        simp at h1
        exact (h4 _ h1.1.symm).2.2
      have hfree4 : ∀ g, (Value.slice A (32 * j) c).ownBlock = some g → g ≠ bt ∧ g ≠ bk ∧ g ≠ bl ∧ g ≠ bi ∧ ∀ ad n c, (w3.alloc (.cells (r.map bv).toArray 24)).heap[bl]? = some (.cells #[.slice (some ad) n c] 45 (0, 0)) → ad.block ≠ g := fun g hg => by
        obtain ⟨f1, f2, f3, f4, f5⟩ := hfree3 g hg
        exact ⟨f1, f2, f3, f4, fun ad n c e => f5 ad n c (by rwa [heap_alloc_old _ _ (block_lt hl8)] at e)⟩
      have hT5 := hT4.row hgr5 hfree4
      have hl5 : ∀ ad n c, w5.heap[bl]? = some (.cells #[.slice (some ad) n c] 45 (0, 0)) → ad = ⟨g8, 0, none⟩ := fun ad n c e => by
        rw [hgr5.block bl (Nat.lt_of_lt_of_le (block_lt hl8) (al0 _ _)) (fun e => (hfree3 _ e.symm).2.2.1 rfl)] at e
        exact hl4 ad n c e
      have hbt := block_lt hT4.turn
      have hbk := hT4.key.lt
      have hbl := block_lt hl8
      have hbi := block_lt hT4.info
      go_roundw
      case rel =>
        refine ⟨j + 1, A5, c5, by omega, rfl, hc5, ?_, hT5, hB4.grown hgr5 hB4.size (fun g hg => (hown3.lt g hg).1), Nat.le_trans hbs (Nat.le_trans hs3 (Nat.le_trans (al0 _ _) hgr5.size)), fun g hg => ?_⟩
        · rw [Ho.out, List.map_append]
          exact hown5
        · rcases hat5 with h | h
          · rw [hg] at h
            obtain ⟨f1, f2, f3, f4, f5⟩ := hfree3 g h.symm
            refine ⟨f1, f2, f3, f4, fun ad n c e => ?_⟩
            obtain rfl := hl5 ad n c e
            exact f5 _ _ _ hl8
          · rw [hg] at h
            injection h with h
            refine ⟨by omega, by omega, by rw [h]; exact Nat.ne_of_gt (Nat.lt_of_lt_of_le hbl (al0 _ _)), by omega, fun ad n c e => ?_⟩
            obtain rfl := hl5 ad n c e
            rw [h]
            exact Nat.ne_of_lt (Nat.lt_of_lt_of_le hg8l (al0 _ _))
      case measure => simp [lenOf]; omega
    · have Hx := Lib.hid (expandU_of k info n j (by omega))
      go_wp2_with fail
      go_ret2
      refine ⟨A, n, rfl, Nat.le_refl _, ?_, hB⟩
      rw [← Hx.out, List.map_take]
      exact (Rd.of_own hown).take (by omega)

end Go.Proofs.YtgjeamapgdakcaaDoor

