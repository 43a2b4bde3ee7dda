/-
  CONTRACTS of the document's own Expand (coterieref03).
-/
import Derived.Test.YtmkkghlpdnoogaaDoorRefMacC
set_option linter.unusedVariables false
namespace Go.Proofs.YtmkkghlpdnoogaaDoor
open Go.RowKit

theorem rExpand_bad (k : List UInt8) (Ai : Option Addr) (ni ci : Nat) (n : Int) (w : World) (hn : n < 0 ∨ 8160 < n) :
    Calls Tryd.prog 32 #[.agg (k.map bv).toArray, .slice Ai ni ci, .int .i64 n] w fun e w' => e = .returned (.tuple #[.slice none 0 0, .int .i64 1]) ∧ Below w.heap.size w w' := by
  rcases hn with h | h
  · go_enter Tryd.func32, Tryd.ntmps32
    go_wp2_with fail
    go_ret2
    exact ⟨rfl, d_al _ _⟩
  · have h' : ¬ n < 0 := by omega
    go_enter Tryd.func32, Tryd.ntmps32
    go_wp2_with fail
    go_ret2
    exact ⟨rfl, d_al _ _⟩

theorem rExpand_long (k : List UInt8) (Ai : Option Addr) (ni ci : Nat) (n : Int) (w : World) (h0 : 0 ≤ n) (hn : n ≤ 8160) (hni : 1048576 < ni) :
    Calls Tryd.prog 32 #[.agg (k.map bv).toArray, .slice Ai ni ci, .int .i64 n] w fun e w' => e = .returned (.tuple #[.slice none 0 0, .int .i64 4]) ∧ Below w.heap.size w w' := by
  have h' : ¬ n < 0 := by omega
  go_enter Tryd.func32, Tryd.ntmps32
  go_wp2_with fail
  go_ret2
  exact ⟨rfl, d_al _ _⟩

theorem three_flat (a b : List UInt8) (z : UInt8) : [a, b, [z]].flatten = a ++ b ++ [z] := by simp
theorem one_byte (j : Nat) (hj : j < 255) : [UInt8.ofNat (j + 1)].map bv = [.int .u8 ((j : Int) + 1)] := by
  have e : (UInt8.ofNat (j + 1)).toNat = j + 1 := by rw [UInt8.toNat_ofNat', Nat.mod_eq_of_lt (by omega)]
  simp only [List.map_cons, List.map_nil, bv, e]
  congr 2

set_option maxRecDepth 1000000 in
set_option maxHeartbeats 1000000 in
theorem rExpand_ok (k : List UInt8) (Ai : Option Addr) (ni ci : Nat) (info : List UInt8) (n : Nat) (w : World) (hk : k.length = 32) (hn : n ≤ 8160) (hnc : ni ≤ ci) (hni : ni ≤ 1048576) (hr : Rd w w.heap.size Ai ni (info.map bv)) (hK : KTab w) :
    Calls Tryd.prog 32 #[.agg (k.map bv).toArray, .slice Ai ni ci, .int .i64 (n : Int)] w fun e w' =>
      ∃ A c, e = .returned (.tuple #[.slice A n c, .int .i64 0]) ∧ n ≤ c ∧ Rd w' w'.heap.size A n ((expandU k info n).map bv) ∧ Below w.heap.size w w' := by
  obtain ⟨i0, hi0, hz0, hz1, hz2⟩ := info_parts byteInfo
  have Hk := Lib.hid hk
  have Hil := Lib.hid (show info.length = ni by simpa using hr.len)
  have hn0 : ¬ ((n : Int) < 0) := by omega
  have hA1 : ArrB (w.alloc (.cells (k.map bv).toArray 36)) w.heap.size 36 k := ArrB.mk_ w _ _ k rfl rfl
  clear hk
  go_enter Tryd.func32, Tryd.ntmps32
  go_wp2_with fail
  go_loopw [8, 9, 10] (fun v l i wr => ∃ (j : Nat) (A : Option Addr) (c : Nat) (Al : Option Addr) (nl cl : Nat), 32 * j < n + 32 ∧ v = .slice A (32 * j) c ∧ 32 * j ≤ c ∧ l = .slice Al nl cl ∧ nl ≤ cl ∧ Hid ((stepU k info j).length = nl) ∧ i = .int .i64 ((j : Int) + 1) ∧
      wr.ownsRow (w.heap.size + 1) 5 1 v (32 * j) ((outU k info j).map bv) ∧ Rd wr wr.heap.size Al nl ((stepU k info j).map bv) ∧ (∀ g, v.ownBlock = some g → ∀ ad, Al = some ad → ad.block ≠ g) ∧ ArrB wr w.heap.size 36 k ∧ Below w.heap.size w wr) (fun v _ _ _ => n + 32 - lenOf v)
  case atStart => exact ⟨0, none, 0, none, 0, 0, by omega, rfl, Nat.le_refl _, rfl, Nat.le_refl _, Lib.hid rfl, by simp, World.ownsRow_nil _ _ _ _, Rd.zero _ _ _, (fun g h => by cases h), hA1, d_al _ _⟩
  case round =>
    obtain ⟨j, A, c, Al, nl, cl, hj, rfl, hjc, rfl, hnl, hll, rfl, hown, hrl, hfree, hA, hB⟩ := hrel
    have hl : ((32 * j : Nat) : Int) = 32 * (j : Int) := by omega
    have hls := stepU_le k info j
    have hnl32 : nl ≤ 32 := by have := hll.out; omega
    clear hls
    by_cases hlt : 32 * j < n
    · have hj255 : j < 255 := by omega
      have Hob := Lib.hid (one_byte j hj255)
      have hb2 := (d_al wr (.cells #[.int .u8 ((j : Int) + 1)] 5)).alloc (al0 _ _) (.cells #[.slice Al nl cl, .slice Ai ni ci, .slice (some ⟨wr.heap.size, 0, none⟩) 1 1] 25)
      go_wp2_with fail
      refine (rMac_any (some ⟨w.heap.size, 0, none⟩) 32 32 k (some ⟨wr.heap.size + 1, 0, none⟩) 3 3 [.slice Al nl cl, .slice Ai ni ci, .slice (some ⟨wr.heap.size, 0, none⟩) 1 1] [stepU k info j, info, [UInt8.ofNat (j + 1)]] _ (by omega) (by omega) (by omega) (by rw [three_flat]; simp only [List.length_append, hll.out, Hil.out, List.length_cons, List.length_nil]; omega) (d_rd (hA.rd Hk.out) hb2) (Rd.mk_ _ _ _ (by simp) (by simp) rfl rfl)
        (Txs.cons (txs_one1 hll.out hnl (d_rd hrl hb2)) (Txs.cons (txs_one1 Hil.out hnc (d_rd hr (c_call hB hb2))) (txs_one1 rfl (Nat.le_refl _) (((Rd.mk_ (B := wr.heap.size + 1) _ _ _ rfl (by omega) rfl (by rw [Hob.out])).alloc (by simp) _).more (by simp))))) (hK.below (c_call hB hb2))).mono ?_
      rintro e w3 ⟨rfl, hb3⟩
      have hb03 : Below wr.heap.size wr w3 := c_call hb2 hb3
      have hown3 := own_below hown hb03
      have hA3 := hA.below hb03 hA.lt
      have hB3 := c_call hB hb03
      have hs3 := hb03.size
      have hwr := hA.lt
      rw [three_flat, ← stepU_succ]
      have Hsl := Lib.hid (stepU_len k info j)
      have Ho := Lib.hid (outU_succ k info j)
      clear hb2 hb3 hb03 hrl hA hB
      generalize hgr : stepU k info (j + 1) = r at *
      have Hgr := Lib.hid hgr
      clear hgr
      have hQ4 : ArrB (w3.alloc (.cells (r.map bv).toArray 36)) w3.heap.size 36 r := ArrB.mk_ _ _ _ _ rfl rfl
      have hB4 := c_alloc hB3 (.cells (r.map bv).toArray 36)
      have hA4 := hA3.alloc (.cells (r.map bv).toArray 36)
      have hown4 := hown3.alloc (.cells (r.map bv).toArray 36)
      have hg4 : w3.heap.size < (w3.alloc (.cells (r.map bv).toArray 36)).heap.size := hQ4.lt
      have hbase : w.heap.size + 1 ≤ (w3.alloc (.cells (r.map bv).toArray 36)).heap.size := by omega
      go_wp2_with (first
        | ((with_reducible show wpList _ _ _ (⟨none, Op.store 36 _ _, _, _, _, _⟩ :: _) _ _); refine wpList_store_row rfl 36 (.tmp 11) (.tmp 34) rfl w3.heap.size (r.map bv).toArray rfl rfl 36 ((List.replicate 32 (0 : UInt8)).map bv).toArray (heap_alloc_new _ _) (infoK32 Hsl.out) (sizeK Hsl.out) (one_bvA _) ?_; rw [World.setRow_alloc_new])
        | (at_builtin; refine wpList_append_rd _ rfl (.tmp 36) (.tmp 37) _ rfl (w.heap.size + 1) 5 i0 _ 1 Tryd.underlying25 hi0 hz0 hz1 hz2 rfl (.slice A (32 * j) c) (32 * j) _ rfl hown4 _ (some ⟨w3.heap.size, 0, none⟩) 32 32 (r.map bv) rfl (hQ4.rd Hsl.out) (one_bv _) (by simp only [maxLen]; omega) (by omega) hbase ?_; intro v5 w5 hown5 hgr5 hat5))
      obtain ⟨A5, c5, rfl, hc5, _⟩ := own_form hown5
      have hne : ∀ g, (Value.slice A (32 * j) c).ownBlock = some g → g < w3.heap.size ∧ w.heap.size < g := fun g hg => ⟨Nat.lt_of_lt_of_le (hown.lt g hg).2 hs3, (hown.lt g hg).1⟩
      have hQ5 := hQ4.of (hgr5.block w3.heap.size hg4 (fun e => by have := (hne _ e.symm).1; omega))
      have hA5 := hA4.of (hgr5.block w.heap.size hA4.lt (fun e => by have := (hne _ e.symm).2; omega))
      have hB5 := hB4.grown hgr5 hB4.size (fun g hg => Nat.le_of_lt (hne g hg).2)
      go_roundw
      case rel =>
        refine ⟨j + 1, A5, c5, some ⟨w3.heap.size, 0, none⟩, 32, 32, by omega, rfl, hc5, rfl, Nat.le_refl _, Lib.hid (by rw [Hgr.out]; exact Hsl.out), by go_num, ?_, by rw [Hgr.out]; exact hQ5.rd Hsl.out, ?_, hA5, hB5⟩
        · rw [Ho.out, List.map_append]
          exact hown5
        · rintro g hg ad had
          obtain rfl := Option.some.inj had
          rcases hat5 with h | h
          · rw [hg] at h
            have := (hne g h.symm).1
            show w3.heap.size ≠ g
            omega
          · rw [hg] at h
            injection h with h
            show w3.heap.size ≠ g
            omega
      case measure => simp [lenOf]; omega
    · have Hx := Lib.hid (expandU_of k info n j (by omega))
      go_wp2_with fail
      go_ret2
      refine ⟨A, c, rfl, by omega, ?_, hB⟩
      rw [← Hx.out, List.map_take]
      exact (Rd.of_own hown).take (by omega)

end Go.Proofs.YtmkkghlpdnoogaaDoor
