/-
  CONTRACTS of the program's Box, added, boxed, turned, mixed (package aes).
-/
import Derived.Test.YtbkdlmneidboaaaAesB
set_option linter.unusedVariables false
namespace Go.Proofs.Ytbkdlmneidboaaa
open Go.RowKit

/-- an element of an array by value, the index a number of whatever kind -/
theorem wpList_index_cellK {P : Program} {ops : Array Oper} {rest : List Oper} {o : Oper} {a : Act} {w : World} {Q : Exit → Act → World → Prop} (hg : o.guard = none) (dst : Option Tmp) (hdst : o.dst = dst)
    (t : TypeId) (x ix : Operand) (ho : o.op = .index t x ix) (cs : Array Value) (hx : a.eval x = .agg cs) (k : IntKind) (j : Nat) (hi : a.eval ix = .int k (j : Int)) (len : Nat) (e : TypeId)
    (hu : P.underlying t = some (.array len e)) (he : P.plainKey e = true) (i : TypeInfo) (hinfo : P.info? e = some i) (h1 : P.cellsOf e = 1) (v : Value) (hv : cs[j]? = some v) (hj : j < len)
    (h : wpList P ops Q rest (a.put dst v) w) : wpList P ops Q (o :: rest) a w := by
  refine Go.Great.wpList_readTo hg dst hdst v ?_ h
  simp only [execOp, ho, hx, hi]
  simp [Instr.index, run_underlying hu, asIntOf, hj, run_sizeOf w hinfo, h1, run_part_plain w he hv]

theorem byte_plain : Try.prog.plainKey 5 = true := by kernel_rfl
theorem info16 : (Try.prog.info? 23).map (·.size) = some 16 := by kernel_rfl
theorem size16 {l : List UInt8} (h : l.length = 16) : (Try.prog.info? 23).map (·.size) = some (l.map bv).toArray.size := by rw [info16]; simp [h]
theorem size16L {l : List UInt8} (h : l.length = 16) : (Try.prog.info? 23).map (·.size) = some (l.map bv).length := by rw [info16]; simp [h]

theorem same16 {l m : List UInt8} (h : l.length = 16) (k : m.length = 16) : (m.map bv).toArray.size = (l.map bv).toArray.size := by simp [h, k]
def zero16 : List UInt8 := List.replicate 16 0
theorem zero16_len : zero16.length = 16 := by simp [zero16]

set_option maxRecDepth 1000000 in
theorem Box_any (x : UInt8) (w : World) :
    Calls Try.prog 37 #[.int .u8 (x.toNat : Int)] w fun e w' => e = .returned (.int .u8 ((boxU x).toNat : Int)) ∧ Below w.heap.size w w' := by
  have hb := boxU_at x
  have hc : ((boxT.map bv).toArray)[x.toNat]? = some (.int .u8 ((boxU x).toNat : Int)) := by simp [hb, bv]
  clear hb
  have hx := b_lt x
  obtain ⟨i0, hi0⟩ := byte_info
  go_enter Try.func37, Try.ntmps37
  go_wp2_with fail
  refine (boxes_any _).mono ?_
  rintro e w2 ⟨rfl, hb2⟩
  generalize (boxT.map bv).toArray = tb at *
  generalize hy : boxU x = y at *
  have Hy := Lib.hid hy
  clear hy
  go_wp2_with ((with_reducible show wpList _ _ _ (⟨some 5, _, _, _, _, _⟩ :: _) _ _); refine wpList_index_cellK rfl (some 5) rfl 85 (.tmp 3) (.tmp 4) rfl tb rfl .u8 x.toNat rfl 256 5 Try.underlying85 byte_plain i0 hi0 byteCells _ hc hx ?_)
  rw [Hy.out]
  go_ret
  exact ⟨rfl, hb2⟩

set_option maxRecDepth 100000 in
set_option maxHeartbeats 800000 in
theorem added_any (b k : List UInt8) (w : World) (hb : b.length = 16) (hk : k.length = 16) :
    Calls Try.prog 59 #[.agg (b.map bv).toArray, .agg (k.map bv).toArray] w fun e w' => e = .returned (.agg ((addU b k).map bv).toArray) ∧ Below w.heap.size w w' := by
  have Hib := Lib.hid (size16 hb)
  have Hik := Lib.hid (size16 hk)
  have Hiz := Lib.hid (size16 (addU_len b k))
  have Hsz := Lib.hid (same16 (addU_len b k) zero16_len)
  have Hb := Lib.hid hb
  have Hk := Lib.hid hk
  obtain ⟨i0, hi0⟩ := byte_info
  clear hb hk
  go_enter Try.func59, Try.ntmps59
  go_wp2_with ((with_reducible show wpList _ _ _ (⟨some 7, _, _, _, _, _⟩ :: _) _ _); refine wpList_load_row rfl 23 (.tmp 3) rfl (w.heap.size + 1) rfl 23 (k.map bv).toArray (0, 0) _ ((ArrB.mk_ _ _ _ k (by simp) rfl).alloc _) Try.underlying23 rfl Hik.out ?_)
  go_loopw [8] (fun i wr => ∃ j : Nat, j ≤ 16 ∧ i = .int .i64 (j : Int) ∧ ArrB wr w.heap.size 23 (upto (addF b k) (at0 b) 16 j) ∧ ArrB wr (w.heap.size + 1 + 1) 23 zero16 ∧ Below w.heap.size w wr) (fun i _ => (16 - intOf i).toNat)
  case atStart =>
    refine ⟨0, by omega, rfl, ?_, ArrB.mk_ _ _ _ _ (by simp) rfl, (((Below.refl _ _).alloc (Nat.le_refl _) _).alloc (al0 _ _) _).alloc (by simp; omega) _⟩
    rw [upto_zero, map_at0 Hb.out]
    exact ((ArrB.mk_ w _ _ b rfl rfl).alloc _).alloc _
  case round =>
    obtain ⟨j, hj, rfl, g0, g2, hbel⟩ := hrel
    by_cases hlt : j < 16
    · have c0 := g0.cell (upto_old _ _ hlt (Nat.le_refl j))
      have f0 := g0.frozen j
      have hs := g0.set_ j (addF b k j)
      rw [← upto_succ, addF] at hs
      have hik : ((k.map bv).toArray)[j]? = some (.int .u8 ((at0 k j).toNat : Int)) := by simp [at0_of (show j < k.length by rw [Hk.out]; exact hlt), bv]
      have j0 : 0 ≤ (j : Int) := by omega
      have j1 : (j : Int) < 16 := by omega
      go_wp2_with ((with_reducible show wpList _ _ _ (⟨some 11, _, _, _, _, _⟩ :: _) _ _); refine wpList_index_cell rfl (some 11) rfl 23 (.tmp 7) (.tmp 8) rfl (k.map bv).toArray rfl j rfl 16 5 Try.underlying23 byte_plain i0 hi0 byteCells _ hik hlt ?_)
      rw [b_xor]
      exact ⟨⟨j + 1, by omega, by go_num, hs, g2.far (by simp; try omega) _, hbel.setCell (by simp) _⟩, by simp [intOf]; omega⟩
    · obtain rfl : j = 16 := by omega
      rw [show ((16 : Nat) : Int) = 16 from rfl]
      rw [upto_all] at g0
      rw [show (List.range 16).map (addF b k) = addU b k from rfl] at g0
      generalize hq : addU b k = q at *
      have Hq := Lib.hid hq
      clear hq
      go_wp2_with (first
        | ((with_reducible show wpList _ _ _ (⟨some 19, _, _, _, _, _⟩ :: _) _ _); refine wpList_load_row rfl 23 (.tmp 2) rfl w.heap.size rfl 23 (q.map bv).toArray (0, 0) _ g0 Try.underlying23 rfl Hiz.out ?_)
        | ((with_reducible show wpList _ _ _ (⟨none, Op.store 23 _ _, _, _, _, _⟩ :: _) _ _); refine wpList_store_row rfl 23 (.tmp 4) (.tmp 19) rfl (w.heap.size + 1 + 1) (q.map bv).toArray rfl rfl 23 _ g2 Hiz.out Hsz.out (one_bvA q) ?_))
      exact bodyPost_ret (results_cell_row rfl _ _ (w.heap.size + 1 + 1) 23 _ (0, 0) _ rfl (g2.row q) Try.underlying23 rfl Hiz.out) rfl ⟨by rw [Hq.out], below_setRow hbel (by omega) _⟩


/-- a cipher's block: the boxes, and keys behind them -/
def CipAt (w : World) (g : Nat) (K : List UInt8) : Prop := ArrB w g 89 (boxT ++ K)
theorem CipAt.box {w : World} {g : Nat} {K : List UInt8} (h : CipAt w g K) (x : UInt8) : w.cell? ⟨g, x.toNat, none⟩ = some (.int .u8 ((boxU x).toNat : Int)) :=
  ArrB.cell h (by rw [List.getElem?_append_left (by rw [boxT_len]; exact b_lt x)]; exact boxU_at x)

set_option maxRecDepth 100000 in
set_option maxHeartbeats 800000 in
theorem boxed_any (g : Nat) (K b : List UInt8) (w : World) (hC : CipAt w g K) (hb : b.length = 16) :
    Calls Try.prog 62 #[.pointer (some ⟨g, 0, none⟩), .agg (b.map bv).toArray] w fun e w' => e = .returned (.agg ((boxL b).map bv).toArray) ∧ Below w.heap.size w w' := by
  have Hib := Lib.hid (size16 hb)
  have Hiz := Lib.hid (size16 (boxL_len b))
  have Hsz := Lib.hid (same16 (boxL_len b) zero16_len)
  have Hb := Lib.hid hb
  obtain ⟨i0, hi0⟩ := byte_info
  have hg := ArrB.lt hC
  clear hb
  go_enter Try.func62, Try.ntmps62
  go_wp2_with ((with_reducible show wpList _ _ _ (⟨some 7, _, _, _, _, _⟩ :: _) _ _); refine wpList_load_row rfl 23 (.tmp 3) rfl w.heap.size rfl 23 (b.map bv).toArray (0, 0) _ ((ArrB.mk_ w _ _ b rfl rfl).alloc _) Try.underlying23 rfl Hib.out ?_)
  go_loopw [8] (fun i wr => ∃ j : Nat, j ≤ 16 ∧ i = .int .i64 (j : Int) ∧ ArrB wr w.heap.size 23 (upto (boxF b) (at0 b) 16 j) ∧ ArrB wr (w.heap.size + 1) 23 zero16 ∧ Below w.heap.size w wr) (fun i _ => (16 - intOf i).toNat)
  case atStart =>
    refine ⟨0, by omega, rfl, ?_, ArrB.mk_ _ _ _ _ (by simp) rfl, ((Below.refl _ _).alloc (Nat.le_refl _) _).alloc (al0 _ _) _⟩
    rw [upto_zero, map_at0 Hb.out]
    exact (ArrB.mk_ w _ _ b rfl rfl).alloc _
  case round =>
    obtain ⟨j, hj, rfl, g0, g2, hbel⟩ := hrel
    by_cases hlt : j < 16
    · have c0 := g0.cell (upto_old _ _ hlt (Nat.le_refl j))
      have f0 := g0.frozen j
      have hs := g0.set_ j (boxF b j)
      rw [← upto_succ, boxF] at hs
      have cb := CipAt.box (ArrB.below hC hbel hg) (at0 b j)
      have hik : ((b.map bv).toArray)[j]? = some (.int .u8 ((at0 b j).toNat : Int)) := by simp [at0_of (show j < b.length by rw [Hb.out]; exact hlt), bv]
      have hx := b_lt (at0 b j)
      have j0 : 0 ≤ (j : Int) := by omega
      have j1 : (j : Int) < 16 := by omega
      generalize at0 b j = x at *
      generalize boxU x = y at *
      go_wp2_with ((with_reducible show wpList _ _ _ (⟨some 11, _, _, _, _, _⟩ :: _) _ _); refine wpList_index_cell rfl (some 11) rfl 23 (.tmp 7) (.tmp 8) rfl (b.map bv).toArray rfl j rfl 16 5 Try.underlying23 byte_plain i0 hi0 byteCells _ hik hlt ?_)
      exact ⟨⟨j + 1, by omega, by go_num, hs, g2.far (by simp; try omega) _, hbel.setCell (by simp) _⟩, by simp [intOf]; omega⟩
    · obtain rfl : j = 16 := by omega
      rw [show ((16 : Nat) : Int) = 16 from rfl]
      rw [upto_all] at g0
      rw [show (List.range 16).map (boxF b) = boxL b from rfl] at g0
      generalize hq : boxL b = q at *
      have Hq := Lib.hid hq
      clear hq
      go_wp2_with (first
        | ((with_reducible show wpList _ _ _ (⟨some 21, _, _, _, _, _⟩ :: _) _ _); refine wpList_load_row rfl 23 (.tmp 3) rfl w.heap.size rfl 23 (q.map bv).toArray (0, 0) _ g0 Try.underlying23 rfl Hiz.out ?_)
        | ((with_reducible show wpList _ _ _ (⟨none, Op.store 23 _ _, _, _, _, _⟩ :: _) _ _); refine wpList_store_row rfl 23 (.tmp 4) (.tmp 21) rfl (w.heap.size + 1) (q.map bv).toArray rfl rfl 23 _ g2 Hiz.out Hsz.out (one_bvA q) ?_))
      exact bodyPost_ret (results_cell_row rfl _ _ (w.heap.size + 1) 23 _ (0, 0) _ rfl (g2.row q) Try.underlying23 rfl Hiz.out) rfl ⟨by rw [Hq.out], below_setRow hbel (by omega) _⟩

set_option maxRecDepth 100000 in
set_option maxHeartbeats 1600000 in
theorem turned_any (b : List UInt8) (w : World) (hb : b.length = 16) :
    Calls Try.prog 61 #[.agg (b.map bv).toArray] w fun e w' => e = .returned (.agg ((turnU b).map bv).toArray) ∧ Below w.heap.size w w' := by
  have Hiz := Lib.hid (size16 (turnU_len b))
  have Hsz := Lib.hid (same16 (turnU_len b) zero16_len)
  have Hb := Lib.hid hb
  clear hb
  go_enter Try.func61, Try.ntmps61
  go_wp2_with fail
  go_loopw [6] (fun i wr => ∃ c : Nat, c ≤ 4 ∧ i = .int .i64 (c : Int) ∧ ArrB wr w.heap.size 23 b ∧ ArrB wr (w.heap.size + 1) 23 zero16 ∧ ArrB wr (w.heap.size + 1 + 1) 23 (upto (turnF b) (fun _ => 0) 16 (0 + 4 * c)) ∧ Below w.heap.size w wr) (fun i _ => (4 - intOf i).toNat)
  case atStart =>
    refine ⟨0, by omega, rfl, ((ArrB.mk_ w _ _ b rfl rfl).alloc _).alloc _, (ArrB.mk_ _ _ _ zero16 (by simp) rfl).alloc _, ArrB.mk_ _ _ _ _ (by simp) (by rw [show 0 + 4 * 0 = 0 from rfl, upto_zero]; rfl), (((Below.refl _ _).alloc (Nat.le_refl _) _).alloc (al0 _ _) _).alloc (by simp; omega) _⟩
  case round =>
    obtain ⟨c, hc, rfl, g0, g1, g2, hbel⟩ := hrel
    by_cases hlt : c < 4
    · go_wp2_with fail
      go_loopw [9] (fun i wr => ∃ r : Nat, r ≤ 4 ∧ i = .int .i64 (r : Int) ∧ ArrB wr w.heap.size 23 b ∧ ArrB wr (w.heap.size + 1) 23 zero16 ∧ ArrB wr (w.heap.size + 1 + 1) 23 (upto (turnF b) (fun _ => 0) 16 (r + 4 * c)) ∧ Below w.heap.size w wr) (fun i _ => (4 - intOf i).toNat)
      case atStart => exact ⟨0, by omega, rfl, g0, g1, g2, hbel⟩
      case round =>
        obtain ⟨r, hr, rfl, g0, g1, g2, hbel⟩ := hrel
        by_cases hlr : r < 4
        · have hq : r + 4 * ((c + r) % 4) < 16 := by omega
          have cs := g0.cell (at0_of (show r + 4 * ((c + r) % 4) < b.length by rw [Hb.out]; exact hq))
          have c2 := g2.cell (upto_old (turnF b) (fun _ => 0) (show r + 4 * c < 16 by omega) (Nat.le_refl _))
          have f2 := g2.frozen (r + 4 * c)
          have hs := g2.set_ (r + 4 * c) (turnF b (r + 4 * c))
          rw [← upto_succ, turnF, show (r + 4 * c) % 4 = r by omega, show (r + 4 * c) / 4 = c by omega] at hs
          have j0 : 0 ≤ (c : Int) := by omega
          have j1 : (c : Int) < 4 := by omega
          have j2 : 0 ≤ (r : Int) := by omega
          have j3 : (r : Int) < 4 := by omega
          go_wp2_with fail
          refine ⟨⟨r + 1, by omega, by go_num, g0.far (by simp; try omega) _, g1.far (by simp; try omega) _, ?_, hbel.setCell (by simp; try omega) _⟩, by simp [intOf]; omega⟩
          rw [show r + 1 + 4 * c = r + 4 * c + 1 by omega]
          exact hs
        · obtain rfl : r = 4 := by omega
          rw [show ((4 : Nat) : Int) = 4 from rfl]
          go_wp2_with fail
          refine ⟨⟨c + 1, by omega, by go_num, g0, g1, ?_, hbel⟩, by simp [intOf]; omega⟩
          rw [show 0 + 4 * (c + 1) = 4 + 4 * c by omega]
          exact g2
    · obtain rfl : c = 4 := by omega
      rw [show ((4 : Nat) : Int) = 4 from rfl]
      rw [show 0 + 4 * 4 = 16 from rfl, upto_all, show (List.range 16).map (turnF b) = turnU b from rfl] at g2
      generalize hq : turnU b = q at *
      have Hq := Lib.hid hq
      clear hq
      go_wp2_with (first
        | ((with_reducible show wpList _ _ _ (⟨some 28, _, _, _, _, _⟩ :: _) _ _); refine wpList_load_row rfl 23 (.tmp 3) rfl (w.heap.size + 1 + 1) rfl 23 (q.map bv).toArray (0, 0) _ g2 Try.underlying23 rfl Hiz.out ?_)
        | ((with_reducible show wpList _ _ _ (⟨none, Op.store 23 _ _, _, _, _, _⟩ :: _) _ _); refine wpList_store_row rfl 23 (.tmp 2) (.tmp 28) rfl (w.heap.size + 1) (q.map bv).toArray rfl rfl 23 _ g1 Hiz.out Hsz.out (one_bvA q) ?_))
      exact bodyPost_ret (results_cell_row rfl _ _ (w.heap.size + 1) 23 _ (0, 0) _ rfl (g1.row q) Try.underlying23 rfl Hiz.out) rfl ⟨by rw [Hq.out], below_setRow hbel (by omega) _⟩

end Go.Proofs.Ytbkdlmneidboaaa
