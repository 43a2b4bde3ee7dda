import Derived.Test.YtajbaaamhddgiaaDoorG18
import Derived.StillTailTactics
/-
  CONTRACTS of the program's inverses (a closure) and boxes (package aes).
-/
set_option linter.unusedVariables false
namespace Go.Proofs.YtajbaaamhddgiaaDoor
open Go.RowKit

/-- two bytes in blocks of their own -/
def Cell8 (w : World) (g : Nat) (x : UInt8) : Prop := ArrB w g 5 [x]
theorem Cell8.cell {w : World} {g : Nat} {x : UInt8} (h : Cell8 w g x) : w.cell? ⟨g, 0, none⟩ = some (.int .u8 (x.toNat : Int)) := ArrB.cell h rfl

theorem still_flip8 {v : Value} {w : World} (e : Ending) (w' : World) (h : e = .returned v ∧ w = w') : e = .returned v ∧ w' = w := ⟨h.1, h.2.symm⟩

theorem times_k (a : UInt8) (d : Int) (w : World) (h : 0 ≤ d ∧ d < 256) :
    Calls Tryd.prog 85 #[.int .u8 (a.toNat : Int), .int .u8 d] w fun e w' => e = .returned (.int .u8 ((timesU a (UInt8.ofNat d.toNat)).toNat : Int)) ∧ w' = w := by
  have e : d = ((UInt8.ofNat d.toNat).toNat : Int) := by
    rw [UInt8.toNat_ofNat']
    omega
  have k := times_any a (UInt8.ofNat d.toNat) w
  rw [← e] at k
  exact k.mono fun _ _ ⟨h1, h2⟩ => ⟨h1, h2.symm⟩

set_option maxRecDepth 100000 in
set_option maxHeartbeats 400000 in
theorem inv1_any (g1 g2 : Nat) (x y : UInt8) (w : World) (hne : g1 ≠ g2) (h1 : Cell8 w g1 x) (h2 : Cell8 w g2 y) :
    Calls Tryd.prog 84 #[.pointer (some ⟨g1, 0, none⟩), .pointer (some ⟨g2, 0, none⟩)] w fun e w' =>
      e = .returned (.tuple #[.int .u8 ((timesU x 3).toNat : Int), .int .u8 ((timesU y 246).toNat : Int)]) ∧ Cell8 w' g1 (timesU x 3) ∧ Cell8 w' g2 (timesU y 246) ∧ ∀ B, B ≤ g1 → B ≤ g2 → Below B w w' := by
  have c1 := h1.cell
  have c2 := h2.cell
  have f1 := ArrB.frozen h1 0
  have f2 := ArrB.frozen h2 0
  go_enter Tryd.func84, Tryd.ntmps84
  go_wp2_with fail
  refine wp_region_still_tail 4 (by kernel_rfl) (by kernel_rfl) ?_
  simp only [List.take_succ_cons, List.take_zero, List.drop_succ_cons, List.drop_zero]
  repeat (first | (refine wpStill_step (fun K hK => ?_); go_simp; refine ⟨_, (times_k _ _ _ (by omega)), hK _ ?_⟩; clear hK K) | still_step)
  refine wpStill_nil ?_
  change wpList _ _ _ _ _ w.drew
  go_wp2_with fail
  go_quiet (fail)
  go_wp2_with fail
  go_ret2
  refine ⟨rfl, ?_, ?_, fun B hB1 hB2 => ?_⟩
  · exact ((ArrB.set_ h1 0 (timesU x 3)).far (by simpa using hne) _)
  · exact (ArrB.set_ (h2.far (by simpa using hne.symm) _) 0 (timesU y 246))
  · exact (((Below.refl B w).setCell (p := ⟨g1, 0, none⟩) hB1 _).setCell (p := ⟨g2, 0, none⟩) hB2 _ : Below B w _).trans ⟨rfl, rfl, rfl, Nat.le_refl _, fun _ _ => rfl⟩

theorem inverses_any (w : World) :
    Calls Tryd.prog 74 #[] w fun e w' =>
      e = .returned (.func (.func 84) #[] #[.pointer (some ⟨w.heap.size, 0, none⟩), .pointer (some ⟨w.heap.size + 1, 0, none⟩)]) ∧
        Cell8 w' w.heap.size 1 ∧ Cell8 w' (w.heap.size + 1) 1 ∧ w'.heap.size = w.heap.size + 2 ∧ Below w.heap.size w w' := by
  go_enter Tryd.func74, Tryd.ntmps74
  go_wp2_with fail
  go_ret
  exact ⟨rfl, (ArrB.mk_ w _ _ [1] rfl rfl).alloc _, ArrB.mk_ _ _ _ [1] (by simp) rfl, by simp, ((Below.refl _ _).alloc (Nat.le_refl _) _).alloc (al0 _ _) _⟩

/-- n zeros as cells: a great zero value, never written out -/
def cz (n : Nat) : Array Value := Array.replicate n (.int .u8 0)
theorem cz_size (n : Nat) : (cz n).size = n := by simp [cz]
theorem cz_list (n : Nat) : ((List.replicate n (0 : UInt8)).map bv).toArray = cz n := by rw [List.map_replicate, List.toArray_replicate]; rfl
theorem cz_ne : ∀ n, ¬ cz (n + 1) = #[] := fun n h => by have := congrArg Array.size h; simp [cz] at this
theorem run_zero_of {P : Program} {t : TypeId} {i : TypeInfo} {z : Value} (hi : P.info? t = some i) (hz : i.zero = some z) (w : World) : (zeroValue t).run P w = .ok z w := by simp [zeroValue, typeInfo, hi, hz]

theorem info256 : (Tryd.prog.info? 80).map (fun i => (i.zero, i.size, i.bytes)) = some (some (.agg (cz 256)), 256, 256) := by kernel_rfl
theorem zero256 (w : World) : (zeroValue 80).run Tryd.prog w = .ok (.agg (cz 256)) w := by
  obtain ⟨i0, hi0, hz0, hz1, hz2⟩ := info_parts info256
  exact run_zero_of hi0 hz0 w
theorem size256 : (Tryd.prog.info? 80).map (·.size) = some 256 := by kernel_rfl

set_option maxRecDepth 1000000 in
set_option maxHeartbeats 1000000 in
theorem boxes_any (w : World) :
    Calls Tryd.prog 53 #[] w fun e w' => e = .returned (.agg (boxT.map bv).toArray) ∧ Below w.heap.size w w' := by
  have hz := zero256
  have hc := cz_ne 255
  have Hrep := Lib.hid (cz_list 256)
  generalize cz 256 = zs at *
  go_enter Tryd.func53, Tryd.ntmps53
  go_wp2_with fail
  refine (inverses_any _).mono ?_
  rintro e w2 ⟨rfl, i1, i2, hs2, hb2⟩
  have ha0 : ArrB w2 w.heap.size 80 (tabTo 0) := ((ArrB.mk_ w _ _ (tabTo 0) rfl Hrep.out).alloc _).below hb2 (by simp; omega)
  have ha1 : ArrB w2 (w.heap.size + 1) 80 (tabTo 0) := (ArrB.mk_ _ _ _ (tabTo 0) (by simp) Hrep.out).below hb2 (by simp)
  have hB2 : Below w.heap.size w w2 := (((Below.refl _ _).alloc (Nat.le_refl _) _).alloc (al0 _ _) _).trans (hb2.mono (by simp; omega))
  simp only [World.size_alloc] at i1 i2 hs2
  clear hz hc Hrep hb2
  go_wp2_with fail
  go_loopw [6] (fun i wr => ∃ n : Nat, n ≤ 255 ∧ i = .int .i64 (n : Int) ∧ ArrB wr w.heap.size 80 (tabTo 0) ∧ ArrB wr (w.heap.size + 1) 80 (tabTo n) ∧ Cell8 wr (w.heap.size + 1 + 1) (pwU n) ∧ Cell8 wr (w.heap.size + 1 + 1 + 1) (ivU n) ∧ Below w.heap.size w wr) (fun i _ => (255 - intOf i).toNat)
  case atStart => exact ⟨0, by omega, rfl, ha0, ha1, i1, i2, hB2⟩
  case round =>
    obtain ⟨n, hn, rfl, ha0, ha1, i1, i2, hB⟩ := hrel
    by_cases hlt : n < 255
    · go_wp2_with fail
      refine (inv1_any _ _ _ _ _ (by omega) i1 i2).mono ?_
      rintro e w3 ⟨rfl, i1', i2', hb3⟩
      have hb3' := hb3 (w.heap.size + 1 + 1) (Nat.le_refl _) (by omega)
      have ha0' := ha0.below hb3' (by omega)
      have ha1' := ha1.below hb3' (by omega)
      have hB3 := hB.trans (hb3 w.heap.size (by omega) (by omega))
      rw [show timesU (pwU n) 3 = pwU (n + 1) from rfl] at *
      rw [show timesU (ivU n) 246 = ivU (n + 1) from rfl] at *
      have Hst := Lib.hid (show tabTo (n + 1) = (tabTo n).set (pwU (n + 1)).toNat (spU (ivU (n + 1))) from rfl)
      obtain ⟨y, hy⟩ : ∃ y, (tabTo n)[(pwU (n + 1)).toNat]? = some y := ⟨_, List.getElem?_eq_getElem (by rw [tabTo_len]; exact b_lt _)⟩
      have cy := ha1'.cell hy
      have fy := ha1'.frozen (pwU (n + 1)).toNat
      have hs := ha1'.set_ (pwU (n + 1)).toNat (spU (ivU (n + 1)))
      rw [← Hst.out] at hs
      have hi := i1'
      have hj := i2'
      generalize hp0 : pwU (n + 1) = p at *
      generalize hq0 : ivU (n + 1) = q at *
      have Hp := Lib.hid hp0
      have Hq := Lib.hid hq0
      clear hp0 hq0
      have hp := b_lt p
      clear hy i1 i2 ha0 ha1 hb3 hb3'
      go_wp2_with fail
      refine (spreadA_any q _).mono ?_
      rintro e w4 ⟨rfl, rfl⟩
      go_wp2_with fail
      refine ⟨⟨n + 1, by omega, by go_num, ha0'.far (by simp) _, hs, by rw [Hp.out]; exact ArrB.far hi (by simp; try omega) _, by rw [Hq.out]; exact ArrB.far hj (by simp; try omega) _, hB3.setCell (by simp) _⟩, by simp [intOf]; omega⟩
    · obtain rfl : n = 255 := by omega
      rw [show ((255 : Nat) : Int) = 255 from rfl]
      obtain ⟨y, hy⟩ : ∃ y, (tabTo 255)[0]? = some y := ⟨_, List.getElem?_eq_getElem (by rw [tabTo_len]; omega)⟩
      have cy := ha1.cell hy
      have fy := ha1.frozen 0
      have h0 := ha1.set_ 0 (spU 0)
      have Hb := Lib.hid (show (tabTo 255).set 0 (spU 0) = boxT from rfl)
      rw [Hb.out] at h0
      rw [show (((spU 0).toNat : Nat) : Int) = 99 by kernel_rfl] at h0
      have hsp := spreadA_any 0 wr
      rw [show (((spU 0).toNat : Nat) : Int) = 99 by kernel_rfl, show (((0 : UInt8).toNat : Nat) : Int) = 0 from rfl] at hsp
      have Hl := Lib.hid (show (boxT.map bv).toArray.size = 256 by simp [boxT_len])
      have Hlz := Lib.hid (show ((tabTo 0).map bv).toArray.size = (boxT.map bv).toArray.size by simp [boxT_len, tabTo_len])
      have Hi := Lib.hid (show (Tryd.prog.info? 80).map (·.size) = some (boxT.map bv).toArray.size by rw [size256, Hl.out])
      have Ho := Lib.hid (one_bvA boxT)
      clear hy ha1 i1 i2
      generalize htb : boxT = tb at *
      have Htb := Lib.hid htb
      clear htb
      generalize tabTo 0 = t0 at *
      go_wp2_with fail
      refine hsp.mono ?_
      rintro e w4 ⟨rfl, rfl⟩
      go_wp2_with (first
        | ((with_reducible show wpList _ _ _ (⟨some 20, _, _, _, _, _⟩ :: _) _ _); refine wpList_load_row rfl 80 (.tmp 1) rfl (w.heap.size + 1) rfl 80 (tb.map bv).toArray (0, 0) _ h0 Tryd.underlying80 rfl Hi.out ?_)
        | ((with_reducible show wpList _ _ _ (⟨none, Op.store 80 _ _, _, _, _, _⟩ :: _) _ _); refine wpList_store_row rfl 80 (.tmp 0) (.tmp 20) rfl w.heap.size (tb.map bv).toArray rfl rfl 80 _ (ha0.far (by simp) _) Hi.out Hlz.out Ho.out ?_))
      exact bodyPost_ret (results_cell_row rfl _ _ w.heap.size 80 _ (0, 0) _ rfl ((ha0.far (by simp) _).row tb) Tryd.underlying80 rfl Hi.out) rfl ⟨by rw [Htb.out], below_setRow (hB.setCell (by simp) _) (Nat.le_refl _) _⟩
end Go.Proofs.YtajbaaamhddgiaaDoor

/-
  CONTRACTS of the program's Box, added, boxed, turned, mixed (package aes).
-/
set_option linter.unusedVariables false
namespace Go.Proofs.YtajbaaamhddgiaaDoor
open Go.RowKit

/-- an element of an array by value, the index a number of whatever kind -/
theorem wpList_index_cellK {P : Program} {ops : Array Oper} {rest : List Oper} {o : Oper} {a : Act} {w : World} {Q : Exit → Act → World → Prop} (hg : o.guard = none) (dst : Option Tmp) (hdst : o.dst = dst)
    (t : TypeId) (x ix : Operand) (ho : o.op = .index t x ix) (cs : Array Value) (hx : a.eval x = .agg cs) (k : IntKind) (j : Nat) (hi : a.eval ix = .int k (j : Int)) (len : Nat) (e : TypeId)
    (hu : P.underlying t = some (.array len e)) (he : P.plainKey e = true) (i : TypeInfo) (hinfo : P.info? e = some i) (h1 : P.cellsOf e = 1) (v : Value) (hv : cs[j]? = some v) (hj : j < len)
    (h : wpList P ops Q rest (a.put dst v) w) : wpList P ops Q (o :: rest) a w := by
  refine Go.Great.wpList_readTo hg dst hdst v ?_ h
  simp only [execOp, ho, hx, hi]
  simp [Instr.index, run_underlying hu, asIntOf, hj, run_sizeOf w hinfo, h1, run_part_plain w he hv]

theorem byte_plain : Tryd.prog.plainKey 5 = true := by kernel_rfl
theorem info16 : (Tryd.prog.info? 51).map (·.size) = some 16 := by kernel_rfl
theorem size16 {l : List UInt8} (h : l.length = 16) : (Tryd.prog.info? 51).map (·.size) = some (l.map bv).toArray.size := by rw [info16]; simp [h]
theorem size16L {l : List UInt8} (h : l.length = 16) : (Tryd.prog.info? 51).map (·.size) = some (l.map bv).length := by rw [info16]; simp [h]

theorem same16 {l m : List UInt8} (h : l.length = 16) (k : m.length = 16) : (m.map bv).toArray.size = (l.map bv).toArray.size := by simp [h, k]
def zero16 : List UInt8 := List.replicate 16 0
theorem zero16_len : zero16.length = 16 := by simp [zero16]


set_option maxRecDepth 100000 in
set_option maxHeartbeats 800000 in
theorem added_any (b k : List UInt8) (w : World) (hb : b.length = 16) (hk : k.length = 16) :
    Calls Tryd.prog 57 #[.agg (b.map bv).toArray, .agg (k.map bv).toArray] w fun e w' => e = .returned (.agg ((addU b k).map bv).toArray) ∧ Below w.heap.size w w' := by
  have Hib := Lib.hid (size16 hb)
  have Hik := Lib.hid (size16 hk)
  have Hiz := Lib.hid (size16 (addU_len b k))
  have Hsz := Lib.hid (same16 (addU_len b k) zero16_len)
  have Hb := Lib.hid hb
  have Hk := Lib.hid hk
  obtain ⟨i0, hi0⟩ := byte_info
  clear hb hk
  go_enter Tryd.func57, Tryd.ntmps57
  go_wp2_with ((with_reducible show wpList _ _ _ (⟨some 7, _, _, _, _, _⟩ :: _) _ _); refine wpList_load_row rfl 51 (.tmp 3) rfl (w.heap.size + 1) rfl 51 (k.map bv).toArray (0, 0) _ ((ArrB.mk_ _ _ _ k (by simp) rfl).alloc _) Tryd.underlying51 rfl Hik.out ?_)
  go_loopw [8] (fun i wr => ∃ j : Nat, j ≤ 16 ∧ i = .int .i64 (j : Int) ∧ ArrB wr w.heap.size 51 (upto (addF b k) (at0 b) 16 j) ∧ ArrB wr (w.heap.size + 1 + 1) 51 zero16 ∧ Below w.heap.size w wr) (fun i _ => (16 - intOf i).toNat)
  case atStart =>
    refine ⟨0, by omega, rfl, ?_, ArrB.mk_ _ _ _ _ (by simp) rfl, (((Below.refl _ _).alloc (Nat.le_refl _) _).alloc (al0 _ _) _).alloc (by simp; omega) _⟩
    rw [upto_zero, map_at0 Hb.out]
    exact ((ArrB.mk_ w _ _ b rfl rfl).alloc _).alloc _
  case round =>
    obtain ⟨j, hj, rfl, g0, g2, hbel⟩ := hrel
    by_cases hlt : j < 16
    · have c0 := g0.cell (upto_old _ _ hlt (Nat.le_refl j))
      have f0 := g0.frozen j
      have hs := g0.set_ j (addF b k j)
      rw [← upto_succ, addF] at hs
      have hik : ((k.map bv).toArray)[j]? = some (.int .u8 ((at0 k j).toNat : Int)) := by simp [at0_of (show j < k.length by rw [Hk.out]; exact hlt), bv]
      have j0 : 0 ≤ (j : Int) := by omega
      have j1 : (j : Int) < 16 := by omega
      go_wp2_with ((with_reducible show wpList _ _ _ (⟨some 11, _, _, _, _, _⟩ :: _) _ _); refine wpList_index_cell rfl (some 11) rfl 51 (.tmp 7) (.tmp 8) rfl (k.map bv).toArray rfl j rfl 16 5 Tryd.underlying51 byte_plain i0 hi0 byteCells _ hik hlt ?_)
      rw [b_xor]
      exact ⟨⟨j + 1, by omega, by go_num, hs, g2.far (by simp; try omega) _, hbel.setCell (by simp) _⟩, by simp [intOf]; omega⟩
    · obtain rfl : j = 16 := by omega
      rw [show ((16 : Nat) : Int) = 16 from rfl]
      rw [upto_all] at g0
      rw [show (List.range 16).map (addF b k) = addU b k from rfl] at g0
      generalize hq : addU b k = q at *
      have Hq := Lib.hid hq
      clear hq
      go_wp2_with (first
        | ((with_reducible show wpList _ _ _ (⟨some 19, _, _, _, _, _⟩ :: _) _ _); refine wpList_load_row rfl 51 (.tmp 2) rfl w.heap.size rfl 51 (q.map bv).toArray (0, 0) _ g0 Tryd.underlying51 rfl Hiz.out ?_)
        | ((with_reducible show wpList _ _ _ (⟨none, Op.store 51 _ _, _, _, _, _⟩ :: _) _ _); refine wpList_store_row rfl 51 (.tmp 4) (.tmp 19) rfl (w.heap.size + 1 + 1) (q.map bv).toArray rfl rfl 51 _ g2 Hiz.out Hsz.out (one_bvA q) ?_))
      exact bodyPost_ret (results_cell_row rfl _ _ (w.heap.size + 1 + 1) 51 _ (0, 0) _ rfl (g2.row q) Tryd.underlying51 rfl Hiz.out) rfl ⟨by rw [Hq.out], below_setRow hbel (by omega) _⟩


/-- a cipher's block: the boxes, and keys behind them -/
def CipAt (w : World) (g : Nat) (K : List UInt8) : Prop := ArrB w g 84 (boxT ++ K)
theorem CipAt.box {w : World} {g : Nat} {K : List UInt8} (h : CipAt w g K) (x : UInt8) : w.cell? ⟨g, x.toNat, none⟩ = some (.int .u8 ((boxU x).toNat : Int)) :=
  ArrB.cell h (by rw [List.getElem?_append_left (by rw [boxT_len]; exact b_lt x)]; exact boxU_at x)

set_option maxRecDepth 100000 in
set_option maxHeartbeats 800000 in
theorem boxed_any (g : Nat) (K b : List UInt8) (w : World) (hC : CipAt w g K) (hb : b.length = 16) :
    Calls Tryd.prog 60 #[.pointer (some ⟨g, 0, none⟩), .agg (b.map bv).toArray] w fun e w' => e = .returned (.agg ((boxL b).map bv).toArray) ∧ Below w.heap.size w w' := by
  have Hib := Lib.hid (size16 hb)
  have Hiz := Lib.hid (size16 (boxL_len b))
  have Hsz := Lib.hid (same16 (boxL_len b) zero16_len)
  have Hb := Lib.hid hb
  obtain ⟨i0, hi0⟩ := byte_info
  have hg := ArrB.lt hC
  clear hb
  go_enter Tryd.func60, Tryd.ntmps60
  go_wp2_with ((with_reducible show wpList _ _ _ (⟨some 7, _, _, _, _, _⟩ :: _) _ _); refine wpList_load_row rfl 51 (.tmp 3) rfl w.heap.size rfl 51 (b.map bv).toArray (0, 0) _ ((ArrB.mk_ w _ _ b rfl rfl).alloc _) Tryd.underlying51 rfl Hib.out ?_)
  go_loopw [8] (fun i wr => ∃ j : Nat, j ≤ 16 ∧ i = .int .i64 (j : Int) ∧ ArrB wr w.heap.size 51 (upto (boxF b) (at0 b) 16 j) ∧ ArrB wr (w.heap.size + 1) 51 zero16 ∧ Below w.heap.size w wr) (fun i _ => (16 - intOf i).toNat)
  case atStart =>
    refine ⟨0, by omega, rfl, ?_, ArrB.mk_ _ _ _ _ (by simp) rfl, ((Below.refl _ _).alloc (Nat.le_refl _) _).alloc (al0 _ _) _⟩
    rw [upto_zero, map_at0 Hb.out]
    exact (ArrB.mk_ w _ _ b rfl rfl).alloc _
  case round =>
    obtain ⟨j, hj, rfl, g0, g2, hbel⟩ := hrel
    by_cases hlt : j < 16
    · have c0 := g0.cell (upto_old _ _ hlt (Nat.le_refl j))
      have f0 := g0.frozen j
      have hs := g0.set_ j (boxF b j)
      rw [← upto_succ, boxF] at hs
      have cb := CipAt.box (ArrB.below hC hbel hg) (at0 b j)
      have hik : ((b.map bv).toArray)[j]? = some (.int .u8 ((at0 b j).toNat : Int)) := by simp [at0_of (show j < b.length by rw [Hb.out]; exact hlt), bv]
      have hx := b_lt (at0 b j)
      have j0 : 0 ≤ (j : Int) := by omega
      have j1 : (j : Int) < 16 := by omega
      generalize at0 b j = x at *
      generalize boxU x = y at *
      go_wp2_with ((with_reducible show wpList _ _ _ (⟨some 11, _, _, _, _, _⟩ :: _) _ _); refine wpList_index_cell rfl (some 11) rfl 51 (.tmp 7) (.tmp 8) rfl (b.map bv).toArray rfl j rfl 16 5 Tryd.underlying51 byte_plain i0 hi0 byteCells _ hik hlt ?_)
      exact ⟨⟨j + 1, by omega, by go_num, hs, g2.far (by simp; try omega) _, hbel.setCell (by simp) _⟩, by simp [intOf]; omega⟩
    · obtain rfl : j = 16 := by omega
      rw [show ((16 : Nat) : Int) = 16 from rfl]
      rw [upto_all] at g0
      rw [show (List.range 16).map (boxF b) = boxL b from rfl] at g0
      generalize hq : boxL b = q at *
      have Hq := Lib.hid hq
      clear hq
      go_wp2_with (first
        | ((with_reducible show wpList _ _ _ (⟨some 21, _, _, _, _, _⟩ :: _) _ _); refine wpList_load_row rfl 51 (.tmp 3) rfl w.heap.size rfl 51 (q.map bv).toArray (0, 0) _ g0 Tryd.underlying51 rfl Hiz.out ?_)
        | ((with_reducible show wpList _ _ _ (⟨none, Op.store 51 _ _, _, _, _, _⟩ :: _) _ _); refine wpList_store_row rfl 51 (.tmp 4) (.tmp 21) rfl (w.heap.size + 1) (q.map bv).toArray rfl rfl 51 _ g2 Hiz.out Hsz.out (one_bvA q) ?_))
      exact bodyPost_ret (results_cell_row rfl _ _ (w.heap.size + 1) 51 _ (0, 0) _ rfl (g2.row q) Tryd.underlying51 rfl Hiz.out) rfl ⟨by rw [Hq.out], below_setRow hbel (by omega) _⟩

set_option maxRecDepth 100000 in
set_option maxHeartbeats 1600000 in
theorem turned_any (b : List UInt8) (w : World) (hb : b.length = 16) :
    Calls Tryd.prog 59 #[.agg (b.map bv).toArray] w fun e w' => e = .returned (.agg ((turnU b).map bv).toArray) ∧ Below w.heap.size w w' := by
  have Hiz := Lib.hid (size16 (turnU_len b))
  have Hsz := Lib.hid (same16 (turnU_len b) zero16_len)
  have Hb := Lib.hid hb
  clear hb
  go_enter Tryd.func59, Tryd.ntmps59
  go_wp2_with fail
  go_loopw [6] (fun i wr => ∃ c : Nat, c ≤ 4 ∧ i = .int .i64 (c : Int) ∧ ArrB wr w.heap.size 51 b ∧ ArrB wr (w.heap.size + 1) 51 zero16 ∧ ArrB wr (w.heap.size + 1 + 1) 51 (upto (turnF b) (fun _ => 0) 16 (0 + 4 * c)) ∧ Below w.heap.size w wr) (fun i _ => (4 - intOf i).toNat)
  case atStart =>
    refine ⟨0, by omega, rfl, ((ArrB.mk_ w _ _ b rfl rfl).alloc _).alloc _, (ArrB.mk_ _ _ _ zero16 (by simp) rfl).alloc _, ArrB.mk_ _ _ _ _ (by simp) (by rw [show 0 + 4 * 0 = 0 from rfl, upto_zero]; rfl), (((Below.refl _ _).alloc (Nat.le_refl _) _).alloc (al0 _ _) _).alloc (by simp; omega) _⟩
  case round =>
    obtain ⟨c, hc, rfl, g0, g1, g2, hbel⟩ := hrel
    by_cases hlt : c < 4
    · go_wp2_with fail
      go_loopw [9] (fun i wr => ∃ r : Nat, r ≤ 4 ∧ i = .int .i64 (r : Int) ∧ ArrB wr w.heap.size 51 b ∧ ArrB wr (w.heap.size + 1) 51 zero16 ∧ ArrB wr (w.heap.size + 1 + 1) 51 (upto (turnF b) (fun _ => 0) 16 (r + 4 * c)) ∧ Below w.heap.size w wr) (fun i _ => (4 - intOf i).toNat)
      case atStart => exact ⟨0, by omega, rfl, g0, g1, g2, hbel⟩
      case round =>
        obtain ⟨r, hr, rfl, g0, g1, g2, hbel⟩ := hrel
        by_cases hlr : r < 4
        · have hq : r + 4 * ((c + r) % 4) < 16 := by omega
          have cs := g0.cell (at0_of (show r + 4 * ((c + r) % 4) < b.length by rw [Hb.out]; exact hq))
          have c2 := g2.cell (upto_old (turnF b) (fun _ => 0) (show r + 4 * c < 16 by omega) (Nat.le_refl _))
          have f2 := g2.frozen (r + 4 * c)
          have hs := g2.set_ (r + 4 * c) (turnF b (r + 4 * c))
          rw [← upto_succ, turnF, show (r + 4 * c) % 4 = r by omega, show (r + 4 * c) / 4 = c by omega] at hs
          have j0 : 0 ≤ (c : Int) := by omega
          have j1 : (c : Int) < 4 := by omega
          have j2 : 0 ≤ (r : Int) := by omega
          have j3 : (r : Int) < 4 := by omega
          go_wp2_with fail
          refine ⟨⟨r + 1, by omega, by go_num, g0.far (by simp; try omega) _, g1.far (by simp; try omega) _, ?_, hbel.setCell (by simp; try omega) _⟩, by simp [intOf]; omega⟩
          rw [show r + 1 + 4 * c = r + 4 * c + 1 by omega]
          exact hs
        · obtain rfl : r = 4 := by omega
          rw [show ((4 : Nat) : Int) = 4 from rfl]
          go_wp2_with fail
          refine ⟨⟨c + 1, by omega, by go_num, g0, g1, ?_, hbel⟩, by simp [intOf]; omega⟩
          rw [show 0 + 4 * (c + 1) = 4 + 4 * c by omega]
          exact g2
    · obtain rfl : c = 4 := by omega
      rw [show ((4 : Nat) : Int) = 4 from rfl]
      rw [show 0 + 4 * 4 = 16 from rfl, upto_all, show (List.range 16).map (turnF b) = turnU b from rfl] at g2
      generalize hq : turnU b = q at *
      have Hq := Lib.hid hq
      clear hq
      go_wp2_with (first
        | ((with_reducible show wpList _ _ _ (⟨some 28, _, _, _, _, _⟩ :: _) _ _); refine wpList_load_row rfl 51 (.tmp 3) rfl (w.heap.size + 1 + 1) rfl 51 (q.map bv).toArray (0, 0) _ g2 Tryd.underlying51 rfl Hiz.out ?_)
        | ((with_reducible show wpList _ _ _ (⟨none, Op.store 51 _ _, _, _, _, _⟩ :: _) _ _); refine wpList_store_row rfl 51 (.tmp 2) (.tmp 28) rfl (w.heap.size + 1) (q.map bv).toArray rfl rfl 51 _ g1 Hiz.out Hsz.out (one_bvA q) ?_))
      exact bodyPost_ret (results_cell_row rfl _ _ (w.heap.size + 1) 51 _ (0, 0) _ rfl (g1.row q) Tryd.underlying51 rfl Hiz.out) rfl ⟨by rw [Hq.out], below_setRow hbel (by omega) _⟩

end Go.Proofs.YtajbaaamhddgiaaDoor

