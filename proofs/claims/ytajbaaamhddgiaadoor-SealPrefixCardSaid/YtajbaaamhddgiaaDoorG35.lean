import Derived.Test.YtajbaaamhddgiaaDoorG17
import Derived.Test.YtajbaaamhddgiaaDoorG32
import Derived.Test.YtajbaaamhddgiaaDoorG33
import Derived.Test.YtajbaaamhddgiaaDoorG34
import Derived.Lib.SmallJoins
/-
  CONTRACTS of the document's own stream and tag (coterieref07).
-/
set_option linter.unusedVariables false
namespace Go.Proofs.YtajbaaamhddgiaaDoor
open Go.RowKit

/-- an array of N bytes that is filled from the front -/
def arrTo (N : Nat) (b : List UInt8) (j : Nat) : List UInt8 := b.take j ++ List.replicate (N - j) 0
theorem arrTo_zero (N : Nat) (b : List UInt8) : arrTo N b 0 = List.replicate N 0 := by simp [arrTo]
theorem arrTo_all {N : Nat} {b : List UInt8} (hb : b.length = N) : arrTo N b N = b := by simp [arrTo, ← hb]
theorem arrTo_len {N : Nat} {b : List UInt8} {j : Nat} (hb : b.length = N) (hj : j ≤ N) : (arrTo N b j).length = N := by
  unfold arrTo
  simp
  omega
theorem arrTo_succ {N : Nat} {b : List UInt8} {j : Nat} {y : UInt8} (h : b[j]? = some y) (hb : b.length = N) : arrTo N b (j + 1) = (arrTo N b j).set j y := by
  have hj := (List.getElem?_eq_some_iff.1 h).1
  unfold arrTo
  rw [take_succ_of h, List.set_append_right _ _ (by simp; omega), show j - (b.take j).length = 0 from by simp; omega, show N - j = (N - (j + 1)) + 1 from by omega, List.replicate_succ]
  simp
theorem infoBk : (Tryd.prog.info? 51).map (·.size) = some 16 := by kernel_rfl
theorem infoNc : (Tryd.prog.info? 53).map (·.size) = some 12 := by kernel_rfl
theorem sizeBk {l : List UInt8} (h : l.length = 16) : (Tryd.prog.info? 51).map (·.size) = some ((l.map bv).toArray).size := by rw [infoBk]; simp [h]
theorem sizeNc {l : List UInt8} (h : l.length = 12) : (Tryd.prog.info? 53).map (·.size) = some ((l.map bv).toArray).size := by rw [infoNc]; simp [h]
theorem two_flat (a b : List UInt8) : [a, b].flatten = a ++ b := by simp
theorem stream_cells : (#[.int .u8 115, .int .u8 116, .int .u8 114, .int .u8 101, .int .u8 97, .int .u8 109] : Array Value).toList = streamL.map bv := rfl
theorem sum_cells : (#[.int .u8 115, .int .u8 117, .int .u8 109] : Array Value).toList = sumL.map bv := rfl

set_option maxRecDepth 100000 in
set_option maxHeartbeats 2000000 in
theorem RStream_any (k b : List UInt8) (A : Option Addr) (m c : Nat) (w : World) (hk : k.length = 32) (hr : Rd w w.heap.size A m (b.map bv)) (hm : m ≤ 1048576) (hK : KTab w) :
    Calls Tryd.prog 21 #[.agg (k.map bv).toArray, .slice A m c] w fun e w' =>
      ∃ A' c', e = .returned (.slice A' m c') ∧ w'.ownsRow w.heap.size 5 1 (.slice A' m c') m ((streamU k b).map bv) ∧ Below w.heap.size w w' := by
  have Hk := Lib.hid hk
  have hA4 : ArrB (w.alloc (.cells (k.map bv).toArray 23)) w.heap.size 23 k := ArrB.mk_ _ _ _ _ rfl rfl
  have hB4 := d_al w (.cells (k.map bv).toArray 23)
  have hx28 := expandU_len k streamL 28
  have Hst := Lib.hid (show streamU k b = ctrU ((expandU k streamL 28).take 16) ((expandU k streamL 28).drop 16) 0 b from rfl)
  have Hkb := Lib.hid (streamK_len k)
  have Hnb := Lib.hid (streamN_len k)
  clear hk
  go_enter Tryd.func21, Tryd.ntmps21
  go_upto_region 1 with (fail)
  generalize w.alloc (.cells (k.map bv).toArray 23) = w4 at *
  go_wp2_with ((with_reducible show wpList _ _ _ (⟨some 14, _, _, _, _, _⟩ :: _) _ _); refine wpList_load_row rfl 23 (.tmp 2) rfl (w.heap.size) rfl 23 (k.map bv).toArray (0, 0) _ (hA4) Tryd.underlying23 rfl (infoK32 Hk.out) ?_)
  have f1 : Rd (w4.alloc (.cells #[.int .u8 115, .int .u8 116, .int .u8 114, .int .u8 101, .int .u8 97, .int .u8 109] 5 (6, 7))) (w4.alloc (.cells #[.int .u8 115, .int .u8 116, .int .u8 114, .int .u8 101, .int .u8 97, .int .u8 109] 5 (6, 7))).heap.size (some ⟨w4.heap.size, 0, none⟩) 6 (streamL.map bv) := Rd.mkFr _ _ _ _ rfl (by simp) rfl rfl
  have f2 : Below w4.heap.size w4 (w4.alloc (.cells #[.int .u8 115, .int .u8 116, .int .u8 114, .int .u8 101, .int .u8 97, .int .u8 109] 5 (6, 7))) := d_al _ _
  have K0 := Lib.hid (Go.Joins.run_convert_bytes_const_at (P := Tryd.prog) w4 24 5 #[.int .u8 115, .int .u8 116, .int .u8 114, .int .u8 101, .int .u8 97, .int .u8 109] 6 6 w4.heap.size rfl Tryd.underlying24 Tryd.underlying5)
  rw [K0.out]
  clear K0
  generalize w4.alloc (.cells #[.int .u8 115, .int .u8 116, .int .u8 114, .int .u8 101, .int .u8 97, .int .u8 109] 5 (6, 7)) = wa at *
  have hBa := c_call hB4 f2
  go_wp2_with fail
  have hcall := rExpand_ok k (some ⟨w4.heap.size, 0, none⟩) 6 6 streamL 28 wa Hk.out (by omega) (by omega) (by omega) f1 (hK.below hBa)
  rw [show ((28 : Nat) : Int) = 28 from rfl] at hcall
  refine hcall.mono ?_
  rintro e w8 ⟨A8, c8, rfl, hc8, hr8, hb8⟩
  clear hcall f1 f2 hA4 hB4
  have hB8 := c_call hBa hb8
  have hrb := d_rd hr hB8
  clear hb8 hBa hr
  obtain ⟨x, hx⟩ : ∃ x, x = expandU k streamL 28 := ⟨_, rfl⟩
  rw [← hx] at hr8 hx28 Hst Hkb Hnb
  clear hx
  obtain ⟨kb, hkb⟩ : ∃ kb, kb = x.take 16 := ⟨_, rfl⟩
  obtain ⟨nb, hnb⟩ : ∃ nb, nb = x.drop 16 := ⟨_, rfl⟩
  rw [← hkb, ← hnb] at Hst
  rw [← hkb] at Hkb
  rw [← hnb] at Hnb
  have Hke := Lib.hid hkb
  have Hne := Lib.hid hnb
  clear hkb hnb
  obtain ⟨ba, o, rfl, hba, hcell⟩ := hr8.pos (by omega)
  clear hcell
  have hs8 := hB8.size
  have hG1 : ArrB (w8.alloc (.cells #[.int .u8 0, .int .u8 0, .int .u8 0, .int .u8 0, .int .u8 0, .int .u8 0, .int .u8 0, .int .u8 0, .int .u8 0, .int .u8 0, .int .u8 0, .int .u8 0, .int .u8 0, .int .u8 0, .int .u8 0, .int .u8 0] 51)) w8.heap.size 51 (List.replicate 16 0) := ArrB.mk_ _ _ _ _ rfl rfl
  have hG2 : ArrB ((w8.alloc (.cells #[.int .u8 0, .int .u8 0, .int .u8 0, .int .u8 0, .int .u8 0, .int .u8 0, .int .u8 0, .int .u8 0, .int .u8 0, .int .u8 0, .int .u8 0, .int .u8 0, .int .u8 0, .int .u8 0, .int .u8 0, .int .u8 0] 51)).alloc (.cells #[.int .u8 0, .int .u8 0, .int .u8 0, .int .u8 0, .int .u8 0, .int .u8 0, .int .u8 0, .int .u8 0, .int .u8 0, .int .u8 0, .int .u8 0, .int .u8 0] 53)) (w8.heap.size + 1) 53 (List.replicate 12 0) := ArrB.mk_ _ _ _ _ (by simp) rfl
  have hG1' := hG1.alloc (.cells #[.int .u8 0, .int .u8 0, .int .u8 0, .int .u8 0, .int .u8 0, .int .u8 0, .int .u8 0, .int .u8 0, .int .u8 0, .int .u8 0, .int .u8 0, .int .u8 0] 53)
  have hBx := c_alloc (c_alloc hB8 (.cells #[.int .u8 0, .int .u8 0, .int .u8 0, .int .u8 0, .int .u8 0, .int .u8 0, .int .u8 0, .int .u8 0, .int .u8 0, .int .u8 0, .int .u8 0, .int .u8 0, .int .u8 0, .int .u8 0, .int .u8 0, .int .u8 0] 51)) (.cells #[.int .u8 0, .int .u8 0, .int .u8 0, .int .u8 0, .int .u8 0, .int .u8 0, .int .u8 0, .int .u8 0, .int .u8 0, .int .u8 0, .int .u8 0, .int .u8 0] 53)
  have hRx := (hr8.alloc (Nat.le_refl _) (.cells #[.int .u8 0, .int .u8 0, .int .u8 0, .int .u8 0, .int .u8 0, .int .u8 0, .int .u8 0, .int .u8 0, .int .u8 0, .int .u8 0, .int .u8 0, .int .u8 0, .int .u8 0, .int .u8 0, .int .u8 0, .int .u8 0] 51)).alloc (al0 _ _) (.cells #[.int .u8 0, .int .u8 0, .int .u8 0, .int .u8 0, .int .u8 0, .int .u8 0, .int .u8 0, .int .u8 0, .int .u8 0, .int .u8 0, .int .u8 0, .int .u8 0] 53)
  have hRb := (hrb.alloc (Nat.le_refl _) (.cells #[.int .u8 0, .int .u8 0, .int .u8 0, .int .u8 0, .int .u8 0, .int .u8 0, .int .u8 0, .int .u8 0, .int .u8 0, .int .u8 0, .int .u8 0, .int .u8 0, .int .u8 0, .int .u8 0, .int .u8 0, .int .u8 0] 51)).alloc (al0 _ _) (.cells #[.int .u8 0, .int .u8 0, .int .u8 0, .int .u8 0, .int .u8 0, .int .u8 0, .int .u8 0, .int .u8 0, .int .u8 0, .int .u8 0, .int .u8 0, .int .u8 0] 53)
  go_upto_region 4 with (fail)
  refine wp_gen (fun wx => ArrB wx w8.heap.size 51 (List.replicate 16 0) ∧ ArrB wx (w8.heap.size + 1) 53 (List.replicate 12 0) ∧ Below w.heap.size w wx ∧ Rd wx w8.heap.size (some ⟨ba, o, none⟩) 28 (x.map bv) ∧ Rd wx w8.heap.size A m (b.map bv)) ⟨hG1', hG2, hBx, hRx, hRb⟩ ?_
  clear hG1 hG2 hG1' hBx hRx hRb hB8 hr8 hrb
  rintro wb ⟨hE1, hE2, hE3, hE4, hE5⟩
  generalize w8.heap.size = gB at *
  go_wp2_with fail
  go_loopw [20] (fun i wr => ∃ j : Nat, j ≤ 16 ∧ i = .int .i64 (j : Int) ∧ ArrB wr gB 51 (arrTo 16 kb j) ∧ ArrB wr (gB + 1) 53 (List.replicate 12 0) ∧ Below w.heap.size w wr ∧ Rd wr gB (some ⟨ba, o, none⟩) 28 (x.map bv) ∧ Rd wr gB A m (b.map bv)) (fun i _ => 16 - (intOf i).toNat)
  case atStart => exact ⟨0, by omega, rfl, by rw [arrTo_zero]; exact hE1, hE2, hE3, hE4, hE5⟩
  case round =>
    clear hE1 hE2 hE3 hE4 hE5
    obtain ⟨j, hj, rfl, hA, hN, hB, hX, hT⟩ := hrel
    by_cases hlt : j < 16
    · obtain ⟨y, hy⟩ : ∃ y, x[j]? = some y := ⟨_, List.getElem?_eq_getElem (by omega)⟩
      have cb : wr.cell? ⟨ba, o + j, none⟩ = some (.int .u8 (y.toNat : Int)) := by
        obtain ⟨b', o', he, _, hcz⟩ := hX.pos (by omega)
        injection he with he
        injection he with he1 he2
        subst he1 he2
        exact hcz j _ (by rw [List.getElem?_map, hy]; rfl)
      have hyk : kb[j]? = some y := by rw [Hke.out, List.getElem?_take, if_pos hlt]; exact hy
      have kl := arrTo_len Hkb.out hj
      obtain ⟨z0, hz0⟩ : ∃ z0, (arrTo 16 kb j)[j]? = some z0 := ⟨_, List.getElem?_eq_getElem (by omega)⟩
      have c0 := hA.cell hz0
      have f0 := hA.frozen j
      have Hs := Lib.hid (arrTo_succ hyk Hkb.out)
      have hA2 := hA.set_ j y
      rw [← Hs.out] at hA2
      have hN2 := hN.far (p := ⟨gB, j, none⟩) (show gB + 1 ≠ gB by omega) (.int .u8 (y.toNat : Int))
      have hX2 := hX.setCell (p := ⟨gB, j, none⟩) (Nat.le_refl _) (.int .u8 (y.toNat : Int))
      have hT2 := hT.setCell (p := ⟨gB, j, none⟩) (Nat.le_refl _) (.int .u8 (y.toNat : Int))
      have hB2 := hB.setCell (p := ⟨gB, j, none⟩) hs8 (.int .u8 (y.toNat : Int))
      have j0 : (0 : Int) ≤ (j : Int) := by omega
      have j1 : (j : Int) < 16 := by omega
      have j2 : (j : Int) < 28 := by omega
      clear hy hz0 kl hyk
      go_wp2_with fail
      go_roundw
      case rel => exact ⟨j + 1, by omega, by go_num, hA2, hN2, hB2, hX2, hT2⟩
      case measure => simp [intOf]; omega
    · obtain rfl : j = 16 := by omega
      rw [arrTo_all Hkb.out] at hA
      rw [show ((16 : Nat) : Int) = 16 from rfl]
      go_wp2_with fail
      go_loopw [30] (fun i wr => ∃ j : Nat, j ≤ 12 ∧ i = .int .i64 (j : Int) ∧ ArrB wr gB 51 kb ∧ ArrB wr (gB + 1) 53 (arrTo 12 nb j) ∧ Below w.heap.size w wr ∧ Rd wr gB (some ⟨ba, o, none⟩) 28 (x.map bv) ∧ Rd wr gB A m (b.map bv)) (fun i _ => 12 - (intOf i).toNat)
      case atStart => exact ⟨0, by omega, rfl, hA, by rw [arrTo_zero]; exact hN, hB, hX, hT⟩
      case round =>
        clear hA hN hB hX hT
        obtain ⟨j, hj, rfl, hA, hN, hB, hX, hT⟩ := hrel
        by_cases hlt : j < 12
        · obtain ⟨y, hy⟩ : ∃ y, x[16 + j]? = some y := ⟨_, List.getElem?_eq_getElem (by omega)⟩
          have cb : wr.cell? ⟨ba, o + (16 + j), none⟩ = some (.int .u8 (y.toNat : Int)) := by
            obtain ⟨b', o', he, _, hcz⟩ := hX.pos (by omega)
            injection he with he
            injection he with he1 he2
            subst he1 he2
            exact hcz (16 + j) _ (by rw [List.getElem?_map, hy]; rfl)
          have hyk : nb[j]? = some y := by rw [Hne.out, List.getElem?_drop]; exact hy
          have kl := arrTo_len Hnb.out hj
          obtain ⟨z0, hz0⟩ : ∃ z0, (arrTo 12 nb j)[j]? = some z0 := ⟨_, List.getElem?_eq_getElem (by omega)⟩
          have c0 := hN.cell hz0
          have f0 := hN.frozen j
          have Hs := Lib.hid (arrTo_succ hyk Hnb.out)
          have hN2 := hN.set_ j y
          rw [← Hs.out] at hN2
          have hA2 := hA.far (p := ⟨gB + 1, j, none⟩) (show gB ≠ gB + 1 by omega) (.int .u8 (y.toNat : Int))
          have hX2 := hX.setCell (p := ⟨gB + 1, j, none⟩) (Nat.le_succ _) (.int .u8 (y.toNat : Int))
          have hT2 := hT.setCell (p := ⟨gB + 1, j, none⟩) (Nat.le_succ _) (.int .u8 (y.toNat : Int))
          have hB2 := hB.setCell (p := ⟨gB + 1, j, none⟩) (by show _ ≤ gB + 1; omega) (.int .u8 (y.toNat : Int))
          have e16 : (16 : Int) + (j : Int) = ((16 + j : Nat) : Int) := by omega
          have hw16 : IntKind.i64.wrap ((16 + j : Nat) : Int) = ((16 + j : Nat) : Int) := by rw [IntKind.wrap_i64]; omega
          have j0 : (0 : Int) ≤ (j : Int) := by omega
          have j1 : (j : Int) < 12 := by omega
          have j2 : ((16 + j : Nat) : Int) < 28 := by omega
          have j3 : 0 ≤ ((16 + j : Nat) : Int) := by omega
          have Hnx := Lib.hid (show (j : Int) + 1 = ((j + 1 : Nat) : Int) by omega)
          clear hy hz0 kl hyk
          generalize 16 + j = jj at *
          go_wp2_with fail
          go_roundw
          case rel => exact ⟨j + 1, by omega, by go_num, hA2, hN2, hB2, hX2, hT2⟩
          case measure => simp [intOf]; omega
        · obtain rfl : j = 12 := by omega
          rw [arrTo_all Hnb.out] at hN
          rw [show ((12 : Nat) : Int) = 12 from rfl]
          have hsz := hA.lt
          have hcall := RCtr_ok kb nb b 0 m c A wr Hkb.out Hnb.out (by omega) (hT.more (Nat.le_of_lt hsz)) hm (by unfold nbs; omega)
          rw [show ((0 : Nat) : Int) = 0 from rfl, ← Hst.out] at hcall
          go_wp2_with (first
            | ((with_reducible show wpList _ _ _ (⟨some 42, _, _, _, _, _⟩ :: _) _ _); refine wpList_load_row rfl 51 (.tmp 7) rfl (gB) rfl 51 (kb.map bv).toArray (0, 0) _ (hA) Tryd.underlying51 rfl (sizeBk Hkb.out) ?_)
            | ((with_reducible show wpList _ _ _ (⟨some 43, _, _, _, _, _⟩ :: _) _ _); refine wpList_load_row rfl 53 (.tmp 8) rfl (gB + 1) rfl 53 (nb.map bv).toArray (0, 0) _ (hN) Tryd.underlying53 rfl (sizeNc Hnb.out) ?_))
          refine hcall.mono ?_
          rintro e w9 ⟨A9, c9, rfl, ho9, hb9⟩
          go_wp2_with fail
          go_ret
          exact ⟨A9, c9, rfl, own_base ho9 hB.size, c_call hB hb9⟩

/-- what the document's sum of texts beside answers -/
def TagPost (w : World) (k hidden : List UInt8) (ts : List (List UInt8)) (e : Ending) (w' : World) : Prop :=
  Below w.heap.size w w' ∧ ((GoodT ts ∧ ∃ g c, w.heap.size ≤ g ∧ 16 ≤ c ∧ e = .returned (.tuple #[.slice (some ⟨g, 0, none⟩) 16 c, .bool true]) ∧ Rd w' w'.heap.size (some ⟨g, 0, none⟩) 16 ((tagU k hidden ts).map bv)) ∨
    (¬ GoodT ts ∧ e = .returned (.tuple #[.slice none 0 0, .bool false])))
theorem TagPost.yes {w w' : World} {k hidden : List UInt8} {ts : List (List UInt8)} {e : Ending} (h : TagPost w k hidden ts e w') (hg : GoodT ts) :
    ∃ g c, w.heap.size ≤ g ∧ 16 ≤ c ∧ e = .returned (.tuple #[.slice (some ⟨g, 0, none⟩) 16 c, .bool true]) ∧ Rd w' w'.heap.size (some ⟨g, 0, none⟩) 16 ((tagU k hidden ts).map bv) ∧ Below w.heap.size w w' := by
  obtain ⟨hb, ⟨_, g, c, h1, h2, h3, h4⟩ | ⟨h1, _⟩⟩ := h
  · exact ⟨g, c, h1, h2, h3, h4, hb⟩
  · exact absurd hg h1
theorem TagPost.no {w w' : World} {k hidden : List UInt8} {ts : List (List UInt8)} {e : Ending} (h : TagPost w k hidden ts e w') (hg : ¬ GoodT ts) :
    e = .returned (.tuple #[.slice none 0 0, .bool false]) ∧ Below w.heap.size w w' := by
  obtain ⟨hb, ⟨h1, _⟩ | ⟨_, h2⟩⟩ := h
  · exact absurd h1 hg
  · exact ⟨h2, hb⟩

set_option maxRecDepth 100000 in
set_option maxHeartbeats 2000000 in
theorem RTag_any (k b : List UInt8) (A : Option Addr) (m c : Nat) (At : Option Addr) (mt ct : Nat) (vs : List Value) (ts : List (List UInt8)) (w : World) (hk : k.length = 32) (hmc : m ≤ c) (hr : Rd w w.heap.size A m (b.map bv)) (hm : m ≤ 1048576)
    (hmt : mt ≤ 1048576) (htx : GoodT ts → (txs ts).length ≤ 536870912) (hv : Rd w w.heap.size At mt vs) (ht : Txs w w.heap.size vs ts) (hK : KTab w) :
    Calls Tryd.prog 22 #[.agg (k.map bv).toArray, .slice A m c, .slice At mt ct] w (TagPost w k b ts) := by
  have Hk := Lib.hid hk
  have Hbl := Lib.hid (show b.length = m by simpa using hr.len)
  have Htl := Lib.hid (show ts.length = mt by rw [← ht.1]; exact hv.len)
  have hA4 : ArrB (w.alloc (.cells (k.map bv).toArray 23)) w.heap.size 23 k := ArrB.mk_ _ _ _ _ rfl rfl
  have hB4 := d_al w (.cells (k.map bv).toArray 23)
  have hlt4 := hA4.lt
  have hr4 := d_rd hr hB4
  have hv4 := d_rd hv hB4
  have ht4 := d_txs ht hB4
  clear hk hr hv ht
  obtain ⟨i0, hi0, hz0, hz1, hz2⟩ := info_parts byteInfo
  go_enter Tryd.func22, Tryd.ntmps22
  go_upto_region 1 with (fail)
  generalize w.alloc (.cells (k.map bv).toArray 23) = w4 at *
  go_wp2_with fail
  refine (refText_any none 0 0 [] At mt ct vs ts w4 (by omega) (by omega) (Rd.zero _ _ _) hv4 ht4).mono ?_
  intro e w5 hP
  by_cases hg : GoodT ts
  rotate_left
  · obtain ⟨rfl, hb5⟩ := hP.no hg
    go_wp2_with fail
    exact bodyPost_ret (results_tmp2 rfl _ _ _) rfl ⟨c_call hB4 hb5, .inr ⟨hg, rfl⟩⟩
  obtain ⟨A5, n, c5, rfl, hown5, hnc, hln0, hb5⟩ := hP.yes hg
  rw [List.nil_append] at hown5 hln0
  have hln : n ≤ 536870912 := by rw [hln0.out]; exact htx hg
  have hA5 := hA4.below hb5 hA4.lt
  have hr5 := d_rd hr4 hb5
  have hB5 := c_call hB4 hb5
  have hs5 := hb5.size
  have hcb := fun wx => Bytes_any 4 mt wx (by omega) (by omega)
  rw [show ((4 : Nat) : Int) = 4 from rfl] at hcb
  have hwm : IntKind.u64.wrap (mt : Int) = (mt : Int) := by rw [IntKind.wrap_u64]; omega
  have m0 : (0 : Int) ≤ (mt : Int) := by omega
  clear hA4 hv4 ht4 hP
  go_wp2_with fail
  refine (hcb _).mono ?_
  rintro e w6 ⟨A6, c6, rfl, hown6, hb6⟩
  have hr6n := Rd.of_own hown6
  have hl6 : ((be 4 mt).map bv).length = 4 := by simp [be_length]
  have hown5' := own_below hown5 hb6
  have hA6 := hA5.below hb6 hA5.lt
  have hr6 := d_rd hr5 hb6
  have hB6 := c_call hB5 hb6
  have hs6 := hb6.size
  clear hA5 hr5 hcb
  have hr46 := hr4.below (c_call hb5 hb6)
  have hge : ∀ g, (Value.slice A5 n c5).ownBlock = some g → w4.heap.size ≤ g := fun g hg => (hown5'.lt g hg).1
  go_wp2_with (first
    | (at_builtin; refine wpList_append_rd _ rfl (.tmp 20) (.tmp 24) _ rfl (w4.heap.size) 5 i0 _ 1 Tryd.underlying24 hi0 hz0 hz1 hz2 rfl (.slice A5 n c5) n _ rfl hown5' w6.heap.size A6 4 c6 ((be 4 mt).map bv) rfl hr6n (one_bv _) (by simp only [maxLen]; omega) (by omega) (by omega) ?_; intro v7 w7 hown7 hgr7 hat7; obtain ⟨A7, c7, rfl, hc7, _⟩ := own_form hown7; have hA7 := hA6.of (hgr7.block w.heap.size (by have := hA6.lt; omega) (fun e => by have := hge _ e.symm; omega)); have hB7 := hB6.grown hgr7 hB6.size (fun g hg => Nat.le_trans hB4.size (hge g hg)))
    | ((with_reducible show wpList _ _ _ (⟨some 27, _, _, _, _, _⟩ :: _) _ _); refine wpList_load_row rfl 23 (.tmp 3) rfl (w.heap.size) rfl 23 (k.map bv).toArray (0, 0) _ (hA7) Tryd.underlying23 rfl (infoK32 Hk.out) ?_))
  have hr7a := Rd.of_own hown7
  rw [← List.map_append] at hr7a
  have Hbes := Lib.hid (show txs ts ++ be 4 mt = besideU ts by unfold besideU; rw [Htl.out])
  rw [Hbes.out] at hr7a
  have hs7 := hgr7.size
  have hr7t := (hr46.grown hgr7 (by omega) hge).more (show w4.heap.size ≤ w7.heap.size by omega)
  have hbl7 := Lib.hid (show (besideU ts).length = n + 4 by rw [← Hbes.out, List.length_append, be_length, hln0.out])
  have Htag := Lib.hid (show tagU k b ts = (macU (expandU k sumL 32) (besideU ts ++ b)).take 16 from rfl)
  generalize besideU ts = bes at *
  clear hown7 hgr7 hat7 hown6 hown5' hr6n hA6 hr6 hB6 hown5 hb6 hb5 hB5 hge hr46 hA7
  have f1 : Rd (w7.alloc (.cells #[.int .u8 115, .int .u8 117, .int .u8 109] 5 (3, 4))) (w7.alloc (.cells #[.int .u8 115, .int .u8 117, .int .u8 109] 5 (3, 4))).heap.size (some ⟨w7.heap.size, 0, none⟩) 3 (sumL.map bv) := Rd.mkFr _ _ _ _ rfl (by simp) rfl rfl
  have f2 : Below w7.heap.size w7 (w7.alloc (.cells #[.int .u8 115, .int .u8 117, .int .u8 109] 5 (3, 4))) := d_al _ _
  have K0 := Lib.hid (Go.Joins.run_convert_bytes_const_at (P := Tryd.prog) w7 24 5 #[.int .u8 115, .int .u8 117, .int .u8 109] 3 3 w7.heap.size rfl Tryd.underlying24 Tryd.underlying5)
  rw [K0.out]
  clear K0
  generalize w7.alloc (.cells #[.int .u8 115, .int .u8 117, .int .u8 109] 5 (3, 4)) = wa at *
  have hBa := c_call hB7 f2
  have hraa := d_rd hr7a f2
  have hrat := d_rd hr7t f2
  go_wp2_with fail
  have hcall := rExpand_ok k (some ⟨w7.heap.size, 0, none⟩) 3 3 sumL 32 wa Hk.out (by omega) (by omega) (by omega) f1 (hK.below hBa)
  rw [show ((32 : Nat) : Int) = 32 from rfl] at hcall
  refine hcall.mono ?_
  rintro e w8 ⟨A8, c8, rfl, hc8, hr8, hb8⟩
  have hB8 := c_call hBa hb8
  have hr8a := d_rd hraa hb8
  have hr8t := d_rd hrat hb8
  have Hxl := Lib.hid (expandU_len k sumL 32)
  clear hcall f1 f2 hr7a hr7t hraa hrat hBa hB7
  generalize expandU k sumL 32 = xs at *
  have hal := d_al w8 (.cells #[.slice A7 (n + 4) c7, .slice A m c] 24)
  have hmac := rMac_any A8 32 c8 xs (some ⟨w8.heap.size, 0, none⟩) 2 2 [.slice A7 (n + 4) c7, .slice A m c] [bes, b] (w8.alloc (.cells #[.slice A7 (n + 4) c7, .slice A m c] 24)) hc8 (by omega) (by omega) (by rw [two_flat]; simp only [List.length_append, hbl7.out, Hbl.out]; omega) (d_rd hr8 hal) (Rd.mk_ _ _ _ rfl (by simp) rfl rfl)
    (Txs.cons (txs_one1 hbl7.out hc7 (d_rd hr8a hal)) (txs_one1 Hbl.out hmc (d_rd hr8t hal))) (hK.below (c_call hB8 hal))
  rw [two_flat] at hmac
  go_wp2_with fail
  refine hmac.mono ?_
  rintro e w9 ⟨rfl, hb9⟩
  have hB9 := c_call (c_call hB8 hal) hb9
  have Hml := Lib.hid (macU_len xs (bes ++ b))
  clear hmac hb9 hal hr8 hr8a hr8t hB8
  generalize macU xs (bes ++ b) = mc at *
  have hQ : ArrB (w9.alloc (.cells (mc.map bv).toArray 23)) w9.heap.size 23 mc := ArrB.mk_ _ _ _ _ rfl rfl
  have hrQ := (hQ.rd Hml.out).take (show 16 ≤ 32 by omega)
  rw [← List.map_take, ← Htag.out] at hrQ
  go_wp2_with ((with_reducible show wpList _ _ _ (⟨none, Op.store 23 _ _, _, _, _, _⟩ :: _) _ _); refine wpList_store_row rfl 23 (.tmp 12) (.tmp 37) rfl w9.heap.size (mc.map bv).toArray rfl rfl 23 ((List.replicate 32 (0 : UInt8)).map bv).toArray (heap_alloc_new _ _) (infoK32 Hml.out) (sizeK Hml.out) (one_bvA _) ?_; rw [World.setRow_alloc_new])
  exact bodyPost_ret (results_tmp2 rfl _ _ _) rfl ⟨c_alloc hB9 _, .inl ⟨hg, w9.heap.size, 32, hB9.size, by omega, rfl, hrQ⟩⟩

end Go.Proofs.YtajbaaamhddgiaaDoor

/-
  CONTRACTS of the document's own Seal, Open and Long (coterieref07), and what such calls answer.
-/
set_option linter.unusedVariables false
namespace Go.Proofs.YtajbaaamhddgiaaDoor
open Go.RowKit

theorem own_cap {w : World} {base n c : Nat} {e : TypeId} {A : Option Addr} {xs : List Value} (h : w.ownsRow base e 1 (.slice A n c) n xs) : n ≤ c := by
  obtain ⟨A', c', h1, h2, _⟩ := own_form h
  injection h1 with _ _ h3
  omega
/-- bytes that are new: in a block laid since w, and not frozen -/
def NewB (w w' : World) (A : Option Addr) (n c : Nat) (xs : List UInt8) : Prop :=
  Rd w' w'.heap.size A n (xs.map bv) ∧ n ≤ c ∧ c ≤ maxLen ∧ ∀ ad, A = some ad → w.heap.size ≤ ad.block ∧ ∀ j, w'.frozen? ⟨ad.block, j, none⟩ = false
theorem NewB.of_own {w w' : World} {base n c : Nat} {A : Option Addr} {xs : List UInt8} (h : w'.ownsRow base 5 1 (.slice A n c) n (xs.map bv)) (hb : w.heap.size ≤ base) : NewB w w' A n c xs := by
  refine ⟨Rd.of_own h, own_cap h, ?_, fun ad had => ?_⟩
  · rcases h.2 with ⟨h1, h2⟩ | ⟨g, cap, cur, h1, _, _, _, h2, _⟩
    · injection h1 with _ _ h3
      subst h3
      exact Nat.zero_le _
    · injection h1 with _ _ h3
      subst h3
      exact h2
  · rcases h.2 with ⟨h1, _⟩ | ⟨g, cap, cur, h1, h2, h3, _⟩
    · injection h1 with h3
      rw [h3] at had
      cases had
    · injection h1 with h4
      rw [h4] at had
      injection had with had
      subst had
      exact ⟨Nat.le_trans hb h2, fun j => frozen_of_row w' g j _ _ h3⟩
/-- what sealing answers -/
def SealPost (w : World) (k b : List UInt8) (ts : List (List UInt8)) (e : Ending) (w' : World) : Prop :=
  Below w.heap.size w w' ∧ ((b.length ≤ 1048576 ∧ GoodT ts ∧ ∃ A n c, e = .returned (.tuple #[.slice A n c, .int .i64 0]) ∧ NewB w w' A n c (sealU k b ts)) ∨
    (¬ (b.length ≤ 1048576 ∧ GoodT ts) ∧ e = .returned (.tuple #[.slice none 0 0, .int .i64 4])))
/-- what opening answers -/
def OpenPost (w : World) (k b : List UInt8) (ts : List (List UInt8)) (e : Ending) (w' : World) : Prop :=
  Below w.heap.size w w' ∧ ((b.length < 16 ∧ e = .returned (.tuple #[.slice none 0 0, .int .i64 2])) ∨
    (16 ≤ b.length ∧ ¬ (b.length ≤ 1048592 ∧ GoodT ts) ∧ e = .returned (.tuple #[.slice none 0 0, .int .i64 4])) ∨
    (16 ≤ b.length ∧ b.length ≤ 1048592 ∧ GoodT ts ∧ ¬ soundU k b ts ∧ e = .returned (.tuple #[.slice none 0 0, .int .i64 5])) ∨
    (16 ≤ b.length ∧ b.length ≤ 1048592 ∧ GoodT ts ∧ soundU k b ts ∧ ∃ A n c, e = .returned (.tuple #[.slice A n c, .int .i64 0]) ∧ NewB w w' A n c (openU k b)))

theorem SealPost.yes {w w' : World} {k b : List UInt8} {ts : List (List UInt8)} {e : Ending} (h : SealPost w k b ts e w') (hl : b.length ≤ 1048576) (hg : GoodT ts) :
    ∃ A c, e = .returned (.tuple #[.slice A (b.length + 16) c, .int .i64 0]) ∧ NewB w w' A (b.length + 16) c (sealU k b ts) ∧ Below w.heap.size w w' := by
  obtain ⟨hb, ⟨_, _, A, n, c, rfl, hn⟩ | ⟨h1, _⟩⟩ := h
  · have hl2 : n = b.length + 16 := by
      have := hn.1.len
      rw [List.length_map, sealU_len] at this
      omega
    subst hl2
    exact ⟨A, c, rfl, hn, hb⟩
  · exact absurd ⟨hl, hg⟩ h1
theorem SealPost.no {w w' : World} {k b : List UInt8} {ts : List (List UInt8)} {e : Ending} (h : SealPost w k b ts e w') (hn : ¬ (b.length ≤ 1048576 ∧ GoodT ts)) :
    e = .returned (.tuple #[.slice none 0 0, .int .i64 4]) ∧ Below w.heap.size w w' := by
  obtain ⟨hb, ⟨h1, h2, _⟩ | ⟨_, h2⟩⟩ := h
  · exact absurd ⟨h1, h2⟩ hn
  · exact ⟨h2, hb⟩
theorem OpenPost.yes {w w' : World} {k b : List UInt8} {ts : List (List UInt8)} {e : Ending} (h : OpenPost w k b ts e w') (h16 : 16 ≤ b.length) (hl : b.length ≤ 1048592) (hg : GoodT ts) (hs : soundU k b ts) :
    ∃ A c, e = .returned (.tuple #[.slice A (b.length - 16) c, .int .i64 0]) ∧ NewB w w' A (b.length - 16) c (openU k b) ∧ Below w.heap.size w w' := by
  obtain ⟨hb, ⟨h1, _⟩ | ⟨_, h1, _⟩ | ⟨_, _, _, h1, _⟩ | ⟨_, _, _, _, A, n, c, rfl, hn⟩⟩ := h
  · omega
  · exact absurd ⟨hl, hg⟩ h1
  · exact absurd hs h1
  · have hl2 : n = b.length - 16 := by
      have := hn.1.len
      rw [List.length_map, openU_len] at this
      omega
    subst hl2
    exact ⟨A, c, rfl, hn, hb⟩
theorem OpenPost.bad {w w' : World} {k b : List UInt8} {ts : List (List UInt8)} {e : Ending} (h : OpenPost w k b ts e w') (h16 : 16 ≤ b.length) (hl : b.length ≤ 1048592) (hg : GoodT ts) (hs : ¬ soundU k b ts) :
    e = .returned (.tuple #[.slice none 0 0, .int .i64 5]) ∧ Below w.heap.size w w' := by
  obtain ⟨hb, ⟨h1, _⟩ | ⟨_, h1, _⟩ | ⟨_, _, _, _, h1⟩ | ⟨_, _, _, h1, _⟩⟩ := h
  · omega
  · exact absurd ⟨hl, hg⟩ h1
  · exact ⟨h1, hb⟩
  · exact absurd h1 hs
theorem OpenPost.short {w w' : World} {k b : List UInt8} {ts : List (List UInt8)} {e : Ending} (h : OpenPost w k b ts e w') (h16 : b.length < 16) :
    e = .returned (.tuple #[.slice none 0 0, .int .i64 2]) ∧ Below w.heap.size w w' := by
  obtain ⟨hb, ⟨_, h1⟩ | ⟨h1, _⟩ | ⟨h1, _⟩ | ⟨h1, _⟩⟩ := h
  · exact ⟨h1, hb⟩
  · omega
  · omega
  · omega
theorem OpenPost.long {w w' : World} {k b : List UInt8} {ts : List (List UInt8)} {e : Ending} (h : OpenPost w k b ts e w') (h16 : 16 ≤ b.length) (hn : ¬ (b.length ≤ 1048592 ∧ GoodT ts)) :
    e = .returned (.tuple #[.slice none 0 0, .int .i64 4]) ∧ Below w.heap.size w w' := by
  obtain ⟨hb, ⟨h1, _⟩ | ⟨_, _, h1⟩ | ⟨_, h1, h2, _⟩ | ⟨_, h1, h2, _⟩⟩ := h
  · omega
  · exact ⟨h1, hb⟩
  · exact absurd ⟨h1, h2⟩ hn
  · exact absurd ⟨h1, h2⟩ hn

theorem OpenPost.split {w w' : World} {k b : List UInt8} {ts : List (List UInt8)} {e : Ending} (h : OpenPost w k b ts e w') :
    Below w.heap.size w w' ∧ ((∃ er : Int, (er == 0) = false ∧ e = .returned (.tuple #[.slice none 0 0, .int .i64 er])) ∨
      (16 ≤ b.length ∧ b.length ≤ 1048592 ∧ GoodT ts ∧ soundU k b ts ∧ ∃ A c, e = .returned (.tuple #[.slice A (b.length - 16) c, .int .i64 0]) ∧ NewB w w' A (b.length - 16) c (openU k b))) := by
  have h0 := h
  obtain ⟨hb, ⟨_, h1⟩ | ⟨_, _, h1⟩ | ⟨_, _, _, _, h1⟩ | ⟨h1, h2, h3, h4, _⟩⟩ := h
  · exact ⟨hb, .inl ⟨2, rfl, h1⟩⟩
  · exact ⟨hb, .inl ⟨4, rfl, h1⟩⟩
  · exact ⟨hb, .inl ⟨5, rfl, h1⟩⟩
  · obtain ⟨A, c, h5, h6, _⟩ := h0.yes h1 h2 h3 h4
    exact ⟨hb, .inr ⟨h1, h2, h3, h4, A, c, h5, h6⟩⟩

/-- how long, or why not -/
def longV (n : Int) : Value := if n < 0 ∨ 1048576 < n then .tuple #[.int .i64 0, .int .i64 1] else .tuple #[.int .i64 (n + 16), .int .i64 0]
theorem RLong_any (n : Int) (w : World) (h1 : -9223372036854775808 ≤ n) (h2 : n ≤ 9223372036854775807) :
    Calls Tryd.prog 16 #[.int .i64 n] w fun e w' => e = .returned (longV n) ∧ w' = w := by
  go_enter Tryd.func16, Tryd.ntmps16
  by_cases h0 : n < 0
  · go_wp2_with fail
    exact bodyPost_ret (results_tmp2 rfl _ _ _) rfl ⟨by rw [longV, if_pos (.inl h0)]; rfl, rfl⟩
  · by_cases h3 : 1048576 < n
    · go_wp2_with fail
      exact bodyPost_ret (results_tmp2 rfl _ _ _) rfl ⟨by rw [longV, if_pos (.inr h3)]; rfl, rfl⟩
    · have hw : IntKind.i64.wrap (n + 16) = n + 16 := by rw [IntKind.wrap_i64]; omega
      go_wp2_with fail
      exact bodyPost_ret (results_tmp2 rfl _ _ _) rfl ⟨by rw [longV, if_neg (by omega)]; rfl, rfl⟩

set_option maxRecDepth 100000 in
set_option maxHeartbeats 2000000 in
theorem RSeal_any (k b : List UInt8) (A : Option Addr) (m c : Nat) (At : Option Addr) (mt ct : Nat) (vs : List Value) (ts : List (List UInt8)) (w : World) (hk : k.length = 32) (hr : Rd w w.heap.size A m (b.map bv)) (hm63 : m ≤ 9223372036854775807)
    (hmt : mt ≤ 1048576) (htx : GoodT ts → (txs ts).length ≤ 536870912) (hv : Rd w w.heap.size At mt vs) (ht : Txs w w.heap.size vs ts) (hK : KTab w) :
    Calls Tryd.prog 12 #[.agg (k.map bv).toArray, .slice A m c, .slice At mt ct] w (SealPost w k b ts) := by
  have Hk := Lib.hid hk
  have Hbl := Lib.hid (show b.length = m by simpa using hr.len)
  have hA4 : ArrB (w.alloc (.cells (k.map bv).toArray 23)) w.heap.size 23 k := ArrB.mk_ _ _ _ _ rfl rfl
  have hB4 := d_al w (.cells (k.map bv).toArray 23)
  have hr4 := d_rd hr hB4
  have hv4 := d_rd hv hB4
  have ht4 := d_txs ht hB4
  clear hk hr hv ht
  obtain ⟨i0, hi0, hz0, hz1, hz2⟩ := info_parts byteInfo
  go_enter Tryd.func12, Tryd.ntmps12
  go_upto_region 1 with (fail)
  generalize w.alloc (.cells (k.map bv).toArray 23) = w4 at *
  by_cases hm : m ≤ 1048576
  rotate_left
  · have hm1 : (1048576 : Int) < (m : Int) := by omega
    go_wp2_with fail
    exact bodyPost_ret (results_tmp2 rfl _ _ _) rfl ⟨hB4, .inr ⟨fun h => hm (by rw [← Hbl.out]; exact h.1), rfl⟩⟩
  have hm1 : ¬ (1048576 : Int) < (m : Int) := by omega
  go_wp2_with ((with_reducible show wpList _ _ _ (⟨some 14, _, _, _, _, _⟩ :: _) _ _); refine wpList_load_row rfl 23 (.tmp 3) rfl (w.heap.size) rfl 23 (k.map bv).toArray (0, 0) _ (hA4) Tryd.underlying23 rfl (infoK32 Hk.out) ?_)
  refine (RStream_any k b A m c w4 Hk.out hr4 hm (hK.below hB4)).mono ?_
  rintro e w5 ⟨A5, c5, rfl, hown5, hb5⟩
  have hmc5 := own_cap hown5
  have hA5 := hA4.below hb5 hA4.lt
  have hB5 := c_call hB4 hb5
  have hv5 := d_rd hv4 hb5
  have ht5 := d_txs ht4 hb5
  clear hA4 hr4 hv4 ht4
  go_wp2_with ((with_reducible show wpList _ _ _ (⟨some 18, _, _, _, _, _⟩ :: _) _ _); refine wpList_load_row rfl 23 (.tmp 3) rfl (w.heap.size) rfl 23 (k.map bv).toArray (0, 0) _ (hA5) Tryd.underlying23 rfl (infoK32 Hk.out) ?_)
  refine (RTag_any k (streamU k b) A5 m c5 At mt ct vs ts w5 Hk.out hmc5 (Rd.of_own hown5) hm hmt htx hv5 ht5 (hK.below hB5)).mono ?_
  intro e w6 hP
  by_cases hg : GoodT ts
  rotate_left
  · obtain ⟨rfl, hb6⟩ := hP.no hg
    go_wp2_with fail
    exact bodyPost_ret (results_tmp2 rfl _ _ _) rfl ⟨c_call hB5 hb6, .inr ⟨fun h => hg h.2, rfl⟩⟩
  obtain ⟨g6, c6, hg6, hc6, rfl, hr6, hb6⟩ := hP.yes hg
  have hown6 := own_below hown5 hb6
  have hB6 := c_call hB5 hb6
  have hs4 := hB4.size
  have hs6 := hb6.size
  have hs5 := hb5.size
  have Hse := Lib.hid (show sealU k b ts = streamU k b ++ tagU k (streamU k b) ts from rfl)
  have Htl := Lib.hid (tagU_len k (streamU k b) ts)
  clear hA5 hv5 ht5 hP hown5
  go_wp2_with (at_builtin; refine wpList_append_rd _ rfl (.tmp 26) (.tmp 27) _ rfl (w4.heap.size) 5 i0 _ 1 Tryd.underlying24 hi0 hz0 hz1 hz2 rfl (.slice A5 m c5) m _ rfl hown6 w6.heap.size (some ⟨g6, 0, none⟩) 16 c6 ((tagU k (streamU k b) ts).map bv) rfl hr6 (one_bv _) (by simp only [maxLen]; omega) (by omega) (by omega) ?_; intro v7 w7 hown7 hgr7 hat7)
  obtain ⟨A7, c7, rfl, hc7, _⟩ := own_form hown7
  rw [← List.map_append, ← Hse.out] at hown7
  have hge : ∀ g, (Value.slice A5 m c5).ownBlock = some g → w.heap.size ≤ g := fun g hg => Nat.le_trans hs4 (hown6.lt g hg).1
  exact bodyPost_ret (results_tmp2 rfl _ _ _) rfl ⟨hB6.grown hgr7 hB6.size hge, .inl ⟨by rw [Hbl.out]; exact hm, hg, A7, m + 16, c7, rfl, NewB.of_own hown7 hs4⟩⟩

end Go.Proofs.YtajbaaamhddgiaaDoor

/-
  CONTRACT of the document's own Open (coterieref07).
-/
set_option linter.unusedVariables false
namespace Go.Proofs.YtajbaaamhddgiaaDoor
open Go.RowKit

set_option maxRecDepth 100000 in
set_option maxHeartbeats 2000000 in
theorem ROpen_any (k b : List UInt8) (A : Option Addr) (m c : Nat) (At : Option Addr) (mt ct : Nat) (vs : List Value) (ts : List (List UInt8)) (w : World) (hk : k.length = 32) (hmc : m ≤ c) (hr : Rd w w.heap.size A m (b.map bv)) (hm63 : c ≤ 9223372036854775807)
    (hmt : mt ≤ 1048576) (htx : GoodT ts → (txs ts).length ≤ 536870912) (hv : Rd w w.heap.size At mt vs) (ht : Txs w w.heap.size vs ts) (hK : KTab w) :
    Calls Tryd.prog 14 #[.agg (k.map bv).toArray, .slice A m c, .slice At mt ct] w (OpenPost w k b ts) := by
  have Hk := Lib.hid hk
  have Hbl := Lib.hid (show b.length = m by simpa using hr.len)
  have hA4 : ArrB (w.alloc (.cells (k.map bv).toArray 23)) w.heap.size 23 k := ArrB.mk_ _ _ _ _ rfl rfl
  have hB4 := d_al w (.cells (k.map bv).toArray 23)
  have hr4 := d_rd hr hB4
  have hv4 := d_rd hv hB4
  have ht4 := d_txs ht hB4
  clear hk hr hv ht
  obtain ⟨i0, hi0, hz0, hz1, hz2⟩ := info_parts byteInfo
  go_enter Tryd.func14, Tryd.ntmps14
  go_upto_region 1 with (fail)
  generalize w.alloc (.cells (k.map bv).toArray 23) = w4 at *
  by_cases h16 : m < 16
  · have hm1 : (m : Int) < 16 := by omega
    go_wp2_with fail
    exact bodyPost_ret (results_tmp2 rfl _ _ _) rfl ⟨hB4, .inl ⟨by rw [Hbl.out]; exact h16, rfl⟩⟩
  have hm1 : ¬ (m : Int) < 16 := by omega
  by_cases hm : m ≤ 1048592
  rotate_left
  · have hm2 : (1048592 : Int) < (m : Int) := by omega
    go_wp2_with fail
    exact bodyPost_ret (results_tmp2 rfl _ _ _) rfl ⟨hB4, .inr (.inl ⟨by rw [Hbl.out]; omega, fun h => hm (by rw [← Hbl.out]; exact h.1), rfl⟩)⟩
  have hm2 : ¬ (1048592 : Int) < (m : Int) := by omega
  obtain ⟨h, hh⟩ : ∃ h, m = h + 16 := ⟨m - 16, by omega⟩
  have Hm := Lib.hid hh
  have e1 : (m : Int) - 16 = (h : Int) := by omega
  have e2 : IntKind.i64.wrap (h : Int) = (h : Int) := by rw [IntKind.wrap_i64]; omega
  have k0 : (0 : Int) ≤ (h : Int) := by omega
  have k1 : (h : Int) ≤ (c : Int) := by omega
  have k2 : (h : Int) ≤ (m : Int) := by omega
  have k3 : (m : Int) ≤ (c : Int) := by omega
  have hrh := hr4.take (show h ≤ m by omega)
  have hrt := hr4.cut (show h ≤ m by omega) hmc
  rw [← List.map_take] at hrh
  rw [← List.map_drop, if_neg (show ¬ c = h by omega)] at hrt
  have Hop := Lib.hid (show openU k b = streamU k (b.take h) by unfold openU; rw [Hbl.out, hh, Nat.add_sub_cancel])
  have Hso := Lib.hid (show soundU k b ts ↔ tagU k (b.take h) ts = b.drop h by unfold soundU; rw [Hbl.out, hh, Nat.add_sub_cancel])
  have Hlh := Lib.hid (show (b.take h).length = h by rw [List.length_take, Hbl.out]; omega)
  have hcp := Copy_any A h c (b.take h) w4 (by omega) hrh
  clear hh
  generalize b.take h = bh at *
  generalize b.drop h = bt at *
  go_wp2_with fail
  refine hcp.mono ?_
  rintro e w5 ⟨A5, c5, rfl, hown5, hb5⟩
  have hmc5 := own_cap hown5
  have hA5 := hA4.below hb5 hA4.lt
  have hB5 := c_call hB4 hb5
  have hv5 := d_rd hv4 hb5
  have ht5 := d_txs ht4 hb5
  have hrt5 := d_rd hrt hb5
  have hr5 := Rd.of_own hown5
  clear hA4 hv4 ht4 hrt hrh hr4 hcp hown5
  go_wp2_with ((with_reducible show wpList _ _ _ (⟨some 24, _, _, _, _, _⟩ :: _) _ _); refine wpList_load_row rfl 23 (.tmp 3) rfl (w.heap.size) rfl 23 (k.map bv).toArray (0, 0) _ (hA5) Tryd.underlying23 rfl (infoK32 Hk.out) ?_)
  refine (RTag_any k bh A5 h c5 At mt ct vs ts w5 Hk.out hmc5 hr5 (by have := Hm.out; omega) hmt htx hv5 ht5 (hK.below hB5)).mono ?_
  intro e w6 hP
  by_cases hg : GoodT ts
  rotate_left
  · obtain ⟨rfl, hb6⟩ := hP.no hg
    go_wp2_with fail
    exact bodyPost_ret (results_tmp2 rfl _ _ _) rfl ⟨c_call hB5 hb6, .inr (.inl ⟨by rw [Hbl.out]; omega, fun h => hg h.2, rfl⟩)⟩
  obtain ⟨g6, c6, hg6, hc6, rfl, hr6, hb6⟩ := hP.yes hg
  have hB6 := c_call hB5 hb6
  have hA6 := hA5.below hb6 hA5.lt
  have hrt6 := d_rd hrt5 hb6
  have hr6h := d_rd hr5 hb6
  clear hA5 hv5 ht5 hP hrt5 hr5
  have hsm := Same_any (some ⟨g6, 0, none⟩) (A.map (·.add h)) 16 c6 (m - h) (c - h) (tagU k bh ts) bt w6 w6.heap.size w6.heap.size hr6 hrt6
  by_cases hso : soundU k b ts
  rotate_left
  · have hsb : sameB (tagU k bh ts) bt = false := by
      rw [sameB, beq_eq_false_iff_ne]
      exact fun h => hso (Hso.out.2 h)
    rw [hsb] at hsm
    go_wp2_with fail
    refine hsm.mono ?_
    rintro e w7 ⟨rfl, rfl⟩
    go_wp2_with fail
    exact bodyPost_ret (results_tmp2 rfl _ _ _) rfl ⟨hB6, .inr (.inr (.inl ⟨by rw [Hbl.out]; omega, by rw [Hbl.out]; exact hm, hg, hso, rfl⟩))⟩
  have hsb : sameB (tagU k bh ts) bt = true := by
    rw [sameB, beq_iff_eq]
    exact Hso.out.1 hso
  rw [hsb] at hsm
  go_wp2_with fail
  refine hsm.mono ?_
  rintro e w7 ⟨rfl, rfl⟩
  go_wp2_with ((with_reducible show wpList _ _ _ (⟨some 40, _, _, _, _, _⟩ :: _) _ _); refine wpList_load_row rfl 23 (.tmp 3) rfl (w.heap.size) rfl 23 (k.map bv).toArray (0, 0) _ (hA6) Tryd.underlying23 rfl (infoK32 Hk.out) ?_)
  refine (RStream_any k bh A5 h c5 _ Hk.out hr6h (by have := Hm.out; omega) (hK.below hB6)).mono ?_
  rintro e w8 ⟨A8, c8, rfl, hown8, hb8⟩
  go_wp2_with fail
  rw [← Hop.out] at hown8
  exact bodyPost_ret (results_tmp2 rfl _ _ _) rfl ⟨c_call hB6 hb8, .inr (.inr (.inr ⟨by rw [Hbl.out]; omega, by rw [Hbl.out]; exact hm, hg, hso, A8, h, c8, rfl, NewB.of_own hown8 hB6.size⟩))⟩

end Go.Proofs.YtajbaaamhddgiaaDoor

