import Derived.Test.YtgjeamapgdakcaaDoorG17
import Derived.Test.YtgjeamapgdakcaaDoorG10
import Derived.Test.YtgjeamapgdakcaaDoorG15
import Derived.Test.YtgjeamapgdakcaaDoorG22
import Derived.Deep.RegionHeld3
/-
  WORDS FOR LONG WALKS: what is kept from world to world (Below, Rd, Txs), a row that is new, keys that are the same, append inside a region that draws its order.
-/
set_option linter.unusedVariables false
namespace Go.Proofs.YtgjeamapgdakcaaDoor
open Go.RowKit

theorem c_txs {a w : World} {vs : List Value} {ts : List (List UInt8)} (h : Txs a a.heap.size vs ts) (hb : Below a.heap.size a w) : Txs w w.heap.size vs ts := (h.below hb).more hb.size
theorem key_same (wx : World) (l : List UInt8) (hl : l.length = 32) : (Op.equalIn 10000 24 (.agg (l.map bv).toArray) (.agg (l.map bv).toArray)).run Tryd.prog wx = .ok true wx := by
  obtain ⟨ii, hii⟩ := byte_info
  have h := run_eqlRow wx false Tryd.underlying24 Tryd.underlying5 hii byteCells bv (fun x => (x.toNat : Int)) (fun _ => rfl) bv_inj 0 l l hl hl
  rw [beq_self_eq_true] at h
  exact h

theorem d_txs {a w : World} {vs : List Value} {ts : List (List UInt8)} (h : Txs a a.heap.size vs ts) (hb : Below a.heap.size a w) : Txs w w.heap.size vs ts := (h.below hb).more hb.size
theorem Txs.append {w : World} {B : Nat} {vs vs' : List Value} {ts ts' : List (List UInt8)} (h : Txs w B vs ts) (h' : Txs w B vs' ts') : Txs w B (vs ++ vs') (ts ++ ts') := by
  refine ⟨by simp [h.1, h'.1], fun i v t hv ht => ?_⟩
  rw [List.getElem?_append] at hv ht
  rw [← h.1] at ht
  split at hv
  · rename_i hi
    rw [if_pos hi] at ht
    exact h.2 i v t hv ht
  · rename_i hi
    rw [if_neg hi] at ht
    exact h'.2 _ v t hv ht
theorem Txs.one_cell {w : World} {B : Nat} {vs : List Value} {ts : List (List UInt8)} (h : Txs w B vs ts) : ∀ u ∈ vs, u.oneCell' = true := by
  intro u hu
  obtain ⟨i, hi, rfl⟩ := List.mem_iff_getElem.1 hu
  have := h.1
  obtain ⟨A, c, e, _⟩ := h.2 i _ _ (List.getElem?_eq_getElem hi) (List.getElem?_eq_getElem (show i < ts.length by omega))
  rw [e]
  rfl

theorem len_le_flat : ∀ {ts : List (List UInt8)} {t : List UInt8}, t ∈ ts → t.length ≤ ts.flatten.length
  | u :: r, t, h => by
    rw [List.flatten_cons, List.length_append]
    rcases List.mem_cons.1 h with rfl | h
    · omega
    · have := len_le_flat h
      omega
end Go.Proofs.YtgjeamapgdakcaaDoor

/-
  CONTRACTS of mac's filled and marked.
-/
set_option linter.unusedVariables false
namespace Go.Proofs.YtgjeamapgdakcaaDoor
open Go.RowKit

theorem b_or (a b : UInt8) : bits .or .u8 (a.toNat : Int) (b.toNat : Int) = ((a ||| b).toNat : Int) := by
  rw [u8_or_nat _ _ (b_lt a) (b_lt b), UInt8.toNat_or]

def zero64b : List UInt8 := List.replicate 64 0
theorem infoK {l : List UInt8} (h : l.length = 64) : (Tryd.prog.info? 73).map (·.size) = some ((l.map bv).toArray).size := by rw [info64b]; simp [h]
theorem infoK32 {l : List UInt8} (h : l.length = 32) : (Tryd.prog.info? 24).map (·.size) = some ((l.map bv).toArray).size := by rw [info32]; simp [h]
theorem sizeK {n : Nat} {l : List UInt8} (h : l.length = n) : ((List.replicate n (0 : UInt8)).map bv).toArray.size = ((l.map bv).toArray).size := by simp [h]

/-- the first j are marked -/
def markTo (l : List UInt8) (x : UInt8) (j : Nat) : List UInt8 := (l.take j).map (· ^^^ x) ++ l.drop j
theorem markTo_zero (l : List UInt8) (x : UInt8) : markTo l x 0 = l := by simp [markTo]
theorem markTo_all (l : List UInt8) (x : UInt8) {n : Nat} (h : l.length = n) : markTo l x n = l.map (· ^^^ x) := by
  subst h
  simp [markTo]
theorem markTo_at {l : List UInt8} {j : Nat} (x : UInt8) {y : UInt8} (h : l[j]? = some y) : (markTo l x j)[j]? = some y := by
  have hj := (List.getElem?_eq_some_iff.1 h).1
  unfold markTo
  rw [List.getElem?_append_right (by simp; omega), List.getElem?_drop, ← h]
  congr 1
  simp; omega
theorem markTo_succ {l : List UInt8} {j : Nat} (x : UInt8) {y : UInt8} (h : l[j]? = some y) : markTo l x (j + 1) = (markTo l x j).set j (y ^^^ x) := by
  have hj := (List.getElem?_eq_some_iff.1 h).1
  unfold markTo
  rw [take_succ_of h, List.set_append_right _ _ (by simp; omega), show j - ((l.take j).map (· ^^^ x)).length = 0 from by simp; omega]
  rw [List.drop_eq_getElem_cons hj, List.set_cons_zero]
  simp

set_option maxRecDepth 100000 in
theorem marked_any (l : List UInt8) (x : UInt8) (w : World) (hl : l.length = 64) :
    Calls Tryd.prog 69 #[.agg (l.map bv).toArray, .int .u8 (x.toNat : Int)] w fun e w' =>
      e = .returned (.slice (some ⟨w.heap.size, 0, none⟩) 64 64) ∧ Rd w' w'.heap.size (some ⟨w.heap.size, 0, none⟩) 64 ((l.map (· ^^^ x)).map bv) ∧ Below w.heap.size w w' := by
  have Hl := Lib.hid hl
  clear hl
  go_enter Tryd.func69, Tryd.ntmps69
  go_wp2_with fail
  go_loopw [6] (fun i wr => ∃ j : Nat, j ≤ 64 ∧ i = .int .i64 (j : Int) ∧ ArrB wr w.heap.size 73 (markTo l x j) ∧ Below w.heap.size w wr) (fun i _ => 64 - (intOf i).toNat)
  case atStart => exact ⟨0, by omega, rfl, by rw [markTo_zero]; exact ArrB.mk_ _ _ _ _ rfl rfl, (Below.refl _ _).alloc (Nat.le_refl _) _⟩
  case round =>
    obtain ⟨j, hj, rfl, hA, hB⟩ := hrel
    by_cases hlt : j < 64
    · obtain ⟨y, hy⟩ : ∃ y, l[j]? = some y := ⟨_, List.getElem?_eq_getElem (by have := Hl.out; omega)⟩
      have c0 := hA.cell (markTo_at x hy)
      have f0 := hA.frozen j
      have Hs := Lib.hid (markTo_succ x hy)
      have hx := b_xor y x
      have j0 : (0 : Int) ≤ (j : Int) := by omega
      have j1 : (j : Int) < 64 := by omega
      clear hy
      go_wp2_with fail
      go_roundw
      case rel =>
        refine ⟨j + 1, by omega, by go_num, ?_, ?_⟩
        · rw [Hs.out]
          exact hA.set_ j (y ^^^ x)
        · exact hB.setCell (Nat.le_refl _) _
      case measure => simp [intOf]; omega
    · obtain rfl : j = 64 := by omega
      rw [markTo_all l x Hl.out] at hA
      rw [show ((64 : Nat) : Int) = 64 from rfl]
      go_wp2_with fail
      go_ret
      have hlen : (l.map (· ^^^ x)).length = 64 := by simp [Hl.out]
      refine ⟨rfl, ⟨by simp [Hl.out], fun _ => ⟨w.heap.size, 0, rfl, hA.lt, fun i u hu => ?_⟩⟩, hB⟩
      rw [List.getElem?_map] at hu
      obtain ⟨z, hz, rfl⟩ := Option.map_eq_some_iff.1 hu
      rw [Nat.zero_add]
      exact hA.cell hz

theorem ArrB.rd {w : World} {g : Nat} {t : TypeId} {l : List UInt8} (h : ArrB w g t l) {n : Nat} (hn : l.length = n) : Rd w w.heap.size (Option.some ⟨g, 0, none⟩) n (l.map bv) :=
  ⟨by simp [hn], fun _ => ⟨g, 0, rfl, h.lt, fun j u hu => by
    rw [List.getElem?_map] at hu
    obtain ⟨z, hz, rfl⟩ := Option.map_eq_some_iff.1 hu
    rw [Nat.zero_add]
    exact h.cell hz⟩⟩
theorem splice_front (cs : List UInt8) (n : Nat) (h : cs.length ≤ n) : splice ((List.replicate n (0 : UInt8)).map bv) 0 (cs.map bv) = (cs ++ List.replicate (n - cs.length) 0).map bv := by
  rw [splice_bytes]
  congr 1
  simp [splice]

theorem txs_one1 {w : World} {B : Nat} {A : Option Addr} {m c : Nat} {t : List UInt8} (hl : t.length = m) (hc : m ≤ c) (hr : Rd w B A m (t.map bv)) : Txs w B [.slice A m c] [t] := by
  subst hl
  exact Txs.one hr hc
theorem rd_src {w : World} {B n : Nat} {A : Option Addr} {xs : List Value} (h : Rd w B A n xs) (h0 : 0 < xs.length) : ∃ ad, A = some ad ∧ ∀ j v, xs[j]? = some v → w.cell? (ad.add j) = some v := by
  obtain ⟨b, o, rfl, hb, hcell⟩ := h.pos (by rw [← h.len]; exact h0)
  exact ⟨_, rfl, fun j v hj => by rw [Addr.add_lit]; exact hcell j v hj⟩

set_option maxRecDepth 100000 in
set_option maxHeartbeats 400000 in
theorem filled_small (A : Option Addr) (k c : Nat) (key : List UInt8) (w : World) (hkc : k ≤ c) (hk : k ≤ 1073741824) (hr : Rd w w.heap.size A k (key.map bv)) (hT : CTab w) (hs : k ≤ 64) :
    Calls Tryd.prog 68 #[.slice A k c] w fun e w' => e = .returned (.agg ((padK key).map bv).toArray) ∧ Below w.heap.size w w' := by
  have Hkl := Lib.hid (show key.length = k by simpa using hr.len)
  have Hp := Lib.hid (padK_len key)
  have h1 : ∀ o o' : Obj, w.heap.size < ((w.alloc o).alloc o').heap.size := fun o o' => by simp; omega
  have Hpad := Lib.hid (show splice ((List.replicate 64 (0 : UInt8)).map bv) 0 (key.map bv) = (padK key).map bv by rw [splice_front key 64 (by have := Hkl.out; omega)]; unfold padK; rw [if_pos (by have := Hkl.out; omega)])
  generalize padK key = p at *
  have a2 : ArrB ((w.alloc (.cells ((List.replicate 64 (0 : UInt8)).map bv).toArray 73)).alloc (.cells ((List.replicate 64 (0 : UInt8)).map bv).toArray 73)) (w.heap.size + 1) 73 (List.replicate 64 0) := ArrB.mk_ _ _ _ _ (by simp) rfl
  have a1 : ArrB ((w.alloc (.cells ((List.replicate 64 (0 : UInt8)).map bv).toArray 73)).alloc (.cells ((List.replicate 64 (0 : UInt8)).map bv).toArray 73)) w.heap.size 73 (List.replicate 64 0) := (ArrB.mk_ _ _ _ _ rfl rfl).alloc _
  have hrd : ∀ o o', Rd ((w.alloc o).alloc o') w.heap.size A k (key.map bv) := fun o o' => (hr.alloc (Nat.le_refl _) _).alloc (al0 _ _) _
  go_enter Tryd.func68, Tryd.ntmps68
  go_wp2_with (first
    | ((with_reducible show wpList _ _ _ (⟨some 14, _, _, _, _, _⟩ :: _) _ _)
       refine wpList_copy_row rfl (.tmp 12) (.tmp 13) _ _ rfl 5 Tryd.underlying45 byteSize _ _ _ _ _ _ rfl rfl (w.heap.size + 1) 0 ((List.replicate 64 (0 : UInt8)).map bv) 73 a2 (key.map bv) (by rw [List.length_map, Hkl.out]; exact (Nat.min_eq_left hs).symm) (fun h0 => ⟨rfl, rd_src (hrd _ _) h0⟩) (by simp [Hkl.out]; omega) (one_bv _) ?_
       rw [Hpad.out]
       refine wpList_gen (fun wx => (ArrB wx (w.heap.size + 1) 73 p ∧ ArrB wx w.heap.size 73 (List.replicate 64 0)) ∧ Below w.heap.size w wx) ⟨⟨a2.row p, a1.rowFar (by omega) _⟩, below_setRow (((Below.refl _ _).alloc (Nat.le_refl _) _).alloc (al0 _ _) _) (by omega) _⟩ ?_
       rintro w4 ⟨⟨hA4, hA5⟩, hb4⟩)
    | ((with_reducible show wpList _ _ _ (⟨some 15, _, _, _, _, _⟩ :: _) _ _); refine wpList_load_row rfl 73 (.tmp 3) rfl (w.heap.size + 1) rfl 73 (p.map bv).toArray (0, 0) _ hA4 Tryd.underlying73 rfl (infoK Hp.out) ?_)
    | ((with_reducible show wpList _ _ _ (⟨none, Op.store 73 _ _, _, _, _, _⟩ :: _) _ _); refine wpList_store_row rfl 73 (.tmp 2) (.tmp 15) rfl w.heap.size (p.map bv).toArray rfl rfl 73 _ hA5 (infoK Hp.out) (sizeK Hp.out) (one_bvA _) ?_))
  exact bodyPost_ret (results_cell_row rfl _ _ w.heap.size 73 _ (0, 0) _ rfl (hA5.row p) Tryd.underlying73 rfl (infoK Hp.out)) rfl ⟨rfl, below_setRow hb4 (Nat.le_refl _) _⟩

set_option maxRecDepth 100000 in
set_option maxHeartbeats 1000000 in
theorem filled_big (A : Option Addr) (k c : Nat) (key : List UInt8) (w : World) (hkc : k ≤ c) (hk : k ≤ 1073741824) (hr : Rd w w.heap.size A k (key.map bv)) (hT : CTab w) (hs : ¬ k ≤ 64) :
    Calls Tryd.prog 68 #[.slice A k c] w fun e w' => e = .returned (.agg ((padK key).map bv).toArray) ∧ Below w.heap.size w w' := by
  have Hkl := Lib.hid (show key.length = k by simpa using hr.len)
  have Hp := Lib.hid (padK_len key)
  have h1 : ∀ o o' : Obj, w.heap.size < ((w.alloc o).alloc o').heap.size := fun o o' => by simp; omega
  have Hpad := Lib.hid (show splice ((List.replicate 64 (0 : UInt8)).map bv) 0 ((sumU key).map bv) = (padK key).map bv by rw [splice_front _ 64 (by rw [sumU_len]; omega), sumU_len]; unfold padK; rw [if_neg (by have := Hkl.out; omega)])
  generalize padK key = p at *
  have a2 : ArrB ((w.alloc (.cells ((List.replicate 64 (0 : UInt8)).map bv).toArray 73)).alloc (.cells ((List.replicate 64 (0 : UInt8)).map bv).toArray 73)) (w.heap.size + 1) 73 (List.replicate 64 0) := ArrB.mk_ _ _ _ _ (by simp) rfl
  have a1 : ArrB ((w.alloc (.cells ((List.replicate 64 (0 : UInt8)).map bv).toArray 73)).alloc (.cells ((List.replicate 64 (0 : UInt8)).map bv).toArray 73)) w.heap.size 73 (List.replicate 64 0) := (ArrB.mk_ _ _ _ _ rfl rfl).alloc _
  go_enter Tryd.func68, Tryd.ntmps68
  go_wp2_with fail
  refine calls_gen (fun wx => ((Rd wx wx.heap.size (some ⟨w.heap.size + 1 + 1, 0, none⟩) 1 [.slice A k c] ∧ Rd wx wx.heap.size A k (key.map bv)) ∧ ArrB wx (w.heap.size + 1) 73 (List.replicate 64 0) ∧ ArrB wx w.heap.size 73 (List.replicate 64 0)) ∧ Below w.heap.size w wx) ?_ ?_
  · exact ⟨⟨⟨Rd.mk_ _ _ _ (size_alloc2 _ _ _) (by simp) rfl rfl, d_rd hr (((d_al _ _).alloc (al0 _ _) _).alloc (Nat.le_trans (al0 _ _) (al0 _ _)) _)⟩, a2.alloc _, a1.alloc _⟩, ((d_al _ _).alloc (al0 _ _) _).alloc (Nat.le_trans (al0 _ _) (al0 _ _)) _⟩
  rintro wx ⟨⟨⟨hr1, hr2⟩, hx1, hx0⟩, hbx⟩
  refine (pSum_any (some ⟨w.heap.size + 1 + 1, 0, none⟩) 1 1 [.slice A k c] [key] wx (by omega) (by have := Hkl.out; simp; omega) hr1 ((txs_one1 Hkl.out hkc hr2)) (hT.below hbx)).mono ?_
  rintro e w3 ⟨rfl, hb3⟩
  have hA3 := hx1.below hb3 hx1.lt
  have hZ3 := hx0.below hb3 hx0.lt
  have hb03 : Below w.heap.size w w3 := hbx.trans (hb3.mono hbx.size)
  have hlt0 := hx0.below hb3 hx0.lt |>.lt
  have hlt1 := hx1.below hb3 hx1.lt |>.lt
  rw [show [key].flatten = key by simp]
  have Hl := Lib.hid (sumU_len key)
  generalize sumU key = s at *
  clear hx1 hx0 hr1 hr2 hb3 hbx
  have hAs : ArrB (w3.alloc (.cells (s.map bv).toArray 24)) w3.heap.size 24 s := ArrB.mk_ _ _ _ _ rfl rfl
  go_wp2_with (first
    | ((with_reducible show wpList _ _ _ (⟨none, Op.store 24 _ _, _, _, _, _⟩ :: _) _ _); refine wpList_store_row rfl 24 (.tmp 4) (.tmp 10) rfl w3.heap.size (s.map bv).toArray rfl rfl 24 ((List.replicate 32 (0 : UInt8)).map bv).toArray (heap_alloc_new _ _) (infoK32 Hl.out) (sizeK Hl.out) (one_bvA _) ?_; rw [World.setRow_alloc_new])
    | ((with_reducible show wpList _ _ _ (⟨some 14, _, _, _, _, _⟩ :: _) _ _)
       refine wpList_copy_row rfl (.tmp 12) (.tmp 13) _ _ rfl 5 Tryd.underlying45 byteSize _ _ _ _ _ _ rfl rfl (w.heap.size + 1) 0 ((List.replicate 64 (0 : UInt8)).map bv) 73 (hA3.alloc _) (s.map bv) (by rw [List.length_map, Hl.out]; rfl) (fun h0 => ⟨rfl, rd_src (hAs.rd Hl.out) h0⟩) (by simp [Hl.out]) (one_bv _) ?_
       rw [Hpad.out]
       refine wpList_gen (fun wx => (ArrB wx (w.heap.size + 1) 73 p ∧ ArrB wx w.heap.size 73 (List.replicate 64 0)) ∧ Below w.heap.size w wx) ⟨⟨(hA3.alloc _).row p, (hZ3.alloc _).rowFar (by omega) _⟩, below_setRow (hb03.alloc hb03.size _) (by omega) _⟩ ?_
       rintro w4 ⟨⟨hA4, hA5⟩, hb4⟩)
    | ((with_reducible show wpList _ _ _ (⟨some 15, _, _, _, _, _⟩ :: _) _ _); refine wpList_load_row rfl 73 (.tmp 3) rfl (w.heap.size + 1) rfl 73 (p.map bv).toArray (0, 0) _ hA4 Tryd.underlying73 rfl (infoK Hp.out) ?_)
    | ((with_reducible show wpList _ _ _ (⟨none, Op.store 73 _ _, _, _, _, _⟩ :: _) _ _); refine wpList_store_row rfl 73 (.tmp 2) (.tmp 15) rfl w.heap.size (p.map bv).toArray rfl rfl 73 _ hA5 (infoK Hp.out) (sizeK Hp.out) (one_bvA _) ?_))
  exact bodyPost_ret (results_cell_row rfl _ _ w.heap.size 73 _ (0, 0) _ rfl (hA5.row p) Tryd.underlying73 rfl (infoK Hp.out)) rfl ⟨rfl, below_setRow hb4 (Nat.le_refl _) _⟩

theorem filled_any (A : Option Addr) (k c : Nat) (key : List UInt8) (w : World) (hkc : k ≤ c) (hk : k ≤ 1073741824) (hr : Rd w w.heap.size A k (key.map bv)) (hT : CTab w) :
    Calls Tryd.prog 68 #[.slice A k c] w fun e w' => e = .returned (.agg ((padK key).map bv).toArray) ∧ Below w.heap.size w w' := by
  by_cases hs : k ≤ 64
  · exact filled_small A k c key w hkc hk hr hT hs
  · exact filled_big A k c key w hkc hk hr hT hs

end Go.Proofs.YtgjeamapgdakcaaDoor

