import Derived.Test.YtgjeamapgdakcaaDoorG01
import Derived.Test.YtgjeamapgdakcaaDoorG02
import Derived.Test.YtgjeamapgdakcaaDoorG03
import Derived.BigRegion
/-
  CONTRACTS of the document's SHA-256 (coterieref02): ror, words, Block. Words are UInt32.
-/
set_option linter.unusedVariables false
namespace Go.Proofs.YtgjeamapgdakcaaDoor
open Go.RowKit

theorem ror_any (x : UInt32) (d : Int) (w : World) (h1 : 1 ≤ d) (h2 : d ≤ 31) :
    Calls Tryd.prog 48 #[.int .u32 (x.toNat : Int), .int .i64 d] w fun e w' => e = .returned (.int .u32 ((rorU x d.toNat).toNat : Int)) ∧ ∃ q, w' = w.drewN q := by
  have hx := u32_lt x
  obtain ⟨k, rfl⟩ := Int.eq_ofNat_of_zero_le (show 0 ≤ d by omega)
  go_enter Tryd.func48, Tryd.ntmps48
  go_wp2_with fail
  go_quiet (fail)
  go_wp2_with fail
  go_ret
  refine ⟨?_, nq, rfl⟩
  rw [Int.toNat_natCast, ← or_ror x k (by omega) (by omega)]
  rfl

def zero64 : List UInt32 := List.replicate 64 0

/-- a block's j-th word -/
def wordAt (l : List UInt8) (j : Nat) : UInt32 := UInt32.ofNat (((l.getD (4 * j) 0).toNat * 16777216 + (l.getD (4 * j + 1) 0).toNat * 65536 + (l.getD (4 * j + 2) 0).toNat * 256 + (l.getD (4 * j + 3) 0).toNat))

theorem wordAt_of {l : List UInt8} {j : Nat} {x0 x1 x2 x3 : UInt8} (h0 : l[4 * j]? = some x0) (h1 : l[4 * j + 1]? = some x1) (h2 : l[4 * j + 2]? = some x2) (h3 : l[4 * j + 3]? = some x3) :
    (x0.toNat : Int) * 16777216 + x1.toNat * 65536 + x2.toNat * 256 + x3.toNat = ((wordAt l j).toNat : Int) := by
  have n0 := x0.toNat_lt
  have n1 := x1.toNat_lt
  have n2 := x2.toNat_lt
  have n3 := x3.toNat_lt
  unfold wordAt
  rw [UInt32.toNat_ofNat', List.getD_eq_getElem?_getD, List.getD_eq_getElem?_getD, List.getD_eq_getElem?_getD, List.getD_eq_getElem?_getD, h0, h1, h2, h3]
  simp only [Option.getD_some]
  omega

/-- the first j words -/
def firstWords (l : List UInt8) (j : Nat) : List UInt32 := (List.range 64).map fun i => if i < j then wordAt l i else 0

theorem firstWords_len (l : List UInt8) (j : Nat) : (firstWords l j).length = 64 := by simp [firstWords]
theorem firstWords_zero (l : List UInt8) : firstWords l 0 = zero64 := by
  apply List.ext_getElem (by simp [firstWords, zero64])
  intro i h1 h2
  simp only [firstWords, zero64, List.getElem_map, List.getElem_replicate]
  rw [if_neg (by omega)]
theorem firstWords_succ (l : List UInt8) (j : Nat) : firstWords l (j + 1) = (firstWords l j).set j (wordAt l j) := by
  apply List.ext_getElem (by simp [firstWords])
  intro i h1 h2
  rw [List.getElem_set]
  simp only [firstWords, List.getElem_map, List.getElem_range]
  by_cases h : j = i
  · subst h; simp
  · rw [if_neg h]
    by_cases h3 : i < j
    · rw [if_pos (by omega), if_pos h3]
    · rw [if_neg (by omega), if_neg h3]

def sig0 (x : UInt32) : UInt32 := rorU x 7 ^^^ rorU x 18 ^^^ x >>> 3
def sig1 (x : UInt32) : UInt32 := rorU x 17 ^^^ rorU x 19 ^^^ x >>> 10

theorem sig0_val (x : UInt32) : bits .xor .u32 (bits .xor .u32 ((rorU x 7).toNat : Int) ((rorU x 18).toNat : Int)) ((x.toNat : Int) / 8) = ((sig0 x).toNat : Int) := by
  rw [show ((x.toNat : Int) / 8) = (x.toNat : Int) / 2 ^ 3 from rfl, w_shr x 3 (by omega), w_xor, w_xor]
  rfl
theorem sig1_val (x : UInt32) : bits .xor .u32 (bits .xor .u32 ((rorU x 17).toNat : Int) ((rorU x 19).toNat : Int)) ((x.toNat : Int) / 1024) = ((sig1 x).toNat : Int) := by
  rw [show ((x.toNat : Int) / 1024) = (x.toNat : Int) / 2 ^ 10 from rfl, w_shr x 10 (by omega), w_xor, w_xor]
  rfl

/-- the words that follow, one more -/
def schedStep (ws : List UInt32) (t : Nat) : List UInt32 := ws.set t (ws.getD (t - 16) 0 + sig0 (ws.getD (t - 15) 0) + ws.getD (t - 7) 0 + sig1 (ws.getD (t - 2) 0))
def schedTo (l : List UInt8) : Nat → List UInt32
  | 0 => firstWords l 16
  | n + 1 => schedStep (schedTo l n) (16 + n)
def wordsU (l : List UInt8) : List UInt32 := schedTo l 48

theorem schedTo_len (l : List UInt8) : ∀ n, (schedTo l n).length = 64
  | 0 => firstWords_len l 16
  | n + 1 => by rw [schedTo, schedStep, List.length_set, schedTo_len l n]

theorem info64 : (Tryd.prog.info? 75).map (·.size) = some 64 := by kernel_rfl

set_option maxHeartbeats 1000000 in
theorem words_any (A : Option Addr) (k c : Nat) (l : List UInt8) (w : World) (hl : 64 ≤ k) (hk : k ≤ 1099511627776) (hr : Rd w w.heap.size A k (l.map bv)) :
    Calls Tryd.prog 47 #[.slice A k c] w fun e w' => e = .returned (.agg ((wordsU l).map wv).toArray) ∧ Below w.heap.size w w' := by
  have hll : l.length = k := by have := hr.len; simpa using this
  have Hll := Lib.hid hll
  clear hll
  go_enter Tryd.func47, Tryd.ntmps47
  go_wp2_with fail
  go_loopw [10] (fun i wr => ∃ j : Nat, j ≤ 16 ∧ i = .int .i64 (j : Int) ∧ ArrW wr (w.heap.size + 1) 75 (firstWords l j) ∧ ArrW wr w.heap.size 75 zero64 ∧ Below w.heap.size w wr) (fun i _ => 16 - (intOf i).toNat)
  case atStart =>
    refine ⟨0, by omega, rfl, ?_, ?_, ((Below.refl _ _).alloc (Nat.le_refl _) _).alloc (al0 _ _) _⟩
    · rw [firstWords_zero]
      exact ArrW.mk_ _ _ _ _ (by simp) rfl
    · refine ArrW.alloc (ArrW.mk_ w _ _ zero64 rfl ?_) _
      rfl
  case round =>
    obtain ⟨j, hj, rfl, ha1, ha0, hbel⟩ := hrel
    by_cases hlt : j < 16
    · obtain ⟨b, o, rfl, hb, hc⟩ := (hr.below hbel).pos (by omega)
      obtain ⟨x0, hx0⟩ : ∃ x, l[4 * j]? = some x := ⟨_, List.getElem?_eq_getElem (by have := Hll.out; omega)⟩
      obtain ⟨x1, hx1⟩ : ∃ x, l[4 * j + 1]? = some x := ⟨_, List.getElem?_eq_getElem (by have := Hll.out; omega)⟩
      obtain ⟨x2, hx2⟩ : ∃ x, l[4 * j + 2]? = some x := ⟨_, List.getElem?_eq_getElem (by have := Hll.out; omega)⟩
      obtain ⟨x3, hx3⟩ : ∃ x, l[4 * j + 3]? = some x := ⟨_, List.getElem?_eq_getElem (by have := Hll.out; omega)⟩
      have c0 : wr.cell? ⟨b, o + 4 * j, none⟩ = some (.int .u8 (x0.toNat : Int)) := hc _ _ (by rw [List.getElem?_map, hx0]; rfl)
      have c1 : wr.cell? ⟨b, o + (4 * j + 1), none⟩ = some (.int .u8 (x1.toNat : Int)) := hc _ _ (by rw [List.getElem?_map, hx1]; rfl)
      have c2 : wr.cell? ⟨b, o + (4 * j + 2), none⟩ = some (.int .u8 (x2.toNat : Int)) := hc _ _ (by rw [List.getElem?_map, hx2]; rfl)
      have c3 : wr.cell? ⟨b, o + (4 * j + 3), none⟩ = some (.int .u8 (x3.toNat : Int)) := hc _ _ (by rw [List.getElem?_map, hx3]; rfl)
      obtain ⟨y, hy⟩ : ∃ y, (firstWords l j)[j]? = some y := ⟨_, List.getElem?_eq_getElem (by simp [firstWords]; omega)⟩
      have cw := ha1.cell hy
      have fw := ha1.frozen j
      have n0 := x0.toNat_lt
      have n1 := x1.toNat_lt
      have n2 := x2.toNat_lt
      have n3 := x3.toNat_lt
      have b0 : 0 ≤ (j : Int) := by omega
      have b1 : (j : Int) < 64 := by omega
      have b2 : 4 * (j : Int) + 3 < (k : Int) := by omega
      have hword := Lib.hid (wordAt_of hx0 hx1 hx2 hx3)
      clear hc hx0 hx1 hx2 hx3 hy
      go_wp2_with fail
      go_region
      go_wp2_with fail
      go_roundw
      case rel =>
        refine ⟨j + 1, by omega, by go_num, ?_, ?_, ?_⟩
        · rw [firstWords_succ, hword.out]
          exact (ha1.set_ j _).drew
        · exact (ha0.far (by simp) _).drew
        · exact (hbel.setCell (by simp) _).drew
      case measure => simp [intOf]; omega
    · obtain rfl : j = 16 := by omega
      rw [show ((16 : Nat) : Int) = 16 from rfl]
      go_wp2_with fail
      go_loopw [5] (fun i wr => ∃ t : Nat, 16 ≤ t ∧ t ≤ 64 ∧ i = .int .i64 (t : Int) ∧ ArrW wr (w.heap.size + 1) 75 (schedTo l (t - 16)) ∧ ArrW wr w.heap.size 75 zero64 ∧ Below w.heap.size w wr) (fun i _ => (64 - intOf i).toNat)
      case atStart => exact ⟨16, by omega, by omega, rfl, ha1, ha0, hbel⟩
      case round =>
        obtain ⟨t, ht0, ht, rfl, hb1, hb0, hbel2⟩ := hrel
        by_cases hlt2 : t < 64
        · have hlen := schedTo_len l (t - 16)
          have Hst := Lib.hid (show schedTo l (t + 1 - 16) = schedStep (schedTo l (t - 16)) t by rw [show t + 1 - 16 = (t - 16) + 1 from by omega, schedTo, show 16 + (t - 16) = t from by omega])
          generalize schedTo l (t - 16) = ws at *
          obtain ⟨y16, h16⟩ : ∃ y, ws[t - 16]? = some y := ⟨_, List.getElem?_eq_getElem (by omega)⟩
          obtain ⟨y15, h15⟩ : ∃ y, ws[t - 15]? = some y := ⟨_, List.getElem?_eq_getElem (by omega)⟩
          obtain ⟨y7, h7⟩ : ∃ y, ws[t - 7]? = some y := ⟨_, List.getElem?_eq_getElem (by omega)⟩
          obtain ⟨y2, h2⟩ : ∃ y, ws[t - 2]? = some y := ⟨_, List.getElem?_eq_getElem (by omega)⟩
          obtain ⟨y, hy⟩ : ∃ y, ws[t]? = some y := ⟨_, List.getElem?_eq_getElem (by omega)⟩
          have c16 := hb1.cell h16
          have c15 := hb1.cell h15
          have c7 := hb1.cell h7
          have c2 := hb1.cell h2
          have cy := hb1.cell hy
          have fy := hb1.frozen t
          have l16 := u32_lt y16
          have l15 := u32_lt y15
          have l7 := u32_lt y7
          have l2 := u32_lt y2
          have Hsp := Lib.hid (show schedStep ws t = ws.set t (y16 + sig0 y15 + y7 + sig1 y2) by
            unfold schedStep; rw [List.getD_eq_getElem?_getD, List.getD_eq_getElem?_getD, List.getD_eq_getElem?_getD, List.getD_eq_getElem?_getD, h16, h15, h7, h2]; rfl)
          clear h16 h15 h7 h2 hy hlen
          go_wp2_with (go_at_call 48; refine (ror_any _ _ _ (by omega) (by omega)).mono ?_; rintro e w' ⟨rfl, q, rfl⟩)
          rw [sig0_val, sig1_val]
          have ls0 := u32_lt (sig0 y15)
          have ls1 := u32_lt (sig1 y2)
          have t0 : 0 ≤ (t : Int) - 16 := by omega
          have t1 : (t : Int) < 64 := by omega
          go_region
          go_wp2_with fail
          go_roundw
          case rel =>
            refine ⟨t + 1, by omega, by omega, by go_num, ?_, ?_, ?_⟩
            · rw [Hst.out, Hsp.out, w_add4]
              exact (hb1.drewN _).set_ t _
            · exact (hb0.drewN _).far (by simp) _
            · exact (hbel2.trans ⟨rfl, rfl, rfl, Nat.le_refl _, fun _ _ => rfl⟩ : Below w.heap.size w (wr.drewN _)).setCell (by simp) _
          case measure => simp [intOf]; omega
        · obtain rfl : t = 64 := by omega
          have hsz1 : (Tryd.prog.info? 75).map (·.size) = some (((schedTo l 48).map wv).toArray).size := by rw [info64]; simp [schedTo_len]
          have hsz0 : (zero64.map wv).toArray.size = ((schedTo l 48).map wv).toArray.size := by simp [schedTo_len, zero64]
          have Hsz1 := Lib.hid hsz1
          have Hsz0 := Lib.hid hsz0
          clear hsz1 hsz0
          go_wp2_with (first
            | ((with_reducible show wpList _ _ _ (⟨some 92, _, _, _, _, _⟩ :: _) _ _); refine wpList_load_row rfl 75 (.tmp 3) rfl (w.heap.size + 1) rfl 75 ((schedTo l 48).map wv).toArray (0, 0) _ hb1 Tryd.underlying75 rfl Hsz1.out ?_)
            | ((with_reducible show wpList _ _ _ (⟨none, Op.store 75 _ _, _, _, _, _⟩ :: _) _ _); refine wpList_store_row rfl 75 (.tmp 2) (.tmp 92) rfl w.heap.size ((schedTo l 48).map wv).toArray rfl rfl 75 _ hb0 Hsz1.out Hsz0.out (one_wv _) ?_))
          exact bodyPost_ret (results_cell_row rfl _ _ w.heap.size 75 _ (0, 0) _ rfl (hb0.row (schedTo l 48)) Tryd.underlying75 rfl Hsz1.out) rfl ⟨rfl, below_setRow hbel2 (Nat.le_refl _) _⟩

end Go.Proofs.YtgjeamapgdakcaaDoor

