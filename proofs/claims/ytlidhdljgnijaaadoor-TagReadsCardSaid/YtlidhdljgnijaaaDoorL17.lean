import Derived.Test.YtlidhdljgnijaaaDoorL02
import Derived.Test.YtlidhdljgnijaaaDoorL08
import Derived.Test.YtlidhdljgnijaaaDoorL16
import Derived.BigRegion
import Derived.Deep.WholeRow
import Derived.Deep.DeepCutAuto
import Derived.WalkSpells
/-
  CONTRACTS of the document's SHA-256 (coterieref02): ror, words, Block. Words are UInt32.
-/
set_option linter.unusedVariables false
namespace Go.Proofs.YtlidhdljgnijaaaDoor
open Go.RowKit

theorem ror_any (x : UInt32) (d : Int) (w : World) (h1 : 1 ≤ d) (h2 : d ≤ 31) :
    Calls Tryd.prog 93 #[.int .u32 (x.toNat : Int), .int .i64 d] w fun e w' => e = .returned (.int .u32 ((rorU x d.toNat).toNat : Int)) ∧ ∃ q, w' = w.drewN q := by
  have hx := u32_lt x
  obtain ⟨k, rfl⟩ := Int.eq_ofNat_of_zero_le (show 0 ≤ d by omega)
  go_enter Tryd.func93, Tryd.ntmps93
  go_wp2_with fail
  go_quiet (fail)
  go_wp2_with fail
  go_ret
  refine ⟨?_, nq, rfl⟩
  rw [Int.toNat_natCast, ← or_ror x k (by omega) (by omega)]
  rfl

def zero64 : List UInt32 := List.replicate 64 0

/-- a block's j-th word -/
def wordAt (l : List UInt8) (j : Nat) : UInt32 := UInt32.ofNat (((l.getD (4 * j) 0).toNat * 16777216 + (l.getD (4 * j + 1) 0).toNat * 65536 + (l.getD (4 * j + 2) 0).toNat * 256 + (l.getD (4 * j + 3) 0).toNat))

theorem wordAt_of {l : List UInt8} {j : Nat} {x0 x1 x2 x3 : UInt8} (h0 : l[4 * j]? = some x0) (h1 : l[4 * j + 1]? = some x1) (h2 : l[4 * j + 2]? = some x2) (h3 : l[4 * j + 3]? = some x3) :
    (x0.toNat : Int) * 16777216 + x1.toNat * 65536 + x2.toNat * 256 + x3.toNat = ((wordAt l j).toNat : Int) := by
  have n0 := x0.toNat_lt
  have n1 := x1.toNat_lt
  have n2 := x2.toNat_lt
  have n3 := x3.toNat_lt
  unfold wordAt
  rw [UInt32.toNat_ofNat', List.getD_eq_getElem?_getD, List.getD_eq_getElem?_getD, List.getD_eq_getElem?_getD, List.getD_eq_getElem?_getD, h0, h1, h2, h3]
  simp only [Option.getD_some]
  omega

/-- the first j words -/
def firstWords (l : List UInt8) (j : Nat) : List UInt32 := (List.range 64).map fun i => if i < j then wordAt l i else 0

theorem firstWords_len (l : List UInt8) (j : Nat) : (firstWords l j).length = 64 := by simp [firstWords]
theorem firstWords_zero (l : List UInt8) : firstWords l 0 = zero64 := by
  apply List.ext_getElem (by simp [firstWords, zero64])
  intro i h1 h2
  simp only [firstWords, zero64, List.getElem_map, List.getElem_replicate]
  rw [if_neg (by omega)]
theorem firstWords_succ (l : List UInt8) (j : Nat) : firstWords l (j + 1) = (firstWords l j).set j (wordAt l j) := by
  apply List.ext_getElem (by simp [firstWords])
  intro i h1 h2
  rw [List.getElem_set]
  simp only [firstWords, List.getElem_map, List.getElem_range]
  by_cases h : j = i
  · subst h; simp
  · rw [if_neg h]
    by_cases h3 : i < j
    · rw [if_pos (by omega), if_pos h3]
    · rw [if_neg (by omega), if_neg h3]

def sig0 (x : UInt32) : UInt32 := rorU x 7 ^^^ rorU x 18 ^^^ x >>> 3
def sig1 (x : UInt32) : UInt32 := rorU x 17 ^^^ rorU x 19 ^^^ x >>> 10

theorem sig0_val (x : UInt32) : bits .xor .u32 (bits .xor .u32 ((rorU x 7).toNat : Int) ((rorU x 18).toNat : Int)) ((x.toNat : Int) / 8) = ((sig0 x).toNat : Int) := by
  rw [show ((x.toNat : Int) / 8) = (x.toNat : Int) / 2 ^ 3 from rfl, w_shr x 3 (by omega), w_xor, w_xor]
  rfl
theorem sig1_val (x : UInt32) : bits .xor .u32 (bits .xor .u32 ((rorU x 17).toNat : Int) ((rorU x 19).toNat : Int)) ((x.toNat : Int) / 1024) = ((sig1 x).toNat : Int) := by
  rw [show ((x.toNat : Int) / 1024) = (x.toNat : Int) / 2 ^ 10 from rfl, w_shr x 10 (by omega), w_xor, w_xor]
  rfl

/-- the words that follow, one more -/
def schedStep (ws : List UInt32) (t : Nat) : List UInt32 := ws.set t (ws.getD (t - 16) 0 + sig0 (ws.getD (t - 15) 0) + ws.getD (t - 7) 0 + sig1 (ws.getD (t - 2) 0))
def schedTo (l : List UInt8) : Nat → List UInt32
  | 0 => firstWords l 16
  | n + 1 => schedStep (schedTo l n) (16 + n)
def wordsU (l : List UInt8) : List UInt32 := schedTo l 48

theorem schedTo_len (l : List UInt8) : ∀ n, (schedTo l n).length = 64
  | 0 => firstWords_len l 16
  | n + 1 => by rw [schedTo, schedStep, List.length_set, schedTo_len l n]

theorem info64 : (Tryd.prog.info? 130).map (·.size) = some 64 := by kernel_rfl

set_option maxHeartbeats 1000000 in
theorem words_any (A : Option Addr) (k c : Nat) (l : List UInt8) (w : World) (hl : 64 ≤ k) (hk : k ≤ 1099511627776) (hr : Rd w w.heap.size A k (l.map bv)) :
    Calls Tryd.prog 92 #[.slice A k c] w fun e w' => e = .returned (.agg ((wordsU l).map wv).toArray) ∧ Below w.heap.size w w' := by
  have hll : l.length = k := by have := hr.len; simpa using this
  have Hll := Lib.hid hll
  clear hll
  go_enter Tryd.func92, Tryd.ntmps92
  go_wp2_with fail
  go_loopw [10] (fun i wr => ∃ j : Nat, j ≤ 16 ∧ i = .int .i64 (j : Int) ∧ ArrW wr (w.heap.size + 1) 130 (firstWords l j) ∧ ArrW wr w.heap.size 130 zero64 ∧ Below w.heap.size w wr) (fun i _ => 16 - (intOf i).toNat)
  case atStart =>
    refine ⟨0, by omega, rfl, ?_, ?_, ((Below.refl _ _).alloc (Nat.le_refl _) _).alloc (al0 _ _) _⟩
    · rw [firstWords_zero]
      exact ArrW.mk_ _ _ _ _ (by simp) rfl
    · refine ArrW.alloc (ArrW.mk_ w _ _ zero64 rfl ?_) _
      rfl
  case round =>
    obtain ⟨j, hj, rfl, ha1, ha0, hbel⟩ := hrel
    by_cases hlt : j < 16
    · obtain ⟨b, o, rfl, hb, hc⟩ := (hr.below hbel).pos (by omega)
      obtain ⟨x0, hx0⟩ : ∃ x, l[4 * j]? = some x := ⟨_, List.getElem?_eq_getElem (by have := Hll.out; omega)⟩
      obtain ⟨x1, hx1⟩ : ∃ x, l[4 * j + 1]? = some x := ⟨_, List.getElem?_eq_getElem (by have := Hll.out; omega)⟩
      obtain ⟨x2, hx2⟩ : ∃ x, l[4 * j + 2]? = some x := ⟨_, List.getElem?_eq_getElem (by have := Hll.out; omega)⟩
      obtain ⟨x3, hx3⟩ : ∃ x, l[4 * j + 3]? = some x := ⟨_, List.getElem?_eq_getElem (by have := Hll.out; omega)⟩
      have c0 : wr.cell? ⟨b, o + 4 * j, none⟩ = some (.int .u8 (x0.toNat : Int)) := hc _ _ (by rw [List.getElem?_map, hx0]; rfl)
      have c1 : wr.cell? ⟨b, o + (4 * j + 1), none⟩ = some (.int .u8 (x1.toNat : Int)) := hc _ _ (by rw [List.getElem?_map, hx1]; rfl)
      have c2 : wr.cell? ⟨b, o + (4 * j + 2), none⟩ = some (.int .u8 (x2.toNat : Int)) := hc _ _ (by rw [List.getElem?_map, hx2]; rfl)
      have c3 : wr.cell? ⟨b, o + (4 * j + 3), none⟩ = some (.int .u8 (x3.toNat : Int)) := hc _ _ (by rw [List.getElem?_map, hx3]; rfl)
      obtain ⟨y, hy⟩ : ∃ y, (firstWords l j)[j]? = some y := ⟨_, List.getElem?_eq_getElem (by simp [firstWords]; omega)⟩
      have cw := ha1.cell hy
      have fw := ha1.frozen j
      have n0 := x0.toNat_lt
      have n1 := x1.toNat_lt
      have n2 := x2.toNat_lt
      have n3 := x3.toNat_lt
      have b0 : 0 ≤ (j : Int) := by omega
      have b1 : (j : Int) < 64 := by omega
      have b2 : 4 * (j : Int) + 3 < (k : Int) := by omega
      have hword := Lib.hid (wordAt_of hx0 hx1 hx2 hx3)
      clear hc hx0 hx1 hx2 hx3 hy
      go_wp2_with fail
      go_region
      go_wp2_with fail
      go_roundw
      case rel =>
        refine ⟨j + 1, by omega, by go_num, ?_, ?_, ?_⟩
        · rw [firstWords_succ, hword.out]
          exact (ha1.set_ j _).drew
        · exact (ha0.far (by simp) _).drew
        · exact (hbel.setCell (by simp) _).drew
      case measure => simp [intOf]; omega
    · obtain rfl : j = 16 := by omega
      rw [show ((16 : Nat) : Int) = 16 from rfl]
      go_wp2_with fail
      go_loopw [5] (fun i wr => ∃ t : Nat, 16 ≤ t ∧ t ≤ 64 ∧ i = .int .i64 (t : Int) ∧ ArrW wr (w.heap.size + 1) 130 (schedTo l (t - 16)) ∧ ArrW wr w.heap.size 130 zero64 ∧ Below w.heap.size w wr) (fun i _ => (64 - intOf i).toNat)
      case atStart => exact ⟨16, by omega, by omega, rfl, ha1, ha0, hbel⟩
      case round =>
        obtain ⟨t, ht0, ht, rfl, hb1, hb0, hbel2⟩ := hrel
        by_cases hlt2 : t < 64
        · have hlen := schedTo_len l (t - 16)
          have Hst := Lib.hid (show schedTo l (t + 1 - 16) = schedStep (schedTo l (t - 16)) t by rw [show t + 1 - 16 = (t - 16) + 1 from by omega, schedTo, show 16 + (t - 16) = t from by omega])
          generalize schedTo l (t - 16) = ws at *
          obtain ⟨y16, h16⟩ : ∃ y, ws[t - 16]? = some y := ⟨_, List.getElem?_eq_getElem (by omega)⟩
          obtain ⟨y15, h15⟩ : ∃ y, ws[t - 15]? = some y := ⟨_, List.getElem?_eq_getElem (by omega)⟩
          obtain ⟨y7, h7⟩ : ∃ y, ws[t - 7]? = some y := ⟨_, List.getElem?_eq_getElem (by omega)⟩
          obtain ⟨y2, h2⟩ : ∃ y, ws[t - 2]? = some y := ⟨_, List.getElem?_eq_getElem (by omega)⟩
          obtain ⟨y, hy⟩ : ∃ y, ws[t]? = some y := ⟨_, List.getElem?_eq_getElem (by omega)⟩
          have c16 := hb1.cell h16
          have c15 := hb1.cell h15
          have c7 := hb1.cell h7
          have c2 := hb1.cell h2
          have cy := hb1.cell hy
          have fy := hb1.frozen t
          have l16 := u32_lt y16
          have l15 := u32_lt y15
          have l7 := u32_lt y7
          have l2 := u32_lt y2
          have Hsp := Lib.hid (show schedStep ws t = ws.set t (y16 + sig0 y15 + y7 + sig1 y2) by
            unfold schedStep; rw [List.getD_eq_getElem?_getD, List.getD_eq_getElem?_getD, List.getD_eq_getElem?_getD, List.getD_eq_getElem?_getD, h16, h15, h7, h2]; rfl)
          clear h16 h15 h7 h2 hy hlen
          go_wp2_with (go_at_call 93; refine (ror_any _ _ _ (by omega) (by omega)).mono ?_; rintro e w' ⟨rfl, q, rfl⟩)
          rw [sig0_val, sig1_val]
          have ls0 := u32_lt (sig0 y15)
          have ls1 := u32_lt (sig1 y2)
          have t0 : 0 ≤ (t : Int) - 16 := by omega
          have t1 : (t : Int) < 64 := by omega
          go_region
          go_wp2_with fail
          go_roundw
          case rel =>
            refine ⟨t + 1, by omega, by omega, by go_num, ?_, ?_, ?_⟩
            · rw [Hst.out, Hsp.out, w_add4]
              exact (hb1.drewN _).set_ t _
            · exact (hb0.drewN _).far (by simp) _
            · exact (hbel2.trans ⟨rfl, rfl, rfl, Nat.le_refl _, fun _ _ => rfl⟩ : Below w.heap.size w (wr.drewN _)).setCell (by simp) _
          case measure => simp [intOf]; omega
        · obtain rfl : t = 64 := by omega
          have hsz1 : (Tryd.prog.info? 130).map (·.size) = some (((schedTo l 48).map wv).toArray).size := by rw [info64]; simp [schedTo_len]
          have hsz0 : (zero64.map wv).toArray.size = ((schedTo l 48).map wv).toArray.size := by simp [schedTo_len, zero64]
          have Hsz1 := Lib.hid hsz1
          have Hsz0 := Lib.hid hsz0
          clear hsz1 hsz0
          go_wp2_with (first
            | ((with_reducible show wpList _ _ _ (⟨some 92, _, _, _, _, _⟩ :: _) _ _); refine wpList_load_row rfl 130 (.tmp 3) rfl (w.heap.size + 1) rfl 130 ((schedTo l 48).map wv).toArray (0, 0) _ hb1 Tryd.underlying130 rfl Hsz1.out ?_)
            | ((with_reducible show wpList _ _ _ (⟨none, Op.store 130 _ _, _, _, _, _⟩ :: _) _ _); refine wpList_store_row rfl 130 (.tmp 2) (.tmp 92) rfl w.heap.size ((schedTo l 48).map wv).toArray rfl rfl 130 _ hb0 Hsz1.out Hsz0.out (one_wv _) ?_))
          exact bodyPost_ret (results_cell_row rfl _ _ w.heap.size 130 _ (0, 0) _ rfl (hb0.row (schedTo l 48)) Tryd.underlying130 rfl Hsz1.out) rfl ⟨rfl, below_setRow hbel2 (Nat.le_refl _) _⟩

end Go.Proofs.YtlidhdljgnijaaaDoor

/-
  THE CONTRACT of the document's Block (coterieref02).
-/
set_option linter.unusedVariables false
namespace Go.Proofs.YtlidhdljgnijaaaDoor
open Go.RowKit

/-- the document's table lies in the world -/
def KTab (w : World) : Prop := ∀ (i : Nat) (x : UInt32), kU[i]? = some x → w.cell? ⟨0, i, none⟩ = some (.int .u32 (x.toNat : Int))
theorem KTab.lt {w : World} (h : KTab w) : 0 < w.heap.size := World.block_lt_of_cell? w _ (h 0 _ rfl)
theorem KTab.below {w w' : World} (h : KTab w) (hb : Below w.heap.size w w') : KTab w' := fun i x hx => (hb.cell (p := ⟨0, i, none⟩) h.lt).trans (h i x hx)

def zero8 : List UInt32 := List.replicate 8 0

theorem quietB {P : Program} {f : FuncId} {args : Array Value} {w : World} {a n : Nat} {v : Value} (h : Calls P f args (w.drewN (a + n)) fun e w' => e = .returned v ∧ ∃ q, w' = (w.drewN (a + n)).drewN q) :
    Calls P f args (w.drewN (a + n)) fun e w'' => e = .returned v ∧ ∃ m, w'' = w.drewN (a + m) :=
  h.mono fun _ _ ⟨he, m, hm⟩ => ⟨he, n + m, by rw [hm, World.drewN_drewN, Nat.add_assoc]⟩

/-- the walk's first sum is T1 -/
theorem t1_val (e f g h k w : UInt32) :
    (((h.toNat : Int) + bits .xor .u32 (bits .xor .u32 ((rorU e 6).toNat : Int) ((rorU e 11).toNat : Int)) ((rorU e 25).toNat : Int) + bits .xor .u32 (bits .and .u32 (e.toNat : Int) (f.toNat : Int)) (bits .and .u32 (bits .xor .u32 (if IntKind.u32.signed = true then -1 else IntKind.u32.max) (e.toNat : Int)) (g.toNat : Int)) + (k.toNat : Int)) % 4294967296 + (w.toNat : Int)) % 4294967296 = ((T1 e f g h k w).toNat : Int) := by
  rw [w_not, w_xor, w_xor, w_and, w_and, w_xor, w_add4, w_add]
  rfl
theorem t2_val (a b c : UInt32) :
    (bits .xor .u32 (bits .xor .u32 ((rorU a 2).toNat : Int) ((rorU a 13).toNat : Int)) ((rorU a 22).toNat : Int) + bits .xor .u32 (bits .xor .u32 (bits .and .u32 (a.toNat : Int) (b.toNat : Int)) (bits .and .u32 (a.toNat : Int) (c.toNat : Int))) (bits .and .u32 (b.toNat : Int) (c.toNat : Int))) % 4294967296 = ((T2 a b c).toNat : Int) := by
  rw [w_xor, w_xor, w_and, w_and, w_and, w_xor, w_xor, w_add]
  rfl

theorem info8 : (Tryd.prog.info? 94).map (·.size) = some 8 := by kernel_rfl

set_option maxRecDepth 1000000 in
set_option maxHeartbeats 800000 in
theorem Block_any (h : List UInt32) (A : Option Addr) (k c : Nat) (l : List UInt8) (w : World) (hh : h.length = 8) (hl : 64 ≤ k) (hk : k ≤ 1099511627776) (hr : Rd w w.heap.size A k (l.map bv)) (hT : KTab w) :
    Calls Tryd.prog 66 #[.agg (h.map wv).toArray, .slice A k c] w fun e w' => e = .returned (.agg ((blockW h (wordsU l)).map wv).toArray) ∧ Below w.heap.size w w' := by
  have hws : (wordsU l).length = 64 := schedTo_len l 48
  have hi8 : (Tryd.prog.info? 94).map (·.size) = some ((h.map wv).toArray).size := by rw [info8]; simp [hh]
  have hi64 : (Tryd.prog.info? 130).map (·.size) = some (((wordsU l).map wv).toArray).size := by rw [info64]; simp [hws]
  have hs8 : 8 = ((h.map wv).toArray).size := by simp [hh]
  have hs64 : 64 = (((wordsU l).map wv).toArray).size := by simp [hws]
  have Hi8 := Lib.hid hi8
  have Hi64 := Lib.hid hi64
  have Hs8 := Lib.hid hs8
  have Hs64 := Lib.hid hs64
  have Hh := Lib.hid hh
  have Hws := Lib.hid hws
  clear hi8 hi64 hs8 hs64 hh hws
  go_enter Tryd.func66, Tryd.ntmps66
  go_wp2_with fail
  refine (words_any _ _ _ l _ hl hk (((hr.alloc (Nat.le_refl _) _).alloc (al0 _ _) _).more (Nat.le_trans (al0 _ _) (al0 _ _)))).mono ?_
  rintro e w2 ⟨rfl, hb2⟩
  have ha2 : ArrW w2 w.heap.size 94 h := ((ArrW.mk_ w _ _ h rfl rfl).alloc _).below hb2 (by simp; omega)
  have hs2 : w.heap.size + 2 ≤ w2.heap.size := by have := hb2.size; simpa using this
  have hbw2 : Below w.heap.size w w2 := (((Below.refl _ _).alloc (Nat.le_refl _) _).alloc (al0 _ _) _).trans (hb2.mono (Nat.le_trans (al0 _ _) (al0 _ _)))
  generalize hgw : wordsU l = ws at *
  have Hgw := Lib.hid hgw
  clear hgw
  go_wp2_with (first
    | ((with_reducible show wpList _ _ _ (⟨none, Op.store 130 _ _, _, _, _, _⟩ :: _) _ _); refine wpList_store_row rfl 130 (.tmp 5) (.tmp 14) rfl w2.heap.size (ws.map wv).toArray rfl rfl 130 _ (heap_alloc_new _ _) Hi64.out (by rw [← Hs64.out]; rfl) (one_wv _) ?_; rw [World.setRow_alloc_new])
    | ((with_reducible show wpList _ _ _ (⟨some 15, _, _, _, _, _⟩ :: _) _ _); refine wpList_load_row rfl 94 (.tmp 2) rfl w.heap.size rfl 94 (h.map wv).toArray (0, 0) _ (ha2.alloc _) Tryd.underlying94 rfl Hi8.out ?_)
    | ((with_reducible show wpList _ _ _ (⟨none, Op.store 94 _ _, _, _, _, _⟩ :: _) _ _); refine wpList_store_row rfl 94 (.tmp 6) (.tmp 15) rfl (w2.heap.size + 1) (h.map wv).toArray rfl rfl 94 _ (heap_new (by simp) _) Hi8.out (by rw [← Hs8.out]; rfl) (one_wv _) ?_; rw [setRow_new (by simp)]))
  have hA5 : ArrW ((w2.alloc (.cells (ws.map wv).toArray 130)).alloc (.cells (h.map wv).toArray 94)) w2.heap.size 130 ws := (ArrW.mk_ w2 _ _ ws rfl rfl).alloc _
  have hA6 : ArrW ((w2.alloc (.cells (ws.map wv).toArray 130)).alloc (.cells (h.map wv).toArray 94)) (w2.heap.size + 1) 94 h := ArrW.mk_ _ _ _ h (by simp) rfl
  have hA2 : ArrW ((w2.alloc (.cells (ws.map wv).toArray 130)).alloc (.cells (h.map wv).toArray 94)) w.heap.size 94 h := (ha2.alloc _).alloc _
  have hA4 : ArrW ((w2.alloc (.cells (ws.map wv).toArray 130)).alloc (.cells (h.map wv).toArray 94)) (w.heap.size + 1) 94 zero8 := by
    refine ((((ArrW.mk_ _ _ _ zero8 (by simp) ?_).below hb2 (by simp)).alloc _).alloc _)
    rfl
  have hBW : Below w.heap.size w ((w2.alloc (.cells (ws.map wv).toArray 130)).alloc (.cells (h.map wv).toArray 94)) := (hbw2.alloc (by omega) _).alloc (by simp; omega) _
  go_loopw [16] (fun i wr => ∃ t : Nat, t ≤ 64 ∧ i = .int .i64 (t : Int) ∧ ArrW wr (w2.heap.size + 1) 94 (roundsTo h ws t) ∧ ArrW wr w2.heap.size 130 ws ∧ ArrW wr w.heap.size 94 h ∧ ArrW wr (w.heap.size + 1) 94 zero8 ∧ Below w.heap.size w wr) (fun i _ => (64 - intOf i).toNat)
  case atStart => exact ⟨0, by omega, rfl, hA6, hA5, hA2, hA4, hBW⟩
  case round =>
    obtain ⟨t, ht, rfl, h6, h5, h2, h4, hbel⟩ := hrel
    by_cases hlt : t < 64
    · have hT' := hT.below hbel
      obtain ⟨a0, b0, c0, d0, e0, f0, g0, i0, hv⟩ := eight (roundsTo_len (ws := ws) Hh.out t)
      obtain ⟨kt, hkt⟩ : ∃ y, kU[t]? = some y := ⟨_, List.getElem?_eq_getElem (by rw [kU_len]; omega)⟩
      obtain ⟨wt, hwt⟩ : ∃ y, ws[t]? = some y := ⟨_, List.getElem?_eq_getElem (by have := Hws.out; omega)⟩
      have Hst := Lib.hid (show roundsTo h ws (t + 1) = [T1 e0 f0 g0 i0 kt wt + T2 a0 b0 c0, a0, b0, c0, d0 + T1 e0 f0 g0 i0 kt wt, e0, f0, g0] by
        rw [roundsTo, hv, List.getD_eq_getElem?_getD, List.getD_eq_getElem?_getD, hkt, hwt]; rfl)
      rw [hv] at h6
      have m0 := h6.cell (i := 0) rfl
      have m1 := h6.cell (i := 1) rfl
      have m2 := h6.cell (i := 2) rfl
      have m3 := h6.cell (i := 3) rfl
      have m4 := h6.cell (i := 4) rfl
      have m5 := h6.cell (i := 5) rfl
      have m6 := h6.cell (i := 6) rfl
      have m7 := h6.cell (i := 7) rfl
      have mk := hT' t kt hkt
      have mw := h5.cell hwt
      have t0 : 0 ≤ (t : Int) := by omega
      have t1 : (t : Int) < 64 := by omega
      clear hkt hwt hv
      go_wp2_with fail
      go_quiet (fail)
      go_wp2_with fail
      go_cut [10] (fun c wx => c = .int .u32 ((T1 e0 f0 g0 i0 kt wt).toNat : Int) ∧ ∃ n, wx = wr.drewN n)
      case first =>
        rename_i J1 K1 hJ1 hK1
        go_quiet ((go_at_call 93; exact quietB (ror_any _ _ _ (by omega) (by omega))))
        rw [t1_val]
        show K1 _ _
        refine hK1 _ _ (Met.intro (hJ1 _ _ ?_))
        repeat apply Exists.intro
        exact ⟨⟨rfl, _, World.drewN_drewN _ _ _⟩, rfl⟩
      case rest =>
        obtain ⟨rfl, n1, rfl⟩ := hcut
        generalize hx1 : T1 e0 f0 g0 i0 kt wt = x1 at *
        clear hx1
        go_wp2_with fail
        go_cut [11] (fun c wx => c = .int .u32 ((T2 a0 b0 c0).toNat : Int) ∧ ∃ n, wx = wr.drewN n)
        case first =>
          rename_i J1 K1 hJ1 hK1
          go_quiet ((go_at_call 93; exact quietB (ror_any _ _ _ (by omega) (by omega))))
          rw [t2_val]
          show K1 _ _
          refine hK1 _ _ (Met.intro (hJ1 _ _ ?_))
          repeat apply Exists.intro
          exact ⟨⟨rfl, _, World.drewN_drewN _ _ _⟩, rfl⟩
        case rest =>
          obtain ⟨rfl, n2, rfl⟩ := hcut
          generalize hx2 : T2 a0 b0 c0 = x2 at *
          clear hx2
          go_wp2_with (
            ((with_reducible show wpList _ _ _ (⟨none, _, _, _, _, _⟩ :: _) _ _)
             rw [w_add x1 x2, w_add d0 x1]
             refine wpList_store_row rfl 94 (.tmp 6) (.tmp 96) rfl (w2.heap.size + 1) ([x1 + x2, a0, b0, c0, d0 + x1, e0, f0, g0].map wv).toArray rfl rfl 94 _ (h6.drewN n2) info8 rfl (one_wv _) ?_))
          refine ⟨⟨t + 1, by omega, by go_num, ?_, ?_, ?_, ?_, ?_⟩, by simp [intOf]; omega⟩
          · rw [Hst.out]
            exact (h6.drewN n2).row [x1 + x2, a0, b0, c0, d0 + x1, e0, f0, g0]
          · exact (h5.drewN n2).rowFar (g' := w2.heap.size + 1) (by omega) _
          · exact (h2.drewN n2).rowFar (g' := w2.heap.size + 1) (by omega) _
          · exact (h4.drewN n2).rowFar (g' := w2.heap.size + 1) (by omega) _
          · exact below_setRow (g := w2.heap.size + 1) (hbel.trans ⟨rfl, rfl, rfl, Nat.le_refl _, fun _ _ => rfl⟩ : Below w.heap.size w (wr.drewN n2)) (by omega) _
    · obtain rfl : t = 64 := by omega
      rw [show ((64 : Nat) : Int) = 64 from rfl]
      have hlen := roundsTo_len (ws := ws) Hh.out 64
      generalize hgv : roundsTo h ws 64 = v at *
      have Hgv := Lib.hid hgv
      have Hlen := Lib.hid hlen
      clear hgv hlen
      go_wp2_with fail
      go_loopw [98] (fun i wr => ∃ j : Nat, j ≤ 8 ∧ i = .int .i64 (j : Int) ∧ ArrW wr (w2.heap.size + 1) 94 v ∧ ArrW wr w.heap.size 94 (addTo h v j) ∧ ArrW wr (w.heap.size + 1) 94 zero8 ∧ Below w.heap.size w wr) (fun i _ => (8 - intOf i).toNat)
      case atStart => exact ⟨0, by omega, rfl, h6, by rw [addTo_zero Hh.out]; exact h2, h4, hbel⟩
      case round =>
        obtain ⟨j, hj, rfl, g6, g2, g4, hbel2⟩ := hrel
        by_cases hlt2 : j < 8
        · obtain ⟨vj, hvj⟩ : ∃ y, v[j]? = some y := ⟨_, List.getElem?_eq_getElem (by rw [Hlen.out]; omega)⟩
          have q6 := g6.cell hvj
          have q2 := g2.cell (addTo_at (h := h) (v := v) hlt2)
          have Hvj := Lib.hid hvj
          clear hvj
          have j0 : 0 ≤ (j : Int) := by omega
          have j1 : (j : Int) < 8 := by omega
          have f2 := g2.frozen j
          have lv := u32_lt vj
          have lh := u32_lt (h.getD j 0)
          have hne : ¬ w.heap.size = w2.heap.size + 1 := by omega
          have hgt : w.heap.size < wr.heap.size := g2.lt
          go_wp2_with fail
          go_region
          go_wp2_with fail
          go_roundw
          case rel =>
            refine ⟨j + 1, by omega, by go_num, ?_, ?_, ?_, ?_⟩
            · exact g6.drew.far (by simp; omega) _
            · rw [addTo_succ, w_add, List.getD_eq_getElem?_getD (l := v), Hvj.out]
              exact g2.drew.set_ j _
            · exact g4.drew.far (by simp) _
            · exact (hbel2.trans ⟨rfl, rfl, rfl, Nat.le_refl _, fun _ _ => rfl⟩ : Below w.heap.size w wr.drew).setCell (by simp) _
          case measure => simp [intOf]; omega
        · obtain rfl : j = 8 := by omega
          rw [show ((8 : Nat) : Int) = 8 from rfl]
          have hblk : blockW h ws = addTo h v 8 := by rw [blockW, Hgv.out]
          have Hblk := Lib.hid (show blockW h (wordsU l) = addTo h v 8 by rw [Hgw.out, hblk])
          clear hblk
          have hf8 : (Tryd.prog.info? 94).map (·.size) = some (((addTo h v 8).map wv).toArray).size := by rw [info8]; simp [addTo_len]
          have hz8 : (zero8.map wv).toArray.size = ((addTo h v 8).map wv).toArray.size := by simp [addTo_len, zero8]
          have Hf8 := Lib.hid hf8
          have Hz8 := Lib.hid hz8
          clear hf8 hz8
          generalize addTo h v 8 = hv8 at *
          go_wp2_with (first
            | ((with_reducible show wpList _ _ _ (⟨some 110, _, _, _, _, _⟩ :: _) _ _); refine wpList_load_row rfl 94 (.tmp 2) rfl w.heap.size rfl 94 (hv8.map wv).toArray (0, 0) _ g2 Tryd.underlying94 rfl Hf8.out ?_)
            | ((with_reducible show wpList _ _ _ (⟨none, Op.store 94 _ _, _, _, _, _⟩ :: _) _ _); refine wpList_store_row rfl 94 (.tmp 4) (.tmp 110) rfl (w.heap.size + 1) (hv8.map wv).toArray rfl rfl 94 _ g4 Hf8.out Hz8.out (one_wv _) ?_))
          exact bodyPost_ret (results_cell_row rfl _ _ (w.heap.size + 1) 94 _ (0, 0) _ rfl (g4.row hv8) Tryd.underlying94 rfl Hf8.out) rfl ⟨by rw [Hblk.out], below_setRow hbel2 (by omega) _⟩

end Go.Proofs.YtlidhdljgnijaaaDoor

/-
  CONTRACTS of the document's own small functions of layer 1 that later layers use too: Copy, Bytes, Same.
-/
set_option linter.unusedVariables false
namespace Go.Proofs.YtlidhdljgnijaaaDoor
open Go.RowKit

theorem Copy_all (A : Option Addr) (k c : Nat) (l : List UInt8) (w : World) (hk : k ≤ 140737488355328) (hr : Rd w w.heap.size A k (l.map bv)) :
    Calls Tryd.prog 27 #[.slice A k c] w fun e w' =>
      ∃ A' c', e = .returned (.slice A' k c') ∧ w'.ownsRow w.heap.size 5 1 (.slice A' k c') k (l.map bv) ∧ Below w.heap.size w w' := by
  obtain ⟨i0, hi0, hz0, hz1, hz2⟩ := info_parts byteInfo
  go_enter Tryd.func27, Tryd.ntmps27
  go_wp2_with (at_builtin; refine wpList_append_rd _ rfl (.const (.slice none 0 0)) (.tmp 3) _ rfl w.heap.size 5 i0 _ 1 Tryd.underlying41 hi0 hz0 hz1 hz2 rfl (.slice none 0 0) 0 [] rfl (World.ownsRow_nil _ _ _ _) w.heap.size A k c (l.map bv) rfl hr (one_bv l) (by simp only [maxLen]; omega) (by omega) (Nat.le_refl _) ?_; intro v2 w2 hown2 hgr2 hat2)
  go_ret
  obtain ⟨A', c', rfl, _, _⟩ := own_form hown2
  rw [Nat.zero_add] at hown2 ⊢
  refine ⟨A', c', rfl, hown2, ?_⟩
  exact (Below.refl _ _).grown hgr2 (Nat.le_refl _) (by simp [Value.ownBlock])
theorem Copy_any (A : Option Addr) (k c : Nat) (l : List UInt8) (w : World) (hk : k ≤ 1099511627776) (hr : Rd w w.heap.size A k (l.map bv)) :
    Calls Tryd.prog 27 #[.slice A k c] w fun e w' =>
      ∃ A' c', e = .returned (.slice A' k c') ∧ w'.ownsRow w.heap.size 5 1 (.slice A' k c') k (l.map bv) ∧ Below w.heap.size w w' := Copy_all A k c l w (by omega) hr

set_option maxHeartbeats 400000 in
theorem Bytes_any (width n : Nat) (w : World) (hw : width ≤ 8) (hn : n < 18446744073709551616) :
    Calls Tryd.prog 30 #[.int .i64 (width : Int), .int .u64 (n : Int)] w fun e w' =>
      ∃ A c, e = .returned (.slice A width c) ∧ w'.ownsRow w.heap.size 5 1 (.slice A width c) width ((be width n).map bv) ∧ Below w.heap.size w w' := by
  obtain ⟨i0, hi0, hz0, hz1, hz2⟩ := info_parts byteInfo
  go_enter Tryd.func30, Tryd.ntmps30
  go_wp2
  go_loopw [1, 5, 7] (fun x v i wr => ∃ j : Nat, j ≤ width ∧ i = .int .i64 (j : Int) ∧ x = .int .u64 ((n / 256 ^ j : Nat) : Int) ∧ wr.ownsRow w.heap.size 5 1 v j ((be j n).map bv) ∧ Below w.heap.size w wr) (fun _ _ i _ => width - (intOf i).toNat)
  case atStart => exact ⟨0, by omega, rfl, by simp, World.ownsRow_nil _ _ _ _, Below.refl _ _⟩
  case round =>
    obtain ⟨j, hj, rfl, rfl, hown1, hbel⟩ := hrel
    have hsz := hbel.size
    have hq : n / 256 ^ j < 18446744073709551616 := Nat.lt_of_le_of_lt (Nat.div_le_self _ _) hn
    have hq2 : n / 256 ^ (j + 1) = n / 256 ^ j / 256 := by rw [Nat.div_div_eq_div_mul, Nat.pow_succ]
    have Hq2 := Lib.hid hq2
    clear hq2
    have hbc := be_cons j n
    have Hbc := Lib.hid hbc
    clear hbc
    generalize hg : n / 256 ^ j = q at *
    clear hg
    by_cases hlt : j < width
    · obtain ⟨A, c, rfl, hc, hl⟩ := own_form hown1
      go_wp2_with (at_builtin; refine wpList_append_rd _ rfl (.tmp 12) (.tmp 13) _ rfl w.heap.size 5 i0 _ 1 Tryd.underlying41 hi0 hz0 hz1 hz2 rfl (.slice (some ⟨wr.heap.size, 0, none⟩) 1 1) 1 [.int .u8 ((q : Int) % 256)] rfl (own_new _ _ _ #[_] (by omega) (by simp [maxLen])) wr.heap.size A j c ((be j n).map bv) rfl ((Rd.of_own hown1).alloc (Nat.le_refl _) _) (one_bv _) (by simp only [maxLen]; omega) (by omega) (by simp; omega) ?_; intro v1 w1 hown2 hgr hat)
      go_roundw
      case rel =>
        refine ⟨j + 1, by omega, by go_num, ?_, ?_, ?_⟩
        · rw [Hq2.out]; rfl
        · rw [Hbc.out, List.map_cons, bv_def]
          have e : ((UInt8.ofNat q).toNat : Int) = (q : Int) % 256 := by simp [UInt8.toNat_ofNat']
          rw [e, Nat.add_comm]
          exact hown2
        · exact (hbel.alloc (by omega) _).grown hgr (by simp; omega) (by simp [Value.ownBlock]; omega)
      case measure => simp [intOf]; omega
    · obtain rfl : j = width := by omega
      go_wp2
      go_ret
      obtain ⟨A, c, rfl, hc, hl⟩ := own_form hown1
      exact ⟨A, c, rfl, hown1, hbel⟩

def sameB (l l' : List UInt8) : Bool := l == l'
theorem sameB_refl (l : List UInt8) : sameB l l = true := by simp [sameB]

theorem Same_any (A A' : Option Addr) (k c k' c' : Nat) (l l' : List UInt8) (w : World) (B B' : Nat) (hr : Rd w B A k (l.map bv)) (hr' : Rd w B' A' k' (l'.map bv)) :
    Calls Tryd.prog 20 #[.slice A k c, .slice A' k' c'] w fun e w' => e = .returned (.bool (sameB l l')) ∧ w = w' := by
  have h1 := run_convert_rd (P := Tryd.prog) w 41 5 9 Tryd.underlying41 Tryd.underlying5 Tryd.underlying9 (c := c) hr
  have h2 := run_convert_rd (P := Tryd.prog) w 41 5 9 Tryd.underlying41 Tryd.underlying5 Tryd.underlying9 (c := c') hr'
  go_enter Tryd.func20, Tryd.ntmps20
  go_wp2_with fail
  go_ret
  exact ⟨by
    show Ending.returned (.bool ((strOf l).toList == (strOf l').toList)) = _
    rw [strOf_list, strOf_list, sameB], rfl⟩

/-- texts in a list: each head reads its text -/
def Txs (w : World) (B : Nat) (vs : List Value) (ts : List (List UInt8)) : Prop :=
  vs.length = ts.length ∧ ∀ (i : Nat) (v : Value) (t : List UInt8), vs[i]? = some v → ts[i]? = some t → ∃ A c, v = .slice A t.length c ∧ t.length ≤ c ∧ Rd w B A t.length (t.map bv)

theorem Txs.below {w w' : World} {B : Nat} {vs : List Value} {ts : List (List UInt8)} (h : Txs w B vs ts) (hb : Below B w w') : Txs w' B vs ts :=
  ⟨h.1, fun i v t hv ht => by
    obtain ⟨A, c, e, hc, hr⟩ := h.2 i v t hv ht
    exact ⟨A, c, e, hc, hr.below hb⟩⟩
theorem Txs.more {w : World} {B B' : Nat} {vs : List Value} {ts : List (List UInt8)} (h : Txs w B vs ts) (hb : B ≤ B') : Txs w B' vs ts :=
  ⟨h.1, fun i v t hv ht => by
    obtain ⟨A, c, e, hc, hr⟩ := h.2 i v t hv ht
    exact ⟨A, c, e, hc, hr.more hb⟩⟩

theorem Txs.nil (w : World) (B : Nat) : Txs w B [] [] := ⟨rfl, fun i v t h => by simp at h⟩
theorem Txs.one {w : World} {B : Nat} {A : Option Addr} {c : Nat} {t : List UInt8} (hr : Rd w B A t.length (t.map bv)) (hc : t.length ≤ c) : Txs w B [.slice A t.length c] [t] :=
  ⟨rfl, fun i v u hv hu => by
    rcases i with _ | i
    · simp at hv hu; subst hv hu; exact ⟨A, c, rfl, hc, hr⟩
    · simp at hv⟩

end Go.Proofs.YtlidhdljgnijaaaDoor

/-
  CONTRACTS of the document's Padded and First (coterieref02).
-/
set_option linter.unusedVariables false
namespace Go.Proofs.YtlidhdljgnijaaaDoor
open Go.RowKit

/-- how many zeros a padding of n bytes holds -/
def zeros (n : Nat) : Nat := (119 - n % 64) % 64
theorem zeros_le (n : Nat) : zeros n < 64 := Nat.mod_lt _ (by omega)
theorem zeros_ne (n j : Nat) (h : j < zeros n) : ¬ (n + 1 + j) % 64 = 56 := by unfold zeros at h; omega
theorem zeros_eq (n : Nat) : (n + 1 + zeros n) % 64 = 56 := by unfold zeros; omega

def padTo (l : List UInt8) (j : Nat) : List UInt8 := l ++ [128] ++ List.replicate j 0
def padU (l : List UInt8) : List UInt8 := padTo l (zeros l.length) ++ be 8 (8 * l.length)
theorem padTo_succ (l : List UInt8) (j : Nat) : (padTo l (j + 1)).map bv = (padTo l j).map bv ++ [.int .u8 0] := by
  simp [padTo, List.replicate_succ', bv]
theorem padTo_len (l : List UInt8) (j : Nat) : (padTo l j).length = l.length + 1 + j := by simp [padTo]; omega
theorem padU_len (l : List UInt8) : (padU l).length = l.length + 1 + zeros l.length + 8 := by simp [padU, padTo_len, be_length]
theorem padU_64 (l : List UInt8) : (padU l).length % 64 = 0 := by rw [padU_len]; have := zeros_eq l.length; omega

def lenOf : Value → Nat
  | .slice _ n _ => n
  | _ => 0

set_option maxHeartbeats 400000 in
theorem Padded_any (A : Option Addr) (k c : Nat) (l : List UInt8) (w : World) (hk : k ≤ 1099511627776) (hr : Rd w w.heap.size A k (l.map bv)) :
    Calls Tryd.prog 63 #[.slice A k c] w fun e w' =>
      ∃ A' n c', e = .returned (.slice A' n c') ∧ n ≤ c' ∧ w'.ownsRow w.heap.size 5 1 (.slice A' n c') n ((padU l).map bv) ∧ Below w.heap.size w w' := by
  obtain ⟨i0, hi0, hz0, hz1, hz2⟩ := info_parts byteInfo
  have Hkl := Lib.hid (show l.length = k by simpa using hr.len)
  go_enter Tryd.func63, Tryd.ntmps63
  go_wp2_with (first
    | (go_at_call 27; refine (Copy_any A k c l _ hk hr).mono ?_; rintro e w1 ⟨A1, c1, rfl, hown1, hb1⟩)
    | (at_builtin; refine wpList_append_rd _ rfl (.tmp 5) (.tmp 6) _ rfl w.heap.size 5 i0 _ 1 Tryd.underlying41 hi0 hz0 hz1 hz2 rfl (.slice A1 k c1) k _ rfl (hown1.alloc _) (w1.heap.size + 1) _ 1 1 [.int .u8 128] rfl (Rd.new _ _ #[_]) (by simp [Value.oneCell']) (by simp only [maxLen]; omega) (by omega) (Nat.le_trans hb1.size (al0 _ _)) ?_; intro v2 w2 hown2 hgr2 hat2))
  have hb2 : Below w.heap.size w w2 := (hb1.alloc hb1.size _).grown hgr2 (Nat.le_trans hb1.size (al0 _ _)) (fun g hg => (hown1.lt g hg).1)
  go_loopw [3] (fun v wr => ∃ (j : Nat) (A' : Option Addr) (c' : Nat), j ≤ zeros k ∧ v = .slice A' (k + 1 + j) c' ∧ wr.ownsRow w.heap.size 5 1 v (k + 1 + j) ((padTo l j).map bv) ∧ Below w.heap.size w wr) (fun v _ => k + 65 - lenOf v)
  case atStart =>
    obtain ⟨A2, c2, rfl, _, _⟩ := own_form hown2
    refine ⟨0, A2, c2, Nat.zero_le _, rfl, ?_, hb2⟩
    simpa [padTo, bv] using hown2
  case round =>
    obtain ⟨j, A3, c3, hj, rfl, hown3, hb3⟩ := hrel
    have hz := zeros_le k
    by_cases hlt : j < zeros k
    · have hne := zeros_ne k j hlt
      have Hz := Lib.hid (show k + 1 + (j + 1) = k + 1 + j + 1 from rfl)
      generalize hm : k + 1 + j = m at *
      have hm2 : ((m : Int) % 64 != 56) = true := by simp; omega
      have Hm := Lib.hid hm
      have hm3 : m ≤ 1099511627776 + 65 := by omega
      clear hm hne
      have hb4 := hb3.size
      go_wp2_with (at_builtin; refine wpList_append_rd _ rfl (.tmp 12) (.tmp 13) _ rfl w.heap.size 5 i0 _ 1 Tryd.underlying41 hi0 hz0 hz1 hz2 rfl (.slice A3 m c3) m _ rfl (hown3.alloc _) (wr.heap.size + 1) _ 1 1 [.int .u8 0] rfl (Rd.new _ _ #[_]) (by simp [Value.oneCell']) (by simp only [maxLen]; omega) (by omega) (Nat.le_trans hb4 (al0 _ _)) ?_; intro v4 w4 hown4 hgr4 hat4)
      obtain ⟨A4, c4, rfl, _, _⟩ := own_form hown4
      go_roundw
      case rel =>
        refine ⟨j + 1, A4, c4, by omega, by rw [Hz.out], ?_, ?_⟩
        · rw [Hz.out, padTo_succ]
          exact hown4
        · exact (hb3.alloc hb4 _).grown hgr4 (Nat.le_trans hb4 (al0 _ _)) (fun g hg => (hown3.lt g hg).1)
      case measure =>
        have := Hm.out
        simp [lenOf]; omega
    · obtain rfl : j = zeros k := by omega
      have heq := zeros_eq k
      generalize hm : k + 1 + zeros k = m at *
      have hm2 : ((m : Int) % 64 != 56) = false := by simp; omega
      have Hm := Lib.hid hm
      have hm3 : m ≤ 1099511627776 + 65 := by omega
      clear hm heq
      have hb4 := hb3.size
      go_wp2_with (first
        | (go_at_call 30; rw [show ((8 : Int) * (k : Int)) = ((8 * k : Nat) : Int) from by omega]; refine (Bytes_any 8 (8 * k) _ (by omega) (by omega)).mono ?_; rintro e w4 ⟨A4, c4, rfl, hown4, hb4⟩)
        | (at_builtin; refine wpList_append_rd _ rfl (.tmp 15) (.tmp 20) _ rfl w.heap.size 5 i0 _ 1 Tryd.underlying41 hi0 hz0 hz1 hz2 rfl (.slice A3 m c3) m _ rfl (own_below hown3 hb4) w4.heap.size _ 8 c4 _ rfl (Rd.of_own hown4) (one_bv _) (by simp only [maxLen]; omega) (by omega) (Nat.le_trans hb3.size hb4.size) ?_; intro v5 w5 hown5 hgr5 hat5))
      go_ret
      obtain ⟨A5, c5, rfl, hc5, _⟩ := own_form hown5
      refine ⟨A5, _, c5, rfl, hc5, ?_, ?_⟩
      · rw [padU, List.map_append, Hkl.out]
        exact hown5
      · exact (hb3.trans (hb4.mono hb3.size)).grown hgr5 (Nat.le_trans hb3.size hb4.size) (fun g hg => (hown3.lt g hg).1)

theorem flat_take_succ {ts : List (List UInt8)} {q : Nat} {t : List UInt8} (h : ts[q]? = some t) : (ts.take (q + 1)).flatten = (ts.take q).flatten ++ t := by
  rw [take_succ_of h]; simp
theorem flat_take_le (ts : List (List UInt8)) (q : Nat) : (ts.take q).flatten.length ≤ ts.flatten.length := by
  conv => rhs; rw [← List.take_append_drop q ts, List.flatten_append, List.length_append]
  omega

set_option maxHeartbeats 400000 in
theorem All_any (At : Option Addr) (m ct : Nat) (vs : List Value) (ts : List (List UInt8)) (w : World) (hm : m ≤ 5864062014805) (htot : ts.flatten.length ≤ 1099511627776)
    (hv : Rd w w.heap.size At m vs) (ht : Txs w w.heap.size vs ts) :
    Calls Tryd.prog 64 #[.slice At m ct] w fun e w' =>
      ∃ A' n c', e = .returned (.slice A' n c') ∧ n ≤ c' ∧ w'.ownsRow w.heap.size 5 1 (.slice A' n c') n (ts.flatten.map bv) ∧ Below w.heap.size w w' := by
  obtain ⟨i0, hi0, hz0, hz1, hz2⟩ := info_parts byteInfo
  have hml : vs.length = m := hv.len
  have htl : ts.length = m := by rw [← ht.1, hml]
  have Hml := Lib.hid hml
  have Htl := Lib.hid htl
  have Hle := Lib.hid (flat_take_le ts)
  clear hml htl
  go_enter Tryd.func64, Tryd.ntmps64
  go_wp2_with fail
  go_loopw [3, 8] (fun v i wr => ∃ q n : Nat, q ≤ m ∧ i = .int .i64 (q : Int) ∧ wr.ownsRow w.heap.size 5 1 v n ((ts.take q).flatten.map bv) ∧ Below w.heap.size w wr) (fun _ i _ => m - (intOf i).toNat)
  case atStart => exact ⟨0, 0, by omega, rfl, by simpa using World.ownsRow_nil _ _ _ _, Below.refl _ _⟩
  case round =>
    obtain ⟨q, n, hq, rfl, hown2, hbel2⟩ := hrel
    have hsz := hbel2.size
    have hn : n ≤ 1099511627776 := by
      have h1 := hown2.1
      have h2 := Hle.out q
      simp only [List.length_map] at h1
      omega
    by_cases hlt : q < m
    · obtain ⟨b, o, rfl, hb, hc⟩ := (hv.below hbel2).pos (by omega)
      obtain ⟨v, hvj⟩ : ∃ v, vs[q]? = some v := ⟨_, List.getElem?_eq_getElem (by have := Hml.out; omega)⟩
      obtain ⟨t, htj⟩ : ∃ t, ts[q]? = some t := ⟨_, List.getElem?_eq_getElem (by have := Htl.out; omega)⟩
      obtain ⟨Ax, cx, rfl, hcx, hrx⟩ := (ht.below hbel2).2 q v t hvj htj
      have hcell := hc q _ hvj
      have hnt : n + t.length ≤ 1099511627776 := by
        have h1 := hown2.1
        have h2 := Hle.out (q + 1)
        rw [flat_take_succ htj, List.length_append] at h2
        simp only [List.length_map] at h1
        omega
      have Hsn := Lib.hid (flat_take_succ htj)
      clear hvj htj hc
      obtain ⟨A3, c3, rfl, _, _⟩ := own_form hown2
      go_wp2_with (at_builtin; refine wpList_append_rd _ rfl (.tmp 12) (.tmp 13) _ rfl w.heap.size 5 i0 _ 1 Tryd.underlying41 hi0 hz0 hz1 hz2 rfl (.slice A3 n c3) n _ rfl hown2 w.heap.size Ax t.length cx (t.map bv) rfl hrx (one_bv _) (by simp only [maxLen]; omega) (by omega) hsz ?_; intro v5 w5 hown5 hgr5 hat5)
      go_roundw
      case rel =>
        refine ⟨q + 1, n + t.length, by omega, by go_num, ?_, ?_⟩
        · rw [Hsn.out, List.map_append]
          exact hown5
        · exact hbel2.grown hgr5 hsz (fun g hg => (hown2.lt g hg).1)
      case measure => simp [intOf]; omega
    · obtain rfl : q = m := by omega
      obtain ⟨A3, c3, rfl, hc3, _⟩ := own_form hown2
      go_wp2_with fail
      go_ret
      refine ⟨A3, n, c3, rfl, hc3, ?_, hbel2⟩
      have e : ts.take q = ts := List.take_of_length_le (by have := Htl.out; omega)
      rw [e] at hown2
      exact hown2

end Go.Proofs.YtlidhdljgnijaaaDoor

