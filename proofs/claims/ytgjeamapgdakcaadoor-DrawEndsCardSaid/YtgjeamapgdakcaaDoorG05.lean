import Derived.Test.YtgjeamapgdakcaaDoorG04
import Derived.Deep.WholeRow
import Derived.Deep.DeepCutAuto
/-
  THE CONTRACT of the document's Block (coterieref02).
-/
set_option linter.unusedVariables false
namespace Go.Proofs.YtgjeamapgdakcaaDoor
open Go.RowKit

/-- the document's table lies in the world -/
def KTab (w : World) : Prop := ∀ (i : Nat) (x : UInt32), kU[i]? = some x → w.cell? ⟨0, i, none⟩ = some (.int .u32 (x.toNat : Int))
theorem KTab.lt {w : World} (h : KTab w) : 0 < w.heap.size := World.block_lt_of_cell? w _ (h 0 _ rfl)
theorem KTab.below {w w' : World} (h : KTab w) (hb : Below w.heap.size w w') : KTab w' := fun i x hx => (hb.cell (p := ⟨0, i, none⟩) h.lt).trans (h i x hx)

def zero8 : List UInt32 := List.replicate 8 0

theorem quietB {P : Program} {f : FuncId} {args : Array Value} {w : World} {a n : Nat} {v : Value} (h : Calls P f args (w.drewN (a + n)) fun e w' => e = .returned v ∧ ∃ q, w' = (w.drewN (a + n)).drewN q) :
    Calls P f args (w.drewN (a + n)) fun e w'' => e = .returned v ∧ ∃ m, w'' = w.drewN (a + m) :=
  h.mono fun _ _ ⟨he, m, hm⟩ => ⟨he, n + m, by rw [hm, World.drewN_drewN, Nat.add_assoc]⟩

/-- the walk's first sum is T1 -/
theorem t1_val (e f g h k w : UInt32) :
    (((h.toNat : Int) + bits .xor .u32 (bits .xor .u32 ((rorU e 6).toNat : Int) ((rorU e 11).toNat : Int)) ((rorU e 25).toNat : Int) + bits .xor .u32 (bits .and .u32 (e.toNat : Int) (f.toNat : Int)) (bits .and .u32 (bits .xor .u32 (if IntKind.u32.signed = true then -1 else IntKind.u32.max) (e.toNat : Int)) (g.toNat : Int)) + (k.toNat : Int)) % 4294967296 + (w.toNat : Int)) % 4294967296 = ((T1 e f g h k w).toNat : Int) := by
  rw [w_not, w_xor, w_xor, w_and, w_and, w_xor, w_add4, w_add]
  rfl
theorem t2_val (a b c : UInt32) :
    (bits .xor .u32 (bits .xor .u32 ((rorU a 2).toNat : Int) ((rorU a 13).toNat : Int)) ((rorU a 22).toNat : Int) + bits .xor .u32 (bits .xor .u32 (bits .and .u32 (a.toNat : Int) (b.toNat : Int)) (bits .and .u32 (a.toNat : Int) (c.toNat : Int))) (bits .and .u32 (b.toNat : Int) (c.toNat : Int))) % 4294967296 = ((T2 a b c).toNat : Int) := by
  rw [w_xor, w_xor, w_and, w_and, w_and, w_xor, w_xor, w_add]
  rfl

theorem info8 : (Tryd.prog.info? 57).map (·.size) = some 8 := by kernel_rfl

set_option maxRecDepth 1000000 in
set_option maxHeartbeats 800000 in
theorem Block_any (h : List UInt32) (A : Option Addr) (k c : Nat) (l : List UInt8) (w : World) (hh : h.length = 8) (hl : 64 ≤ k) (hk : k ≤ 1099511627776) (hr : Rd w w.heap.size A k (l.map bv)) (hT : KTab w) :
    Calls Tryd.prog 36 #[.agg (h.map wv).toArray, .slice A k c] w fun e w' => e = .returned (.agg ((blockW h (wordsU l)).map wv).toArray) ∧ Below w.heap.size w w' := by
  have hws : (wordsU l).length = 64 := schedTo_len l 48
  have hi8 : (Tryd.prog.info? 57).map (·.size) = some ((h.map wv).toArray).size := by rw [info8]; simp [hh]
  have hi64 : (Tryd.prog.info? 75).map (·.size) = some (((wordsU l).map wv).toArray).size := by rw [info64]; simp [hws]
  have hs8 : 8 = ((h.map wv).toArray).size := by simp [hh]
  have hs64 : 64 = (((wordsU l).map wv).toArray).size := by simp [hws]
  have Hi8 := Lib.hid hi8
  have Hi64 := Lib.hid hi64
  have Hs8 := Lib.hid hs8
  have Hs64 := Lib.hid hs64
  have Hh := Lib.hid hh
  have Hws := Lib.hid hws
  clear hi8 hi64 hs8 hs64 hh hws
  go_enter Tryd.func36, Tryd.ntmps36
  go_wp2_with fail
  refine (words_any _ _ _ l _ hl hk (((hr.alloc (Nat.le_refl _) _).alloc (al0 _ _) _).more (Nat.le_trans (al0 _ _) (al0 _ _)))).mono ?_
  rintro e w2 ⟨rfl, hb2⟩
  have ha2 : ArrW w2 w.heap.size 57 h := ((ArrW.mk_ w _ _ h rfl rfl).alloc _).below hb2 (by simp; omega)
  have hs2 : w.heap.size + 2 ≤ w2.heap.size := by have := hb2.size; simpa using this
  have hbw2 : Below w.heap.size w w2 := (((Below.refl _ _).alloc (Nat.le_refl _) _).alloc (al0 _ _) _).trans (hb2.mono (Nat.le_trans (al0 _ _) (al0 _ _)))
  generalize hgw : wordsU l = ws at *
  have Hgw := Lib.hid hgw
  clear hgw
  go_wp2_with (first
    | ((with_reducible show wpList _ _ _ (⟨none, Op.store 75 _ _, _, _, _, _⟩ :: _) _ _); refine wpList_store_row rfl 75 (.tmp 5) (.tmp 14) rfl w2.heap.size (ws.map wv).toArray rfl rfl 75 _ (heap_alloc_new _ _) Hi64.out (by rw [← Hs64.out]; rfl) (one_wv _) ?_; rw [World.setRow_alloc_new])
    | ((with_reducible show wpList _ _ _ (⟨some 15, _, _, _, _, _⟩ :: _) _ _); refine wpList_load_row rfl 57 (.tmp 2) rfl w.heap.size rfl 57 (h.map wv).toArray (0, 0) _ (ha2.alloc _) Tryd.underlying57 rfl Hi8.out ?_)
    | ((with_reducible show wpList _ _ _ (⟨none, Op.store 57 _ _, _, _, _, _⟩ :: _) _ _); refine wpList_store_row rfl 57 (.tmp 6) (.tmp 15) rfl (w2.heap.size + 1) (h.map wv).toArray rfl rfl 57 _ (heap_new (by simp) _) Hi8.out (by rw [← Hs8.out]; rfl) (one_wv _) ?_; rw [setRow_new (by simp)]))
  have hA5 : ArrW ((w2.alloc (.cells (ws.map wv).toArray 75)).alloc (.cells (h.map wv).toArray 57)) w2.heap.size 75 ws := (ArrW.mk_ w2 _ _ ws rfl rfl).alloc _
  have hA6 : ArrW ((w2.alloc (.cells (ws.map wv).toArray 75)).alloc (.cells (h.map wv).toArray 57)) (w2.heap.size + 1) 57 h := ArrW.mk_ _ _ _ h (by simp) rfl
  have hA2 : ArrW ((w2.alloc (.cells (ws.map wv).toArray 75)).alloc (.cells (h.map wv).toArray 57)) w.heap.size 57 h := (ha2.alloc _).alloc _
  have hA4 : ArrW ((w2.alloc (.cells (ws.map wv).toArray 75)).alloc (.cells (h.map wv).toArray 57)) (w.heap.size + 1) 57 zero8 := by
    refine ((((ArrW.mk_ _ _ _ zero8 (by simp) ?_).below hb2 (by simp)).alloc _).alloc _)
    rfl
  have hBW : Below w.heap.size w ((w2.alloc (.cells (ws.map wv).toArray 75)).alloc (.cells (h.map wv).toArray 57)) := (hbw2.alloc (by omega) _).alloc (by simp; omega) _
  go_loopw [16] (fun i wr => ∃ t : Nat, t ≤ 64 ∧ i = .int .i64 (t : Int) ∧ ArrW wr (w2.heap.size + 1) 57 (roundsTo h ws t) ∧ ArrW wr w2.heap.size 75 ws ∧ ArrW wr w.heap.size 57 h ∧ ArrW wr (w.heap.size + 1) 57 zero8 ∧ Below w.heap.size w wr) (fun i _ => (64 - intOf i).toNat)
  case atStart => exact ⟨0, by omega, rfl, hA6, hA5, hA2, hA4, hBW⟩
  case round =>
    obtain ⟨t, ht, rfl, h6, h5, h2, h4, hbel⟩ := hrel
    by_cases hlt : t < 64
    · have hT' := hT.below hbel
      obtain ⟨a0, b0, c0, d0, e0, f0, g0, i0, hv⟩ := eight (roundsTo_len (ws := ws) Hh.out t)
      obtain ⟨kt, hkt⟩ : ∃ y, kU[t]? = some y := ⟨_, List.getElem?_eq_getElem (by rw [kU_len]; omega)⟩
      obtain ⟨wt, hwt⟩ : ∃ y, ws[t]? = some y := ⟨_, List.getElem?_eq_getElem (by have := Hws.out; omega)⟩
      have Hst := Lib.hid (show roundsTo h ws (t + 1) = [T1 e0 f0 g0 i0 kt wt + T2 a0 b0 c0, a0, b0, c0, d0 + T1 e0 f0 g0 i0 kt wt, e0, f0, g0] by
        rw [roundsTo, hv, List.getD_eq_getElem?_getD, List.getD_eq_getElem?_getD, hkt, hwt]; rfl)
      rw [hv] at h6
      have m0 := h6.cell (i := 0) rfl
      have m1 := h6.cell (i := 1) rfl
      have m2 := h6.cell (i := 2) rfl
      have m3 := h6.cell (i := 3) rfl
      have m4 := h6.cell (i := 4) rfl
      have m5 := h6.cell (i := 5) rfl
      have m6 := h6.cell (i := 6) rfl
      have m7 := h6.cell (i := 7) rfl
      have mk := hT' t kt hkt
      have mw := h5.cell hwt
      have t0 : 0 ≤ (t : Int) := by omega
      have t1 : (t : Int) < 64 := by omega
      clear hkt hwt hv
      go_wp2_with fail
      go_quiet (fail)
      go_wp2_with fail
      go_cut [10] (fun c wx => c = .int .u32 ((T1 e0 f0 g0 i0 kt wt).toNat : Int) ∧ ∃ n, wx = wr.drewN n)
      case first =>
        rename_i J1 K1 hJ1 hK1
        go_quiet ((go_at_call 48; exact quietB (ror_any _ _ _ (by omega) (by omega))))
        rw [t1_val]
        show K1 _ _
        refine hK1 _ _ (Met.intro (hJ1 _ _ ?_))
        repeat apply Exists.intro
        exact ⟨⟨rfl, _, World.drewN_drewN _ _ _⟩, rfl⟩
      case rest =>
        obtain ⟨rfl, n1, rfl⟩ := hcut
        generalize hx1 : T1 e0 f0 g0 i0 kt wt = x1 at *
        clear hx1
        go_wp2_with fail
        go_cut [11] (fun c wx => c = .int .u32 ((T2 a0 b0 c0).toNat : Int) ∧ ∃ n, wx = wr.drewN n)
        case first =>
          rename_i J1 K1 hJ1 hK1
          go_quiet ((go_at_call 48; exact quietB (ror_any _ _ _ (by omega) (by omega))))
          rw [t2_val]
          show K1 _ _
          refine hK1 _ _ (Met.intro (hJ1 _ _ ?_))
          repeat apply Exists.intro
          exact ⟨⟨rfl, _, World.drewN_drewN _ _ _⟩, rfl⟩
        case rest =>
          obtain ⟨rfl, n2, rfl⟩ := hcut
          generalize hx2 : T2 a0 b0 c0 = x2 at *
          clear hx2
          go_wp2_with (
            ((with_reducible show wpList _ _ _ (⟨none, _, _, _, _, _⟩ :: _) _ _)
             rw [w_add x1 x2, w_add d0 x1]
             refine wpList_store_row rfl 57 (.tmp 6) (.tmp 96) rfl (w2.heap.size + 1) ([x1 + x2, a0, b0, c0, d0 + x1, e0, f0, g0].map wv).toArray rfl rfl 57 _ (h6.drewN n2) info8 rfl (one_wv _) ?_))
          refine ⟨⟨t + 1, by omega, by go_num, ?_, ?_, ?_, ?_, ?_⟩, by simp [intOf]; omega⟩
          · rw [Hst.out]
            exact (h6.drewN n2).row [x1 + x2, a0, b0, c0, d0 + x1, e0, f0, g0]
          · exact (h5.drewN n2).rowFar (g' := w2.heap.size + 1) (by omega) _
          · exact (h2.drewN n2).rowFar (g' := w2.heap.size + 1) (by omega) _
          · exact (h4.drewN n2).rowFar (g' := w2.heap.size + 1) (by omega) _
          · exact below_setRow (g := w2.heap.size + 1) (hbel.trans ⟨rfl, rfl, rfl, Nat.le_refl _, fun _ _ => rfl⟩ : Below w.heap.size w (wr.drewN n2)) (by omega) _
    · obtain rfl : t = 64 := by omega
      rw [show ((64 : Nat) : Int) = 64 from rfl]
      have hlen := roundsTo_len (ws := ws) Hh.out 64
      generalize hgv : roundsTo h ws 64 = v at *
      have Hgv := Lib.hid hgv
      have Hlen := Lib.hid hlen
      clear hgv hlen
      go_wp2_with fail
      go_loopw [98] (fun i wr => ∃ j : Nat, j ≤ 8 ∧ i = .int .i64 (j : Int) ∧ ArrW wr (w2.heap.size + 1) 57 v ∧ ArrW wr w.heap.size 57 (addTo h v j) ∧ ArrW wr (w.heap.size + 1) 57 zero8 ∧ Below w.heap.size w wr) (fun i _ => (8 - intOf i).toNat)
      case atStart => exact ⟨0, by omega, rfl, h6, by rw [addTo_zero Hh.out]; exact h2, h4, hbel⟩
      case round =>
        obtain ⟨j, hj, rfl, g6, g2, g4, hbel2⟩ := hrel
        by_cases hlt2 : j < 8
        · obtain ⟨vj, hvj⟩ : ∃ y, v[j]? = some y := ⟨_, List.getElem?_eq_getElem (by rw [Hlen.out]; omega)⟩
          have q6 := g6.cell hvj
          have q2 := g2.cell (addTo_at (h := h) (v := v) hlt2)
          have Hvj := Lib.hid hvj
          clear hvj
          have j0 : 0 ≤ (j : Int) := by omega
          have j1 : (j : Int) < 8 := by omega
          have f2 := g2.frozen j
          have lv := u32_lt vj
          have lh := u32_lt (h.getD j 0)
          have hne : ¬ w.heap.size = w2.heap.size + 1 := by omega
          have hgt : w.heap.size < wr.heap.size := g2.lt
          go_wp2_with fail
          go_region
          go_wp2_with fail
          go_roundw
          case rel =>
            refine ⟨j + 1, by omega, by go_num, ?_, ?_, ?_, ?_⟩
            · exact g6.drew.far (by simp; omega) _
            · rw [addTo_succ, w_add, List.getD_eq_getElem?_getD (l := v), Hvj.out]
              exact g2.drew.set_ j _
            · exact g4.drew.far (by simp) _
            · exact (hbel2.trans ⟨rfl, rfl, rfl, Nat.le_refl _, fun _ _ => rfl⟩ : Below w.heap.size w wr.drew).setCell (by simp) _
          case measure => simp [intOf]; omega
        · obtain rfl : j = 8 := by omega
          rw [show ((8 : Nat) : Int) = 8 from rfl]
          have hblk : blockW h ws = addTo h v 8 := by rw [blockW, Hgv.out]
          have Hblk := Lib.hid (show blockW h (wordsU l) = addTo h v 8 by rw [Hgw.out, hblk])
          clear hblk
          have hf8 : (Tryd.prog.info? 57).map (·.size) = some (((addTo h v 8).map wv).toArray).size := by rw [info8]; simp [addTo_len]
          have hz8 : (zero8.map wv).toArray.size = ((addTo h v 8).map wv).toArray.size := by simp [addTo_len, zero8]
          have Hf8 := Lib.hid hf8
          have Hz8 := Lib.hid hz8
          clear hf8 hz8
          generalize addTo h v 8 = hv8 at *
          go_wp2_with (first
            | ((with_reducible show wpList _ _ _ (⟨some 110, _, _, _, _, _⟩ :: _) _ _); refine wpList_load_row rfl 57 (.tmp 2) rfl w.heap.size rfl 57 (hv8.map wv).toArray (0, 0) _ g2 Tryd.underlying57 rfl Hf8.out ?_)
            | ((with_reducible show wpList _ _ _ (⟨none, Op.store 57 _ _, _, _, _, _⟩ :: _) _ _); refine wpList_store_row rfl 57 (.tmp 4) (.tmp 110) rfl (w.heap.size + 1) (hv8.map wv).toArray rfl rfl 57 _ g4 Hf8.out Hz8.out (one_wv _) ?_))
          exact bodyPost_ret (results_cell_row rfl _ _ (w.heap.size + 1) 57 _ (0, 0) _ rfl (g4.row hv8) Tryd.underlying57 rfl Hf8.out) rfl ⟨by rw [Hblk.out], below_setRow hbel2 (by omega) _⟩

end Go.Proofs.YtgjeamapgdakcaaDoor

