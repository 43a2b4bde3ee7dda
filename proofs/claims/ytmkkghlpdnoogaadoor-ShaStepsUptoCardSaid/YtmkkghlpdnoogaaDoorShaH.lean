/-
  CONTRACT of the program's mixed (package sha): a block goes into the words.
-/
import Derived.Test.YtmkkghlpdnoogaaDoorShaG
set_option linter.unusedVariables false
namespace Go.Proofs.YtmkkghlpdnoogaaDoor
open Go.RowKit

/-- the program's table lies in the world -/
def CTab (w : World) : Prop := ∀ (i : Nat) (x : UInt32), kU[i]? = some x → w.cell? ⟨1, i, none⟩ = some (.int .u32 (x.toNat : Int))
theorem CTab.lt {w : World} (h : CTab w) : 1 < w.heap.size := World.block_lt_of_cell? w _ (h 0 _ rfl)
theorem CTab.below {w w' : World} (h : CTab w) (hb : Below w.heap.size w w') : CTab w' := fun i x hx => (hb.cell (p := ⟨1, i, none⟩) h.lt).trans (h i x hx)

theorem pt1_val (e f g h k w : UInt32) :
    (((h.toNat : Int) + ((S1 e).toNat : Int) + bits .xor .u32 (bits .and .u32 (e.toNat : Int) (f.toNat : Int)) (bits .and .u32 (bits .xor .u32 (if IntKind.u32.signed = true then -1 else IntKind.u32.max) (e.toNat : Int)) (g.toNat : Int)) + (k.toNat : Int)) % 4294967296 + (w.toNat : Int)) % 4294967296 = ((T1 e f g h k w).toNat : Int) := by
  rw [w_not, w_and, w_and, w_xor, w_add4, w_add]
  rfl
theorem pt2_val (a b c : UInt32) :
    (((S0 a).toNat : Int) + bits .xor .u32 (bits .xor .u32 (bits .and .u32 (a.toNat : Int) (b.toNat : Int)) (bits .and .u32 (a.toNat : Int) (c.toNat : Int))) (bits .and .u32 (b.toNat : Int) (c.toNat : Int))) % 4294967296 = ((T2 a b c).toNat : Int) := by
  rw [w_and, w_and, w_and, w_xor, w_xor, w_add]
  rfl

theorem quietC {P : Program} {f : FuncId} {args : Array Value} {w : World} {a n : Nat} {v : Value} (h : Calls P f args (w.drewN (a + n)) fun e w' => e = .returned v ∧ w.drewN (a + n) = w') :
    Calls P f args (w.drewN (a + n)) fun e w'' => e = .returned v ∧ ∃ m, w'' = w.drewN (a + m) :=
  h.mono fun _ _ ⟨he, hm⟩ => ⟨he, n, hm.symm⟩

set_option maxRecDepth 1000000 in
set_option maxHeartbeats 1000000 in
theorem mixed_any (h : List UInt32) (l : List UInt8) (w : World) (hh : h.length = 8) (hl : l.length = 64) (hT : CTab w) :
    Calls Tryd.prog 54 #[.agg (h.map wv).toArray, .agg (l.map bv).toArray] w fun e w' => e = .returned (.agg ((blockW h (wordsU l)).map wv).toArray) ∧ Below w.heap.size w w' := by
  have hws : (wordsU l).length = 64 := schedTo_len l 48
  have hi64 : (Tryd.prog.info? 77).map (·.size) = some (((wordsU l).map wv).toArray).size := by rw [info64]; simp [hws]
  have hib : (Tryd.prog.info? 67).map (·.size) = some ((l.map bv).toArray).size := by rw [info64b]; simp [hl]
  have hs64 : 64 = (((wordsU l).map wv).toArray).size := by simp [hws]
  have Hi64 := Lib.hid hi64
  have Hib := Lib.hid hib
  have Hs64 := Lib.hid hs64
  have Hh := Lib.hid hh
  have Hl := Lib.hid hl
  have Hws := Lib.hid hws
  clear hi64 hib hs64 hh hl hws
  go_enter Tryd.func54, Tryd.ntmps54
  go_wp2_with (
    ((with_reducible show wpList _ _ _ (⟨some 17, _, _, _, _, _⟩ :: _) _ _); refine wpList_load_row rfl 67 (.tmp 3) rfl (w.heap.size + 1) rfl 67 (l.map bv).toArray (0, 0) _ (((ArrB.mk_ _ _ _ l (by simp) rfl)).alloc _) Tryd.underlying67 rfl Hib.out ?_))
  refine (spread_any l _ Hl.out).mono ?_
  rintro e w2 ⟨rfl, hb2⟩
  have ha2 : ArrW w2 w.heap.size 23 h := (((ArrW.mk_ w _ _ h rfl rfl).alloc _).alloc _).below hb2 (by simp; omega)
  have ha4 : ArrW w2 (w.heap.size + 1 + 1) 23 zero8 := (ArrW.mk_ _ _ _ zero8 (by simp) rfl).below hb2 (by simp)
  have hs2 : w.heap.size + 3 ≤ w2.heap.size := by have := hb2.size; simpa using this
  have hbw2 : Below w.heap.size w w2 := ((((Below.refl _ _).alloc (Nat.le_refl _) _).alloc (al0 _ _) _).alloc (Nat.le_trans (al0 _ _) (al0 _ _)) _).trans (hb2.mono (by simp; omega))
  generalize hgw : wordsU l = ws at *
  have Hgw := Lib.hid hgw
  clear hgw
  go_wp2_with (first
    | ((with_reducible show wpList _ _ _ (⟨none, Op.store 77 _ _, _, _, _, _⟩ :: _) _ _); refine wpList_store_row rfl 77 (.tmp 5) (.tmp 18) rfl w2.heap.size (ws.map wv).toArray rfl rfl 77 _ (heap_alloc_new _ _) Hi64.out (by rw [← Hs64.out]; rfl) (one_wv _) ?_; rw [World.setRow_alloc_new]))
  have hA5 : ArrW (w2.alloc (.cells (ws.map wv).toArray 77)) w2.heap.size 77 ws := ArrW.mk_ w2 _ _ ws rfl rfl
  have hA2 := ha2.alloc (.cells (ws.map wv).toArray 77)
  have hA4 := ha4.alloc (.cells (ws.map wv).toArray 77)
  have hBW : Below w.heap.size w (w2.alloc (.cells (ws.map wv).toArray 77)) := hbw2.alloc (by omega) _
  obtain ⟨h0, h1, h2, h3, h4, h5, h6, h7, hv⟩ := eight Hh.out
  have q0 := hA2.cell (i := 0) (x := h0) (by rw [hv]; rfl)
  have q1 := hA2.cell (i := 1) (x := h1) (by rw [hv]; rfl)
  have q2 := hA2.cell (i := 2) (x := h2) (by rw [hv]; rfl)
  have q3 := hA2.cell (i := 3) (x := h3) (by rw [hv]; rfl)
  have q4 := hA2.cell (i := 4) (x := h4) (by rw [hv]; rfl)
  have q5 := hA2.cell (i := 5) (x := h5) (by rw [hv]; rfl)
  have q6 := hA2.cell (i := 6) (x := h6) (by rw [hv]; rfl)
  have q7 := hA2.cell (i := 7) (x := h7) (by rw [hv]; rfl)
  have Hv := Lib.hid hv
  clear hv
  generalize hgx : w2.alloc (.cells (ws.map wv).toArray 77) = w3 at *
  have Hgx := Lib.hid hgx
  clear hgx
  go_quiet (fail)
  go_wp2_with fail
  go_loopw [6, 7, 8, 9, 10, 11, 12, 13, 35] (fun s0 s1 s2 s3 s4 s5 s6 s7 i wr => ∃ (t : Nat) (a b c d e f g k : UInt32), t ≤ 64 ∧ i = .int .i64 (t : Int) ∧ s0 = .int .u32 (a.toNat : Int) ∧ s1 = .int .u32 (b.toNat : Int) ∧ s2 = .int .u32 (c.toNat : Int) ∧ s3 = .int .u32 (d.toNat : Int) ∧ s4 = .int .u32 (e.toNat : Int) ∧ s5 = .int .u32 (f.toNat : Int) ∧ s6 = .int .u32 (g.toNat : Int) ∧ s7 = .int .u32 (k.toNat : Int) ∧ Hid (roundsTo h ws t = [a, b, c, d, e, f, g, k]) ∧ ∃ n, wr = w3.drewN n) (fun _ _ _ _ _ _ _ _ i _ => (64 - intOf i).toNat)
  case atStart => exact ⟨0, h0, h1, h2, h3, h4, h5, h6, h7, by omega, rfl, rfl, rfl, rfl, rfl, rfl, rfl, rfl, rfl, Hv, _, rfl⟩
  case round =>
    obtain ⟨t, a, b, c, d, e, f, g, k, ht, rfl, rfl, rfl, rfl, rfl, rfl, rfl, rfl, rfl, Hr, n, rfl⟩ := hrel
    by_cases hlt : t < 64
    · obtain ⟨kt, hkt⟩ : ∃ y, kU[t]? = some y := ⟨_, List.getElem?_eq_getElem (by rw [kU_len]; omega)⟩
      obtain ⟨wt, hwt⟩ : ∃ y, ws[t]? = some y := ⟨_, List.getElem?_eq_getElem (by have := Hws.out; omega)⟩
      have Hst := Lib.hid (show roundsTo h ws (t + 1) = [T1 e f g k kt wt + T2 a b c, a, b, c, d + T1 e f g k kt wt, e, f, g] by
        rw [roundsTo, Hr.out, List.getD_eq_getElem?_getD, List.getD_eq_getElem?_getD, hkt, hwt]; rfl)
      have mk := (hT.below hBW) t kt hkt
      have mw := hA5.cell hwt
      have t0 : 0 ≤ (t : Int) := by omega
      have t1 : (t : Int) < 64 := by omega
      clear hkt hwt
      go_wp2_with fail
      go_quiet ((go_at_call 66; exact quietC (bigS1_any _ _)))
      rw [pt1_val]
      generalize T1 e f g k kt wt = x1 at *
      go_wp2_with (go_at_call 67; refine (bigS0_any _ _).mono ?_; rintro e w' ⟨rfl, rfl⟩)
      rw [pt2_val]
      generalize T2 a b c = x2 at *
      exact ⟨⟨t + 1, x1 + x2, a, b, c, d + x1, e, f, g, by omega, by go_num, by rw [w_add], rfl, rfl, rfl, by rw [w_add], rfl, rfl, rfl, Hst, _, rfl⟩, by simp [intOf]; omega⟩
    · obtain rfl : t = 64 := by omega
      rw [show ((64 : Nat) : Int) = 64 from rfl]
      have hne : (w.heap.size + 1 + 1) < w3.heap.size := hA4.lt
      have Hblk := Lib.hid (show blockW h ws = [h0 + a, h1 + b, h2 + c, h3 + d, h4 + e, h5 + f, h6 + g, h7 + k] by
        rw [blockW, Hr.out, Hv.out]; rfl)
      go_wp2_with (
        ((with_reducible show wpList _ _ _ (⟨none, _, _, _, _, _⟩ :: _) _ _)
         rw [w_add, w_add, w_add, w_add, w_add, w_add, w_add, w_add]
         refine wpList_store_row rfl 23 (.tmp 4) (.tmp 118) rfl (w.heap.size + 1 + 1) ([h0 + a, h1 + b, h2 + c, h3 + d, h4 + e, h5 + f, h6 + g, h7 + k].map wv).toArray rfl rfl 23 _ (hA4.drewN n) info8 rfl (one_wv _) ?_))
      exact bodyPost_ret (results_cell_row rfl _ _ (w.heap.size + 1 + 1) 23 _ (0, 0) _ rfl ((hA4.drewN n).row _) Tryd.underlying23 rfl info8) rfl ⟨by rw [Hgw.out, Hblk.out], below_setRow (hBW.trans ⟨rfl, rfl, rfl, Nat.le_refl _, fun _ _ => rfl⟩ : Below w.heap.size w (w3.drewN n)) (by omega) _⟩

end Go.Proofs.YtmkkghlpdnoogaaDoor
