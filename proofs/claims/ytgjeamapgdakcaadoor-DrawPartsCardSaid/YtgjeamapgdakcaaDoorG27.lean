import Derived.Test.YtgjeamapgdakcaaDoorG25
/-
  CONTRACTS of mac's expander and of the closure that it answers.
-/
set_option linter.unusedVariables false
namespace Go.Proofs.YtgjeamapgdakcaaDoor
open Go.RowKit

/-- what the closure has at its i-th turn: blocks of turn, key, last, info, all from 'base' on -/
structure Turn (w : World) (base bt bk bl bi : Nat) (k info : List UInt8) (Ai : Option Addr) (ni ci i : Nat) : Prop where
  turn : w.heap[bt]? = some (.cells #[.int .u8 (i : Int)] 5 (0, 0))
  key : ArrB w bk 24 k
  last : ∃ Al nl cl, w.heap[bl]? = some (.cells #[.slice Al nl cl] 45 (0, 0)) ∧ nl ≤ cl ∧ Rd w w.heap.size Al nl ((stepU k info i).map bv) ∧ ∀ ad, Al = some ad → ad.block ≠ bt ∧ ad.block ≠ bl ∧ ad.block < w.heap.size
  info : w.heap[bi]? = some (.cells #[.slice Ai ni ci] 45 (0, 0))
  ne : bt ≠ bk ∧ bt ≠ bl ∧ bt ≠ bi ∧ bl ≠ bk ∧ bl ≠ bi
  low : base ≤ bt ∧ base ≤ bk ∧ base ≤ bl ∧ base ≤ bi

theorem block_lt {w : World} {g : Nat} {o : Obj} (h : w.heap[g]? = some o) : g < w.heap.size := (Array.getElem?_eq_some_iff.1 h).1

/-- it stays where none of its blocks turns -/
theorem Turn.keep {w w' : World} {base bt bk bl bi : Nat} {k info : List UInt8} {Ai : Option Addr} {ni ci i : Nat} (h : Turn w base bt bk bl bi k info Ai ni ci i) (hs : w.heap.size ≤ w'.heap.size) (hb : ∀ q, q < w.heap.size → w'.heap[q]? = w.heap[q]?) : Turn w' base bt bk bl bi k info Ai ni ci i := by
  obtain ⟨Al, nl, cl, h1, h2, h3, h4⟩ := h.last
  refine ⟨(hb _ (block_lt h.turn)).trans h.turn, h.key.of (hb _ h.key.lt), ⟨Al, nl, cl, (hb _ (block_lt h1)).trans h1, h2, ?_, fun ad e => ?_⟩, (hb _ (block_lt h.info)).trans h.info, h.ne, h.low⟩
  · exact (h3.keep fun p hp => World.cell?_of_block (hb _ hp)).more hs
  · obtain ⟨a, b, c⟩ := h4 ad e
    exact ⟨a, b, by omega⟩

set_option maxRecDepth 100000 in
theorem expander_any (k : List UInt8) (Ai : Option Addr) (ni ci : Nat) (info : List UInt8) (w : World) (hk : k.length = 32) :
    Calls Tryd.prog 59 #[.agg (k.map bv).toArray, .slice Ai ni ci] w fun e w' =>
      ∃ bt bk bl bi, e = .returned (.func (.func 65) #[] #[.pointer (some ⟨bt, 0, none⟩), .pointer (some ⟨bk, 0, none⟩), .pointer (some ⟨bl, 0, none⟩), .pointer (some ⟨bi, 0, none⟩)]) ∧
        Turn w' w.heap.size bt bk bl bi k info Ai ni ci 0 ∧ Below w.heap.size w w' := by
  have hmf : ∀ (fn : Fn) (first cap : Array Value) (w : World), (Instr.makeFunc fn first cap).run Tryd.prog w = .ok (.func fn first cap) w := fun _ _ _ _ => rfl
  go_enter Tryd.func59, Tryd.ntmps59
  go_wp2_with fail
  go_ret
  have e0 : ((((w.alloc (.cells (k.map bv).toArray 24)).alloc (.cells #[.slice Ai ni ci] 45)).alloc (.cells #[.slice none 0 0] 45)).alloc (.cells #[.int .u8 0] 5)).heap.size = w.heap.size + 4 := by simp
  refine ⟨_, _, _, _, rfl, ⟨heap_new (by simp) _, (((ArrB.mk_ _ _ _ _ rfl rfl).alloc _).alloc _).alloc _, ⟨none, 0, 0, ?_, Nat.le_refl _, Rd.zero _ _ _, fun ad h => by cases h⟩, ?_, by omega, by omega⟩, (((d_al _ _).alloc (by simp) _).alloc (by first | (simp; done) | (simp; omega)) _).alloc (by first | (simp; done) | (simp; omega)) _⟩
  · exact (heap_alloc_old _ _ (by simp)).trans (heap_new (by simp) _)
  · exact (heap_alloc_old _ _ (by first | (simp; done) | (simp; omega))).trans ((heap_alloc_old _ _ (by simp)).trans (heap_new (by simp) _))

theorem Rd.mkk {w : World} {t : TypeId} {xs : Array Value} {b n : Nat} {l : List Value} (hb : w.heap.size = b) (hn : xs.size = n) (hl : xs.toList = l) : Rd (w.alloc (.cells xs t)) (w.alloc (.cells xs t)).heap.size (some ⟨b, 0, none⟩) n l := Rd.mk_ w t xs hb (by first | (simp; done) | (simp; omega)) hn hl
theorem Rd.al {w : World} {A : Option Addr} {n : Nat} {xs : List Value} (h : Rd w w.heap.size A n xs) (o : Obj) : Rd (w.alloc o) (w.alloc o).heap.size A n xs := (h.alloc (Nat.le_refl _) o).more (al0 _ _)
theorem Rd.dr {w : World} {A : Option Addr} {n : Nat} {xs : List Value} (h : Rd w w.heap.size A n xs) : Rd w.drew w.drew.heap.size A n xs := h.drew
theorem c_cells {a w : World} (h : Below a.heap.size a w) {g : Nat} (hg : a.heap.size ≤ g) (vs : List Value) : Below a.heap.size a (w.setCells g 0 vs) := below_setCells hg vs 0 w h

theorem ctab_from {w w' : World} {base : Nat} (hT : CTab w) (hg : 1 < base) (hb : Below base w w') : CTab w' := fun i x hx => (hb.cell (p := ⟨1, i, none⟩) hg).trans (hT i x hx)
/-- what the region leaves: a new array of r, all that was is as it was -/
structure Fine (a W : World) (g : Nat) (r : List UInt8) : Prop where
  arr : ArrB W g 24 r
  below : Below a.heap.size a W
  low : a.heap.size ≤ g
theorem fine_old {a ws : World} {g : Nat} (hb : Below a.heap.size a ws) (hz : ArrB ws g 24 (List.replicate 32 0)) (hg : a.heap.size ≤ g) (r : List UInt8) (hr : r.length = 32) :
    ∃ W g8, Hid (ws.setCells g 0 (r.map bv) = W) ∧ Hid (g = g8) ∧ Fine a W g8 r :=
  ⟨_, _, Lib.hid rfl, Lib.hid rfl, hz.stored (by simp [hr]), c_cells hb hg _, hg⟩
theorem fine_new {a ws : World} (hb : Below a.heap.size a ws) (r : List UInt8) (hr : r.length = 32) :
    ∃ W g8, Hid ((ws.alloc (.cells #[.int .u8 0, .int .u8 0, .int .u8 0, .int .u8 0, .int .u8 0, .int .u8 0, .int .u8 0, .int .u8 0, .int .u8 0, .int .u8 0, .int .u8 0, .int .u8 0, .int .u8 0, .int .u8 0, .int .u8 0, .int .u8 0, .int .u8 0, .int .u8 0, .int .u8 0, .int .u8 0, .int .u8 0, .int .u8 0, .int .u8 0, .int .u8 0, .int .u8 0, .int .u8 0, .int .u8 0, .int .u8 0, .int .u8 0, .int .u8 0, .int .u8 0, .int .u8 0] 24)).setCells ws.heap.size 0 (r.map bv) = W) ∧ Hid (ws.heap.size = g8) ∧ Fine a W g8 r :=
  ⟨_, _, Lib.hid rfl, Lib.hid rfl, (ArrB.mk_ _ _ _ (List.replicate 32 0) rfl rfl).stored (by simp [hr]), c_cells (c_alloc hb _) hb.size _, hb.size⟩

/-- the turn's end: last is the new sum, the answer lies in the result's block -/
theorem turn_end {w w1 W8 : World} {base bt bk bl bi : Nat} {k info r : List UInt8} {Ai : Option Addr} {ni ci i g8 : Nat} (h : Turn w base bt bk bl bi k info Ai ni ci i) (hbase : base ≤ w.heap.size)
    (ht1 : w1.heap[bt]? = some (.cells #[.int .u8 (((i + 1 : Nat)) : Int)] 5 (0, 0))) (hold : ∀ q, q < w.heap.size → q ≠ bt → w1.heap[q]? = w.heap[q]?) (hs2 : w.heap.size < w1.heap.size) (hb1 : Below base w w1)
    (hF : Fine w1 W8 g8 r) (hr0 : stepU k info (i + 1) = r) (hr : r.length = 32) (cs : Array Value) :
    Turn ((W8.setCell ⟨bl, 0, none⟩ (.slice (some ⟨g8, 0, none⟩) 32 32)).setRow w.heap.size cs) base bt bk bl bi k info Ai ni ci (i + 1) ∧ Below base w ((W8.setCell ⟨bl, 0, none⟩ (.slice (some ⟨g8, 0, none⟩) 32 32)).setRow w.heap.size cs) ∧
      w.heap.size ≤ ((W8.setCell ⟨bl, 0, none⟩ (.slice (some ⟨g8, 0, none⟩) 32 32)).setRow w.heap.size cs).heap.size ∧ (∀ q, q < w.heap.size → q ≠ bt → q ≠ bl → ((W8.setCell ⟨bl, 0, none⟩ (.slice (some ⟨g8, 0, none⟩) 32 32)).setRow w.heap.size cs).heap[q]? = w.heap[q]?) ∧
      ∃ g, w.heap.size ≤ g ∧ ((W8.setCell ⟨bl, 0, none⟩ (.slice (some ⟨g8, 0, none⟩) 32 32)).setRow w.heap.size cs).heap[bl]? = some (.cells #[.slice (some ⟨g, 0, none⟩) 32 32] 45 (0, 0)) := by
  obtain ⟨Al, nl, cl, hl1, hl2, hl3, hl4⟩ := h.last
  obtain ⟨n1, n2, n3, n4, n5⟩ := h.ne
  have lbl := block_lt hl1
  have lbt := block_lt h.turn
  have lbi := block_lt h.info
  have lbk := h.key.lt
  have hlow := hF.low
  have hsz : w1.heap.size ≤ W8.heap.size := hF.below.size
  have far : ∀ q, q < w1.heap.size → q ≠ bl → q ≠ w.heap.size → ((W8.setCell ⟨bl, 0, none⟩ (.slice (some ⟨g8, 0, none⟩) 32 32)).setRow w.heap.size cs).heap[q]? = w1.heap[q]? := fun q h1 h2 h3 =>
    (setRow_other _ _ _ _ h3).trans ((Below.heap_setCell _ _ _ q h2).trans (hF.below.block q h1))
  have hW : ((W8.setCell ⟨bl, 0, none⟩ (.slice (some ⟨g8, 0, none⟩) 32 32)).setRow w.heap.size cs).heap.size = W8.heap.size := by simp [World.setRow]
  have hA : ArrB ((W8.setCell ⟨bl, 0, none⟩ (.slice (some ⟨g8, 0, none⟩) 32 32)).setRow w.heap.size cs) g8 24 r := (hF.arr.far (p := ⟨bl, 0, none⟩) (show g8 ≠ bl by omega) _).rowFar (show g8 ≠ w.heap.size by omega) _
  have hLn : ((W8.setCell ⟨bl, 0, none⟩ (.slice (some ⟨g8, 0, none⟩) 32 32)).setRow w.heap.size cs).heap[bl]? = some (.cells #[.slice (some ⟨g8, 0, none⟩) 32 32] 45 (0, 0)) :=
    (setRow_other _ _ _ _ (by omega)).trans (one_setCell (v := .slice Al nl cl) ((hF.below.block bl (by omega)).trans ((hold bl lbl (fun e => n2 e.symm)).trans hl1)))
  refine ⟨⟨(far bt (by omega) n2 (by omega)).trans ht1, h.key.of ((far bk (by omega) (fun e => n4 e.symm) (by omega)).trans (hold bk lbk (fun e => n1 e.symm))), ⟨some ⟨g8, 0, none⟩, 32, 32, hLn, Nat.le_refl _, ?_, ?_⟩, (far bi (by omega) (fun e => n5 e.symm) (by omega)).trans ((hold bi lbi (fun e => n3 e.symm)).trans h.info), h.ne, h.low⟩, ?_, by omega, fun q h1 h2 h3 => (far q (by omega) h3 (by omega)).trans (hold q h1 h2), g8, by omega, hLn⟩
  · rw [hr0]; exact hA.rd hr
  · rintro ad e
    injection e with e
    subst e
    exact ⟨show g8 ≠ bt by omega, show g8 ≠ bl by omega, hA.lt⟩
  · exact below_setRow ((hb1.trans (hF.below.mono (by omega))).setCell h.low.2.2.1 _) hbase _

set_option maxRecDepth 1000000 in
set_option maxHeartbeats 600000 in
theorem turn_any (base bt bk bl bi : Nat) (k info : List UInt8) (Ai : Option Addr) (ni ci i : Nat) (w : World) (hk : k.length = 32) (hi : i < 255) (hnc : ni ≤ ci) (hni : ni ≤ 1048576) (hinfo : Rd w base Ai ni (info.map bv)) (hbase : base ≤ w.heap.size)
    (h : Turn w base bt bk bl bi k info Ai ni ci i) (hT : CTab w) (hTb : 1 < base) :
    Calls Tryd.prog 65 #[.pointer (some ⟨bt, 0, none⟩), .pointer (some ⟨bk, 0, none⟩), .pointer (some ⟨bl, 0, none⟩), .pointer (some ⟨bi, 0, none⟩)] w fun e w' =>
      e = .returned (.agg ((stepU k info (i + 1)).map bv).toArray) ∧ Turn w' base bt bk bl bi k info Ai ni ci (i + 1) ∧ Below base w w' ∧ w.heap.size ≤ w'.heap.size ∧ (∀ q, q < w.heap.size → q ≠ bt → q ≠ bl → w'.heap[q]? = w.heap[q]?) ∧ ∃ g, w.heap.size ≤ g ∧ w'.heap[bl]? = some (.cells #[.slice (some ⟨g, 0, none⟩) 32 32] 45 (0, 0)) := by
  obtain ⟨Al, nl, cl, hl1, hl2, hl3, hl4⟩ := h.last
  have ct : ∀ o, (w.alloc o).cell? ⟨bt, 0, none⟩ = some (.int .u8 (i : Int)) := fun o => (World.cell?_alloc_lt w o _ (block_lt h.turn)).trans (cell_of_one h.turn)
  have ft : ∀ o, (w.alloc o).frozen? ⟨bt, 0, none⟩ = false := fun o => free_of_one ((heap_alloc_old w o (block_lt h.turn)).trans h.turn)
  have i0 : (0 : Int) ≤ (i : Int) := by omega
  have i1 : (i : Int) < 255 := by omega
  go_enter Tryd.func65, Tryd.ntmps65
  go_wp2_with fail
  have hs1 : ∀ u, (((w.alloc (.cells ((List.replicate 32 (0 : UInt8)).map bv).toArray 24)).setCell ⟨bt, 0, none⟩ u)).heap.size = w.heap.size + 1 := fun u => by simp
  have hq1 : ∀ u q, q < w.heap.size → q ≠ bt → (((w.alloc (.cells ((List.replicate 32 (0 : UInt8)).map bv).toArray 24)).setCell ⟨bt, 0, none⟩ u)).heap[q]? = w.heap[q]? := fun u q h1 h2 => (Below.heap_setCell _ _ u q h2).trans (heap_alloc_old _ _ h1)
  have hbtlt := block_lt h.turn
  refine wp_gen (fun w1 => (w1.heap[bt]? = some (.cells #[.int .u8 (((i + 1 : Nat)) : Int)] 5 (0, 0)) ∧ ArrB w1 w.heap.size 24 (List.replicate 32 0)) ∧ (w1.heap.size = w.heap.size + 1 ∧ Below base w w1) ∧ ∀ q, q < w.heap.size → q ≠ bt → w1.heap[q]? = w.heap[q]?) ⟨⟨?_, ?_⟩, ⟨hs1 _, (((Below.refl _ _).alloc hbase _).setCell h.low.1 _)⟩, hq1 _⟩ ?_
  · exact one_setCell ((heap_alloc_old _ _ hbtlt).trans h.turn)
  · exact (ArrB.mk_ _ _ _ (List.replicate 32 0) rfl rfl).far (p := ⟨bt, 0, none⟩) (show w.heap.size ≠ bt by omega) _
  rintro w1 ⟨⟨ht1, hz1⟩, ⟨hs1, hb1⟩, hq1⟩
  have hs2 : w.heap.size < w1.heap.size := by omega
  clear hs1
  have hold : ∀ q, q < w.heap.size → q ≠ bt → w1.heap[q]? = w.heap[q]? := hq1
  have hk1 : ArrB w1 bk 24 k := h.key.of (hold _ h.key.lt (fun e => h.ne.1 e.symm))
  have hl1' : w1.heap[bl]? = some (.cells #[.slice Al nl cl] 45 (0, 0)) := (hold _ (block_lt hl1) (fun e => h.ne.2.1 e.symm)).trans hl1
  have hn1 : w1.heap[bi]? = some (.cells #[.slice Ai ni ci] 45 (0, 0)) := (hold _ (block_lt h.info) (fun e => h.ne.2.2.1 e.symm)).trans h.info
  have hrl : Rd w1 w1.heap.size Al nl ((stepU k info i).map bv) := (hl3.keepAt fun ad e p hp => World.cell?_of_block (hold _ (by rw [hp]; exact (hl4 ad e).2.2) (by rw [hp]; exact (hl4 ad e).1))).more (by omega)
  have hrn : Rd w1 w1.heap.size Ai ni (info.map bv) := (hinfo.below hb1).more (by omega)
  have hTw : CTab w1 := ctab_from hT hTb hb1
  have hlen := stepU_le k info i
  have hnl : nl ≤ 32 := by have := hl3.len; simp at this; omega
  have hil : info.length = ni := by have := hinfo.len; simpa using this
  have Hlast := Lib.hid (show (stepU k info i).length = nl by have := hl3.len; simpa using this)
  have Hil := Lib.hid hil
  have Hb1 := Lib.hid (show (UInt8.ofNat (i + 1)).toNat = i + 1 by rw [UInt8.toNat_ofNat', Nat.mod_eq_of_lt (by omega)])
  have Hflat := Lib.hid (show [stepU k info i, info, [UInt8.ofNat (i + 1)]].flatten = stepU k info i ++ info ++ [UInt8.ofNat (i + 1)] by simp)
  have Hsu := Lib.hid (stepU_succ k info i)
  have HM := fun (wx : World) (gb : Nat) (gh : Nat) (hh : Rd wx wx.heap.size (some ⟨gh, 0, none⟩) 3 [.slice Al nl cl, .slice Ai ni ci, .slice (some ⟨gb, 0, none⟩) 1 1]) (hx : Rd wx wx.heap.size (some ⟨gb, 0, none⟩) 1 [.int .u8 ((i : Int) + 1)]) (hbx : Below w1.heap.size w1 wx) =>
    Mac_any (some ⟨bk, 0, none⟩) 32 32 k (some ⟨gh, 0, none⟩) 3 3 [.slice Al nl cl, .slice Ai ni ci, .slice (some ⟨gb, 0, none⟩) 1 1] [stepU k info i, info, [UInt8.ofNat (i + 1)]] wx (by omega) (by omega) (by omega) (by omega)
      (by rw [Hflat.out]; simp only [List.length_append, Hlast.out, Hil.out]; simp; omega) ((hk1.below hbx hk1.lt).rd hk) hh
      (Txs.cons (txs_one1 Hlast.out hl2 (d_rd hrl hbx)) (Txs.cons (txs_one1 Hil.out hnc (d_rd hrn hbx)) (txs_one1 rfl (Nat.le_refl _) (by
        show Rd wx wx.heap.size (some ⟨gb, 0, none⟩) 1 [.int .u8 ((UInt8.ofNat (i + 1)).toNat : Int)]
        rw [Hb1.out, Int.natCast_add, Int.natCast_one]; exact hx)))) (hTw.below hbx)
  simp only [Hflat.out, ← Hsu.out] at HM
  have Hrl := Lib.hid (stepU_len k info i)
  generalize hr0 : stepU k info (i + 1) = r at *
  have Hr0 := Lib.hid hr0
  clear hr0
  have hu2 := Tryd.underlying24
  have hi2 : (Tryd.prog.info? 24).map (·.size) = some (r.map bv).length := by rw [info32]; simp [Hrl.out]
  have hl2' : (r.map bv).length = 32 := by simp [Hrl.out]
  have h12 := one_bv r
  have hkeep : ∀ wx : World, Below w1.heap.size w1 wx → wx.cell? ⟨bl, 0, none⟩ = some (.slice Al nl cl) ∧ wx.cell? ⟨bi, 0, none⟩ = some (.slice Ai ni ci) ∧ wx.cell? ⟨bt, 0, none⟩ = some (.int .u8 ((i : Int) + 1)) :=
    fun wx hb => ⟨cell_of_one ((hb.block _ (block_lt hl1')).trans hl1'), cell_of_one ((hb.block _ (block_lt hn1)).trans hn1), cell_of_one ((hb.block _ (block_lt ht1)).trans ht1)⟩
  clear ct ft hq1
  have M0 : Calls Tryd.prog 66 #[.slice (some ⟨bk, 0, none⟩) 32 32, .slice (some ⟨w1.heap.size + 1 + 1, 0, none⟩) 3 3] (((w1.alloc (.cells #[.int .u8 0, .int .u8 0, .int .u8 0, .int .u8 0, .int .u8 0, .int .u8 0, .int .u8 0, .int .u8 0, .int .u8 0, .int .u8 0, .int .u8 0, .int .u8 0, .int .u8 0, .int .u8 0, .int .u8 0, .int .u8 0, .int .u8 0, .int .u8 0, .int .u8 0, .int .u8 0, .int .u8 0, .int .u8 0, .int .u8 0, .int .u8 0, .int .u8 0, .int .u8 0, .int .u8 0, .int .u8 0, .int .u8 0, .int .u8 0, .int .u8 0, .int .u8 0] 24)).alloc (.cells #[.int .u8 ((i : Int) + 1)] 5)).alloc (.cells #[.slice Al nl cl, .slice Ai ni ci, .slice (some ⟨w1.heap.size + 1, 0, none⟩) 1 1] 45)).drew (fun e ws => e = .returned (.agg (r.map bv).toArray) ∧ Below w1.heap.size w1 ws ∧ ArrB ws (w1.heap.size) 24 (List.replicate 32 0)) := by
    have hb : Below w1.heap.size w1 (((w1.alloc (.cells #[.int .u8 0, .int .u8 0, .int .u8 0, .int .u8 0, .int .u8 0, .int .u8 0, .int .u8 0, .int .u8 0, .int .u8 0, .int .u8 0, .int .u8 0, .int .u8 0, .int .u8 0, .int .u8 0, .int .u8 0, .int .u8 0, .int .u8 0, .int .u8 0, .int .u8 0, .int .u8 0, .int .u8 0, .int .u8 0, .int .u8 0, .int .u8 0, .int .u8 0, .int .u8 0, .int .u8 0, .int .u8 0, .int .u8 0, .int .u8 0, .int .u8 0, .int .u8 0] 24)).alloc (.cells #[.int .u8 ((i : Int) + 1)] 5)).alloc (.cells #[.slice Al nl cl, .slice Ai ni ci, .slice (some ⟨w1.heap.size + 1, 0, none⟩) 1 1] 45)).drew := c_drew (c_alloc (c_alloc (c_alloc (c_refl w1) _) _) _)
    refine (HM _ (w1.heap.size + 1) (w1.heap.size + 1 + 1) (Rd.dr (Rd.mkk (by simp) rfl rfl)) (Rd.dr (Rd.al (Rd.mkk (by simp) rfl rfl) _)) hb).mono ?_
    have hz : ArrB (((w1.alloc (.cells #[.int .u8 0, .int .u8 0, .int .u8 0, .int .u8 0, .int .u8 0, .int .u8 0, .int .u8 0, .int .u8 0, .int .u8 0, .int .u8 0, .int .u8 0, .int .u8 0, .int .u8 0, .int .u8 0, .int .u8 0, .int .u8 0, .int .u8 0, .int .u8 0, .int .u8 0, .int .u8 0, .int .u8 0, .int .u8 0, .int .u8 0, .int .u8 0, .int .u8 0, .int .u8 0, .int .u8 0, .int .u8 0, .int .u8 0, .int .u8 0, .int .u8 0, .int .u8 0] 24)).alloc (.cells #[.int .u8 ((i : Int) + 1)] 5)).alloc (.cells #[.slice Al nl cl, .slice Ai ni ci, .slice (some ⟨w1.heap.size + 1, 0, none⟩) 1 1] 45)).drew (w1.heap.size) 24 (List.replicate 32 0) := ArrB.drew (ArrB.alloc (ArrB.alloc (ArrB.mk_ _ _ _ (List.replicate 32 0) (by simp) rfl) _) _)
    rintro e ws ⟨rfl, hbs⟩
    exact ⟨rfl, c_call hb hbs, hz.below hbs hz.lt⟩
  have M1 : Calls Tryd.prog 66 #[.slice (some ⟨bk, 0, none⟩) 32 32, .slice (some ⟨w1.heap.size + 1 + 1, 0, none⟩) 3 3] (((w1.alloc (.cells #[.int .u8 ((i : Int) + 1)] 5)).alloc (.cells #[.int .u8 0, .int .u8 0, .int .u8 0, .int .u8 0, .int .u8 0, .int .u8 0, .int .u8 0, .int .u8 0, .int .u8 0, .int .u8 0, .int .u8 0, .int .u8 0, .int .u8 0, .int .u8 0, .int .u8 0, .int .u8 0, .int .u8 0, .int .u8 0, .int .u8 0, .int .u8 0, .int .u8 0, .int .u8 0, .int .u8 0, .int .u8 0, .int .u8 0, .int .u8 0, .int .u8 0, .int .u8 0, .int .u8 0, .int .u8 0, .int .u8 0, .int .u8 0] 24)).alloc (.cells #[.slice Al nl cl, .slice Ai ni ci, .slice (some ⟨w1.heap.size, 0, none⟩) 1 1] 45)).drew (fun e ws => e = .returned (.agg (r.map bv).toArray) ∧ Below w1.heap.size w1 ws ∧ ArrB ws (w1.heap.size + 1) 24 (List.replicate 32 0)) := by
    have hb : Below w1.heap.size w1 (((w1.alloc (.cells #[.int .u8 ((i : Int) + 1)] 5)).alloc (.cells #[.int .u8 0, .int .u8 0, .int .u8 0, .int .u8 0, .int .u8 0, .int .u8 0, .int .u8 0, .int .u8 0, .int .u8 0, .int .u8 0, .int .u8 0, .int .u8 0, .int .u8 0, .int .u8 0, .int .u8 0, .int .u8 0, .int .u8 0, .int .u8 0, .int .u8 0, .int .u8 0, .int .u8 0, .int .u8 0, .int .u8 0, .int .u8 0, .int .u8 0, .int .u8 0, .int .u8 0, .int .u8 0, .int .u8 0, .int .u8 0, .int .u8 0, .int .u8 0] 24)).alloc (.cells #[.slice Al nl cl, .slice Ai ni ci, .slice (some ⟨w1.heap.size, 0, none⟩) 1 1] 45)).drew := c_drew (c_alloc (c_alloc (c_alloc (c_refl w1) _) _) _)
    refine (HM _ (w1.heap.size) (w1.heap.size + 1 + 1) (Rd.dr (Rd.mkk (by simp) rfl rfl)) (Rd.dr (Rd.al (Rd.al (Rd.mkk (by simp) rfl rfl) _) _)) hb).mono ?_
    have hz : ArrB (((w1.alloc (.cells #[.int .u8 ((i : Int) + 1)] 5)).alloc (.cells #[.int .u8 0, .int .u8 0, .int .u8 0, .int .u8 0, .int .u8 0, .int .u8 0, .int .u8 0, .int .u8 0, .int .u8 0, .int .u8 0, .int .u8 0, .int .u8 0, .int .u8 0, .int .u8 0, .int .u8 0, .int .u8 0, .int .u8 0, .int .u8 0, .int .u8 0, .int .u8 0, .int .u8 0, .int .u8 0, .int .u8 0, .int .u8 0, .int .u8 0, .int .u8 0, .int .u8 0, .int .u8 0, .int .u8 0, .int .u8 0, .int .u8 0, .int .u8 0] 24)).alloc (.cells #[.slice Al nl cl, .slice Ai ni ci, .slice (some ⟨w1.heap.size, 0, none⟩) 1 1] 45)).drew (w1.heap.size + 1) 24 (List.replicate 32 0) := ArrB.drew (ArrB.alloc (ArrB.mk_ _ _ _ (List.replicate 32 0) (by simp) rfl) _)
    rintro e ws ⟨rfl, hbs⟩
    exact ⟨rfl, c_call hb hbs, hz.below hbs hz.lt⟩
  have M2 : Calls Tryd.prog 66 #[.slice (some ⟨bk, 0, none⟩) 32 32, .slice (some ⟨w1.heap.size + 1, 0, none⟩) 3 3] (((w1.alloc (.cells #[.int .u8 ((i : Int) + 1)] 5)).alloc (.cells #[.slice Al nl cl, .slice Ai ni ci, .slice (some ⟨w1.heap.size, 0, none⟩) 1 1] 45)).alloc (.cells #[.int .u8 0, .int .u8 0, .int .u8 0, .int .u8 0, .int .u8 0, .int .u8 0, .int .u8 0, .int .u8 0, .int .u8 0, .int .u8 0, .int .u8 0, .int .u8 0, .int .u8 0, .int .u8 0, .int .u8 0, .int .u8 0, .int .u8 0, .int .u8 0, .int .u8 0, .int .u8 0, .int .u8 0, .int .u8 0, .int .u8 0, .int .u8 0, .int .u8 0, .int .u8 0, .int .u8 0, .int .u8 0, .int .u8 0, .int .u8 0, .int .u8 0, .int .u8 0] 24)).drew (fun e ws => e = .returned (.agg (r.map bv).toArray) ∧ Below w1.heap.size w1 ws ∧ ArrB ws (w1.heap.size + 1 + 1) 24 (List.replicate 32 0)) := by
    have hb : Below w1.heap.size w1 (((w1.alloc (.cells #[.int .u8 ((i : Int) + 1)] 5)).alloc (.cells #[.slice Al nl cl, .slice Ai ni ci, .slice (some ⟨w1.heap.size, 0, none⟩) 1 1] 45)).alloc (.cells #[.int .u8 0, .int .u8 0, .int .u8 0, .int .u8 0, .int .u8 0, .int .u8 0, .int .u8 0, .int .u8 0, .int .u8 0, .int .u8 0, .int .u8 0, .int .u8 0, .int .u8 0, .int .u8 0, .int .u8 0, .int .u8 0, .int .u8 0, .int .u8 0, .int .u8 0, .int .u8 0, .int .u8 0, .int .u8 0, .int .u8 0, .int .u8 0, .int .u8 0, .int .u8 0, .int .u8 0, .int .u8 0, .int .u8 0, .int .u8 0, .int .u8 0, .int .u8 0] 24)).drew := c_drew (c_alloc (c_alloc (c_alloc (c_refl w1) _) _) _)
    refine (HM _ (w1.heap.size) (w1.heap.size + 1) (Rd.dr (Rd.al (Rd.mkk (by simp) rfl rfl) _)) (Rd.dr (Rd.al (Rd.al (Rd.mkk (by simp) rfl rfl) _) _)) hb).mono ?_
    have hz : ArrB (((w1.alloc (.cells #[.int .u8 ((i : Int) + 1)] 5)).alloc (.cells #[.slice Al nl cl, .slice Ai ni ci, .slice (some ⟨w1.heap.size, 0, none⟩) 1 1] 45)).alloc (.cells #[.int .u8 0, .int .u8 0, .int .u8 0, .int .u8 0, .int .u8 0, .int .u8 0, .int .u8 0, .int .u8 0, .int .u8 0, .int .u8 0, .int .u8 0, .int .u8 0, .int .u8 0, .int .u8 0, .int .u8 0, .int .u8 0, .int .u8 0, .int .u8 0, .int .u8 0, .int .u8 0, .int .u8 0, .int .u8 0, .int .u8 0, .int .u8 0, .int .u8 0, .int .u8 0, .int .u8 0, .int .u8 0, .int .u8 0, .int .u8 0, .int .u8 0, .int .u8 0] 24)).drew (w1.heap.size + 1 + 1) 24 (List.replicate 32 0) := ArrB.drew (ArrB.mk_ _ _ _ (List.replicate 32 0) (by simp) rfl)
    rintro e ws ⟨rfl, hbs⟩
    exact ⟨rfl, c_call hb hbs, hz.below hbs hz.lt⟩
  have M3 : Calls Tryd.prog 66 #[.slice (some ⟨bk, 0, none⟩) 32 32, .slice (some ⟨w1.heap.size + 1, 0, none⟩) 3 3] ((w1.alloc (.cells #[.int .u8 ((i : Int) + 1)] 5)).alloc (.cells #[.slice Al nl cl, .slice Ai ni ci, .slice (some ⟨w1.heap.size, 0, none⟩) 1 1] 45)).drew (fun e ws => e = .returned (.agg (r.map bv).toArray) ∧ Below w1.heap.size w1 ws) := by
    have hb : Below w1.heap.size w1 ((w1.alloc (.cells #[.int .u8 ((i : Int) + 1)] 5)).alloc (.cells #[.slice Al nl cl, .slice Ai ni ci, .slice (some ⟨w1.heap.size, 0, none⟩) 1 1] 45)).drew := c_drew (c_alloc (c_alloc (c_refl w1) _) _)
    refine (HM _ (w1.heap.size) (w1.heap.size + 1) (Rd.dr (Rd.mkk (by simp) rfl rfl)) (Rd.dr (Rd.al (Rd.mkk (by simp) rfl rfl) _)) hb).mono ?_
    rintro e ws ⟨rfl, hbs⟩
    exact ⟨rfl, c_call hb hbs⟩
  go_region_held3 (fun wx => wx.cell? ⟨bl, 0, none⟩ = some (.slice Al nl cl) ∧ wx.cell? ⟨bi, 0, none⟩ = some (.slice Ai ni ci) ∧ wx.cell? ⟨bt, 0, none⟩ = some (.int .u8 ((i : Int) + 1)))
    (first | (refine hkeep _ ?_; (repeat (first | exact c_refl _ | exact hB8 | refine c_drew ?_ | refine c_alloc ?_ _ | refine c_call ?_ hbs | refine c_cells ?_ (by omega) _ | refine c_cells ?_ hB8.size _)); done))
    (first
      | (go_at_call 66; (with_reducible refine M0.mono ?_); rintro e ws ⟨rfl, hB8, hz8⟩; have hth : ws.there (w1.heap.size) 0 32 := hz8.there (by simp); obtain ⟨W8, g8, HW, Hg, hF⟩ := fine_old hB8 hz8 (by omega) r Hrl.out)
      | (go_at_call 66; (with_reducible refine M1.mono ?_); rintro e ws ⟨rfl, hB8, hz8⟩; have hth : ws.there (w1.heap.size + 1) 0 32 := hz8.there (by simp); obtain ⟨W8, g8, HW, Hg, hF⟩ := fine_old hB8 hz8 (by omega) r Hrl.out)
      | (go_at_call 66; (with_reducible refine M2.mono ?_); rintro e ws ⟨rfl, hB8, hz8⟩; have hth : ws.there (w1.heap.size + 1 + 1) 0 32 := hz8.there (by simp); obtain ⟨W8, g8, HW, Hg, hF⟩ := fine_old hB8 hz8 (by omega) r Hrl.out)
      | (go_at_call 66; (with_reducible refine M3.mono ?_); rintro e ws ⟨rfl, hB8⟩; have hth : (ws.alloc (.cells #[.int .u8 0, .int .u8 0, .int .u8 0, .int .u8 0, .int .u8 0, .int .u8 0, .int .u8 0, .int .u8 0, .int .u8 0, .int .u8 0, .int .u8 0, .int .u8 0, .int .u8 0, .int .u8 0, .int .u8 0, .int .u8 0, .int .u8 0, .int .u8 0, .int .u8 0, .int .u8 0, .int .u8 0, .int .u8 0, .int .u8 0, .int .u8 0, .int .u8 0, .int .u8 0, .int .u8 0, .int .u8 0, .int .u8 0, .int .u8 0, .int .u8 0, .int .u8 0] 24)).there ws.heap.size 0 32 := ArrB.there (ArrB.mk_ _ _ _ (List.replicate 32 0) rfl rfl) (by simp); obtain ⟨W8, g8, HW, Hg, hF⟩ := fine_new hB8 r Hrl.out))
  all_goals
    rw [HW.out, Hg.out]
    have hE := turn_end h hbase ht1 hold hs2 hb1 hF Hr0.out Hrl.out (r.map bv).toArray
    have hA8 := hF.arr
    have hZ8 := hz1.below hF.below hz1.lt
    have hL8 : W8.heap[bl]? = some (.cells #[.slice Al nl cl] 45 (0, 0)) := (hF.below.block bl (block_lt hl1')).trans hl1'
    have cl8 := cell_of_one hL8
    have fl8 := free_of_one hL8
    have lbl := block_lt hl1
    have hlow := hF.low
    have hA9 : ArrB (W8.setCell ⟨bl, 0, none⟩ (.slice (some ⟨g8, 0, none⟩) 32 32)) g8 24 r := hA8.far (p := ⟨bl, 0, none⟩) (show g8 ≠ bl by omega) _
    have hZ9 : ArrB (W8.setCell ⟨bl, 0, none⟩ (.slice (some ⟨g8, 0, none⟩) 32 32)) w.heap.size 24 (List.replicate 32 0) := hZ8.far (p := ⟨bl, 0, none⟩) (show w.heap.size ≠ bl by omega) _
    clear HW Hg hF M0 M1 M2 M3 HM hkeep hold
    go_wp2_with (first
      | ((with_reducible show wpList _ _ _ (⟨some 16, _, _, _, _, _⟩ :: _) _ _); refine wpList_load_row rfl 24 (.tmp 5) rfl g8 rfl 24 (r.map bv).toArray (0, 0) _ hA9 Tryd.underlying24 rfl (infoK32 Hrl.out) ?_)
      | ((with_reducible show wpList _ _ _ (⟨none, Op.store 24 _ _, _, _, _, _⟩ :: _) _ _); refine wpList_store_row rfl 24 (.tmp 4) (.tmp 16) rfl w.heap.size (r.map bv).toArray rfl rfl 24 _ hZ9 (infoK32 Hrl.out) (sizeK Hrl.out) (one_bvA _) ?_))
    exact bodyPost_ret (results_cell_row rfl _ _ w.heap.size 24 _ (0, 0) _ rfl (hZ9.row r) Tryd.underlying24 rfl (infoK32 Hrl.out)) rfl ⟨by rw [Hr0.out], hE.1, hE.2.1, hE.2.2.1, hE.2.2.2⟩

end Go.Proofs.YtgjeamapgdakcaaDoor

