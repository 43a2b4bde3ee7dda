/-
  THE WALK of the laws' live (coterielaw02): the chapter's two examples.
-/
import Derived.Test.YtmkkghlpdnoogaaDoorShaP
import Derived.Lib.SmallJoins
set_option linter.unusedVariables false
namespace Go.Proofs.YtmkkghlpdnoogaaDoor
open Go.RowKit

theorem sum_nothing : (sumU []).take 4 = [0xe3, 0xb0, 0xc4, 0x42] := by decide +kernel
theorem sum_abc : (sumU [97, 98, 99]).take 4 = [0xba, 0x78, 0x16, 0xbf] := by decide +kernel
theorem sumU_len (l : List UInt8) : (sumU l).length = 32 := by rw [sumU, bytesU_len, blocksTo_len rfl]

theorem take4 {l : List UInt8} {a b c d : UInt8} (h : l.take 4 = [a, b, c, d]) : l[0]? = some a ∧ l[1]? = some b ∧ l[2]? = some c ∧ l[3]? = some d := by
  have h0 : ∀ i, i < 4 → l[i]? = [a, b, c, d][i]? := fun i hi => by rw [← h, List.getElem?_take_of_lt hi]
  exact ⟨h0 0 (by omega), h0 1 (by omega), h0 2 (by omega), h0 3 (by omega)⟩

theorem calls_gen {P : Program} {f : FuncId} {args : Array Value} {w0 : World} {Q : Ending → World → Prop} (R : World → Prop) (h0 : R w0) (h : ∀ w1, R w1 → Calls P f args w1 Q) : Calls P f args w0 Q := h w0 h0
theorem al22 (w : World) (o o' : Obj) : w.heap.size + 1 + 1 ≤ ((w.alloc o).alloc o').heap.size := by simp
theorem Rd.mkFr (w : World) (t : TypeId) (fr : Nat × Nat) (xs : Array Value) {b B n : Nat} {l : List Value} (hb : w.heap.size = b) (hB : b < B) (hn : xs.size = n) (hl : xs.toList = l) : Rd (w.alloc (.cells xs t fr)) B (some ⟨b, 0, none⟩) n l := by
  subst hb hn hl
  refine ⟨by simp, fun _ => ⟨w.heap.size, 0, rfl, hB, fun j u hu => ?_⟩⟩
  rw [cell_of_row _ w.heap.size (0 + j) xs t fr (heap_alloc_new w _), Nat.zero_add]
  simpa using hu

set_option maxRecDepth 1000000 in
set_option maxHeartbeats 400000 in
theorem live_any (w : World) (hT : CTab w) :
    Calls Tryd.prog 11 #[] w fun e w' => e = .returned (.bool true) ∧ Below w.heap.size w w' := by
  obtain ⟨e0, e1, e2, e3⟩ := take4 sum_nothing
  obtain ⟨d0, d1, d2, d3⟩ := take4 sum_abc
  have E0 := Lib.hid e0
  have E1 := Lib.hid e1
  have E2 := Lib.hid e2
  have E3 := Lib.hid e3
  have D0 := Lib.hid d0
  have D1 := Lib.hid d1
  have D2 := Lib.hid d2
  have D3 := Lib.hid d3
  clear e0 e1 e2 e3 d0 d1 d2 d3
  go_enter Tryd.func11, Tryd.ntmps11
  go_wp2_with fail
  refine (pSum_any none 0 0 [] [] _ (by omega) (by simp) (Rd.zero _ _ _) (Txs.nil _ _) hT).mono ?_
  rintro e w2 ⟨rfl, hb2⟩
  have Hl1 := Lib.hid (sumU_len [])
  rw [show ([] : List (List UInt8)).flatten = [] from rfl]
  generalize sumU [] = s1 at *
  have Hf1 := Lib.hid (show (Tryd.prog.info? 36).map (·.size) = some ((s1.map bv).toArray).size by rw [info32]; simp [Hl1.out])
  have Hz1 := Lib.hid (show (zeroKey.map bv).toArray.size = ((s1.map bv).toArray).size by simp [Hl1.out, zeroKey])
  go_wp2_with ((with_reducible show wpList _ _ _ (⟨none, Op.store 36 _ _, _, _, _, _⟩ :: _) _ _); refine wpList_store_row rfl 36 (.tmp 1) (.tmp 3) rfl w2.heap.size (s1.map bv).toArray rfl rfl 36 (zeroKey.map bv).toArray (heap_alloc_new _ _) Hf1.out Hz1.out (one_bvA _) ?_; rw [World.setRow_alloc_new])
  have kc := Go.Joins.run_convert_bytes_const_at (P := Tryd.prog) (w2.alloc (.cells (s1.map bv).toArray 36)) 25 5 #[.int .u8 97, .int .u8 98, .int .u8 99] 3 3 (w2.heap.size + 1) (by simp) Tryd.underlying25 Tryd.underlying5
  have hb1 : Below w.heap.size w (w2.alloc (.cells (s1.map bv).toArray 36)) := hb2.alloc hb2.size _
  have hA1 : ArrB (w2.alloc (.cells (s1.map bv).toArray 36)) w2.heap.size 36 s1 := ArrB.mk_ _ _ _ _ rfl rfl
  go_wp2_with fail
  rw [kc]
  go_wp2_with fail
  refine calls_gen (fun wx => (Rd wx wx.heap.size (some ⟨w2.heap.size + 1 + 1, 0, none⟩) 1 [.slice (some ⟨w2.heap.size + 1, 0, none⟩) 3 3] ∧ Rd wx wx.heap.size (some ⟨w2.heap.size + 1, 0, none⟩) 3 ([97, 98, 99].map bv)) ∧ ArrB wx w2.heap.size 36 s1 ∧ Below w.heap.size w wx) ?_ ?_
  · refine ⟨⟨Rd.mk_ _ _ _ (size_alloc2 _ _ _) (by simp) rfl rfl, ((Rd.mkFr (B := w2.heap.size + 1 + 1) _ _ _ _ (size_alloc1 _ _) (by omega) rfl rfl).alloc (al22 _ _ _) _).more (Nat.le_trans (al22 _ _ _) (al0 _ _))⟩, (hA1.alloc _).alloc _, (hb1.alloc (Nat.le_trans hb2.size (al0 _ _)) _).alloc (Nat.le_trans hb2.size (Nat.le_trans (al0 _ _) (al0 _ _))) _⟩
  clear kc hA1 hb1
  rintro wx ⟨⟨hr1, hr2⟩, hAx, hbx⟩
  refine (pSum_any (some ⟨w2.heap.size + 1 + 1, 0, none⟩) 1 1 [.slice (some ⟨w2.heap.size + 1, 0, none⟩) 3 3] [[97, 98, 99]] _ (by omega) (by simp) hr1 (Txs.one hr2 (Nat.le_refl _)) (hT.below hbx)).mono ?_
  rintro e w3 ⟨rfl, hb3⟩
  have hA3 : ArrB w3 w2.heap.size 36 s1 := hAx.below hb3 hAx.lt
  have hb03 : Below w.heap.size w w3 := hbx.trans (hb3.mono hbx.size)
  have Hl2 := Lib.hid (sumU_len [97, 98, 99])
  rw [show ([[97, 98, 99]] : List (List UInt8)).flatten = [97, 98, 99] from rfl]
  generalize sumU [97, 98, 99] = s2 at *
  have Hf2 := Lib.hid (show (Tryd.prog.info? 36).map (·.size) = some ((s2.map bv).toArray).size by rw [info32]; simp [Hl2.out])
  have Hz2 := Lib.hid (show (zeroKey.map bv).toArray.size = ((s2.map bv).toArray).size by simp [Hl2.out, zeroKey])
  go_wp2_with (
    ((with_reducible show wpList _ _ _ (⟨none, Op.store 36 _ _, _, _, _, _⟩ :: _) _ _)
     refine wpList_store_row rfl 36 (.tmp 2) (.tmp 7) rfl w3.heap.size (s2.map bv).toArray rfl rfl 36 (zeroKey.map bv).toArray (heap_alloc_new _ _) Hf2.out Hz2.out (one_bvA _) ?_
     rw [World.setRow_alloc_new]
     refine wpList_gen (fun wx => (ArrB wx w2.heap.size 36 s1 ∧ ArrB wx w3.heap.size 36 s2) ∧ Below w.heap.size w wx) ⟨⟨hA3.alloc _, ArrB.mk_ _ _ _ _ rfl rfl⟩, hb03.alloc hb03.size _⟩ ?_
     rintro w4 ⟨⟨hA4, hA5⟩, hb4⟩
     have c0 := hA4.cell E0.out
     have c1 := hA4.cell E1.out
     have c2 := hA4.cell E2.out
     have c3 := hA4.cell E3.out
     have g0 := hA5.cell D0.out
     have g1 := hA5.cell D1.out
     have g2 := hA5.cell D2.out
     have g3 := hA5.cell D3.out))
  go_ret
  exact ⟨rfl, hb4⟩

end Go.Proofs.YtmkkghlpdnoogaaDoor
