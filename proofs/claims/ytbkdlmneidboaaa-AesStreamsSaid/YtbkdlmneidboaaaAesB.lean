/-
  CONTRACTS of the program's inverses (a closure) and boxes (package aes).
-/
import Derived.Test.YtbkdlmneidboaaaAesA
import Derived.StillTailTactics
set_option linter.unusedVariables false
namespace Go.Proofs.Ytbkdlmneidboaaa
open Go.RowKit

/-- two bytes in blocks of their own -/
def Cell8 (w : World) (g : Nat) (x : UInt8) : Prop := ArrB w g 5 [x]
theorem Cell8.cell {w : World} {g : Nat} {x : UInt8} (h : Cell8 w g x) : w.cell? ⟨g, 0, none⟩ = some (.int .u8 (x.toNat : Int)) := ArrB.cell h rfl

theorem still_flip8 {v : Value} {w : World} (e : Ending) (w' : World) (h : e = .returned v ∧ w = w') : e = .returned v ∧ w' = w := ⟨h.1, h.2.symm⟩

theorem times_k (a : UInt8) (d : Int) (w : World) (h : 0 ≤ d ∧ d < 256) :
    Calls Try.prog 80 #[.int .u8 (a.toNat : Int), .int .u8 d] w fun e w' => e = .returned (.int .u8 ((timesU a (UInt8.ofNat d.toNat)).toNat : Int)) ∧ w' = w := by
  have e : d = ((UInt8.ofNat d.toNat).toNat : Int) := by
    rw [UInt8.toNat_ofNat']
    omega
  have k := times_any a (UInt8.ofNat d.toNat) w
  rw [← e] at k
  exact k.mono fun _ _ ⟨h1, h2⟩ => ⟨h1, h2.symm⟩

set_option maxRecDepth 100000 in
set_option maxHeartbeats 400000 in
theorem inv1_any (g1 g2 : Nat) (x y : UInt8) (w : World) (hne : g1 ≠ g2) (h1 : Cell8 w g1 x) (h2 : Cell8 w g2 y) :
    Calls Try.prog 79 #[.pointer (some ⟨g1, 0, none⟩), .pointer (some ⟨g2, 0, none⟩)] w fun e w' =>
      e = .returned (.tuple #[.int .u8 ((timesU x 3).toNat : Int), .int .u8 ((timesU y 246).toNat : Int)]) ∧ Cell8 w' g1 (timesU x 3) ∧ Cell8 w' g2 (timesU y 246) ∧ ∀ B, B ≤ g1 → B ≤ g2 → Below B w w' := by
  have c1 := h1.cell
  have c2 := h2.cell
  have f1 := ArrB.frozen h1 0
  have f2 := ArrB.frozen h2 0
  go_enter Try.func79, Try.ntmps79
  go_wp2_with fail
  refine wp_region_still_tail 4 (by kernel_rfl) (by kernel_rfl) ?_
  simp only [List.take_succ_cons, List.take_zero, List.drop_succ_cons, List.drop_zero]
  repeat (first | (refine wpStill_step (fun K hK => ?_); go_simp; refine ⟨_, (times_k _ _ _ (by omega)), hK _ ?_⟩; clear hK K) | still_step)
  refine wpStill_nil ?_
  change wpList _ _ _ _ _ w.drew
  go_wp2_with fail
  go_quiet (fail)
  go_wp2_with fail
  go_ret2
  refine ⟨rfl, ?_, ?_, fun B hB1 hB2 => ?_⟩
  · exact ((ArrB.set_ h1 0 (timesU x 3)).far (by simpa using hne) _)
  · exact (ArrB.set_ (h2.far (by simpa using hne.symm) _) 0 (timesU y 246))
  · exact (((Below.refl B w).setCell (p := ⟨g1, 0, none⟩) hB1 _).setCell (p := ⟨g2, 0, none⟩) hB2 _ : Below B w _).trans ⟨rfl, rfl, rfl, Nat.le_refl _, fun _ _ => rfl⟩

theorem inverses_any (w : World) :
    Calls Try.prog 72 #[] w fun e w' =>
      e = .returned (.func (.func 79) #[] #[.pointer (some ⟨w.heap.size, 0, none⟩), .pointer (some ⟨w.heap.size + 1, 0, none⟩)]) ∧
        Cell8 w' w.heap.size 1 ∧ Cell8 w' (w.heap.size + 1) 1 ∧ w'.heap.size = w.heap.size + 2 ∧ Below w.heap.size w w' := by
  go_enter Try.func72, Try.ntmps72
  go_wp2_with fail
  go_ret
  exact ⟨rfl, (ArrB.mk_ w _ _ [1] rfl rfl).alloc _, ArrB.mk_ _ _ _ [1] (by simp) rfl, by simp, ((Below.refl _ _).alloc (Nat.le_refl _) _).alloc (al0 _ _) _⟩

/-- n zeros as cells: a great zero value, never written out -/
def cz (n : Nat) : Array Value := Array.replicate n (.int .u8 0)
theorem cz_size (n : Nat) : (cz n).size = n := by simp [cz]
theorem cz_list (n : Nat) : ((List.replicate n (0 : UInt8)).map bv).toArray = cz n := by rw [List.map_replicate, List.toArray_replicate]; rfl
theorem cz_ne : ∀ n, ¬ cz (n + 1) = #[] := fun n h => by have := congrArg Array.size h; simp [cz] at this
theorem run_zero_of {P : Program} {t : TypeId} {i : TypeInfo} {z : Value} (hi : P.info? t = some i) (hz : i.zero = some z) (w : World) : (zeroValue t).run P w = .ok z w := by simp [zeroValue, typeInfo, hi, hz]

theorem info256 : (Try.prog.info? 85).map (fun i => (i.zero, i.size, i.bytes)) = some (some (.agg (cz 256)), 256, 256) := by kernel_rfl
theorem zero256 (w : World) : (zeroValue 85).run Try.prog w = .ok (.agg (cz 256)) w := by
  obtain ⟨i0, hi0, hz0, hz1, hz2⟩ := info_parts info256
  exact run_zero_of hi0 hz0 w
theorem size256 : (Try.prog.info? 85).map (·.size) = some 256 := by kernel_rfl

set_option maxRecDepth 1000000 in
set_option maxHeartbeats 1000000 in
theorem boxes_any (w : World) :
    Calls Try.prog 55 #[] w fun e w' => e = .returned (.agg (boxT.map bv).toArray) ∧ Below w.heap.size w w' := by
  have hz := zero256
  have hc := cz_ne 255
  have Hrep := Lib.hid (cz_list 256)
  generalize cz 256 = zs at *
  go_enter Try.func55, Try.ntmps55
  go_wp2_with fail
  refine (inverses_any _).mono ?_
  rintro e w2 ⟨rfl, i1, i2, hs2, hb2⟩
  have ha0 : ArrB w2 w.heap.size 85 (tabTo 0) := ((ArrB.mk_ w _ _ (tabTo 0) rfl Hrep.out).alloc _).below hb2 (by simp; omega)
  have ha1 : ArrB w2 (w.heap.size + 1) 85 (tabTo 0) := (ArrB.mk_ _ _ _ (tabTo 0) (by simp) Hrep.out).below hb2 (by simp)
  have hB2 : Below w.heap.size w w2 := (((Below.refl _ _).alloc (Nat.le_refl _) _).alloc (al0 _ _) _).trans (hb2.mono (by simp; omega))
  simp only [World.size_alloc] at i1 i2 hs2
  clear hz hc Hrep hb2
  go_wp2_with fail
  go_loopw [6] (fun i wr => ∃ n : Nat, n ≤ 255 ∧ i = .int .i64 (n : Int) ∧ ArrB wr w.heap.size 85 (tabTo 0) ∧ ArrB wr (w.heap.size + 1) 85 (tabTo n) ∧ Cell8 wr (w.heap.size + 1 + 1) (pwU n) ∧ Cell8 wr (w.heap.size + 1 + 1 + 1) (ivU n) ∧ Below w.heap.size w wr) (fun i _ => (255 - intOf i).toNat)
  case atStart => exact ⟨0, by omega, rfl, ha0, ha1, i1, i2, hB2⟩
  case round =>
    obtain ⟨n, hn, rfl, ha0, ha1, i1, i2, hB⟩ := hrel
    by_cases hlt : n < 255
    · go_wp2_with fail
      refine (inv1_any _ _ _ _ _ (by omega) i1 i2).mono ?_
      rintro e w3 ⟨rfl, i1', i2', hb3⟩
      have hb3' := hb3 (w.heap.size + 1 + 1) (Nat.le_refl _) (by omega)
      have ha0' := ha0.below hb3' (by omega)
      have ha1' := ha1.below hb3' (by omega)
      have hB3 := hB.trans (hb3 w.heap.size (by omega) (by omega))
      rw [show timesU (pwU n) 3 = pwU (n + 1) from rfl] at *
      rw [show timesU (ivU n) 246 = ivU (n + 1) from rfl] at *
      have Hst := Lib.hid (show tabTo (n + 1) = (tabTo n).set (pwU (n + 1)).toNat (spU (ivU (n + 1))) from rfl)
      obtain ⟨y, hy⟩ : ∃ y, (tabTo n)[(pwU (n + 1)).toNat]? = some y := ⟨_, List.getElem?_eq_getElem (by rw [tabTo_len]; exact b_lt _)⟩
      have cy := ha1'.cell hy
      have fy := ha1'.frozen (pwU (n + 1)).toNat
      have hs := ha1'.set_ (pwU (n + 1)).toNat (spU (ivU (n + 1)))
      rw [← Hst.out] at hs
      have hi := i1'
      have hj := i2'
      generalize hp0 : pwU (n + 1) = p at *
      generalize hq0 : ivU (n + 1) = q at *
      have Hp := Lib.hid hp0
      have Hq := Lib.hid hq0
      clear hp0 hq0
      have hp := b_lt p
      clear hy i1 i2 ha0 ha1 hb3 hb3'
      go_wp2_with fail
      refine (spread_any q _).mono ?_
      rintro e w4 ⟨rfl, rfl⟩
      go_wp2_with fail
      refine ⟨⟨n + 1, by omega, by go_num, ha0'.far (by simp) _, hs, by rw [Hp.out]; exact ArrB.far hi (by simp; try omega) _, by rw [Hq.out]; exact ArrB.far hj (by simp; try omega) _, hB3.setCell (by simp) _⟩, by simp [intOf]; omega⟩
    · obtain rfl : n = 255 := by omega
      rw [show ((255 : Nat) : Int) = 255 from rfl]
      obtain ⟨y, hy⟩ : ∃ y, (tabTo 255)[0]? = some y := ⟨_, List.getElem?_eq_getElem (by rw [tabTo_len]; omega)⟩
      have cy := ha1.cell hy
      have fy := ha1.frozen 0
      have h0 := ha1.set_ 0 (spU 0)
      have Hb := Lib.hid (show (tabTo 255).set 0 (spU 0) = boxT from rfl)
      rw [Hb.out] at h0
      rw [show (((spU 0).toNat : Nat) : Int) = 99 by kernel_rfl] at h0
      have hsp := spread_any 0 wr
      rw [show (((spU 0).toNat : Nat) : Int) = 99 by kernel_rfl, show (((0 : UInt8).toNat : Nat) : Int) = 0 from rfl] at hsp
      have Hl := Lib.hid (show (boxT.map bv).toArray.size = 256 by simp [boxT_len])
      have Hlz := Lib.hid (show ((tabTo 0).map bv).toArray.size = (boxT.map bv).toArray.size by simp [boxT_len, tabTo_len])
      have Hi := Lib.hid (show (Try.prog.info? 85).map (·.size) = some (boxT.map bv).toArray.size by rw [size256, Hl.out])
      have Ho := Lib.hid (one_bvA boxT)
      clear hy ha1 i1 i2
      generalize htb : boxT = tb at *
      have Htb := Lib.hid htb
      clear htb
      generalize tabTo 0 = t0 at *
      go_wp2_with fail
      refine hsp.mono ?_
      rintro e w4 ⟨rfl, rfl⟩
      go_wp2_with (first
        | ((with_reducible show wpList _ _ _ (⟨some 20, _, _, _, _, _⟩ :: _) _ _); refine wpList_load_row rfl 85 (.tmp 1) rfl (w.heap.size + 1) rfl 85 (tb.map bv).toArray (0, 0) _ h0 Try.underlying85 rfl Hi.out ?_)
        | ((with_reducible show wpList _ _ _ (⟨none, Op.store 85 _ _, _, _, _, _⟩ :: _) _ _); refine wpList_store_row rfl 85 (.tmp 0) (.tmp 20) rfl w.heap.size (tb.map bv).toArray rfl rfl 85 _ (ha0.far (by simp) _) Hi.out Hlz.out Ho.out ?_))
      exact bodyPost_ret (results_cell_row rfl _ _ w.heap.size 85 _ (0, 0) _ rfl ((ha0.far (by simp) _).row tb) Try.underlying85 rfl Hi.out) rfl ⟨by rw [Htb.out], below_setRow (hB.setCell (by simp) _) (Nat.le_refl _) _⟩
end Go.Proofs.Ytbkdlmneidboaaa
