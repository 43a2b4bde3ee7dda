/-
  CONTRACTS of the document's own padded and Mac (coterieref03).
-/
import Derived.Test.YtmkkghlpdnoogaaDoorMacB
import Derived.Deep.MidRow
set_option linter.unusedVariables false
namespace Go.Proofs.YtmkkghlpdnoogaaDoor
open Go.RowKit

/-- the first j are told, the rest is 0 -/
def padX (p : List UInt8) (x : UInt8) (j : Nat) : List UInt8 := (p.take j).map (· ^^^ x) ++ List.replicate (64 - j) 0
theorem padX_zero (p : List UInt8) (x : UInt8) : padX p x 0 = List.replicate 64 0 := by simp [padX]
theorem padX_all {p : List UInt8} (x : UInt8) (hp : p.length = 64) : padX p x 64 = p.map (· ^^^ x) := by simp [padX, ← hp]
theorem padX_len {p : List UInt8} (x : UInt8) {j : Nat} (hp : p.length = 64) (hj : j ≤ 64) : (padX p x j).length = 64 := by
  unfold padX
  simp
  omega
theorem padX_succ {p : List UInt8} {j : Nat} (x : UInt8) {y : UInt8} (h : p[j]? = some y) (hp : p.length = 64) : padX p x (j + 1) = (padX p x j).set j (y ^^^ x) := by
  have hj := (List.getElem?_eq_some_iff.1 h).1
  unfold padX
  rw [take_succ_of h, List.set_append_right _ _ (by simp; omega), show j - ((p.take j).map (· ^^^ x)).length = 0 from by simp; omega,
    show 64 - j = (64 - (j + 1)) + 1 from by omega, List.replicate_succ]
  simp

theorem padK_at {key : List UInt8} {j : Nat} {y : UInt8} (hk : key.length ≤ 64) (h : key[j]? = some y) : (padK key)[j]? = some y := by
  unfold padK
  rw [if_pos hk, List.getElem?_append_left (List.getElem?_eq_some_iff.1 h).1, h]
theorem padK_past {key : List UInt8} {j : Nat} (hk : key.length ≤ 64) (h : key.length ≤ j) (hj : j < 64) : (padK key)[j]? = some 0 := by
  unfold padK
  rw [if_pos hk, List.getElem?_append_right h, List.getElem?_replicate, if_pos (by omega)]
theorem zero_xor8 (x : UInt8) : 0 ^^^ x = x := UInt8.zero_xor

def PadPost (w : World) (key : List UInt8) (x : UInt8) (e : Ending) (w' : World) : Prop :=
  ∃ g, e = .returned (.slice (some ⟨g, 0, none⟩) 64 64) ∧ ArrB w' g 5 (xorK key x) ∧ Below w.heap.size w w'

set_option maxRecDepth 100000 in
set_option maxHeartbeats 1000000 in
theorem padded_small (A : Option Addr) (k c : Nat) (key : List UInt8) (x : UInt8) (w : World) (hk : k ≤ 64) (hr : Rd w w.heap.size A k (key.map bv)) :
    Calls Tryd.prog 50 #[.slice A k c, .int .u8 (x.toNat : Int)] w (PadPost w key x) := by
  have Hkl := Lib.hid (show key.length = k by simpa using hr.len)
  obtain ⟨p, hp⟩ : ∃ p, padK key = p := ⟨_, rfl⟩
  have HP := Lib.hid hp
  have Hpl := Lib.hid (show p.length = 64 by rw [← hp]; exact padK_len key)
  have Hxp := Lib.hid (show p.map (· ^^^ x) = xorK key x by rw [← hp]; rfl)
  unfold PadPost
  rw [← Hxp.out]
  clear hp
  go_enter Tryd.func50, Tryd.ntmps50
  obtain ⟨wm, hmk, hAm, hBm⟩ := make_bytes 64 w .i64 64 rfl (by omega)
  have hBw : Below w.heap.size w wm := c_call (c_refl w) hBm
  have hrm : Rd wm w.heap.size A k (key.map bv) := (hr).below hBm
  have hgw : w.heap.size ≤ w.heap.size := ((c_refl w)).size
  skip
  clear hBm
  go_wp2_with fail
  go_loopw [18] (fun i wr => ∃ j : Nat, j ≤ 64 ∧ i = .int .i64 (j : Int) ∧ ArrB wr (w.heap.size) 5 (padX p x j) ∧ Rd wr (w.heap.size) A k (key.map bv) ∧ Below w.heap.size w wr) (fun i _ => 64 - (intOf i).toNat)
  case atStart => exact ⟨0, by omega, rfl, by rw [padX_zero]; exact hAm, hrm, hBw⟩
  case round =>
    obtain ⟨j, hj, rfl, hA, hR, hB⟩ := hrel
    by_cases hlt : j < 64
    · have f0 := hA.frozen j
      have hpl := padX_len x Hpl.out hj
      obtain ⟨z0, hz0⟩ : ∃ z0, (padX p x j)[j]? = some z0 := ⟨_, List.getElem?_eq_getElem (by omega)⟩
      have c0 := hA.cell hz0
      obtain ⟨y, hy⟩ : ∃ y, p[j]? = some y := ⟨_, List.getElem?_eq_getElem (by have := Hpl.out; omega)⟩
      have Hs := Lib.hid (padX_succ x hy Hpl.out)
      have Hy := Lib.hid hy
      have j0 : (0 : Int) ≤ (j : Int) := by omega
      have j1 : (j : Int) < 64 := by omega
      have hA2 := hA.set_ j x
      have hB2 := hB.setCell (p := ⟨w.heap.size, j, none⟩) hgw (.int .u8 (x.toNat : Int))
      have hR2 := hR.setCell (p := ⟨w.heap.size, j, none⟩) (Nat.le_refl _) (.int .u8 (x.toNat : Int))
      have c2l : ((padX p x j).set j x)[j]? = some x := by rw [List.getElem?_set_self (by omega)]
      have c2 := hA2.cell (i := j) (x := x) c2l
      have f2 := hA2.frozen j
      clear hy hz0 hpl
      by_cases hjk : j < k
      · obtain ⟨b, o, hAe, hb, hc⟩ := hR2.pos (by omega)
        obtain ⟨yk, hyk⟩ : ∃ y, (key)[j]? = some y := ⟨_, List.getElem?_eq_getElem (by have := Hkl.out; omega)⟩
        have hyy : yk = y := by
          have h1 := padK_at (j := j) (y := yk) (by have := Hkl.out; omega) hyk
          rw [HP.out, Hy.out] at h1
          exact (Option.some.inj h1).symm
        subst hyy
        have ck := hc j (.int .u8 (yk.toNat : Int)) (by rw [List.getElem?_map, hyk]; rfl)
        have hx := b_xor x yk
        rw [UInt8.xor_comm x yk] at hx
        clear hc
        obtain rfl := hAe
        go_wp2_with fail
        refine wp_gen (fun wx => ArrB wx (w.heap.size) 5 ((padX p x j).set j x) ∧ Rd wx (w.heap.size) (some ⟨b, o, none⟩) k (key.map bv) ∧ Below w.heap.size w wx) ⟨hA2, hR2, hB2⟩ ?_
        clear c0 f0 c2 f2 ck
        rintro wz ⟨hAz, hRz, hBz⟩
        have cz1 : wz.cell? ⟨w.heap.size, j, none⟩ = some (.int .u8 (x.toNat : Int)) := hAz.cell (i := j) (x := x) c2l
        have cz2 : wz.cell? ⟨b, o + j, none⟩ = some (.int .u8 (yk.toNat : Int)) := by
          obtain ⟨b', o', he, _, hcz⟩ := hRz.pos (by omega)
          injection he with he
          injection he with he1 he2
          subst he1 he2
          exact hcz j _ (by rw [List.getElem?_map, hyk]; rfl)
        go_still_tail 10, (by kernel_rfl)
        change wpList _ _ _ _ _ wz.drew
        clear cz1 cz2
        refine wpList_gen (fun wx => ArrB wx (w.heap.size) 5 ((padX p x j).set j x) ∧ Rd wx (w.heap.size) (some ⟨b, o, none⟩) k (key.map bv) ∧ Below w.heap.size w wx) ⟨hAz.drew, hRz.drew, hBz.drew⟩ ?_
        rintro w5 ⟨hA5, hR5, hB5⟩
        have c5 := hA5.cell (i := j) (x := x) c2l
        have f5 := hA5.frozen j
        have hA6 := hA5.set_ j (x ^^^ yk)
        rw [List.set_set, UInt8.xor_comm x yk, ← Hs.out] at hA6
        have hB6 := hB5.setCell (p := ⟨w.heap.size, j, none⟩) hgw (.int .u8 ((yk ^^^ x).toNat : Int))
        have hR6 := hR5.setCell (p := ⟨w.heap.size, j, none⟩) (Nat.le_refl _) (.int .u8 ((yk ^^^ x).toNat : Int))
        go_wp2_with fail
        go_roundw
        case rel => exact ⟨j + 1, by omega, by go_num, hA6, hR6, hB6⟩
        case measure => simp [intOf]; omega
      · have hyy : y = 0 := by
          have h1 := padK_past (key := key) (j := j) (by have := Hkl.out; omega) (by have := Hkl.out; omega) hlt
          rw [HP.out, Hy.out] at h1
          exact Option.some.inj h1
        subst hyy
        rw [zero_xor8] at Hs
        rw [← Hs.out] at hA2
        go_wp2_with fail
        go_roundw
        case rel => exact ⟨j + 1, by omega, by go_num, hA2, hR2, hB2⟩
        case measure => simp [intOf]; omega
    · obtain rfl : j = 64 := by omega
      rw [padX_all x Hpl.out] at hA
      rw [show ((64 : Nat) : Int) = 64 from rfl]
      go_wp2_with fail
      go_ret
      exact ⟨w.heap.size, rfl, hA, hB⟩

end Go.Proofs.YtmkkghlpdnoogaaDoor
