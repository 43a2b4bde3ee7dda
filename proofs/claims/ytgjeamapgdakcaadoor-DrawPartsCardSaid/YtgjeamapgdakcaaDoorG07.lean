import Derived.Test.YtgjeamapgdakcaaDoorG05
import Derived.Test.YtgjeamapgdakcaaDoorG06
/-
  CONTRACTS of the document's Padded and First (coterieref02).
-/
set_option linter.unusedVariables false
namespace Go.Proofs.YtgjeamapgdakcaaDoor
open Go.RowKit

/-- how many zeros a padding of n bytes holds -/
def zeros (n : Nat) : Nat := (119 - n % 64) % 64
theorem zeros_le (n : Nat) : zeros n < 64 := Nat.mod_lt _ (by omega)
theorem zeros_ne (n j : Nat) (h : j < zeros n) : ¬ (n + 1 + j) % 64 = 56 := by unfold zeros at h; omega
theorem zeros_eq (n : Nat) : (n + 1 + zeros n) % 64 = 56 := by unfold zeros; omega

def padTo (l : List UInt8) (j : Nat) : List UInt8 := l ++ [128] ++ List.replicate j 0
def padU (l : List UInt8) : List UInt8 := padTo l (zeros l.length) ++ be 8 (8 * l.length)
theorem padTo_succ (l : List UInt8) (j : Nat) : (padTo l (j + 1)).map bv = (padTo l j).map bv ++ [.int .u8 0] := by
  simp [padTo, List.replicate_succ', bv]
theorem padTo_len (l : List UInt8) (j : Nat) : (padTo l j).length = l.length + 1 + j := by simp [padTo]; omega
theorem padU_len (l : List UInt8) : (padU l).length = l.length + 1 + zeros l.length + 8 := by simp [padU, padTo_len, be_length]
theorem padU_64 (l : List UInt8) : (padU l).length % 64 = 0 := by rw [padU_len]; have := zeros_eq l.length; omega

def lenOf : Value → Nat
  | .slice _ n _ => n
  | _ => 0

set_option maxHeartbeats 400000 in
theorem Padded_any (A : Option Addr) (k c : Nat) (l : List UInt8) (w : World) (hk : k ≤ 1099511627776) (hr : Rd w w.heap.size A k (l.map bv)) :
    Calls Tryd.prog 33 #[.slice A k c] w fun e w' =>
      ∃ A' n c', e = .returned (.slice A' n c') ∧ n ≤ c' ∧ w'.ownsRow w.heap.size 5 1 (.slice A' n c') n ((padU l).map bv) ∧ Below w.heap.size w w' := by
  obtain ⟨i0, hi0, hz0, hz1, hz2⟩ := info_parts byteInfo
  have Hkl := Lib.hid (show l.length = k by simpa using hr.len)
  go_enter Tryd.func33, Tryd.ntmps33
  go_wp2_with (first
    | (go_at_call 32; refine (Copy_any A k c l _ hk hr).mono ?_; rintro e w1 ⟨A1, c1, rfl, hown1, hb1⟩)
    | (at_builtin; refine wpList_append_rd _ rfl (.tmp 5) (.tmp 6) _ rfl w.heap.size 5 i0 _ 1 Tryd.underlying45 hi0 hz0 hz1 hz2 rfl (.slice A1 k c1) k _ rfl (hown1.alloc _) (w1.heap.size + 1) _ 1 1 [.int .u8 128] rfl (Rd.new _ _ #[_]) (by simp [Value.oneCell']) (by simp only [maxLen]; omega) (by omega) (Nat.le_trans hb1.size (al0 _ _)) ?_; intro v2 w2 hown2 hgr2 hat2))
  have hb2 : Below w.heap.size w w2 := (hb1.alloc hb1.size _).grown hgr2 (Nat.le_trans hb1.size (al0 _ _)) (fun g hg => (hown1.lt g hg).1)
  go_loopw [3] (fun v wr => ∃ (j : Nat) (A' : Option Addr) (c' : Nat), j ≤ zeros k ∧ v = .slice A' (k + 1 + j) c' ∧ wr.ownsRow w.heap.size 5 1 v (k + 1 + j) ((padTo l j).map bv) ∧ Below w.heap.size w wr) (fun v _ => k + 65 - lenOf v)
  case atStart =>
    obtain ⟨A2, c2, rfl, _, _⟩ := own_form hown2
    refine ⟨0, A2, c2, Nat.zero_le _, rfl, ?_, hb2⟩
    simpa [padTo, bv] using hown2
  case round =>
    obtain ⟨j, A3, c3, hj, rfl, hown3, hb3⟩ := hrel
    have hz := zeros_le k
    by_cases hlt : j < zeros k
    · have hne := zeros_ne k j hlt
      have Hz := Lib.hid (show k + 1 + (j + 1) = k + 1 + j + 1 from rfl)
      generalize hm : k + 1 + j = m at *
      have hm2 : ((m : Int) % 64 != 56) = true := by simp; omega
      have Hm := Lib.hid hm
      have hm3 : m ≤ 1099511627776 + 65 := by omega
      clear hm hne
      have hb4 := hb3.size
      go_wp2_with (at_builtin; refine wpList_append_rd _ rfl (.tmp 12) (.tmp 13) _ rfl w.heap.size 5 i0 _ 1 Tryd.underlying45 hi0 hz0 hz1 hz2 rfl (.slice A3 m c3) m _ rfl (hown3.alloc _) (wr.heap.size + 1) _ 1 1 [.int .u8 0] rfl (Rd.new _ _ #[_]) (by simp [Value.oneCell']) (by simp only [maxLen]; omega) (by omega) (Nat.le_trans hb4 (al0 _ _)) ?_; intro v4 w4 hown4 hgr4 hat4)
      obtain ⟨A4, c4, rfl, _, _⟩ := own_form hown4
      go_roundw
      case rel =>
        refine ⟨j + 1, A4, c4, by omega, by rw [Hz.out], ?_, ?_⟩
        · rw [Hz.out, padTo_succ]
          exact hown4
        · exact (hb3.alloc hb4 _).grown hgr4 (Nat.le_trans hb4 (al0 _ _)) (fun g hg => (hown3.lt g hg).1)
      case measure =>
        have := Hm.out
        simp [lenOf]; omega
    · obtain rfl : j = zeros k := by omega
      have heq := zeros_eq k
      generalize hm : k + 1 + zeros k = m at *
      have hm2 : ((m : Int) % 64 != 56) = false := by simp; omega
      have Hm := Lib.hid hm
      have hm3 : m ≤ 1099511627776 + 65 := by omega
      clear hm heq
      have hb4 := hb3.size
      go_wp2_with (first
        | (go_at_call 26; rw [show ((8 : Int) * (k : Int)) = ((8 * k : Nat) : Int) from by omega]; refine (Bytes_any 8 (8 * k) _ (by omega) (by omega)).mono ?_; rintro e w4 ⟨A4, c4, rfl, hown4, hb4⟩)
        | (at_builtin; refine wpList_append_rd _ rfl (.tmp 15) (.tmp 20) _ rfl w.heap.size 5 i0 _ 1 Tryd.underlying45 hi0 hz0 hz1 hz2 rfl (.slice A3 m c3) m _ rfl (own_below hown3 hb4) w4.heap.size _ 8 c4 _ rfl (Rd.of_own hown4) (one_bv _) (by simp only [maxLen]; omega) (by omega) (Nat.le_trans hb3.size hb4.size) ?_; intro v5 w5 hown5 hgr5 hat5))
      go_ret
      obtain ⟨A5, c5, rfl, hc5, _⟩ := own_form hown5
      refine ⟨A5, _, c5, rfl, hc5, ?_, ?_⟩
      · rw [padU, List.map_append, Hkl.out]
        exact hown5
      · exact (hb3.trans (hb4.mono hb3.size)).grown hgr5 (Nat.le_trans hb3.size hb4.size) (fun g hg => (hown3.lt g hg).1)

theorem flat_take_succ {ts : List (List UInt8)} {q : Nat} {t : List UInt8} (h : ts[q]? = some t) : (ts.take (q + 1)).flatten = (ts.take q).flatten ++ t := by
  rw [take_succ_of h]; simp
theorem flat_take_le (ts : List (List UInt8)) (q : Nat) : (ts.take q).flatten.length ≤ ts.flatten.length := by
  conv => rhs; rw [← List.take_append_drop q ts, List.flatten_append, List.length_append]
  omega

set_option maxHeartbeats 400000 in
theorem All_any (At : Option Addr) (m ct : Nat) (vs : List Value) (ts : List (List UInt8)) (w : World) (hm : m ≤ 5864062014805) (htot : ts.flatten.length ≤ 1099511627776)
    (hv : Rd w w.heap.size At m vs) (ht : Txs w w.heap.size vs ts) :
    Calls Tryd.prog 34 #[.slice At m ct] w fun e w' =>
      ∃ A' n c', e = .returned (.slice A' n c') ∧ n ≤ c' ∧ w'.ownsRow w.heap.size 5 1 (.slice A' n c') n (ts.flatten.map bv) ∧ Below w.heap.size w w' := by
  obtain ⟨i0, hi0, hz0, hz1, hz2⟩ := info_parts byteInfo
  have hml : vs.length = m := hv.len
  have htl : ts.length = m := by rw [← ht.1, hml]
  have Hml := Lib.hid hml
  have Htl := Lib.hid htl
  have Hle := Lib.hid (flat_take_le ts)
  clear hml htl
  go_enter Tryd.func34, Tryd.ntmps34
  go_wp2_with fail
  go_loopw [3, 8] (fun v i wr => ∃ q n : Nat, q ≤ m ∧ i = .int .i64 (q : Int) ∧ wr.ownsRow w.heap.size 5 1 v n ((ts.take q).flatten.map bv) ∧ Below w.heap.size w wr) (fun _ i _ => m - (intOf i).toNat)
  case atStart => exact ⟨0, 0, by omega, rfl, by simpa using World.ownsRow_nil _ _ _ _, Below.refl _ _⟩
  case round =>
    obtain ⟨q, n, hq, rfl, hown2, hbel2⟩ := hrel
    have hsz := hbel2.size
    have hn : n ≤ 1099511627776 := by
      have h1 := hown2.1
      have h2 := Hle.out q
      simp only [List.length_map] at h1
      omega
    by_cases hlt : q < m
    · obtain ⟨b, o, rfl, hb, hc⟩ := (hv.below hbel2).pos (by omega)
      obtain ⟨v, hvj⟩ : ∃ v, vs[q]? = some v := ⟨_, List.getElem?_eq_getElem (by have := Hml.out; omega)⟩
      obtain ⟨t, htj⟩ : ∃ t, ts[q]? = some t := ⟨_, List.getElem?_eq_getElem (by have := Htl.out; omega)⟩
      obtain ⟨Ax, cx, rfl, hcx, hrx⟩ := (ht.below hbel2).2 q v t hvj htj
      have hcell := hc q _ hvj
      have hnt : n + t.length ≤ 1099511627776 := by
        have h1 := hown2.1
        have h2 := Hle.out (q + 1)
        rw [flat_take_succ htj, List.length_append] at h2
        simp only [List.length_map] at h1
        omega
      have Hsn := Lib.hid (flat_take_succ htj)
      clear hvj htj hc
      obtain ⟨A3, c3, rfl, _, _⟩ := own_form hown2
      go_wp2_with (at_builtin; refine wpList_append_rd _ rfl (.tmp 12) (.tmp 13) _ rfl w.heap.size 5 i0 _ 1 Tryd.underlying45 hi0 hz0 hz1 hz2 rfl (.slice A3 n c3) n _ rfl hown2 w.heap.size Ax t.length cx (t.map bv) rfl hrx (one_bv _) (by simp only [maxLen]; omega) (by omega) hsz ?_; intro v5 w5 hown5 hgr5 hat5)
      go_roundw
      case rel =>
        refine ⟨q + 1, n + t.length, by omega, by go_num, ?_, ?_⟩
        · rw [Hsn.out, List.map_append]
          exact hown5
        · exact hbel2.grown hgr5 hsz (fun g hg => (hown2.lt g hg).1)
      case measure => simp [intOf]; omega
    · obtain rfl : q = m := by omega
      obtain ⟨A3, c3, rfl, hc3, _⟩ := own_form hown2
      go_wp2_with fail
      go_ret
      refine ⟨A3, n, c3, rfl, hc3, ?_, hbel2⟩
      have e : ts.take q = ts := List.take_of_length_le (by have := Htl.out; omega)
      rw [e] at hown2
      exact hown2

end Go.Proofs.YtgjeamapgdakcaaDoor

