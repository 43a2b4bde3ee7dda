/-
  CONTRACTS of Same (package sha, and the document's), haveRoom, closed, Sum.
-/
import Derived.Test.YtmkkghlpdnoogaaDoorShaL
set_option linter.unusedVariables false
namespace Go.Proofs.YtmkkghlpdnoogaaDoor
open Go.RowKit

theorem Equal_any (A A' : Option Addr) (k c k' c' : Nat) (l l' : List UInt8) (w : World) (B B' : Nat) (hr : Rd w B A k (l.map bv)) (hr' : Rd w B' A' k' (l'.map bv)) :
    Calls Tryd.prog 45 #[.slice A k c, .slice A' k' c'] w fun e w' => e = .returned (.bool (sameB l l')) ∧ w = w' := by
  have h1 := run_convert_rd (P := Tryd.prog) w 25 5 9 Tryd.underlying25 Tryd.underlying5 Tryd.underlying9 (c := c) hr
  have h2 := run_convert_rd (P := Tryd.prog) w 25 5 9 Tryd.underlying25 Tryd.underlying5 Tryd.underlying9 (c := c') hr'
  go_enter Tryd.func45, Tryd.ntmps45
  go_wp2_with fail
  go_ret
  exact ⟨by
    show Ending.returned (.bool ((strOf l).toList == (strOf l').toList)) = _
    rw [strOf_list, strOf_list, sameB], rfl⟩

def sameSha (h : List UInt32) (n : Nat) (l : List UInt8) (h' : List UInt32) (n' : Nat) (l' : List UInt8) : Bool := (h == h') && (n == n') && sameB l l'

theorem pSame_any (h h' : List UInt32) (n n' : Nat) (A A' : Option Addr) (k c k' c' : Nat) (l l' : List UInt8) (w : World) (hh : h.length = 8) (hh' : h'.length = 8) (hr : Rd w w.heap.size A k (l.map bv)) (hr' : Rd w w.heap.size A' k' (l'.map bv)) :
    Calls Tryd.prog 21 #[.agg (shaL h n (.slice A k c)).toArray, .agg (shaL h' n' (.slice A' k' c')).toArray] w fun e w' => e = .returned (.bool (sameSha h n l h' n' l')) ∧ Below w.heap.size w w' := by
  have I8 := Lib.hid (show (Tryd.prog.info? 23).map (·.size) = some (h.map wv).length by rw [info8]; simp [hh])
  have I8' := Lib.hid (show (Tryd.prog.info? 23).map (·.size) = some (h'.map wv).length by rw [info8]; simp [hh'])
  have hS : ShaAt ((w.alloc (.cells (shaL h n (.slice A k c)).toArray 27)).alloc (.cells (shaL h' n' (.slice A' k' c')).toArray 27)) w.heap.size h n (.slice A k c) := ShaAt.alloc ⟨hh, heap_alloc_new _ _⟩ _
  have hS' : ShaAt ((w.alloc (.cells (shaL h n (.slice A k c)).toArray 27)).alloc (.cells (shaL h' n' (.slice A' k' c')).toArray 27)) (w.heap.size + 1) h' n' (.slice A' k' c') := ⟨hh', heap_new (by simp) _⟩
  have hB : Below w.heap.size w ((w.alloc (.cells (shaL h n (.slice A k c)).toArray 27)).alloc (.cells (shaL h' n' (.slice A' k' c')).toArray 27)) := ((Below.refl _ _).alloc (Nat.le_refl _) _).alloc (al0 _ _) _
  have hR := hr.below hB
  have hR' := hr'.below hB
  have cN := hS.cellN
  have cV := hS.cellV
  have cN' := hS'.cellN
  have cV' := hS'.cellV
  have hq := fun wx : World => eql_words wx h h' hh hh'
  have Hs := Lib.hid (show sameSha h n l h' n' l' = ((h == h') && (n == n') && sameB l l') from rfl)
  generalize (h == h') = b1 at *
  have hn : ((n : Int) == (n' : Int)) = (n == n') := by rw [Bool.eq_iff_iff]; simp; omega
  generalize (n == n') = b2 at *
  rw [Hs.out]
  clear hh hh' hr hr'
  cases b1
  · go_enter Tryd.func21, Tryd.ntmps21
    go_wp2_with (first
      | ((with_reducible show wpList _ _ _ (⟨some 6, _, _, _, _, _⟩ :: _) _ _); refine wpList_load_mid rfl 23 (.tmp 5) rfl w.heap.size 0 rfl (h.map wv) _ hS.words Tryd.underlying23 rfl I8.out ?_)
      | ((with_reducible show wpList _ _ _ (⟨some 8, _, _, _, _, _⟩ :: _) _ _); refine wpList_load_mid rfl 23 (.tmp 7) rfl (w.heap.size + 1) 0 rfl (h'.map wv) _ hS'.words Tryd.underlying23 rfl I8'.out ?_))
    go_ret
    exact ⟨rfl, hB⟩
  · cases b2
    all_goals
      go_enter Tryd.func21, Tryd.ntmps21
      go_wp2_with (first
        | ((with_reducible show wpList _ _ _ (⟨some 6, _, _, _, _, _⟩ :: _) _ _); refine wpList_load_mid rfl 23 (.tmp 5) rfl w.heap.size 0 rfl (h.map wv) _ hS.words Tryd.underlying23 rfl I8.out ?_)
        | ((with_reducible show wpList _ _ _ (⟨some 8, _, _, _, _, _⟩ :: _) _ _); refine wpList_load_mid rfl 23 (.tmp 7) rfl (w.heap.size + 1) 0 rfl (h'.map wv) _ hS'.words Tryd.underlying23 rfl I8'.out ?_)
        | (go_at_call 45; refine (Equal_any A A' k c k' c' l l' _ _ _ hR hR').mono ?_; rintro e w2 ⟨rfl, rfl⟩))
      go_ret
      exact ⟨by simp, hB⟩

theorem rSame_any (h h' : List UInt32) (n n' : Nat) (A A' : Option Addr) (k c k' c' : Nat) (l l' : List UInt8) (w : World) (hh : h.length = 8) (hh' : h'.length = 8) (hr : Rd w w.heap.size A k (l.map bv)) (hr' : Rd w w.heap.size A' k' (l'.map bv)) :
    Calls Tryd.prog 18 #[.agg (shaL h n (.slice A k c)).toArray, .agg (shaL h' n' (.slice A' k' c')).toArray] w fun e w' => e = .returned (.bool (sameSha h n l h' n' l')) ∧ Below w.heap.size w w' := by
  have I8 := Lib.hid (show (Tryd.prog.info? 23).map (·.size) = some (h.map wv).length by rw [info8]; simp [hh])
  have I8' := Lib.hid (show (Tryd.prog.info? 23).map (·.size) = some (h'.map wv).length by rw [info8]; simp [hh'])
  have hS : ShaAt ((w.alloc (.cells (shaL h n (.slice A k c)).toArray 27)).alloc (.cells (shaL h' n' (.slice A' k' c')).toArray 27)) w.heap.size h n (.slice A k c) := ShaAt.alloc ⟨hh, heap_alloc_new _ _⟩ _
  have hS' : ShaAt ((w.alloc (.cells (shaL h n (.slice A k c)).toArray 27)).alloc (.cells (shaL h' n' (.slice A' k' c')).toArray 27)) (w.heap.size + 1) h' n' (.slice A' k' c') := ⟨hh', heap_new (by simp) _⟩
  have hB : Below w.heap.size w ((w.alloc (.cells (shaL h n (.slice A k c)).toArray 27)).alloc (.cells (shaL h' n' (.slice A' k' c')).toArray 27)) := ((Below.refl _ _).alloc (Nat.le_refl _) _).alloc (al0 _ _) _
  have hR := hr.below hB
  have hR' := hr'.below hB
  have cN := hS.cellN
  have cV := hS.cellV
  have cN' := hS'.cellN
  have cV' := hS'.cellV
  have hq := fun wx : World => eql_words wx h h' hh hh'
  have Hs := Lib.hid (show sameSha h n l h' n' l' = ((h == h') && (n == n') && sameB l l') from rfl)
  generalize (h == h') = b1 at *
  have hn : ((n : Int) == (n' : Int)) = (n == n') := by rw [Bool.eq_iff_iff]; simp; omega
  generalize (n == n') = b2 at *
  rw [Hs.out]
  clear hh hh' hr hr'
  cases b1
  · go_enter Tryd.func18, Tryd.ntmps18
    go_wp2_with (first
      | ((with_reducible show wpList _ _ _ (⟨some 6, _, _, _, _, _⟩ :: _) _ _); refine wpList_load_mid rfl 23 (.tmp 5) rfl w.heap.size 0 rfl (h.map wv) _ hS.words Tryd.underlying23 rfl I8.out ?_)
      | ((with_reducible show wpList _ _ _ (⟨some 8, _, _, _, _, _⟩ :: _) _ _); refine wpList_load_mid rfl 23 (.tmp 7) rfl (w.heap.size + 1) 0 rfl (h'.map wv) _ hS'.words Tryd.underlying23 rfl I8'.out ?_))
    go_ret
    exact ⟨rfl, hB⟩
  · cases b2
    all_goals
      go_enter Tryd.func18, Tryd.ntmps18
      go_wp2_with (first
        | ((with_reducible show wpList _ _ _ (⟨some 6, _, _, _, _, _⟩ :: _) _ _); refine wpList_load_mid rfl 23 (.tmp 5) rfl w.heap.size 0 rfl (h.map wv) _ hS.words Tryd.underlying23 rfl I8.out ?_)
        | ((with_reducible show wpList _ _ _ (⟨some 8, _, _, _, _, _⟩ :: _) _ _); refine wpList_load_mid rfl 23 (.tmp 7) rfl (w.heap.size + 1) 0 rfl (h'.map wv) _ hS'.words Tryd.underlying23 rfl I8'.out ?_)
        | (go_at_call 24; refine (Same_any A A' k c k' c' l l' _ _ _ hR hR').mono ?_; rintro e w2 ⟨rfl, rfl⟩))
      go_ret
      exact ⟨by simp, hB⟩

def roomB (n m : Nat) : Bool := decide (n + m ≤ 1099511627776)

set_option maxHeartbeats 400000 in
theorem haveRoom_any (n : Nat) (At : Option Addr) (m ct : Nat) (vs : List Value) (ts : List (List UInt8)) (w : World) (B : Nat) (hn : n ≤ 1099511627776) (hm : m ≤ 5864062014805)
    (hv : Rd w B At m vs) (ht : Txs w B vs ts) (hl : ∀ t ∈ ts, t.length ≤ 9223372036854775807) :
    Calls Tryd.prog 37 #[.int .u64 (n : Int), .slice At m ct] w fun e w' => e = .returned (.bool (roomB n ts.flatten.length)) ∧ w = w' := by
  have hml : vs.length = m := hv.len
  have htl : ts.length = m := by rw [← ht.1, hml]
  have Hml := Lib.hid hml
  have Htl := Lib.hid htl
  have Hle := Lib.hid (flat_take_le ts)
  have Hl := Lib.hid hl
  clear hml htl hl
  obtain ⟨R, hR⟩ : ∃ R, R = roomB n ts.flatten.length := ⟨_, rfl⟩
  rw [← hR]
  have HR := Lib.hid hR
  clear hR
  go_enter Tryd.func37, Tryd.ntmps37
  go_wp2_with fail
  go_loop [5, 12] (fun x i => ∃ q l : Nat, q ≤ m ∧ i = .int .i64 (q : Int) ∧ x = .int .u64 (l : Int) ∧ Hid (l + n + (ts.take q).flatten.length = 1099511627776)) (fun _ i => m - (intOf i).toNat)
  case atStart =>
    refine ⟨0, 1099511627776 - n, by omega, rfl, ?_, by show _ = _; simp; omega⟩
    congr 1; omega
  case round =>
    obtain ⟨q, l, hq, rfl, rfl, Hsum⟩ := hrel
    have hlb : l ≤ 1099511627776 := by have := Hsum.out; omega
    by_cases hlt : q < m
    · obtain ⟨b, o, rfl, hb, hc⟩ := hv.pos (by omega)
      obtain ⟨v, hvq⟩ : ∃ v, vs[q]? = some v := ⟨_, List.getElem?_eq_getElem (by have := Hml.out; omega)⟩
      obtain ⟨t, htq⟩ : ∃ t, ts[q]? = some t := ⟨_, List.getElem?_eq_getElem (by have := Htl.out; omega)⟩
      obtain ⟨Ax, cx, rfl, hcx, hrx⟩ := ht.2 q v t hvq htq
      have hcell := hc q _ hvq
      have hlen := Hl.out t (List.mem_of_getElem? htq)
      have Hsn := Lib.hid (show (ts.take (q + 1)).flatten.length = (ts.take q).flatten.length + t.length by rw [flat_take_succ htq, List.length_append])
      clear hvq htq hc
      by_cases hgt : l < t.length
      · have g1 : (l : Int) < (t.length : Int) := by omega
        go_wp2_with fail
        go_ret
        refine ⟨?_, rfl⟩
        have h1 := Hle.out (q + 1)
        have h2 := Hsn.out
        have h3 := Hsum.out
        have : R = false := by rw [HR.out]; exact decide_eq_false (by omega)
        rw [this]
        rfl
      · have g1 : ¬ (l : Int) < (t.length : Int) := by omega
        have g2 : 0 ≤ (l : Int) - (t.length : Int) := by omega
        have g3 : (t.length : Int) ≤ (l : Int) := by omega
        go_wp2_with fail
        go_round
        case rel => exact ⟨q + 1, l - t.length, by omega, by go_num, by congr 1; omega, by show _ = _; have := Hsn.out; have := Hsum.out; omega⟩
        case measure => simp [intOf]; omega
    · obtain rfl : q = m := by omega
      go_wp2_with fail
      go_ret
      refine ⟨?_, rfl⟩
      have e : ts.take q = ts := List.take_of_length_le (by have := Htl.out; omega)
      have h3 := Hsum.out
      rw [e] at h3
      have : R = true := by rw [HR.out]; exact decide_eq_true (by omega)
      rw [this]
      rfl

end Go.Proofs.YtmkkghlpdnoogaaDoor
