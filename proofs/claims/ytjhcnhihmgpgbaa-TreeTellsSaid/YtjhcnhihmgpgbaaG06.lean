import Derived.Test.YtjhcnhihmgpgbaaG04
import Derived.Test.YtjhcnhihmgpgbaaG05
/-
  CONTRACTS of the document's Find, Same and Check (coterieref10).
-/
set_option linter.unusedVariables false
namespace Go.Proofs.Ytjhcnhihmgpgbaa
open Go.RowKit

theorem take_one {α : Type} {l : List α} {j : Nat} {x : α} (hx : l[j]? = some x) : l.take (j + 1) = l.take j ++ [x] := by
  rw [List.take_add_one, hx]; rfl

theorem Find_any (Ai : Option Addr) (ni ci : Nat) (Al : Option Addr) (nl cl : Nat) (ids : List Int) (id : Int) (w : World) (hni : ids.length = ni) (hci : ni ≤ ci) (hmi : ci ≤ maxLen) (h : Rd w w.heap.size Ai ni (ids.map iv)) :
    Calls Try.prog 20 #[.agg (shV Ai ni ci Al nl cl), .int .i64 id] w fun e w' => e = .returned (.tuple #[.int .i64 (belT ids id : Int), .bool (isT ids id)]) ∧ Below w.heap.size w w' := by
  have Hni := Lib.hid hni
  rw [maxLen] at hmi
  clear hni
  rw [shV]
  go_enter Try.func20, Try.ntmps20
  go_wp2_with fail
  go_loopw [6, 7, 13] (fun b t i wr => ∃ j : Nat, j ≤ ni ∧ i = .int .i64 (j : Int) ∧ b = .int .i64 (belT (ids.take j) id : Int) ∧ t = .bool (isT (ids.take j) id) ∧ Below w.heap.size w wr) (fun _ _ i _ => ni - (intOf i).toNat)
  case atStart => exact ⟨0, by omega, rfl, rfl, rfl, (Below.refl _ _).alloc (Nat.le_refl _) _⟩
  case round =>
    obtain ⟨j, hj, rfl, rfl, rfl, hb⟩ := hrel
    by_cases hlt : j < ni
    · obtain ⟨x, hx⟩ : ∃ x, ids[j]? = some x := ⟨_, List.getElem?_eq_getElem (by rw [Hni.out]; exact hlt)⟩
      obtain ⟨g, o, rfl, hg, hcell⟩ := (h.below hb).pos (by omega)
      have c1 := hcell j (iv x) (by rw [List.getElem?_map, hx]; rfl)
      rw [iv_def] at c1
      have hbl : belT (ids.take j) id ≤ j := Nat.le_trans List.countP_le_length (by rw [List.length_take]; omega)
      have Hb := Lib.hid (show belT (ids.take (j + 1)) id = belT (ids.take j) id + if x < id then 1 else 0 by
        rw [take_one hx, belT, List.countP_append]; simp [belT])
      have Ht := Lib.hid (show isT (ids.take (j + 1)) id = (isT (ids.take j) id || (x == id)) by
        rw [take_one hx, isT, List.any_append]; simp [isT])
      clear hcell hx
      generalize belT (ids.take j) id = bj at *
      generalize isT (ids.take j) id = tj at *
      have hw1 : IntKind.i64.wrap ((bj : Int) + 1) = (bj : Int) + 1 := by rw [IntKind.wrap_i64]; omega
      by_cases hxi : x < id
      · rw [if_pos hxi] at Hb
        cases tj
        · go_wp2_with fail
          go_roundw
          case rel => exact ⟨j + 1, by omega, by go_num, by rw [Hb.out]; rfl, by rw [Ht.out]; rfl, hb⟩
          case measure => simp [intOf]; omega
        · go_wp2_with fail
          go_roundw
          case rel => exact ⟨j + 1, by omega, by go_num, by rw [Hb.out]; rfl, by rw [Ht.out]; rfl, hb⟩
          case measure => simp [intOf]; omega
      · rw [if_neg hxi] at Hb
        cases tj
        · go_wp2_with fail
          go_roundw
          case rel => exact ⟨j + 1, by omega, by go_num, by rw [Hb.out]; rfl, by rw [Ht.out]; rfl, hb⟩
          case measure => simp [intOf]; omega
        · go_wp2_with fail
          go_roundw
          case rel => exact ⟨j + 1, by omega, by go_num, by rw [Hb.out]; rfl, by rw [Ht.out]; rfl, hb⟩
          case measure => simp [intOf]; omega
    · obtain rfl : j = ni := by omega
      rw [List.take_of_length_le (by rw [Hni.out]; exact Nat.le_refl _)]
      go_wp2_with fail
      exact bodyPost_ret (results_tmp2 rfl _ _ _) rfl ⟨rfl, hb⟩

theorem Same_anyT (Ai : Option Addr) (ni ci : Nat) (Al : Option Addr) (nl cl : Nat) (ids : List Int) (ll : List (List Int)) (Ai' : Option Addr) (ni' ci' : Nat) (Al' : Option Addr) (nl' cl' : Nat) (ids' : List Int) (ll' : List (List Int)) (w : World)
    (h : ShR w w.heap.size Ai ni ci Al nl cl ids ll) (h' : ShR w w.heap.size Ai' ni' ci' Al' nl' cl' ids' ll') :
    Calls Try.prog 18 #[.agg (shV Ai ni ci Al nl cl), .agg (shV Ai' ni' ci' Al' nl' cl')] w fun e w' => e = .returned (.bool (ids == ids' && ll == ll')) ∧ Below w.heap.size w w' := by
  have Hni := Lib.hid h.hni
  have Hnl := Lib.hid h.hnl
  have Hnl' := Lib.hid h'.hnl
  have hml := h.hml
  have hcl := h.hcl
  have hml' := h'.hml
  have hcl' := h'.hcl
  have hmn : ni ≤ maxLen := Nat.le_trans h.hci h.hmi
  obtain ⟨vs, hv, hlv⟩ := h.lvs
  obtain ⟨vs', hv', hlv'⟩ := h'.lvs
  have hi := h.hids
  have hi' := h'.hids
  clear h h'
  rw [maxLen] at hml hml'
  rw [shV, shV]
  have hM := ((Ms.nil w).box 25 #[.slice Ai ni ci, .slice Al nl cl]).box 25 #[.slice Ai' ni' ci', .slice Al' nl' cl']
  simp only [World.size_alloc] at hM
  go_enter Try.func18, Try.ntmps18
  go_wp2_with fail
  refine (SameInts_any Ai Ai' ni ci ni' ci' ids ids' _ hmn ((hi.below hM.old).more hM.old.size) ((hi'.below hM.old).more hM.old.size)).mono ?_
  rintro e w1 ⟨rfl, hb1⟩
  have hM1 := hM.call hb1
  clear hM hb1
  have hc0 := (hM1.get 1 rfl).cell (i := 1) (v := .slice Al nl cl) rfl
  have hc1 := (hM1.get 0 rfl).cell (i := 1) (v := .slice Al' nl' cl') rfl
  by_cases hs : (ids == ids') = false
  · have Hs := Lib.hid hs
    rw [hs]
    clear hs
    go_wp2_with fail
    go_ret
    exact ⟨by rw [Hs.out]; rfl, hM1.old⟩
  have hs' : (ids == ids') = true := by simpa using hs
  have Hs := Lib.hid hs'
  rw [hs']
  clear hs hs'
  by_cases hnn : nl = nl'
  rotate_left
  · have hne : ¬ (nl : Int) = (nl' : Int) := by omega
    have Hf := Lib.hid (show (ll == ll') = false by
      rw [beq_eq_false_iff_ne]
      rintro rfl
      exact hnn (Hnl.out.symm.trans Hnl'.out))
    go_wp2_with fail
    go_ret
    exact ⟨by rw [Hs.out, Hf.out]; rfl, hM1.old⟩
  subst hnn
  go_wp2_with fail
  go_loopw [24] (fun i wr => ∃ j : Nat, j ≤ nl ∧ i = .int .i64 (j : Int) ∧ ll.take j = ll'.take j ∧ Ms w wr [(w.heap.size + 1, 25, #[.slice Ai' ni' ci', .slice Al' nl cl']), (w.heap.size, 25, #[.slice Ai ni ci, .slice Al nl cl])]) (fun i _ => nl - (intOf i).toNat)
  case atStart => exact ⟨0, by omega, rfl, rfl, hM1⟩
  case round =>
    clear hM1 hc0 hc1
    obtain ⟨j, hj, rfl, ht, hM⟩ := hrel
    by_cases hlt : j < nl
    · have hj1 : j < ll.length := by rw [Hnl.out]; exact hlt
      have hj2 : j < ll'.length := by rw [Hnl'.out]; exact hlt
      have hb := hM.old
      obtain ⟨A, c, hvj, hc, hm, hrj⟩ := hlv.get hj1
      obtain ⟨A', c', hvj', hc', hm', hrj'⟩ := hlv'.get hj2
      obtain ⟨g, o, rfl, hg, hcell⟩ := (hv.below hb).pos (by omega)
      obtain ⟨g', o', rfl, hg', hcell'⟩ := (hv'.below hb).pos (by omega)
      have k0 := (hM.get 1 rfl).cell (i := 1) (v := .slice (some ⟨g, o, none⟩) nl cl) rfl
      have k1 := (hM.get 0 rfl).cell (i := 1) (v := .slice (some ⟨g', o', none⟩) nl cl') rfl
      have c1 := hcell j _ hvj
      have c2 := hcell' j _ hvj'
      have Hlj := Lib.hid (List.getElem?_eq_getElem hj1)
      have Hlj' := Lib.hid (List.getElem?_eq_getElem hj2)
      have hrb := (hrj.below hb).more hb.size
      have hrb' := (hrj'.below hb).more hb.size
      clear hcell hcell' hvj hvj' hrj hrj'
      generalize ll[j] = l at *
      generalize ll'[j] = l' at *
      have b0 : (j : Int) < (nl : Int) := by omega
      have b1 : (0 : Int) ≤ (j : Int) := by omega
      go_wp2_with fail
      go_still_tail 10, (by kernel_rfl)
      change wpList _ _ _ _ _ wr.drew
      clear c1 c2 k0 k1
      go_wp2_with fail
      refine (SameInts_any A A' l.length c l'.length c' l l' wr.drew (Nat.le_trans hc hm) hrb.drew hrb'.drew).mono ?_
      rintro e w2 ⟨rfl, hb2⟩
      have hM2 := hM.drew.call hb2
      clear hrb hrb' hb2 hM hb
      by_cases hll : (l == l') = true
      · have Ht := Lib.hid (show ll.take (j + 1) = ll'.take (j + 1) by rw [take_one Hlj.out, take_one Hlj'.out, ht, eq_of_beq hll])
        rw [hll]
        clear ht hll
        go_wp2_with fail
        go_roundw
        case rel => exact ⟨j + 1, by omega, by go_num, Ht.out, hM2⟩
        case measure => simp [intOf]; omega
      · have hlf : (l == l') = false := by simpa using hll
        have Hf := Lib.hid (show (ll == ll') = false by
          rw [beq_eq_false_iff_ne]
          rintro rfl
          have := Hlj.out.symm.trans Hlj'.out
          exact hll (by rw [Option.some.inj this]; simp))
        rw [hlf]
        clear ht hll hlf
        go_wp2_with fail
        go_ret
        exact ⟨by rw [Hs.out, Hf.out]; rfl, hM2.old⟩
    · obtain rfl : j = nl := by omega
      rw [List.take_of_length_le (by rw [Hnl.out]; exact Nat.le_refl _), List.take_of_length_le (by rw [Hnl'.out]; exact Nat.le_refl _)] at ht
      have Hf := Lib.hid (show (ll == ll') = true by rw [ht]; simp)
      clear ht
      go_wp2_with fail
      go_ret
      exact ⟨by rw [Hs.out, Hf.out]; rfl, hM.old⟩

end Go.Proofs.Ytjhcnhihmgpgbaa

/-
  CONTRACT of the document's Check (coterieref10).
-/
set_option linter.unusedVariables false
namespace Go.Proofs.Ytjhcnhihmgpgbaa
open Go.RowKit

/-- a member at a place that may not be there -/
def badAt (ids : List Int) (i : Nat) : Bool := decide (ids.getD i 0 < 0) || decide (1048576 < ids.getD i 0) || (decide (0 < i) && decide (ids.getD i 0 ≤ ids.getD (i - 1) 0))
def okI (ids : List Int) : Bool := (List.range ids.length).all (fun i => !badAt ids i)
def in23 (l : List Int) : Bool := l.all (fun n => decide (n = 2) || decide (n = 3))
/-- levels over so many nodes may be -/
def chkL : Int → List (List Int) → Bool
  | many, [] => decide (many ≤ 1)
  | many, l :: ls => in23 l && (decide (l.sum = many) && decide (2 ≤ many)) && chkL l.length ls
def chkT (ids : List Int) (ll : List (List Int)) : Bool := decide (ids.length ≤ 1000) && okI ids && chkL ids.length ll
def chkE (ids : List Int) (ll : List (List Int)) : Int := if chkT ids ll then 0 else 1
theorem all_range_succ (p : Nat → Bool) (j : Nat) : (List.range (j + 1)).all p = ((List.range j).all p && p j) := by rw [List.range_succ, List.all_append]; simp
theorem all_range_not {p : Nat → Bool} {j n : Nat} (h : j < n) (hp : p j = false) : (List.range n).all p = false := by
  rw [List.all_eq_false]
  exact ⟨j, List.mem_range.2 h, by simp [hp]⟩
theorem in23_sum : ∀ (l : List Int), in23 l = true → 0 ≤ l.sum ∧ l.sum ≤ 3 * l.length
  | [], _ => by simp
  | x :: l, h => by
    simp only [in23, List.all_cons, Bool.and_eq_true, Bool.or_eq_true, decide_eq_true_eq] at h
    have := in23_sum l (by rw [in23]; exact h.2)
    simp only [List.sum_cons, List.length_cons]
    omega

set_option maxRecDepth 100000 in
set_option maxHeartbeats 4000000 in
theorem CheckT_any (Ai : Option Addr) (ni ci : Nat) (Al : Option Addr) (nl cl : Nat) (ids : List Int) (ll : List (List Int)) (w : World) (h : ShR w w.heap.size Ai ni ci Al nl cl ids ll) (hf : ∀ l ∈ ll, l.length ≤ 1000000) :
    Calls Try.prog 26 #[.agg (shV Ai ni ci Al nl cl)] w fun e w' => e = .returned (.int .i64 (chkE ids ll)) ∧ Below w.heap.size w w' := by
  have Hni := Lib.hid h.hni
  have Hnl := Lib.hid h.hnl
  have hml := h.hml
  have hcl := h.hcl
  have hmi := h.hmi
  have hci := h.hci
  obtain ⟨vs, hv, hlv⟩ := h.lvs
  have hi := h.hids
  rw [maxLen] at hml hmi
  rw [shV]
  have hM := (Ms.nil w).box 25 #[.slice Ai ni ci, .slice Al nl cl]
  have Hbad := Lib.hid (show ∀ b, chkT ids ll = b → chkE ids ll = if b then 0 else 1 from fun b hb => by rw [chkE, hb])
  clear h
  go_enter Try.func26, Try.ntmps26
  by_cases h1000 : ni ≤ 1000
  rotate_left
  · have hg : (1000 : Int) < (ni : Int) := by omega
    have He := Lib.hid (Hbad.out false (by rw [chkT, Hni.out, decide_eq_false h1000]; rfl))
    go_wp2_with fail
    go_ret
    exact ⟨by rw [He.out]; rfl, hM.old⟩
  have hg : ¬ (1000 : Int) < (ni : Int) := by omega
  go_wp2_with fail
  go_loopw [18] (fun i wr => ∃ j : Nat, j ≤ ni ∧ i = .int .i64 (j : Int) ∧ (List.range j).all (fun i => !badAt ids i) = true ∧ Ms w wr [(w.heap.size, 25, #[.slice Ai ni ci, .slice Al nl cl])]) (fun i _ => ni - (intOf i).toNat)
  case atStart => exact ⟨0, by omega, rfl, rfl, hM⟩
  case round =>
    clear hM
    obtain ⟨j, hj, rfl, ht, hM⟩ := hrel
    have hb := hM.old
    by_cases hlt : j < ni
    · obtain ⟨x, hx⟩ : ∃ x, ids[j]? = some x := ⟨_, List.getElem?_eq_getElem (by rw [Hni.out]; exact hlt)⟩
      obtain ⟨g, o, rfl, hgl, hcell⟩ := (hi.below hb).pos (by omega)
      have c1 := hcell j (iv x) (by rw [List.getElem?_map, hx]; rfl)
      rw [iv_def] at c1
      have k0 := (hM.get 0 rfl).cell (i := 0) (v := .slice (some ⟨g, o, none⟩) ni ci) rfl
      have hxd : ids.getD j 0 = x := by rw [List.getD_eq_getElem?_getD, hx]; rfl
      have Hbj := Lib.hid (show badAt ids j = (decide (x < 0) || decide (1048576 < x) || (decide (0 < j) && decide (x ≤ ids.getD (j - 1) 0))) by rw [badAt, hxd])
      have Hnot := Lib.hid (show badAt ids j = true → chkE ids ll = 1 from fun hb => by
        rw [Hbad.out false (by rw [chkT, okI, all_range_not (show j < ids.length by rw [Hni.out]; exact hlt) (by rw [hb]; rfl)]; simp)]; rfl)
      have Hyes := Lib.hid (show badAt ids j = false → (List.range (j + 1)).all (fun i => !badAt ids i) = true from fun hb => by rw [all_range_succ, ht, hb]; rfl)
      by_cases hx0 : x < 0
      · have He := Lib.hid (Hnot.out (by rw [Hbj.out, decide_eq_true hx0]; rfl))
        clear ht hx hxd hcell
        go_wp2_with fail
        go_ret
        exact ⟨by rw [He.out]; rfl, hb⟩
      by_cases hx1 : 1048576 < x
      · have He := Lib.hid (Hnot.out (by rw [Hbj.out, decide_eq_true hx1, Bool.or_true]; rfl))
        clear ht hx hxd hcell
        go_wp2_with fail
        go_ret
        exact ⟨by rw [He.out]; rfl, hb⟩
      by_cases hj0 : 0 < j
      rotate_left
      · have Ht := Lib.hid (Hyes.out (by rw [Hbj.out, decide_eq_false hx0, decide_eq_false hx1, decide_eq_false hj0]; rfl))
        have hj0' : ¬ (0 : Int) < (j : Int) := by omega
        clear ht hx hxd hcell hj0
        go_wp2_with fail
        go_roundw
        case rel => exact ⟨j + 1, by omega, by go_num, Ht.out, hM⟩
        case measure => simp [intOf]; omega
      obtain ⟨y, hy⟩ : ∃ y, ids[j - 1]? = some y := ⟨_, List.getElem?_eq_getElem (by rw [Hni.out]; omega)⟩
      have c2 := hcell (j - 1) (iv y) (by rw [List.getElem?_map, hy]; rfl)
      rw [iv_def] at c2
      have hyd : ids.getD (j - 1) 0 = y := by rw [List.getD_eq_getElem?_getD, hy]; rfl
      rw [hyd] at Hbj
      have hj0' : (0 : Int) < (j : Int) := by omega
      have q0 : IntKind.i64.wrap ((j : Int) - 1) = (j : Int) - 1 := by rw [IntKind.wrap_i64]; omega
      have q1 : ((j : Int) - 1).toNat = j - 1 := by omega
      have q2 : (0 : Int) ≤ (j : Int) - 1 := by omega
      have q3 : (j : Int) - 1 < (ni : Int) := by omega
      by_cases hxy : x ≤ y
      · have He := Lib.hid (Hnot.out (by rw [Hbj.out, decide_eq_true hj0, decide_eq_true hxy]; simp))
        clear ht hx hxd hcell hy hyd hj0
        go_wp2_with fail
        go_ret
        exact ⟨by rw [He.out]; rfl, hb⟩
      · have Ht := Lib.hid (Hyes.out (by rw [Hbj.out, decide_eq_false hx0, decide_eq_false hx1, decide_eq_true hj0, decide_eq_false hxy]; rfl))
        clear ht hx hxd hcell hy hyd hj0
        go_wp2_with fail
        go_roundw
        case rel => exact ⟨j + 1, by omega, by go_num, Ht.out, hM⟩
        case measure => simp [intOf]; omega
    · obtain rfl : j = ni := by omega
      have Hk := Lib.hid (show chkE ids ll = if chkL (j : Int) ll then 0 else 1 by
        rw [Hbad.out _ rfl, chkT, okI, Hni.out, ht, decide_eq_true h1000]; rfl)
      have k0 := (hM.get 0 rfl).cell (i := 0) (v := .slice Ai j ci) rfl
      have k1 := (hM.get 0 rfl).cell (i := 1) (v := .slice Al nl cl) rfl
      have hj40 : (j : Int) ≤ 1000000 := by omega
      clear ht Hbad
      go_wp2_with fail
      go_loopw [5, 50] (fun m i wr => ∃ (q : Nat) (many : Int), q ≤ nl ∧ i = .int .i64 (q : Int) ∧ m = .int .i64 many ∧ many ≤ 1000000 ∧ chkL (j : Int) ll = chkL many (ll.drop q) ∧ Below w.heap.size w wr) (fun _ i _ => nl - (intOf i).toNat)
      case atStart => exact ⟨0, j, by omega, rfl, rfl, hj40, rfl, hb⟩
      case round =>
        clear hb hM k0 k1 hj40
        obtain ⟨q, many, hq, rfl, rfl, hmb, hch, hb⟩ := hrel
        by_cases hlt : q < nl
        · have hql : q < ll.length := by rw [Hnl.out]; exact hlt
          obtain ⟨A, c, hvj, hc, hm, hrj⟩ := hlv.get hql
          obtain ⟨g, o, rfl, hgl, hcell⟩ := (hv.below hb).pos (by omega)
          have c1 := hcell q _ hvj
          have Hd := Lib.hid (show ll.drop q = ll[q] :: ll.drop (q + 1) from List.drop_eq_getElem_cons hql)
          have hlm := hf _ (List.getElem_mem hql)
          clear hcell hvj
          generalize ll[q] = l at *
          rw [maxLen] at hm
          have Hch := Lib.hid (show chkL (j : Int) ll = (in23 l && (decide (l.sum = many) && decide (2 ≤ many)) && chkL l.length (ll.drop (q + 1))) by rw [hch, Hd.out]; rfl)
          clear hch
          go_wp2_with fail
          go_loopw [8, 56] (fun s i wz => ∃ k : Nat, k ≤ l.length ∧ i = .int .i64 (k : Int) ∧ s = .int .i64 (l.take k).sum ∧ in23 (l.take k) = true ∧ Below w.heap.size w wz) (fun _ i _ => l.length - (intOf i).toNat)
          case atStart => exact ⟨0, by omega, rfl, rfl, rfl, hb⟩
          case round =>
            clear hb
            obtain ⟨k, hk, rfl, rfl, hin, hb⟩ := hrel
            have hsum := in23_sum _ hin
            rw [List.length_take] at hsum
            by_cases hkl : k < l.length
            · obtain ⟨n, hn⟩ : ∃ n, l[k]? = some n := ⟨_, List.getElem?_eq_getElem hkl⟩
              obtain ⟨g2, o2, rfl, hg2, hcell2⟩ := (hrj.below hb).pos (by omega)
              have c2 := hcell2 k (iv n) (by rw [List.getElem?_map, hn]; rfl)
              rw [iv_def] at c2
              have Ht := Lib.hid (take_one hn)
              have Hnot := Lib.hid (show ¬ (n = 2 ∨ n = 3) → chkE ids ll = 1 from fun hne => by
                rw [Hk.out, Hch.out, show in23 l = false from all_not _ hn (by simp only [Bool.or_eq_false_iff, decide_eq_false_iff_not]; omega)]; rfl)
              clear hcell2 hn
              have hs0 : (0 : Int) ≤ (l.take k).sum ∧ (l.take k).sum ≤ 3000000 := by omega
              have Hin := Lib.hid hin
              clear hin hsum
              by_cases h2 : n = 2
              · subst h2
                have hw : IntKind.i64.wrap ((l.take k).sum + 2) = (l.take k).sum + 2 := by rw [IntKind.wrap_i64]; omega
                have Hs2 := Lib.hid (show (l.take (k + 1)).sum = (l.take k).sum + 2 by rw [Ht.out, List.sum_append]; simp)
                have Hi2 := Lib.hid (show in23 (l.take (k + 1)) = true by rw [Ht.out, in23, List.all_append, ← in23, Hin.out]; rfl)
                generalize (l.take k).sum = sm at *
                go_wp2_with fail
                go_roundw
                case rel => exact ⟨k + 1, by omega, by go_num, by rw [Hs2.out], Hi2.out, hb⟩
                case measure => simp [intOf]; omega
              by_cases h3 : n = 3
              · subst h3
                have hw : IntKind.i64.wrap ((l.take k).sum + 3) = (l.take k).sum + 3 := by rw [IntKind.wrap_i64]; omega
                have Hs2 := Lib.hid (show (l.take (k + 1)).sum = (l.take k).sum + 3 by rw [Ht.out, List.sum_append]; simp)
                have Hi2 := Lib.hid (show in23 (l.take (k + 1)) = true by rw [Ht.out, in23, List.all_append, ← in23, Hin.out]; rfl)
                generalize (l.take k).sum = sm at *
                go_wp2_with fail
                go_roundw
                case rel => exact ⟨k + 1, by omega, by go_num, by rw [Hs2.out], Hi2.out, hb⟩
                case measure => simp [intOf]; omega
              have He := Lib.hid (Hnot.out (by omega))
              have q2 : (n != 2) = true := by rw [bne_iff_ne]; exact h2
              have q3 : (n != 3) = true := by rw [bne_iff_ne]; exact h3
              clear h2 h3
              go_wp2_with fail
              go_ret
              exact ⟨by rw [He.out]; rfl, hb⟩
            · obtain rfl : k = l.length := by omega
              rw [List.take_of_length_le (Nat.le_refl _)] at hin hsum ⊢
              have Hs := Lib.hid (show chkL (j : Int) ll = ((decide (l.sum = many) && decide (2 ≤ many)) && chkL l.length (ll.drop (q + 1))) by rw [Hch.out, hin]; rfl)
              clear hin hsum
              by_cases he : l.sum = many
              rotate_left
              · have He := Lib.hid (show chkE ids ll = 1 by rw [Hk.out, Hs.out, decide_eq_false he]; rfl)
                have q2 : (l.sum != many) = true := by rw [bne_iff_ne]; exact he
                clear he Hs
                generalize l.sum = sm at *
                go_wp2_with fail
                go_ret
                exact ⟨by rw [He.out]; rfl, hb⟩
              by_cases h2 : many < 2
              · have He := Lib.hid (show chkE ids ll = 1 by rw [Hk.out, Hs.out, decide_eq_false (show ¬ 2 ≤ many by omega), Bool.and_false]; rfl)
                rw [he]
                clear he
                go_wp2_with fail
                go_ret
                exact ⟨by rw [He.out]; rfl, hb⟩
              have Hs2 := Lib.hid (show chkL (j : Int) ll = chkL l.length (ll.drop (q + 1)) by rw [Hs.out, decide_eq_true he, decide_eq_true (show 2 ≤ many by omega)]; rfl)
              rw [he]
              clear he
              go_wp2_with fail
              go_roundw
              case rel => exact ⟨q + 1, l.length, by omega, by go_num, rfl, by omega, Hs2.out, hb⟩
              case measure => simp [intOf]; omega
        · obtain rfl : q = nl := by omega
          rw [List.drop_of_length_le (by rw [Hnl.out]; exact Nat.le_refl _)] at hch
          by_cases h1 : many ≤ 1
          · have He := Lib.hid (show chkE ids ll = 0 by rw [Hk.out, hch, chkL, decide_eq_true h1]; rfl)
            have h1' : ¬ 1 < many := by omega
            clear hch
            go_wp2_with fail
            go_ret
            exact ⟨by rw [He.out]; rfl, hb⟩
          · have He := Lib.hid (show chkE ids ll = 1 by rw [Hk.out, hch, chkL, decide_eq_false h1]; rfl)
            have h1' : 1 < many := by omega
            clear hch
            go_wp2_with fail
            go_ret
            exact ⟨by rw [He.out]; rfl, hb⟩

end Go.Proofs.Ytjhcnhihmgpgbaa

/-
  CONTRACT of the document's Path (coterieref10).
-/
set_option linter.unusedVariables false
namespace Go.Proofs.Ytjhcnhihmgpgbaa
open Go.RowKit

def natL (l : List Int) : List Nat := l.map Int.toNat
def lvN (ll : List (List Int)) : List (List Nat) := ll.map natL
theorem in23_nat : ∀ (l : List Int), in23 l = true → two3 (natL l) ∧ (((natL l).sum : Nat) : Int) = l.sum ∧ ∀ k (hk : k < l.length), l[k] = ((natL l)[k]'(by rw [natL, List.length_map]; exact hk) : Nat)
  | [], _ => ⟨fun x hx => by simp [natL] at hx, rfl, fun k hk => by simp at hk⟩
  | x :: l, h => by
    simp only [in23, List.all_cons, Bool.and_eq_true, Bool.or_eq_true, decide_eq_true_eq] at h
    obtain ⟨h1, h2, h3⟩ := in23_nat l (by rw [in23]; exact h.2)
    refine ⟨fun y hy => ?_, ?_, fun k hk => ?_⟩
    · simp only [natL, List.map_cons, List.mem_cons] at hy
      rcases hy with rfl | hy
      · omega
      · exact h1 y hy
    · simp only [natL, List.map_cons, List.sum_cons] at h2 ⊢
      omega
    · cases k with
      | zero => simp only [natL, List.map_cons, List.getElem_cons_zero]; omega
      | succ k =>
        have := h3 k (by simpa using hk)
        simpa [natL] using this
theorem chkL_ok : ∀ (ll : List (List Int)) (many : Nat), chkL (many : Int) ll = true → lvOK many (lvN ll) ∧ ∀ l ∈ ll, in23 l = true
  | [], many, h => by
    simp only [chkL, decide_eq_true_eq] at h
    exact ⟨show many ≤ 1 by omega, fun l hl => by simp at hl⟩
  | l :: ll, many, h => by
    simp only [chkL, Bool.and_eq_true, decide_eq_true_eq] at h
    obtain ⟨⟨h1, h2, h3⟩, h4⟩ := h
    obtain ⟨n1, n2, _⟩ := in23_nat l h1
    obtain ⟨r1, r2⟩ := chkL_ok ll l.length h4
    refine ⟨⟨by omega, n1, by omega, ?_⟩, fun x hx => ?_⟩
    · rw [natL, List.length_map]; exact r1
    · rcases List.mem_cons.1 hx with rfl | hx
      · exact h1
      · exact r2 x hx
theorem chkE_zero {ids : List Int} {ll : List (List Int)} (h : chkE ids ll = 0) : chkT ids ll = true := by
  rw [chkE] at h
  split at h
  · assumption
  · cases h
theorem chkT_lv {ids : List Int} {ll : List (List Int)} (h : chkT ids ll = true) : ids.length ≤ 1000 ∧ okI ids = true ∧ lvOK ids.length (lvN ll) ∧ ∀ l ∈ ll, in23 l = true := by
  rw [chkT, Bool.and_eq_true, Bool.and_eq_true, decide_eq_true_eq] at h
  obtain ⟨r1, r2⟩ := chkL_ok ll ids.length h.2
  exact ⟨h.1.1, h.1.2, r1, r2⟩
theorem okI_at {ids : List Int} (h : okI ids = true) {i : Nat} (hi : i < ids.length) : 0 ≤ ids[i] ∧ ids[i] ≤ 1048576 ∧ (0 < i → ids.getD (i - 1) 0 < ids[i]) := by
  rw [okI, List.all_eq_true] at h
  have := h i (List.mem_range.2 hi)
  have e : ids.getD i 0 = ids[i] := by rw [List.getD_eq_getElem?_getD, List.getElem?_eq_getElem hi]; rfl
  rw [badAt, e] at this
  simp only [Bool.not_eq_true', Bool.or_eq_false_iff, Bool.and_eq_false_iff, decide_eq_false_iff_not] at this
  exact ⟨by omega, by omega, fun h0 => by omega⟩
/-- members rise -/
theorem okI_rise : ∀ (ids : List Int), okI ids = true → ids.Pairwise (· < ·) := by
  intro ids h
  rw [List.pairwise_iff_getElem]
  have H : ∀ (d i : Nat) (hi : i + d + 1 < ids.length), ids[i] < ids[i + d + 1] := by
    intro d
    induction d with
    | zero =>
      intro i hi
      have := (okI_at h hi).2.2 (by omega)
      rw [show i + 0 + 1 - 1 = i by omega, List.getD_eq_getElem?_getD, List.getElem?_eq_getElem (by omega)] at this
      exact this
    | succ d ih =>
      intro i hi
      have h1 := ih i (by omega)
      have h2 := (okI_at h hi).2.2 (by omega)
      rw [show i + (d + 1) + 1 - 1 = i + d + 1 by omega, List.getD_eq_getElem?_getD, List.getElem?_eq_getElem (by omega)] at h2
      exact Int.lt_trans h1 h2
  intro i j hi hj hij
  have := H (j - i - 1) i (by omega)
  simpa [show i + (j - i - 1) + 1 = j by omega] using this
theorem rise_bel : ∀ (ids : List Int) (id : Int), ids.Pairwise (· < ·) → isT ids id = true → ∃ h : belT ids id < ids.length, ids[belT ids id] = id
  | [], id, _, h => by simp [isT] at h
  | x :: l, id, hp, h => by
    rw [List.pairwise_cons] at hp
    by_cases hx : x < id
    · have e : belT (x :: l) id = belT l id + 1 := by simp [belT, hx]
      have h' : isT l id = true := by
        simp only [isT, List.any_cons, Bool.or_eq_true, beq_iff_eq] at h ⊢
        rcases h with h | h
        · omega
        · exact h
      obtain ⟨h1, h2⟩ := rise_bel l id hp.2 h'
      refine ⟨by rw [e, List.length_cons]; omega, ?_⟩
      simp only [e, List.getElem_cons_succ]
      exact h2
    · have hz : belT l id = 0 := by
        rw [belT, List.countP_eq_zero]
        intro y hy
        have := hp.1 y hy
        simp; omega
      have e : belT (x :: l) id = 0 := by
        rw [belT, List.countP_cons]
        rw [belT] at hz
        simp [hz, hx]
      have hxi : x = id := by
        simp only [isT, List.any_cons, Bool.or_eq_true, beq_iff_eq, List.any_eq_true] at h
        rcases h with h | ⟨y, hy, h⟩
        · exact h
        · have := hp.1 y hy
          omega
      exact ⟨by rw [e]; simp, by simp only [e, List.getElem_cons_zero]; exact hxi⟩

/-- what a tree's path answers -/
def PathPost (w : World) (ids : List Int) (ll : List (List Int)) (id : Int) (e : Ending) (w' : World) : Prop :=
  Below w.heap.size w w' ∧ ((chkT ids ll = false ∧ e = .returned (.tuple #[.slice none 0 0, .int .i64 1])) ∨
    (chkT ids ll = true ∧ isT ids id = false ∧ e = .returned (.tuple #[.slice none 0 0, .int .i64 6])) ∨
    (chkT ids ll = true ∧ isT ids id = true ∧ ∃ A c, e = .returned (.tuple #[.slice A ll.length c, .int .i64 0]) ∧ ll.length ≤ c ∧ c ≤ maxLen ∧ Rd w' w'.heap.size A ll.length ((pathL (lvN ll) (belT ids id)).map (fun n => iv (n : Nat)))))

theorem intInfo : (Try.prog.info? 3).map (fun i => (i.zero, i.size, i.bytes)) = some (some (.int .i64 0), 1, 8) := by kernel_rfl
theorem one_iv (l : List Int) : ∀ u ∈ l.map iv, u.oneCell' = true := by
  intro u hu
  obtain ⟨x, _, rfl⟩ := List.mem_map.1 hu
  rfl
theorem one_ivn (l : List Nat) : ∀ u ∈ l.map (fun n : Nat => iv (n : Int)), u.oneCell' = true := by
  intro u hu
  obtain ⟨x, _, rfl⟩ := List.mem_map.1 hu
  rfl

set_option maxRecDepth 100000 in
set_option maxHeartbeats 4000000 in
theorem PathT_any (Ai : Option Addr) (ni ci : Nat) (Al : Option Addr) (nl cl : Nat) (ids : List Int) (ll : List (List Int)) (id : Int) (w : World) (h : ShR w w.heap.size Ai ni ci Al nl cl ids ll) (hf : ∀ l ∈ ll, l.length ≤ 1000000) :
    Calls Try.prog 22 #[.agg (shV Ai ni ci Al nl cl), .int .i64 id] w (PathPost w ids ll id) := by
  obtain ⟨i0, hi0, hz0, hz1, hz2⟩ := info_parts intInfo
  have Hnl := Lib.hid h.hnl
  have hml := h.hml
  have hcl := h.hcl
  have hM := (Ms.nil w).box 25 #[.slice Ai ni ci, .slice Al nl cl]
  have hck := CheckT_any Ai ni ci Al nl cl ids ll _ ((h.below hM.old).more hM.old.size) hf
  have hfd := fun wx (hb : Below w.heap.size w wx) => Find_any Ai ni ci Al nl cl ids id wx h.hni h.hci h.hmi ((h.hids.below hb).more hb.size)
  rw [shV] at hck hfd
  obtain ⟨vs, hv, hlv⟩ := h.lvs
  have Hni := Lib.hid h.hni
  clear h
  rw [maxLen] at hml
  rw [shV]
  have Hpost := Lib.hid (show ∀ e w', Below w.heap.size w w' → ((chkT ids ll = false ∧ e = .returned (.tuple #[.slice none 0 0, .int .i64 1])) ∨
    (chkT ids ll = true ∧ isT ids id = false ∧ e = .returned (.tuple #[.slice none 0 0, .int .i64 6])) ∨
    (chkT ids ll = true ∧ isT ids id = true ∧ ∃ A c, e = .returned (.tuple #[.slice A ll.length c, .int .i64 0]) ∧ ll.length ≤ c ∧ c ≤ maxLen ∧ Rd w' w'.heap.size A ll.length ((pathL (lvN ll) (belT ids id)).map (fun n => iv (n : Nat))))) → PathPost w ids ll id e w' from fun _ _ h1 h2 => ⟨h1, h2⟩)
  generalize PathPost w ids ll id = PO at *
  go_enter Try.func22, Try.ntmps22
  go_wp2_with fail
  refine hck.mono ?_
  rintro e w1 ⟨rfl, hb1⟩
  have hM1 := hM.call hb1
  clear hM hb1 hck
  by_cases hc : chkT ids ll = true
  rotate_left
  · have hcf : chkT ids ll = false := by simpa using hc
    have he : chkE ids ll = 1 := by rw [chkE, hcf]; rfl
    rw [he]
    clear he hc
    go_wp2_with fail
    (first | refine Hpost.out _ _ ?_ ?_ | refine bodyPost_ret (results_tmp2 rfl _ _ _) rfl (Hpost.out _ _ ?_ ?_))
    · exact hM1.old
    · exact .inl ⟨hcf, rfl⟩
  have he : chkE ids ll = 0 := by rw [chkE, hc]; rfl
  rw [he]
  clear he
  have k0 := (hM1.get 0 rfl).cell (i := 0) (v := .slice Ai ni ci) rfl
  have k1 := (hM1.get 0 rfl).cell (i := 1) (v := .slice Al nl cl) rfl
  go_wp2_with fail
  refine (hfd _ hM1.old).mono ?_
  rintro e w2 ⟨rfl, hb2⟩
  have hM2 := hM1.call hb2
  clear hM1 hb2 hfd k0 k1
  have k1 := (hM2.get 0 rfl).cell (i := 1) (v := .slice Al nl cl) rfl
  by_cases his : isT ids id = true
  rotate_left
  · have hif : isT ids id = false := by simpa using his
    rw [hif]
    go_wp2_with fail
    (first | refine Hpost.out _ _ ?_ ?_ | refine bodyPost_ret (results_tmp2 rfl _ _ _) rfl (Hpost.out _ _ ?_ ?_))
    · exact hM2.old
    · exact .inr (.inl ⟨hc, hif, rfl⟩)
  rw [his]
  obtain ⟨_, hok, hlo, hin⟩ := chkT_lv hc
  obtain ⟨hlt0, _⟩ := rise_bel ids id (okI_rise ids hok) his
  have hnm : ids.length ≤ 1000 := (chkT_lv hc).1
  have hn10 : nl ≤ 10 := by
    have h1 := lvOK_high _ _ hlo (by omega)
    rw [lvN, List.length_map, Hnl.out] at h1
    rcases Nat.lt_or_ge 10 nl with h2 | h2
    · have := Nat.pow_le_pow_right (show 0 < 2 by omega) h2
      omega
    · exact h2
  have Hrest := Lib.hid (show ∀ e w', Below w.heap.size w w' → (∃ A c, e = .returned (.tuple #[.slice A ll.length c, .int .i64 0]) ∧ ll.length ≤ c ∧ c ≤ maxLen ∧ Rd w' w'.heap.size A ll.length ((pathL (lvN ll) (belT ids id)).map (fun n => iv (n : Nat)))) → PO e w' from fun e w' h1 h2 => Hpost.out e w' h1 (.inr (.inr ⟨hc, his, h2⟩)))
  clear Hpost hc his hok
  obtain ⟨p, hp⟩ : ∃ p, p = belT ids id := ⟨_, rfl⟩
  rw [← hp] at hlt0 Hrest ⊢
  have hp1000 : (p : Int) ≤ 1000 := by omega
  clear hp
  go_wp2_with fail
  go_loopw [6, 8, 26] (fun a v i wr => ∃ (q b many : Nat) (pre : List Nat) (A : Option Addr) (c : Nat), q ≤ nl ∧ i = .int .i64 (q : Int) ∧ a = .int .i64 (b : Int) ∧ b ≤ 1000000 ∧ b < many ∧ lvOK many (lvN (ll.drop q)) ∧ pathL (lvN ll) p = pre ++ pathL (lvN (ll.drop q)) b ∧ pre.length = q ∧
    v = .slice A q c ∧ wr.ownsRow (w.heap.size + 1) 3 1 (.slice A q c) q (pre.map (fun n => iv (n : Nat))) ∧ Ms w wr [(w.heap.size, 25, #[.slice Ai ni ci, .slice Al nl cl])]) (fun _ _ i _ => nl - (intOf i).toNat)
  case atStart => exact ⟨0, p, ids.length, [], none, 0, by omega, rfl, rfl, by omega, hlt0, hlo, rfl, rfl, rfl, World.ownsRow_nil _ _ _ _, hM2⟩
  case round =>
    clear hM2 k1
    obtain ⟨q, b, many, pre, A, c, hq, rfl, rfl, hb6, hbm, hlv2, hpa, hpl, rfl, hown, hM⟩ := hrel
    have hb := hM.old
    by_cases hlt : q < nl
    · have hql : q < ll.length := by rw [Hnl.out]; exact hlt
      obtain ⟨A1, c1, hvj, hc1, hm1, hrj⟩ := hlv.get hql
      obtain ⟨g, o, rfl, hgl, hcell⟩ := (hv.below hb).pos (by omega)
      have d1 := hcell q _ hvj
      have Hd := Lib.hid (show ll.drop q = ll[q] :: ll.drop (q + 1) from List.drop_eq_getElem_cons hql)
      have hlm := hf _ (List.getElem_mem hql)
      obtain ⟨n1, n2, n3⟩ := in23_nat _ (hin _ (List.getElem_mem hql))
      clear hcell hvj
      generalize ll[q] = l at *
      rw [maxLen] at hm1
      have hlv3 : lvOK many (natL l :: lvN (ll.drop (q + 1))) := by rw [Hd.out] at hlv2; exact hlv2
      obtain ⟨o1, o2, o3, o4⟩ := hlv3
      have hpa2 : pathL (lvN ll) p = pre ++ (grpT (natL l) b :: pathL (lvN (ll.drop (q + 1))) (grpT (natL l) b)) := by rw [hpa, Hd.out]; rfl
      obtain ⟨g1, g2, g3⟩ := grpT_spec (natL l) b (by omega)
      have hnl : (natL l).length = l.length := by rw [natL, List.length_map]
      clear hpa hlv2
      go_wp2_with fail
      go_loopw [6, 11] (fun a k wz => ∃ (x y : Nat), a = .int .i64 (x : Int) ∧ k = .int .i64 (y : Int) ∧ x + startT (natL l) y = b ∧ y ≤ grpT (natL l) b ∧ wz.ownsRow (w.heap.size + 1) 3 1 (.slice A q c) q (pre.map (fun n => iv (n : Nat))) ∧ Ms w wz [(w.heap.size, 25, #[.slice Ai ni ci, .slice (some ⟨g, o, none⟩) nl cl])]) (fun _ k _ => l.length - (intOf k).toNat)
      case atStart => exact ⟨b, 0, rfl, rfl, by rw [startT_zero]; omega, by omega, hown, hM⟩
      case round =>
        clear hM hown hb
        obtain ⟨x, y, rfl, rfl, hxy, hyg, hown, hM⟩ := hrel
        have hb := hM.old
        have hyl : y < l.length := by omega
        obtain ⟨gg, oo, rfl, hgg, hcell2⟩ := (hrj.below hb).pos (by omega)
        have d2 := hcell2 y (iv l[y]) (by rw [List.getElem?_map, List.getElem?_eq_getElem hyl]; rfl)
        have hny := n3 y hyl
        have hss := startT_succ (natL l) (show y < (natL l).length by omega)
        have h23 := two3_get n1 (show y < (natL l).length by omega)
        rw [iv_def, hny] at d2
        generalize (natL l)[y]'(by omega) = ny at *
        clear hcell2 hny
        by_cases hge : ny ≤ x
        · have hge' : (ny : Int) ≤ (x : Int) := by omega
          have hw1 : IntKind.i64.wrap ((x : Int) - (ny : Int)) = (x : Int) - (ny : Int) := by rw [IntKind.wrap_i64]; omega
          have hw2 : IntKind.i64.wrap ((y : Int) + 1) = (y : Int) + 1 := by rw [IntKind.wrap_i64]; omega
          have hyg2 : y + 1 ≤ grpT (natL l) b := by
            have hm2 := startT_mono (natL l) (show y + 1 ≤ y + 1 from Nat.le_refl _)
            rcases Nat.lt_or_ge (grpT (natL l) b) (y + 1) with hlt2 | hge2
            · have he : y = grpT (natL l) b := by omega
              rw [← he] at g3
              omega
            · exact hge2
          go_wp2_with fail
          go_roundw
          case rel => exact ⟨x - ny, y + 1, by congr 1; omega, by go_num, by omega, hyg2, hown, hM⟩
          case measure => simp [intOf]; omega
        · have hge' : ¬ (ny : Int) ≤ (x : Int) := by omega
          have hyy : y = grpT (natL l) b := by
            have := grpT_unique (show y < (natL l).length by omega) (show startT (natL l) y ≤ b by omega) (show b < startT (natL l) (y + 1) by omega)
            exact this.symm
          have hy6 : y ≤ 1000000 := by omega
          have hyln : y < (natL l).length := by omega
          have Hpa := Lib.hid hpa2
          have Ho4 := Lib.hid o4
          rw [← hyy] at Hpa
          clear hpa2 o4 hss h23 n1 n2 n3 o1 o2 o3 g1 g2 g3 hxy hyg hyy
          go_wp2_with (at_builtin; refine wpList_append_rd _ rfl (.tmp 44) (.tmp 46) _ rfl (w.heap.size + 1) 3 i0 _ 8 Try.underlying22 hi0 hz0 hz1 hz2 rfl (.slice A q c) q _ rfl (own_below hown ((Below.refl _ _).alloc (Nat.le_refl _) _)) (wr.heap.size + 1) (some ⟨wr.heap.size, 0, none⟩) 1 1 [iv (y : Nat)] rfl (Rd.mk_ _ _ _ rfl (by omega) rfl rfl) (one_ivn [y]) (by simp only [maxLen]; omega) (by omega) (by simp; have := hM.old.size; omega) ?_; intro v3 w3 hown3 hgr3 hat3)
          obtain ⟨A3, c3, rfl, _, _⟩ := own_form hown3
          have hM3 := (hM.allocT (.cells #[iv (y : Nat)] 3)).grownT hgr3 (fun k hk => by have := own_blockT hown k hk; omega) (fun p hp k hk => by have := own_blockT hown k hk; simp at hp; subst hp; simp; omega)
          rw [show [iv (y : Nat)] = [y].map (fun n : Nat => iv (n : Nat)) from rfl, ← List.map_append] at hown3
          go_roundw
          case rel => exact ⟨q + 1, y, (natL l).length, pre ++ [y], A3, c3, by omega, by go_num, rfl, hy6, hyln, Ho4.out, by rw [Hpa.out, List.append_assoc]; rfl, by rw [List.length_append, hpl]; rfl, rfl, hown3, hM3⟩
          case measure => simp [intOf]; omega
    · obtain rfl : q = nl := by omega
      rw [List.drop_of_length_le (by rw [Hnl.out]; exact Nat.le_refl _)] at hpa
      have hpa2 : pathL (lvN ll) p = pre := by rw [hpa]; simp [lvN, pathL]
      obtain ⟨_, _, e0, hc, hcm⟩ := own_formT hown
      injection e0 with e1 e2 e3
      subst e1 e3
      have Hr := Lib.hid (Rd.of_own hown)
      clear hpa
      go_wp2_with fail
      (first | refine Hrest.out _ _ ?_ ?_ | refine bodyPost_ret (results_tmp2 rfl _ _ _) rfl (Hrest.out _ _ ?_ ?_))
      · exact hM.old
      · rw [hpa2, Hnl.out]
        exact ⟨A, c, rfl, hc, hcm, Hr.out⟩

end Go.Proofs.Ytjhcnhihmgpgbaa

