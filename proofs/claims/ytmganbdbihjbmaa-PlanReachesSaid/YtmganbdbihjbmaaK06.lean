import Derived.Test.YtmganbdbihjbmaaK04
import Derived.Test.YtmganbdbihjbmaaK05
/-
  CONTRACTS of the document's Find, Same and Check (coterieref10).
-/
set_option linter.unusedVariables false
namespace Go.Proofs.Ytmganbdbihjbmaa
open Go.RowKit

theorem take_one {α : Type} {l : List α} {j : Nat} {x : α} (hx : l[j]? = some x) : l.take (j + 1) = l.take j ++ [x] := by
  rw [List.take_add_one, hx]; rfl

theorem Find_any (Ai : Option Addr) (ni ci : Nat) (Al : Option Addr) (nl cl : Nat) (ids : List Int) (id : Int) (w : World) (hni : ids.length = ni) (hci : ni ≤ ci) (hmi : ci ≤ maxLen) (h : Rd w w.heap.size Ai ni (ids.map iv)) :
    Calls Try.prog 52 #[.agg (shV Ai ni ci Al nl cl), .int .i64 id] w fun e w' => e = .returned (.tuple #[.int .i64 (belT ids id : Int), .bool (isT ids id)]) ∧ Below w.heap.size w w' := by
  have Hni := Lib.hid hni
  rw [maxLen] at hmi
  clear hni
  rw [shV]
  go_enter Try.func52, Try.ntmps52
  go_wp2_with fail
  go_loopw [6, 7, 13] (fun b t i wr => ∃ j : Nat, j ≤ ni ∧ i = .int .i64 (j : Int) ∧ b = .int .i64 (belT (ids.take j) id : Int) ∧ t = .bool (isT (ids.take j) id) ∧ Below w.heap.size w wr) (fun _ _ i _ => ni - (intOf i).toNat)
  case atStart => exact ⟨0, by omega, rfl, rfl, rfl, (Below.refl _ _).alloc (Nat.le_refl _) _⟩
  case round =>
    obtain ⟨j, hj, rfl, rfl, rfl, hb⟩ := hrel
    by_cases hlt : j < ni
    · obtain ⟨x, hx⟩ : ∃ x, ids[j]? = some x := ⟨_, List.getElem?_eq_getElem (by rw [Hni.out]; exact hlt)⟩
      obtain ⟨g, o, rfl, hg, hcell⟩ := (h.below hb).pos (by omega)
      have c1 := hcell j (iv x) (by rw [List.getElem?_map, hx]; rfl)
      rw [iv_def] at c1
      have hbl : belT (ids.take j) id ≤ j := Nat.le_trans List.countP_le_length (by rw [List.length_take]; omega)
      have Hb := Lib.hid (show belT (ids.take (j + 1)) id = belT (ids.take j) id + if x < id then 1 else 0 by
        rw [take_one hx, belT, List.countP_append]; simp [belT])
      have Ht := Lib.hid (show isT (ids.take (j + 1)) id = (isT (ids.take j) id || (x == id)) by
        rw [take_one hx, isT, List.any_append]; simp [isT])
      clear hcell hx
      generalize belT (ids.take j) id = bj at *
      generalize isT (ids.take j) id = tj at *
      have hw1 : IntKind.i64.wrap ((bj : Int) + 1) = (bj : Int) + 1 := by rw [IntKind.wrap_i64]; omega
      by_cases hxi : x < id
      · rw [if_pos hxi] at Hb
        cases tj
        · go_wp2_with fail
          go_roundw
          case rel => exact ⟨j + 1, by omega, by go_num, by rw [Hb.out]; rfl, by rw [Ht.out]; rfl, hb⟩
          case measure => simp [intOf]; omega
        · go_wp2_with fail
          go_roundw
          case rel => exact ⟨j + 1, by omega, by go_num, by rw [Hb.out]; rfl, by rw [Ht.out]; rfl, hb⟩
          case measure => simp [intOf]; omega
      · rw [if_neg hxi] at Hb
        cases tj
        · go_wp2_with fail
          go_roundw
          case rel => exact ⟨j + 1, by omega, by go_num, by rw [Hb.out]; rfl, by rw [Ht.out]; rfl, hb⟩
          case measure => simp [intOf]; omega
        · go_wp2_with fail
          go_roundw
          case rel => exact ⟨j + 1, by omega, by go_num, by rw [Hb.out]; rfl, by rw [Ht.out]; rfl, hb⟩
          case measure => simp [intOf]; omega
    · obtain rfl : j = ni := by omega
      rw [List.take_of_length_le (by rw [Hni.out]; exact Nat.le_refl _)]
      go_wp2_with fail
      exact bodyPost_ret (results_tmp2 rfl _ _ _) rfl ⟨rfl, hb⟩

set_option maxRecDepth 100000 in
theorem Same_anyT (Ai : Option Addr) (ni ci : Nat) (Al : Option Addr) (nl cl : Nat) (ids : List Int) (ll : List (List Int)) (Ai' : Option Addr) (ni' ci' : Nat) (Al' : Option Addr) (nl' cl' : Nat) (ids' : List Int) (ll' : List (List Int)) (w : World)
    (h : ShR w w.heap.size Ai ni ci Al nl cl ids ll) (h' : ShR w w.heap.size Ai' ni' ci' Al' nl' cl' ids' ll') :
    Calls Try.prog 14 #[.agg (shV Ai ni ci Al nl cl), .agg (shV Ai' ni' ci' Al' nl' cl')] w fun e w' => e = .returned (.bool (ids == ids' && ll == ll')) ∧ Below w.heap.size w w' := by
  have Hni := Lib.hid h.hni
  have Hnl := Lib.hid h.hnl
  have Hnl' := Lib.hid h'.hnl
  have hml := h.hml
  have hcl := h.hcl
  have hml' := h'.hml
  have hcl' := h'.hcl
  have hmn : ni ≤ maxLen := Nat.le_trans h.hci h.hmi
  obtain ⟨vs, hv, hlv⟩ := h.lvs
  obtain ⟨vs', hv', hlv'⟩ := h'.lvs
  have hi := h.hids
  have hi' := h'.hids
  clear h h'
  rw [maxLen] at hml hml'
  rw [shV, shV]
  have hM := ((Ms.nil w).box 25 #[.slice Ai ni ci, .slice Al nl cl]).box 25 #[.slice Ai' ni' ci', .slice Al' nl' cl']
  simp only [World.size_alloc] at hM
  go_enter Try.func14, Try.ntmps14
  go_wp2_with fail
  refine (SameInts_any Ai Ai' ni ci ni' ci' ids ids' _ hmn ((hi.below hM.old).more hM.old.size) ((hi'.below hM.old).more hM.old.size)).mono ?_
  rintro e w1 ⟨rfl, hb1⟩
  have hM1 := hM.call hb1
  clear hM hb1
  have hc0 := (hM1.get 1 rfl).cell (i := 1) (v := .slice Al nl cl) rfl
  have hc1 := (hM1.get 0 rfl).cell (i := 1) (v := .slice Al' nl' cl') rfl
  by_cases hs : (ids == ids') = false
  · have Hs := Lib.hid hs
    rw [hs]
    clear hs
    go_wp2_with fail
    go_ret
    exact ⟨by rw [Hs.out]; rfl, hM1.old⟩
  have hs' : (ids == ids') = true := by simpa using hs
  have Hs := Lib.hid hs'
  rw [hs']
  clear hs hs'
  by_cases hnn : nl = nl'
  rotate_left
  · have hne : ¬ (nl : Int) = (nl' : Int) := by omega
    have Hf := Lib.hid (show (ll == ll') = false by
      rw [beq_eq_false_iff_ne]
      rintro rfl
      exact hnn (Hnl.out.symm.trans Hnl'.out))
    go_wp2_with fail
    go_ret
    exact ⟨by rw [Hs.out, Hf.out]; rfl, hM1.old⟩
  subst hnn
  go_wp2_with fail
  go_loopw [24] (fun i wr => ∃ j : Nat, j ≤ nl ∧ i = .int .i64 (j : Int) ∧ ll.take j = ll'.take j ∧ Ms w wr [(w.heap.size + 1, 25, #[.slice Ai' ni' ci', .slice Al' nl cl']), (w.heap.size, 25, #[.slice Ai ni ci, .slice Al nl cl])]) (fun i _ => nl - (intOf i).toNat)
  case atStart => exact ⟨0, by omega, rfl, rfl, hM1⟩
  case round =>
    clear hM1 hc0 hc1
    obtain ⟨j, hj, rfl, ht, hM⟩ := hrel
    by_cases hlt : j < nl
    · have hj1 : j < ll.length := by rw [Hnl.out]; exact hlt
      have hj2 : j < ll'.length := by rw [Hnl'.out]; exact hlt
      have hb := hM.old
      obtain ⟨A, c, hvj, hc, hm, hrj⟩ := hlv.get hj1
      obtain ⟨A', c', hvj', hc', hm', hrj'⟩ := hlv'.get hj2
      obtain ⟨g, o, rfl, hg, hcell⟩ := (hv.below hb).pos (by omega)
      obtain ⟨g', o', rfl, hg', hcell'⟩ := (hv'.below hb).pos (by omega)
      have k0 := (hM.get 1 rfl).cell (i := 1) (v := .slice (some ⟨g, o, none⟩) nl cl) rfl
      have k1 := (hM.get 0 rfl).cell (i := 1) (v := .slice (some ⟨g', o', none⟩) nl cl') rfl
      have c1 := hcell j _ hvj
      have c2 := hcell' j _ hvj'
      have Hlj := Lib.hid (List.getElem?_eq_getElem hj1)
      have Hlj' := Lib.hid (List.getElem?_eq_getElem hj2)
      have hrb := (hrj.below hb).more hb.size
      have hrb' := (hrj'.below hb).more hb.size
      clear hcell hcell' hvj hvj' hrj hrj'
      generalize ll[j] = l at *
      generalize ll'[j] = l' at *
      have b0 : (j : Int) < (nl : Int) := by omega
      have b1 : (0 : Int) ≤ (j : Int) := by omega
      go_wp2_with fail
      go_still_tail 10, (by kernel_rfl)
      change wpList _ _ _ _ _ wr.drew
      clear c1 c2 k0 k1
      go_wp2_with fail
      refine (SameInts_any A A' l.length c l'.length c' l l' wr.drew (Nat.le_trans hc hm) hrb.drew hrb'.drew).mono ?_
      rintro e w2 ⟨rfl, hb2⟩
      have hM2 := hM.drew.call hb2
      clear hrb hrb' hb2 hM hb
      by_cases hll : (l == l') = true
      · have Ht := Lib.hid (show ll.take (j + 1) = ll'.take (j + 1) by rw [take_one Hlj.out, take_one Hlj'.out, ht, eq_of_beq hll])
        rw [hll]
        clear ht hll
        go_wp2_with fail
        go_roundw
        case rel => exact ⟨j + 1, by omega, by go_num, Ht.out, hM2⟩
        case measure => simp [intOf]; omega
      · have hlf : (l == l') = false := by simpa using hll
        have Hf := Lib.hid (show (ll == ll') = false by
          rw [beq_eq_false_iff_ne]
          rintro rfl
          have := Hlj.out.symm.trans Hlj'.out
          exact hll (by rw [Option.some.inj this]; simp))
        rw [hlf]
        clear ht hll hlf
        go_wp2_with fail
        go_ret
        exact ⟨by rw [Hs.out, Hf.out]; rfl, hM2.old⟩
    · obtain rfl : j = nl := by omega
      rw [List.take_of_length_le (by rw [Hnl.out]; exact Nat.le_refl _), List.take_of_length_le (by rw [Hnl'.out]; exact Nat.le_refl _)] at ht
      have Hf := Lib.hid (show (ll == ll') = true by rw [ht]; simp)
      clear ht
      go_wp2_with fail
      go_ret
      exact ⟨by rw [Hs.out, Hf.out]; rfl, hM.old⟩

end Go.Proofs.Ytmganbdbihjbmaa

/-
  CONTRACT of the document's Check (coterieref10).
-/
set_option linter.unusedVariables false
namespace Go.Proofs.Ytmganbdbihjbmaa
open Go.RowKit

/-- a member at a place that may not be there -/
def badAt (ids : List Int) (i : Nat) : Bool := decide (ids.getD i 0 < 0) || decide (1048576 < ids.getD i 0) || (decide (0 < i) && decide (ids.getD i 0 ≤ ids.getD (i - 1) 0))
def okI (ids : List Int) : Bool := (List.range ids.length).all (fun i => !badAt ids i)
def in23 (l : List Int) : Bool := l.all (fun n => decide (n = 2) || decide (n = 3))
/-- levels over so many nodes may be -/
def chkL : Int → List (List Int) → Bool
  | many, [] => decide (many ≤ 1)
  | many, l :: ls => in23 l && (decide (l.sum = many) && decide (2 ≤ many)) && chkL l.length ls
def chkT (ids : List Int) (ll : List (List Int)) : Bool := decide (ids.length ≤ 1000) && okI ids && chkL ids.length ll
def chkE (ids : List Int) (ll : List (List Int)) : Int := if chkT ids ll then 0 else 1
theorem all_range_succ (p : Nat → Bool) (j : Nat) : (List.range (j + 1)).all p = ((List.range j).all p && p j) := by rw [List.range_succ, List.all_append]; simp
theorem all_range_not {p : Nat → Bool} {j n : Nat} (h : j < n) (hp : p j = false) : (List.range n).all p = false := by
  rw [List.all_eq_false]
  exact ⟨j, List.mem_range.2 h, by simp [hp]⟩
theorem in23_sum : ∀ (l : List Int), in23 l = true → 0 ≤ l.sum ∧ l.sum ≤ 3 * l.length
  | [], _ => by simp
  | x :: l, h => by
    simp only [in23, List.all_cons, Bool.and_eq_true, Bool.or_eq_true, decide_eq_true_eq] at h
    have := in23_sum l (by rw [in23]; exact h.2)
    simp only [List.sum_cons, List.length_cons]
    omega

set_option maxRecDepth 100000 in
set_option maxHeartbeats 4000000 in
theorem CheckT_any (Ai : Option Addr) (ni ci : Nat) (Al : Option Addr) (nl cl : Nat) (ids : List Int) (ll : List (List Int)) (w : World) (h : ShR w w.heap.size Ai ni ci Al nl cl ids ll) (hf : ∀ l ∈ ll, l.length ≤ 1000000) :
    Calls Try.prog 31 #[.agg (shV Ai ni ci Al nl cl)] w fun e w' => e = .returned (.int .i64 (chkE ids ll)) ∧ Below w.heap.size w w' := by
  have Hni := Lib.hid h.hni
  have Hnl := Lib.hid h.hnl
  have hml := h.hml
  have hcl := h.hcl
  have hmi := h.hmi
  have hci := h.hci
  obtain ⟨vs, hv, hlv⟩ := h.lvs
  have hi := h.hids
  rw [maxLen] at hml hmi
  rw [shV]
  have hM := (Ms.nil w).box 25 #[.slice Ai ni ci, .slice Al nl cl]
  have Hbad := Lib.hid (show ∀ b, chkT ids ll = b → chkE ids ll = if b then 0 else 1 from fun b hb => by rw [chkE, hb])
  clear h
  go_enter Try.func31, Try.ntmps31
  by_cases h1000 : ni ≤ 1000
  rotate_left
  · have hg : (1000 : Int) < (ni : Int) := by omega
    have He := Lib.hid (Hbad.out false (by rw [chkT, Hni.out, decide_eq_false h1000]; rfl))
    go_wp2_with fail
    go_ret
    exact ⟨by rw [He.out]; rfl, hM.old⟩
  have hg : ¬ (1000 : Int) < (ni : Int) := by omega
  go_wp2_with fail
  go_loopw [18] (fun i wr => ∃ j : Nat, j ≤ ni ∧ i = .int .i64 (j : Int) ∧ (List.range j).all (fun i => !badAt ids i) = true ∧ Ms w wr [(w.heap.size, 25, #[.slice Ai ni ci, .slice Al nl cl])]) (fun i _ => ni - (intOf i).toNat)
  case atStart => exact ⟨0, by omega, rfl, rfl, hM⟩
  case round =>
    clear hM
    obtain ⟨j, hj, rfl, ht, hM⟩ := hrel
    have hb := hM.old
    by_cases hlt : j < ni
    · obtain ⟨x, hx⟩ : ∃ x, ids[j]? = some x := ⟨_, List.getElem?_eq_getElem (by rw [Hni.out]; exact hlt)⟩
      obtain ⟨g, o, rfl, hgl, hcell⟩ := (hi.below hb).pos (by omega)
      have c1 := hcell j (iv x) (by rw [List.getElem?_map, hx]; rfl)
      rw [iv_def] at c1
      have k0 := (hM.get 0 rfl).cell (i := 0) (v := .slice (some ⟨g, o, none⟩) ni ci) rfl
      have hxd : ids.getD j 0 = x := by rw [List.getD_eq_getElem?_getD, hx]; rfl
      have Hbj := Lib.hid (show badAt ids j = (decide (x < 0) || decide (1048576 < x) || (decide (0 < j) && decide (x ≤ ids.getD (j - 1) 0))) by rw [badAt, hxd])
      have Hnot := Lib.hid (show badAt ids j = true → chkE ids ll = 1 from fun hb => by
        rw [Hbad.out false (by rw [chkT, okI, all_range_not (show j < ids.length by rw [Hni.out]; exact hlt) (by rw [hb]; rfl)]; simp)]; rfl)
      have Hyes := Lib.hid (show badAt ids j = false → (List.range (j + 1)).all (fun i => !badAt ids i) = true from fun hb => by rw [all_range_succ, ht, hb]; rfl)
      by_cases hx0 : x < 0
      · have He := Lib.hid (Hnot.out (by rw [Hbj.out, decide_eq_true hx0]; rfl))
        clear ht hx hxd hcell
        go_wp2_with fail
        go_ret
        exact ⟨by rw [He.out]; rfl, hb⟩
      by_cases hx1 : 1048576 < x
      · have He := Lib.hid (Hnot.out (by rw [Hbj.out, decide_eq_true hx1, Bool.or_true]; rfl))
        clear ht hx hxd hcell
        go_wp2_with fail
        go_ret
        exact ⟨by rw [He.out]; rfl, hb⟩
      by_cases hj0 : 0 < j
      rotate_left
      · have Ht := Lib.hid (Hyes.out (by rw [Hbj.out, decide_eq_false hx0, decide_eq_false hx1, decide_eq_false hj0]; rfl))
        have hj0' : ¬ (0 : Int) < (j : Int) := by omega
        clear ht hx hxd hcell hj0
        go_wp2_with fail
        go_roundw
        case rel => exact ⟨j + 1, by omega, by go_num, Ht.out, hM⟩
        case measure => simp [intOf]; omega
      obtain ⟨y, hy⟩ : ∃ y, ids[j - 1]? = some y := ⟨_, List.getElem?_eq_getElem (by rw [Hni.out]; omega)⟩
      have c2 := hcell (j - 1) (iv y) (by rw [List.getElem?_map, hy]; rfl)
      rw [iv_def] at c2
      have hyd : ids.getD (j - 1) 0 = y := by rw [List.getD_eq_getElem?_getD, hy]; rfl
      rw [hyd] at Hbj
      have hj0' : (0 : Int) < (j : Int) := by omega
      have q0 : IntKind.i64.wrap ((j : Int) - 1) = (j : Int) - 1 := by rw [IntKind.wrap_i64]; omega
      have q1 : ((j : Int) - 1).toNat = j - 1 := by omega
      have q2 : (0 : Int) ≤ (j : Int) - 1 := by omega
      have q3 : (j : Int) - 1 < (ni : Int) := by omega
      by_cases hxy : x ≤ y
      · have He := Lib.hid (Hnot.out (by rw [Hbj.out, decide_eq_true hj0, decide_eq_true hxy]; simp))
        clear ht hx hxd hcell hy hyd hj0
        go_wp2_with fail
        go_ret
        exact ⟨by rw [He.out]; rfl, hb⟩
      · have Ht := Lib.hid (Hyes.out (by rw [Hbj.out, decide_eq_false hx0, decide_eq_false hx1, decide_eq_true hj0, decide_eq_false hxy]; rfl))
        clear ht hx hxd hcell hy hyd hj0
        go_wp2_with fail
        go_roundw
        case rel => exact ⟨j + 1, by omega, by go_num, Ht.out, hM⟩
        case measure => simp [intOf]; omega
    · obtain rfl : j = ni := by omega
      have Hk := Lib.hid (show chkE ids ll = if chkL (j : Int) ll then 0 else 1 by
        rw [Hbad.out _ rfl, chkT, okI, Hni.out, ht, decide_eq_true h1000]; rfl)
      have k0 := (hM.get 0 rfl).cell (i := 0) (v := .slice Ai j ci) rfl
      have k1 := (hM.get 0 rfl).cell (i := 1) (v := .slice Al nl cl) rfl
      have hj40 : (j : Int) ≤ 1000000 := by omega
      clear ht Hbad
      go_wp2_with fail
      go_loopw [5, 50] (fun m i wr => ∃ (q : Nat) (many : Int), q ≤ nl ∧ i = .int .i64 (q : Int) ∧ m = .int .i64 many ∧ many ≤ 1000000 ∧ chkL (j : Int) ll = chkL many (ll.drop q) ∧ Below w.heap.size w wr) (fun _ i _ => nl - (intOf i).toNat)
      case atStart => exact ⟨0, j, by omega, rfl, rfl, hj40, rfl, hb⟩
      case round =>
        clear hb hM k0 k1 hj40
        obtain ⟨q, many, hq, rfl, rfl, hmb, hch, hb⟩ := hrel
        by_cases hlt : q < nl
        · have hql : q < ll.length := by rw [Hnl.out]; exact hlt
          obtain ⟨A, c, hvj, hc, hm, hrj⟩ := hlv.get hql
          obtain ⟨g, o, rfl, hgl, hcell⟩ := (hv.below hb).pos (by omega)
          have c1 := hcell q _ hvj
          have Hd := Lib.hid (show ll.drop q = ll[q] :: ll.drop (q + 1) from List.drop_eq_getElem_cons hql)
          have hlm := hf _ (List.getElem_mem hql)
          clear hcell hvj
          generalize ll[q] = l at *
          rw [maxLen] at hm
          have Hch := Lib.hid (show chkL (j : Int) ll = (in23 l && (decide (l.sum = many) && decide (2 ≤ many)) && chkL l.length (ll.drop (q + 1))) by rw [hch, Hd.out]; rfl)
          clear hch
          go_wp2_with fail
          go_loopw [8, 56] (fun s i wz => ∃ k : Nat, k ≤ l.length ∧ i = .int .i64 (k : Int) ∧ s = .int .i64 (l.take k).sum ∧ in23 (l.take k) = true ∧ Below w.heap.size w wz) (fun _ i _ => l.length - (intOf i).toNat)
          case atStart => exact ⟨0, by omega, rfl, rfl, rfl, hb⟩
          case round =>
            clear hb
            obtain ⟨k, hk, rfl, rfl, hin, hb⟩ := hrel
            have hsum := in23_sum _ hin
            rw [List.length_take] at hsum
            by_cases hkl : k < l.length
            · obtain ⟨n, hn⟩ : ∃ n, l[k]? = some n := ⟨_, List.getElem?_eq_getElem hkl⟩
              obtain ⟨g2, o2, rfl, hg2, hcell2⟩ := (hrj.below hb).pos (by omega)
              have c2 := hcell2 k (iv n) (by rw [List.getElem?_map, hn]; rfl)
              rw [iv_def] at c2
              have Ht := Lib.hid (take_one hn)
              have Hnot := Lib.hid (show ¬ (n = 2 ∨ n = 3) → chkE ids ll = 1 from fun hne => by
                rw [Hk.out, Hch.out, show in23 l = false from all_not _ hn (by simp only [Bool.or_eq_false_iff, decide_eq_false_iff_not]; omega)]; rfl)
              clear hcell2 hn
              have hs0 : (0 : Int) ≤ (l.take k).sum ∧ (l.take k).sum ≤ 3000000 := by omega
              have Hin := Lib.hid hin
              clear hin hsum
              by_cases h2 : n = 2
              · subst h2
                have hw : IntKind.i64.wrap ((l.take k).sum + 2) = (l.take k).sum + 2 := by rw [IntKind.wrap_i64]; omega
                have Hs2 := Lib.hid (show (l.take (k + 1)).sum = (l.take k).sum + 2 by rw [Ht.out, List.sum_append]; simp)
                have Hi2 := Lib.hid (show in23 (l.take (k + 1)) = true by rw [Ht.out, in23, List.all_append, ← in23, Hin.out]; rfl)
                generalize (l.take k).sum = sm at *
                go_wp2_with fail
                go_roundw
                case rel => exact ⟨k + 1, by omega, by go_num, by rw [Hs2.out], Hi2.out, hb⟩
                case measure => simp [intOf]; omega
              by_cases h3 : n = 3
              · subst h3
                have hw : IntKind.i64.wrap ((l.take k).sum + 3) = (l.take k).sum + 3 := by rw [IntKind.wrap_i64]; omega
                have Hs2 := Lib.hid (show (l.take (k + 1)).sum = (l.take k).sum + 3 by rw [Ht.out, List.sum_append]; simp)
                have Hi2 := Lib.hid (show in23 (l.take (k + 1)) = true by rw [Ht.out, in23, List.all_append, ← in23, Hin.out]; rfl)
                generalize (l.take k).sum = sm at *
                go_wp2_with fail
                go_roundw
                case rel => exact ⟨k + 1, by omega, by go_num, by rw [Hs2.out], Hi2.out, hb⟩
                case measure => simp [intOf]; omega
              have He := Lib.hid (Hnot.out (by omega))
              have q2 : (n != 2) = true := by rw [bne_iff_ne]; exact h2
              have q3 : (n != 3) = true := by rw [bne_iff_ne]; exact h3
              clear h2 h3
              go_wp2_with fail
              go_ret
              exact ⟨by rw [He.out]; rfl, hb⟩
            · obtain rfl : k = l.length := by omega
              rw [List.take_of_length_le (Nat.le_refl _)] at hin hsum ⊢
              have Hs := Lib.hid (show chkL (j : Int) ll = ((decide (l.sum = many) && decide (2 ≤ many)) && chkL l.length (ll.drop (q + 1))) by rw [Hch.out, hin]; rfl)
              clear hin hsum
              by_cases he : l.sum = many
              rotate_left
              · have He := Lib.hid (show chkE ids ll = 1 by rw [Hk.out, Hs.out, decide_eq_false he]; rfl)
                have q2 : (l.sum != many) = true := by rw [bne_iff_ne]; exact he
                clear he Hs
                generalize l.sum = sm at *
                go_wp2_with fail
                go_ret
                exact ⟨by rw [He.out]; rfl, hb⟩
              by_cases h2 : many < 2
              · have He := Lib.hid (show chkE ids ll = 1 by rw [Hk.out, Hs.out, decide_eq_false (show ¬ 2 ≤ many by omega), Bool.and_false]; rfl)
                rw [he]
                clear he
                go_wp2_with fail
                go_ret
                exact ⟨by rw [He.out]; rfl, hb⟩
              have Hs2 := Lib.hid (show chkL (j : Int) ll = chkL l.length (ll.drop (q + 1)) by rw [Hs.out, decide_eq_true he, decide_eq_true (show 2 ≤ many by omega)]; rfl)
              rw [he]
              clear he
              go_wp2_with fail
              go_roundw
              case rel => exact ⟨q + 1, l.length, by omega, by go_num, rfl, by omega, Hs2.out, hb⟩
              case measure => simp [intOf]; omega
        · obtain rfl : q = nl := by omega
          rw [List.drop_of_length_le (by rw [Hnl.out]; exact Nat.le_refl _)] at hch
          by_cases h1 : many ≤ 1
          · have He := Lib.hid (show chkE ids ll = 0 by rw [Hk.out, hch, chkL, decide_eq_true h1]; rfl)
            have h1' : ¬ 1 < many := by omega
            clear hch
            go_wp2_with fail
            go_ret
            exact ⟨by rw [He.out]; rfl, hb⟩
          · have He := Lib.hid (show chkE ids ll = 1 by rw [Hk.out, hch, chkL, decide_eq_false h1]; rfl)
            have h1' : 1 < many := by omega
            clear hch
            go_wp2_with fail
            go_ret
            exact ⟨by rw [He.out]; rfl, hb⟩

end Go.Proofs.Ytmganbdbihjbmaa

/-
  CONTRACT of the document's Path (coterieref10).
-/
set_option linter.unusedVariables false
namespace Go.Proofs.Ytmganbdbihjbmaa
open Go.RowKit

def natL (l : List Int) : List Nat := l.map Int.toNat
def lvN (ll : List (List Int)) : List (List Nat) := ll.map natL
theorem in23_nat : ∀ (l : List Int), in23 l = true → two3 (natL l) ∧ (((natL l).sum : Nat) : Int) = l.sum ∧ ∀ k (hk : k < l.length), l[k] = ((natL l)[k]'(by rw [natL, List.length_map]; exact hk) : Nat)
  | [], _ => ⟨fun x hx => by simp [natL] at hx, rfl, fun k hk => by simp at hk⟩
  | x :: l, h => by
    simp only [in23, List.all_cons, Bool.and_eq_true, Bool.or_eq_true, decide_eq_true_eq] at h
    obtain ⟨h1, h2, h3⟩ := in23_nat l (by rw [in23]; exact h.2)
    refine ⟨fun y hy => ?_, ?_, fun k hk => ?_⟩
    · simp only [natL, List.map_cons, List.mem_cons] at hy
      rcases hy with rfl | hy
      · omega
      · exact h1 y hy
    · simp only [natL, List.map_cons, List.sum_cons] at h2 ⊢
      omega
    · cases k with
      | zero => simp only [natL, List.map_cons, List.getElem_cons_zero]; omega
      | succ k =>
        have := h3 k (by simpa using hk)
        simpa [natL] using this
theorem chkL_ok : ∀ (ll : List (List Int)) (many : Nat), chkL (many : Int) ll = true → lvOK many (lvN ll) ∧ ∀ l ∈ ll, in23 l = true
  | [], many, h => by
    simp only [chkL, decide_eq_true_eq] at h
    exact ⟨show many ≤ 1 by omega, fun l hl => by simp at hl⟩
  | l :: ll, many, h => by
    simp only [chkL, Bool.and_eq_true, decide_eq_true_eq] at h
    obtain ⟨⟨h1, h2, h3⟩, h4⟩ := h
    obtain ⟨n1, n2, _⟩ := in23_nat l h1
    obtain ⟨r1, r2⟩ := chkL_ok ll l.length h4
    refine ⟨⟨by omega, n1, by omega, ?_⟩, fun x hx => ?_⟩
    · rw [natL, List.length_map]; exact r1
    · rcases List.mem_cons.1 hx with rfl | hx
      · exact h1
      · exact r2 x hx
theorem chkE_zero {ids : List Int} {ll : List (List Int)} (h : chkE ids ll = 0) : chkT ids ll = true := by
  rw [chkE] at h
  split at h
  · assumption
  · cases h
theorem chkT_lv {ids : List Int} {ll : List (List Int)} (h : chkT ids ll = true) : ids.length ≤ 1000 ∧ okI ids = true ∧ lvOK ids.length (lvN ll) ∧ ∀ l ∈ ll, in23 l = true := by
  rw [chkT, Bool.and_eq_true, Bool.and_eq_true, decide_eq_true_eq] at h
  obtain ⟨r1, r2⟩ := chkL_ok ll ids.length h.2
  exact ⟨h.1.1, h.1.2, r1, r2⟩
theorem okI_at {ids : List Int} (h : okI ids = true) {i : Nat} (hi : i < ids.length) : 0 ≤ ids[i] ∧ ids[i] ≤ 1048576 ∧ (0 < i → ids.getD (i - 1) 0 < ids[i]) := by
  rw [okI, List.all_eq_true] at h
  have := h i (List.mem_range.2 hi)
  have e : ids.getD i 0 = ids[i] := by rw [List.getD_eq_getElem?_getD, List.getElem?_eq_getElem hi]; rfl
  rw [badAt, e] at this
  simp only [Bool.not_eq_true', Bool.or_eq_false_iff, Bool.and_eq_false_iff, decide_eq_false_iff_not] at this
  exact ⟨by omega, by omega, fun h0 => by omega⟩
/-- members rise -/
theorem okI_rise : ∀ (ids : List Int), okI ids = true → ids.Pairwise (· < ·) := by
  intro ids h
  rw [List.pairwise_iff_getElem]
  have H : ∀ (d i : Nat) (hi : i + d + 1 < ids.length), ids[i] < ids[i + d + 1] := by
    intro d
    induction d with
    | zero =>
      intro i hi
      have := (okI_at h hi).2.2 (by omega)
      rw [show i + 0 + 1 - 1 = i by omega, List.getD_eq_getElem?_getD, List.getElem?_eq_getElem (by omega)] at this
      exact this
    | succ d ih =>
      intro i hi
      have h1 := ih i (by omega)
      have h2 := (okI_at h hi).2.2 (by omega)
      rw [show i + (d + 1) + 1 - 1 = i + d + 1 by omega, List.getD_eq_getElem?_getD, List.getElem?_eq_getElem (by omega)] at h2
      exact Int.lt_trans h1 h2
  intro i j hi hj hij
  have := H (j - i - 1) i (by omega)
  simpa [show i + (j - i - 1) + 1 = j by omega] using this
theorem rise_bel : ∀ (ids : List Int) (id : Int), ids.Pairwise (· < ·) → isT ids id = true → ∃ h : belT ids id < ids.length, ids[belT ids id] = id
  | [], id, _, h => by simp [isT] at h
  | x :: l, id, hp, h => by
    rw [List.pairwise_cons] at hp
    by_cases hx : x < id
    · have e : belT (x :: l) id = belT l id + 1 := by simp [belT, hx]
      have h' : isT l id = true := by
        simp only [isT, List.any_cons, Bool.or_eq_true, beq_iff_eq] at h ⊢
        rcases h with h | h
        · omega
        · exact h
      obtain ⟨h1, h2⟩ := rise_bel l id hp.2 h'
      refine ⟨by rw [e, List.length_cons]; omega, ?_⟩
      simp only [e, List.getElem_cons_succ]
      exact h2
    · have hz : belT l id = 0 := by
        rw [belT, List.countP_eq_zero]
        intro y hy
        have := hp.1 y hy
        simp; omega
      have e : belT (x :: l) id = 0 := by
        rw [belT, List.countP_cons]
        rw [belT] at hz
        simp [hz, hx]
      have hxi : x = id := by
        simp only [isT, List.any_cons, Bool.or_eq_true, beq_iff_eq, List.any_eq_true] at h
        rcases h with h | ⟨y, hy, h⟩
        · exact h
        · have := hp.1 y hy
          omega
      exact ⟨by rw [e]; simp, by simp only [e, List.getElem_cons_zero]; exact hxi⟩

/-- what a tree's path answers -/
def PathPost (w : World) (ids : List Int) (ll : List (List Int)) (id : Int) (e : Ending) (w' : World) : Prop :=
  Below w.heap.size w w' ∧ ((chkT ids ll = false ∧ e = .returned (.tuple #[.slice none 0 0, .int .i64 1])) ∨
    (chkT ids ll = true ∧ isT ids id = false ∧ e = .returned (.tuple #[.slice none 0 0, .int .i64 6])) ∨
    (chkT ids ll = true ∧ isT ids id = true ∧ ∃ A c, e = .returned (.tuple #[.slice A ll.length c, .int .i64 0]) ∧ ll.length ≤ c ∧ c ≤ maxLen ∧ Rd w' w'.heap.size A ll.length ((pathL (lvN ll) (belT ids id)).map (fun n => iv (n : Nat)))))

theorem intInfo : (Try.prog.info? 3).map (fun i => (i.zero, i.size, i.bytes)) = some (some (.int .i64 0), 1, 8) := by kernel_rfl
theorem one_iv (l : List Int) : ∀ u ∈ l.map iv, u.oneCell' = true := by
  intro u hu
  obtain ⟨x, _, rfl⟩ := List.mem_map.1 hu
  rfl
theorem one_ivn (l : List Nat) : ∀ u ∈ l.map (fun n : Nat => iv (n : Int)), u.oneCell' = true := by
  intro u hu
  obtain ⟨x, _, rfl⟩ := List.mem_map.1 hu
  rfl

end Go.Proofs.Ytmganbdbihjbmaa

/-
  CONTRACTS of the program's small functions (tree): mayBe, members, covers, grouped, Check, Find, groupOf, neighbour.
-/
set_option linter.unusedVariables false
namespace Go.Proofs.Ytmganbdbihjbmaa
open Go.RowKit

def mayT (x : Int) : Bool := decide (0 ≤ x) && decide (x ≤ 1048576)
theorem PMayBe_any (x : Int) (w : World) : Calls Try.prog 62 #[.int .i64 x] w fun e w' => e = .returned (.bool (mayT x)) ∧ w' = w := by
  go_enter Try.func62, Try.ntmps62
  by_cases h0 : 0 ≤ x
  · go_wp2_with fail
    go_ret
    exact ⟨by rw [mayT, decide_eq_true h0]; rfl, rfl⟩
  · go_wp2_with fail
    go_ret
    exact ⟨by rw [mayT, decide_eq_false (show ¬ 0 ≤ x by omega)]; rfl, rfl⟩

theorem badAt_may {ids : List Int} {j : Nat} {x : Int} (h : ids.getD j 0 = x) : badAt ids j = (!mayT x || (decide (0 < j) && decide (x ≤ ids.getD (j - 1) 0))) := by
  rw [badAt, h, mayT]
  by_cases h0 : x < 0
  · rw [decide_eq_true h0, decide_eq_false (show ¬ 0 ≤ x by omega)]; rfl
  · rw [decide_eq_false h0, decide_eq_true (show 0 ≤ x by omega)]
    by_cases h1 : 1048576 < x
    · rw [decide_eq_true h1, decide_eq_false (show ¬ x ≤ 1048576 by omega)]; rfl
    · rw [decide_eq_false h1, decide_eq_true (show x ≤ 1048576 by omega)]; rfl

set_option maxHeartbeats 1000000 in
theorem PMembers_any (A : Option Addr) (n c : Nat) (ids : List Int) (w : World) (hc : n ≤ c) (hm : c ≤ maxLen) (h : Rd w w.heap.size A n (ids.map iv)) :
    Calls Try.prog 46 #[.slice A n c] w fun e w' => e = .returned (.bool (decide (ids.length ≤ 1000) && okI ids)) ∧ w' = w := by
  have Hni := Lib.hid (show ids.length = n by simpa using h.len)
  rw [maxLen] at hm
  go_enter Try.func46, Try.ntmps46
  by_cases h1000 : n ≤ 1000
  rotate_left
  · have hg : (1000 : Int) < (n : Int) := by omega
    have He := Lib.hid (show (decide (ids.length ≤ 1000) && okI ids) = false by rw [Hni.out, decide_eq_false h1000]; rfl)
    go_wp2_with fail
    go_ret
    exact ⟨by rw [He.out]; rfl, rfl⟩
  have hg : ¬ (1000 : Int) < (n : Int) := by omega
  have Hall := Lib.hid (show (decide (ids.length ≤ 1000) && okI ids) = okI ids by rw [Hni.out, decide_eq_true h1000]; rfl)
  go_wp2_with fail
  go_loopw [10] (fun i wr => ∃ j : Nat, j ≤ n ∧ i = .int .i64 (j : Int) ∧ (List.range j).all (fun i => !badAt ids i) = true ∧ wr = w) (fun i _ => n - (intOf i).toNat)
  case atStart => exact ⟨0, by omega, rfl, rfl, rfl⟩
  case round =>
    obtain ⟨j, hj, rfl, ht, rfl⟩ := hrel
    by_cases hlt : j < n
    · obtain ⟨x, hx⟩ : ∃ x, ids[j]? = some x := ⟨_, List.getElem?_eq_getElem (by rw [Hni.out]; exact hlt)⟩
      obtain ⟨g, o, rfl, hgl, hcell⟩ := h.pos (by omega)
      have c1 := hcell j (iv x) (by rw [List.getElem?_map, hx]; rfl)
      rw [iv_def] at c1
      have hxd : ids.getD j 0 = x := by rw [List.getD_eq_getElem?_getD, hx]; rfl
      have Hbj := Lib.hid (badAt_may hxd)
      have Hnot := Lib.hid (show badAt ids j = true → (decide (ids.length ≤ 1000) && okI ids) = false from fun hb => by
        rw [Hall.out, okI, all_range_not (show j < ids.length by rw [Hni.out]; exact hlt) (by rw [hb]; rfl)])
      have Hyes := Lib.hid (show badAt ids j = false → (List.range (j + 1)).all (fun i => !badAt ids i) = true from fun hb => by rw [all_range_succ, ht, hb]; rfl)
      clear ht hx hxd
      by_cases hx0 : mayT x = true
      rotate_left
      · have hx1 : mayT x = false := by simpa using hx0
        have He := Lib.hid (Hnot.out (by rw [Hbj.out, hx1]; rfl))
        clear hcell hx0
        go_wp2_with fail
        refine (PMayBe_any x _).mono ?_
        rintro e w1 ⟨rfl, rfl⟩
        rw [hx1]
        clear hx1
        go_wp2_with fail
        go_ret
        exact ⟨by rw [He.out]; rfl, rfl⟩
      by_cases hj0 : 0 < j
      rotate_left
      · have Ht := Lib.hid (Hyes.out (by rw [Hbj.out, hx0, decide_eq_false hj0]; rfl))
        have hj0' : ¬ (0 : Int) < (j : Int) := by omega
        clear hcell hj0
        go_wp2_with fail
        refine (PMayBe_any x _).mono ?_
        rintro e w1 ⟨rfl, rfl⟩
        rw [hx0]
        clear hx0
        go_wp2_with fail
        go_roundw
        case rel => exact ⟨j + 1, by omega, by go_num, Ht.out, trivial⟩
        case measure => simp [intOf]; omega
      obtain ⟨y, hy⟩ : ∃ y, ids[j - 1]? = some y := ⟨_, List.getElem?_eq_getElem (by rw [Hni.out]; omega)⟩
      have c2 := hcell (j - 1) (iv y) (by rw [List.getElem?_map, hy]; rfl)
      rw [iv_def] at c2
      have hyd : ids.getD (j - 1) 0 = y := by rw [List.getD_eq_getElem?_getD, hy]; rfl
      rw [hyd] at Hbj
      have hj0' : (0 : Int) < (j : Int) := by omega
      have q0 : IntKind.i64.wrap ((j : Int) - 1) = (j : Int) - 1 := by rw [IntKind.wrap_i64]; omega
      have q1 : ((j : Int) - 1).toNat = j - 1 := by omega
      have q2 : (0 : Int) ≤ (j : Int) - 1 := by omega
      have q3 : (j : Int) - 1 < (n : Int) := by omega
      clear hcell hy hyd
      by_cases hxy : x ≤ y
      · have He := Lib.hid (Hnot.out (by rw [Hbj.out, decide_eq_true hj0, decide_eq_true hxy]; simp))
        clear hj0
        go_wp2_with fail
        refine (PMayBe_any x _).mono ?_
        rintro e w1 ⟨rfl, rfl⟩
        rw [hx0]
        clear hx0
        go_wp2_with fail
        go_ret
        exact ⟨by rw [He.out]; rfl, rfl⟩
      · have Ht := Lib.hid (Hyes.out (by rw [Hbj.out, hx0, decide_eq_true hj0, decide_eq_false hxy]; rfl))
        clear hj0
        go_wp2_with fail
        refine (PMayBe_any x _).mono ?_
        rintro e w1 ⟨rfl, rfl⟩
        rw [hx0]
        clear hx0
        go_wp2_with fail
        go_roundw
        case rel => exact ⟨j + 1, by omega, by go_num, Ht.out, trivial⟩
        case measure => simp [intOf]; omega
    · obtain rfl : j = n := by omega
      have He := Lib.hid (show (decide (ids.length ≤ 1000) && okI ids) = true by rw [Hall.out, okI, Hni.out, ht])
      clear ht
      go_wp2_with fail
      go_ret
      exact ⟨by rw [He.out]; rfl, rfl⟩

set_option maxHeartbeats 1000000 in
theorem PCovers_any (A : Option Addr) (n c : Nat) (l : List Int) (many : Int) (w : World) (hc : n ≤ c) (hm : c ≤ maxLen) (hl : n ≤ 1000000) (h0 : 0 ≤ many) (h1 : many ≤ 1000000) (h : Rd w w.heap.size A n (l.map iv)) :
    Calls Try.prog 65 #[.slice A n c, .int .i64 many] w fun e w' => e = .returned (.bool (in23 l && decide (l.sum = many))) ∧ w' = w := by
  have Hni := Lib.hid (show l.length = n by simpa using h.len)
  rw [maxLen] at hm
  go_enter Try.func65, Try.ntmps65
  go_wp2_with fail
  go_loopw [1, 9] (fun s i wr => ∃ k : Nat, k ≤ n ∧ i = .int .i64 (k : Int) ∧ s = .int .i64 (many - (l.take k).sum) ∧ in23 (l.take k) = true ∧ wr = w) (fun _ i _ => n - (intOf i).toNat)
  case atStart => exact ⟨0, by omega, rfl, by simp, rfl, rfl⟩
  case round =>
    obtain ⟨k, hk, rfl, rfl, hin, rfl⟩ := hrel
    have hsum := in23_sum _ hin
    rw [List.length_take] at hsum
    by_cases hlt : k < n
    · obtain ⟨x, hx⟩ : ∃ x, l[k]? = some x := ⟨_, List.getElem?_eq_getElem (by rw [Hni.out]; exact hlt)⟩
      obtain ⟨g, o, rfl, hgl, hcell⟩ := h.pos (by omega)
      have c1 := hcell k (iv x) (by rw [List.getElem?_map, hx]; rfl)
      rw [iv_def] at c1
      have Ht := Lib.hid (take_one hx)
      have Hnot := Lib.hid (show ¬ (x = 2 ∨ x = 3) → (in23 l && decide (l.sum = many)) = false from fun hne => by
        rw [show in23 l = false from all_not _ hx (by simp only [Bool.or_eq_false_iff, decide_eq_false_iff_not]; omega)]; rfl)
      have hs0 : (0 : Int) ≤ (l.take k).sum ∧ (l.take k).sum ≤ 3000000 := by omega
      have Hin := Lib.hid hin
      clear hin hsum hcell hx
      by_cases h2 : x = 2
      · subst h2
        have hw : IntKind.i64.wrap (many - (l.take k).sum - 2) = many - (l.take k).sum - 2 := by rw [IntKind.wrap_i64]; omega
        have Hs2 := Lib.hid (show (l.take (k + 1)).sum = (l.take k).sum + 2 by rw [Ht.out, List.sum_append]; simp)
        have Hi2 := Lib.hid (show in23 (l.take (k + 1)) = true by rw [Ht.out, in23, List.all_append, ← in23, Hin.out]; rfl)
        generalize (l.take k).sum = sm at *
        go_wp2_with fail
        go_roundw
        case rel => exact ⟨k + 1, by omega, by go_num, by rw [Hs2.out]; congr 1; omega, Hi2.out, trivial⟩
        case measure => simp [intOf]; omega
      by_cases h3 : x = 3
      · subst h3
        have hw : IntKind.i64.wrap (many - (l.take k).sum - 3) = many - (l.take k).sum - 3 := by rw [IntKind.wrap_i64]; omega
        have Hs2 := Lib.hid (show (l.take (k + 1)).sum = (l.take k).sum + 3 by rw [Ht.out, List.sum_append]; simp)
        have Hi2 := Lib.hid (show in23 (l.take (k + 1)) = true by rw [Ht.out, in23, List.all_append, ← in23, Hin.out]; rfl)
        generalize (l.take k).sum = sm at *
        go_wp2_with fail
        go_roundw
        case rel => exact ⟨k + 1, by omega, by go_num, by rw [Hs2.out]; congr 1; omega, Hi2.out, trivial⟩
        case measure => simp [intOf]; omega
      have He := Lib.hid (Hnot.out (by omega))
      have q2 : (x != 2) = true := by rw [bne_iff_ne]; exact h2
      have q3 : (x != 3) = true := by rw [bne_iff_ne]; exact h3
      clear h2 h3
      go_wp2_with fail
      go_ret
      exact ⟨by rw [He.out]; rfl, rfl⟩
    · obtain rfl : k = n := by omega
      rw [List.take_of_length_le (by rw [Hni.out]; exact Nat.le_refl _)] at hin hsum ⊢
      have Hs := Lib.hid (show (in23 l && decide (l.sum = many)) = ((many - l.sum) == 0) by
        rw [hin, Bool.true_and, Bool.eq_iff_iff, decide_eq_true_eq, beq_iff_eq]; omega)
      clear hin hsum
      go_wp2_with fail
      go_ret
      exact ⟨by rw [Hs.out]; rfl, rfl⟩

theorem cov_two {l : List Int} {many : Int} (h1 : 1 ≤ many) (hi : in23 l = true) (hs : l.sum = many) : 2 ≤ many ∧ 1 ≤ (l.length : Int) := by
  match l, hi, hs with
  | [], _, hs => simp at hs; omega
  | x :: l, hi, hs =>
    simp only [in23, List.all_cons, Bool.and_eq_true, Bool.or_eq_true, decide_eq_true_eq] at hi
    have := (in23_sum l (by rw [in23]; exact hi.2)).1
    simp only [List.sum_cons] at hs
    simp only [List.length_cons]
    omega

set_option maxHeartbeats 1000000 in
theorem PGrouped_any (Al : Option Addr) (nl cl : Nat) (vs : List Value) (ll : List (List Int)) (many : Int) (w : World) (hcl : nl ≤ cl) (hml : cl ≤ maxLen) (h0 : 0 ≤ many) (h1 : many ≤ 1000000) (hf : ∀ l ∈ ll, l.length ≤ 1000000)
    (hnl : ll.length = nl) (hv : Rd w w.heap.size Al nl vs) (hlv : Lvs w w.heap.size vs ll) :
    Calls Try.prog 47 #[.slice Al nl cl, .int .i64 many] w fun e w' => e = .returned (.bool (chkL many ll)) ∧ w' = w := by
  have Hnl := Lib.hid hnl
  rw [maxLen] at hml
  clear hnl
  go_enter Try.func47, Try.ntmps47
  by_cases h2 : many < 2
  · have He := Lib.hid (show chkL many ll = ((nl : Int) == 0) by
      match ll, Hnl.out with
      | [], hn =>
        have : nl = 0 := by rw [← hn]; rfl
        subst this
        rw [chkL, decide_eq_true (show many ≤ 1 by omega)]; rfl
      | l :: ls, hn =>
        have : ¬ nl = 0 := by rw [← hn]; simp
        rw [chkL, decide_eq_false (show ¬ 2 ≤ many by omega), Bool.and_false, Bool.and_false, Bool.false_and]
        symm
        rw [beq_eq_false_iff_ne]
        omega)
    go_wp2_with fail
    go_ret
    exact ⟨by rw [He.out]; rfl, rfl⟩
  go_wp2_with fail
  go_loopw [1, 14] (fun m i wr => ∃ (q : Nat) (mq : Int), q ≤ nl ∧ i = .int .i64 (q : Int) ∧ m = .int .i64 mq ∧ 1 ≤ mq ∧ mq ≤ 1000000 ∧ chkL many ll = chkL mq (ll.drop q) ∧ wr = w) (fun _ i _ => nl - (intOf i).toNat)
  case atStart => exact ⟨0, many, by omega, rfl, rfl, by omega, h1, rfl, rfl⟩
  case round =>
    clear h0 h1 h2
    obtain ⟨q, mq, hq, rfl, rfl, hm1, hmb, hch, rfl⟩ := hrel
    by_cases hlt : q < nl
    · have hql : q < ll.length := by rw [Hnl.out]; exact hlt
      obtain ⟨A, c, hvj, hc, hm, hrj⟩ := hlv.get hql
      obtain ⟨g, o, rfl, hgl, hcell⟩ := hv.pos (by omega)
      have c1 := hcell q _ hvj
      have Hd := Lib.hid (show ll.drop q = ll[q] :: ll.drop (q + 1) from List.drop_eq_getElem_cons hql)
      have hlm := hf _ (List.getElem_mem hql)
      clear hcell hvj
      generalize ll[q] = l at *
      have Hch := Lib.hid (show chkL many ll = (in23 l && (decide (l.sum = mq) && decide (2 ≤ mq)) && chkL l.length (ll.drop (q + 1))) by rw [hch, Hd.out]; rfl)
      have Hcov := Lib.hid (fun hi hs => cov_two (l := l) hm1 hi hs)
      clear hch
      go_wp2_with fail
      refine (PCovers_any A l.length c l mq _ hc hm hlm (by omega) hmb hrj).mono ?_
      rintro e w1 ⟨rfl, rfl⟩
      by_cases hk : (in23 l && decide (l.sum = mq)) = true
      · rw [hk]
        rw [Bool.and_eq_true, decide_eq_true_eq] at hk
        obtain ⟨k2, k3⟩ := Hcov.out hk.1 hk.2
        have Ht := Lib.hid (show chkL many ll = chkL l.length (ll.drop (q + 1)) by rw [Hch.out, hk.1, decide_eq_true hk.2, decide_eq_true k2]; rfl)
        clear hk k2
        go_wp2_with fail
        go_roundw
        case rel => exact ⟨q + 1, l.length, by omega, by go_num, rfl, k3, by omega, Ht.out, trivial⟩
        case measure => simp [intOf]; omega
      · have hkf : (in23 l && decide (l.sum = mq)) = false := by simpa using hk
        have He := Lib.hid (show chkL many ll = false by rw [Hch.out, ← Bool.and_assoc, hkf]; rfl)
        rw [hkf]
        clear hk hkf
        go_wp2_with fail
        go_ret
        exact ⟨by rw [He.out]; rfl, rfl⟩
    · obtain rfl : q = nl := by omega
      rw [List.drop_of_length_le (by rw [Hnl.out]; exact Nat.le_refl _)] at hch
      have He := Lib.hid (show chkL many ll = (mq == 1) by
        rw [hch, chkL, Bool.eq_iff_iff, decide_eq_true_eq, beq_iff_eq]; omega)
      clear hch
      go_wp2_with fail
      go_ret
      exact ⟨by rw [He.out]; rfl, rfl⟩

end Go.Proofs.Ytmganbdbihjbmaa

/-
  CONTRACTS of the program's Check, Find, groupOf, neighbour (tree).
-/
set_option linter.unusedVariables false
namespace Go.Proofs.Ytmganbdbihjbmaa
open Go.RowKit

theorem PFind_any (Ai : Option Addr) (ni ci : Nat) (Al : Option Addr) (nl cl : Nat) (ids : List Int) (id : Int) (w : World) (hni : ids.length = ni) (hci : ni ≤ ci) (hmi : ci ≤ maxLen) (h : Rd w w.heap.size Ai ni (ids.map iv)) :
    Calls Try.prog 38 #[.agg (shV Ai ni ci Al nl cl), .int .i64 id] w fun e w' => e = .returned (.tuple #[.int .i64 (belT ids id : Int), .bool (isT ids id)]) ∧ Below w.heap.size w w' := by
  have Hni := Lib.hid hni
  rw [maxLen] at hmi
  clear hni
  rw [shV]
  go_enter Try.func38, Try.ntmps38
  go_wp2_with fail
  go_loopw [6, 7, 13] (fun b t i wr => ∃ j : Nat, j ≤ ni ∧ i = .int .i64 (j : Int) ∧ b = .int .i64 (belT (ids.take j) id : Int) ∧ t = .bool (isT (ids.take j) id) ∧ Below w.heap.size w wr) (fun _ _ i _ => ni - (intOf i).toNat)
  case atStart => exact ⟨0, by omega, rfl, rfl, rfl, (Below.refl _ _).alloc (Nat.le_refl _) _⟩
  case round =>
    obtain ⟨j, hj, rfl, rfl, rfl, hb⟩ := hrel
    by_cases hlt : j < ni
    · obtain ⟨x, hx⟩ : ∃ x, ids[j]? = some x := ⟨_, List.getElem?_eq_getElem (by rw [Hni.out]; exact hlt)⟩
      obtain ⟨g, o, rfl, hg, hcell⟩ := (h.below hb).pos (by omega)
      have c1 := hcell j (iv x) (by rw [List.getElem?_map, hx]; rfl)
      rw [iv_def] at c1
      have hbl : belT (ids.take j) id ≤ j := Nat.le_trans List.countP_le_length (by rw [List.length_take]; omega)
      have Hb := Lib.hid (show belT (ids.take (j + 1)) id = belT (ids.take j) id + if x < id then 1 else 0 by
        rw [take_one hx, belT, List.countP_append]; simp [belT])
      have Ht := Lib.hid (show isT (ids.take (j + 1)) id = (isT (ids.take j) id || (x == id)) by
        rw [take_one hx, isT, List.any_append]; simp [isT])
      clear hcell hx
      generalize belT (ids.take j) id = bj at *
      generalize isT (ids.take j) id = tj at *
      have hw1 : IntKind.i64.wrap ((bj : Int) + 1) = (bj : Int) + 1 := by rw [IntKind.wrap_i64]; omega
      by_cases hxi : x < id
      · rw [if_pos hxi] at Hb
        cases tj
        · go_wp2_with fail
          go_roundw
          case rel => exact ⟨j + 1, by omega, by go_num, by rw [Hb.out]; rfl, by rw [Ht.out]; rfl, hb⟩
          case measure => simp [intOf]; omega
        · go_wp2_with fail
          go_roundw
          case rel => exact ⟨j + 1, by omega, by go_num, by rw [Hb.out]; rfl, by rw [Ht.out]; rfl, hb⟩
          case measure => simp [intOf]; omega
      · rw [if_neg hxi] at Hb
        cases tj
        · go_wp2_with fail
          go_roundw
          case rel => exact ⟨j + 1, by omega, by go_num, by rw [Hb.out]; rfl, by rw [Ht.out]; rfl, hb⟩
          case measure => simp [intOf]; omega
        · go_wp2_with fail
          go_roundw
          case rel => exact ⟨j + 1, by omega, by go_num, by rw [Hb.out]; rfl, by rw [Ht.out]; rfl, hb⟩
          case measure => simp [intOf]; omega
    · obtain rfl : j = ni := by omega
      rw [List.take_of_length_le (by rw [Hni.out]; exact Nat.le_refl _)]
      go_wp2_with fail
      exact bodyPost_ret (results_tmp2 rfl _ _ _) rfl ⟨rfl, hb⟩


theorem PCheck_any (Ai : Option Addr) (ni ci : Nat) (Al : Option Addr) (nl cl : Nat) (ids : List Int) (ll : List (List Int)) (w : World) (h : ShR w w.heap.size Ai ni ci Al nl cl ids ll) (hf : ∀ l ∈ ll, l.length ≤ 1000000) (hi6 : ni ≤ 1000000) :
    Calls Try.prog 26 #[.agg (shV Ai ni ci Al nl cl)] w fun e w' => e = .returned (.int .i64 (chkE ids ll)) ∧ Below w.heap.size w w' := by
  have Hni := Lib.hid h.hni
  have hM := (Ms.nil w).box 25 #[.slice Ai ni ci, .slice Al nl cl]
  have hmem := PMembers_any Ai ni ci ids (w.alloc (.cells #[.slice Ai ni ci, .slice Al nl cl] 25)) h.hci h.hmi ((h.hids.below hM.old).more hM.old.size)
  obtain ⟨vs, hv, hlv⟩ := h.lvs
  have hgr := PGrouped_any Al nl cl vs ll (ni : Int) (w.alloc (.cells #[.slice Ai ni ci, .slice Al nl cl] 25)) h.hcl h.hml (by omega) (by omega) hf h.hnl ((hv.below hM.old).more hM.old.size) ((hlv.below hM.old).more hM.old.size)
  have Hk := Lib.hid (show chkT ids ll = ((decide (ids.length ≤ 1000) && okI ids) && chkL (ni : Int) ll) by rw [chkT, h.hni])
  clear h
  rw [shV]
  go_enter Try.func26, Try.ntmps26
  go_wp2_with fail
  refine hmem.mono ?_
  rintro e w1 ⟨rfl, rfl⟩
  by_cases h1 : (decide (ids.length ≤ 1000) && okI ids) = true
  rotate_left
  · have h1f : (decide (ids.length ≤ 1000) && okI ids) = false := by simpa using h1
    have He := Lib.hid (show chkE ids ll = 1 by rw [chkE, Hk.out, h1f]; rfl)
    rw [h1f]
    clear h1 h1f
    go_wp2_with fail
    go_ret
    exact ⟨by rw [He.out]; rfl, hM.old⟩
  have Hk2 := Lib.hid (show chkE ids ll = if chkL (ni : Int) ll then 0 else 1 by rw [chkE, Hk.out, h1]; rfl)
  rw [h1]
  clear h1
  go_wp2_with fail
  refine hgr.mono ?_
  rintro e w1 ⟨rfl, rfl⟩
  cases hb : chkL (ni : Int) ll
  · have He := Lib.hid (show chkE ids ll = 1 by rw [Hk2.out, hb]; rfl)
    clear hb
    go_wp2_with fail
    go_ret
    exact ⟨by rw [He.out]; rfl, hM.old⟩
  · have He := Lib.hid (show chkE ids ll = 0 by rw [Hk2.out, hb]; rfl)
    clear hb
    go_wp2_with fail
    go_ret
    exact ⟨by rw [He.out]; rfl, hM.old⟩

theorem startT_cons0 (l : List Nat) {k : Nat} (h : k < l.length) : startT l (k + 1) = startT l k + l[k] := startT_succ l h
theorem grpT_past : ∀ (l : List Nat) (a : Nat), l.sum ≤ a → grpT l a = l.length
  | [], _, _ => rfl
  | n :: l, a, h => by
    rw [List.sum_cons] at h
    rw [grpT_cons, if_neg (by omega), grpT_past l (a - n) (by omega), List.length_cons]

set_option maxHeartbeats 1000000 in
theorem PGroupOf_any (A : Option Addr) (n c : Nat) (l : List Int) (a : Nat) (w : World) (hc : n ≤ c) (hm : c ≤ maxLen) (hl : n ≤ 1000000) (ha : a ≤ 1000000) (hin : in23 l = true) (h : Rd w w.heap.size A n (l.map iv)) :
    Calls Try.prog 64 #[.slice A n c, .int .i64 (a : Nat)] w fun e w' => e = .returned (.int .i64 (grpT (natL l) a : Nat)) ∧ w' = w := by
  have Hni := Lib.hid (show l.length = n by simpa using h.len)
  have Hnn := Lib.hid (show (natL l).length = n by rw [natL, List.length_map]; exact Hni.out)
  obtain ⟨n1, n2, n3⟩ := in23_nat _ hin
  rw [maxLen] at hm
  clear n2 hin
  go_enter Try.func64, Try.ntmps64
  go_wp2_with fail
  go_loopw [1, 9] (fun s i wr => ∃ k x : Nat, k ≤ n ∧ i = .int .i64 (k : Int) ∧ s = .int .i64 (x : Int) ∧ x + startT (natL l) k = a ∧ wr = w) (fun _ i _ => n - (intOf i).toNat)
  case atStart => exact ⟨0, a, by omega, rfl, rfl, by rw [startT_zero]; omega, rfl⟩
  case round =>
    obtain ⟨k, x, hk, rfl, rfl, hx, rfl⟩ := hrel
    by_cases hlt : k < n
    · have hkl : k < l.length := by rw [Hni.out]; exact hlt
      have hkn : k < (natL l).length := by rw [Hnn.out]; exact hlt
      obtain ⟨g, o, rfl, hgl, hcell⟩ := h.pos (by omega)
      have c1 := hcell k (iv l[k]) (by rw [List.getElem?_map, List.getElem?_eq_getElem hkl]; rfl)
      have hny := n3 k hkl
      have hss := startT_succ (natL l) hkn
      have h23 := two3_get n1 hkn
      rw [iv_def, hny] at c1
      clear hcell hny
      have Hgu := Lib.hid (fun h2 : a < startT (natL l) (k + 1) => grpT_unique hkn (show startT (natL l) k ≤ a by omega) h2)
      generalize (natL l)[k] = ny at *
      by_cases hge : x < ny
      · have hge' : (x : Int) < (ny : Int) := by omega
        have He := Lib.hid (Hgu.out (by omega))
        clear n1 n3 h23 hss hx
        go_wp2_with fail
        go_ret
        exact ⟨by rw [He.out]; rfl, rfl⟩
      · have hge' : ¬ (x : Int) < (ny : Int) := by omega
        have hw1 : IntKind.i64.wrap ((x : Int) - (ny : Int)) = (x : Int) - (ny : Int) := by rw [IntKind.wrap_i64]; omega
        have Hx := Lib.hid hx
        have Hss := Lib.hid hss
        clear hx hss
        go_wp2_with fail
        go_roundw
        case rel => exact ⟨k + 1, x - ny, by omega, by go_num, by congr 1; omega, by have := Hx.out; have := Hss.out; omega, trivial⟩
        case measure => simp [intOf]; omega
    · obtain rfl : k = n := by omega
      have He := Lib.hid (show grpT (natL l) a = k by
        rw [grpT_past (natL l) a (by rw [← startT_all, Hnn.out]; omega), Hnn.out])
      clear hx
      go_wp2_with fail
      go_ret
      exact ⟨by rw [He.out]; rfl, rfl⟩

/-- the group that is asked by another one -/
def nbrT (l : List Nat) (k : Nat) : Nat := if startT l (grpT l k) < k then k - 1 else k + 1
theorem nbr_iff {l : List Nat} {k : Nat} (hk : k < l.sum) : startT l (grpT l k) < k ↔ (0 < k ∧ grpT l (k - 1) = grpT l k) := by
  obtain ⟨g1, g2, g3⟩ := grpT_spec l k hk
  constructor
  · intro h
    exact ⟨by omega, grpT_unique g1 (by omega) (by omega)⟩
  · rintro ⟨h1, h2⟩
    obtain ⟨j1, j2, j3⟩ := grpT_spec l (k - 1) (by omega)
    rw [h2] at j2
    omega

theorem PNeighbour_any (A : Option Addr) (n c : Nat) (l : List Int) (a : Nat) (w : World) (hc : n ≤ c) (hm : c ≤ maxLen) (hl : n ≤ 1000000) (ha : a ≤ 1000000) (hin : in23 l = true) (hs : a < (natL l).sum) (h : Rd w w.heap.size A n (l.map iv)) :
    Calls Try.prog 70 #[.slice A n c, .int .i64 (a : Nat)] w fun e w' => e = .returned (.int .i64 (nbrT (natL l) a : Nat)) ∧ w' = w := by
  have Hn := Lib.hid (nbr_iff hs)
  have hw2 : IntKind.i64.wrap ((a : Int) + 1) = (a : Int) + 1 := by rw [IntKind.wrap_i64]; omega
  clear hs
  go_enter Try.func70, Try.ntmps70
  by_cases h0 : 0 < a
  rotate_left
  · have h0' : ¬ (0 : Int) < (a : Int) := by omega
    have He := Lib.hid (show nbrT (natL l) a = a + 1 by rw [nbrT, if_neg (fun h => h0 (Hn.out.1 h).1)])
    clear h0
    go_wp2_with fail
    go_ret
    exact ⟨by rw [He.out]; rfl, rfl⟩
  have h0' : (0 : Int) < (a : Int) := by omega
  have hw1 : IntKind.i64.wrap ((a : Int) - 1) = ((a - 1 : Nat) : Int) := by rw [IntKind.wrap_i64]; omega
  have p1 := PGroupOf_any A n c l (a - 1) w hc hm hl (by omega) hin h
  have p2 := PGroupOf_any A n c l a w hc hm hl ha hin h
  have Hb := Lib.hid (show nbrT (natL l) a = if grpT (natL l) (a - 1) = grpT (natL l) a then a - 1 else a + 1 by
    rw [nbrT]
    by_cases he : grpT (natL l) (a - 1) = grpT (natL l) a
    · rw [if_pos he, if_pos (Hn.out.2 ⟨h0, he⟩)]
    · rw [if_neg he, if_neg (fun h => he (Hn.out.1 h).2)])
  clear Hn
  generalize grpT (natL l) (a - 1) = x at *
  generalize grpT (natL l) a = y at *
  go_wp2_with fail
  refine p1.mono ?_
  rintro e w1 ⟨rfl, rfl⟩
  go_wp2_with fail
  refine p2.mono ?_
  rintro e w1 ⟨rfl, rfl⟩
  by_cases hxy : x = y
  · have He := Lib.hid (show nbrT (natL l) a = a - 1 by rw [Hb.out, if_pos hxy])
    subst hxy
    clear p1 p2
    go_wp2_with fail
    go_ret
    exact ⟨by rw [He.out]; rfl, rfl⟩
  · have He := Lib.hid (show nbrT (natL l) a = a + 1 by rw [Hb.out, if_neg hxy])
    have hne : ¬ (x : Int) = (y : Int) := by omega
    clear p1 p2 hxy
    go_wp2_with fail
    go_ret
    exact ⟨by rw [He.out]; rfl, rfl⟩

end Go.Proofs.Ytmganbdbihjbmaa

/-
  CONTRACTS of slices.BinarySearch over rising numbers, and of the program's refused (tree).
-/
set_option linter.unusedVariables false
namespace Go.Proofs.Ytmganbdbihjbmaa
open Go.RowKit

theorem SNaN_any (x : Int) (w : World) : Calls Try.prog 67 #[.int .i64 x] w fun e w' => e = .returned (.bool false) ∧ w' = w := by
  have h : ∀ z : Int, (z != z) = false := fun z => by simp
  go_enter Try.func67, Try.ntmps67
  go_wp2_with fail
  go_ret
  exact ⟨rfl, rfl⟩
theorem CNaN_any (x : Int) (w : World) : Calls Try.prog 79 #[.int .i64 x] w fun e w' => e = .returned (.bool false) ∧ w' = w := by
  have h : ∀ z : Int, (z != z) = false := fun z => by simp
  go_enter Try.func79, Try.ntmps79
  go_wp2_with fail
  go_ret
  exact ⟨rfl, rfl⟩
theorem Less_any (x y : Int) (w : World) : Calls Try.prog 66 #[.int .i64 x, .int .i64 y] w fun e w' => e = .returned (.bool (decide (x < y))) ∧ w' = w := by
  go_enter Try.func66, Try.ntmps66
  go_wp2_with fail
  refine (CNaN_any x w).mono ?_
  rintro e w1 ⟨rfl, rfl⟩
  by_cases hxy : x < y
  · go_wp2_with fail
    go_ret
    exact ⟨by rw [decide_eq_true hxy]; rfl, rfl⟩
  · go_wp2_with fail
    go_ret
    exact ⟨rfl, rfl⟩

/-- in a rising list those below a number stand ahead -/
theorem rise_lt : ∀ (ids : List Int) (id : Int), ids.Pairwise (· < ·) → ∀ k (hk : k < ids.length), ids[k] < id ↔ k < belT ids id
  | [], id, _, k, hk => by simp at hk
  | x :: l, id, hp, k, hk => by
    rw [List.pairwise_cons] at hp
    by_cases hx : x < id
    · have e : belT (x :: l) id = belT l id + 1 := by simp [belT, hx]
      cases k with
      | zero => simp only [List.getElem_cons_zero, e]; omega
      | succ k =>
        have := rise_lt l id hp.2 k (by simpa using hk)
        simp only [List.getElem_cons_succ, e]
        omega
    · have e : belT (x :: l) id = 0 := by
        rw [belT, List.countP_eq_zero]
        intro y hy
        rcases List.mem_cons.1 hy with rfl | hy
        · simp; omega
        · have := hp.1 y hy
          simp; omega
      rw [e]
      cases k with
      | zero => simp only [List.getElem_cons_zero]; omega
      | succ k =>
        have := hp.1 _ (List.getElem_mem (show k < l.length by simpa using hk))
        simp only [List.getElem_cons_succ]
        omega
theorem rise_is {ids : List Int} {id : Int} (hp : ids.Pairwise (· < ·)) (hk : belT ids id < ids.length) : isT ids id = (ids[belT ids id] == id) := by
  rw [Bool.eq_iff_iff, beq_iff_eq]
  constructor
  · intro h
    exact (rise_bel ids id hp h).2
  · intro h
    rw [isT, List.any_eq_true]
    exact ⟨_, List.getElem_mem hk, by simpa using h⟩
theorem rise_end {ids : List Int} {id : Int} (hp : ids.Pairwise (· < ·)) (hk : belT ids id = ids.length) : isT ids id = false := by
  cases h : isT ids id
  · rfl
  · have := (rise_bel ids id hp h).1
    omega

set_option maxHeartbeats 1000000 in
theorem Search_any (A : Option Addr) (n c : Nat) (ids : List Int) (id : Int) (w : World) (hc : n ≤ c) (hm : c ≤ maxLen) (hn6 : n ≤ 1000000) (hp : ids.Pairwise (· < ·)) (h : Rd w w.heap.size A n (ids.map iv)) :
    Calls Try.prog 49 #[.slice A n c, .int .i64 id] w fun e w' => e = .returned (.tuple #[.int .i64 (belT ids id : Nat), .bool (isT ids id)]) ∧ w' = w := by
  have Hni := Lib.hid (show ids.length = n by simpa using h.len)
  have Hlt := Lib.hid (rise_lt ids id hp)
  have Hp := Lib.hid hp
  have hbl : belT ids id ≤ n := by rw [← Hni.out]; exact List.countP_le_length
  have His := Lib.hid (fun hk : belT ids id < ids.length => rise_is hp hk)
  have Hen := Lib.hid (fun hk : belT ids id = ids.length => rise_end hp hk)
  obtain ⟨p, hp'⟩ : ∃ p, p = belT ids id := ⟨_, rfl⟩
  obtain ⟨t, ht'⟩ : ∃ t, t = isT ids id := ⟨_, rfl⟩
  rw [← hp'] at hbl Hlt Hen ⊢
  rw [← ht'] at Hen ⊢
  have Hix := Lib.hid (fun (hk : p < ids.length) => show t = (ids[p] == id) by subst hp' ht'; exact His.out hk)
  clear hp hp' ht' His Hp
  rw [maxLen] at hm
  go_enter Try.func49, Try.ntmps49
  go_wp2_with fail
  go_loopw [7, 8] (fun i j wr => ∃ a b : Nat, i = .int .i64 (a : Int) ∧ j = .int .i64 (b : Int) ∧ a ≤ p ∧ p ≤ b ∧ b ≤ n ∧ wr = w) (fun i j _ => (intOf j).toNat - (intOf i).toNat)
  case atStart => exact ⟨0, n, rfl, rfl, by omega, hbl, Nat.le_refl _, rfl⟩
  case round =>
    obtain ⟨a, b, rfl, rfl, ha, hb, hbn, rfl⟩ := hrel
    by_cases hab : a < b
    · have hab' : (a : Int) < (b : Int) := by omega
      have w1 : IntKind.i64.wrap ((a : Int) + (b : Int)) = (a : Int) + (b : Int) := by rw [IntKind.wrap_i64]; omega
      obtain ⟨q, hq1, hq2, hq3⟩ : ∃ q : Nat, ((a : Int) + (b : Int)) / 2 = (q : Int) ∧ a ≤ q ∧ q < b := ⟨(a + b) / 2, by omega, by omega, by omega⟩
      have hqn : q < ids.length := by rw [Hni.out]; omega
      obtain ⟨g, o, rfl, hgl, hcell⟩ := h.pos (by omega)
      have c1 := hcell q (iv ids[q]) (by rw [List.getElem?_map, List.getElem?_eq_getElem hqn]; rfl)
      rw [iv_def] at c1
      have Hq := Lib.hid (Hlt.out q hqn)
      have b1 : (q : Int) < (n : Int) := by omega
      clear hcell
      generalize ids[q] = x at *
      have hw3 : IntKind.i64.wrap ((q : Int) + 1) = (q : Int) + 1 := by rw [IntKind.wrap_i64]; omega
      go_wp2_with fail
      refine (Less_any x id wr).mono ?_
      rintro e wr2 ⟨rfl, rfl⟩
      by_cases hx : x < id
      · have hqp := Hq.out.1 hx
        rw [decide_eq_true hx]
        clear hx
        go_wp2_with fail
        go_roundw
        case rel => exact ⟨q + 1, b, by go_num, rfl, by omega, by omega, by omega, trivial⟩
        case measure => simp [intOf]; omega
      · have hqp : p ≤ q := by
          rcases Nat.lt_or_ge q p with h1 | h1
          · exact absurd (Hq.out.2 h1) hx
          · exact h1
        rw [decide_eq_false hx]
        clear hx
        go_wp2_with fail
        go_roundw
        case rel => exact ⟨a, q, rfl, rfl, by omega, by omega, by omega, trivial⟩
        case measure => simp [intOf]; omega
    · obtain rfl : a = p := by omega
      obtain rfl : b = a := by omega
      by_cases hlt : b < n
      rotate_left
      · obtain rfl : b = n := by omega
        have Ht := Lib.hid (Hen.out Hni.out.symm)
        clear Hlt
        go_wp2_with fail
        exact bodyPost_ret (results_tmp2 rfl _ _ _) rfl ⟨by rw [Ht.out]; rfl, rfl⟩
      have hbl : b < ids.length := by rw [Hni.out]; exact hlt
      obtain ⟨g, o, rfl, hgl, hcell⟩ := h.pos (by omega)
      have c1 := hcell b (iv ids[b]) (by rw [List.getElem?_map, List.getElem?_eq_getElem hbl]; rfl)
      rw [iv_def] at c1
      have Ht := Lib.hid (Hix.out hbl)
      have b1 : (b : Int) < (n : Int) := by omega
      clear hcell Hlt
      generalize ids[b] = x at *
      by_cases hx : x = id
      · have Ht2 := Lib.hid (show t = true by rw [Ht.out, hx]; simp)
        subst hx
        clear Ht
        have hz : ∀ z : Int, (z == z) = true := fun z => by simp
        go_wp2_with fail
        exact bodyPost_ret (results_tmp2 rfl _ _ _) rfl ⟨by rw [Ht2.out]; rfl, rfl⟩
      · have hxf : (x == id) = false := by simpa using hx
        have Ht2 := Lib.hid (show t = false by rw [Ht.out, hxf])
        clear hx Ht
        go_wp2_with fail
        refine (SNaN_any x _).mono ?_
        rintro e wr2 ⟨rfl, rfl⟩
        go_wp2_with fail
        exact bodyPost_ret (results_tmp2 rfl _ _ _) rfl ⟨by rw [Ht2.out]; rfl, rfl⟩

/-- why a number can't be one more of these members -/
def refT (ids : List Int) (id : Int) : Int := if mayT id = false then 1 else if isT ids id = true then 7 else if 1000 ≤ ids.length then 8 else 0
set_option maxRecDepth 100000 in
theorem PRefused_any (A : Option Addr) (n c : Nat) (ids : List Int) (id : Int) (w : World) (hc : n ≤ c) (hm : c ≤ maxLen) (hn6 : n ≤ 1000000) (hp : ids.Pairwise (· < ·)) (h : Rd w w.heap.size A n (ids.map iv)) :
    Calls Try.prog 44 #[.slice A n c, .int .i64 id] w fun e w' => e = .returned (.int .i64 (refT ids id)) ∧ w' = w := by
  have Hni := Lib.hid (show ids.length = n by simpa using h.len)
  have hsr := Search_any A n c ids id w hc hm hn6 hp h
  generalize hb : belT ids id = p at hsr
  clear hb
  go_enter Try.func44, Try.ntmps44
  go_wp2_with fail
  refine (PMayBe_any id _).mono ?_
  rintro e w1 ⟨rfl, rfl⟩
  cases hmy : mayT id
  · have He := Lib.hid (show refT ids id = 1 by rw [refT, if_pos hmy])
    clear hmy
    go_wp2_with fail
    go_ret
    exact ⟨by rw [He.out]; rfl, rfl⟩
  have He0 := Lib.hid (show refT ids id = if isT ids id = true then 7 else if 1000 ≤ ids.length then 8 else 0 by rw [refT, if_neg (by rw [hmy]; simp)])
  clear hmy
  generalize isT ids id = t at *
  go_wp2_with fail
  refine hsr.mono ?_
  rintro e w1 ⟨rfl, rfl⟩
  cases t
  rotate_left
  · have He := Lib.hid (show refT ids id = 7 by rw [He0.out, if_pos rfl])
    go_wp2_with fail
    go_ret
    exact ⟨by rw [He.out]; rfl, rfl⟩
  by_cases h1 : 1000 ≤ n
  · have He := Lib.hid (show refT ids id = 8 by rw [He0.out, if_neg (by simp), Hni.out, if_pos h1])
    have h1' : (1000 : Int) ≤ (n : Int) := by omega
    go_wp2_with fail
    go_ret
    exact ⟨by rw [He.out]; rfl, rfl⟩
  · have He := Lib.hid (show refT ids id = 0 by rw [He0.out, if_neg (by simp), Hni.out, if_neg h1])
    have h1' : ¬ (1000 : Int) ≤ (n : Int) := by omega
    go_wp2_with fail
    go_ret
    exact ⟨by rw [He.out]; rfl, rfl⟩

end Go.Proofs.Ytmganbdbihjbmaa

