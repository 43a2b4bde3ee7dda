import Derived.Test.YtlidhdljgnijaaaDoorM04
/-
  CONTRACTS of slices.Equal and EqualFunc (over lists of numbers), and of the program's Same (tree). Printed by gen_treepm.py.
-/
set_option linter.unusedVariables false
namespace Go.Proofs.YtlidhdljgnijaaaDoor
open Go.RowKit

theorem Equal_any (A A' : Option Addr) (k c k' c' : Nat) (l l' : List Int) (w : World) (hk : k ≤ maxLen) (hr : Rd w w.heap.size A k (l.map iv)) (hr' : Rd w w.heap.size A' k' (l'.map iv)) :
    Calls Tryd.prog 74 #[.slice A k c, .slice A' k' c'] w fun e w' => e = .returned (.bool (l == l')) ∧ Below w.heap.size w w' := by
  have hl : l.length = k := by simpa using hr.len
  have hl' : l'.length = k' := by simpa using hr'.len
  rw [maxLen] at hk
  go_enter Tryd.func74, Tryd.ntmps74
  by_cases hkk : k = k'
  rotate_left
  · have e1 : (l == l') = false := by rw [beq_eq_false_iff_ne]; intro e; subst e; omega
    have hne : ¬ (k : Int) = (k' : Int) := by omega
    go_wp2_with fail
    go_ret
    exact ⟨by rw [e1]; rfl, Below.refl _ _⟩
  subst hkk
  go_wp2_with fail
  go_loopw [13] (fun i wr => ∃ j : Nat, j ≤ k ∧ i = .int .i64 (j : Int) ∧ l.take j = l'.take j ∧ Below w.heap.size w wr) (fun i _ => k - (intOf i).toNat)
  case atStart => exact ⟨0, by omega, rfl, rfl, Below.refl _ _⟩
  case round =>
    obtain ⟨j, hj, rfl, ht, hb⟩ := hrel
    by_cases hlt : j < k
    · obtain ⟨x, hx⟩ : ∃ x, l[j]? = some x := ⟨_, List.getElem?_eq_getElem (by omega)⟩
      obtain ⟨y, hy⟩ : ∃ y, l'[j]? = some y := ⟨_, List.getElem?_eq_getElem (by omega)⟩
      have hrw := hr.below hb
      have hrw' := hr'.below hb
      obtain ⟨g, o, rfl, hg, hc⟩ := hrw.pos (by omega)
      obtain ⟨g', o', rfl, hg', hc'⟩ := hrw'.pos (by omega)
      have c1 := hc j (iv x) (by rw [List.getElem?_map, hx]; rfl)
      have c2 := hc' j (iv y) (by rw [List.getElem?_map, hy]; rfl)
      rw [iv_def] at c1 c2
      clear hc hc'
      by_cases hxy : x = y
      · have hn : (x != y) = false := by rw [bne_eq_false_iff_eq]; exact hxy
        have Hs := Lib.hid (show l.take (j + 1) = l'.take (j + 1) by
          rw [List.take_add_one, List.take_add_one, ht, hx, hy, hxy])
        clear hxy hx hy ht
        go_wp2_with fail
        go_quiet (fail)
        go_wp2_with fail
        go_roundw
        case rel => exact ⟨j + 1, by omega, by go_num, Hs.out, below_drewN hb _⟩
        case measure => simp [intOf]; omega
      · have hn : (x != y) = true := by rw [bne_iff_ne]; exact hxy
        have Hs := Lib.hid (show (l == l') = false by
          rw [beq_eq_false_iff_ne]
          rintro rfl
          rw [hx] at hy
          exact hxy (Option.some.inj hy))
        clear hxy hx hy ht
        go_wp2_with fail
        go_quiet (fail)
        go_wp2_with fail
        go_ret
        exact ⟨by rw [Hs.out]; rfl, below_drewN hb _⟩
    · obtain rfl : j = k := by omega
      go_wp2_with fail
      go_ret
      rw [List.take_of_length_le (by omega), List.take_of_length_le (by omega)] at ht
      exact ⟨by rw [ht]; simp, hb⟩

set_option maxRecDepth 100000 in
set_option maxHeartbeats 2000000 in
theorem EqualF_any (Al : Option Addr) (nl cl : Nat) (Al' : Option Addr) (nl' cl' : Nat) (vs vs' : List Value) (ll ll' : List (List Int)) (w : World) (hcl : nl ≤ cl) (hml : cl ≤ maxLen) (hcl' : nl' ≤ cl') (hml' : cl' ≤ maxLen) (hnl : ll.length = nl) (hnl' : ll'.length = nl')
    (hv : Rd w w.heap.size Al nl vs) (hlv : Lvs w w.heap.size vs ll) (hv' : Rd w w.heap.size Al' nl' vs') (hlv' : Lvs w w.heap.size vs' ll') :
    Calls Tryd.prog 75 #[.slice Al nl cl, .slice Al' nl' cl', .func (.func 74) #[] #[]] w fun e w' => e = .returned (.bool (ll == ll')) ∧ Below w.heap.size w w' := by
  have Hnl := Lib.hid hnl
  have Hnl' := Lib.hid hnl'
  rw [maxLen] at hml hml'
  clear hnl hnl'
  go_enter Tryd.func75, Tryd.ntmps75
  by_cases hnn : nl = nl'
  rotate_left
  · have hne : ¬ (nl : Int) = (nl' : Int) := by omega
    have Hf := Lib.hid (show (ll == ll') = false by
      rw [beq_eq_false_iff_ne]
      rintro rfl
      exact hnn (Hnl.out.symm.trans Hnl'.out))
    go_wp2_with fail
    go_ret
    exact ⟨by rw [Hf.out]; rfl, Below.refl _ _⟩
  subst hnn
  go_wp2_with fail
  go_loopw [17] (fun i wr => ∃ j : Nat, j ≤ nl ∧ i = .int .i64 (j : Int) ∧ ll.take j = ll'.take j ∧ Below w.heap.size w wr) (fun i _ => nl - (intOf i).toNat)
  case atStart => exact ⟨0, by omega, rfl, rfl, Below.refl _ _⟩
  case round =>
    obtain ⟨j, hj, rfl, ht, hb⟩ := hrel
    by_cases hlt : j < nl
    · have hj1 : j < ll.length := by rw [Hnl.out]; exact hlt
      have hj2 : j < ll'.length := by rw [Hnl'.out]; exact hlt
      obtain ⟨A, c, hvj, hc, hm, hrj⟩ := hlv.get hj1
      obtain ⟨A', c', hvj', hc', hm', hrj'⟩ := hlv'.get hj2
      obtain ⟨g, o, rfl, hg, hcell⟩ := (hv.below hb).pos (by omega)
      obtain ⟨g', o', rfl, hg', hcell'⟩ := (hv'.below hb).pos (by omega)
      have c1 := hcell j _ hvj
      have c2 := hcell' j _ hvj'
      have Hlj := Lib.hid (List.getElem?_eq_getElem hj1)
      have Hlj' := Lib.hid (List.getElem?_eq_getElem hj2)
      have heq := Equal_any A A' ll[j].length c ll'[j].length c' ll[j] ll'[j] wr (Nat.le_trans hc hm) ((hrj.below hb).more hb.size) ((hrj'.below hb).more hb.size)
      clear hcell hcell' hvj hvj' hrj hrj'
      generalize ll[j] = l at *
      generalize ll'[j] = l' at *
      have b0 : (j : Int) < (nl : Int) := by omega
      go_wp2_with fail
      refine heq.mono ?_
      rintro e w2 ⟨rfl, hb2⟩
      have hb3 := hb.trans (hb2.mono hb.size)
      by_cases hll : (l == l') = true
      · have Ht := Lib.hid (show ll.take (j + 1) = ll'.take (j + 1) by rw [take_one Hlj.out, take_one Hlj'.out, ht, eq_of_beq hll])
        rw [hll]
        clear ht hll
        go_wp2_with fail
        go_roundw
        case rel => exact ⟨j + 1, by omega, by go_num, Ht.out, hb3⟩
        case measure => simp [intOf]; omega
      · have hlf : (l == l') = false := by simpa using hll
        have Hf := Lib.hid (show (ll == ll') = false by
          rw [beq_eq_false_iff_ne]
          rintro rfl
          have := Hlj.out.symm.trans Hlj'.out
          exact hll (by rw [Option.some.inj this]; simp))
        rw [hlf]
        clear ht hll hlf
        go_wp2_with fail
        go_ret
        exact ⟨by rw [Hf.out]; rfl, hb3⟩
    · obtain rfl : j = nl := by omega
      rw [List.take_of_length_le (by rw [Hnl.out]; exact Nat.le_refl _), List.take_of_length_le (by rw [Hnl'.out]; exact Nat.le_refl _)] at ht
      have Hf := Lib.hid (show (ll == ll') = true by rw [ht]; simp)
      clear ht
      go_wp2_with fail
      go_ret
      exact ⟨by rw [Hf.out]; rfl, hb⟩

set_option maxRecDepth 100000 in
theorem PSame_any (Ai : Option Addr) (ni ci : Nat) (Al : Option Addr) (nl cl : Nat) (ids : List Int) (ll : List (List Int)) (Ai' : Option Addr) (ni' ci' : Nat) (Al' : Option Addr) (nl' cl' : Nat) (ids' : List Int) (ll' : List (List Int)) (w : World)
    (h : ShR w w.heap.size Ai ni ci Al nl cl ids ll) (h' : ShR w w.heap.size Ai' ni' ci' Al' nl' cl' ids' ll') :
    Calls Tryd.prog 45 #[.agg (shV Ai ni ci Al nl cl), .agg (shV Ai' ni' ci' Al' nl' cl')] w fun e w' => e = .returned (.bool (ids == ids' && ll == ll')) ∧ Below w.heap.size w w' := by
  have hM := ((Ms.nil w).box 25 (shV Ai ni ci Al nl cl)).box 25 (shV Ai' ni' ci' Al' nl' cl')
  simp only [World.size_alloc] at hM
  have hb := hM.old
  obtain ⟨vs, hv, hlv⟩ := h.lvs
  obtain ⟨vs', hv', hlv'⟩ := h'.lvs
  have heq := fun wx (hb : Below w.heap.size w wx) => Equal_any Ai Ai' ni ci ni' ci' ids ids' wx (Nat.le_trans h.hci h.hmi) ((h.hids.below hb).more hb.size) ((h'.hids.below hb).more hb.size)
  have hef := fun wx (hb : Below w.heap.size w wx) => EqualF_any Al nl cl Al' nl' cl' vs vs' ll ll' wx h.hcl h.hml h'.hcl h'.hml h.hnl h'.hnl ((hv.below hb).more hb.size) ((hlv.below hb).more hb.size) ((hv'.below hb).more hb.size) ((hlv'.below hb).more hb.size)
  have k0 := (hM.get 1 rfl).cell (i := 0) (v := .slice Ai ni ci) rfl
  have k1 := (hM.get 0 rfl).cell (i := 0) (v := .slice Ai' ni' ci') rfl
  clear h h' hv hv' hlv hlv'
  go_enter Tryd.func45, Tryd.ntmps45
  go_wp2_with fail
  refine (heq _ hM.old).mono ?_
  rintro e w1 ⟨rfl, hb1⟩
  have hM1 := hM.call hb1
  have k2 := (hM1.get 1 rfl).cell (i := 1) (v := .slice Al nl cl) rfl
  have k3 := (hM1.get 0 rfl).cell (i := 1) (v := .slice Al' nl' cl') rfl
  clear k0 k1 hM hb1 heq
  cases hs : (ids == ids')
  · have Hs := Lib.hid hs
    clear hs
    go_wp2_with fail
    go_ret
    exact ⟨by rw [Hs.out]; rfl, hM1.old⟩
  · have Hs := Lib.hid hs
    clear hs
    go_wp2_with fail
    refine (hef _ hM1.old).mono ?_
    rintro e w2 ⟨rfl, hb2⟩
    have hM2 := hM1.call hb2
    obtain ⟨t, ht⟩ : ∃ t, (ll == ll') = t := ⟨_, rfl⟩
    have Ht := Lib.hid ht
    rw [ht]
    clear ht
    go_wp2_with fail
    go_ret
    exact ⟨by rw [Hs.out, Ht.out]; rfl, hM2.old⟩

end Go.Proofs.YtlidhdljgnijaaaDoor

