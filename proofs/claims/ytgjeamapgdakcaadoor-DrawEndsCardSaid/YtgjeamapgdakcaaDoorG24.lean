import Derived.Test.YtgjeamapgdakcaaDoorG06
import Derived.Lib.AppendZeros
/-
  CONTRACTS of slices.Grow and slices.Concat at lists of texts.
-/
set_option linter.unusedVariables false
namespace Go.Proofs.YtgjeamapgdakcaaDoor
open Go.RowKit

/-- lists in a list: each head reads its list -/
def Lists (w : World) (B : Nat) (hs : List Value) (Ls : List (List Value)) : Prop :=
  hs.length = Ls.length ∧ ∀ (i : Nat) (v : Value) (xs : List Value), hs[i]? = some v → Ls[i]? = some xs → ∃ A c, v = .slice A xs.length c ∧ xs.length ≤ c ∧ Rd w B A xs.length xs ∧ ∀ u ∈ xs, u.oneCell' = true
theorem Lists.below {w w' : World} {B : Nat} {hs : List Value} {Ls : List (List Value)} (h : Lists w B hs Ls) (hb : Below B w w') : Lists w' B hs Ls :=
  ⟨h.1, fun i v t hv ht => by
    obtain ⟨A, c, e, hc, hr, h1⟩ := h.2 i v t hv ht
    exact ⟨A, c, e, hc, hr.below hb, h1⟩⟩
theorem Lists.two {w : World} {B : Nat} {A A' : Option Addr} {n c n' c' : Nat} {xs ys : List Value} (h : Rd w B A n xs) (hc : n ≤ c) (h1 : ∀ u ∈ xs, u.oneCell' = true) (h' : Rd w B A' n' ys) (hc' : n' ≤ c') (h1' : ∀ u ∈ ys, u.oneCell' = true) :
    Lists w B [.slice A n c, .slice A' n' c'] [xs, ys] := by
  obtain rfl := h.len
  obtain rfl := h'.len
  refine ⟨rfl, fun i v t hv ht => ?_⟩
  rcases i with _ | _ | i
  · simp at hv ht; subst hv ht; exact ⟨A, c, rfl, hc, h, h1⟩
  · simp at hv ht; subst hv ht; exact ⟨A', c', rfl, hc', h', h1'⟩
  · simp at hv

set_option maxRecDepth 1000000 in
theorem Grow_any (n : Nat) (w : World) (h0 : 0 < n) (hn : n ≤ 1073741824) :
    Calls Tryd.prog 53 #[.slice none 0 0, .int .i64 (n : Int)] w fun e w' =>
      ∃ A c, e = .returned (.slice A 0 c) ∧ w'.ownsRow w.heap.size 45 1 (.slice A 0 c) 0 [] ∧ Below w.heap.size w w' := by
  obtain ⟨i0, hi0, hz0, hz1, hz2⟩ := info_parts textInfo
  have hrun := Lib.run_append_nil_zeros (P := Tryd.prog) w 22 3 22 45 i0 _ .i64 .i64 Tryd.underlying22 Tryd.underlying3 hi0 hz0 n h0 (by omega) (by omega) (by rw [hz2]; omega)
  have hge := grownCap_ge w n 0 45
  have hle := grownCap_le_maxLen w n 0 45 (by simp only [maxLen]; omega)
  have Hrun := Lib.hid hrun
  clear hrun
  have hp : 0 < n := h0
  go_enter Tryd.func53, Tryd.ntmps53
  go_wp2_with (at_builtin; refine Lib.wpList_append_run _ rfl (.tmp 20) (.tmp 21) _ _ rfl _ _ rfl rfl _ _ Hrun.out ?_)
  go_ret
  refine ⟨_, _, rfl, ⟨rfl, .inr ⟨w.heap.size, _, _, rfl, Nat.le_refl _, heap_alloc_new w.drew _, Nat.zero_le _, hle, ?_, rfl⟩⟩, ((Below.refl _ _).drew).alloc (Nat.le_refl _) _⟩
  simp [Builtin.zeroCells]
  omega

theorem flatV_take_succ {ts : List (List Value)} {q : Nat} {t : List Value} (h : ts[q]? = some t) : (ts.take (q + 1)).flatten = (ts.take q).flatten ++ t := by
  rw [take_succ_of h]; simp
theorem flatV_take_le (ts : List (List Value)) (q : Nat) : (ts.take q).flatten.length ≤ ts.flatten.length := by
  conv => rhs; rw [← List.take_append_drop q ts, List.flatten_append, List.length_append]
  omega

set_option maxRecDepth 1000000 in
set_option maxHeartbeats 400000 in
theorem Concat_any (As : Option Addr) (q cq : Nat) (hs : List Value) (Ls : List (List Value)) (w : World) (hq : q ≤ 1073741824) (h0 : 0 < Ls.flatten.length) (htot : Ls.flatten.length ≤ 1073741824)
    (hv : Rd w w.heap.size As q hs) (hl : Lists w w.heap.size hs Ls) :
    Calls Tryd.prog 40 #[.slice As q cq] w fun e w' =>
      ∃ A n c, e = .returned (.slice A n c) ∧ n ≤ c ∧ w'.ownsRow w.heap.size 45 1 (.slice A n c) n Ls.flatten ∧ Below w.heap.size w w' := by
  obtain ⟨i0, hi0, hz0, hz1, hz2⟩ := info_parts textInfo
  have hml : hs.length = q := hv.len
  have htl : Ls.length = q := by rw [← hl.1, hml]
  have Hml := Lib.hid hml
  have Htl := Lib.hid htl
  have Hle := Lib.hid (flatV_take_le Ls)
  clear hml htl
  go_enter Tryd.func40, Tryd.ntmps40
  go_wp2_with fail
  go_loop [3, 11] (fun x i => ∃ j : Nat, j ≤ q ∧ i = .int .i64 (j : Int) ∧ x = .int .i64 ((Ls.take j).flatten.length : Int)) (fun _ i => q - (intOf i).toNat)
  case atStart => exact ⟨0, by omega, rfl, by simp⟩
  case round =>
    obtain ⟨j, hj, rfl, rfl⟩ := hrel
    by_cases hlt : j < q
    · obtain ⟨b, o, rfl, hb, hc⟩ := hv.pos (by omega)
      obtain ⟨v, hvj⟩ : ∃ v, hs[j]? = some v := ⟨_, List.getElem?_eq_getElem (by have := Hml.out; omega)⟩
      obtain ⟨t, htj⟩ : ∃ t, Ls[j]? = some t := ⟨_, List.getElem?_eq_getElem (by have := Htl.out; omega)⟩
      obtain ⟨Ax, cx, rfl, hcx, hrx, h1x⟩ := hl.2 j v t hvj htj
      have hcell := hc j _ hvj
      have hle1 := Hle.out (j + 1)
      rw [flatV_take_succ htj, List.length_append] at hle1
      have Hsn := Lib.hid (show (Ls.take (j + 1)).flatten.length = (Ls.take j).flatten.length + t.length by rw [flatV_take_succ htj, List.length_append])
      clear hvj htj hc h1x
      generalize hg : (Ls.take j).flatten.length = y at *
      clear hg
      go_wp2_with fail
      go_round
      case rel => exact ⟨j + 1, by omega, by go_num, by rw [Hsn.out]; go_num⟩
      case measure => simp [intOf]; omega
    · obtain rfl : j = q := by omega
      have hall : Ls.take j = Ls := List.take_of_length_le (by have := Htl.out; omega)
      rw [hall]
      clear hall
      generalize hT : Ls.flatten.length = T at *
      have HT := Lib.hid hT
      clear hT
      go_wp2_with (go_at_call 53; refine (Grow_any T _ h0 htot).mono ?_; rintro e w1 ⟨A1, c1, rfl, hown1, hb1⟩)
      go_loopw [6, 27] (fun v i wr => ∃ p n : Nat, p ≤ j ∧ i = .int .i64 (p : Int) ∧ wr.ownsRow w.heap.size 45 1 v n (Ls.take p).flatten ∧ Below w.heap.size w wr) (fun _ i _ => j - (intOf i).toNat)
      case atStart => exact ⟨0, 0, by omega, rfl, by simpa using hown1, hb1⟩
      case round =>
        obtain ⟨p, n, hp, rfl, hown2, hbel2⟩ := hrel
        have hsz := hbel2.size
        have hn : n ≤ 1073741824 := by
          have h1 := hown2.1
          have h2 := Hle.out p
          omega
        by_cases hlt : p < j
        · obtain ⟨b, o, rfl, hb, hc⟩ := (hv.below hbel2).pos (by omega)
          obtain ⟨v, hvj⟩ : ∃ v, hs[p]? = some v := ⟨_, List.getElem?_eq_getElem (by have := Hml.out; omega)⟩
          obtain ⟨t, htj⟩ : ∃ t, Ls[p]? = some t := ⟨_, List.getElem?_eq_getElem (by have := Htl.out; omega)⟩
          obtain ⟨Ax, cx, rfl, hcx, hrx, h1x⟩ := (hl.below hbel2).2 p v t hvj htj
          have hcell := hc p _ hvj
          have hnt : n + t.length ≤ 1073741824 := by
            have h1 := hown2.1
            have h2 := Hle.out (p + 1)
            rw [flatV_take_succ htj, List.length_append] at h2
            omega
          have Hsn := Lib.hid (flatV_take_succ htj)
          have H1x := Lib.hid h1x
          clear hvj htj hc h1x
          obtain ⟨A3, c3, rfl, _, _⟩ := own_form hown2
          go_wp2_with (at_builtin; refine wpList_append_rd _ rfl (.tmp 31) (.tmp 32) _ rfl w.heap.size 45 i0 _ 24 Tryd.underlying22 hi0 hz0 hz1 hz2 rfl (.slice A3 n c3) n _ rfl hown2 w.heap.size Ax t.length cx t rfl hrx H1x.out (by simp only [maxLen]; omega) (by omega) hsz ?_; intro v5 w5 hown5 hgr5 hat5)
          go_roundw
          case rel =>
            refine ⟨p + 1, n + t.length, by omega, by go_num, ?_, ?_⟩
            · rw [Hsn.out]
              exact hown5
            · exact hbel2.grown hgr5 hsz (fun g hg => (hown2.lt g hg).1)
          case measure => simp [intOf]; omega
        · obtain rfl : p = j := by omega
          obtain ⟨A3, c3, rfl, hc3, _⟩ := own_form hown2
          go_wp2_with fail
          go_ret
          refine ⟨A3, n, c3, rfl, hc3, ?_, hbel2⟩
          have e : Ls.take p = Ls := List.take_of_length_le (by have := Htl.out; omega)
          rw [e] at hown2
          exact hown2

end Go.Proofs.YtgjeamapgdakcaaDoor

