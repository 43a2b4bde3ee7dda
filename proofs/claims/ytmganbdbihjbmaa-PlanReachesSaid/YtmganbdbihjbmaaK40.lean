import Derived.Test.YtmganbdbihjbmaaK32
/-
  THE WALK of coterieref12's Same (layer 12).
-/
set_option linter.unusedVariables false
namespace Go.Proofs.Ytmganbdbihjbmaa
open Go.RowKit

/-- are two plans the same -/
def samePl (ks ks' : List Int) (ss ss' : List SI) : Bool := ks == ks' && ss == ss'
theorem sPl_len {ks ks' : List Int} {ss ss' : List SI} (h : ss.length ≠ ss'.length) : samePl ks ks' ss ss' = false := by
  rw [samePl, Bool.and_eq_false_iff]
  exact .inr (by rw [beq_eq_false_iff_ne]; intro e; exact h (by rw [e]))
theorem sPl_at {ks ks' : List Int} {ss ss' : List SI} {j : Nat} {x y : SI} (hx : ss[j]? = some x) (hy : ss'[j]? = some y) (h : x ≠ y) : samePl ks ks' ss ss' = false := by
  rw [samePl, Bool.and_eq_false_iff]
  exact .inr (by rw [beq_eq_false_iff_ne]; intro e; subst e; rw [hx] at hy; exact h (Option.some.inj hy))

set_option maxRecDepth 100000 in
set_option maxHeartbeats 4000000 in
theorem Same12_any (Ak : Option Addr) (nk ck : Nat) (As : Option Addr) (ns cs : Nat) (ks : List Int) (ss : List SI) (Ak' : Option Addr) (nk' ck' : Nat) (As' : Option Addr) (ns' cs' : Nat) (ks' : List Int) (ss' : List SI) (w : World)
    (h : PlR w w.heap.size Ak nk ck As ns cs ks ss) (h' : PlR w w.heap.size Ak' nk' ck' As' ns' cs' ks' ss') :
    Calls Try.prog 16 #[.agg (plV Ak nk ck As ns cs), .agg (plV Ak' nk' ck' As' ns' cs')] w fun e w' => e = .returned (.bool (samePl ks ks' ss ss')) ∧ Below w.heap.size w w' := by
  have hM0 := ((Ms.nil w).box 28 (plV Ak nk ck As ns cs)).box 28 (plV Ak' nk' ck' As' ns' cs')
  simp only [World.size_alloc] at hM0
  have k0 := (hM0.get 1 rfl).cell (i := 0) (v := .slice Ak nk ck) rfl
  have k0' := (hM0.get 0 rfl).cell (i := 0) (v := .slice Ak' nk' ck') rfl
  have Hl := Lib.hid h.steps.len
  have Hl' := Lib.hid h'.steps.len
  have hcap := h.steps.cap
  have hcap' := h'.steps.cap
  have hsame := fun wx (hb : Below w.heap.size w wx) => SameInts_any Ak Ak' nk ck nk' ck' ks ks' wx (Nat.le_trans h.kcap.1 h.kcap.2) ((h.keep.below hb).more hb.size) ((h'.keep.below hb).more hb.size)
  rw [maxLen] at hcap hcap'
  go_enter Try.func16, Try.ntmps16
  go_wp2_with fail
  refine (hsame _ hM0.old).mono ?_
  rintro e w1 ⟨rfl, hb1⟩
  have hM1 := hM0.call hb1
  clear hM0 k0 k0' hb1 hsame
  have k1 := (hM1.get 1 rfl).cell (i := 1) (v := .slice As ns cs) rfl
  have k1' := (hM1.get 0 rfl).cell (i := 1) (v := .slice As' ns' cs') rfl
  by_cases hk : ks = ks'
  rotate_left
  · have He := Lib.hid (show samePl ks ks' ss ss' = false by rw [samePl, beq_eq_false_iff_ne.2 hk]; rfl)
    have e1 : (ks == ks') = false := beq_eq_false_iff_ne.2 hk
    have hold := hM1.old
    rw [e1]
    clear hM1
    go_wp2_with fail
    go_ret
    exact ⟨by rw [He.out]; rfl, hold⟩
  have e1 : (ks == ks') = true := by simpa using hk
  rw [e1]
  have hold := hM1.old
  by_cases hn : ns = ns'
  rotate_left
  · have He := Lib.hid (show samePl ks ks' ss ss' = false from sPl_len (by rw [Hl.out, Hl'.out]; exact hn))
    have e2 : ¬ (ns : Int) = (ns' : Int) := by omega
    have e3 : ((ns : Int) != (ns' : Int)) = true := by simpa using e2
    clear hM1
    go_wp2_with fail
    go_ret
    exact ⟨by rw [He.out]; rfl, hold⟩
  subst hn
  have HM1 := Lib.hid hM1
  clear hM1 e1
  go_wp2_with fail
  clear hold
  go_loopw [26] (fun v26 wx => ∃ j : Nat, j ≤ ns ∧ v26 = .int .i64 (j : Int) ∧ ss.take j = ss'.take j ∧ Ms w wx [(w.heap.size + 1, 28, plV Ak' nk' ck' As' ns cs'), (w.heap.size, 28, plV Ak nk ck As ns cs)]) (fun v26 _ => ns - (intOf v26).toNat)
  case atStart => exact ⟨0, by omega, rfl, rfl, HM1.out⟩
  case round =>
    clear HM1 k1 k1'
    obtain ⟨j, hj, rfl, ht, hM⟩ := hrel
    have hold := hM.old
    have k1 := (hM.get 1 rfl).cell (i := 1) (v := .slice As ns cs) rfl
    have k1' := (hM.get 0 rfl).cell (i := 1) (v := .slice As' ns cs') rfl
    by_cases hjn : j < ns
    · obtain ⟨x, hx⟩ : ∃ x, ss[j]? = some x := ⟨_, List.getElem?_eq_getElem (by rw [Hl.out]; exact hjn)⟩
      obtain ⟨y, hy⟩ : ∃ y, ss'[j]? = some y := ⟨_, List.getElem?_eq_getElem (by rw [Hl'.out]; exact hjn)⟩
      obtain ⟨bA, oA, uA, cA, rfl, hbA, hrA0, h3A, h4A, h5A⟩ := h.steps.told j _ hx
      have hrA : wr.rangeAt bA (oA + j * 3) (siC x (.slice uA x.send.length cA)) := fun k v hv => by rw [hold.cell (p := ⟨bA, oA + j * 3 + k, none⟩) hbA]; exact hrA0 k v hv
      obtain ⟨wA, hwA⟩ : ∃ wA, wA = wr := ⟨_, rfl⟩
      subst hwA
      have zj : (j : Int) < (ns : Int) := by omega
      have hP := hM.put 51 zS (siC x (.slice uA x.send.length cA)).toArray
      go_upto_region 7 with (first
        | ((with_reducible show wpList _ _ _ (⟨some 33, _, _, _, _, _⟩ :: _) _ _); refine wpList_load_midG (by kernel_rfl) 51 (.tmp 32) rfl bA (oA + j * 3) rfl (siC x (.slice uA x.send.length cA)) _ hrA Try.underlying51 rfl stInfo2 ?_)
        | ((with_reducible show wpList _ _ _ (⟨none, Op.store 51 _ _, _, _, _, _⟩ :: _) _ _); refine wpList_store_row rfl 51 (.tmp 6) (.tmp 33) rfl wA.heap.size (siC x (.slice uA x.send.length cA)).toArray rfl rfl 51 zS (RowC.new _ _ _) stInfo2 rfl (by simp [siC, Value.oneCell']) ?_))
      try simp only [Act.put]
      obtain ⟨gA, hgA⟩ : ∃ gA, gA = wA.heap.size := ⟨_, rfl⟩
      rw [← hgA] at hP ⊢
      refine wp_gen (fun wx => Ms w wx [(gA, 51, (siC x (.slice uA x.send.length cA)).toArray), (w.heap.size + 1, 28, plV Ak' nk' ck' As' ns cs'), (w.heap.size, 28, plV Ak nk ck (some ⟨bA, oA, none⟩) ns cs)]) hP ?_
      clear hP hrA hrA0 hM k1 k1' hold hgA hbA
      rintro wB hM
      have hold := hM.old
      have k1' := (hM.get 1 rfl).cell (i := 1) (v := .slice As' ns cs') rfl
      obtain ⟨bB, oB, uB, cB, rfl, hbB, hrB0, h3B, h4B, h5B⟩ := h'.steps.told j _ hy
      have hrB : wB.rangeAt bB (oB + j * 3) (siC y (.slice uB y.send.length cB)) := fun k v hv => by rw [hold.cell (p := ⟨bB, oB + j * 3 + k, none⟩) hbB]; exact hrB0 k v hv
      have hP := hM.put 51 zS (siC y (.slice uB y.send.length cB)).toArray
      go_upto_region 8 with (first
        | ((with_reducible show wpList _ _ _ (⟨some 38, _, _, _, _, _⟩ :: _) _ _); refine wpList_load_midG (by kernel_rfl) 51 (.tmp 37) rfl bB (oB + j * 3) rfl (siC y (.slice uB y.send.length cB)) _ hrB Try.underlying51 rfl stInfo2 ?_)
        | ((with_reducible show wpList _ _ _ (⟨none, Op.store 51 _ _, _, _, _, _⟩ :: _) _ _); refine wpList_store_row rfl 51 (.tmp 7) (.tmp 38) rfl wB.heap.size (siC y (.slice uB y.send.length cB)).toArray rfl rfl 51 zS (RowC.new _ _ _) stInfo2 rfl (by simp [siC, Value.oneCell']) ?_))
      try simp only [Act.put]
      obtain ⟨gB, hgB⟩ : ∃ gB, gB = wB.heap.size := ⟨_, rfl⟩
      rw [← hgB] at hP ⊢
      refine wp_gen (fun wx => Ms w wx [(gB, 51, (siC y (.slice uB y.send.length cB)).toArray), (gA, 51, (siC x (.slice uA x.send.length cA)).toArray), (w.heap.size + 1, 28, plV Ak' nk' ck' (some ⟨bB, oB, none⟩) ns cs'), (w.heap.size, 28, plV Ak nk ck (some ⟨bA, oA, none⟩) ns cs)]) hP ?_
      clear hP hrB hrB0 hM k1' hold hgB hbB
      rintro wC hM
      have hold := hM.old
      have a0 := (hM.get 1 rfl).cell (i := 0) (v := .int .i64 x.node) rfl
      have a1 := (hM.get 1 rfl).cell (i := 1) (v := .int .i64 x.from_) rfl
      have a2 := (hM.get 1 rfl).cell (i := 2) (v := .slice uA x.send.length cA) rfl
      have b0 := (hM.get 0 rfl).cell (i := 0) (v := .int .i64 y.node) rfl
      have b1 := (hM.get 0 rfl).cell (i := 1) (v := .int .i64 y.from_) rfl
      have b2 := (hM.get 0 rfl).cell (i := 2) (v := .slice uB y.send.length cB) rfl
      have Hne := Lib.hid (fun hne => sPl_at (ks := ks) (ks' := ks') hx hy hne)
      have Hst := Lib.hid (show x = y → ss.take (j + 1) = ss'.take (j + 1) from fun e => by rw [List.take_add_one, List.take_add_one, ht, hx, hy, e])
      have hsame := SameInts_any uA uB x.send.length cA y.send.length cB x.send y.send wC (Nat.le_trans h3A h4A) ((h5A.below hold).more hold.size) ((h5B.below hold).more hold.size)
      have HM := Lib.hid hM
      clear hM ht hx hy h5A h5B
      by_cases hn1 : x.node = y.node
      rotate_left
      · have z1 : (x.node != y.node) = true := by simpa using hn1
        have He := Lib.hid (Hne.out fun e => hn1 (by rw [e]))
        clear hsame
        go_wp2_with fail
        go_ret
        exact ⟨by rw [He.out]; rfl, hold⟩
      have z1 : (x.node != y.node) = false := by simpa using hn1
      by_cases hf1 : x.from_ = y.from_
      rotate_left
      · have z2 : (x.from_ != y.from_) = true := by simpa using hf1
        have He := Lib.hid (Hne.out fun e => hf1 (by rw [e]))
        have Hn1 := Lib.hid hn1
        clear hsame hn1
        go_wp2_with fail
        go_ret
        exact ⟨by rw [He.out]; rfl, hold⟩
      have z2 : (x.from_ != y.from_) = false := by simpa using hf1
      have Hxy := Lib.hid (show x.send = y.send → x = y from fun e => by cases x; cases y; simp_all)
      clear hn1 hf1
      go_wp2_with fail
      refine hsame.mono ?_
      rintro e wD ⟨rfl, hbD⟩
      have hM2 := HM.out.call hbD
      have hold2 := hM2.old
      clear hsame
      by_cases hse : x.send = y.send
      · have z3 : (x.send == y.send) = true := by simpa using hse
        rw [z3]
        have Ht2 := Lib.hid (Hst.out (Hxy.out hse))
        clear hse
        go_wp2_with fail
        go_roundw
        case rel => exact ⟨j + 1, by omega, by go_num, Ht2.out, ⟨hold2, fun p hp => hM2.rows p (by simp only [List.mem_cons] at hp ⊢; exact .inr (.inr hp))⟩⟩
        case measure => simp [intOf]; omega
      · have z3 : (x.send == y.send) = false := beq_eq_false_iff_ne.2 hse
        rw [z3]
        have He := Lib.hid (Hne.out fun e => hse (by rw [e]))
        clear hse hM2
        go_wp2_with fail
        go_ret
        exact ⟨by rw [He.out]; rfl, hold2⟩
    · obtain rfl : j = ns := by omega
      have He := Lib.hid (show samePl ks ks' ss ss' = true by
        rw [← Hl.out, List.take_length, Hl.out, ← Hl'.out, List.take_length] at ht
        rw [samePl, hk, ht]
        simp)
      clear hM ht k1 k1'
      go_wp2_with fail
      go_ret
      exact ⟨by rw [He.out]; rfl, hold⟩

end Go.Proofs.Ytmganbdbihjbmaa

