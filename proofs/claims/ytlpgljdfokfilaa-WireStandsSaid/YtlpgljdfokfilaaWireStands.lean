/-
  THE WALK of coterielaw01.WireStands.
-/
import Derived.Test.YtlpgljdfokfilaaWireReads
set_option linter.unusedVariables false
namespace Go.Proofs.Ytlpgljdfokfilaa
open Go.RowKit

/-- what stands at a place, written -/
theorem stands_num {l : List UInt8} {a m : Nat} (h : a + m ≤ l.length) : [] ++ nums m [val ((l.drop a).take m)] = (l.drop a).take m := by
  have hl : ((l.drop a).take m).length = m := by rw [List.length_take, List.length_drop]; omega
  simp [nums, be_val' hl]

theorem stands_text {l : List UInt8} {a : Nat} (h : ttE l (a : Int) = 0) : [] ++ txs [ttL l (a : Int)] = (l.drop a).take (2 + (ttL l (a : Int)).length) := by
  obtain ⟨_, h1, h2⟩ := ttE_ok h
  have hL : ttL l (a : Int) = (l.drop (a + 2)).take (tnV l (a : Int) 2) := by unfold ttL; rw [if_pos h]; simp
  have hlen : (ttL l (a : Int)).length = tnV l (a : Int) 2 := by
    have : ttN l (a : Int) = (a : Int) + 2 + tnV l (a : Int) 2 := by unfold ttN; rw [if_pos h]
    omega
  have hn : tnE l.length (a : Int) 2 = 0 := tnE_of (by omega) (by omega) (by omega) (by omega)
  have hV : tnV l (a : Int) 2 = val ((l.drop a).take 2) := by unfold tnV; rw [if_pos hn]; simp
  have hb : be 2 (val ((l.drop a).take 2)) = (l.drop a).take 2 := be_val' (by rw [List.length_take, List.length_drop]; omega)
  have hs : (l.drop a).take (2 + tnV l (a : Int) 2) = (l.drop a).take 2 ++ ((l.drop a).drop 2).take (tnV l (a : Int) 2) := by rw [List.take_add]
  have e1 : txs [ttL l (a : Int)] = be 2 (ttL l (a : Int)).length ++ ttL l (a : Int) := by simp [txs]
  rw [List.nil_append, e1, hlen, hs, List.drop_drop, ← hL]
  congr 1
  rw [hV, hb]

theorem stands_short {l : List UInt8} {a : Nat} (h : ttE l (a : Int) = 0) : ttE (l.take (a + 1 + (ttL l (a : Int)).length)) (a : Int) = 2 := by
  obtain ⟨_, h1, h2⟩ := ttE_ok h
  have hlen : (ttL l (a : Int)).length = tnV l (a : Int) 2 := by
    have : ttN l (a : Int) = (a : Int) + 2 + tnV l (a : Int) 2 := by unfold ttN; rw [if_pos h]
    omega
  have hn : tnE l.length (a : Int) 2 = 0 := tnE_of (by omega) (by omega) (by omega) (by omega)
  have hV : tnV l (a : Int) 2 = val ((l.drop a).take 2) := by unfold tnV; rw [if_pos hn]; simp
  rw [hlen] at h1 ⊢
  clear hlen
  generalize tnV l (a : Int) 2 = y at *
  have hl' : (l.take (a + 1 + y)).length = a + 1 + y := by rw [List.length_take]; omega
  rcases Nat.eq_zero_or_pos y with h0 | h0
  · have hE : tnE (l.take (a + 1 + y)).length (a : Int) 2 = 2 := by
      unfold tnE
      rw [hl', if_neg (by omega), if_pos (by omega)]
    unfold ttE
    rw [hE, if_pos (by omega)]
  · have hE : tnE (l.take (a + 1 + y)).length (a : Int) 2 = 0 := tnE_of (by omega) (by omega) (by omega) (by rw [hl']; omega)
    have e : (((l.take (a + 1 + y)).drop (a : Int).toNat).take (2 : Int).toNat) = (l.drop a).take 2 := by
      rw [Int.toNat_natCast, show (2 : Int).toNat = 2 from rfl, List.drop_take, List.take_take]
      congr 1
      omega
    have hV2 : tnV (l.take (a + 1 + y)) (a : Int) 2 = y := by
      unfold tnV
      rw [if_pos hE, e, ← hV]
    unfold ttE
    rw [hE, hV2, hl', if_neg (by omega), if_pos (by omega)]

/-- the second half: a text that stands at a place -/
structure StText (l : List UInt8) (a y : Nat) (t : List UInt8) : Prop where
  err : ttE l (a : Int) = 0
  text : ttL l (a : Int) = t
  len : t.length = y
  next : ttN l (a : Int) = (a : Int) + 2 + y
  fits : a + 2 + y ≤ l.length
  small : y ≤ 65535

theorem stText {l : List UInt8} {a : Nat} (h : ttE l (a : Int) = 0) : StText l a (ttL l (a : Int)).length (ttL l (a : Int)) := by
  obtain ⟨_, h1, h2⟩ := ttE_ok h
  have hn : tnE l.length (a : Int) 2 = 0 := tnE_of (by omega) (by omega) (by omega) (by omega)
  have hlen : (ttL l (a : Int)).length = tnV l (a : Int) 2 := by
    have : ttN l (a : Int) = (a : Int) + 2 + tnV l (a : Int) 2 := by unfold ttN; rw [if_pos h]
    omega
  have := (ttOk hn).small
  exact ⟨h, rfl, rfl, h1, by omega, by omega⟩

theorem goodT_one {t : List UInt8} (h : t.length ≤ 65535) : GoodT [t] := fun i u hu => by
  rcases i with _ | i
  · simp at hu; subst hu; exact h
  · simp at hu

/-- the walk behind the number: whatever the frame, a text that stands there -/
theorem StText.calls {l : List UInt8} {a y : Nat} {t : List UInt8} (h : StText l a y t) (A : Option Addr) (c : Nat) (w : World) (hk : l.length ≤ 3000) (hkc : l.length ≤ c) (hr : Rd w w.heap.size A l.length (l.map bv)) :
    Calls Try.prog 19 #[.slice A l.length c, .int .i64 (a : Int)] w fun e w' =>
      ∃ A' c', e = .returned (.tuple #[.slice A' y c', .int .i64 ((a : Int) + 2 + y), .int .i64 0]) ∧ Rd w' w'.heap.size A' y (t.map bv) ∧ y ≤ c' ∧ Below w.heap.size w w' := by
  refine (TakeText_any A _ c l a w (by omega) hkc hr).mono ?_
  intro e w' hp
  obtain ⟨A', c', he, ho, hc, hb⟩ := hp.yes h.err
  rw [h.text, h.len] at ho hc he
  rw [h.next] at he
  exact ⟨A', c', he, Rd.of_own ho, hc, hb⟩

theorem StText.short {l : List UInt8} {a y : Nat} {t : List UInt8} (h : StText l a y t) (A : Option Addr) (c : Nat) (w : World) (hk : l.length ≤ 3000) (hkc : l.length ≤ c) (hr : Rd w w.heap.size A l.length (l.map bv)) :
    Calls Try.prog 19 #[.slice A (a + 1 + y) c, .int .i64 (a : Int)] w fun e w' => e = .returned (.tuple #[.slice none 0 0, .int .i64 0, .int .i64 2]) ∧ Below w.heap.size w w' := by
  have hf := h.fits
  have hr' : Rd w w.heap.size A (a + 1 + y) ((l.take (a + 1 + y)).map bv) := by
    have := hr.take (k := a + 1 + y) (by omega)
    rwa [← List.map_take] at this
  have hE : ttE (l.take (a + 1 + y)) (a : Int) = 2 := by
    have := stands_short h.err
    rwa [h.text, h.len] at this
  refine (TakeText_any A _ c _ a w (by omega) (by omega) hr').mono ?_
  intro e w' hp
  obtain ⟨he, hb⟩ := hp.no (by rw [hE]; omega)
  rw [hE] at he
  exact ⟨he, hb⟩

set_option maxHeartbeats 2000000 in
theorem walk_WireStands (A : Option Addr) (k c : Nat) (l : List UInt8) (d wd : Int) (w : World) (hkc : k ≤ c) (hcm : c ≤ maxLen) (hr : Rd w w.heap.size A k (l.map bv))
    (_hd1 : -9223372036854775808 ≤ d) (_hd2 : d ≤ 9223372036854775807) (_hw1 : -9223372036854775808 ≤ wd) (_hw2 : wd ≤ 9223372036854775807) :
    Calls Try.prog 6 #[.slice A k c, .int .i64 d, .int .i64 wd] w fun e w' => e = .returned (.bool true) ∧ Below w.heap.size w w' := by
  unfold maxLen at hcm
  obtain rfl : k = l.length := by have := hr.len; simpa using this.symm
  by_cases hk3 : l.length ≤ 3000
  · by_cases h2 : ttE l d = 0
    · obtain ⟨a, rfl⟩ := Int.eq_ofNat_of_zero_le (ttE_ok h2).1
      have Htx := Lib.hid (stands_text h2)
      have hT := stText h2
      generalize (ttL l (a : Int)).length = y at *
      generalize ttL l (a : Int) = t at *
      have hfit := hT.fits
      have hsm := hT.small
      obtain ⟨b, o, rfl, _, _⟩ := hr.pos (by omega)
      clear h2
      by_cases h1 : tnE l.length (a : Int) wd = 0
      · have hok := tnE_ok h1
        skip
        obtain ⟨m, rfl⟩ := Int.eq_ofNat_of_zero_le (show 0 ≤ wd by omega)
        have hw1 := hok.2.1
        have hw2 := hok.2.2.1
        have hfm := hok.2.2.2
        have hsl : ((l.drop a).take m).length = m := by rw [List.length_take, List.length_drop]; omega
        have hv := val_lt ((l.drop a).take m)
        rw [hsl] at hv
        have Hs := Lib.hid (stands_num (l := l) (a := a) (m := m) (by omega))
        have HTN : Hid (∀ (A : Option Addr) (W : World), Rd W W.heap.size A l.length (l.map bv) → Calls Try.prog 17 #[.slice A l.length c, .int .i64 (a : Int), .int .i64 (m : Int)] W fun e w' => e = .returned (.tuple #[.int .u64 (val ((l.drop a).take m) : Int), .int .i64 ((a : Int) + m), .int .i64 0]) ∧ W = w') := Lib.hid (fun A W hW => (TakeNum_any A _ c l a m W (by omega) hkc hW).mono fun e w' h => by
          have hV : tnV l (a : Int) (m : Int) = val ((l.drop a).take m) := by unfold tnV; rw [if_pos h1]; simp
          have hN : tnN l.length (a : Int) (m : Int) = a + m := by unfold tnN; rw [if_pos h1]
          unfold TakeNumPost at h
          rw [hV, hN, h1] at h
          exact h)
        have hg : Good (m : Int) [val ((l.drop a).take m)] := good_one hw1 hw2 (by simpa using hv)
        have hv64 : val ((l.drop a).take m) < 18446744073709551616 := Nat.lt_of_lt_of_le hv (pow256_le (by omega))
        clear h1 hok hv hsl
        generalize val ((l.drop a).take m) = v at *
        have hs2 := sameB_refl ((l.drop a).take m)
        go_enter Try.func6, Try.ntmps6
        go_wp2_with (first
          | (go_at_call 9; refine (live01 _).mono ?_; rintro e w1 ⟨rfl, hb1⟩; have hr1 := (hr.below hb1).more hb1.size)
          | (go_at_call 17; refine (HTN.out _ _ hr1).mono ?_; rintro e w' ⟨rfl, rfl⟩))
        refine (Num_any none 0 0 [] m _ 1 1 [v] _ (by omega) (by omega) (Rd.zero _ _ _) (by exact Rd.mk_ _ _ _ rfl (by simp) rfl rfl) (one64 hv64)).mono ?_
        intro e w2 hp
        obtain ⟨A2, n2, c2, rfl, ho2, hc2, _, hb2⟩ := hp.yes hg
        clear hp
        rw [Int.toNat_natCast, Hs.out] at ho2
        have hr2 := Rd.of_own ho2
        have hr12 := (((hr1.alloc (Nat.le_refl _) _).more (al0 _ _)).below hb2).more hb2.size
        have hcut2 : Rd w2 w2.heap.size (some ⟨b, o + a, none⟩) m (((l.drop a).take m).map bv) := by
          have h5 := ((hr12.cut (k := a) (cap := c) (by omega) hkc).take (k := m) (by omega))
          rw [← List.map_drop, ← List.map_take, if_neg (by omega)] at h5
          simpa [Addr.add_lit] using h5
        go_wp2_with (go_at_call 16; refine (Same_any _ _ _ _ _ _ _ _ _ _ _ hr2 (by first | (rw [show a + m - a = m from by omega]; exact hcut2) | exact hcut2)).mono ?_; rintro e w7 ⟨rfl, rfl⟩)
        have hb12 := below_trans' hb1 (below_trans' ((Below.refl _ _).alloc (Nat.le_refl _) _) hb2)
        refine (hT.calls _ _ _ hk3 hkc hr12).mono ?_
        rintro e w5 ⟨A5, c5, rfl, hr5, hc5, hb5⟩
        have hr15 := (hr12.below hb5).more hb5.size
        go_wp2_with fail
        refine (Text_any none 0 0 [] _ 1 1 [.slice A5 y c5] [t] _ (by omega) (by omega) (Rd.zero _ _ _) (by exact Rd.mk_ _ _ _ rfl (by simp) rfl rfl) (by have e := hT.len; subst e; exact Txs.one ((hr5.alloc (Nat.le_refl _) _).more (al0 _ _)) hc5)).mono ?_
        intro e w6 hp
        obtain ⟨A6, n6, c6, rfl, ho6, hc6, _, hb6⟩ := hp.yes (goodT_one (by rw [hT.len]; exact hT.small))
        clear hp
        rw [Htx.out] at ho6
        have hr6 := Rd.of_own ho6
        have hr16 := (((hr15.alloc (Nat.le_refl _) _).more (al0 _ _)).below hb6).more hb6.size
        have hs6 := sameB_refl ((l.drop a).take (2 + y))
        have hcut : Rd w6 w6.heap.size (some ⟨b, o + a, none⟩) (2 + y) (((l.drop a).take (2 + y)).map bv) := by
          have h5 := ((hr16.cut (k := a) (cap := c) (by omega) hkc).take (k := 2 + y) (by omega))
          rw [← List.map_drop, ← List.map_take, if_neg (by omega)] at h5
          simpa [Addr.add_lit] using h5
        go_wp2_with (go_at_call 16; refine (Same_any _ _ _ _ _ _ _ _ _ _ _ hr6 (by rw [show a + 2 + y - a = 2 + y from by omega]; exact hcut)).mono ?_; rintro e w7 ⟨rfl, rfl⟩)
        refine (hT.short _ _ _ hk3 hkc hr16).mono ?_
        rintro e w8 ⟨rfl, hb8⟩
        go_wp2_with fail
        go_ret
        exact ⟨rfl, below_trans' hb12 (below_trans' hb5 (below_trans' (below_trans' ((Below.refl _ _).alloc (Nat.le_refl _) _) hb6) hb8))⟩
      · have hbe : (tnE l.length (a : Int) wd == (0 : Int)) = false := by rw [beq_eq_false_iff_ne]; exact h1
        have H1 := Lib.hid h1
        clear h1
        go_enter Try.func6, Try.ntmps6
        go_wp2_with (first
          | (go_at_call 9; refine (live01 _).mono ?_; rintro e w1 ⟨rfl, hb1⟩; have hr1 := (hr.below hb1).more hb1.size)
          | (go_at_call 17; refine (TakeNum_any _ _ _ l _ wd _ (by omega) hkc hr1).mono ?_; rintro e w' ⟨rfl, rfl⟩))
        refine (hT.calls _ _ _ hk3 hkc hr1).mono ?_
        rintro e w5 ⟨A5, c5, rfl, hr5, hc5, hb5⟩
        have hr15 := (hr1.below hb5).more hb5.size
        go_wp2_with fail
        refine (Text_any none 0 0 [] _ 1 1 [.slice A5 y c5] [t] _ (by omega) (by omega) (Rd.zero _ _ _) (by exact Rd.mk_ _ _ _ rfl (by simp) rfl rfl) (by have e := hT.len; subst e; exact Txs.one ((hr5.alloc (Nat.le_refl _) _).more (al0 _ _)) hc5)).mono ?_
        intro e w6 hp
        obtain ⟨A6, n6, c6, rfl, ho6, hc6, _, hb6⟩ := hp.yes (goodT_one (by rw [hT.len]; exact hT.small))
        clear hp
        rw [Htx.out] at ho6
        have hr6 := Rd.of_own ho6
        have hr16 := (((hr15.alloc (Nat.le_refl _) _).more (al0 _ _)).below hb6).more hb6.size
        have hs6 := sameB_refl ((l.drop a).take (2 + y))
        have hcut : Rd w6 w6.heap.size (some ⟨b, o + a, none⟩) (2 + y) (((l.drop a).take (2 + y)).map bv) := by
          have h5 := ((hr16.cut (k := a) (cap := c) (by omega) hkc).take (k := 2 + y) (by omega))
          rw [← List.map_drop, ← List.map_take, if_neg (by omega)] at h5
          simpa [Addr.add_lit] using h5
        go_wp2_with (go_at_call 16; refine (Same_any _ _ _ _ _ _ _ _ _ _ _ hr6 (by rw [show a + 2 + y - a = 2 + y from by omega]; exact hcut)).mono ?_; rintro e w7 ⟨rfl, rfl⟩)
        refine (hT.short _ _ _ hk3 hkc hr16).mono ?_
        rintro e w8 ⟨rfl, hb8⟩
        go_wp2_with fail
        go_ret
        exact ⟨rfl, below_trans' hb1 (below_trans' hb5 (below_trans' (below_trans' ((Below.refl _ _).alloc (Nat.le_refl _) _) hb6) hb8))⟩
    · have HT := Lib.hid h2
      have hbe2 : (ttE l d != (0 : Int)) = true := by rw [bne_iff_ne]; exact h2
      clear h2
      by_cases h1 : tnE l.length d wd = 0
      · have hok := tnE_ok h1
        obtain ⟨a, rfl⟩ := Int.eq_ofNat_of_zero_le hok.1
        obtain ⟨m, rfl⟩ := Int.eq_ofNat_of_zero_le (show 0 ≤ wd by omega)
        have hw1 := hok.2.1
        have hw2 := hok.2.2.1
        have hfm := hok.2.2.2
        have hsl : ((l.drop a).take m).length = m := by rw [List.length_take, List.length_drop]; omega
        have hv := val_lt ((l.drop a).take m)
        rw [hsl] at hv
        have Hs := Lib.hid (stands_num (l := l) (a := a) (m := m) (by omega))
        have HTN : Hid (∀ (A : Option Addr) (W : World), Rd W W.heap.size A l.length (l.map bv) → Calls Try.prog 17 #[.slice A l.length c, .int .i64 (a : Int), .int .i64 (m : Int)] W fun e w' => e = .returned (.tuple #[.int .u64 (val ((l.drop a).take m) : Int), .int .i64 ((a : Int) + m), .int .i64 0]) ∧ W = w') := Lib.hid (fun A W hW => (TakeNum_any A _ c l a m W (by omega) hkc hW).mono fun e w' h => by
          have hV : tnV l (a : Int) (m : Int) = val ((l.drop a).take m) := by unfold tnV; rw [if_pos h1]; simp
          have hN : tnN l.length (a : Int) (m : Int) = a + m := by unfold tnN; rw [if_pos h1]
          unfold TakeNumPost at h
          rw [hV, hN, h1] at h
          exact h)
        have hg : Good (m : Int) [val ((l.drop a).take m)] := good_one hw1 hw2 (by simpa using hv)
        have hv64 : val ((l.drop a).take m) < 18446744073709551616 := Nat.lt_of_lt_of_le hv (pow256_le (by omega))
        clear h1 hok hv hsl
        generalize val ((l.drop a).take m) = v at *
        have hs2 := sameB_refl ((l.drop a).take m)
        obtain ⟨b, o, rfl, _, _⟩ := hr.pos (by omega)
        go_enter Try.func6, Try.ntmps6
        go_wp2_with (first
          | (go_at_call 9; refine (live01 _).mono ?_; rintro e w1 ⟨rfl, hb1⟩; have hr1 := (hr.below hb1).more hb1.size)
          | (go_at_call 17; refine (HTN.out _ _ hr1).mono ?_; rintro e w' ⟨rfl, rfl⟩))
        refine (Num_any none 0 0 [] m _ 1 1 [v] _ (by omega) (by omega) (Rd.zero _ _ _) (by exact Rd.mk_ _ _ _ rfl (by simp) rfl rfl) (one64 hv64)).mono ?_
        intro e w2 hp
        obtain ⟨A2, n2, c2, rfl, ho2, hc2, _, hb2⟩ := hp.yes hg
        clear hp
        rw [Int.toNat_natCast, Hs.out] at ho2
        have hr2 := Rd.of_own ho2
        have hr12 := (((hr1.alloc (Nat.le_refl _) _).more (al0 _ _)).below hb2).more hb2.size
        have hcut2 : Rd w2 w2.heap.size (some ⟨b, o + a, none⟩) m (((l.drop a).take m).map bv) := by
          have h5 := ((hr12.cut (k := a) (cap := c) (by omega) hkc).take (k := m) (by omega))
          rw [← List.map_drop, ← List.map_take, if_neg (by omega)] at h5
          simpa [Addr.add_lit] using h5
        go_wp2_with (go_at_call 16; refine (Same_any _ _ _ _ _ _ _ _ _ _ _ hr2 (by first | (rw [show a + m - a = m from by omega]; exact hcut2) | exact hcut2)).mono ?_; rintro e w7 ⟨rfl, rfl⟩)
        have hb12 := below_trans' hb1 (below_trans' ((Below.refl _ _).alloc (Nat.le_refl _) _) hb2)
        refine (TakeText_any _ _ _ l a _ (by omega) hkc hr12).mono ?_
        intro e w5 hp
        obtain ⟨rfl, hb5⟩ := hp.no HT.out
        clear hp
        go_wp2_with fail
        go_ret
        exact ⟨rfl, below_trans' hb12 hb5⟩
      · have hbe : (tnE l.length d wd == (0 : Int)) = false := by rw [beq_eq_false_iff_ne]; exact h1
        have H1 := Lib.hid h1
        clear h1
        go_enter Try.func6, Try.ntmps6
        go_wp2_with (first
          | (go_at_call 9; refine (live01 _).mono ?_; rintro e w1 ⟨rfl, hb1⟩; have hr1 := (hr.below hb1).more hb1.size)
          | (go_at_call 17; refine (TakeNum_any _ _ _ l d wd _ (by omega) hkc hr1).mono ?_; rintro e w' ⟨rfl, rfl⟩))
        refine (TakeText_any _ _ _ l d _ (by omega) hkc hr1).mono ?_
        intro e w5 hp
        obtain ⟨rfl, hb5⟩ := hp.no HT.out
        clear hp
        go_wp2_with fail
        go_ret
        exact ⟨rfl, below_trans' hb1 hb5⟩
  · go_enter Try.func6, Try.ntmps6
    go_wp2_with (go_at_call 9; refine (live01 _).mono ?_; rintro e w1 ⟨rfl, hb1⟩; have hr1 := (hr.below hb1).more hb1.size)
    go_ret
    exact ⟨rfl, hb1⟩

end Go.Proofs.Ytlpgljdfokfilaa
