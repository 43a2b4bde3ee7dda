/-
  THE WALK of coterielaw01.WireBack.
-/
import Derived.Test.YtlpgljdfokfilaaWireSplits
set_option linter.unusedVariables false
namespace Go.Proofs.Ytlpgljdfokfilaa
open Go.RowKit

theorem take_mid {p x r : List UInt8} {n : Nat} (h : x.length = n) : ((p ++ (x ++ r)).drop p.length).take n = x := by
  rw [List.drop_left, ← h, List.take_left]

/-- a number that was written is read -/
theorem tn_at (p r : List UInt8) {w n : Nat} (h1 : 1 ≤ w) (h2 : w ≤ 8) (hn : n < 256 ^ w) :
    tnE (p ++ (be w n ++ r)).length (p.length : Int) (w : Int) = 0 ∧ tnV (p ++ (be w n ++ r)) (p.length : Int) (w : Int) = n := by
  have hE : tnE (p ++ (be w n ++ r)).length (p.length : Int) (w : Int) = 0 := tnE_of (by omega) (by omega) (by omega) (by simp [be_length]; omega)
  refine ⟨hE, ?_⟩
  unfold tnV
  rw [if_pos hE, Int.toNat_natCast, Int.toNat_natCast, take_mid (be_length w n), val_be, Nat.mod_eq_of_lt hn]

/-- a text that was written is read -/
theorem tt_at (p t r : List UInt8) (ht : t.length ≤ 65535) :
    ttE (p ++ (be 2 t.length ++ t ++ r)) (p.length : Int) = 0 ∧ ttL (p ++ (be 2 t.length ++ t ++ r)) (p.length : Int) = t ∧ ttN (p ++ (be 2 t.length ++ t ++ r)) (p.length : Int) = (p.length : Int) + 2 + t.length := by
  obtain ⟨hE, hV⟩ := tn_at p (t ++ r) (w := 2) (n := t.length) (by omega) (by omega) (by omega)
  rw [← List.append_assoc (be 2 t.length)] at hE hV
  have hE' : tnE (p ++ (be 2 t.length ++ t ++ r)).length (p.length : Int) 2 = 0 := hE
  have hV' : tnV (p ++ (be 2 t.length ++ t ++ r)) (p.length : Int) 2 = t.length := hV
  have h0 : ttE (p ++ (be 2 t.length ++ t ++ r)) (p.length : Int) = 0 := by
    unfold ttE
    rw [hE', hV', if_neg (by omega), if_neg (by simp [be_length]; omega)]
  refine ⟨h0, ?_, ?_⟩
  · unfold ttL
    rw [if_pos h0, hV', Int.toNat_natCast]
    have e : p ++ (be 2 t.length ++ t ++ r) = (p ++ be 2 t.length) ++ (t ++ r) := by simp
    rw [e, show p.length + 2 = (p ++ be 2 t.length).length from by simp [be_length], take_mid rfl]
  · unfold ttN
    rw [if_pos h0, hV']

/-- texts that were written are read -/
theorem txF_at : ∀ (ts : List (List UInt8)) (p r : List UInt8), GoodT ts → txF (p ++ (txs ts ++ r)) ts.length (p.length : Int) = .ok (ts, (p.length : Int) + (txs ts).length)
  | [], p, r, _ => by simp [txF, txs]
  | t :: ts, p, r, h => by
    have h1 : t.length ≤ 65535 := h 0 t rfl
    have e : p ++ (txs (t :: ts) ++ r) = p ++ (be 2 t.length ++ t ++ (txs ts ++ r)) := by rw [txs_cons]; simp
    obtain ⟨hE, hL, hN⟩ := tt_at p t (txs ts ++ r) h1
    have ih := txF_at ts (p ++ (be 2 t.length ++ t)) r (fun i u hu => h (i + 1) u hu)
    have e2 : p ++ (be 2 t.length ++ t ++ (txs ts ++ r)) = (p ++ (be 2 t.length ++ t)) ++ (txs ts ++ r) := by simp
    have hl : ((p ++ (be 2 t.length ++ t)).length : Int) = (p.length : Int) + 2 + t.length := by simp [be_length]; omega
    rw [List.length_cons, e, txF_step hE, hL, hN, e2, ← hl, ih]
    simp only [ahead, List.singleton_append, Except.ok.injEq, Prod.mk.injEq, true_and]
    rw [hl, txs_cons]
    simp [be_length]
    omega

theorem nums_at {w : Nat} {ns : List Nat} {j x : Nat} (hx : ns[j]? = some x) (l r : List UInt8) :
    ∃ p s, l ++ (nums w ns ++ r) = p ++ (be w x ++ s) ∧ p.length = l.length + w * j := by
  have hj := (List.getElem?_eq_some_iff.1 hx).1
  refine ⟨l ++ nums w (ns.take j), nums w (ns.drop (j + 1)) ++ r, ?_, ?_⟩
  · have e : ns = ns.take j ++ (x :: ns.drop (j + 1)) := by
      have h1 := List.take_append_drop j ns
      rw [List.drop_eq_getElem_cons hj] at h1
      rw [(List.getElem?_eq_some_iff.1 hx).2] at h1
      exact h1.symm
    have e2 : nums w ns = nums w (ns.take j) ++ (be w x ++ nums w (ns.drop (j + 1))) := by
      conv => lhs; rw [e]
      simp [nums]
    rw [e2]
    simp
  · rw [List.length_append, nums_length, List.length_take, Nat.min_eq_left (by omega)]

theorem boolEnd {k n : Nat} (h : k ≤ n) : (endE n ((n : Int) - k) == 0) = ((k : Int) == 0) := by
  unfold endE
  rw [if_neg (by omega)]
  by_cases h0 : k = 0
  · subst h0; simp
  · rw [if_neg (by omega)]
    have : ((k : Int) == 0) = false := by rw [beq_eq_false_iff_ne]; omega
    rw [this]; rfl

set_option maxHeartbeats 2000000 in
theorem walk_WireBack (A : Option Addr) (k c : Nat) (l : List UInt8) (d : Int) (An : Option Addr) (m cn : Nat) (ns : List Nat) (At : Option Addr) (q ct : Nat) (vs : List Value) (ts : List (List UInt8)) (Ab : Option Addr) (kb cb : Nat) (lb : List UInt8) (w : World)
    (hkc : k ≤ c) (hcm : c ≤ maxLen) (hr : Rd w w.heap.size A k (l.map bv)) (_hd1 : -9223372036854775808 ≤ d) (_hd2 : d ≤ 9223372036854775807)
    (hmc : m ≤ cn) (hnm : cn ≤ maxLen) (hrn : Rd w w.heap.size An m (ns.map qv)) (h64 : ∀ i x : Nat, ns[i]? = some x → x < 18446744073709551616)
    (_hqc : q ≤ ct) (_hqm : ct ≤ maxLen) (hq24 : q * 24 ≤ 140737488355328) (hv : Rd w w.heap.size At q vs) (ht : Txs w w.heap.size vs ts)
    (hkcb : kb ≤ cb) (hcmb : cb ≤ maxLen) (hrb : Rd w w.heap.size Ab kb (lb.map bv)) :
    Calls Try.prog 5 #[.slice A k c, .int .i64 d, .slice An m cn, .slice At q ct, .slice Ab kb cb] w fun e w' => e = .returned (.bool true) ∧ Below w.heap.size w w' := by
  unfold maxLen at hcm hnm hcmb
  obtain ⟨i0, hi0, hz0, hz1, hz2⟩ := info_parts byteInfo
  by_cases hk : k ≤ 500
  · by_cases hm : m ≤ 50
    · have hm' : decide ((50 : Int) < (m : Int)) = false := by simp; omega
      go_enter Try.func5, Try.ntmps5
      go_wp2_with (go_at_call 9; refine (live01 _).mono ?_; rintro e w1 ⟨rfl, hb1⟩; have hr1 := (hr.below hb1).more hb1.size; have hrn1 := (hrn.below hb1).more hb1.size; have hv1 := (hv.below hb1).more hb1.size; have ht1 := (ht.below hb1).more hb1.size; have hrb1 := (hrb.below hb1).more hb1.size)
      refine (Few_any _ _ _ vs ts _ _ (by omega) hv1 ht1).mono ?_
      rintro e w2 ⟨bf, rfl, hbf, rfl⟩
      cases bf
      · go_wp2_with fail
        go_ret
        exact ⟨rfl, hb1⟩
      · have hq := hbf rfl
        clear hbf
        by_cases hkb : kb ≤ 500
        · have hkb' : decide ((500 : Int) < (kb : Int)) = false := by simp; omega
          go_wp2_with fail
          refine (Num_any _ _ _ l d _ _ _ ns _ (by omega) (by omega) hr1 hrn1 h64).mono ?_
          intro e w3 hp
          by_cases hg : Good d ns
          · obtain ⟨A3, n3, c3, rfl, ho3, hc3, hl3, hb3⟩ := hp.yes hg
            clear hp
            have hv3 := (hv1.below hb3).more hb3.size
            have ht3 := (ht1.below hb3).more hb3.size
            have hr3 := Rd.of_own ho3
            have hn3 : n3 ≤ 1000 := by
              rw [hl3.out, List.length_append, nums_length]
              have h1 := hg.1
              have h2 := hg.2.1
              have h3 : l.length = k := by have := hr.len; simpa using this
              have h4 : ns.length = m := by have := hrn.len; simpa using this
              rw [h4, h3]
              have h5 : d.toNat * m ≤ 8 * m := Nat.mul_le_mul_right _ (by omega)
              omega
            go_wp2_with fail
            refine (Text_any _ _ _ (l ++ nums d.toNat ns) _ _ _ vs ts _ (by omega) (by omega) hr3 hv3 ht3).mono ?_
            intro e w4 hp
            by_cases hgt : GoodT ts
            · obtain ⟨A4, n4, c4, rfl, ho4, hc4, hl4, hb4⟩ := hp.yes hgt
              clear hp
              have hb14 := below_trans' hb3 hb4
              have hrb4 := (hrb1.below hb14)
              have htq : ts.length = q := by rw [← ht.1, hv.len]
              have hn4 : n4 ≤ 20000000 := by
                rw [hl4.out, List.length_append, ← hl3.out]
                have := txs_short ts hgt
                rw [htq] at this
                omega
              go_wp2_with (at_builtin; refine wpList_append_rd _ rfl (.tmp 74) (.tmp 75) _ rfl w3.heap.size 5 i0 _ 1 Try.underlying22 hi0 hz0 hz1 hz2 rfl (.slice A4 n4 c4) n4 _ rfl ho4 w1.heap.size Ab kb cb (lb.map bv) rfl hrb4 (one_bv _) (by simp only [maxLen]; omega) (by omega) hb4.size ?_; intro v5 w5 ho5 hg5 hat5; obtain ⟨A5, c5, rfl, hc5, hl5⟩ := own_form ho5; have hb5 := hb4.grown hg5 hb4.size (fun g hg => (ho4.lt g hg).1); rw [← List.map_append] at ho5; have hr5 := Rd.of_own ho5)
              have hll : l.length = k := by have := hr.len; simpa using this
              have hnl : ns.length = m := by have := hrn.len; simpa using this
              have hbl : lb.length = kb := by have := hrb.len; simpa using this
              have hXl : (l ++ nums d.toNat ns ++ txs ts ++ lb).length = n4 + kb := by rw [List.length_append, hbl, ← hl4.out]
              have hn4' : n4 = k + d.toNat * m + (txs ts).length := by rw [hl4.out]; simp only [List.length_append, nums_length]; rw [hll, hnl]
              have HN : Hid (∀ j x : Nat, ns[j]? = some x → ∀ W : World, Rd W W.heap.size A5 (n4 + kb) ((l ++ nums d.toNat ns ++ txs ts ++ lb).map bv) →
                  Calls Try.prog 17 #[.slice A5 (n4 + kb) c5, .int .i64 ((k : Int) + d.toNat * j), .int .i64 d] W fun e w' => e = .returned (.tuple #[.int .u64 (x : Int), .int .i64 ((k : Int) + d.toNat * j + d), .int .i64 0]) ∧ W = w') :=
                Lib.hid (fun j x hx W hW => (TakeNum_any A5 (n4 + kb) c5 _ ((k : Int) + d.toNat * j) d W (by omega) hc5 hW).mono fun e w' h => by
                  have hd0 : ((d.toNat : Nat) : Int) = d := Int.toNat_of_nonneg (by have := hg.1; omega)
                  obtain ⟨p, s, he, hpl⟩ := nums_at (w := d.toNat) hx l (txs ts ++ lb)
                  have hX : l ++ nums d.toNat ns ++ txs ts ++ lb = p ++ (be d.toNat x ++ s) := by rw [← he]; simp
                  have hpi : (k : Int) + d.toNat * j = (p.length : Int) := by rw [hpl, hll]; simp
                  obtain ⟨hE, hV⟩ := tn_at p s (w := d.toNat) (n := x) (by have := hg.1; omega) (by have := hg.2.1; omega) (hg.2.2 j x hx)
                  rw [hd0] at hE hV
                  unfold TakeNumPost at h
                  rw [hX, hpi, hE, hV] at h
                  unfold tnN at h
                  rw [if_pos hE] at h
                  rw [hpi]
                  exact h)
              have HT : Hid (textsF (l ++ nums d.toNat ns ++ txs ts ++ lb) ((k : Int) + d.toNat * m) (q : Int) = .ok (ts, (k : Int) + d.toNat * m + (txs ts).length)) := Lib.hid (by
                have h1 := txF_at ts (l ++ nums d.toNat ns) lb hgt
                have hpi : (k : Int) + d.toNat * m = ((l ++ nums d.toNat ns).length : Int) := by rw [List.length_append, nums_length, hll, hnl]; simp
                rw [hpi, textsF_nat (by omega) (by simp only [List.length_append]; omega), ← htq]
                rw [← List.append_assoc] at h1
                exact h1)
              have hend : (endE (n4 + kb) (n4 : Int) == 0) = ((kb : Int) == 0) := by
                have h1 := boolEnd (k := kb) (n := n4 + kb) (by omega)
                rwa [show ((n4 + kb : Nat) : Int) - kb = (n4 : Int) from by omega] at h1
              have hsame := sameAll_refl ts
              have hself : ∀ z : Int, (z != z) = false := fun z => by simp
              have hself2 : ∀ z : Int, (z == z) = true := fun z => by simp
              have hd1 := hg.1
              have hd2 := hg.2.1
              have Hd0 : Hid (((d.toNat : Nat) : Int) = d) := Lib.hid (Int.toNat_of_nonneg (by omega))
              have Hg := Lib.hid hg
              have Hnl := Lib.hid hnl
              have Htq := Lib.hid htq
              have Hn4 := Lib.hid hn4'
              have hb15 := below_trans' hb1 (hb3.trans (hb5.mono hb3.size))
              have hwm : d.toNat * m ≤ 400 := Nat.le_trans (Nat.mul_le_mul (show d.toNat ≤ 8 by omega) hm) (by omega)
              clear hll hbl hXl hn4' hnl htq hg hl5 hat5
              generalize l ++ nums d.toNat ns ++ txs ts ++ lb = X at *
              go_loop [15, 81] (fun p i => ∃ (j : Nat) (z : Int), j ≤ m ∧ i = .int .i64 (j : Int) ∧ p = .int .i64 z ∧ Hid (z = (k : Int) + d.toNat * j) ∧ 0 ≤ z ∧ z ≤ 100000) (fun _ i => m - (intOf i).toNat)
              case atStart => exact ⟨0, k, by omega, rfl, rfl, Lib.hid (by simp), by omega, by omega⟩
              case round =>
                obtain ⟨j, z, hj, rfl, rfl, Hz, hz0', hz1'⟩ := hrel
                by_cases hlt : j < m
                · obtain ⟨b, o, rfl, _, hc⟩ := (hrn1.below (hb3.trans (hb5.mono hb3.size))).pos (by omega)
                  obtain ⟨x, hx⟩ : ∃ x, ns[j]? = some x := ⟨_, List.getElem?_eq_getElem (by have := Hnl.out; omega)⟩
                  have hcell : w5.cell? ⟨b, o + j, none⟩ = some (.int .u64 (x : Int)) := hc j _ (by rw [List.getElem?_map, hx]; rfl)
                  have HC := Lib.hid (HN.out j x hx)
                  have hzn : z + d ≤ 100000 := by
                    have h1 : d.toNat * (j + 1) ≤ d.toNat * m := Nat.mul_le_mul_left _ (by omega)
                    have h2 := Hz.out
                    have h3 := Hd0.out
                    rw [Nat.mul_add] at h1
                    have h4 : ((d.toNat * j : Nat) : Int) = (d.toNat : Int) * j := by simp
                    omega
                  rw [← Hz.out] at HC
                  clear hc hx
                  go_wp2_with (go_at_call 17; refine (HC.out _ hr5).mono ?_; rintro e w' ⟨rfl, rfl⟩)
                  go_round
                  case rel =>
                    refine ⟨j + 1, z + d, by omega, by go_num, rfl, Lib.hid ?_, by omega, hzn⟩
                    have h2 := Hz.out
                    have h3 := Hd0.out
                    have h4 : (d.toNat : Int) * ((j + 1 : Nat) : Int) = (d.toNat : Int) * j + d.toNat := by rw [Int.natCast_add, Int.mul_add]; simp
                    rw [h4]
                    omega
                  case measure => simp [intOf]; omega
                · obtain rfl : j = m := by omega
                  have HT2 : Hid (textsF X z (q : Int) = .ok (ts, z + (txs ts).length)) := Lib.hid (by rw [Hz.out]; exact HT.out)
                  go_wp2_with fail
                  refine (Texts_any _ _ _ X z _ _ (by omega) hc5 (by omega) hr5).mono ?_
                  intro e w6 hp
                  obtain ⟨A6, n6, c6, vs6, rfl, hr6, ht6, hl6, hb6⟩ := hp.yes HT2.out
                  have hz6 : n6 ≤ 1000 := by rw [hl6, Htq.out]; omega
                  clear hp hl6
                  have hzl : z + ((txs ts).length : Int) = (n4 : Int) := by
                    have h1 := Hn4.out
                    have h2 := Hz.out
                    have h3 : ((d.toNat * j : Nat) : Int) = (d.toNat : Int) * j := by simp
                    omega
                  rw [hzl]
                  clear hzl
                  have h135 := hb3.trans (hb5.mono hb3.size)
                  have hv6 := ((hv1.below h135).more h135.size).below hb6
                  have ht16 := ((ht1.below h135).more h135.size).below hb6
                  have hsub : ((n4 : Int) == (n4 : Int) + (kb : Int) - (kb : Int)) = true := by rw [beq_iff_eq]; omega
                  go_wp2_with (first
                    | (go_at_call 23; refine (SameAll_any _ _ _ _ _ _ _ _ _ _ _ _ _ (by omega) (by omega) hr6 ht6 hv6 ht16).mono ?_; rintro e w7 ⟨rfl, qq, rfl⟩)
                    | (go_at_call 24; refine (End_any _ _ _ _ _).mono ?_; rintro e w8 ⟨rfl, rfl⟩))
                  go_ret
                  exact ⟨by simp, (below_trans' hb15 hb6).trans ⟨rfl, rfl, rfl, Nat.le_refl _, fun _ _ => rfl⟩⟩
            · obtain ⟨rfl, hb4⟩ := hp.no hgt
              go_wp2_with fail
              go_ret
              exact ⟨rfl, below_trans' hb1 (below_trans' hb3 hb4)⟩
          · obtain ⟨rfl, hb3⟩ := hp.no hg
            go_wp2_with fail
            go_ret
            exact ⟨rfl, below_trans' hb1 hb3⟩
        · have hkb' : decide ((500 : Int) < (kb : Int)) = true := by simp; omega
          go_wp2_with fail
          go_ret
          exact ⟨rfl, hb1⟩
    · have hm' : decide ((50 : Int) < (m : Int)) = true := by simp; omega
      go_enter Try.func5, Try.ntmps5
      go_wp2_with (go_at_call 9; refine (live01 _).mono ?_; rintro e w1 ⟨rfl, hb1⟩)
      go_ret
      exact ⟨rfl, hb1⟩
  · go_enter Try.func5, Try.ntmps5
    go_wp2_with (go_at_call 9; refine (live01 _).mono ?_; rintro e w1 ⟨rfl, hb1⟩)
    go_ret
    exact ⟨rfl, hb1⟩

end Go.Proofs.Ytlpgljdfokfilaa
