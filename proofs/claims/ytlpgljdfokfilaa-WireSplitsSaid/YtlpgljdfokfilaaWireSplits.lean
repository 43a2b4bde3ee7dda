/-
  THE WALK of coterielaw01.WireSplits.
-/
import Derived.Test.YtlpgljdfokfilaaWireReads
set_option linter.unusedVariables false
namespace Go.Proofs.Ytlpgljdfokfilaa
open Go.RowKit

theorem txF_len (l : List UInt8) : ∀ (n : Nat) (d : Int) (ts : List (List UInt8)) (d' : Int), txF l n d = .ok (ts, d') → ts.length = n ∧ (0 ≤ d → d ≤ l.length → 0 ≤ d' ∧ d' ≤ l.length)
  | 0, d, ts, d', h => by
    simp only [txF, Except.ok.injEq, Prod.mk.injEq] at h
    obtain ⟨rfl, rfl⟩ := h
    exact ⟨rfl, fun h1 h2 => ⟨h1, h2⟩⟩
  | n + 1, d, ts, d', h => by
    by_cases h0 : ttE l d = 0
    · rw [txF_step h0] at h
      obtain ⟨_, hN, hN2⟩ := ttE_ok h0
      rcases hr : txF l n (ttN l d) with e | ⟨us, d1⟩
      · rw [hr] at h; cases h
      · rw [hr] at h
        simp only [ahead, Except.ok.injEq, Prod.mk.injEq] at h
        obtain ⟨rfl, rfl⟩ := h
        obtain ⟨h1, h2⟩ := txF_len l n _ _ _ hr
        exact ⟨by simp [h1], fun _ _ => h2 (by omega) hN2⟩
    · rw [txF_bad h0] at h; cases h

theorem txF_add (l : List UInt8) : ∀ (m n : Nat) (d : Int), txF l (m + n) d = (match txF l m d with | .ok (ts, j) => ahead ts (txF l n j) | .error e => .error e)
  | 0, n, d => by
    rw [Nat.zero_add]
    show _ = ahead [] (txF l n d)
    rcases txF l n d with e | ⟨ts, j⟩ <;> rfl
  | m + 1, n, d => by
    rw [show m + 1 + n = (m + n) + 1 from by omega]
    by_cases h0 : ttE l d = 0
    · rw [txF_step h0, txF_step h0, txF_add l m n]
      rcases txF l m (ttN l d) with e | ⟨ts, j⟩
      · rfl
      · show ahead [ttL l d] (ahead ts (txF l n j)) = ahead ([ttL l d] ++ ts) (txF l n j)
        rw [ahead_ahead]
    · rw [txF_bad h0, txF_bad h0]

theorem textsF_nat {l : List UInt8} {d : Int} {m : Nat} (h0 : 0 ≤ d) (h1 : d ≤ l.length) : textsF l d (m : Int) = txF l m d := by
  unfold textsF
  rw [if_neg (by omega)]
  simp

/-- Texts in two goes -/
theorem textsF_add {l : List UInt8} {d : Int} {m n : Nat} : textsF l d ((m : Int) + n) = (match textsF l d m with | .ok (ts, j) => ahead ts (textsF l j n) | .error e => .error e) := by
  by_cases h : d < 0 ∨ (l.length : Int) < d
  · have e1 : textsF l d m = .error 1 := by unfold textsF; rw [if_pos (by omega)]
    rw [e1]
    unfold textsF; rw [if_pos (by omega)]
  · rw [show ((m : Int) + n) = ((m + n : Nat) : Int) from by omega, textsF_nat (by omega) (by omega), textsF_nat (by omega) (by omega), txF_add]
    rcases hr : txF l m d with e | ⟨ts, j⟩
    · rfl
    · obtain ⟨h1, h2⟩ := txF_len l m d ts j hr
      obtain ⟨h3, h4⟩ := h2 (by omega) (by omega)
      show ahead ts (txF l n j) = ahead ts (textsF l j n)
      rw [textsF_nat h3 h4]

theorem textsF_len {l : List UInt8} {d d' : Int} {m : Nat} {ts : List (List UInt8)} (h : textsF l d (m : Int) = .ok (ts, d')) : ts.length = m := by
  unfold textsF at h
  split at h
  · cases h
  · exact (txF_len l _ d ts d' (by simpa using h)).1

theorem TextsPost.yes {w w' : World} {l : List UInt8} {d many d' : Int} {ts : List (List UInt8)} {e : Ending} (h : TextsPost w l d many e w') (h0 : textsF l d many = .ok (ts, d')) :
    ∃ A n c vs, e = .returned (.tuple #[.slice A n c, .int .i64 d', .int .i64 0]) ∧ Rd w' w'.heap.size A n vs ∧ Txs w' w'.heap.size vs ts ∧ n = ts.length ∧ Below w.heap.size w w' := by
  obtain ⟨hb, ⟨er, h1, _, he⟩ | ⟨ts', d2, A, n, c, vs, h1, he, ho, htx⟩⟩ := h
  · rw [h0] at h1; cases h1
  · rw [h0] at h1
    injection h1 with h1
    obtain ⟨rfl, rfl⟩ := Prod.mk.inj h1
    exact ⟨A, n, c, vs, he, Rd.of_own ho, htx.txs, by rw [← htx.1, (Rd.of_own ho).len], hb⟩

theorem TextsPost.no {w w' : World} {l : List UInt8} {d many er : Int} {e : Ending} (h : TextsPost w l d many e w') (h0 : textsF l d many = .error er) :
    e = .returned (.tuple #[.slice none 0 0, .int .i64 0, .int .i64 er]) ∧ er ≠ 0 ∧ Below w.heap.size w w' := by
  obtain ⟨hb, ⟨er', h1, hne, he⟩ | ⟨ts', d2, A, n, c, vs, h1, he, ho, htx⟩⟩ := h
  · rw [h0] at h1
    injection h1 with h1
    subst h1
    exact ⟨he, hne, hb⟩
  · rw [h0] at h1; cases h1

theorem Txs.append {w : World} {B : Nat} {vs vs' : List Value} {ts ts' : List (List UInt8)} (h : Txs w B vs ts) (h' : Txs w B vs' ts') : Txs w B (vs ++ vs') (ts ++ ts') := by
  refine ⟨by simp [h.1, h'.1], fun i v t hv ht => ?_⟩
  rw [List.getElem?_append] at hv ht
  rw [← h.1] at ht
  split at hv
  · rename_i hi
    rw [if_pos hi] at ht
    exact h.2 i v t hv ht
  · rename_i hi
    rw [if_neg hi] at ht
    exact h'.2 _ v t hv ht
theorem Txs.one_cell {w : World} {B : Nat} {vs : List Value} {ts : List (List UInt8)} (h : Txs w B vs ts) : ∀ u ∈ vs, u.oneCell' = true := by
  intro u hu
  obtain ⟨i, hi, rfl⟩ := List.mem_iff_getElem.1 hu
  have := h.1
  obtain ⟨A, c, e, _⟩ := h.2 i _ _ (List.getElem?_eq_getElem hi) (List.getElem?_eq_getElem (show i < ts.length by omega))
  rw [e]
  rfl

theorem errNe {er : Int} (h : er ≠ 0) : (er != (0 : Int)) = true := by rw [bne_iff_ne]; exact h

set_option maxHeartbeats 2000000 in
theorem walk_WireSplits (A : Option Addr) (k c : Nat) (l : List UInt8) (d m n : Int) (w : World) (hkc : k ≤ c) (hcm : c ≤ maxLen) (hr : Rd w w.heap.size A k (l.map bv))
    (_hd1 : -9223372036854775808 ≤ d) (_hd2 : d ≤ 9223372036854775807) (_hm1 : -9223372036854775808 ≤ m) (_hm2 : m ≤ 9223372036854775807) (_hn1 : -9223372036854775808 ≤ n) (_hn2 : n ≤ 9223372036854775807) :
    Calls Try.prog 8 #[.slice A k c, .int .i64 d, .int .i64 m, .int .i64 n] w fun e w' => e = .returned (.bool true) ∧ Below w.heap.size w w' := by
  unfold maxLen at hcm
  obtain ⟨i0, hi0, hz0, hz1, hz2⟩ := info_parts textInfo
  by_cases hpre : k ≤ 3000 ∧ 0 ≤ m ∧ 0 ≤ n ∧ m ≤ 1000 ∧ n ≤ 1000
  · obtain ⟨hk, hm0, hn0, hmk, hnk⟩ := hpre
    obtain ⟨m, rfl⟩ := Int.eq_ofNat_of_zero_le hm0
    obtain ⟨n, rfl⟩ := Int.eq_ofNat_of_zero_le hn0
    have b1 : decide ((1000 : Int) < (m : Int)) = false := by simp; omega
    have b2 : decide ((1000 : Int) < (n : Int)) = false := by simp; omega
    have b3 : decide ((m : Int) < 0) = false := by simp
    have b4 : decide ((n : Int) < 0) = false := by simp
    have hself : ∀ z : Int, (z == z) = true := fun z => by simp
    have hadd := textsF_add (l := l) (d := d) (m := m) (n := n)
    rcases hx : textsF l d (m : Int) with e1 | ⟨ts, j⟩
    · rw [hx] at hadd
      have Hx := Lib.hid hx
      have Ha := Lib.hid hadd
      clear hx hadd
      go_enter Try.func8, Try.ntmps8
      go_wp2_with (go_at_call 9; refine (live01 _).mono ?_; rintro e w1 ⟨rfl, hb1⟩; have hr1 := (hr.below hb1).more hb1.size)
      refine (Texts_any _ _ _ l d _ _ (by omega) hkc (by omega) hr1).mono ?_
      intro e w2 hp
      obtain ⟨rfl, hne, hb2⟩ := hp.no Ha.out
      have hr2 := (hr1.below hb2).more hb2.size
      have hne' := errNe hne
      clear hp hne
      go_wp2_with fail
      refine (Texts_any _ _ _ l d _ _ (by omega) hkc (by omega) hr2).mono ?_
      intro e w3 hp
      obtain ⟨rfl, _, hb3⟩ := hp.no Hx.out
      clear hp
      go_wp2_with fail
      go_ret
      exact ⟨rfl, below_trans' hb1 (below_trans' hb2 hb3)⟩
    · rw [hx] at hadd
      have hadd : textsF l d ((m : Int) + n) = ahead ts (textsF l j n) := hadd
      rcases hy : textsF l j (n : Int) with e2 | ⟨us, j2⟩
      · rw [hy] at hadd
        have Hx := Lib.hid hx
        have Hy := Lib.hid hy
        have Ha : Hid (textsF l d ((m : Int) + n) = .error e2) := Lib.hid hadd
        clear hx hy hadd
        go_enter Try.func8, Try.ntmps8
        go_wp2_with (go_at_call 9; refine (live01 _).mono ?_; rintro e w1 ⟨rfl, hb1⟩; have hr1 := (hr.below hb1).more hb1.size)
        refine (Texts_any _ _ _ l d _ _ (by omega) hkc (by omega) hr1).mono ?_
        intro e w2 hp
        obtain ⟨rfl, hne, hb2⟩ := hp.no Ha.out
        have hr2 := (hr1.below hb2).more hb2.size
        have hne' := errNe hne
        clear hp hne
        go_wp2_with fail
        refine (Texts_any _ _ _ l d _ _ (by omega) hkc (by omega) hr2).mono ?_
        intro e w3 hp
        obtain ⟨A3, n3, c3, vs3, rfl, hr3, ht3, hl3, hb3⟩ := hp.yes Hx.out
        have hr13 := (hr2.below hb3).more hb3.size
        clear hp hl3
        go_wp2_with fail
        refine (Texts_any _ _ _ l j _ _ (by omega) hkc (by omega) hr13).mono ?_
        intro e w4 hp
        obtain ⟨rfl, _, hb4⟩ := hp.no Hy.out
        clear hp
        go_wp2_with fail
        go_ret
        exact ⟨rfl, below_trans' hb1 (below_trans' hb2 (below_trans' hb3 hb4))⟩
      · rw [hy] at hadd
        have Hl1 := Lib.hid (textsF_len hx)
        have Hl2 := Lib.hid (textsF_len hy)
        have Hx := Lib.hid hx
        have Hy := Lib.hid hy
        have Ha : Hid (textsF l d ((m : Int) + n) = .ok (ts ++ us, j2)) := Lib.hid hadd
        have hsame := sameAll_refl (ts ++ us)
        clear hx hy hadd
        go_enter Try.func8, Try.ntmps8
        go_wp2_with (go_at_call 9; refine (live01 _).mono ?_; rintro e w1 ⟨rfl, hb1⟩; have hr1 := (hr.below hb1).more hb1.size)
        refine (Texts_any _ _ _ l d _ _ (by omega) hkc (by omega) hr1).mono ?_
        intro e w2 hp
        obtain ⟨A2, n2, c2, vs2, rfl, hr2, ht2, hl2, hb2⟩ := hp.yes Ha.out
        have hz2' : n2 ≤ 2000 := by rw [hl2, List.length_append, Hl1.out, Hl2.out]; omega
        have hr12 := (hr1.below hb2).more hb2.size
        clear hp hl2
        go_wp2_with fail
        refine (Texts_any _ _ _ l d _ _ (by omega) hkc (by omega) hr12).mono ?_
        intro e w3 hp
        obtain ⟨A3, n3, c3, vs3, rfl, hr3, ht3, hl3, hb3⟩ := hp.yes Hx.out
        have hz3' : n3 ≤ 1000 := by rw [hl3, Hl1.out]; omega
        have hr13 := (hr12.below hb3).more hb3.size
        clear hp hl3
        go_wp2_with fail
        refine (Texts_any _ _ _ l j _ _ (by omega) hkc (by omega) hr13).mono ?_
        intro e w4 hp
        obtain ⟨A4, n4, c4, vs4, rfl, hr4, ht4, hl4, hb4⟩ := hp.yes Hy.out
        have hz4' : n4 ≤ 1000 := by rw [hl4, Hl2.out]; omega
        clear hp hl4
        have hr34 := (hr3.below hb4).more hb4.size
        have ht34 := (ht3.below hb4).more hb4.size
        have hr24 := (hr2.below (below_trans' hb3 hb4))
        have ht24 := (ht2.below (below_trans' hb3 hb4))
        go_wp2_with (first
          | (at_builtin; refine wpList_append_rd _ rfl (.const (.slice none 0 0)) (.tmp 96) _ rfl w4.heap.size 22 i0 _ 24 Try.underlying24 hi0 hz0 hz1 hz2 rfl (.slice none 0 0) 0 [] rfl (World.ownsRow_nil _ _ _ _) w4.heap.size A3 n3 c3 vs3 rfl hr34 ht34.one_cell (by simp only [maxLen]; omega) (by omega) (Nat.le_refl _) ?_; intro v5 w5 ho5 hg5 hat5; rw [Nat.zero_add, List.nil_append] at ho5; have hb5 := (Below.refl w4.heap.size w4).grown hg5 (Nat.le_refl _) (by simp [Value.ownBlock]); have hs5 := hb5.size)
          | (at_builtin; refine wpList_append_rd _ rfl (.tmp 97) (.tmp 98) _ rfl w4.heap.size 22 i0 _ 24 Try.underlying24 hi0 hz0 hz1 hz2 rfl v5 n3 vs3 rfl ho5 w4.heap.size A4 n4 c4 vs4 rfl (hr4.below hb5) ht4.one_cell (by simp only [maxLen]; omega) (by omega) hs5 ?_; intro v6 w6 ho6 hg6 hat6; obtain ⟨A6, c6, rfl, _, _⟩ := own_form ho6; have hb6 := hb5.grown hg6 hs5 (fun g hg => (ho5.lt g hg).1)))
        have hr6 := Rd.of_own ho6
        have ht6 : Txs w6 w6.heap.size (vs3 ++ vs4) (ts ++ us) := by
          exact ((ht34.below hb6).more hb6.size).append ((ht4.below hb6).more hb6.size)
        refine (SameAll_any _ _ _ _ _ _ _ _ _ _ _ _ _ (by omega) (by omega) (hr24.below (hb6.mono (Nat.le_trans hb3.size hb4.size))) (ht24.below (hb6.mono (Nat.le_trans hb3.size hb4.size))) hr6 ht6).mono ?_
        rintro e w7 ⟨rfl, q, rfl⟩
        go_wp2_with fail
        go_ret
        exact ⟨rfl, (below_trans' hb1 (below_trans' hb2 (below_trans' hb3 (below_trans' hb4 hb6)))).trans ⟨rfl, rfl, rfl, Nat.le_refl _, fun _ _ => rfl⟩⟩
  · by_cases hk : k ≤ 3000
    · by_cases c1 : m < 0
      · clear hpre
        go_enter Try.func8, Try.ntmps8
        go_wp2_with (go_at_call 9; refine (live01 _).mono ?_; rintro e w1 ⟨rfl, hb1⟩)
        go_ret
        exact ⟨rfl, hb1⟩
      · by_cases c2 : n < 0
        · clear hpre
          go_enter Try.func8, Try.ntmps8
          go_wp2_with (go_at_call 9; refine (live01 _).mono ?_; rintro e w1 ⟨rfl, hb1⟩)
          go_ret
          exact ⟨rfl, hb1⟩
        · by_cases c3 : 1000 < m
          · clear hpre
            go_enter Try.func8, Try.ntmps8
            go_wp2_with (go_at_call 9; refine (live01 _).mono ?_; rintro e w1 ⟨rfl, hb1⟩)
            go_ret
            exact ⟨rfl, hb1⟩
          · have c4 : 1000 < n := by omega
            clear hpre
            go_enter Try.func8, Try.ntmps8
            go_wp2_with (go_at_call 9; refine (live01 _).mono ?_; rintro e w1 ⟨rfl, hb1⟩)
            go_ret
            exact ⟨rfl, hb1⟩
    · clear hpre
      go_enter Try.func8, Try.ntmps8
      go_wp2_with (go_at_call 9; refine (live01 _).mono ?_; rintro e w1 ⟨rfl, hb1⟩)
      go_ret
      exact ⟨rfl, hb1⟩

end Go.Proofs.Ytlpgljdfokfilaa
