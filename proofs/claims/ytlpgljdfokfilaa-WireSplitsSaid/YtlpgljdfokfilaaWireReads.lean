/-
  THE WALK of coterielaw01.WireReads.
-/
import Derived.Test.YtlpgljdfokfilaaWireLive
set_option linter.unusedVariables false
namespace Go.Proofs.Ytlpgljdfokfilaa
open Go.RowKit

theorem TakeTextPost.any {w w' : World} {l : List UInt8} {d : Int} {e : Ending} (h : TakeTextPost w l d e w') :
    ∃ A n c, e = .returned (.tuple #[.slice A n c, .int .i64 (ttN l d), .int .i64 (ttE l d)]) ∧ Rd w' w'.heap.size A n ((ttL l d).map bv) ∧ Below w.heap.size w w' := by
  by_cases h0 : ttE l d = 0
  · obtain ⟨A, c, he, ho, _, hb⟩ := h.yes h0
    refine ⟨A, _, c, ?_, Rd.of_own ho, hb⟩
    rw [h0]; exact he
  · obtain ⟨he, hb⟩ := h.no h0
    have hL : ttL l d = [] := by unfold ttL; rw [if_neg h0]
    have hN : ttN l d = 0 := by unfold ttN; rw [if_neg h0]
    refine ⟨none, 0, 0, ?_, ?_, hb⟩
    · rw [hN]; exact he
    · rw [hL]; exact Rd.zero _ _ _

/-- what Texts answers, as one -/
def txRes : Except Int (List (List UInt8) × Int) → List (List UInt8) × Int × Int
  | .ok (ts, d) => (ts, d, 0)
  | .error er => ([], 0, er)

theorem own_small {w : World} {base : Nat} {e : TypeId} {v : Value} {n : Nat} {xs : List Value} (h : w.ownsRow base e 1 v n xs) : n ≤ 9223372036854775807 := by
  rcases h.2 with ⟨_, rfl⟩ | ⟨g, cap, cur, rfl, _, _, h1, h2, _⟩
  · omega
  · unfold maxLen at h2; omega

theorem TextsPost.any {w w' : World} {l : List UInt8} {d many : Int} {e : Ending} (h : TextsPost w l d many e w') :
    ∃ A n c vs, e = .returned (.tuple #[.slice A n c, .int .i64 (txRes (textsF l d many)).2.1, .int .i64 (txRes (textsF l d many)).2.2]) ∧ Rd w' w'.heap.size A n vs ∧
      Txs w' w'.heap.size vs (txRes (textsF l d many)).1 ∧ n ≤ 9223372036854775807 ∧ Below w.heap.size w w' := by
  obtain ⟨hb, ⟨er, h1, _, he⟩ | ⟨ts, d', A, n, c, vs, h1, he, ho, htx⟩⟩ := h
  · rw [h1]
    exact ⟨none, 0, 0, [], he, Rd.zero _ _ _, Txs.nil _ _, by omega, hb⟩
  · rw [h1]
    exact ⟨A, n, c, vs, he, Rd.of_own ho, htx.txs, own_small ho, hb⟩

theorem sameAll_refl (ts : List (List UInt8)) : sameAllB ts ts = true := sameAllB_eq rfl

set_option maxHeartbeats 1000000 in
theorem walk_WireReads (A : Option Addr) (k c : Nat) (l : List UInt8) (d wd mn : Int) (w : World) (hkc : k ≤ c) (hcm : c ≤ maxLen) (hr : Rd w w.heap.size A k (l.map bv))
    (_hd1 : -9223372036854775808 ≤ d) (_hd2 : d ≤ 9223372036854775807) (_hw1 : -9223372036854775808 ≤ wd) (_hw2 : wd ≤ 9223372036854775807) (hm1 : -9223372036854775808 ≤ mn) (hm2 : mn ≤ 9223372036854775807) :
    Calls Try.prog 4 #[.slice A k c, .int .i64 d, .int .i64 wd, .int .i64 mn] w fun e w' => e = .returned (.bool true) ∧ Below w.heap.size w w' := by
  unfold maxLen at hcm
  by_cases hk : k ≤ 3000
  · have hself : ∀ z : Int, (z == z) = true := fun z => by simp
    have hm3 : mn.tmod 3000 < 3000 := Int.tmod_lt_of_pos _ (by omega)
    have hm4 : -9223372036854775808 ≤ mn.tmod 3000 := by
      have := Int.lt_tmod_of_pos mn (show (0 : Int) < 3000 by omega)
      omega
    have hs1 := sameB_refl (ttL l d)
    have hs2 := sameAll_refl (txRes (textsF l d (mn.tmod 3000))).1
    go_enter Try.func4, Try.ntmps4
    go_wp2_with (first
      | (go_at_call 9; refine (live01 _).mono ?_; rintro e w1 ⟨rfl, hb1⟩; have hr1 := (hr.below hb1).more hb1.size)
      | (go_at_call 17; refine (TakeNum_any _ _ _ l d wd _ (by omega) hkc hr1).mono ?_; rintro e w' ⟨rfl, rfl⟩)
      | (go_at_call 18; refine (refTakeNum_any _ _ _ l d wd _ (by omega) hkc hr1).mono ?_; rintro e w' ⟨rfl, rfl⟩)
      | (go_at_call 19; refine (TakeText_any _ _ _ l d _ (by omega) hkc hr1).mono ?_; intro e w2 hp; obtain ⟨A2, n2, c2, rfl, hr2, hb2⟩ := hp.any; clear hp; have hr12 := (hr1.below hb2).more hb2.size)
      | (go_at_call 20; refine (refTakeText_any _ _ _ l d _ (by omega) hkc hr12).mono ?_; intro e w3 hp; obtain ⟨A3, n3, c3, rfl, hr3, hb3⟩ := hp.any; clear hp; have hr13 := (hr12.below hb3).more hb3.size)
      | (go_at_call 21; refine (Texts_any _ _ _ l d _ _ (by omega) hkc (by omega) hr13).mono ?_; intro e w4 hp; obtain ⟨A4, n4, c4, vs4, rfl, hr4, ht4, hz4, hb4⟩ := hp.any; clear hp; have hr14 := (hr13.below hb4).more hb4.size)
      | (go_at_call 22; refine (refTexts_any _ _ _ l d _ _ (by omega) hkc (by omega) hr14).mono ?_; intro e w5 hp; obtain ⟨A5, n5, c5, vs5, rfl, hr5, ht5, hz5, hb5⟩ := hp.any; clear hp))
    have hr2' := ((((hr2.below hb3).more hb3.size).below hb4).more hb4.size).below hb5
    have hr3' := ((hr3.below hb4).more hb4.size).below hb5
    have hr4' := hr4.below hb5
    have ht4' := ht4.below hb5
    refine (Same_any _ _ _ _ _ _ _ _ _ _ _ hr2' hr3').mono ?_
    rintro e w6 ⟨rfl, rfl⟩
    go_wp2_with (first
      | (go_at_call 23; refine (SameAll_any _ _ _ _ _ _ _ _ _ _ _ _ _ hz4 hz5 hr4' ht4' hr5 ht5).mono ?_; rintro e w7 ⟨rfl, q, rfl⟩)
      | (go_at_call 24; refine (End_any _ _ _ _ _).mono ?_; rintro e w8 ⟨rfl, rfl⟩)
      | (go_at_call 25; refine (refEnd_any _ _ _ _ _).mono ?_; rintro e w8 ⟨rfl, rfl⟩))
    go_ret
    exact ⟨rfl, (below_trans' hb1 (below_trans' hb2 (below_trans' hb3 (below_trans' hb4 hb5)))).trans ⟨rfl, rfl, rfl, Nat.le_refl _, fun _ _ => rfl⟩⟩
  · go_enter Try.func4, Try.ntmps4
    go_wp2_with (go_at_call 9; refine (live01 _).mono ?_; rintro e w1 ⟨rfl, hb1⟩)
    go_ret
    exact ⟨rfl, hb1⟩

end Go.Proofs.Ytlpgljdfokfilaa
