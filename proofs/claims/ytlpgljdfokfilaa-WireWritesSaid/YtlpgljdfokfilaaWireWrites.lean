/-
  THE WALK of coterielaw01.WireWrites.
-/
import Derived.Test.YtlpgljdfokfilaaWireReads
set_option linter.unusedVariables false
namespace Go.Proofs.Ytlpgljdfokfilaa
open Go.RowKit

/-- what Num, and Text, answer, as one: the error and the bytes -/
def NumSays (l : List UInt8) (d : Int) (ns : List Nat) (er : Int) (x : List UInt8) : Prop := (Good d ns ∧ er = 0 ∧ x = l ++ nums d.toNat ns) ∨ (¬ Good d ns ∧ er = 1 ∧ x = [])
def TextSays (l : List UInt8) (ts : List (List UInt8)) (er : Int) (x : List UInt8) : Prop := (GoodT ts ∧ er = 0 ∧ x = l ++ txs ts) ∨ (¬ GoodT ts ∧ er = 4 ∧ x = [])

theorem numSays (l : List UInt8) (d : Int) (ns : List Nat) : ∃ er x, NumSays l d ns er x := by
  by_cases h : Good d ns
  · exact ⟨_, _, .inl ⟨h, rfl, rfl⟩⟩
  · exact ⟨_, _, .inr ⟨h, rfl, rfl⟩⟩
theorem textSays (l : List UInt8) (ts : List (List UInt8)) : ∃ er x, TextSays l ts er x := by
  by_cases h : GoodT ts
  · exact ⟨_, _, .inl ⟨h, rfl, rfl⟩⟩
  · exact ⟨_, _, .inr ⟨h, rfl, rfl⟩⟩

theorem NumPost.says {w w' : World} {l x : List UInt8} {d er : Int} {ns : List Nat} {e : Ending} (h : NumPost w l d ns e w') (hs : NumSays l d ns er x) :
    ∃ A n c, e = .returned (.tuple #[.slice A n c, .int .i64 er]) ∧ w'.ownsRow w.heap.size 5 1 (.slice A n c) n (x.map bv) ∧ n ≤ 9223372036854775807 ∧ Below w.heap.size w w' := by
  rcases hs with ⟨hg, rfl, rfl⟩ | ⟨hg, rfl, rfl⟩
  · obtain ⟨A, n, c, he, ho, _, _, hb⟩ := h.yes hg
    exact ⟨A, n, c, he, ho, own_small ho, hb⟩
  · obtain ⟨he, hb⟩ := h.no hg
    exact ⟨none, 0, 0, he, World.ownsRow_nil _ _ _ _, by omega, hb⟩
theorem TextPost.says {w w' : World} {l x : List UInt8} {er : Int} {ts : List (List UInt8)} {e : Ending} (h : TextPost w l ts e w') (hs : TextSays l ts er x) :
    ∃ A n c, e = .returned (.tuple #[.slice A n c, .int .i64 er]) ∧ w'.ownsRow w.heap.size 5 1 (.slice A n c) n (x.map bv) ∧ n ≤ 9223372036854775807 ∧ Below w.heap.size w w' := by
  rcases hs with ⟨hg, rfl, rfl⟩ | ⟨hg, rfl, rfl⟩
  · obtain ⟨A, n, c, he, ho, _, _, hb⟩ := h.yes hg
    exact ⟨A, n, c, he, ho, own_small ho, hb⟩
  · obtain ⟨he, hb⟩ := h.no hg
    exact ⟨none, 0, 0, he, World.ownsRow_nil _ _ _ _, by omega, hb⟩

/-- cells that are bytes -/
def BytesIn (y : List Value) : Prop := ∀ (t : Nat) (u : Value), y[t]? = some u → ∃ z : Int, u = Value.int .u8 z
theorem BytesIn.of (x : List UInt8) : BytesIn (x.map bv) := by
  intro t u hu
  rw [List.getElem?_map] at hu
  obtain ⟨z, _, rfl⟩ := Option.map_eq_some_iff.1 hu
  exact ⟨_, rfl⟩
theorem BytesIn.set {y : List Value} (h : BytesIn y) (j : Nat) (z : Int) : BytesIn (y.set j (Value.int .u8 z)) := by
  intro t u hu
  rw [List.getElem?_set] at hu
  split at hu
  · split at hu
    · injection hu with hu; exact ⟨z, hu.symm⟩
    · cases hu
  · exact h t u hu

set_option maxHeartbeats 2000000 in
theorem walk_WireWrites (A : Option Addr) (k c : Nat) (l : List UInt8) (d : Int) (An : Option Addr) (m cn : Nat) (ns : List Nat) (At : Option Addr) (q ct : Nat) (vs : List Value) (ts : List (List UInt8)) (w : World)
    (hkc : k ≤ c) (hcm : c ≤ maxLen) (hr : Rd w w.heap.size A k (l.map bv)) (_hd1 : -9223372036854775808 ≤ d) (_hd2 : d ≤ 9223372036854775807)
    (hmc : m ≤ cn) (hnm : cn ≤ maxLen) (hrn : Rd w w.heap.size An m (ns.map qv)) (h64 : ∀ i x : Nat, ns[i]? = some x → x < 18446744073709551616)
    (_hqc : q ≤ ct) (_hqm : ct ≤ maxLen) (hq24 : q * 24 ≤ 140737488355328) (hv : Rd w w.heap.size At q vs) (ht : Txs w w.heap.size vs ts) :
    Calls Try.prog 3 #[.slice A k c, .int .i64 d, .slice An m cn, .slice At q ct] w fun e w' => e = .returned (.bool true) ∧ Below w.heap.size w w' := by
  unfold maxLen at hcm hnm
  by_cases hk : k ≤ 2000
  · by_cases hm : m ≤ 200
    · obtain ⟨er1, x1, hs1⟩ := numSays l d ns
      obtain ⟨er2, x2, hs2⟩ := textSays l ts
      have hself : ∀ z : Int, (z == z) = true := fun z => by simp
      have hx1 := sameB_refl x1
      have hx2 := sameB_refl x2
      have hx3 := sameB_refl l
      have hm' : decide ((200 : Int) < (m : Int)) = false := by simp; omega
      go_enter Try.func3, Try.ntmps3
      go_wp2_with (first
        | (go_at_call 9; refine (live01 _).mono ?_; rintro e w1 ⟨rfl, hb1⟩; have hr1 := (hr.below hb1).more hb1.size; have hrn1 := (hrn.below hb1).more hb1.size; have hv1 := (hv.below hb1).more hb1.size; have ht1 := (ht.below hb1).more hb1.size))
      refine (Few_any _ _ _ vs ts _ _ (by omega) hv1 ht1).mono ?_
      rintro e w2 ⟨bf, rfl, hbf, rfl⟩
      cases bf
      · go_wp2_with fail
        go_ret
        exact ⟨rfl, hb1⟩
      · have hq := hbf rfl
        clear hbf
        go_wp2_with (first
          | (go_at_call 11; refine (Copy_any _ _ _ l _ (by omega) hr1).mono ?_; rintro e w2 ⟨A2, c2, rfl, ho2, hb2⟩; have hr2 := (hr1.below hb2).more hb2.size; have hrn2 := (hrn1.below hb2).more hb2.size; have hv2 := (hv1.below hb2).more hb2.size; have ht2 := (ht1.below hb2).more hb2.size)
          | (go_at_call 12; refine (Num_any _ _ _ l d _ _ _ ns _ (by omega) (by omega) hr2 hrn2 h64).mono ?_; intro e w3 hp; obtain ⟨A3, n3, c3, rfl, ho3, hz3, hb3⟩ := hp.says hs1; clear hp; have hr3 := (hr2.below hb3).more hb3.size; have hrn3 := (hrn2.below hb3).more hb3.size; have hv3 := (hv2.below hb3).more hb3.size; have ht3 := (ht2.below hb3).more hb3.size)
          | (go_at_call 13; refine (refNum_any _ _ _ l d _ _ _ ns _ (by omega) (by omega) hr3 hrn3 h64).mono ?_; intro e w4 hp; obtain ⟨A4, n4, c4, rfl, ho4, hz4, hb4⟩ := hp.says hs1; clear hp; have hr4 := (hr3.below hb4).more hb4.size; have hv4 := (hv3.below hb4).more hb4.size; have ht4 := (ht3.below hb4).more hb4.size)
          | (go_at_call 14; refine (Text_any _ _ _ l _ _ _ vs ts _ (by omega) (by omega) hr4 hv4 ht4).mono ?_; intro e w5 hp; obtain ⟨A5, n5, c5, rfl, ho5, hz5, hb5⟩ := hp.says hs2; clear hp; have hr5 := (hr4.below hb5).more hb5.size; have hv5 := (hv4.below hb5).more hb5.size; have ht5 := (ht4.below hb5).more hb5.size)
          | (go_at_call 15; refine (refText_any _ _ _ l _ _ _ vs ts _ (by omega) (by omega) hr5 hv5 ht5).mono ?_; intro e w6 hp; obtain ⟨A6, n6, c6, rfl, ho6, hz6, hb6⟩ := hp.says hs2; clear hp))
        have hb36 := below_trans' hb4 (below_trans' hb5 hb6)
        have p3 := (Rd.of_own ho3).below hb36
        have p4 := (Rd.of_own ho4).below (below_trans' hb5 hb6)
        have p5 := (Rd.of_own ho5).below hb6
        have p6 := Rd.of_own ho6
        have ho3' := own_below ho3 hb36
        refine (Same_any _ _ _ _ _ _ _ _ _ _ _ p3 p4).mono ?_
        rintro e w7 ⟨rfl, rfl⟩
        go_wp2_with fail
        refine (Same_any _ _ _ _ _ _ _ _ _ _ _ p5 p6).mono ?_
        rintro e w7 ⟨rfl, rfl⟩
        go_wp2_with fail
        go_loopw [86] (fun i wr => ∃ (j : Nat) (y : List Value), j ≤ n3 ∧ i = .int .i64 (j : Int) ∧ y.length = n3 ∧ BytesIn y ∧ wr.ownsRow w2.heap.size 5 1 (.slice A3 n3 c3) n3 y ∧ Below w2.heap.size w2 wr) (fun i _ => n3 - (intOf i).toNat)
        case atStart =>
          refine ⟨0, x1.map bv, by omega, rfl, by have := ho3'.1; simpa using this, BytesIn.of x1, ho3', hb3.trans (hb36.mono hb3.size)⟩
        case round =>
          obtain ⟨j, y, hj, rfl, hyl, hyv, hown, hbel⟩ := hrel
          by_cases hlt : j < n3
          · obtain ⟨g, cap, hv, _, hg⟩ := hown.form (by omega)
            injection hv with hA _ hc
            subst hA hc
            obtain ⟨z, hz⟩ := hyv j _ (List.getElem?_eq_getElem (show j < y.length by omega))
            have hcell : wr.cell? ⟨g, j, none⟩ = some (.int .u8 z) := by rw [hown.cellAt j (by omega), List.getElem?_eq_getElem (by omega), hz]
            have hfr := hown.frozenAt j
            clear hz
            go_wp2_with fail
            go_roundw
            case rel =>
              have hs := hown.stored j (.int .u8 ((z + 1) % 256))
              exact ⟨j + 1, y.set j _, by omega, by go_num, by simp [hyl], hyv.set j _, hs.1, hbel.setCell (by omega) _⟩
            case measure => simp [intOf]; omega
          · obtain rfl : j = n3 := by omega
            go_wp2_with fail
            refine (Same_any _ _ _ _ _ _ _ _ _ _ _ ((hr2.below hbel)) ((Rd.of_own ho2).below hbel)).mono ?_
            rintro e w8 ⟨rfl, rfl⟩
            go_wp2_with fail
            go_ret
            exact ⟨rfl, below_trans' hb1 (below_trans' hb2 hbel)⟩
    · have hm' : decide ((200 : Int) < (m : Int)) = true := by simp; omega
      go_enter Try.func3, Try.ntmps3
      go_wp2_with (go_at_call 9; refine (live01 _).mono ?_; rintro e w1 ⟨rfl, hb1⟩)
      go_ret
      exact ⟨rfl, hb1⟩
  · go_enter Try.func3, Try.ntmps3
    go_wp2_with (go_at_call 9; refine (live01 _).mono ?_; rintro e w1 ⟨rfl, hb1⟩)
    go_ret
    exact ⟨rfl, hb1⟩

end Go.Proofs.Ytlpgljdfokfilaa
