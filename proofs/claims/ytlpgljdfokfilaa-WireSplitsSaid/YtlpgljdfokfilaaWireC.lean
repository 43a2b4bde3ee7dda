/-
  CONTRACTS of the document's own Num (the same post as wire.Num's), of wire.Text and the document's own Text.
-/
import Derived.Test.YtlpgljdfokfilaaWireB
set_option linter.unusedVariables false
namespace Go.Proofs.Ytlpgljdfokfilaa
open Go.RowKit

theorem gtB (n m : Nat) (h : n < 256 ^ m) : decide (0 < (n : Int) / 2 ^ (8 * m)) = false := by
  have := fitsB n m h
  rw [beq_iff_eq] at this
  rw [this]; rfl

theorem gtNotB (n m : Nat) (h : 256 ^ m ≤ n) : decide (0 < (n : Int) / 2 ^ (8 * m)) = true := by
  rw [pow256i, decide_eq_true_eq]
  have : 0 < n / 256 ^ m := Nat.div_pos h (Nat.pow_pos (by omega))
  exact_mod_cast this

theorem pow8 : 256 ^ 8 = 18446744073709551616 := rfl

set_option maxHeartbeats 1000000 in
theorem refNum_any (A : Option Addr) (k c : Nat) (l : List UInt8) (d : Int) (An : Option Addr) (m cn : Nat) (ns : List Nat) (w : World) (hk : k ≤ 1073741824) (hm : m ≤ 1073741824)
    (hr : Rd w w.heap.size A k (l.map bv)) (hn : Rd w w.heap.size An m (ns.map qv)) (h64 : ∀ i x : Nat, ns[i]? = some x → x < 18446744073709551616) :
    Calls Try.prog 13 #[.slice A k c, .int .i64 d, .slice An m cn] w (NumPost w l d ns) := by
  obtain ⟨i0, hi0, hz0, hz1, hz2⟩ := info_parts byteInfo
  by_cases hd : 1 ≤ d ∧ d ≤ 8
  · obtain ⟨hd1, hd2⟩ := hd
    obtain ⟨width, rfl⟩ := Int.eq_ofNat_of_zero_le (show 0 ≤ d by omega)
    have hml : ns.length = m := by have := hn.len; simpa using this
    have Hml := Lib.hid hml
    clear hml
    have h8f : decide ((8 : Int) < (width : Int)) = false := by simp; omega
    go_enter Try.func13, Try.ntmps13
    go_wp2_with (go_at_call 11; refine (Copy_any _ _ _ l _ (by omega) hr).mono ?_; rintro e w1 ⟨A1, c1, rfl, hown1, hbel1⟩)
    go_loopw [8, 21] (fun v i wr => ∃ q : Nat, q ≤ m ∧ i = .int .i64 (q : Int) ∧ AllFit width ns q ∧ wr.ownsRow w.heap.size 5 1 v (k + width * q) ((l ++ nums width (ns.take q)).map bv) ∧ Below w.heap.size w wr) (fun _ i _ => m - (intOf i).toNat)
    case atStart => exact ⟨0, by omega, rfl, fun i x hi => absurd hi (by omega), by simpa [nums] using hown1, hbel1⟩
    case round =>
      obtain ⟨q, hq, rfl, hall, hown2, hbel2⟩ := hrel
      have hsz := hbel2.size
      by_cases hlt : q < m
      · obtain ⟨b, o, rfl, hb, hc⟩ := (hn.below hbel2).pos (by omega)
        obtain ⟨x, hx, hx64⟩ : ∃ x, ns[q]? = some x ∧ x < 18446744073709551616 := by
          have hl : q < ns.length := by have := Hml.out; omega
          exact ⟨ns[q], List.getElem?_eq_getElem hl, h64 q _ (List.getElem?_eq_getElem hl)⟩
        have hcell : wr.cell? ⟨b, o + q, none⟩ = some (.int .u64 (x : Int)) := hc q _ (by rw [List.getElem?_map, hx]; rfl)
        have Hx := Lib.hid hx
        clear hx hc
        have hkq : k + width * q ≤ 1099511627776 := by
          have h1 : width * q ≤ 8 * q := Nat.mul_le_mul_right _ (by omega)
          omega
        by_cases hfit : x < 256 ^ width
        · have hgt := gtB x width hfit
          have Hfit := Lib.hid hfit
          clear hfit
          by_cases hw8 : width < 8
          all_goals
            go_wp2_with (first | (go_at_call 30; refine (Bytes_any _ _ _ (by omega) hx64).mono ?_; rintro e w3 ⟨A3, c3, rfl, hown3, hbel3⟩; have hown2' := own_below hown2 hbel3) | (at_builtin; refine wpList_append_rd _ rfl (.tmp 34) (.tmp 37) _ rfl w.heap.size 5 i0 _ 1 Try.underlying22 hi0 hz0 hz1 hz2 rfl u8 (k + width * q) _ rfl hown2' w3.heap.size A3 width c3 ((be width x).map bv) rfl (Rd.of_own hown3) (one_bv _) (by simp only [maxLen]; omega) (by omega) (Nat.le_trans hsz hbel3.size) ?_; intro v4 w4 hown4 hgr4 hat4))
            go_roundw
            case rel =>
              refine ⟨q + 1, by omega, by go_num, hall.snoc Hx.out Hfit.out, ?_, ?_⟩
              · rw [take_succ_of Hx.out, nums_snoc, ← List.append_assoc, Nat.mul_succ, ← Nat.add_assoc, List.map_append]
                exact hown4
              · exact (hbel2.trans (hbel3.mono hsz)).grown hgr4 (Nat.le_trans hsz hbel3.size) (fun g hg => (hown2.lt g hg).1)
            case measure => simp [intOf]; omega
        · have hgt := gtNotB x width (by omega)
          have hw8 : width < 8 := by
            rcases Nat.lt_or_ge width 8 with h8 | h8
            · exact h8
            · obtain rfl : width = 8 := by omega
              rw [pow8] at hfit
              omega
          have Hfit := Lib.hid hfit
          clear hfit
          go_wp2_with fail
          go_ret2
          exact ⟨hbel2, .inr ⟨fun h => Hfit.out (by have := h.2.2 q x Hx.out; simpa using this), rfl⟩⟩
      · obtain rfl : q = m := by omega
        go_wp2
        go_ret2
        obtain ⟨A', c', rfl, _, _⟩ := own_form hown2
        refine ⟨hbel2, .inl ⟨⟨by omega, by omega, ?_⟩, A', _, c', rfl, ?_⟩⟩
        · exact fun i x hi => hall i x (by have := (List.getElem?_eq_some_iff.1 hi).1; have := Hml.out; omega) hi
        · have e : ns.take q = ns := List.take_of_length_le (by have := Hml.out; omega)
          rw [e] at hown2
          rw [Int.toNat_natCast]
          exact hown2
  · rcases (show d < 1 ∨ (8 < d ∧ ¬ d < 1) by omega) with hd' | ⟨hd', hd''⟩
    · clear hd
      go_enter Try.func13, Try.ntmps13
      go_wp2_with fail
      go_ret2
      exact ⟨Below.refl _ _, .inr ⟨fun h => by have := h.1; have := h.2.1; omega, rfl⟩⟩
    · have h8t : decide ((8 : Int) < d) = true := by simp; omega
      clear hd
      go_enter Try.func13, Try.ntmps13
      go_wp2_with fail
      go_ret2
      exact ⟨Below.refl _ _, .inr ⟨fun h => by have := h.1; have := h.2.1; omega, rfl⟩⟩

/-- texts in a list: each head reads its text -/
def Txs (w : World) (B : Nat) (vs : List Value) (ts : List (List UInt8)) : Prop :=
  vs.length = ts.length ∧ ∀ (i : Nat) (v : Value) (t : List UInt8), vs[i]? = some v → ts[i]? = some t → ∃ A c, v = .slice A t.length c ∧ t.length ≤ c ∧ Rd w B A t.length (t.map bv)

theorem Txs.below {w w' : World} {B : Nat} {vs : List Value} {ts : List (List UInt8)} (h : Txs w B vs ts) (hb : Below B w w') : Txs w' B vs ts :=
  ⟨h.1, fun i v t hv ht => by
    obtain ⟨A, c, e, hc, hr⟩ := h.2 i v t hv ht
    exact ⟨A, c, e, hc, hr.below hb⟩⟩
theorem Txs.more {w : World} {B B' : Nat} {vs : List Value} {ts : List (List UInt8)} (h : Txs w B vs ts) (hb : B ≤ B') : Txs w B' vs ts :=
  ⟨h.1, fun i v t hv ht => by
    obtain ⟨A, c, e, hc, hr⟩ := h.2 i v t hv ht
    exact ⟨A, c, e, hc, hr.more hb⟩⟩

theorem Txs.nil (w : World) (B : Nat) : Txs w B [] [] := ⟨rfl, fun i v t h => by simp at h⟩
theorem Txs.one {w : World} {B : Nat} {A : Option Addr} {c : Nat} {t : List UInt8} (hr : Rd w B A t.length (t.map bv)) (hc : t.length ≤ c) : Txs w B [.slice A t.length c] [t] :=
  ⟨rfl, fun i v u hv hu => by
    rcases i with _ | i
    · simp at hv hu; subst hv hu; exact ⟨A, c, rfl, hc, hr⟩
    · simp at hv⟩

end Go.Proofs.Ytlpgljdfokfilaa
