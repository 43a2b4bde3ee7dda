/-
  CONTRACTS of wire.Num, wire.Text and the document's own (Bytes, Num, Text).
-/
import Derived.Test.YtlpgljdfokfilaaWireA
set_option linter.unusedVariables false
namespace Go.Proofs.Ytlpgljdfokfilaa
open Go.RowKit

set_option maxHeartbeats 400000 in
theorem Bytes_any (width n : Nat) (w : World) (hw : width ≤ 8) (hn : n < 18446744073709551616) :
    Calls Try.prog 30 #[.int .i64 (width : Int), .int .u64 (n : Int)] w fun e w' =>
      ∃ A c, e = .returned (.slice A width c) ∧ w'.ownsRow w.heap.size 5 1 (.slice A width c) width ((be width n).map bv) ∧ Below w.heap.size w w' := by
  obtain ⟨i0, hi0, hz0, hz1, hz2⟩ := info_parts byteInfo
  go_enter Try.func30, Try.ntmps30
  go_wp2
  go_loopw [1, 5, 7] (fun x v i wr => ∃ j : Nat, j ≤ width ∧ i = .int .i64 (j : Int) ∧ x = .int .u64 ((n / 256 ^ j : Nat) : Int) ∧ wr.ownsRow w.heap.size 5 1 v j ((be j n).map bv) ∧ Below w.heap.size w wr) (fun _ _ i _ => width - (intOf i).toNat)
  case atStart => exact ⟨0, by omega, rfl, by simp, World.ownsRow_nil _ _ _ _, Below.refl _ _⟩
  case round =>
    obtain ⟨j, hj, rfl, rfl, hown1, hbel⟩ := hrel
    have hsz := hbel.size
    have hq : n / 256 ^ j < 18446744073709551616 := Nat.lt_of_le_of_lt (Nat.div_le_self _ _) hn
    have hq2 : n / 256 ^ (j + 1) = n / 256 ^ j / 256 := by rw [Nat.div_div_eq_div_mul, Nat.pow_succ]
    have Hq2 := Lib.hid hq2
    clear hq2
    have hbc := be_cons j n
    have Hbc := Lib.hid hbc
    clear hbc
    generalize hg : n / 256 ^ j = q at *
    clear hg
    by_cases hlt : j < width
    · obtain ⟨A, c, rfl, hc, hl⟩ := own_form hown1
      go_wp2_with (at_builtin; refine wpList_append_rd _ rfl (.tmp 12) (.tmp 13) _ rfl w.heap.size 5 i0 _ 1 Try.underlying22 hi0 hz0 hz1 hz2 rfl (.slice (some ⟨wr.heap.size, 0, none⟩) 1 1) 1 [.int .u8 ((q : Int) % 256)] rfl (own_new _ _ _ #[_] (by omega) (by simp [maxLen])) wr.heap.size A j c ((be j n).map bv) rfl ((Rd.of_own hown1).alloc (Nat.le_refl _) _) (one_bv _) (by simp only [maxLen]; omega) (by omega) (by simp; omega) ?_; intro v1 w1 hown2 hgr hat)
      go_roundw
      case rel =>
        refine ⟨j + 1, by omega, by go_num, ?_, ?_, ?_⟩
        · rw [Hq2.out]; rfl
        · rw [Hbc.out, List.map_cons, bv_def]
          have e : ((UInt8.ofNat q).toNat : Int) = (q : Int) % 256 := by simp [UInt8.toNat_ofNat']
          rw [e, Nat.add_comm]
          exact hown2
        · exact (hbel.alloc (by omega) _).grown hgr (by simp; omega) (by simp [Value.ownBlock]; omega)
      case measure => simp [intOf]; omega
    · obtain rfl : j = width := by omega
      go_wp2
      go_ret
      obtain ⟨A, c, rfl, hc, hl⟩ := own_form hown1
      exact ⟨A, c, rfl, hown1, hbel⟩

def NumPost (w : World) (l : List UInt8) (width : Int) (ns : List Nat) (e : Ending) (w' : World) : Prop :=
  Below w.heap.size w w' ∧ ((Good width ns ∧ ∃ A n c, e = .returned (.tuple #[.slice A n c, .int .i64 0]) ∧ w'.ownsRow w.heap.size 5 1 (.slice A n c) n ((l ++ nums width.toNat ns).map bv)) ∨
    (¬ Good width ns ∧ e = .returned (.tuple #[.slice none 0 0, .int .i64 1])))

theorem NumPost.yes {w w' : World} {l : List UInt8} {d : Int} {ns : List Nat} {e : Ending} (h : NumPost w l d ns e w') (h0 : Good d ns) :
    ∃ A n c, e = .returned (.tuple #[.slice A n c, .int .i64 0]) ∧ w'.ownsRow w.heap.size 5 1 (.slice A n c) n ((l ++ nums d.toNat ns).map bv) ∧ n ≤ c ∧ Hid (n = (l ++ nums d.toNat ns).length) ∧ Below w.heap.size w w' := by
  obtain ⟨hb, ⟨_, A, n, c, he, ho⟩ | ⟨h1, _⟩⟩ := h
  · obtain ⟨A', c', e', hc, hl⟩ := own_form ho
    injection e' with _ _ e3
    subst e3
    exact ⟨A, n, c, he, ho, hc, Lib.hid (by simpa using hl.symm), hb⟩
  · exact absurd h0 h1

theorem NumPost.no {w w' : World} {l : List UInt8} {d : Int} {ns : List Nat} {e : Ending} (h : NumPost w l d ns e w') (h0 : ¬ Good d ns) :
    e = .returned (.tuple #[.slice none 0 0, .int .i64 1]) ∧ Below w.heap.size w w' := by
  obtain ⟨hb, ⟨h1, _⟩ | ⟨_, he⟩⟩ := h
  · exact absurd h1 h0
  · exact ⟨he, hb⟩

def AllFit (width : Nat) (ns : List Nat) (j : Nat) : Prop := ∀ i x : Nat, i < j → ns[i]? = some x → x < 256 ^ width
theorem AllFit.snoc {width : Nat} {ns : List Nat} {j x : Nat} (h : AllFit width ns j) (hx : ns[j]? = some x) (hf : x < 256 ^ width) : AllFit width ns (j + 1) := by
  intro i y hi hy
  rcases Nat.lt_or_ge i j with h1 | h1
  · exact h i y h1 hy
  · obtain rfl : i = j := by omega
    rw [hx] at hy
    injection hy with hy
    omega

set_option maxHeartbeats 1000000 in
theorem Num_any (A : Option Addr) (k c : Nat) (l : List UInt8) (d : Int) (An : Option Addr) (m cn : Nat) (ns : List Nat) (w : World) (hk : k ≤ 1073741824) (hm : m ≤ 1073741824)
    (hr : Rd w w.heap.size A k (l.map bv)) (hn : Rd w w.heap.size An m (ns.map qv)) (h64 : ∀ i x : Nat, ns[i]? = some x → x < 18446744073709551616) :
    Calls Try.prog 12 #[.slice A k c, .int .i64 d, .slice An m cn] w (NumPost w l d ns) := by
  by_cases hd : 1 ≤ d ∧ d ≤ 8
  · obtain ⟨hd1, hd2⟩ := hd
    obtain ⟨width, rfl⟩ := Int.eq_ofNat_of_zero_le (show 0 ≤ d by omega)
    have hml : ns.length = m := by have := hn.len; simpa using this
    have Hml := Lib.hid hml
    clear hml
    go_enter Try.func12, Try.ntmps12
    go_wp2_with (go_at_call 26; refine (isWidth_yes _ _ (by omega) (by omega)).mono ?_; rintro e w' ⟨rfl, rfl⟩)
    go_loop [18] (fun i => ∃ j : Nat, j ≤ m ∧ i = .int .i64 (j : Int) ∧ AllFit width ns j) (fun i => m - (intOf i).toNat)
    case atStart => exact ⟨0, by omega, rfl, fun i x hi => absurd hi (by omega)⟩
    case round =>
      obtain ⟨j, hj, rfl, hall⟩ := hrel
      by_cases hlt : j < m
      · obtain ⟨b, o, rfl, hb, hc⟩ := hn.pos (by omega)
        obtain ⟨x, hx, hx64⟩ : ∃ x, ns[j]? = some x ∧ x < 18446744073709551616 := by
          have hl : j < ns.length := by have := Hml.out; omega
          exact ⟨ns[j], List.getElem?_eq_getElem hl, h64 j _ (List.getElem?_eq_getElem hl)⟩
        have hcell : w.cell? ⟨b, o + j, none⟩ = some (.int .u64 (x : Int)) := hc j _ (by rw [List.getElem?_map, hx]; rfl)
        have Hx := Lib.hid hx
        have Hc := Lib.hid hc
        clear hx hc
        by_cases hfit : x < 256 ^ width
        · have Hfit := Lib.hid hfit
          clear hfit
          go_wp2_with (go_at_call 27; refine (fits_yes _ _ _ (by omega) Hfit.out).mono ?_; rintro e w' ⟨rfl, rfl⟩)
          go_round
          case rel => exact ⟨j + 1, by omega, by go_num, hall.snoc Hx.out Hfit.out⟩
          case measure => simp [intOf]; omega
        · have Hfit := Lib.hid hfit
          clear hfit
          go_wp2_with (go_at_call 27; refine (fits_no _ _ _ (by omega) (by have := Hfit.out; omega)).mono ?_; rintro e w' ⟨rfl, rfl⟩)
          go_ret2
          exact ⟨Below.refl _ _, .inr ⟨fun h => Hfit.out (by have := h.2.2 j x Hx.out; simpa using this), rfl⟩⟩
      · obtain rfl : j = m := by omega
        have hp0 : 0 ≤ (width : Int) * (j : Int) := Int.mul_nonneg (by omega) (by omega)
        have hp1 : (width : Int) * (j : Int) ≤ 8589934592 := by
          have h1 : (width : Int) * (j : Int) ≤ 8 * (j : Int) := Int.mul_le_mul_of_nonneg_right (by omega) (by omega)
          omega
        go_wp2_with (go_at_call 28; refine (grown_any _ _ _ _ l _ (by omega) (by omega) (by omega) hr).mono ?_; rintro e w1 ⟨A1, c1, rfl, hown1, hbel1⟩)
        go_loopw [10, 35] (fun v i wr => ∃ q : Nat, q ≤ j ∧ i = .int .i64 (q : Int) ∧ wr.ownsRow w.heap.size 5 1 v (k + width * q) ((l ++ nums width (ns.take q)).map bv) ∧ Below w.heap.size w wr) (fun _ i _ => j - (intOf i).toNat)
        case atStart => exact ⟨0, by omega, rfl, by simpa [nums] using hown1, hbel1⟩
        case round =>
          obtain ⟨q, hq, rfl, hown2, hbel2⟩ := hrel
          have hsz := hbel2.size
          by_cases hlt : q < j
          · obtain ⟨b, o, rfl, hb, hc⟩ := (hn.below hbel2).pos (by omega)
            obtain ⟨x, hx, hx64⟩ : ∃ x, ns[q]? = some x ∧ x < 18446744073709551616 := by
              have hl : q < ns.length := by have := Hml.out; omega
              exact ⟨ns[q], List.getElem?_eq_getElem hl, h64 q _ (List.getElem?_eq_getElem hl)⟩
            have hcell : wr.cell? ⟨b, o + q, none⟩ = some (.int .u64 (x : Int)) := hc q _ (by rw [List.getElem?_map, hx]; rfl)
            have Hx := Lib.hid hx
            clear hx hc
            have hkq : k + width * q ≤ 1099511627776 := by
              have h1 : width * q ≤ 8 * q := Nat.mul_le_mul_right _ (by omega)
              omega
            go_wp2_with (go_at_call 29; refine (putNum_any w.heap.size _ (k + width * q) (l ++ nums width (ns.take q)) width x _ (by omega) hx64 hkq hown2 hsz).mono ?_; rintro e w3 ⟨v3, rfl, hown3, hbel3⟩)
            go_roundw
            case rel =>
              refine ⟨q + 1, by omega, by go_num, ?_, hbel2.trans hbel3⟩
              rw [take_succ_of Hx.out, nums_snoc, ← List.append_assoc, Nat.mul_succ, ← Nat.add_assoc]
              exact hown3
            case measure => simp [intOf]; omega
          · obtain rfl : q = j := by omega
            go_wp2
            go_ret2
            obtain ⟨A', c', rfl, _, _⟩ := own_form hown2
            refine ⟨hbel2, .inl ⟨⟨by omega, by omega, ?_⟩, A', _, c', rfl, ?_⟩⟩
            · exact fun i x hi => hall i x (by have := (List.getElem?_eq_some_iff.1 hi).1; have := Hml.out; omega) hi
            · have e : ns.take q = ns := List.take_of_length_le (by have := Hml.out; omega)
              rw [e] at hown2
              rw [Int.toNat_natCast]
              exact hown2
  · have hd' : d < 1 ∨ 8 < d := by omega
    clear hd
    go_enter Try.func12, Try.ntmps12
    go_wp2_with (go_at_call 26; refine (isWidth_no _ _ hd').mono ?_; rintro e w' ⟨rfl, rfl⟩)
    go_ret2
    exact ⟨Below.refl _ _, .inr ⟨fun h => by have := h.1; have := h.2.1; omega, rfl⟩⟩

end Go.Proofs.Ytlpgljdfokfilaa
