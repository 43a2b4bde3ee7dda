import Derived.Test.YtlidhdljgnijaaaDoorN02
import Derived.Test.YtlidhdljgnijaaaDoorN08
import Derived.Test.YtlidhdljgnijaaaDoorN17
import Derived.Test.YtlidhdljgnijaaaDoorN23
/-
  CONTRACTS of wire's small functions, and of the document's own: isWidth, fits, isPlace, grown, putNum.
-/
set_option linter.unusedVariables false
namespace Go.Proofs.YtlidhdljgnijaaaDoor
open Go.RowKit

theorem isWidth_yes (d : Int) (w : World) (h1 : 1 ≤ d) (h2 : d ≤ 8) :
    Calls Tryd.prog 69 #[.int .i64 d] w fun e w' => e = .returned (.bool true) ∧ w = w' := by
  go_enter Tryd.func69, Tryd.ntmps69
  go_wp2
  go_ret
  exact ⟨rfl, rfl⟩

theorem isWidth_no (d : Int) (w : World) (h : d < 1 ∨ 8 < d) :
    Calls Tryd.prog 69 #[.int .i64 d] w fun e w' => e = .returned (.bool false) ∧ w = w' := by
  by_cases h' : d < 1
  · go_enter Tryd.func69, Tryd.ntmps69
    go_wp2
    go_ret
    exact ⟨rfl, rfl⟩
  · have h8 : decide (d ≤ 8) = false := by simp; omega
    go_enter Tryd.func69, Tryd.ntmps69
    go_wp2
    go_ret
    exact ⟨rfl, rfl⟩

theorem fits_yes (n m : Nat) (w : World) (hm : m ≤ 8) (h : n < 256 ^ m) :
    Calls Tryd.prog 70 #[.int .u64 (n : Int), .int .i64 (m : Int)] w fun e w' => e = .returned (.bool true) ∧ w = w' := by
  have hb := fitsB n m h
  clear h
  go_enter Tryd.func70, Tryd.ntmps70
  go_wp2
  go_ret
  exact ⟨rfl, rfl⟩

theorem fits_no (n m : Nat) (w : World) (hm : m ≤ 8) (h : 256 ^ m ≤ n) :
    Calls Tryd.prog 70 #[.int .u64 (n : Int), .int .i64 (m : Int)] w fun e w' => e = .returned (.bool false) ∧ w = w' := by
  have hb := fitsNotB n m h
  clear h
  go_enter Tryd.func70, Tryd.ntmps70
  go_wp2
  go_ret
  exact ⟨rfl, rfl⟩

theorem isPlace_yes (A : Option Addr) (k c : Nat) (d : Int) (w : World) (h1 : 0 ≤ d) (h2 : d ≤ k) :
    Calls Tryd.prog 77 #[.slice A k c, .int .i64 d] w fun e w' => e = .returned (.bool true) ∧ w = w' := by
  go_enter Tryd.func77, Tryd.ntmps77
  go_wp2
  go_ret
  exact ⟨rfl, rfl⟩

theorem isPlace_no (A : Option Addr) (k c : Nat) (d : Int) (w : World) (h : d < 0 ∨ k < d) :
    Calls Tryd.prog 77 #[.slice A k c, .int .i64 d] w fun e w' => e = .returned (.bool false) ∧ w = w' := by
  by_cases h' : d < 0
  · go_enter Tryd.func77, Tryd.ntmps77
    go_wp2
    go_ret
    exact ⟨rfl, rfl⟩
  · have h8 : decide (d ≤ (k : Int)) = false := by simp; omega
    go_enter Tryd.func77, Tryd.ntmps77
    go_wp2
    go_ret
    exact ⟨rfl, rfl⟩

end Go.Proofs.YtlidhdljgnijaaaDoor

/-
  CONTRACTS of wire.Num, wire.Text and the document's own (Bytes, Num, Text).
-/
set_option linter.unusedVariables false
namespace Go.Proofs.YtlidhdljgnijaaaDoor
open Go.RowKit

def NumPost (w : World) (l : List UInt8) (width : Int) (ns : List Nat) (e : Ending) (w' : World) : Prop :=
  Below w.heap.size w w' ∧ ((Good width ns ∧ ∃ A n c, e = .returned (.tuple #[.slice A n c, .int .i64 0]) ∧ w'.ownsRow w.heap.size 5 1 (.slice A n c) n ((l ++ nums width.toNat ns).map bv)) ∨
    (¬ Good width ns ∧ e = .returned (.tuple #[.slice none 0 0, .int .i64 1])))

theorem NumPost.yes {w w' : World} {l : List UInt8} {d : Int} {ns : List Nat} {e : Ending} (h : NumPost w l d ns e w') (h0 : Good d ns) :
    ∃ A n c, e = .returned (.tuple #[.slice A n c, .int .i64 0]) ∧ w'.ownsRow w.heap.size 5 1 (.slice A n c) n ((l ++ nums d.toNat ns).map bv) ∧ n ≤ c ∧ Hid (n = (l ++ nums d.toNat ns).length) ∧ Below w.heap.size w w' := by
  obtain ⟨hb, ⟨_, A, n, c, he, ho⟩ | ⟨h1, _⟩⟩ := h
  · obtain ⟨A', c', e', hc, hl⟩ := own_form ho
    injection e' with _ _ e3
    subst e3
    exact ⟨A, n, c, he, ho, hc, Lib.hid (by simpa using hl.symm), hb⟩
  · exact absurd h0 h1

def AllFit (width : Nat) (ns : List Nat) (j : Nat) : Prop := ∀ i x : Nat, i < j → ns[i]? = some x → x < 256 ^ width
theorem AllFit.snoc {width : Nat} {ns : List Nat} {j x : Nat} (h : AllFit width ns j) (hx : ns[j]? = some x) (hf : x < 256 ^ width) : AllFit width ns (j + 1) := by
  intro i y hi hy
  rcases Nat.lt_or_ge i j with h1 | h1
  · exact h i y h1 hy
  · obtain rfl : i = j := by omega
    rw [hx] at hy
    injection hy with hy
    omega

set_option maxHeartbeats 1000000 in
theorem Num_any (A : Option Addr) (k c : Nat) (l : List UInt8) (d : Int) (An : Option Addr) (m cn : Nat) (ns : List Nat) (w : World) (hk : k ≤ 1073741824) (hm : m ≤ 1073741824)
    (hr : Rd w w.heap.size A k (l.map bv)) (hn : Rd w w.heap.size An m (ns.map qv)) (h64 : ∀ i x : Nat, ns[i]? = some x → x < 18446744073709551616) :
    Calls Tryd.prog 43 #[.slice A k c, .int .i64 d, .slice An m cn] w (NumPost w l d ns) := by
  by_cases hd : 1 ≤ d ∧ d ≤ 8
  · obtain ⟨hd1, hd2⟩ := hd
    obtain ⟨width, rfl⟩ := Int.eq_ofNat_of_zero_le (show 0 ≤ d by omega)
    have hml : ns.length = m := by have := hn.len; simpa using this
    have Hml := Lib.hid hml
    clear hml
    go_enter Tryd.func43, Tryd.ntmps43
    go_wp2_with (go_at_call 69; refine (isWidth_yes _ _ (by omega) (by omega)).mono ?_; rintro e w' ⟨rfl, rfl⟩)
    go_loop [18] (fun i => ∃ j : Nat, j ≤ m ∧ i = .int .i64 (j : Int) ∧ AllFit width ns j) (fun i => m - (intOf i).toNat)
    case atStart => exact ⟨0, by omega, rfl, fun i x hi => absurd hi (by omega)⟩
    case round =>
      obtain ⟨j, hj, rfl, hall⟩ := hrel
      by_cases hlt : j < m
      · obtain ⟨b, o, rfl, hb, hc⟩ := hn.pos (by omega)
        obtain ⟨x, hx, hx64⟩ : ∃ x, ns[j]? = some x ∧ x < 18446744073709551616 := by
          have hl : j < ns.length := by have := Hml.out; omega
          exact ⟨ns[j], List.getElem?_eq_getElem hl, h64 j _ (List.getElem?_eq_getElem hl)⟩
        have hcell : w.cell? ⟨b, o + j, none⟩ = some (.int .u64 (x : Int)) := hc j _ (by rw [List.getElem?_map, hx]; rfl)
        have Hx := Lib.hid hx
        have Hc := Lib.hid hc
        clear hx hc
        by_cases hfit : x < 256 ^ width
        · have Hfit := Lib.hid hfit
          clear hfit
          go_wp2_with (go_at_call 70; refine (fits_yes _ _ _ (by omega) Hfit.out).mono ?_; rintro e w' ⟨rfl, rfl⟩)
          go_round
          case rel => exact ⟨j + 1, by omega, by go_num, hall.snoc Hx.out Hfit.out⟩
          case measure => simp [intOf]; omega
        · have Hfit := Lib.hid hfit
          clear hfit
          go_wp2_with (go_at_call 70; refine (fits_no _ _ _ (by omega) (by have := Hfit.out; omega)).mono ?_; rintro e w' ⟨rfl, rfl⟩)
          go_ret2
          exact ⟨Below.refl _ _, .inr ⟨fun h => Hfit.out (by have := h.2.2 j x Hx.out; simpa using this), rfl⟩⟩
      · obtain rfl : j = m := by omega
        have hp0 : 0 ≤ (width : Int) * (j : Int) := Int.mul_nonneg (by omega) (by omega)
        have hp1 : (width : Int) * (j : Int) ≤ 8589934592 := by
          have h1 : (width : Int) * (j : Int) ≤ 8 * (j : Int) := Int.mul_le_mul_of_nonneg_right (by omega) (by omega)
          omega
        go_wp2_with (go_at_call 71; refine (grown_any _ _ _ _ l _ (by omega) (by omega) (by omega) hr).mono ?_; rintro e w1 ⟨A1, c1, rfl, hown1, hbel1⟩)
        go_loopw [10, 35] (fun v i wr => ∃ q : Nat, q ≤ j ∧ i = .int .i64 (q : Int) ∧ wr.ownsRow w.heap.size 5 1 v (k + width * q) ((l ++ nums width (ns.take q)).map bv) ∧ Below w.heap.size w wr) (fun _ i _ => j - (intOf i).toNat)
        case atStart => exact ⟨0, by omega, rfl, by simpa [nums] using hown1, hbel1⟩
        case round =>
          obtain ⟨q, hq, rfl, hown2, hbel2⟩ := hrel
          have hsz := hbel2.size
          by_cases hlt : q < j
          · obtain ⟨b, o, rfl, hb, hc⟩ := (hn.below hbel2).pos (by omega)
            obtain ⟨x, hx, hx64⟩ : ∃ x, ns[q]? = some x ∧ x < 18446744073709551616 := by
              have hl : q < ns.length := by have := Hml.out; omega
              exact ⟨ns[q], List.getElem?_eq_getElem hl, h64 q _ (List.getElem?_eq_getElem hl)⟩
            have hcell : wr.cell? ⟨b, o + q, none⟩ = some (.int .u64 (x : Int)) := hc q _ (by rw [List.getElem?_map, hx]; rfl)
            have Hx := Lib.hid hx
            clear hx hc
            have hkq : k + width * q ≤ 1099511627776 := by
              have h1 : width * q ≤ 8 * q := Nat.mul_le_mul_right _ (by omega)
              omega
            go_wp2_with (go_at_call 72; refine (putNum_any w.heap.size _ (k + width * q) (l ++ nums width (ns.take q)) width x _ (by omega) hx64 hkq hown2 hsz).mono ?_; rintro e w3 ⟨v3, rfl, hown3, hbel3⟩)
            go_roundw
            case rel =>
              refine ⟨q + 1, by omega, by go_num, ?_, hbel2.trans hbel3⟩
              rw [take_succ_of Hx.out, nums_snoc, ← List.append_assoc, Nat.mul_succ, ← Nat.add_assoc]
              exact hown3
            case measure => simp [intOf]; omega
          · obtain rfl : q = j := by omega
            go_wp2
            go_ret2
            obtain ⟨A', c', rfl, _, _⟩ := own_form hown2
            refine ⟨hbel2, .inl ⟨⟨by omega, by omega, ?_⟩, A', _, c', rfl, ?_⟩⟩
            · exact fun i x hi => hall i x (by have := (List.getElem?_eq_some_iff.1 hi).1; have := Hml.out; omega) hi
            · have e : ns.take q = ns := List.take_of_length_le (by have := Hml.out; omega)
              rw [e] at hown2
              rw [Int.toNat_natCast]
              exact hown2
  · have hd' : d < 1 ∨ 8 < d := by omega
    clear hd
    go_enter Tryd.func43, Tryd.ntmps43
    go_wp2_with (go_at_call 69; refine (isWidth_no _ _ hd').mono ?_; rintro e w' ⟨rfl, rfl⟩)
    go_ret2
    exact ⟨Below.refl _ _, .inr ⟨fun h => by have := h.1; have := h.2.1; omega, rfl⟩⟩

end Go.Proofs.YtlidhdljgnijaaaDoor

/-
  CONTRACTS of the document's own Num (the same post as wire.Num's), of wire.Text and the document's own Text.
-/
set_option linter.unusedVariables false
namespace Go.Proofs.YtlidhdljgnijaaaDoor
open Go.RowKit

end Go.Proofs.YtlidhdljgnijaaaDoor

/-
  (The contracts of Text stand in the text 'Text'.)
-/

/-
  CONTRACTS of TakeNum, wire's and the document's own.
-/
set_option linter.unusedVariables false
namespace Go.Proofs.YtlidhdljgnijaaaDoor
open Go.RowKit

def TakeNumPost (w : World) (l : List UInt8) (d wd : Int) (e : Ending) (w' : World) : Prop :=
  e = .returned (.tuple #[.int .u64 (tnV l d wd : Int), .int .i64 (tnN l.length d wd), .int .i64 (tnE l.length d wd)]) ∧ w = w'

theorem TakeNumPost.bad {w : World} {l : List UInt8} {d wd : Int} {er : Int} (h : tnE l.length d wd = er) (h0 : er ≠ 0) : TakeNumPost w l d wd (.returned (.tuple #[.int .u64 0, .int .i64 0, .int .i64 er])) w := by
  subst h
  refine ⟨?_, rfl⟩
  unfold tnV tnN
  rw [if_neg h0, if_neg h0]
  rfl

theorem TakeNumPost.ok {w : World} {l : List UInt8} {a m : Nat} {x : Int} {y : Int} (h : tnE l.length (a : Int) (m : Int) = 0) (hx : x = (val ((l.drop a).take m) : Int)) (hy : y = (a : Int) + m) :
    TakeNumPost w l a m (.returned (.tuple #[.int .u64 x, .int .i64 y, .int .i64 0])) w := by
  subst hx hy
  refine ⟨?_, rfl⟩
  unfold tnV tnN
  rw [if_pos h, if_pos h, h]
  simp

theorem or256 (y x : Nat) (hy : y < 72057594037927936) (hx : x < 2 ^ 8) : bits .or .u64 ((y : Int) * 256) (x : Int) = ((y * 256 + x : Nat) : Int) := by
  have h := u64_or_nat (y * 256) x (by omega) (by omega)
  rw [show ((y * 256 : Nat) : Int) = (y : Int) * 256 from by omega] at h
  rw [h]
  have e := Nat.shiftLeft_add_eq_or_of_lt (show x < 2 ^ 8 from hx) y
  rw [Nat.shiftLeft_eq, show (2 : Nat) ^ 8 = 256 from rfl] at e
  rw [← e]

set_option maxHeartbeats 1000000 in
theorem TakeNum_any (A : Option Addr) (k c : Nat) (l : List UInt8) (d wd : Int) (w : World) (hk : k ≤ 1099511627776) (hkc : k ≤ c) (hr : Rd w w.heap.size A k (l.map bv)) :
    Calls Tryd.prog 48 #[.slice A k c, .int .i64 d, .int .i64 wd] w (TakeNumPost w l d wd) := by
  obtain rfl : k = l.length := by have := hr.len; simpa using this.symm
  by_cases hp : 0 ≤ d ∧ d ≤ l.length
  · obtain ⟨hp1, hp2⟩ := hp
    by_cases hw : 1 ≤ wd ∧ wd ≤ 8
    · obtain ⟨hw1, hw2⟩ := hw
      obtain ⟨a, rfl⟩ := Int.eq_ofNat_of_zero_le hp1
      obtain ⟨m, rfl⟩ := Int.eq_ofNat_of_zero_le (show 0 ≤ wd by omega)
      by_cases hs : a + m ≤ l.length
      · obtain ⟨b, o, rfl, hb, hc⟩ := hr.pos (by omega)
        have Hc := Lib.hid hc
        clear hc
        have hac : ¬ c = a := by omega
        go_enter Tryd.func48, Tryd.ntmps48
        go_wp2_with (first
          | (go_at_call 77; refine (isPlace_yes _ _ _ _ _ (by omega) (by omega)).mono ?_; rintro e w' ⟨rfl, rfl⟩)
          | (go_at_call 69; refine (isWidth_yes _ _ (by omega) (by omega)).mono ?_; rintro e w' ⟨rfl, rfl⟩))
        go_loop [9, 34] (fun x i => ∃ j : Nat, j ≤ m ∧ i = .int .i64 (j : Int) ∧ x = .int .u64 (val ((l.drop a).take j) : Int)) (fun _ i => m - (intOf i).toNat)
        case atStart => exact ⟨0, by omega, rfl, rfl⟩
        case round =>
          obtain ⟨j, hj, rfl, rfl⟩ := hrel
          by_cases hlt : j < m
          · obtain ⟨x, hx⟩ : ∃ x, l[a + j]? = some x := ⟨_, List.getElem?_eq_getElem (by omega)⟩
            have hcell : w.cell? ⟨b, o + a + j, none⟩ = some (.int .u8 (x.toNat : Int)) := by rw [Nat.add_assoc]; exact Hc.out _ _ (by rw [List.getElem?_map, hx]; rfl)
            have hxl := x.toNat_lt
            have hsn : val ((l.drop a).take (j + 1)) = val ((l.drop a).take j) * 256 + x.toNat := by rw [take_succ_of (by rw [List.getElem?_drop]; exact hx), val_snoc]
            have Hsn := Lib.hid hsn
            have hv1 : val ((l.drop a).take j) < 256 ^ j := Nat.lt_of_lt_of_le (val_lt _) (Nat.pow_le_pow_right (by omega) (List.length_take_le _ _))
            have hv2 : (256 : Nat) ^ j ≤ 256 ^ 7 := Nat.pow_le_pow_right (by omega) (by omega)
            have hv : val ((l.drop a).take j) < 72057594037927936 := Nat.lt_of_lt_of_le hv1 hv2
            clear hx hsn hv1 hv2
            generalize val ((l.drop a).take j) = y at *
            go_wp2_with fail
            go_round
            case rel =>
              refine ⟨j + 1, by omega, by go_num, ?_⟩
              rw [Hsn.out, or256 y x.toNat hv hxl]
            case measure => simp [intOf]; omega
          · obtain rfl : j = m := by omega
            go_wp2_with fail
            go_ret3
            exact .ok (tnE_of (by omega) (by omega) (by omega) (by omega)) rfl rfl
      · go_enter Tryd.func48, Tryd.ntmps48
        go_wp2_with (first
          | (go_at_call 77; refine (isPlace_yes _ _ _ _ _ (by omega) (by omega)).mono ?_; rintro e w' ⟨rfl, rfl⟩)
          | (go_at_call 69; refine (isWidth_yes _ _ (by omega) (by omega)).mono ?_; rintro e w' ⟨rfl, rfl⟩))
        go_ret3
        exact .bad (by unfold tnE; rw [if_neg (by omega), if_pos (by omega)]) (by omega)
    · have hw' : wd < 1 ∨ 8 < wd := by omega
      clear hw
      go_enter Tryd.func48, Tryd.ntmps48
      go_wp2_with (first
        | (go_at_call 77; refine (isPlace_yes _ _ _ _ _ (by omega) (by omega)).mono ?_; rintro e w' ⟨rfl, rfl⟩)
        | (go_at_call 69; refine (isWidth_no _ _ hw').mono ?_; rintro e w' ⟨rfl, rfl⟩))
      go_ret3
      exact .bad (by unfold tnE; rw [if_pos (by omega)]) (by omega)
  · have hp' : d < 0 ∨ (l.length : Int) < d := by omega
    clear hp
    go_enter Tryd.func48, Tryd.ntmps48
    go_wp2_with (go_at_call 77; refine (isPlace_no _ _ _ _ _ hp').mono ?_; rintro e w' ⟨rfl, rfl⟩)
    go_ret3
    exact .bad (by unfold tnE; rw [if_pos (by omega)]) (by omega)

end Go.Proofs.YtlidhdljgnijaaaDoor

