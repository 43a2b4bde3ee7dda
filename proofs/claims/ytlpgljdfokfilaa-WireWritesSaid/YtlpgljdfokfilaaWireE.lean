/-
  CONTRACTS of TakeNum, wire's and the document's own.
-/
import Derived.Test.YtlpgljdfokfilaaWireD
set_option linter.unusedVariables false
namespace Go.Proofs.Ytlpgljdfokfilaa
open Go.RowKit

def TakeNumPost (w : World) (l : List UInt8) (d wd : Int) (e : Ending) (w' : World) : Prop :=
  e = .returned (.tuple #[.int .u64 (tnV l d wd : Int), .int .i64 (tnN l.length d wd), .int .i64 (tnE l.length d wd)]) ∧ w = w'

theorem TakeNumPost.bad {w : World} {l : List UInt8} {d wd : Int} {er : Int} (h : tnE l.length d wd = er) (h0 : er ≠ 0) : TakeNumPost w l d wd (.returned (.tuple #[.int .u64 0, .int .i64 0, .int .i64 er])) w := by
  subst h
  refine ⟨?_, rfl⟩
  unfold tnV tnN
  rw [if_neg h0, if_neg h0]
  rfl

theorem TakeNumPost.ok {w : World} {l : List UInt8} {a m : Nat} {x : Int} {y : Int} (h : tnE l.length (a : Int) (m : Int) = 0) (hx : x = (val ((l.drop a).take m) : Int)) (hy : y = (a : Int) + m) :
    TakeNumPost w l a m (.returned (.tuple #[.int .u64 x, .int .i64 y, .int .i64 0])) w := by
  subst hx hy
  refine ⟨?_, rfl⟩
  unfold tnV tnN
  rw [if_pos h, if_pos h, h]
  simp

theorem or256 (y x : Nat) (hy : y < 72057594037927936) (hx : x < 2 ^ 8) : bits .or .u64 ((y : Int) * 256) (x : Int) = ((y * 256 + x : Nat) : Int) := by
  have h := u64_or_nat (y * 256) x (by omega) (by omega)
  rw [show ((y * 256 : Nat) : Int) = (y : Int) * 256 from by omega] at h
  rw [h]
  have e := Nat.shiftLeft_add_eq_or_of_lt (show x < 2 ^ 8 from hx) y
  rw [Nat.shiftLeft_eq, show (2 : Nat) ^ 8 = 256 from rfl] at e
  rw [← e]

set_option maxHeartbeats 1000000 in
theorem TakeNum_any (A : Option Addr) (k c : Nat) (l : List UInt8) (d wd : Int) (w : World) (hk : k ≤ 1099511627776) (hkc : k ≤ c) (hr : Rd w w.heap.size A k (l.map bv)) :
    Calls Try.prog 17 #[.slice A k c, .int .i64 d, .int .i64 wd] w (TakeNumPost w l d wd) := by
  obtain rfl : k = l.length := by have := hr.len; simpa using this.symm
  by_cases hp : 0 ≤ d ∧ d ≤ l.length
  · obtain ⟨hp1, hp2⟩ := hp
    by_cases hw : 1 ≤ wd ∧ wd ≤ 8
    · obtain ⟨hw1, hw2⟩ := hw
      obtain ⟨a, rfl⟩ := Int.eq_ofNat_of_zero_le hp1
      obtain ⟨m, rfl⟩ := Int.eq_ofNat_of_zero_le (show 0 ≤ wd by omega)
      by_cases hs : a + m ≤ l.length
      · obtain ⟨b, o, rfl, hb, hc⟩ := hr.pos (by omega)
        have Hc := Lib.hid hc
        clear hc
        have hac : ¬ c = a := by omega
        go_enter Try.func17, Try.ntmps17
        go_wp2_with (first
          | (go_at_call 31; refine (isPlace_yes _ _ _ _ _ (by omega) (by omega)).mono ?_; rintro e w' ⟨rfl, rfl⟩)
          | (go_at_call 26; refine (isWidth_yes _ _ (by omega) (by omega)).mono ?_; rintro e w' ⟨rfl, rfl⟩))
        go_loop [9, 34] (fun x i => ∃ j : Nat, j ≤ m ∧ i = .int .i64 (j : Int) ∧ x = .int .u64 (val ((l.drop a).take j) : Int)) (fun _ i => m - (intOf i).toNat)
        case atStart => exact ⟨0, by omega, rfl, rfl⟩
        case round =>
          obtain ⟨j, hj, rfl, rfl⟩ := hrel
          by_cases hlt : j < m
          · obtain ⟨x, hx⟩ : ∃ x, l[a + j]? = some x := ⟨_, List.getElem?_eq_getElem (by omega)⟩
            have hcell : w.cell? ⟨b, o + a + j, none⟩ = some (.int .u8 (x.toNat : Int)) := by rw [Nat.add_assoc]; exact Hc.out _ _ (by rw [List.getElem?_map, hx]; rfl)
            have hxl := x.toNat_lt
            have hsn : val ((l.drop a).take (j + 1)) = val ((l.drop a).take j) * 256 + x.toNat := by rw [take_succ_of (by rw [List.getElem?_drop]; exact hx), val_snoc]
            have Hsn := Lib.hid hsn
            have hv1 : val ((l.drop a).take j) < 256 ^ j := Nat.lt_of_lt_of_le (val_lt _) (Nat.pow_le_pow_right (by omega) (List.length_take_le _ _))
            have hv2 : (256 : Nat) ^ j ≤ 256 ^ 7 := Nat.pow_le_pow_right (by omega) (by omega)
            have hv : val ((l.drop a).take j) < 72057594037927936 := Nat.lt_of_lt_of_le hv1 hv2
            clear hx hsn hv1 hv2
            generalize val ((l.drop a).take j) = y at *
            go_wp2_with fail
            go_round
            case rel =>
              refine ⟨j + 1, by omega, by go_num, ?_⟩
              rw [Hsn.out, or256 y x.toNat hv hxl]
            case measure => simp [intOf]; omega
          · obtain rfl : j = m := by omega
            go_wp2_with fail
            go_ret3
            exact .ok (tnE_of (by omega) (by omega) (by omega) (by omega)) rfl rfl
      · go_enter Try.func17, Try.ntmps17
        go_wp2_with (first
          | (go_at_call 31; refine (isPlace_yes _ _ _ _ _ (by omega) (by omega)).mono ?_; rintro e w' ⟨rfl, rfl⟩)
          | (go_at_call 26; refine (isWidth_yes _ _ (by omega) (by omega)).mono ?_; rintro e w' ⟨rfl, rfl⟩))
        go_ret3
        exact .bad (by unfold tnE; rw [if_neg (by omega), if_pos (by omega)]) (by omega)
    · have hw' : wd < 1 ∨ 8 < wd := by omega
      clear hw
      go_enter Try.func17, Try.ntmps17
      go_wp2_with (first
        | (go_at_call 31; refine (isPlace_yes _ _ _ _ _ (by omega) (by omega)).mono ?_; rintro e w' ⟨rfl, rfl⟩)
        | (go_at_call 26; refine (isWidth_no _ _ hw').mono ?_; rintro e w' ⟨rfl, rfl⟩))
      go_ret3
      exact .bad (by unfold tnE; rw [if_pos (by omega)]) (by omega)
  · have hp' : d < 0 ∨ (l.length : Int) < d := by omega
    clear hp
    go_enter Try.func17, Try.ntmps17
    go_wp2_with (go_at_call 31; refine (isPlace_no _ _ _ _ _ hp').mono ?_; rintro e w' ⟨rfl, rfl⟩)
    go_ret3
    exact .bad (by unfold tnE; rw [if_pos (by omega)]) (by omega)

set_option maxHeartbeats 1000000 in
theorem refTakeNum_any (A : Option Addr) (k c : Nat) (l : List UInt8) (d wd : Int) (w : World) (hk : k ≤ 1099511627776) (hkc : k ≤ c) (hr : Rd w w.heap.size A k (l.map bv)) :
    Calls Try.prog 18 #[.slice A k c, .int .i64 d, .int .i64 wd] w (TakeNumPost w l d wd) := by
  obtain rfl : k = l.length := by have := hr.len; simpa using this.symm
  by_cases hp : 0 ≤ d ∧ d ≤ l.length
  · obtain ⟨hp1, hp2⟩ := hp
    by_cases hw : 1 ≤ wd ∧ wd ≤ 8
    · obtain ⟨hw1, hw2⟩ := hw
      obtain ⟨a, rfl⟩ := Int.eq_ofNat_of_zero_le hp1
      obtain ⟨m, rfl⟩ := Int.eq_ofNat_of_zero_le (show 0 ≤ wd by omega)
      by_cases hs : a + m ≤ l.length
      · obtain ⟨b, o, rfl, hb, hc⟩ := hr.pos (by omega)
        have Hc := Lib.hid hc
        clear hc
        have hac : ¬ c = a := by omega
        go_enter Try.func18, Try.ntmps18
        go_wp2_with (go_at_call 32; refine (place_yes _ _ _ _ _ (by omega) (by omega)).mono ?_; rintro e w' ⟨rfl, rfl⟩)
        go_loop [9, 30] (fun x i => ∃ j : Nat, j ≤ m ∧ i = .int .i64 (j : Int) ∧ x = .int .u64 (val ((l.drop a).take j) : Int)) (fun _ i => m - (intOf i).toNat)
        case atStart => exact ⟨0, by omega, rfl, rfl⟩
        case round =>
          obtain ⟨j, hj, rfl, rfl⟩ := hrel
          by_cases hlt : j < m
          · obtain ⟨x, hx⟩ : ∃ x, l[a + j]? = some x := ⟨_, List.getElem?_eq_getElem (by omega)⟩
            have hcell : w.cell? ⟨b, o + (a + j), none⟩ = some (.int .u8 (x.toNat : Int)) := by exact Hc.out _ _ (by rw [List.getElem?_map, hx]; rfl)
            have hxl := x.toNat_lt
            have hsn : val ((l.drop a).take (j + 1)) = val ((l.drop a).take j) * 256 + x.toNat := by rw [take_succ_of (by rw [List.getElem?_drop]; exact hx), val_snoc]
            have Hsn := Lib.hid hsn
            have hv1 : val ((l.drop a).take j) < 256 ^ j := Nat.lt_of_lt_of_le (val_lt _) (Nat.pow_le_pow_right (by omega) (List.length_take_le _ _))
            have hv2 : (256 : Nat) ^ j ≤ 256 ^ 7 := Nat.pow_le_pow_right (by omega) (by omega)
            have hv : val ((l.drop a).take j) < 72057594037927936 := Nat.lt_of_lt_of_le hv1 hv2
            clear hx hsn hv1 hv2
            generalize val ((l.drop a).take j) = y at *
            go_wp2_with fail
            go_round
            case rel =>
              refine ⟨j + 1, by omega, by go_num, ?_⟩
              rw [Hsn.out]; rfl
            case measure => simp [intOf]; omega
          · obtain rfl : j = m := by omega
            go_wp2_with fail
            go_ret3
            exact .ok (tnE_of (by omega) (by omega) (by omega) (by omega)) rfl rfl
      · go_enter Try.func18, Try.ntmps18
        go_wp2_with (go_at_call 32; refine (place_yes _ _ _ _ _ (by omega) (by omega)).mono ?_; rintro e w' ⟨rfl, rfl⟩)
        go_ret3
        exact .bad (by unfold tnE; rw [if_neg (by omega), if_pos (by omega)]) (by omega)
    · have hw' : wd < 1 ∨ 8 < wd := by omega
      clear hw
      by_cases h1 : wd < 1
      · go_enter Try.func18, Try.ntmps18
        go_wp2_with (go_at_call 32; refine (place_yes _ _ _ _ _ (by omega) (by omega)).mono ?_; rintro e w' ⟨rfl, rfl⟩)
        go_ret3
        exact .bad (by unfold tnE; rw [if_pos (by omega)]) (by omega)
      · have h8 : decide ((8 : Int) < wd) = true := by simp; omega
        go_enter Try.func18, Try.ntmps18
        go_wp2_with (go_at_call 32; refine (place_yes _ _ _ _ _ (by omega) (by omega)).mono ?_; rintro e w' ⟨rfl, rfl⟩)
        go_ret3
        exact .bad (by unfold tnE; rw [if_pos (by omega)]) (by omega)
  · have hp' : d < 0 ∨ (l.length : Int) < d := by omega
    clear hp
    go_enter Try.func18, Try.ntmps18
    go_wp2_with (go_at_call 32; refine (place_no _ _ _ _ _ hp').mono ?_; rintro e w' ⟨rfl, rfl⟩)
    go_ret3
    exact .bad (by unfold tnE; rw [if_pos (by omega)]) (by omega)


end Go.Proofs.Ytlpgljdfokfilaa
