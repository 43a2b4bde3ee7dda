/-
  CONTRACTS of wire's grown and putNum.
-/
import Derived.Test.YtmkkghlpdnoogaaDoorMem
import Derived.Test.YtmkkghlpdnoogaaDoorNums
import Derived.Test.YtmkkghlpdnoogaaDoorRefA
set_option linter.unusedVariables false
namespace Go.Proofs.YtmkkghlpdnoogaaDoor
open Go.RowKit

theorem grown_any (A : Option Addr) (k c : Nat) (d : Int) (l : List UInt8) (w : World) (hk : k ≤ 1099511627776) (hd : 0 ≤ d) (hm : d ≤ 1099511627776) (hr : Rd w w.heap.size A k (l.map bv)) :
    Calls Tryd.prog 68 #[.slice A k c, .int .i64 d] w fun e w' =>
      ∃ A' c', e = .returned (.slice A' k c') ∧ w'.ownsRow w.heap.size 5 1 (.slice A' k c') k (l.map bv) ∧ Below w.heap.size w w' := by
  obtain ⟨m, rfl⟩ := Int.eq_ofNat_of_zero_le hd
  obtain ⟨i0, hi0, hz0, hz1, hz2⟩ := info_parts byteInfo
  go_enter Tryd.func68, Tryd.ntmps68
  go_wp2_with (first
    | (at_make; refine wpList_make_own _ rfl _ _ 25 rfl w.heap.size 5 i0 (.int .u8 0) 1 Tryd.underlying25 hi0 hz0 hz1 _ _ _ (k + m) rfl rfl (by simp) (by rw [hz2]; omega) (by simp only [maxLen]; omega) (Nat.le_refl _) ?_; intro w1 hown1 hgr1)
    | (at_builtin; refine wpList_append_rd _ rfl (.tmp 9) (.tmp 10) _ rfl w.heap.size 5 i0 _ 1 Tryd.underlying25 hi0 hz0 hz1 hz2 rfl _ 0 [] rfl hown1 w.heap.size A k c (l.map bv) rfl (hr.grown hgr1 (Nat.le_refl _) (by simp)) (one_bv l) (by simp only [maxLen]; omega) (by omega) hgr1.size ?_; intro v2 w2 hown2 hgr2 hat2))
  go_ret
  obtain ⟨A', c', rfl, _, _⟩ := own_form hown2
  rw [Nat.zero_add] at hown2 ⊢
  refine ⟨A', c', rfl, hown2, ?_⟩
  exact ((Below.refl _ _).grown hgr1 (Nat.le_refl _) (by simp)).grown hgr2 hgr1.size (fun g hg => (hown1.lt g hg).1)

set_option maxHeartbeats 400000 in
theorem putNum_any (base : Nat) (v : Value) (k : Nat) (l : List UInt8) (width n : Nat) (w : World) (hw : width ≤ 8) (hn : n < 18446744073709551616) (hk : k ≤ 1099511627776)
    (hown : w.ownsRow base 5 1 v k (l.map bv)) (hb : base ≤ w.heap.size) :
    Calls Tryd.prog 69 #[v, .int .i64 (width : Int), .int .u64 (n : Int)] w fun e w' =>
      ∃ v, e = .returned v ∧ w'.ownsRow base 5 1 v (k + width) ((l ++ be width n).map bv) ∧ Below base w w' := by
  obtain ⟨i0, hi0, hz0, hz1, hz2⟩ := info_parts byteInfo
  go_enter Tryd.func69, Tryd.ntmps69
  go_wp2
  go_loopw [0, 7] (fun v i wr => ∃ j m : Nat, j + m = width ∧ i = .int .i64 ((m : Int) - 1) ∧ wr.ownsRow base 5 1 v (k + j) ((l ++ be j (n / 256 ^ m)).map bv) ∧ Below base w wr) (fun _ i _ => (intOf i + 1).toNat)
  case atStart => exact ⟨0, width, by omega, rfl, by simpa [be] using hown, Below.refl _ _⟩
  case round =>
    obtain ⟨j, m, hjm, rfl, hown1, hbel⟩ := hrel
    have hsz := hbel.size
    rcases m with _ | m
    · obtain rfl : j = width := by omega
      go_wp2
      go_ret
      exact ⟨u0, rfl, by simpa using hown1, hbel⟩
    · rw [show (((m + 1 : Nat) : Int) - 1) = (m : Int) from by omega]
      go_wp2_with (at_builtin; refine wpList_append_rd _ rfl (.tmp 14) (.tmp 20) _ rfl base 5 i0 _ 1 Tryd.underlying25 hi0 hz0 hz1 hz2 rfl u0 (k + j) _ rfl (hown1.alloc _) (wr.heap.size + 1) _ 1 1 [.int .u8 (↑n / 2 ^ (8 * m) % 256)] rfl (Rd.new _ _ #[_]) (by simp [Value.oneCell']) (by simp only [maxLen]; omega) (by omega) (by simp; omega) ?_; intro v1 w1 hown2 hgr hat)
      go_roundw
      case rel =>
        refine ⟨j + 1, m, by omega, rfl, ?_, ?_⟩
        · rw [be_step, ← List.append_assoc, List.map_append, List.map_cons, List.map_nil, bv_def, ← byteAt]
          exact hown2
        · exact (hbel.alloc (by omega) _).grown hgr (by simp; omega) (fun g hg => (hown1.lt g hg).1)
      case measure => simp [intOf]

end Go.Proofs.YtmkkghlpdnoogaaDoor
