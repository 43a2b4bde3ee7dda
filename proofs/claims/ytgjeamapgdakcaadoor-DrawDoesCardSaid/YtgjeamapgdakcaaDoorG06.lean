import Derived.Test.YtgjeamapgdakcaaDoorG01
import Derived.Test.YtgjeamapgdakcaaDoorG02
import Derived.WalkSpells
/-
  CONTRACTS of the document's own small functions of layer 1 that later layers use too: Copy, Bytes, Same.
-/
set_option linter.unusedVariables false
namespace Go.Proofs.YtgjeamapgdakcaaDoor
open Go.RowKit

theorem Copy_all (A : Option Addr) (k c : Nat) (l : List UInt8) (w : World) (hk : k ≤ 140737488355328) (hr : Rd w w.heap.size A k (l.map bv)) :
    Calls Tryd.prog 32 #[.slice A k c] w fun e w' =>
      ∃ A' c', e = .returned (.slice A' k c') ∧ w'.ownsRow w.heap.size 5 1 (.slice A' k c') k (l.map bv) ∧ Below w.heap.size w w' := by
  obtain ⟨i0, hi0, hz0, hz1, hz2⟩ := info_parts byteInfo
  go_enter Tryd.func32, Tryd.ntmps32
  go_wp2_with (at_builtin; refine wpList_append_rd _ rfl (.const (.slice none 0 0)) (.tmp 3) _ rfl w.heap.size 5 i0 _ 1 Tryd.underlying45 hi0 hz0 hz1 hz2 rfl (.slice none 0 0) 0 [] rfl (World.ownsRow_nil _ _ _ _) w.heap.size A k c (l.map bv) rfl hr (one_bv l) (by simp only [maxLen]; omega) (by omega) (Nat.le_refl _) ?_; intro v2 w2 hown2 hgr2 hat2)
  go_ret
  obtain ⟨A', c', rfl, _, _⟩ := own_form hown2
  rw [Nat.zero_add] at hown2 ⊢
  refine ⟨A', c', rfl, hown2, ?_⟩
  exact (Below.refl _ _).grown hgr2 (Nat.le_refl _) (by simp [Value.ownBlock])
theorem Copy_any (A : Option Addr) (k c : Nat) (l : List UInt8) (w : World) (hk : k ≤ 1099511627776) (hr : Rd w w.heap.size A k (l.map bv)) :
    Calls Tryd.prog 32 #[.slice A k c] w fun e w' =>
      ∃ A' c', e = .returned (.slice A' k c') ∧ w'.ownsRow w.heap.size 5 1 (.slice A' k c') k (l.map bv) ∧ Below w.heap.size w w' := Copy_all A k c l w (by omega) hr

set_option maxHeartbeats 400000 in
theorem Bytes_any (width n : Nat) (w : World) (hw : width ≤ 8) (hn : n < 18446744073709551616) :
    Calls Tryd.prog 26 #[.int .i64 (width : Int), .int .u64 (n : Int)] w fun e w' =>
      ∃ A c, e = .returned (.slice A width c) ∧ w'.ownsRow w.heap.size 5 1 (.slice A width c) width ((be width n).map bv) ∧ Below w.heap.size w w' := by
  obtain ⟨i0, hi0, hz0, hz1, hz2⟩ := info_parts byteInfo
  go_enter Tryd.func26, Tryd.ntmps26
  go_wp2
  go_loopw [1, 5, 7] (fun x v i wr => ∃ j : Nat, j ≤ width ∧ i = .int .i64 (j : Int) ∧ x = .int .u64 ((n / 256 ^ j : Nat) : Int) ∧ wr.ownsRow w.heap.size 5 1 v j ((be j n).map bv) ∧ Below w.heap.size w wr) (fun _ _ i _ => width - (intOf i).toNat)
  case atStart => exact ⟨0, by omega, rfl, by simp, World.ownsRow_nil _ _ _ _, Below.refl _ _⟩
  case round =>
    obtain ⟨j, hj, rfl, rfl, hown1, hbel⟩ := hrel
    have hsz := hbel.size
    have hq : n / 256 ^ j < 18446744073709551616 := Nat.lt_of_le_of_lt (Nat.div_le_self _ _) hn
    have hq2 : n / 256 ^ (j + 1) = n / 256 ^ j / 256 := by rw [Nat.div_div_eq_div_mul, Nat.pow_succ]
    have Hq2 := Lib.hid hq2
    clear hq2
    have hbc := be_cons j n
    have Hbc := Lib.hid hbc
    clear hbc
    generalize hg : n / 256 ^ j = q at *
    clear hg
    by_cases hlt : j < width
    · obtain ⟨A, c, rfl, hc, hl⟩ := own_form hown1
      go_wp2_with (at_builtin; refine wpList_append_rd _ rfl (.tmp 12) (.tmp 13) _ rfl w.heap.size 5 i0 _ 1 Tryd.underlying45 hi0 hz0 hz1 hz2 rfl (.slice (some ⟨wr.heap.size, 0, none⟩) 1 1) 1 [.int .u8 ((q : Int) % 256)] rfl (own_new _ _ _ #[_] (by omega) (by simp [maxLen])) wr.heap.size A j c ((be j n).map bv) rfl ((Rd.of_own hown1).alloc (Nat.le_refl _) _) (one_bv _) (by simp only [maxLen]; omega) (by omega) (by simp; omega) ?_; intro v1 w1 hown2 hgr hat)
      go_roundw
      case rel =>
        refine ⟨j + 1, by omega, by go_num, ?_, ?_, ?_⟩
        · rw [Hq2.out]; rfl
        · rw [Hbc.out, List.map_cons, bv_def]
          have e : ((UInt8.ofNat q).toNat : Int) = (q : Int) % 256 := by simp [UInt8.toNat_ofNat']
          rw [e, Nat.add_comm]
          exact hown2
        · exact (hbel.alloc (by omega) _).grown hgr (by simp; omega) (by simp [Value.ownBlock]; omega)
      case measure => simp [intOf]; omega
    · obtain rfl : j = width := by omega
      go_wp2
      go_ret
      obtain ⟨A, c, rfl, hc, hl⟩ := own_form hown1
      exact ⟨A, c, rfl, hown1, hbel⟩

def sameB (l l' : List UInt8) : Bool := l == l'
theorem sameB_refl (l : List UInt8) : sameB l l = true := by simp [sameB]

/-- texts in a list: each head reads its text -/
def Txs (w : World) (B : Nat) (vs : List Value) (ts : List (List UInt8)) : Prop :=
  vs.length = ts.length ∧ ∀ (i : Nat) (v : Value) (t : List UInt8), vs[i]? = some v → ts[i]? = some t → ∃ A c, v = .slice A t.length c ∧ t.length ≤ c ∧ Rd w B A t.length (t.map bv)

theorem Txs.below {w w' : World} {B : Nat} {vs : List Value} {ts : List (List UInt8)} (h : Txs w B vs ts) (hb : Below B w w') : Txs w' B vs ts :=
  ⟨h.1, fun i v t hv ht => by
    obtain ⟨A, c, e, hc, hr⟩ := h.2 i v t hv ht
    exact ⟨A, c, e, hc, hr.below hb⟩⟩
theorem Txs.more {w : World} {B B' : Nat} {vs : List Value} {ts : List (List UInt8)} (h : Txs w B vs ts) (hb : B ≤ B') : Txs w B' vs ts :=
  ⟨h.1, fun i v t hv ht => by
    obtain ⟨A, c, e, hc, hr⟩ := h.2 i v t hv ht
    exact ⟨A, c, e, hc, hr.more hb⟩⟩

theorem Txs.nil (w : World) (B : Nat) : Txs w B [] [] := ⟨rfl, fun i v t h => by simp at h⟩
theorem Txs.one {w : World} {B : Nat} {A : Option Addr} {c : Nat} {t : List UInt8} (hr : Rd w B A t.length (t.map bv)) (hc : t.length ≤ c) : Txs w B [.slice A t.length c] [t] :=
  ⟨rfl, fun i v u hv hu => by
    rcases i with _ | i
    · simp at hv hu; subst hv hu; exact ⟨A, c, rfl, hc, hr⟩
    · simp at hv⟩

end Go.Proofs.YtgjeamapgdakcaaDoor

