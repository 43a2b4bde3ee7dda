import Derived.Test.YtlidhdljgnijaaaDoorN02
import Derived.Test.YtlidhdljgnijaaaDoorN08
import Derived.Test.YtlidhdljgnijaaaDoorN16
import Derived.BigRegion
import Derived.Deep.WholeRow
import Derived.Deep.DeepCutAuto
import Derived.WalkSpells
/-
  CONTRACTS of the document's SHA-256 (coterieref02): ror, words, Block. Words are UInt32.
-/
set_option linter.unusedVariables false
namespace Go.Proofs.YtlidhdljgnijaaaDoor
open Go.RowKit

def zero64 : List UInt32 := List.replicate 64 0

/-- a block's j-th word -/
def wordAt (l : List UInt8) (j : Nat) : UInt32 := UInt32.ofNat (((l.getD (4 * j) 0).toNat * 16777216 + (l.getD (4 * j + 1) 0).toNat * 65536 + (l.getD (4 * j + 2) 0).toNat * 256 + (l.getD (4 * j + 3) 0).toNat))

theorem wordAt_of {l : List UInt8} {j : Nat} {x0 x1 x2 x3 : UInt8} (h0 : l[4 * j]? = some x0) (h1 : l[4 * j + 1]? = some x1) (h2 : l[4 * j + 2]? = some x2) (h3 : l[4 * j + 3]? = some x3) :
    (x0.toNat : Int) * 16777216 + x1.toNat * 65536 + x2.toNat * 256 + x3.toNat = ((wordAt l j).toNat : Int) := by
  have n0 := x0.toNat_lt
  have n1 := x1.toNat_lt
  have n2 := x2.toNat_lt
  have n3 := x3.toNat_lt
  unfold wordAt
  rw [UInt32.toNat_ofNat', List.getD_eq_getElem?_getD, List.getD_eq_getElem?_getD, List.getD_eq_getElem?_getD, List.getD_eq_getElem?_getD, h0, h1, h2, h3]
  simp only [Option.getD_some]
  omega

/-- the first j words -/
def firstWords (l : List UInt8) (j : Nat) : List UInt32 := (List.range 64).map fun i => if i < j then wordAt l i else 0

theorem firstWords_len (l : List UInt8) (j : Nat) : (firstWords l j).length = 64 := by simp [firstWords]
theorem firstWords_zero (l : List UInt8) : firstWords l 0 = zero64 := by
  apply List.ext_getElem (by simp [firstWords, zero64])
  intro i h1 h2
  simp only [firstWords, zero64, List.getElem_map, List.getElem_replicate]
  rw [if_neg (by omega)]
theorem firstWords_succ (l : List UInt8) (j : Nat) : firstWords l (j + 1) = (firstWords l j).set j (wordAt l j) := by
  apply List.ext_getElem (by simp [firstWords])
  intro i h1 h2
  rw [List.getElem_set]
  simp only [firstWords, List.getElem_map, List.getElem_range]
  by_cases h : j = i
  · subst h; simp
  · rw [if_neg h]
    by_cases h3 : i < j
    · rw [if_pos (by omega), if_pos h3]
    · rw [if_neg (by omega), if_neg h3]

def sig0 (x : UInt32) : UInt32 := rorU x 7 ^^^ rorU x 18 ^^^ x >>> 3
def sig1 (x : UInt32) : UInt32 := rorU x 17 ^^^ rorU x 19 ^^^ x >>> 10

theorem sig0_val (x : UInt32) : bits .xor .u32 (bits .xor .u32 ((rorU x 7).toNat : Int) ((rorU x 18).toNat : Int)) ((x.toNat : Int) / 8) = ((sig0 x).toNat : Int) := by
  rw [show ((x.toNat : Int) / 8) = (x.toNat : Int) / 2 ^ 3 from rfl, w_shr x 3 (by omega), w_xor, w_xor]
  rfl
theorem sig1_val (x : UInt32) : bits .xor .u32 (bits .xor .u32 ((rorU x 17).toNat : Int) ((rorU x 19).toNat : Int)) ((x.toNat : Int) / 1024) = ((sig1 x).toNat : Int) := by
  rw [show ((x.toNat : Int) / 1024) = (x.toNat : Int) / 2 ^ 10 from rfl, w_shr x 10 (by omega), w_xor, w_xor]
  rfl

/-- the words that follow, one more -/
def schedStep (ws : List UInt32) (t : Nat) : List UInt32 := ws.set t (ws.getD (t - 16) 0 + sig0 (ws.getD (t - 15) 0) + ws.getD (t - 7) 0 + sig1 (ws.getD (t - 2) 0))
def schedTo (l : List UInt8) : Nat → List UInt32
  | 0 => firstWords l 16
  | n + 1 => schedStep (schedTo l n) (16 + n)
def wordsU (l : List UInt8) : List UInt32 := schedTo l 48

theorem schedTo_len (l : List UInt8) : ∀ n, (schedTo l n).length = 64
  | 0 => firstWords_len l 16
  | n + 1 => by rw [schedTo, schedStep, List.length_set, schedTo_len l n]

theorem info64 : (Tryd.prog.info? 130).map (·.size) = some 64 := by kernel_rfl

end Go.Proofs.YtlidhdljgnijaaaDoor

/-
  THE CONTRACT of the document's Block (coterieref02).
-/
set_option linter.unusedVariables false
namespace Go.Proofs.YtlidhdljgnijaaaDoor
open Go.RowKit

/-- the document's table lies in the world -/
def KTab (w : World) : Prop := ∀ (i : Nat) (x : UInt32), kU[i]? = some x → w.cell? ⟨0, i, none⟩ = some (.int .u32 (x.toNat : Int))
theorem KTab.lt {w : World} (h : KTab w) : 0 < w.heap.size := World.block_lt_of_cell? w _ (h 0 _ rfl)
theorem KTab.below {w w' : World} (h : KTab w) (hb : Below w.heap.size w w') : KTab w' := fun i x hx => (hb.cell (p := ⟨0, i, none⟩) h.lt).trans (h i x hx)

def zero8 : List UInt32 := List.replicate 8 0

theorem info8 : (Tryd.prog.info? 94).map (·.size) = some 8 := by kernel_rfl

end Go.Proofs.YtlidhdljgnijaaaDoor

/-
  CONTRACTS of the document's own small functions of layer 1 that later layers use too: Copy, Bytes, Same.
-/
set_option linter.unusedVariables false
namespace Go.Proofs.YtlidhdljgnijaaaDoor
open Go.RowKit

theorem Copy_all (A : Option Addr) (k c : Nat) (l : List UInt8) (w : World) (hk : k ≤ 140737488355328) (hr : Rd w w.heap.size A k (l.map bv)) :
    Calls Tryd.prog 27 #[.slice A k c] w fun e w' =>
      ∃ A' c', e = .returned (.slice A' k c') ∧ w'.ownsRow w.heap.size 5 1 (.slice A' k c') k (l.map bv) ∧ Below w.heap.size w w' := by
  obtain ⟨i0, hi0, hz0, hz1, hz2⟩ := info_parts byteInfo
  go_enter Tryd.func27, Tryd.ntmps27
  go_wp2_with (at_builtin; refine wpList_append_rd _ rfl (.const (.slice none 0 0)) (.tmp 3) _ rfl w.heap.size 5 i0 _ 1 Tryd.underlying41 hi0 hz0 hz1 hz2 rfl (.slice none 0 0) 0 [] rfl (World.ownsRow_nil _ _ _ _) w.heap.size A k c (l.map bv) rfl hr (one_bv l) (by simp only [maxLen]; omega) (by omega) (Nat.le_refl _) ?_; intro v2 w2 hown2 hgr2 hat2)
  go_ret
  obtain ⟨A', c', rfl, _, _⟩ := own_form hown2
  rw [Nat.zero_add] at hown2 ⊢
  refine ⟨A', c', rfl, hown2, ?_⟩
  exact (Below.refl _ _).grown hgr2 (Nat.le_refl _) (by simp [Value.ownBlock])
theorem Copy_any (A : Option Addr) (k c : Nat) (l : List UInt8) (w : World) (hk : k ≤ 1099511627776) (hr : Rd w w.heap.size A k (l.map bv)) :
    Calls Tryd.prog 27 #[.slice A k c] w fun e w' =>
      ∃ A' c', e = .returned (.slice A' k c') ∧ w'.ownsRow w.heap.size 5 1 (.slice A' k c') k (l.map bv) ∧ Below w.heap.size w w' := Copy_all A k c l w (by omega) hr

set_option maxHeartbeats 400000 in
theorem Bytes_any (width n : Nat) (w : World) (hw : width ≤ 8) (hn : n < 18446744073709551616) :
    Calls Tryd.prog 30 #[.int .i64 (width : Int), .int .u64 (n : Int)] w fun e w' =>
      ∃ A c, e = .returned (.slice A width c) ∧ w'.ownsRow w.heap.size 5 1 (.slice A width c) width ((be width n).map bv) ∧ Below w.heap.size w w' := by
  obtain ⟨i0, hi0, hz0, hz1, hz2⟩ := info_parts byteInfo
  go_enter Tryd.func30, Tryd.ntmps30
  go_wp2
  go_loopw [1, 5, 7] (fun x v i wr => ∃ j : Nat, j ≤ width ∧ i = .int .i64 (j : Int) ∧ x = .int .u64 ((n / 256 ^ j : Nat) : Int) ∧ wr.ownsRow w.heap.size 5 1 v j ((be j n).map bv) ∧ Below w.heap.size w wr) (fun _ _ i _ => width - (intOf i).toNat)
  case atStart => exact ⟨0, by omega, rfl, by simp, World.ownsRow_nil _ _ _ _, Below.refl _ _⟩
  case round =>
    obtain ⟨j, hj, rfl, rfl, hown1, hbel⟩ := hrel
    have hsz := hbel.size
    have hq : n / 256 ^ j < 18446744073709551616 := Nat.lt_of_le_of_lt (Nat.div_le_self _ _) hn
    have hq2 : n / 256 ^ (j + 1) = n / 256 ^ j / 256 := by rw [Nat.div_div_eq_div_mul, Nat.pow_succ]
    have Hq2 := Lib.hid hq2
    clear hq2
    have hbc := be_cons j n
    have Hbc := Lib.hid hbc
    clear hbc
    generalize hg : n / 256 ^ j = q at *
    clear hg
    by_cases hlt : j < width
    · obtain ⟨A, c, rfl, hc, hl⟩ := own_form hown1
      go_wp2_with (at_builtin; refine wpList_append_rd _ rfl (.tmp 12) (.tmp 13) _ rfl w.heap.size 5 i0 _ 1 Tryd.underlying41 hi0 hz0 hz1 hz2 rfl (.slice (some ⟨wr.heap.size, 0, none⟩) 1 1) 1 [.int .u8 ((q : Int) % 256)] rfl (own_new _ _ _ #[_] (by omega) (by simp [maxLen])) wr.heap.size A j c ((be j n).map bv) rfl ((Rd.of_own hown1).alloc (Nat.le_refl _) _) (one_bv _) (by simp only [maxLen]; omega) (by omega) (by simp; omega) ?_; intro v1 w1 hown2 hgr hat)
      go_roundw
      case rel =>
        refine ⟨j + 1, by omega, by go_num, ?_, ?_, ?_⟩
        · rw [Hq2.out]; rfl
        · rw [Hbc.out, List.map_cons, bv_def]
          have e : ((UInt8.ofNat q).toNat : Int) = (q : Int) % 256 := by simp [UInt8.toNat_ofNat']
          rw [e, Nat.add_comm]
          exact hown2
        · exact (hbel.alloc (by omega) _).grown hgr (by simp; omega) (by simp [Value.ownBlock]; omega)
      case measure => simp [intOf]; omega
    · obtain rfl : j = width := by omega
      go_wp2
      go_ret
      obtain ⟨A, c, rfl, hc, hl⟩ := own_form hown1
      exact ⟨A, c, rfl, hown1, hbel⟩

/-- texts in a list: each head reads its text -/
def Txs (w : World) (B : Nat) (vs : List Value) (ts : List (List UInt8)) : Prop :=
  vs.length = ts.length ∧ ∀ (i : Nat) (v : Value) (t : List UInt8), vs[i]? = some v → ts[i]? = some t → ∃ A c, v = .slice A t.length c ∧ t.length ≤ c ∧ Rd w B A t.length (t.map bv)

theorem Txs.below {w w' : World} {B : Nat} {vs : List Value} {ts : List (List UInt8)} (h : Txs w B vs ts) (hb : Below B w w') : Txs w' B vs ts :=
  ⟨h.1, fun i v t hv ht => by
    obtain ⟨A, c, e, hc, hr⟩ := h.2 i v t hv ht
    exact ⟨A, c, e, hc, hr.below hb⟩⟩
theorem Txs.more {w : World} {B B' : Nat} {vs : List Value} {ts : List (List UInt8)} (h : Txs w B vs ts) (hb : B ≤ B') : Txs w B' vs ts :=
  ⟨h.1, fun i v t hv ht => by
    obtain ⟨A, c, e, hc, hr⟩ := h.2 i v t hv ht
    exact ⟨A, c, e, hc, hr.more hb⟩⟩

theorem Txs.nil (w : World) (B : Nat) : Txs w B [] [] := ⟨rfl, fun i v t h => by simp at h⟩
theorem Txs.one {w : World} {B : Nat} {A : Option Addr} {c : Nat} {t : List UInt8} (hr : Rd w B A t.length (t.map bv)) (hc : t.length ≤ c) : Txs w B [.slice A t.length c] [t] :=
  ⟨rfl, fun i v u hv hu => by
    rcases i with _ | i
    · simp at hv hu; subst hv hu; exact ⟨A, c, rfl, hc, hr⟩
    · simp at hv⟩

end Go.Proofs.YtlidhdljgnijaaaDoor

/-
  CONTRACTS of the document's Padded and First (coterieref02).
-/
set_option linter.unusedVariables false
namespace Go.Proofs.YtlidhdljgnijaaaDoor
open Go.RowKit

/-- how many zeros a padding of n bytes holds -/
def zeros (n : Nat) : Nat := (119 - n % 64) % 64
theorem zeros_le (n : Nat) : zeros n < 64 := Nat.mod_lt _ (by omega)
def padTo (l : List UInt8) (j : Nat) : List UInt8 := l ++ [128] ++ List.replicate j 0
def padU (l : List UInt8) : List UInt8 := padTo l (zeros l.length) ++ be 8 (8 * l.length)
def lenOf : Value → Nat
  | .slice _ n _ => n
  | _ => 0

theorem flat_take_succ {ts : List (List UInt8)} {q : Nat} {t : List UInt8} (h : ts[q]? = some t) : (ts.take (q + 1)).flatten = (ts.take q).flatten ++ t := by
  rw [take_succ_of h]; simp
theorem flat_take_le (ts : List (List UInt8)) (q : Nat) : (ts.take q).flatten.length ≤ ts.flatten.length := by
  conv => rhs; rw [← List.take_append_drop q ts, List.flatten_append, List.length_append]
  omega

end Go.Proofs.YtlidhdljgnijaaaDoor

