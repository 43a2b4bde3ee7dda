/-
  WHAT Write AND Done ANSWER, whatever they are handed, of the program and of the document in the same words; a row of bytes of the call's own into which is stored.
-/
import Derived.Test.YtmkkghlpdnoogaaDoorRefShaD
import Derived.Test.YtmkkghlpdnoogaaDoorKeep
set_option linter.unusedVariables false
namespace Go.Proofs.YtmkkghlpdnoogaaDoor
open Go.RowKit

/-- what a Write answers: words, how many, rest, and why not -/
structure Wr where
  h : List UInt32
  n : Nat
  l : List UInt8
  e : Int
def wrU (h : List UInt32) (n k : Nat) (rest all : List UInt8) (m : Nat) : Wr :=
  if chkU h n k = true then
    if roomB n m = true then ⟨blocksTo h all (all.length / 64), n + m, all.drop (64 * (all.length / 64)), 0⟩ else ⟨zero8, 0, [], 4⟩
  else ⟨zero8, 0, [], 1⟩
theorem wrU_len {h : List UInt32} (hh : h.length = 8) (n k : Nat) (rest all : List UInt8) (m : Nat) : (wrU h n k rest all m).h.length = 8 := by
  unfold wrU
  split
  · split
    · exact blocksTo_len hh _ _
    · rfl
  · rfl

def PWr (r : Wr) (w : World) (e : Ending) (w' : World) : Prop :=
  ∃ A' k' c', e = .returned (.tuple #[.agg (shaL r.h r.n (.slice A' k' c')).toArray, .int .i64 r.e]) ∧ w'.ownsRow w.heap.size 5 1 (.slice A' k' c') k' (r.l.map bv) ∧ Below w.heap.size w w'
def RWr (r : Wr) (w : World) (e : Ending) (w' : World) : Prop :=
  ∃ A' k' c', e = .returned (.tuple #[.agg (shaL r.h r.n (.slice A' k' c')).toArray, .int .i64 r.e]) ∧ Rd w' w'.heap.size A' k' (r.l.map bv) ∧ Below w.heap.size w w'

theorem pWrite_all (h : List UInt32) (n : Nat) (A : Option Addr) (k c : Nat) (rest : List UInt8) (At : Option Addr) (m ct : Nat) (vs : List Value) (ts : List (List UInt8)) (w : World) (hh : h.length = 8) (hn : n < 18446744073709551616) (hk : k ≤ 9223372036854775807) (hr : Rd w w.heap.size A k (rest.map bv)) (hm : m ≤ 5864062014805)
    (htot : ts.flatten.length ≤ 1099511627776) (hv : Rd w w.heap.size At m vs) (ht : Txs w w.heap.size vs ts) (hT : CTab w) :
    Calls Tryd.prog 14 #[.agg (shaL h n (.slice A k c)).toArray, .slice At m ct] w (PWr (wrU h n k rest (rest ++ ts.flatten) ts.flatten.length) w) := by
  have hl : ∀ t ∈ ts, t.length ≤ 9223372036854775807 := fun t h => by have := len_le_flat h; omega
  by_cases hc : chkU h n k = true
  · by_cases hrm : roomB n ts.flatten.length = true
    · rw [wrU, if_pos hc, if_pos hrm]
      refine (Write_ok h n A k c rest At m ct vs ts w hh hn hr hm hl hv ht hc hT hrm).mono ?_
      rintro e w' ⟨A', k', c', rfl, hown, hb⟩
      exact ⟨A', k', c', rfl, hown, hb⟩
    · rw [wrU, if_pos hc, if_neg hrm]
      refine (Write_long h n A k c rest At m ct vs ts w hh hn hr hm hl hv ht hc (by simpa using hrm)).mono ?_
      rintro e w' ⟨rfl, hb⟩
      exact ⟨none, 0, 0, rfl, World.ownsRow_nil _ _ _ _, hb⟩
  · rw [wrU, if_neg hc]
    refine (Write_bad h n A k c At m ct w hh hn hk (by simpa using hc)).mono ?_
    rintro e w' ⟨rfl, hb⟩
    exact ⟨none, 0, 0, rfl, World.ownsRow_nil _ _ _ _, hb⟩

theorem rWrite_all (h : List UInt32) (n : Nat) (A : Option Addr) (k c : Nat) (rest : List UInt8) (At : Option Addr) (m ct : Nat) (vs : List Value) (ts : List (List UInt8)) (w : World) (hh : h.length = 8) (hn : n < 18446744073709551616) (hk : k ≤ 9223372036854775807) (hr : Rd w w.heap.size A k (rest.map bv)) (hm : m ≤ 5864062014805)
    (htot : ts.flatten.length ≤ 1099511627776) (hv : Rd w w.heap.size At m vs) (ht : Txs w w.heap.size vs ts) (hT : KTab w) :
    Calls Tryd.prog 15 #[.agg (shaL h n (.slice A k c)).toArray, .slice At m ct] w (RWr (wrU h n k rest (rest ++ ts.flatten) ts.flatten.length) w) := by
  by_cases hc : chkU h n k = true
  · by_cases hrm : roomB n ts.flatten.length = true
    · rw [wrU, if_pos hc, if_pos hrm]
      refine (rWrite_ok h n A k c rest At m ct vs ts w hh hn hr hm htot hv ht hT hc hrm).mono ?_
      rintro e w' ⟨A', k', c', rfl, hown, hb⟩
      exact ⟨A', k', c', rfl, hown, hb⟩
    · rw [wrU, if_pos hc, if_neg hrm]
      refine (rWrite_long h n A k c At m ct vs ts w hh hn hk hm htot hv ht hc (by simpa using hrm)).mono ?_
      rintro e w' ⟨rfl, hb⟩
      exact ⟨none, 0, 0, rfl, Rd.zero _ _ _, hb⟩
  · rw [wrU, if_neg hc]
    refine (rWrite_bad h n A k c At m ct w hh hn hk (by simpa using hc)).mono ?_
    rintro e w' ⟨rfl, hb⟩
    exact ⟨none, 0, 0, rfl, Rd.zero _ _ _, hb⟩

def dnU (h : List UInt32) (n k : Nat) (rest : List UInt8) : List UInt8 := if chkU h n k = true then doneU h n rest else zeroKey
theorem dnU_len {h : List UInt32} (hh : h.length = 8) (n k : Nat) (rest : List UInt8) : (dnU h n k rest).length = 32 := by
  unfold dnU
  split
  · rw [doneU, bytesU_len, blocksTo_len hh]
  · rfl

theorem pDone_all (h : List UInt32) (n : Nat) (A : Option Addr) (k c : Nat) (rest : List UInt8) (w : World) (hh : h.length = 8) (hn : n < 18446744073709551616) (hk : k ≤ 9223372036854775807) (hr : Rd w w.heap.size A k (rest.map bv)) (hT : CTab w) :
    Calls Tryd.prog 16 #[.agg (shaL h n (.slice A k c)).toArray] w fun e w' => e = .returned (.tuple #[.agg ((dnU h n k rest).map bv).toArray, .int .i64 (errC (chkU h n k))]) ∧ Below w.heap.size w w' := by
  by_cases hc : chkU h n k = true
  · rw [dnU, if_pos hc, hc]
    exact Done_ok h n A k c rest w hh hn hr hT hc
  · rw [dnU, if_neg hc, show chkU h n k = false by simpa using hc]
    exact Done_bad h n A k c w hh hn hk (by simpa using hc)

theorem rDone_all (h : List UInt32) (n : Nat) (A : Option Addr) (k c : Nat) (rest : List UInt8) (w : World) (hh : h.length = 8) (hn : n < 18446744073709551616) (hk : k ≤ 9223372036854775807) (hr : Rd w w.heap.size A k (rest.map bv)) (hT : KTab w) :
    Calls Tryd.prog 17 #[.agg (shaL h n (.slice A k c)).toArray] w fun e w' => e = .returned (.tuple #[.agg ((dnU h n k rest).map bv).toArray, .int .i64 (errC (chkU h n k))]) ∧ Below w.heap.size w w' := by
  by_cases hc : chkU h n k = true
  · rw [dnU, if_pos hc, hc]
    exact rDone_ok h n A k c rest w hh hn hr hT hc
  · rw [dnU, if_neg hc, show chkU h n k = false by simpa using hc]
    exact rDone_bad h n A k c w hh hn hk (by simpa using hc)

theorem sameSha_self (h : List UInt32) (n : Nat) (l : List UInt8) : sameSha h n l h n l = true := by simp [sameSha, sameB]

/-- a slice of bytes in a block of the call's own, whatever the bytes are -/
def OwnB (w : World) (base : Nat) (A : Option Addr) (k : Nat) : Prop :=
  k ≤ 0 ∨ ∃ g cur, A = some ⟨g, 0, none⟩ ∧ base ≤ g ∧ w.heap[g]? = some (.cells cur 5 (0, 0)) ∧ ∀ i, i < k → ∃ x : UInt8, cur[i]? = some (bv x)
theorem OwnB.of {w : World} {base k c : Nat} {A : Option Addr} {l : List UInt8} (h : w.ownsRow base 5 1 (.slice A k c) k (l.map bv)) : OwnB w base A k := by
  obtain ⟨hl, h⟩ := h
  rcases h with ⟨_, h0⟩ | ⟨g, cap, cur, hv, hb, hg, hnc, _, hcs, ht⟩
  · exact .inl (by omega)
  · injection hv with h1 h2 h3
    refine .inr ⟨g, cur, h1, hb, hg, fun i hi => ?_⟩
    rw [Nat.mul_one] at ht hl
    have hi2 : i < l.length := by rw [List.length_map] at hl; omega
    refine ⟨l[i], ?_⟩
    have e : (l.map bv)[i]? = some (bv l[i]) := by rw [List.getElem?_map, List.getElem?_eq_getElem hi2]; rfl
    rw [← ht, List.getElem?_take_of_lt hi] at e
    simpa using e
theorem OwnB.below {w w' : World} {base k : Nat} {A : Option Addr} (h : OwnB w base A k) (hb : Below w.heap.size w w') : OwnB w' base A k := by
  rcases h with h | ⟨g, cur, h1, h2, h3, h4⟩
  · exact .inl h
  · exact .inr ⟨g, cur, h1, h2, (hb.block g (Array.getElem?_eq_some_iff.1 h3).1).trans h3, h4⟩
theorem OwnB.get {w : World} {base k i : Nat} {A : Option Addr} (h : OwnB w base A k) (hi : i < k) :
    ∃ g, A = some ⟨g, 0, none⟩ ∧ base ≤ g ∧ (∃ x : UInt8, w.cell? ⟨g, i, none⟩ = some (.int .u8 (x.toNat : Int))) ∧ w.frozen? ⟨g, i, none⟩ = false ∧ ∀ x : UInt8, OwnB (w.setCell ⟨g, i, none⟩ (.int .u8 (x.toNat : Int))) base A k := by
  rcases h with h | ⟨g, cur, h1, h2, h3, h4⟩
  · omega
  · obtain ⟨x, hx⟩ := h4 i hi
    refine ⟨g, h1, h2, ⟨x, ?_⟩, frozen_of_row w g i _ _ h3, fun y => .inr ⟨g, cur.setIfInBounds i (bv y), h1, h2, ?_, fun j hj => ?_⟩⟩
    · rw [cell_of_row w g i _ _ (0, 0) h3]
      exact hx
    · simp only [World.setCell, Array.getElem?_modify, h3, Option.map_some]
      simp [bv]
    · obtain ⟨z, hz⟩ := h4 j hj
      by_cases hij : i = j
      · subst hij
        exact ⟨y, by rw [Array.getElem?_setIfInBounds_self_of_lt (Array.getElem?_eq_some_iff.1 hz).1]⟩
      · exact ⟨z, by rw [Array.getElem?_setIfInBounds_ne hij]; exact hz⟩

end Go.Proofs.YtmkkghlpdnoogaaDoor
