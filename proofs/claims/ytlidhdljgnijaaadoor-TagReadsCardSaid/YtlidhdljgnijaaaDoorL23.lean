import Derived.Test.YtlidhdljgnijaaaDoorL19
import Derived.Test.YtlidhdljgnijaaaDoorL22
import Derived.Test.YtlidhdljgnijaaaDoorL08
/-
  THE SUMS OF A TREE'S NODES (layer 13), as functions of lists.
-/
set_option linter.unusedVariables false
namespace Go.Proofs.YtlidhdljgnijaaaDoor
open Go.RowKit

def leafTag : List UInt8 := [108, 101, 97, 102]
def nodeTag : List UInt8 := [110, 111, 100, 101]
def redTag : List UInt8 := [114, 101, 100]
/-- what a node's sum is of -/
def partsN (outs : List UInt8) (ids : List Int) (ps : List UInt8) (i : Nat) (x : RN) : List (List UInt8) :=
  if x.lev = 0 then [leafTag, be 4 (ids.getD x.at_ 0).toNat, keyI ps i] else (if x.red = true then redTag else nodeTag) :: keyI ps i :: x.kids.map (keyI outs)
/-- the first so many sums, one behind the other -/
def sumsJ (L : List RN) (ids : List Int) (ps : List UInt8) : Nat → List UInt8
  | 0 => []
  | j + 1 => sumsJ L ids ps j ++ (match L[j]? with | some x => sumU (txs (partsN (sumsJ L ids ps j) ids ps j x)) | none => [])
theorem sumU_len (l : List UInt8) : (sumU l).length = 32 := by
  rw [sumU, bytesU_len, blocksTo_len (by rfl)]
theorem sumsJ_succ {L : List RN} {j : Nat} {x : RN} (h : L[j]? = some x) (ids : List Int) (ps : List UInt8) : sumsJ L ids ps (j + 1) = sumsJ L ids ps j ++ sumU (txs (partsN (sumsJ L ids ps j) ids ps j x)) := by
  rw [sumsJ, h]
theorem sumsJ_len (L : List RN) (ids : List Int) (ps : List UInt8) : ∀ j, j ≤ L.length → (sumsJ L ids ps j).length = j * 32
  | 0, _ => rfl
  | j + 1, h => by
    rw [sumsJ_succ (List.getElem?_eq_getElem (show j < L.length by omega)), List.length_append, sumsJ_len L ids ps j (by omega), sumU_len]
    omega
/-- the nodes that a tree with points has -/
def nodesG (kind : Int) (ids : List Int) (ll : List (List Int)) : List RN := nodesU kind ids.length (lvN ll)
def sumsT (kind : Int) (ids : List Int) (ll : List (List Int)) (ps : List UInt8) (np : Nat) : List UInt8 := sumsJ (nodesG kind ids ll) ids ps np
theorem nodesG_nf {kind : Int} {ids : List Int} {ll : List (List Int)} (hm : mayB kind ids ll = true) : nodesI kind ids ll = (nodesG kind ids ll).map RN.i ∧ NF kind ids (nodesG kind ids ll) := by
  refine ⟨by rw [nodesI, if_pos hm]; rfl, ?_⟩
  rcases Nat.eq_zero_or_pos ids.length with h0 | h0
  · have hi : ids = [] := List.eq_nil_of_length_eq_zero h0
    subst hi
    exact nf_nil kind
  · have hT := top_facts hm h0
    rw [nodesG, nodesU, if_neg (by omega)]
    exact top_nf hT

/-- a new row that bears a mark reads as it is -/
theorem rd_marked (w : World) (t : TypeId) (xs : Array Value) (m : Nat × Nat) {n : Nat} (hn : xs.size = n) : Rd (w.alloc (.cells xs t m)) (w.heap.size + 1) (some ⟨w.heap.size, 0, none⟩) n xs.toList := by
  subst hn
  refine ⟨by simp, fun _ => ⟨w.heap.size, 0, rfl, by omega, fun j u hu => ?_⟩⟩
  rw [Nat.zero_add, cell_of_row _ w.heap.size j xs t m (heap_alloc_new w _), ← Array.getElem?_toList]
  exact hu
theorem txs_le32 : ∀ (ts : List (List UInt8)), (∀ t ∈ ts, t.length ≤ 32) → (txs ts).length ≤ 34 * ts.length ∧ GoodT ts
  | [], _ => ⟨by simp [txs], fun i t h => by simp at h⟩
  | t :: ts, h => by
    obtain ⟨h1, h2⟩ := txs_le32 ts (fun u hu => h u (by simp [hu]))
    have h3 := h t (by simp)
    refine ⟨?_, fun i u hu => ?_⟩
    · have e : (txs (t :: ts)).length = 2 + t.length + (txs ts).length := by
        simp only [txs, List.map_cons, List.flatten_cons, List.length_append, be_length]
      rw [e, List.length_cons]
      omega
    · cases i with
      | zero => simp at hu; subst hu; omega
      | succ i => exact h2 i u (by simpa using hu)
theorem keyI_le (xs : List UInt8) (i : Nat) : (keyI xs i).length ≤ 32 := by rw [keyI, List.length_take]; omega
theorem parts_short (outs : List UInt8) (ids : List Int) (ps : List UInt8) (i : Nat) (x : RN) (h3 : x.kids.length ≤ 3) : (∀ t ∈ partsN outs ids ps i x, t.length ≤ 32) ∧ (partsN outs ids ps i x).length ≤ 5 := by
  rw [partsN]
  split
  · refine ⟨fun t ht => ?_, by simp⟩
    simp only [List.mem_cons, List.not_mem_nil, or_false] at ht
    rcases ht with rfl | rfl | rfl
    · decide
    · rw [be_length]; omega
    · exact keyI_le _ _
  · refine ⟨fun t ht => ?_, by simp only [List.length_cons, List.length_map]; omega⟩
    simp only [List.mem_cons, List.mem_map] at ht
    rcases ht with rfl | rfl | ⟨k, _, rfl⟩
    · split <;> decide
    · exact keyI_le _ _
    · exact keyI_le _ _
/-- texts in a row of the call's own, whose block no text's is -/
def TxP (w : World) (own : Option Nat) (vs : List Value) (ts : List (List UInt8)) : Prop :=
  vs.length = ts.length ∧ ∀ (i : Nat) (v : Value) (t : List UInt8), vs[i]? = some v → ts[i]? = some t → ∃ A c, v = .slice A t.length c ∧ t.length ≤ c ∧ Rd w w.heap.size A t.length (t.map bv) ∧ ∀ b o, A = some ⟨b, o, none⟩ → own ≠ some b ∧ b < w.heap.size
section
variable {w w' : World} {own own' : Option Nat} {vs : List Value} {ts : List (List UInt8)}
theorem TxP.txs (h : TxP w own vs ts) : Txs w w.heap.size vs ts := ⟨h.1, fun i v t hv ht => by
  obtain ⟨A, c, h1, h2, h3, _⟩ := h.2 i v t hv ht
  exact ⟨A, c, h1, h2, h3⟩⟩
theorem TxP.below (h : TxP w own vs ts) (hb : Below w.heap.size w w') : TxP w' own vs ts := ⟨h.1, fun i v t hv ht => by
  obtain ⟨A, c, h1, h2, h3, h4⟩ := h.2 i v t hv ht
  exact ⟨A, c, h1, h2, (h3.below hb).more hb.size, fun b o e => ⟨(h4 b o e).1, Nat.lt_of_lt_of_le (h4 b o e).2 hb.size⟩⟩⟩
theorem TxP.snoc (h : TxP w own vs ts) {A : Option Addr} {c : Nat} {t : List UInt8} (hc : t.length ≤ c) (hr : Rd w w.heap.size A t.length (t.map bv)) (hn : ∀ b o, A = some ⟨b, o, none⟩ → own ≠ some b ∧ b < w.heap.size) : TxP w own (vs ++ [.slice A t.length c]) (ts ++ [t]) := by
  refine ⟨by simp [h.1], fun i v u hv hu => ?_⟩
  rcases Nat.lt_or_ge i vs.length with hi | hi
  · rw [List.getElem?_append_left hi] at hv
    rw [List.getElem?_append_left (by rw [← h.1]; exact hi)] at hu
    exact h.2 i v u hv hu
  · have hi' : i = vs.length := by
      have := (List.getElem?_eq_some_iff.1 hv).1
      simp at this
      omega
    subst hi'
    rw [List.getElem?_append_right (Nat.le_refl _), Nat.sub_self] at hv
    rw [h.1, List.getElem?_append_right (Nat.le_refl _), Nat.sub_self] at hu
    simp at hv hu
    subst hv hu
    exact ⟨A, c, rfl, hc, hr, hn⟩
theorem TxP.grown (h : TxP w own vs ts) (hg : w.grownBy w' own) (hat : own' = own ∨ own' = some w.heap.size) : TxP w' own' vs ts := ⟨h.1, fun i v t hv ht => by
  obtain ⟨A, c, h1, h2, h3, h4⟩ := h.2 i v t hv ht
  refine ⟨A, c, h1, h2, ⟨h3.len, fun h0 => ?_⟩, fun b o e => ?_⟩
  · obtain ⟨b, o, e, hb, hc⟩ := h3.pos h0
    refine ⟨b, o, e, Nat.lt_of_lt_of_le hb hg.size, fun j u hu => ?_⟩
    rw [← hc j u hu]
    exact World.cell?_of_block (hg.block b hb (fun x => (h4 b o e).1 x.symm))
  · refine ⟨?_, Nat.lt_of_lt_of_le (h4 b o e).2 hg.size⟩
    rcases hat with rfl | rfl
    · exact (h4 b o e).1
    · intro x
      injection x with x
      have := (h4 b o e).2
      omega⟩
end

end Go.Proofs.YtlidhdljgnijaaaDoor

