/-
  A SUM THAT IS NOT DONE (api.Sha) AS CELLS: eight words, how many bytes, a slice. What stores into its fields leave. Plain lemmas on blocks of 64 bytes.
-/
import Derived.Test.YtmkkghlpdnoogaaDoorShaI
set_option linter.unusedVariables false
namespace Go.Proofs.YtmkkghlpdnoogaaDoor
open Go.RowKit

def shaL (h : List UInt32) (n : Nat) (v : Value) : List Value := h.map wv ++ [.int .u64 (n : Int), v]
theorem shaL_len {h : List UInt32} (hh : h.length = 8) (n : Nat) (v : Value) : (shaL h n v).length = 10 := by simp [shaL, hh]
theorem shaL_n {h : List UInt32} (hh : h.length = 8) (n : Nat) (v : Value) : (shaL h n v)[8]? = some (.int .u64 (n : Int)) := by
  rw [shaL, List.getElem?_append_right (by simp [hh])]; simp [hh]
theorem shaL_v {h : List UInt32} (hh : h.length = 8) (n : Nat) (v : Value) : (shaL h n v)[9]? = some v := by
  rw [shaL, List.getElem?_append_right (by simp [hh])]; simp [hh]
theorem shaL_setN {h : List UInt32} (hh : h.length = 8) (n m : Nat) (v : Value) : (shaL h n v).set 8 (.int .u64 (m : Int)) = shaL h m v := by
  rw [shaL, List.set_append_right _ _ (by simp [hh])]; simp [hh, shaL]
theorem shaL_setV {h : List UInt32} (hh : h.length = 8) (n : Nat) (v u : Value) : (shaL h n v).set 9 u = shaL h n u := by
  rw [shaL, List.set_append_right _ _ (by simp [hh])]; simp [hh, shaL]

/-- block g is a sum that is not done -/
def ShaAt (w : World) (g : Nat) (h : List UInt32) (n : Nat) (v : Value) : Prop := h.length = 8 ∧ w.heap[g]? = some (.cells (shaL h n v).toArray 27 (0, 0))

section
variable {w w' : World} {g n : Nat} {h : List UInt32} {v : Value}
theorem ShaAt.lt (k : ShaAt w g h n v) : g < w.heap.size := (Array.getElem?_eq_some_iff.1 k.2).1
theorem ShaAt.cellN (k : ShaAt w g h n v) : w.cell? ⟨g, 8, none⟩ = some (.int .u64 (n : Int)) := by
  rw [cell_of_row w g 8 _ _ (0, 0) k.2]; simpa using shaL_n k.1 n v
theorem ShaAt.cellV (k : ShaAt w g h n v) : w.cell? ⟨g, 9, none⟩ = some v := by
  rw [cell_of_row w g 9 _ _ (0, 0) k.2]; simpa using shaL_v k.1 n v
theorem ShaAt.frozen (k : ShaAt w g h n v) (i : Nat) : w.frozen? ⟨g, i, none⟩ = false := frozen_of_row w g i _ _ k.2
theorem ShaAt.words (k : ShaAt w g h n v) : w.rangeAt g 0 (h.map wv) := fun j u hu => by
  rw [Nat.zero_add, cell_of_row w g j _ _ (0, 0) k.2]
  have hj : j < (h.map wv).length := (List.getElem?_eq_some_iff.1 hu).1
  simpa [shaL, List.getElem?_append_left hj] using hu
theorem ShaAt.word (k : ShaAt w g h n v) {i : Nat} {x : UInt32} (hx : h[i]? = some x) : w.cell? ⟨g, i, none⟩ = some (.int .u32 (x.toNat : Int)) := by
  have := k.words i (wv x) (by rw [List.getElem?_map, hx]; rfl)
  rwa [Nat.zero_add] at this
theorem ShaAt.all (k : ShaAt w g h n v) : w.rangeAt g 0 (shaL h n v) := fun j u hu => by
  rw [Nat.zero_add, cell_of_row w g j _ _ (0, 0) k.2]
  simpa using hu
theorem ShaAt.there (k : ShaAt w g h n v) : w.there g 0 8 := fun j hj => ⟨by
  rw [Nat.zero_add, cell_of_row w g j _ _ (0, 0) k.2]
  have : j < (shaL h n v).length := by rw [shaL_len k.1]; omega
  simp [this], k.frozen _⟩
theorem ShaAt.of (k : ShaAt w g h n v) (e : w'.heap[g]? = w.heap[g]?) : ShaAt w' g h n v := ⟨k.1, e.trans k.2⟩
theorem ShaAt.drew (k : ShaAt w g h n v) : ShaAt w.drew g h n v := k.of rfl
theorem ShaAt.drewN (k : ShaAt w g h n v) (m : Nat) : ShaAt (w.drewN m) g h n v := k.of rfl
theorem ShaAt.alloc (k : ShaAt w g h n v) (o : Obj) : ShaAt (w.alloc o) g h n v := k.of (heap_alloc_old w o k.lt)
theorem ShaAt.below {B : Nat} (k : ShaAt w g h n v) (hb : Below B w w') (hg : g < B) : ShaAt w' g h n v := k.of (hb.block g hg)
theorem ShaAt.far (k : ShaAt w g h n v) {p : Addr} (hp : g ≠ p.block) (u : Value) : ShaAt (w.setCell p u) g h n v := k.of (Below.heap_setCell w p u g hp)
theorem ShaAt.rowFar {g' : Nat} (k : ShaAt w g h n v) (hne : g ≠ g') (cs : Array Value) : ShaAt (w.setRow g' cs) g h n v := k.of (setRow_other w g' g cs hne)
theorem ShaAt.setN (k : ShaAt w g h n v) (m : Nat) : ShaAt (w.setCell ⟨g, 8, none⟩ (.int .u64 (m : Int))) g h m v := by
  refine ⟨k.1, ?_⟩
  have k2 := k.2
  simp only [World.setCell, Array.getElem?_modify, k2, Option.map_some]
  rw [← shaL_setN k.1 n m v]
  simp
theorem ShaAt.setV (k : ShaAt w g h n v) (u : Value) : ShaAt (w.setCell ⟨g, 9, none⟩ u) g h n u := by
  refine ⟨k.1, ?_⟩
  have k2 := k.2
  simp only [World.setCell, Array.getElem?_modify, k2, Option.map_some]
  rw [← shaL_setV k.1 n v u]
  simp
end

theorem splice_set {α : Type} (cs : List α) (o : Nat) (v : α) (r : List α) (hl : o + (r.length + 1) ≤ cs.length) : splice (cs.set o v) (o + 1) r = splice cs o (v :: r) := by
  have e : cs.set o v = (cs.take o ++ [v]) ++ cs.drop (o + 1) := by
    rw [List.set_eq_take_append_cons_drop, if_pos (by omega)]; simp
  have hlen : (cs.take o ++ [v]).length = o + 1 := by simp; omega
  rw [e, ← hlen, splice_in _ _ _ (by simp; omega)]
  unfold splice
  rw [List.drop_drop]
  simp
  omega

theorem setCells_heap (g : Nat) (t : TypeId) : ∀ (vs cs : List Value) (o : Nat) (w : World), w.heap[g]? = some (.cells cs.toArray t (0, 0)) → o + vs.length ≤ cs.length →
    (w.setCells g o vs).heap[g]? = some (.cells (splice cs o vs).toArray t (0, 0))
  | [], cs, o, w, hg, _ => by
    rw [World.setCells, hg]; simp [splice]
  | v :: r, cs, o, w, hg, hl => by
    simp only [List.length_cons] at hl
    have h1 : (w.setCell ⟨g, o, none⟩ v).heap[g]? = some (.cells (cs.set o v).toArray t (0, 0)) := by
      simp only [World.setCell, Array.getElem?_modify, hg, Option.map_some]
      simp
    rw [World.setCells, setCells_heap g t r (cs.set o v) (o + 1) _ h1 (by rw [List.length_set]; omega)]
    rw [splice_set cs o v r hl]
theorem setCells_far (g g' : Nat) (hne : g' ≠ g) : ∀ (vs : List Value) (o : Nat) (w : World), (w.setCells g o vs).heap[g']? = w.heap[g']?
  | [], _, _ => rfl
  | v :: r, o, w => by
    rw [World.setCells, setCells_far g g' hne r]
    exact Below.heap_setCell w _ v g' hne
theorem below_setCells {B g : Nat} {a : World} (hg : B ≤ g) : ∀ (vs : List Value) (o : Nat) (w : World), Below B a w → Below B a (w.setCells g o vs)
  | [], _, _, h => h
  | v :: r, o, w, h => below_setCells hg r (o + 1) _ (h.setCell hg v)

theorem ShaAt.setH {w : World} {g n : Nat} {h : List UInt32} {v : Value} (k : ShaAt w g h n v) {h' : List UInt32} (hh : h'.length = 8) : ShaAt (w.setCells g 0 (h'.map wv)) g h' n v := by
  refine ⟨hh, ?_⟩
  rw [setCells_heap g _ _ _ 0 w k.2 (by rw [shaL_len k.1]; simp [hh])]
  congr 3
  simp only [splice, shaL, List.take_zero, List.nil_append, List.length_map, hh, Nat.zero_add]
  rw [List.drop_append_of_le_length (by simp [k.1]), List.drop_of_length_le (by simp [k.1])]
  rfl

theorem own_far {w w' : World} {base : Nat} {e : TypeId} {size : Nat} {v : Value} {n : Nat} {xs : List Value} (h : w.ownsRow base e size v n xs) (hs : w.heap.size ≤ w'.heap.size) (hb : ∀ g, v.ownBlock = some g → w'.heap[g]? = w.heap[g]?) : w'.ownsRow base e size v n xs := by
  refine ⟨h.1, ?_⟩
  rcases h.2 with h0 | ⟨g, cap, cur, hv, h1, h2, h3⟩
  · exact .inl h0
  · exact .inr ⟨g, cap, cur, hv, h1, (hb g (by rw [hv]; rfl)).trans h2, h3⟩

end Go.Proofs.YtmkkghlpdnoogaaDoor
