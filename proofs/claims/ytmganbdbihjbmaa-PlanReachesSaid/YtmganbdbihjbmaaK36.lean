import Derived.Test.YtmganbdbihjbmaaK04
/-
  A ROW OF NUMBERS as a function of the place: its cells, one of them written, a new one.
-/
set_option linter.unusedVariables false
namespace Go.Proofs.Ytmganbdbihjbmaa
open Go.RowKit

def abvC (m : Nat) (v : Nat → Int) : Array Value := ((List.range m).map fun k => Value.int .i64 (v k)).toArray
theorem abvC_at {m j : Nat} (v : Nat → Int) (h : j < m) : (abvC m v)[j]? = some (.int .i64 (v j)) := by simp [abvC, h]
theorem abvC_set {m : Nat} (v : Nat → Int) (k : Nat) (x : Int) : (abvC m v).setIfInBounds k (.int .i64 x) = abvC m (fun j => if j = k then x else v j) := by
  apply Array.ext
  · simp [abvC]
  · intro i h1 h2
    simp only [abvC, List.setIfInBounds_toArray, List.getElem_toArray, List.getElem_set, List.getElem_map, List.getElem_range]
    by_cases h : k = i
    · subst h; simp
    · rw [if_neg h, if_neg (fun e => h e.symm)]
theorem abv_made (m : Nat) : madeCells #[Value.int .i64 0] m = abvC m (fun _ => 0) := by
  apply Array.ext'
  rw [toList_madeCells_one, abvC]
  apply List.ext_getElem
  · simp
  · intro i h1 h2
    simp
theorem rd_row {w : World} {g : Nat} {t : TypeId} {cs : Array Value} (h : RowC w g t cs) : Rd w w.heap.size (some ⟨g, 0, none⟩) cs.size cs.toList :=
  ⟨by simp, fun _ => ⟨g, 0, rfl, h.lt, fun j u hu => by rw [Nat.zero_add]; exact h.cell (by rw [← Array.getElem?_toList]; exact hu)⟩⟩
theorem abvC_list (m : Nat) (v : Nat → Int) : (abvC m v).toList = ((List.range m).map v).map iv := by simp [abvC, iv]
theorem abvC_size (m : Nat) (v : Nat → Int) : (abvC m v).size = m := by simp [abvC]
theorem rd_abv {w : World} {g m : Nat} {t : TypeId} {v : Nat → Int} (h : RowC w g t (abvC m v)) : Rd w w.heap.size (some ⟨g, 0, none⟩) m (((List.range m).map v).map iv) := by
  have := rd_row h
  rwa [abvC_list, abvC_size] at this

end Go.Proofs.Ytmganbdbihjbmaa

