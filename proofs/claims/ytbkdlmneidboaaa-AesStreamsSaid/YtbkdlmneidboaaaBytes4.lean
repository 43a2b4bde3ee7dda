/-
  A COUNTER's FOUR BYTES by the document's Bytes, and where they lie in a block.
-/
import Derived.Test.YtbkdlmneidboaaaCtrD
import Derived.Test.YtbkdlmneidboaaaRefA
set_option linter.unusedVariables false
namespace Go.Proofs.Ytbkdlmneidboaaa
open Go.RowKit

theorem Bytes_4 (x : Nat) (y : Int) (w : World) (hy : y = (x : Int)) (hx : x < 18446744073709551616) :
    Calls Try.prog 43 #[.int .i64 4, .int .u64 y] w fun e w' =>
      ∃ g c, e = .returned (.slice (some ⟨g, 0, none⟩) 4 c) ∧ (∀ j v, ((be 4 x).map bv)[j]? = some v → w'.cell? ((⟨g, 0, none⟩ : Addr).add j) = some v) ∧ Below w.heap.size w w' := by
  subst hy
  refine (Bytes_any 4 x w (by omega) hx).mono ?_
  rintro e w' ⟨A, c, rfl, ho, hb⟩
  obtain ⟨g, cap, hv, _, _⟩ := ho.form (by decide)
  injection hv with hv1 _ _
  subst hv1
  exact ⟨g, c, rfl, fun j v h => ho.cells (g := g) rfl j v h, hb⟩

theorem cin_splice {n : List UInt8} (h : n.length = 12) (x : Nat) : splice (splice zero16 0 n) 12 (be 4 x) = cinU n x := by
  have hz : zero16 = List.replicate 12 0 ++ List.replicate 4 0 := rfl
  have h1 : splice zero16 0 n = n ++ List.replicate 4 0 := by
    rw [hz]
    have := splice_in (α := UInt8) [] (List.replicate 12 0 ++ List.replicate 4 0) n (by simp [h])
    simp only [List.nil_append, List.length_nil] at this
    rw [this, h, List.drop_left' (by simp)]
  rw [h1]
  have := splice_in n (List.replicate 4 0) (be 4 x) (by simp [be_length])
  rw [h] at this
  rw [this]
  simp [be_length, cinU]
theorem nbs_16 (M : Nat) : nbs (16 * M) = M := by unfold nbs; omega

end Go.Proofs.Ytbkdlmneidboaaa
