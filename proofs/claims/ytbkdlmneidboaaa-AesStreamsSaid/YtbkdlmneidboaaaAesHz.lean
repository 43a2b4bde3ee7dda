/-
  ZEROS of 176 bytes; the keys that lie in a cipher (package aes).
-/
import Derived.Test.YtbkdlmneidboaaaAesG
set_option linter.unusedVariables false
namespace Go.Proofs.Ytbkdlmneidboaaa
open Go.RowKit

theorem info176 : (Try.prog.info? 87).map (fun i => (i.zero, i.size, i.bytes)) = some (some (.agg (cz 176)), 176, 176) := by kernel_rfl
theorem zero176 (w : World) : (zeroValue 87).run Try.prog w = .ok (.agg (cz 176)) w := by
  obtain ⟨i0, hi0, hz0, hz1, hz2⟩ := info_parts info176
  exact run_zero_of hi0 hz0 w
theorem size176 : (Try.prog.info? 87).map (·.size) = some 176 := by kernel_rfl
theorem keysU_len {k : List UInt8} (h : k.length = 16) : (keysU k).length = 176 := by rw [keysU_kTo, kTo_len h]
theorem CipAt.keys {w : World} {g : Nat} {K : List UInt8} (h : CipAt w g K) : w.rangeAt g 256 (K.map bv) := by
  intro j u hu
  rw [List.getElem?_map] at hu
  obtain ⟨x, hx, rfl⟩ := Option.map_eq_some_iff.1 hu
  refine ArrB.cell h ?_
  rw [List.getElem?_append_right (by rw [boxT_len]; omega), boxT_len, show 256 + j - 256 = j by omega, hx]

end Go.Proofs.Ytbkdlmneidboaaa
