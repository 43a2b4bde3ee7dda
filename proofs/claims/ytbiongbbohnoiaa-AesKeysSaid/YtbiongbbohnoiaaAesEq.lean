/-
  THE KEYS OF A KEY (eleven blocks) compared by value with themselves.
-/
import Derived.Test.YtbiongbbohnoiaaAesLive
set_option linter.unusedVariables false
namespace Go.Proofs.Ytbiongbbohnoiaa
open Go.RowKit

theorem cells16 : Try.prog.cellsOf 23 = 16 := by kernel_rfl
theorem infoB : ∃ i, Try.prog.info? 23 = some i ∧ i.size = 16 := by
  have := info16
  cases hq : Try.prog.info? 23 with
  | none => rw [hq] at this; cases this
  | some i => exact ⟨i, rfl, by rw [hq] at this; simpa using this⟩

theorem eql_row (w : World) (d : Nat) (a : List UInt8) (ha : a.length = 16) :
    (Op.equalIn (d + 2) 23 (.agg (a.map bv).toArray) (.agg (a.map bv).toArray)).run Try.prog w = .ok true w := by
  obtain ⟨i, hi⟩ := byte_info
  rw [run_equalIn_array w (d + 1) _ _ Try.underlying23 hi, byteCells, eqItems_ints w d Try.underlying5 (fun i => ((a.getD i 0).toNat : Int)) (fun i => ((a.getD i 0).toNat : Int)) _ _ _ (fun i hi => ?_)]
  · congr 1
    simp
  · have hin : i < 16 := by simpa using hi
    have h1 : a[i]? = some a[i] := List.getElem?_eq_getElem (by omega)
    simp [List.getD_eq_getElem?_getD, h1, bv]

theorem part_row (w : World) (F : List UInt8) (i : Nat) : (part 23 (F.map bv).toArray (i * 16)).run Try.prog w = .ok (.agg (((F.map bv).toArray).extract (i * 16) (i * 16 + 16))) w := by
  obtain ⟨iB, hB, hs⟩ := infoB
  have h1 : (isAgg 23).run Try.prog w = .ok true w := by
    unfold isAgg
    rw [Sem.run_bind, run_underlying Try.underlying23 w]
    rfl
  have h2 : (sizeOf 23).run Try.prog w = .ok 16 w := by simp only [sizeOf, typeInfo]; simp [hB, hs]
  unfold part
  simp only [Sem.run_bind, h1, Result.andThen_ok, if_true, h2, Sem.run_pure]
theorem ext_row {F : List UInt8} (hF : F.length = 176) {i : Nat} (hi : i < 11) : ((F.map bv).toArray).extract (i * 16) (i * 16 + 16) = (((F.drop (i * 16)).take 16).map bv).toArray := by
  apply Array.ext'
  rw [Array.toList_extract, List.extract, List.map_take, List.map_drop]
  congr 1
  omega

theorem eqItems_all {P : Program} (w : World) (d : Nat) (e : TypeId) (size : Nat) (xs ys : Array Value) : ∀ is : List Nat,
    (∀ i ∈ is, ∃ v u, (part e xs (i * size)).run P w = .ok v w ∧ (part e ys (i * size)).run P w = .ok u w ∧ (Op.equalIn d e v u).run P w = .ok true w) → (Op.eqItems d e size xs ys is).run P w = .ok true w
  | [], _ => by simp [Op.eqItems]
  | i :: is, h => by
    obtain ⟨v, u, h1, h2, h3⟩ := h i (by simp)
    have ih := eqItems_all w d e size xs ys is (fun j hj => h j (by simp [hj]))
    simp only [Op.eqItems, Sem.run_bind, h1, h2, h3, Result.andThen_ok]
    simp [ih]
theorem eqItems_same (w : World) (d : Nat) (F : List UInt8) (hF : F.length = 176) (is : List Nat) (h : ∀ i ∈ is, i < 11) :
    (Op.eqItems (d + 2) 23 16 (F.map bv).toArray (F.map bv).toArray is).run Try.prog w = .ok true w := by
  refine eqItems_all w (d + 2) _ 16 _ _ is fun i hi => ?_
  have p1 := part_row w F i
  have p2 := eql_row w d ((F.drop (i * 16)).take 16) (by have := h i hi; rw [List.length_take, List.length_drop, hF]; omega)
  rw [ext_row hF (h i hi)] at p1
  exact ⟨_, _, p1, p1, p2⟩

theorem eql_keys (w : World) (F : List UInt8) (hF : F.length = 176) :
    (Op.equalIn 10000 26 (.agg (F.map bv).toArray) (.agg (F.map bv).toArray)).run Try.prog w = .ok true w := by
  obtain ⟨iB, hB, hs⟩ := infoB
  rw [run_equalIn_array w 9999 _ _ Try.underlying26 hB, cells16]
  exact eqItems_same w 9997 F hF _ (fun i hi => by simpa using hi)

end Go.Proofs.Ytbiongbbohnoiaa
