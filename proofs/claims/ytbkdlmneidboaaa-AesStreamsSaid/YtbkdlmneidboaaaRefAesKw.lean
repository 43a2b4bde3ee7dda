/-
  WORDS for the walk of the document's Keys (coterieref04): a row of words that fills up.
-/
import Derived.Test.YtbkdlmneidboaaaRefAesK
import Derived.Test.YtbkdlmneidboaaaRefAesB
import Derived.Test.YtbkdlmneidboaaaAesHz
set_option linter.unusedVariables false
namespace Go.Proofs.Ytbkdlmneidboaaa
open Go.RowKit

theorem infoW : (Try.prog.info? 103).map (fun i => (i.zero, i.size, i.bytes)) = some (some (.agg (cz 176)), 176, 176) := by kernel_rfl
theorem zeroW (w : World) : (zeroValue 103).run Try.prog w = .ok (.agg (cz 176)) w := by
  obtain ⟨i0, hi0, hz0, hz1, hz2⟩ := info_parts infoW
  exact run_zero_of hi0 hz0 w
theorem sizeW : (Try.prog.info? 103).map (·.size) = some 176 := by kernel_rfl

/-- the first n bytes of the keys, zeros behind -/
def kU (F : List UInt8) (n : Nat) : List UInt8 := upto (at0 F) (fun _ => 0) 176 n
theorem kU_zero (F : List UInt8) : kU F 0 = List.replicate 176 0 := by
  rw [kU, upto_zero]
  exact List.eq_replicate_iff.2 ⟨by rw [List.length_map, List.length_range], fun b hb => by obtain ⟨_, _, rfl⟩ := List.mem_map.1 hb; rfl⟩
theorem kU_all {F : List UInt8} (h : F.length = 176) : kU F 176 = F := by rw [kU, upto_all, map_at0 h]
theorem kU_len (F : List UInt8) (n : Nat) : (kU F n).length = 176 := upto_len _ _ _ _
theorem kU_word (F : List UInt8) (i : Nat) (hi : i < 44) : splice (kU F (i * 4)) (i * 4) [at0 F (i * 4), at0 F (i * 4 + 1), at0 F (i * 4 + 2), at0 F (i * 4 + 3)] = kU F ((i + 1) * 4) := by
  have h3 : kU F ((i + 1) * 4) = ((((kU F (i * 4)).set (i * 4) (at0 F (i * 4))).set (i * 4 + 1) (at0 F (i * 4 + 1))).set (i * 4 + 2) (at0 F (i * 4 + 2))).set (i * 4 + 3) (at0 F (i * 4 + 3)) := by
    rw [show (i + 1) * 4 = i * 4 + 3 + 1 by omega]
    unfold kU
    rw [upto_succ, upto_succ, upto_succ, upto_succ]
  rw [h3]
  rw [← splice_set _ _ _ _ (by simp [kU_len]; omega), ← splice_set _ _ _ _ (by simp [kU_len]; omega), ← splice_set _ _ _ _ (by simp [kU_len]; omega), ← splice_set _ _ _ _ (by simp [kU_len]; omega)]
  simp [splice]

theorem there_of {w : World} {g : Nat} {t : TypeId} {l : List UInt8} (h : ArrB w g t l) {o n : Nat} (hn : o + n ≤ l.length) : w.there g o n := fun j hj =>
  ⟨by rw [h.cell (at0_of (show o + j < l.length by omega))]; rfl, h.frozen _⟩

theorem ArrB.splice_ {w : World} {g : Nat} {t : TypeId} {l l' cs : List UInt8} {o : Nat} (h : ArrB w g t l) (ho : o + cs.length ≤ l.length) (hl : splice l o cs = l') : ArrB (w.setCells g o (cs.map bv)) g t l' := by
  have h2 := setCells_heap g t (cs.map bv) (l.map bv) o w h (by simpa using ho)
  rw [splice_bytes, hl] at h2
  exact h2
theorem ArrB.mid {w : World} {g : Nat} {t : TypeId} {l cs : List UInt8} {o : Nat} (h : ArrB w g t l) (hc : ∀ j x, cs[j]? = Option.some x → l[o + j]? = Option.some x) : w.rangeAt g o (cs.map bv) := by
  intro j u hu
  rw [List.getElem?_map] at hu
  obtain ⟨x, hx, rfl⟩ := Option.map_eq_some_iff.1 hu
  exact h.cell (hc j x hx)
theorem four_at {a b c d : UInt8} {P : Nat → UInt8 → Prop} (h0 : P 0 a) (h1 : P 1 b) (h2 : P 2 c) (h3 : P 3 d) : ∀ j x, [a, b, c, d][j]? = some x → P j x
  | 0, x, h => by simp at h; subst h; exact h0
  | 1, x, h => by simp at h; subst h; exact h1
  | 2, x, h => by simp at h; subst h; exact h2
  | 3, x, h => by simp at h; subst h; exact h3
  | n + 4, x, h => by simp at h
theorem kU_done {F : List UInt8} {n p : Nat} (hp : p < n) (hn : n ≤ 176) : (kU F n)[p]? = some (at0 F p) := upto_done _ _ (by omega) hp
theorem kU_old {F : List UInt8} {n : Nat} (hn : n < 176) : (kU F n)[n]? = some 0 := upto_old _ _ hn (Nat.le_refl _)
theorem kU_set (F : List UInt8) (n : Nat) : (kU F n).set n (at0 F n) = kU F (n + 1) := (upto_succ _ _ _ _).symm

/-- an element of an array by value that is a row of four bytes -/
theorem wpList_index_row {ops : Array Oper} {rest : List Oper} {o : Oper} {a : Act} {w : World} {Q : Exit → Act → World → Prop} (hg : o.guard = none) (dst : Option Tmp) (hdst : o.dst = dst)
    (x ix : Operand) (ho : o.op = .index 103 x ix) (cs : Array Value) (hx : a.eval x = .agg cs) (j : Nat) (hi : a.eval ix = .int .i64 (j : Int)) (v : Array Value) (hv : cs.extract (j * 4) (j * 4 + 4) = v) (hvs : v.size = 4) (hj : j < 44)
    (h : wpList Try.prog ops Q rest (a.put dst (.agg v)) w) : wpList Try.prog ops Q (o :: rest) a w := by
  refine Go.Great.wpList_readTo hg dst hdst (.agg v) ?_ h
  obtain ⟨i4, hi4, hs4⟩ : ∃ i, Try.prog.info? 93 = some i ∧ i.size = 4 := by
    have := info4
    cases hq : Try.prog.info? 93 with
    | none => rw [hq] at this; cases this
    | some i => exact ⟨i, rfl, by rw [hq] at this; simpa using this⟩
  simp only [execOp, ho, hx, hi]
  have hj2 : (j : Int) < 44 := by omega
  simp [Instr.index, run_underlying Try.underlying103, asIntOf, sizeOf, typeInfo, hi4, hs4, part, isAgg, run_underlying Try.underlying93, hv]
  intro h44
  omega

theorem ext4 {F : List UInt8} (hl : F.length = 176) {i : Nat} (hi : i < 44) :
    ((F.map bv).toArray).extract (i * 4) (i * 4 + 4) = #[bv (at0 F (i * 4 + 0)), bv (at0 F (i * 4 + 1)), bv (at0 F (i * 4 + 2)), bv (at0 F (i * 4 + 3))] := by
  have e : ∀ j, j < 4 → (F.map bv)[i * 4 + j]? = some (bv (at0 F (i * 4 + j))) := fun j hj => by rw [List.getElem?_map, at0_of (show i * 4 + j < F.length by omega)]; rfl
  apply Array.ext (by simp [hl]; omega)
  intro j h1 h2
  have hj : j < 4 := by simpa using h2
  rw [Array.getElem_extract]
  have := e j hj
  rw [List.getElem?_eq_getElem (by simp [hl]; omega)] at this
  rcases (show j = 0 ∨ j = 1 ∨ j = 2 ∨ j = 3 by omega) with rfl | rfl | rfl | rfl <;> simpa using this

theorem keys_mid {w : World} {g : Nat} {t : TypeId} {k : List UInt8} (hk : k.length = 16) (h : ArrB w g t (keysU k)) {i : Nat} (hi : i < 11) : w.rangeAt g (i * 16) ((keyU k i).map bv) :=
  h.mid fun j x hx => by
    have hj : j < 16 := by have := (List.getElem?_eq_some_iff.1 hx).1; rwa [keyU_len hk] at this
    rw [keysU_kTo, show i * 16 + j = 16 * i + j by omega, kTo_at hk hj 11 hi, hx]

end Go.Proofs.Ytbkdlmneidboaaa
