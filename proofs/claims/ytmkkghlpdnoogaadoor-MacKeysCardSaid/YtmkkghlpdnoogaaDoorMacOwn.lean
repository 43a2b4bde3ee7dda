/-
  LAW: append of so many zero bytes (gc's append-of-make) onto a row of the call's own.
-/
import Derived.Test.YtmkkghlpdnoogaaDoorMacEqual
import Derived.Lib.AppendZerosOnto
set_option linter.unusedVariables false
namespace Go.Proofs.YtmkkghlpdnoogaaDoor
open Go.RowKit

theorem zeroCells_byte (k : Nat) : Builtin.zeroCells #[Value.int .u8 0] k = ((List.replicate k (0 : UInt8)).map bv).toArray := by
  apply Array.ext_getElem?
  intro i
  by_cases hi : i < k
  · simp [Builtin.zeroCells, hi, bv, Nat.mod_one]
  · simp [Builtin.zeroCells, hi]

theorem run_append_zeros (w : World) (base : Nat) (v : Value) (n : Nat) (l : List UInt8) (hown : w.ownsRow base 5 1 v n (l.map bv)) (k : Nat) (hk : n + k ≤ 1099511627776) (hb : base ≤ w.heap.size) :
    ∃ v' w', (Builtin.append_ #[25, 3] 25 #[v, .int .i64 (k : Int)]).run Tryd.prog w = .ok v' w' ∧ w'.ownsRow base 5 1 v' (n + k) ((l ++ List.replicate k 0).map bv) ∧ w.grownBy w' v.ownBlock := by
  obtain ⟨i, hi, hz, hs, hby⟩ := info_parts byteInfo
  have ht := Tryd.underlying25
  have htn := Tryd.underlying3
  have hw : IntKind.i64.wrap (k : Int) = k := by rw [IntKind.wrap_i64]; omega
  have hneg : ¬ ((k : Int) < 0) := by omega
  have hlen : l.length = n := by have := hown.1; simpa using this
  have hlen2 : ((l ++ List.replicate k (0 : UInt8)).map bv).length = (n + k) * 1 := by simp [hlen]
  have hzc : (Value.int .u8 0).cells = #[Value.int .u8 0] := rfl
  have fresh : ∀ (old : Nat) (row : Option Nat), (w.drew.alloc (.cells ((l.map bv).toArray ++ Builtin.zeroCells (Value.int .u8 0).cells k ++ Builtin.zeroCells (Value.int .u8 0).cells (grownCap w (n + k) old 5 - (n + k))) 5)).ownsRow base 5 1
        (.slice (some ⟨w.heap.size, 0, none⟩) (n + k) (grownCap w (n + k) old 5)) (n + k) ((l ++ List.replicate k 0).map bv) ∧
      w.grownBy (w.drew.alloc (.cells ((l.map bv).toArray ++ Builtin.zeroCells (Value.int .u8 0).cells k ++ Builtin.zeroCells (Value.int .u8 0).cells (grownCap w (n + k) old 5 - (n + k))) 5)) row := by
    intro old row
    have hge := grownCap_ge w (n + k) old 5
    have hcm : grownCap w (n + k) old 5 ≤ maxLen := grownCap_le_maxLen w (n + k) old 5 (by simp only [maxLen]; omega)
    refine ⟨⟨hlen2, .inr ⟨w.heap.size, _, _, rfl, hb, heap_alloc_new w.drew _, hge, hcm, ?_, ?_⟩⟩, ⟨rfl, rfl, rfl, by simp, fun q hq _ => heap_alloc_old w.drew _ hq⟩⟩
    · rw [hzc, zeroCells_byte, zeroCells_byte]
      simp [hlen]
      omega
    · rw [hzc, zeroCells_byte, zeroCells_byte]
      simp only [Array.toList_append]
      rw [← List.map_append, ← hlen2]
      exact List.take_left
  rcases hown.2 with ⟨rfl, rfl⟩ | ⟨g, cap, cur, rfl, hbg, hg, hnc, hcm, hcs, htake⟩
  · obtain rfl : l = [] := List.eq_nil_of_length_eq_zero hlen
    rcases Nat.eq_zero_or_pos k with rfl | hp
    · refine ⟨.slice none 0 0, w, ?_, by simpa using World.ownsRow_nil w base 5 1, World.grownBy.refl w _⟩
      have h0 : IntKind.i64.wrap 0 = 0 := by rw [IntKind.wrap_i64]; rfl
      simp [Builtin.append_, run_underlying ht, run_underlying htn, sizeOf, typeInfo, hi, asInt, asIntOf, h0]
    · have hr := Lib.run_append_nil_zeros (P := Tryd.prog) w 25 3 25 5 i _ .i64 .i64 ht htn hi hz k hp (by omega) (by omega) (by rw [hby]; omega)
      have hf := fresh 0 (Value.ownBlock (.slice none 0 0))
      simp only [Nat.zero_add, List.nil_append, List.map_nil, Array.empty_append] at hf ⊢
      exact ⟨_, _, hr, hf.1, hf.2⟩
  · have hcur : n + k ≤ cap → (w.setRow g (cur.toList.take n ++ (List.replicate k (0 : UInt8)).map bv ++ cur.toList.drop (n + k)).toArray).ownsRow base 5 1 (.slice (some ⟨g, 0, none⟩) (n + k) cap) (n + k) ((l ++ List.replicate k 0).map bv) := by
      intro hroom
      refine ⟨hlen2, .inr ⟨g, cap, _, rfl, hbg, setRow_heap w g cur _ _ _ hg, hroom, hcm, ?_, ?_⟩⟩
      · simp only [List.size_toArray, List.length_append, List.length_take, List.length_drop, Array.length_toList, List.length_map, List.length_replicate]
        omega
      · rw [Nat.mul_one] at htake ⊢
        rw [htake, ← List.map_append]
        have e : n + k = ((l ++ List.replicate k (0 : UInt8)).map bv).length := by simp [hlen]
        rw [e]
        exact List.take_left
    have hgrow : ∀ cs, w.grownBy (w.setRow g cs) (Value.ownBlock (.slice (some ⟨g, 0, none⟩) n cap)) := fun cs => ⟨rfl, rfl, rfl, by simp, fun q _ hq => setRow_other w g q _ (fun e => hq (by simp [Value.ownBlock, e]))⟩
    by_cases hroom : n + k ≤ cap
    · have hst := run_storeCells_at Tryd.prog g n 5 ((List.replicate k (0 : UInt8)).map bv) 0 cur w hg (by simp; omega) (one_bv _)
      simp only [Nat.add_zero, List.length_map, List.length_replicate] at hst
      refine ⟨_, _, ?_, hcur hroom, hgrow _⟩
      rcases Nat.eq_zero_or_pos k with rfl | hp
      · have h0 : IntKind.i64.wrap 0 = 0 := by rw [IntKind.wrap_i64]; rfl
        simp at hst
        simp [Builtin.append_, run_underlying ht, run_underlying htn, sizeOf, typeInfo, hi, hs, asInt, asIntOf, h0, hnc, Addr.add_lit, hst]
      · have hne : ¬ (k = 0) := by omega
        have hzb := zeroCells_byte k
        have hlt : ¬ (281474976710656 < (k : Int)) := by omega
        simp [Builtin.append_, run_underlying ht, run_underlying htn, sizeOf, typeInfo, zeroValue, hi, hz, hs, hby, asInt, asIntOf, hw, hneg, hlt, hroom, hne, hzc, hzb, Addr.add_lit]
        simp at hst
        rw [hst]
        rfl
    · rcases Nat.eq_zero_or_pos k with rfl | hp
      · omega
      · have hold := run_firstCells_some (P := Tryd.prog) w.drew i.size n ⟨g, 0, none⟩ n cap (l.map bv) (by rw [hs]; simp [hlen]) (fun j u hj => by
          have := hown.cells (g := g) rfl j u hj
          simpa using this)
        have hr := Lib.run_append_grow_zeros (P := Tryd.prog) w 25 3 25 5 i _ .i64 .i64 ht htn hi hz (some ⟨g, 0, none⟩) n cap (l.map bv) hold k hp (by omega) (by omega) (by omega) (by rw [hby]; omega) (growslice_fits (by omega) (by rw [hby]; omega))
        have hf := fresh cap (Value.ownBlock (.slice (some ⟨g, 0, none⟩) n cap))
        exact ⟨_, _, hr, hf.1, hf.2⟩

end Go.Proofs.YtmkkghlpdnoogaaDoor
