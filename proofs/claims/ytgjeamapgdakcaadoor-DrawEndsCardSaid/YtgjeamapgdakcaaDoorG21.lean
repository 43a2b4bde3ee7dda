import Derived.Test.YtgjeamapgdakcaaDoorG17
import Derived.Test.YtgjeamapgdakcaaDoorG20
import Derived.Laws.StructEq
/-
  A SOURCE AS A STRUCT: its rows, its parts, comparing two, building one (layer 9).
-/
set_option linter.unusedVariables false
namespace Go.Proofs.YtgjeamapgdakcaaDoor
open Go.RowKit

section
variable {P : Program} (w : World)
/-- run_eqlRow at any depth -/
theorem run_eqlRowD (d : Nat) {t e : TypeId} {k : IntKind} {n : Nat} (ht : P.underlying t = some (.array n e)) (he : P.underlying e = some (.int k)) {i : TypeInfo} (hi : P.info? e = some i) (hc : P.cellsOf e = 1)
    {α : Type} [BEq α] [LawfulBEq α] (c : α → Value) (f : α → Int) (hcf : ∀ x, c x = .int k (f x)) (hf : ∀ x y, f x = f y → x = y) (z : α) (a b : List α) (ha : a.length = n) (hb : b.length = n) :
    (Op.equalIn (d + 2) t (.agg (a.map c).toArray) (.agg (b.map c).toArray)).run P w = .ok (a == b) w := by
  rw [run_equalIn_array w (d + 1) _ _ ht hi, hc, eqItems_ints w d he (fun i => f (a.getD i z)) (fun i => f (b.getD i z)) _ _ _ (fun i hi => ?_), all_range f hf z a b n ha hb]
  have hin : i < n := by simpa using hi
  have h1 : a[i]? = some a[i] := List.getElem?_eq_getElem (by omega)
  have h2 : b[i]? = some b[i] := List.getElem?_eq_getElem (by omega)
  simp [List.getD_eq_getElem?_getD, h1, h2, hcf]
end
theorem eql_keyD (w : World) (a b : List UInt8) (ha : a.length = 32) (hb : b.length = 32) :
    (Op.equalIn 9999 24 (.agg (keyC a)) (.agg (keyC b))).run Tryd.prog w = .ok (a == b) w := by
  obtain ⟨i, hi⟩ := byte_info
  exact run_eqlRowD w 9997 Tryd.underlying24 Tryd.underlying5 hi byteCells bv (fun x => (x.toNat : Int)) (fun _ => rfl) bv_inj 0 a b ha hb

theorem drC_list (s : List UInt8) (N : Nat) : (drC s N).toList = s.map bv ++ [.int .u64 (N : Int)] := by simp [drC]
theorem infoDr : (Tryd.prog.info? 27).map (·.size) = some 33 := by kernel_rfl
theorem sizeDr {s : List UInt8} (N : Nat) (h : s.length = 32) : (Tryd.prog.info? 27).map (·.size) = some (drC s N).size := by rw [infoDr, drC_size N h]
theorem one_dr (s : List UInt8) (N : Nat) : (drC s N).all (·.oneCell') = true := by
  rw [drC, Array.all_eq_true']
  intro x hx
  simp only [List.mem_toArray, List.mem_append, List.mem_map, List.mem_singleton] at hx
  rcases hx with ⟨y, _, rfl⟩ | rfl <;> rfl
theorem drZ : drC zeroD 0 = #[.int .u8 0, .int .u8 0, .int .u8 0, .int .u8 0, .int .u8 0, .int .u8 0, .int .u8 0, .int .u8 0, .int .u8 0, .int .u8 0, .int .u8 0, .int .u8 0, .int .u8 0, .int .u8 0, .int .u8 0, .int .u8 0, .int .u8 0, .int .u8 0, .int .u8 0, .int .u8 0, .int .u8 0, .int .u8 0, .int .u8 0, .int .u8 0, .int .u8 0, .int .u8 0, .int .u8 0, .int .u8 0, .int .u8 0, .int .u8 0, .int .u8 0, .int .u8 0, .int .u64 0] := by kernel_rfl
theorem keyZD : keyC zeroD = #[.int .u8 0, .int .u8 0, .int .u8 0, .int .u8 0, .int .u8 0, .int .u8 0, .int .u8 0, .int .u8 0, .int .u8 0, .int .u8 0, .int .u8 0, .int .u8 0, .int .u8 0, .int .u8 0, .int .u8 0, .int .u8 0, .int .u8 0, .int .u8 0, .int .u8 0, .int .u8 0, .int .u8 0, .int .u8 0, .int .u8 0, .int .u8 0, .int .u8 0, .int .u8 0, .int .u8 0, .int .u8 0, .int .u8 0, .int .u8 0, .int .u8 0, .int .u8 0] := by kernel_rfl
theorem zeroD_len : zeroD.length = 32 := rfl
theorem RowC.seed {w : World} {g N : Nat} {t : TypeId} {s : List UInt8} (h : RowC w g t (drC s N)) : w.rangeAt g 0 (keyC s).toList := fun j u hu => by
  rw [Nat.zero_add]
  refine h.cell ?_
  have hu' : (s.map bv)[j]? = some u := by simpa [keyC] using hu
  rw [← Array.getElem?_toList, drC_list, List.getElem?_append_left (List.getElem?_eq_some_iff.1 hu').1]
  exact hu'
theorem RowC.nth {w : World} {g N : Nat} {t : TypeId} {s : List UInt8} (h : RowC w g t (drC s N)) (hs : s.length = 32) : w.cell? ⟨g, 32, none⟩ = some (.int .u64 (N : Int)) := by
  refine h.cell ?_
  rw [← Array.getElem?_toList, drC_list, List.getElem?_append_right (by simp [hs])]
  simp [hs]

theorem fill_cons0 (zs cs : Array Value) (place : Nat → Option (Nat × Nat)) (hp : place 0 = some (0, cs.size)) (h : cs.size ≤ zs.size) (rest : List (Nat × Value)) :
    Instr.fill place zs ((0, .agg cs) :: rest) = Instr.fill place (splice zs.toList 0 cs.toList).toArray rest := by
  have hc : (Value.agg cs).cells = cs := rfl
  rw [Instr.fill]
  simp only [hp, hc]
  rw [if_neg (by simp; omega)]
  congr 1
  apply Array.ext'
  rw [← Array.foldl_toList, Array.toList_zipIdx]
  have := fold_set cs.toList 0 zs (by simpa using h)
  simpa using this
theorem infoDrZ : (Tryd.prog.info? 27).map (fun i => (i.zero, i.size, i.bytes)) = some (some (.agg (drC zeroD 0)), 33, 40) := by kernel_rfl
theorem placesDr : ∃ fields, Tryd.prog.underlying 27 = some (.struct fields) ∧ (fields.toList.mapM fun f => (Tryd.prog.info? f.type).map fun i => (f.offset, i.size)) = some [(0, 32), (32, 1)] :=
  ⟨_, Tryd.underlying27, by kernel_rfl⟩
theorem splice_dr {s : List UInt8} (h : s.length = 32) : splice (drC zeroD 0).toList 0 (keyC s).toList = (drC s 0).toList := by
  rw [drC_list, drC_list]
  simp [splice, keyC, h, zeroD]
theorem build_dr0 (s : List UInt8) (w : World) (h : s.length = 32) : (Instr.build 27 #[(0, .agg (keyC s))]).run Tryd.prog w = .ok (.agg (drC s 0)) w := by
  refine run_build w _ _ _ ?_
  obtain ⟨i0, hi0, hz0, hz1, hz2⟩ := info_parts infoDrZ
  obtain ⟨fields, hu, hp⟩ := placesDr
  unfold Program.built
  simp only [hi0, hu, hz0, hp]
  rw [show (Value.agg (drC zeroD 0)).cells = drC zeroD 0 from rfl, fill_cons0 _ _ _ (by simp [keyC_size, h]) (by rw [keyC_size, drC_size 0 zeroD_len, h]; omega), splice_dr h]
  rfl
theorem build_dr (s : List UInt8) (N : Nat) (w : World) (h : s.length = 32) : (Instr.build 27 #[(0, .agg (keyC s)), (1, .int .u64 (N : Int))]).run Tryd.prog w = .ok (.agg (drC s N)) w := by
  refine run_build w _ _ _ ?_
  obtain ⟨i0, hi0, hz0, hz1, hz2⟩ := info_parts infoDrZ
  obtain ⟨fields, hu, hp⟩ := placesDr
  unfold Program.built
  simp only [hi0, hu, hz0, hp]
  rw [show (Value.agg (drC zeroD 0)).cells = drC zeroD 0 from rfl, fill_cons0 _ _ _ (by simp [keyC_size, h]) (by rw [keyC_size, drC_size 0 zeroD_len, h]; omega), splice_dr h]
  simp [Instr.fill, Value.cells, drC, h]

theorem part_seed (w : World) {s : List UInt8} (N : Nat) (h : s.length = 32) : (part 24 (drC s N) 0).run Tryd.prog w = .ok (.agg (keyC s)) w := by
  have h1 : (isAgg 24).run Tryd.prog w = .ok true w := by
    unfold isAgg
    rw [Sem.run_bind, run_underlying Tryd.underlying24 w]
    rfl
  obtain ⟨i, hi, hs⟩ := Option.map_eq_some_iff.1 infoKey
  have h2 : (sizeOf 24).run Tryd.prog w = .ok 32 w := by simp only [sizeOf, typeInfo]; simp [hi, hs]
  unfold part
  simp only [Sem.run_bind, h1, Result.andThen_ok, if_true, h2, Sem.run_pure]
  rw [show (drC s N).extract 0 (0 + 32) = keyC s by
    apply Array.ext'
    rw [Array.toList_extract, drC_list, keyC]
    simp [List.extract, h]]
theorem part_n (w : World) {s : List UInt8} (N : Nat) (h : s.length = 32) : (part 25 (drC s N) 32).run Tryd.prog w = .ok (.int .u64 (N : Int)) w := by
  have h1 : (isAgg 25).run Tryd.prog w = .ok false w := by
    unfold isAgg
    rw [Sem.run_bind, run_underlying Tryd.underlying25 w]
    rfl
  have h3 : (drC s N)[32]? = some (.int .u64 (N : Int)) := by
    rw [← Array.getElem?_toList, drC_list, List.getElem?_append_right (by simp [h])]
    simp [h]
  unfold part
  simp [Sem.run_bind, h1, Result.andThen_ok, h3]
theorem drFields0 : (Tryd.prog.fieldsOf 27).toList.map (fun f => (f.name, f.type, f.offset)) = [("Seed", 24, 0), ("N", 25, 32)] := by kernel_rfl
theorem drFields : ∃ f0 f1, (Tryd.prog.fieldsOf 27).toList = [f0, f1] ∧ f0.name = "Seed" ∧ f0.type = 24 ∧ f0.offset = 0 ∧ f1.name = "N" ∧ f1.type = 25 ∧ f1.offset = 32 := by
  have h := drFields0
  generalize (Tryd.prog.fieldsOf 27).toList = l at h ⊢
  rcases l with _ | ⟨f0, _ | ⟨f1, _ | ⟨f2, r⟩⟩⟩
  · simp at h
  · simp at h
  · simp only [List.map_cons, List.map_nil, List.cons.injEq, Prod.mk.injEq, and_true] at h
    exact ⟨f0, f1, rfl, h.1.1, h.1.2.1, h.1.2.2, h.2.1, h.2.2.1, h.2.2.2⟩
  · simp at h
theorem drStruct : Tryd.prog.underlying 27 = some (.struct (Tryd.prog.fieldsOf 27)) := by
  unfold Program.fieldsOf
  rw [Tryd.underlying27]
theorem drHeld : Tryd.prog.stoodInHeld 27 = false := Tryd.stoodInHeld27
theorem eql_nD (w : World) (M N : Nat) : (Op.equalIn 9999 25 (.int .u64 (M : Int)) (.int .u64 (N : Int))).run Tryd.prog w = .ok (M == N) w := by
  have e : ((M : Int) == (N : Int)) = (M == N) := by
    rw [Bool.eq_iff_iff, beq_iff_eq, beq_iff_eq]
    omega
  rw [← e]
  exact run_equalIn_int w 9998 25 .u64 .u64 (M : Int) (N : Int) Tryd.underlying25
theorem eqF_dr (w : World) (a b : List UInt8) (M N : Nat) (ha : a.length = 32) (hb : b.length = 32) (f0 f1 : Field) (h1 : f0.name = "Seed") (h2 : f0.type = 24) (h3 : f0.offset = 0) (h4 : f1.name = "N") (h5 : f1.type = 25) (h6 : f1.offset = 32) (d : Nat) (k1 : (Op.equalIn d 24 (.agg (keyC a)) (.agg (keyC b))).run Tryd.prog w = .ok (a == b) w)
    (k6 : (Op.equalIn d 25 (.int .u64 (M : Int)) (.int .u64 (N : Int))).run Tryd.prog w = .ok (M == N) w) : (Op.eqFields d (drC a M) (drC b N) [f0, f1]).run Tryd.prog w = .ok (a == b && M == N) w := by
  have k2 := part_seed w M ha
  have k3 := part_seed w N hb
  have k4 := part_n w M ha
  have k5 := part_n w N hb
  rw [Op.eqFields, h1, if_pos (by decide), h2, h3]
  simp only [Sem.run_bind, k2, k3, Result.andThen_ok, k1]
  cases a == b
  · simp
  · simp only [Bool.not_true, Bool.false_eq_true, if_false]
    rw [Op.eqFields, h4, if_pos (by decide), h5, h6]
    simp only [Sem.run_bind, k4, k5, Result.andThen_ok, k6]
    cases M == N <;> simp [Op.eqFields]
theorem eql_dr (w : World) (a b : List UInt8) (M N : Nat) (ha : a.length = 32) (hb : b.length = 32) :
    (Op.equalIn 10000 27 (.agg (drC a M)) (.agg (drC b N))).run Tryd.prog w = .ok (a == b && M == N) w := by
  obtain ⟨f0, f1, hf, h1, h2, h3, h4, h5, h6⟩ := drFields
  have h := run_equalIn_struct w 9999 27 (drC a M) (drC b N) drStruct drHeld
  rw [hf] at h
  exact h.trans (eqF_dr w a b M N ha hb f0 f1 h1 h2 h3 h4 h5 h6 9999 (eql_keyD w a b ha hb) (eql_nD w M N))

end Go.Proofs.YtgjeamapgdakcaaDoor

