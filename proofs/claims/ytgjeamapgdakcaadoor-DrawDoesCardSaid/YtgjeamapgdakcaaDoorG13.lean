import Derived.Test.YtgjeamapgdakcaaDoorG11
import Derived.Test.YtgjeamapgdakcaaDoorG12
import Derived.Laws.CopyOwn
import Derived.Laws.MakeOwn
/-
  CONTRACTS of the program's putWord and padding (package sha); a law for copy into a row that is known whole, the world told.
-/
set_option linter.unusedVariables false
namespace Go.Proofs.YtgjeamapgdakcaaDoor
open Go.RowKit

theorem be4_cells (x : UInt32) : (be 4 x.toNat).map bv = [.int .u8 ((x.toNat : Int) / 16777216), .int .u8 ((x.toNat : Int) / 65536 % 256), .int .u8 ((x.toNat : Int) / 256 % 256), .int .u8 ((x.toNat : Int) % 256)] := by
  have hx := u32_lt x
  have h : be 4 x.toNat = [UInt8.ofNat (x.toNat / 16777216), UInt8.ofNat (x.toNat / 65536), UInt8.ofNat (x.toNat / 256), UInt8.ofNat x.toNat] := by
    simp [be, Nat.div_div_eq_div_mul]
  rw [h]
  simp only [List.map_cons, List.map_nil, bv, UInt8.toNat_ofNat']
  have e1 : ((x.toNat / 16777216 % 2 ^ 8 : Nat) : Int) = (x.toNat : Int) / 16777216 := by omega
  have e2 : ((x.toNat / 65536 % 2 ^ 8 : Nat) : Int) = (x.toNat : Int) / 65536 % 256 := by omega
  have e3 : ((x.toNat / 256 % 2 ^ 8 : Nat) : Int) = (x.toNat : Int) / 256 % 256 := by omega
  have e4 : ((x.toNat % 2 ^ 8 : Nat) : Int) = (x.toNat : Int) % 256 := by omega
  rw [e1, e2, e3, e4]

theorem putWord_any (g off n c : Nat) (cur : List Value) (t : TypeId) (x : UInt32) (w : World) (hn : 4 ≤ n) (hfit : off + 4 ≤ cur.length) (hg : w.heap[g]? = some (.cells cur.toArray t (0, 0))) :
    Calls Tryd.prog 44 #[.slice (some ⟨g, off, none⟩) n c, .int .u32 (x.toNat : Int)] w fun e w' =>
      e = .returned (.tuple #[]) ∧ ∃ o, w' = (w.alloc o).setRow g (splice cur off ((be 4 x.toNat).map bv)).toArray := by
  have hx := u32_lt x
  have hlt : g < w.heap.size := (Array.getElem?_eq_some_iff.1 hg).1
  have hg' : ∀ o, (w.alloc o).heap[g]? = some (.cells cur.toArray t (0, 0)) := fun o => (heap_alloc_old w o hlt).trans hg
  go_enter Tryd.func44, Tryd.ntmps44
  have Hb := Lib.hid (be4_cells x)
  have Hl := Lib.hid (show ((be 4 x.toNat).map bv).length = 4 by simp [be_length])
  generalize (be 4 x.toNat).map bv = cs at *
  have h1 : ∀ v ∈ cs, v.oneCell' = true := by
    rw [Hb.out]; simp [Value.oneCell']
  have H1 := Lib.hid h1
  clear h1
  go_wp2_with ((with_reducible show wpList _ _ _ (⟨some 19, _, _, _, _, _⟩ :: _) _ _); refine wpList_copy_row rfl (.tmp 17) (.tmp 18) _ _ rfl 5 Tryd.underlying45 byteSize _ _ _ _ _ _ rfl rfl g off cur t (hg' _) cs (by rw [Hl.out]; exact (Nat.min_eq_left hn).symm) (fun _ => ⟨rfl, _, rfl, fun j v hj => ?_⟩) (by rw [Hl.out]; exact hfit) H1.out ?_)
  · rw [Addr.add_lit, Nat.zero_add, cell_of_row _ _ j _ _ (0, 0) (heap_alloc_new w _)]
    rw [Hb.out] at hj
    simpa using hj
  · go_end0
    exact ⟨rfl, _, rfl⟩

/-- what a text of n bytes is padded by -/
def tailU (n : Nat) : List UInt8 := [128] ++ List.replicate (zeros n) 0 ++ be 8 (8 * n)
theorem tailU_len (n : Nat) : (tailU n).length = 1 + zeros n + 8 := by simp [tailU, be_length]; omega
theorem padU_tail (l : List UInt8) : padU l = l ++ tailU l.length := by simp [padU, padTo, tailU]

theorem be8_split (x : Nat) : be 8 x = be 4 (x / 4294967296) ++ be 4 x := by
  simp [be, Nat.div_div_eq_div_mul]

set_option maxRecDepth 1000000 in
theorem padding_any (n : Nat) (w : World) (hn : n ≤ 1099511627776) :
    Calls Tryd.prog 43 #[.int .u64 (n : Int)] w fun e w' =>
      ∃ A m c, e = .returned (.slice A m c) ∧ w'.ownsRow w.heap.size 5 1 (.slice A m c) m ((tailU n).map bv) ∧ Below w.heap.size w w' := by
  have hz := zeros_le n
  have e1 : (64 - ((n : Int) + 1 + 8) % 64) % 64 = ((zeros n : Nat) : Int) := by unfold zeros; omega
  have Ht := Lib.hid (show tailU n = [128] ++ List.replicate (zeros n) 0 ++ be 8 (8 * n) from rfl)
  generalize zeros n = z at *
  obtain ⟨w1, hmk, hA, hB⟩ := make_bytes (z + 9) w .u64 (1 + (z : Int) + 8) (by omega) (by omega)
  have c0 := hA.cell (i := 0) (x := 0) (by simp)
  have f0 := hA.frozen 0
  have d0 : (0 : Int) < ((z + 9 : Nat) : Int) := by omega
  have d1 : 0 ≤ 1 + (z : Int) := by omega
  have d2 : 1 + (z : Int) ≤ ((z + 9 : Nat) : Int) := by omega
  have d3 : (1 + (z : Int)).toNat = 1 + z := by omega
  have d4 : ¬ z + 9 = 1 + z := by omega
  obtain ⟨x1, hx1⟩ : ∃ x1 : UInt32, x1.toNat = 8 * n / 4294967296 := ⟨UInt32.ofNat (8 * n / 4294967296), by rw [UInt32.toNat_ofNat', Nat.mod_eq_of_lt (by omega)]⟩
  obtain ⟨x2, hx2⟩ : ∃ x2 : UInt32, x2.toNat = 8 * n % 4294967296 := ⟨UInt32.ofNat (8 * n), by rw [UInt32.toNat_ofNat']⟩
  have e2 : (n : Int) * 8 / 4294967296 = (x1.toNat : Int) := by omega
  have e3 : (n : Int) * 8 % 4294967296 = (x2.toNat : Int) := by omega
  have Hbe := Lib.hid (show be 8 (8 * n) = be 4 x1.toNat ++ be 4 x2.toNat by
    rw [be8_split, hx1, hx2]
    congr 1
    exact (be_mod 4 (8 * n)).symm)
  have l1 := be_length 4 x1.toNat
  have l2 := be_length 4 x2.toNat
  clear hx1 hx2
  have hA1 : ArrB (w1.setCell ⟨w.heap.size, 0, none⟩ (.int .u8 128)) w.heap.size 5 (([128] ++ List.replicate z 0) ++ List.replicate 8 0) := by
    have h := hA.set_ 0 128
    rw [show (List.replicate (z + 9) (0 : UInt8)).set 0 128 = ([128] ++ List.replicate z 0) ++ List.replicate 8 0 by
      rw [List.append_assoc, List.replicate_append_replicate, show z + 9 = (z + 8) + 1 from rfl, List.replicate_succ]; rfl] at h
    exact h
  have lL : ([128] ++ List.replicate z (0 : UInt8)).length = 1 + z := by simp; omega
  generalize [128] ++ List.replicate z (0 : UInt8) = L at *
  have l3 : (L ++ List.replicate 8 0).length = z + 9 := by simp; omega
  have HlL := Lib.hid lL
  have Hl3 := Lib.hid l3
  have Hl1 := Lib.hid l1
  have Hl2 := Lib.hid l2
  clear lL l3 l1 l2
  go_enter Tryd.func43, Tryd.ntmps43
  go_wp2_with fail
  refine (putWord_any w.heap.size (1 + z) _ _ ((L ++ List.replicate 8 0).map bv) 5 x1 _ (by omega) (by rw [List.length_map, Hl3.out]; omega) hA1.at_).mono ?_
  rintro e w2 ⟨rfl, o2, hw2⟩
  have hA2 : ArrB w2 w.heap.size 5 ((L ++ be 4 x1.toNat) ++ List.replicate 4 0) := by
    have h := (hA1.alloc o2).row (splice (L ++ List.replicate 8 0) (1 + z) (be 4 x1.toNat))
    rw [hw2, splice_bytes]
    rw [show splice (L ++ List.replicate 8 0) (1 + z) (be 4 x1.toNat) = (L ++ be 4 x1.toNat) ++ List.replicate 4 0 by
      rw [← HlL.out, splice_in _ _ _ (by rw [Hl1.out]; simp), Hl1.out]; rfl] at h ⊢
    exact h
  have hB2 : Below w.heap.size w w2 := by
    rw [hw2]
    exact below_setRow ((hB.setCell (by simp) _).alloc (by simp; exact hB.size) _) (Nat.le_refl _) _
  clear hw2
  go_wp2_with fail
  refine (putWord_any w.heap.size (1 + z + 4) _ _ (((L ++ be 4 x1.toNat) ++ List.replicate 4 0).map bv) 5 x2 _ (by omega) (by simp [Hl1.out, HlL.out]) hA2.at_).mono ?_
  rintro e w3 ⟨rfl, o3, hw3⟩
  have hA3 : ArrB w3 w.heap.size 5 (L ++ (be 4 x1.toNat ++ be 4 x2.toNat)) := by
    have h := (hA2.alloc o3).row (splice ((L ++ be 4 x1.toNat) ++ List.replicate 4 0) (1 + z + 4) (be 4 x2.toNat))
    rw [hw3, splice_bytes]
    rw [show splice ((L ++ be 4 x1.toNat) ++ List.replicate 4 0) (1 + z + 4) (be 4 x2.toNat) = L ++ (be 4 x1.toNat ++ be 4 x2.toNat) by
      rw [show 1 + z + 4 = (L ++ be 4 x1.toNat).length by rw [List.length_append, HlL.out, Hl1.out], splice_in _ _ _ (by rw [Hl2.out]; simp), Hl2.out]; simp] at h ⊢
    exact h
  have hB3 : Below w.heap.size w w3 := by
    rw [hw3]
    exact below_setRow (hB2.alloc hB2.size _) (Nat.le_refl _) _
  clear hw3
  go_wp2_with fail
  go_ret
  refine ⟨_, z + 9, z + 9, rfl, ?_, hB3⟩
  rw [Ht.out, Hbe.out]
  exact own_arr hA3 (Nat.le_refl _) (by simp [HlL.out, Hl1.out, Hl2.out]; omega) (by simp [maxLen]; omega)

end Go.Proofs.YtgjeamapgdakcaaDoor

/-
  A SUM THAT IS NOT DONE (api.Sha) AS CELLS: eight words, how many bytes, a slice. What stores into its fields leave. Plain lemmas on blocks of 64 bytes.
-/
set_option linter.unusedVariables false
namespace Go.Proofs.YtgjeamapgdakcaaDoor
open Go.RowKit

def shaL (h : List UInt32) (n : Nat) (v : Value) : List Value := h.map wv ++ [.int .u64 (n : Int), v]
theorem shaL_len {h : List UInt32} (hh : h.length = 8) (n : Nat) (v : Value) : (shaL h n v).length = 10 := by simp [shaL, hh]
theorem shaL_n {h : List UInt32} (hh : h.length = 8) (n : Nat) (v : Value) : (shaL h n v)[8]? = some (.int .u64 (n : Int)) := by
  rw [shaL, List.getElem?_append_right (by simp [hh])]; simp [hh]
theorem shaL_v {h : List UInt32} (hh : h.length = 8) (n : Nat) (v : Value) : (shaL h n v)[9]? = some v := by
  rw [shaL, List.getElem?_append_right (by simp [hh])]; simp [hh]
theorem shaL_setN {h : List UInt32} (hh : h.length = 8) (n m : Nat) (v : Value) : (shaL h n v).set 8 (.int .u64 (m : Int)) = shaL h m v := by
  rw [shaL, List.set_append_right _ _ (by simp [hh])]; simp [hh, shaL]
theorem shaL_setV {h : List UInt32} (hh : h.length = 8) (n : Nat) (v u : Value) : (shaL h n v).set 9 u = shaL h n u := by
  rw [shaL, List.set_append_right _ _ (by simp [hh])]; simp [hh, shaL]

/-- block g is a sum that is not done -/
def ShaAt (w : World) (g : Nat) (h : List UInt32) (n : Nat) (v : Value) : Prop := h.length = 8 ∧ w.heap[g]? = some (.cells (shaL h n v).toArray 59 (0, 0))

section
variable {w w' : World} {g n : Nat} {h : List UInt32} {v : Value}
theorem ShaAt.lt (k : ShaAt w g h n v) : g < w.heap.size := (Array.getElem?_eq_some_iff.1 k.2).1
theorem ShaAt.cellN (k : ShaAt w g h n v) : w.cell? ⟨g, 8, none⟩ = some (.int .u64 (n : Int)) := by
  rw [cell_of_row w g 8 _ _ (0, 0) k.2]; simpa using shaL_n k.1 n v
theorem ShaAt.cellV (k : ShaAt w g h n v) : w.cell? ⟨g, 9, none⟩ = some v := by
  rw [cell_of_row w g 9 _ _ (0, 0) k.2]; simpa using shaL_v k.1 n v
theorem ShaAt.frozen (k : ShaAt w g h n v) (i : Nat) : w.frozen? ⟨g, i, none⟩ = false := frozen_of_row w g i _ _ k.2
theorem ShaAt.words (k : ShaAt w g h n v) : w.rangeAt g 0 (h.map wv) := fun j u hu => by
  rw [Nat.zero_add, cell_of_row w g j _ _ (0, 0) k.2]
  have hj : j < (h.map wv).length := (List.getElem?_eq_some_iff.1 hu).1
  simpa [shaL, List.getElem?_append_left hj] using hu
theorem ShaAt.word (k : ShaAt w g h n v) {i : Nat} {x : UInt32} (hx : h[i]? = some x) : w.cell? ⟨g, i, none⟩ = some (.int .u32 (x.toNat : Int)) := by
  have := k.words i (wv x) (by rw [List.getElem?_map, hx]; rfl)
  rwa [Nat.zero_add] at this
theorem ShaAt.all (k : ShaAt w g h n v) : w.rangeAt g 0 (shaL h n v) := fun j u hu => by
  rw [Nat.zero_add, cell_of_row w g j _ _ (0, 0) k.2]
  simpa using hu
theorem ShaAt.there (k : ShaAt w g h n v) : w.there g 0 8 := fun j hj => ⟨by
  rw [Nat.zero_add, cell_of_row w g j _ _ (0, 0) k.2]
  have : j < (shaL h n v).length := by rw [shaL_len k.1]; omega
  simp [this], k.frozen _⟩
theorem ShaAt.of (k : ShaAt w g h n v) (e : w'.heap[g]? = w.heap[g]?) : ShaAt w' g h n v := ⟨k.1, e.trans k.2⟩
theorem ShaAt.drew (k : ShaAt w g h n v) : ShaAt w.drew g h n v := k.of rfl
theorem ShaAt.drewN (k : ShaAt w g h n v) (m : Nat) : ShaAt (w.drewN m) g h n v := k.of rfl
theorem ShaAt.alloc (k : ShaAt w g h n v) (o : Obj) : ShaAt (w.alloc o) g h n v := k.of (heap_alloc_old w o k.lt)
theorem ShaAt.below {B : Nat} (k : ShaAt w g h n v) (hb : Below B w w') (hg : g < B) : ShaAt w' g h n v := k.of (hb.block g hg)
theorem ShaAt.far (k : ShaAt w g h n v) {p : Addr} (hp : g ≠ p.block) (u : Value) : ShaAt (w.setCell p u) g h n v := k.of (Below.heap_setCell w p u g hp)
theorem ShaAt.rowFar {g' : Nat} (k : ShaAt w g h n v) (hne : g ≠ g') (cs : Array Value) : ShaAt (w.setRow g' cs) g h n v := k.of (setRow_other w g' g cs hne)
theorem ShaAt.setN (k : ShaAt w g h n v) (m : Nat) : ShaAt (w.setCell ⟨g, 8, none⟩ (.int .u64 (m : Int))) g h m v := by
  refine ⟨k.1, ?_⟩
  have k2 := k.2
  simp only [World.setCell, Array.getElem?_modify, k2, Option.map_some]
  rw [← shaL_setN k.1 n m v]
  simp
theorem ShaAt.setV (k : ShaAt w g h n v) (u : Value) : ShaAt (w.setCell ⟨g, 9, none⟩ u) g h n u := by
  refine ⟨k.1, ?_⟩
  have k2 := k.2
  simp only [World.setCell, Array.getElem?_modify, k2, Option.map_some]
  rw [← shaL_setV k.1 n v u]
  simp
end

theorem ShaAt.setH {w : World} {g n : Nat} {h : List UInt32} {v : Value} (k : ShaAt w g h n v) {h' : List UInt32} (hh : h'.length = 8) : ShaAt (w.setCells g 0 (h'.map wv)) g h' n v := by
  refine ⟨hh, ?_⟩
  rw [setCells_heap g _ _ _ 0 w k.2 (by rw [shaL_len k.1]; simp [hh])]
  congr 3
  simp only [splice, shaL, List.take_zero, List.nil_append, List.length_map, hh, Nat.zero_add]
  rw [List.drop_append_of_le_length (by simp [k.1]), List.drop_of_length_le (by simp [k.1])]
  rfl

end Go.Proofs.YtgjeamapgdakcaaDoor

