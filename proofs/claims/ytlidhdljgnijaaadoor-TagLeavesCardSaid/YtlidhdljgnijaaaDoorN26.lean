import Derived.Test.YtlidhdljgnijaaaDoorN24
import Derived.Test.YtlidhdljgnijaaaDoorN25
import Derived.Laws.CopyOwn
import Derived.Laws.MakeOwn
import Derived.Test.YtlidhdljgnijaaaDoorN18
import Derived.Deep.RegionHeld3
/-
  CONTRACTS of the program's putWord and padding (package sha); a law for copy into a row that is known whole, the world told.
-/
set_option linter.unusedVariables false
namespace Go.Proofs.YtlidhdljgnijaaaDoor
open Go.RowKit

theorem be4_cells (x : UInt32) : (be 4 x.toNat).map bv = [.int .u8 ((x.toNat : Int) / 16777216), .int .u8 ((x.toNat : Int) / 65536 % 256), .int .u8 ((x.toNat : Int) / 256 % 256), .int .u8 ((x.toNat : Int) % 256)] := by
  have hx := u32_lt x
  have h : be 4 x.toNat = [UInt8.ofNat (x.toNat / 16777216), UInt8.ofNat (x.toNat / 65536), UInt8.ofNat (x.toNat / 256), UInt8.ofNat x.toNat] := by
    simp [be, Nat.div_div_eq_div_mul]
  rw [h]
  simp only [List.map_cons, List.map_nil, bv, UInt8.toNat_ofNat']
  have e1 : ((x.toNat / 16777216 % 2 ^ 8 : Nat) : Int) = (x.toNat : Int) / 16777216 := by omega
  have e2 : ((x.toNat / 65536 % 2 ^ 8 : Nat) : Int) = (x.toNat : Int) / 65536 % 256 := by omega
  have e3 : ((x.toNat / 256 % 2 ^ 8 : Nat) : Int) = (x.toNat : Int) / 256 % 256 := by omega
  have e4 : ((x.toNat % 2 ^ 8 : Nat) : Int) = (x.toNat : Int) % 256 := by omega
  rw [e1, e2, e3, e4]

theorem putWord_any (g off n c : Nat) (cur : List Value) (t : TypeId) (x : UInt32) (w : World) (hn : 4 ≤ n) (hfit : off + 4 ≤ cur.length) (hg : w.heap[g]? = some (.cells cur.toArray t (0, 0))) :
    Calls Tryd.prog 85 #[.slice (some ⟨g, off, none⟩) n c, .int .u32 (x.toNat : Int)] w fun e w' =>
      e = .returned (.tuple #[]) ∧ ∃ o, w' = (w.alloc o).setRow g (splice cur off ((be 4 x.toNat).map bv)).toArray := by
  have hx := u32_lt x
  have hlt : g < w.heap.size := (Array.getElem?_eq_some_iff.1 hg).1
  have hg' : ∀ o, (w.alloc o).heap[g]? = some (.cells cur.toArray t (0, 0)) := fun o => (heap_alloc_old w o hlt).trans hg
  go_enter Tryd.func85, Tryd.ntmps85
  have Hb := Lib.hid (be4_cells x)
  have Hl := Lib.hid (show ((be 4 x.toNat).map bv).length = 4 by simp [be_length])
  generalize (be 4 x.toNat).map bv = cs at *
  have h1 : ∀ v ∈ cs, v.oneCell' = true := by
    rw [Hb.out]; simp [Value.oneCell']
  have H1 := Lib.hid h1
  clear h1
  go_wp2_with ((with_reducible show wpList _ _ _ (⟨some 19, _, _, _, _, _⟩ :: _) _ _); refine wpList_copy_row rfl (.tmp 17) (.tmp 18) _ _ rfl 5 Tryd.underlying41 byteSize _ _ _ _ _ _ rfl rfl g off cur t (hg' _) cs (by rw [Hl.out]; exact (Nat.min_eq_left hn).symm) (fun _ => ⟨rfl, _, rfl, fun j v hj => ?_⟩) (by rw [Hl.out]; exact hfit) H1.out ?_)
  · rw [Addr.add_lit, Nat.zero_add, cell_of_row _ _ j _ _ (0, 0) (heap_alloc_new w _)]
    rw [Hb.out] at hj
    simpa using hj
  · go_end0
    exact ⟨rfl, _, rfl⟩

/-- what a text of n bytes is padded by -/
def tailU (n : Nat) : List UInt8 := [128] ++ List.replicate (zeros n) 0 ++ be 8 (8 * n)
theorem tailU_len (n : Nat) : (tailU n).length = 1 + zeros n + 8 := by simp [tailU, be_length]; omega
theorem padU_tail (l : List UInt8) : padU l = l ++ tailU l.length := by simp [padU, padTo, tailU]

theorem be8_split (x : Nat) : be 8 x = be 4 (x / 4294967296) ++ be 4 x := by
  simp [be, Nat.div_div_eq_div_mul]

set_option maxRecDepth 1000000 in
theorem padding_any (n : Nat) (w : World) (hn : n ≤ 1099511627776) :
    Calls Tryd.prog 84 #[.int .u64 (n : Int)] w fun e w' =>
      ∃ A m c, e = .returned (.slice A m c) ∧ w'.ownsRow w.heap.size 5 1 (.slice A m c) m ((tailU n).map bv) ∧ Below w.heap.size w w' := by
  have hz := zeros_le n
  have e1 : (64 - ((n : Int) + 1 + 8) % 64) % 64 = ((zeros n : Nat) : Int) := by unfold zeros; omega
  have Ht := Lib.hid (show tailU n = [128] ++ List.replicate (zeros n) 0 ++ be 8 (8 * n) from rfl)
  generalize zeros n = z at *
  obtain ⟨w1, hmk, hA, hB⟩ := make_bytes (z + 9) w .u64 (1 + (z : Int) + 8) (by omega) (by omega)
  have c0 := hA.cell (i := 0) (x := 0) (by simp)
  have f0 := hA.frozen 0
  have d0 : (0 : Int) < ((z + 9 : Nat) : Int) := by omega
  have d1 : 0 ≤ 1 + (z : Int) := by omega
  have d2 : 1 + (z : Int) ≤ ((z + 9 : Nat) : Int) := by omega
  have d3 : (1 + (z : Int)).toNat = 1 + z := by omega
  have d4 : ¬ z + 9 = 1 + z := by omega
  obtain ⟨x1, hx1⟩ : ∃ x1 : UInt32, x1.toNat = 8 * n / 4294967296 := ⟨UInt32.ofNat (8 * n / 4294967296), by rw [UInt32.toNat_ofNat', Nat.mod_eq_of_lt (by omega)]⟩
  obtain ⟨x2, hx2⟩ : ∃ x2 : UInt32, x2.toNat = 8 * n % 4294967296 := ⟨UInt32.ofNat (8 * n), by rw [UInt32.toNat_ofNat']⟩
  have e2 : (n : Int) * 8 / 4294967296 = (x1.toNat : Int) := by omega
  have e3 : (n : Int) * 8 % 4294967296 = (x2.toNat : Int) := by omega
  have Hbe := Lib.hid (show be 8 (8 * n) = be 4 x1.toNat ++ be 4 x2.toNat by
    rw [be8_split, hx1, hx2]
    congr 1
    exact (be_mod 4 (8 * n)).symm)
  have l1 := be_length 4 x1.toNat
  have l2 := be_length 4 x2.toNat
  clear hx1 hx2
  have hA1 : ArrB (w1.setCell ⟨w.heap.size, 0, none⟩ (.int .u8 128)) w.heap.size 5 (([128] ++ List.replicate z 0) ++ List.replicate 8 0) := by
    have h := hA.set_ 0 128
    rw [show (List.replicate (z + 9) (0 : UInt8)).set 0 128 = ([128] ++ List.replicate z 0) ++ List.replicate 8 0 by
      rw [List.append_assoc, List.replicate_append_replicate, show z + 9 = (z + 8) + 1 from rfl, List.replicate_succ]; rfl] at h
    exact h
  have lL : ([128] ++ List.replicate z (0 : UInt8)).length = 1 + z := by simp; omega
  generalize [128] ++ List.replicate z (0 : UInt8) = L at *
  have l3 : (L ++ List.replicate 8 0).length = z + 9 := by simp; omega
  have HlL := Lib.hid lL
  have Hl3 := Lib.hid l3
  have Hl1 := Lib.hid l1
  have Hl2 := Lib.hid l2
  clear lL l3 l1 l2
  go_enter Tryd.func84, Tryd.ntmps84
  go_wp2_with fail
  refine (putWord_any w.heap.size (1 + z) _ _ ((L ++ List.replicate 8 0).map bv) 5 x1 _ (by omega) (by rw [List.length_map, Hl3.out]; omega) hA1.at_).mono ?_
  rintro e w2 ⟨rfl, o2, hw2⟩
  have hA2 : ArrB w2 w.heap.size 5 ((L ++ be 4 x1.toNat) ++ List.replicate 4 0) := by
    have h := (hA1.alloc o2).row (splice (L ++ List.replicate 8 0) (1 + z) (be 4 x1.toNat))
    rw [hw2, splice_bytes]
    rw [show splice (L ++ List.replicate 8 0) (1 + z) (be 4 x1.toNat) = (L ++ be 4 x1.toNat) ++ List.replicate 4 0 by
      rw [← HlL.out, splice_in _ _ _ (by rw [Hl1.out]; simp), Hl1.out]; rfl] at h ⊢
    exact h
  have hB2 : Below w.heap.size w w2 := by
    rw [hw2]
    exact below_setRow ((hB.setCell (by simp) _).alloc (by simp; exact hB.size) _) (Nat.le_refl _) _
  clear hw2
  go_wp2_with fail
  refine (putWord_any w.heap.size (1 + z + 4) _ _ (((L ++ be 4 x1.toNat) ++ List.replicate 4 0).map bv) 5 x2 _ (by omega) (by simp [Hl1.out, HlL.out]) hA2.at_).mono ?_
  rintro e w3 ⟨rfl, o3, hw3⟩
  have hA3 : ArrB w3 w.heap.size 5 (L ++ (be 4 x1.toNat ++ be 4 x2.toNat)) := by
    have h := (hA2.alloc o3).row (splice ((L ++ be 4 x1.toNat) ++ List.replicate 4 0) (1 + z + 4) (be 4 x2.toNat))
    rw [hw3, splice_bytes]
    rw [show splice ((L ++ be 4 x1.toNat) ++ List.replicate 4 0) (1 + z + 4) (be 4 x2.toNat) = L ++ (be 4 x1.toNat ++ be 4 x2.toNat) by
      rw [show 1 + z + 4 = (L ++ be 4 x1.toNat).length by rw [List.length_append, HlL.out, Hl1.out], splice_in _ _ _ (by rw [Hl2.out]; simp), Hl2.out]; simp] at h ⊢
    exact h
  have hB3 : Below w.heap.size w w3 := by
    rw [hw3]
    exact below_setRow (hB2.alloc hB2.size _) (Nat.le_refl _) _
  clear hw3
  go_wp2_with fail
  go_ret
  refine ⟨_, z + 9, z + 9, rfl, ?_, hB3⟩
  rw [Ht.out, Hbe.out]
  exact own_arr hA3 (Nat.le_refl _) (by simp [HlL.out, Hl1.out, Hl2.out]; omega) (by simp [maxLen]; omega)

end Go.Proofs.YtlidhdljgnijaaaDoor

/-
  A SUM THAT IS NOT DONE (api.Sha) AS CELLS: eight words, how many bytes, a slice. What stores into its fields leave. Plain lemmas on blocks of 64 bytes.
-/
set_option linter.unusedVariables false
namespace Go.Proofs.YtlidhdljgnijaaaDoor
open Go.RowKit

def shaL (h : List UInt32) (n : Nat) (v : Value) : List Value := h.map wv ++ [.int .u64 (n : Int), v]
theorem shaL_len {h : List UInt32} (hh : h.length = 8) (n : Nat) (v : Value) : (shaL h n v).length = 10 := by simp [shaL, hh]
theorem shaL_n {h : List UInt32} (hh : h.length = 8) (n : Nat) (v : Value) : (shaL h n v)[8]? = some (.int .u64 (n : Int)) := by
  rw [shaL, List.getElem?_append_right (by simp [hh])]; simp [hh]
theorem shaL_v {h : List UInt32} (hh : h.length = 8) (n : Nat) (v : Value) : (shaL h n v)[9]? = some v := by
  rw [shaL, List.getElem?_append_right (by simp [hh])]; simp [hh]
theorem shaL_setN {h : List UInt32} (hh : h.length = 8) (n m : Nat) (v : Value) : (shaL h n v).set 8 (.int .u64 (m : Int)) = shaL h m v := by
  rw [shaL, List.set_append_right _ _ (by simp [hh])]; simp [hh, shaL]
theorem shaL_setV {h : List UInt32} (hh : h.length = 8) (n : Nat) (v u : Value) : (shaL h n v).set 9 u = shaL h n u := by
  rw [shaL, List.set_append_right _ _ (by simp [hh])]; simp [hh, shaL]

/-- block g is a sum that is not done -/
def ShaAt (w : World) (g : Nat) (h : List UInt32) (n : Nat) (v : Value) : Prop := h.length = 8 ∧ w.heap[g]? = some (.cells (shaL h n v).toArray 96 (0, 0))

section
variable {w w' : World} {g n : Nat} {h : List UInt32} {v : Value}
theorem ShaAt.lt (k : ShaAt w g h n v) : g < w.heap.size := (Array.getElem?_eq_some_iff.1 k.2).1
theorem ShaAt.cellN (k : ShaAt w g h n v) : w.cell? ⟨g, 8, none⟩ = some (.int .u64 (n : Int)) := by
  rw [cell_of_row w g 8 _ _ (0, 0) k.2]; simpa using shaL_n k.1 n v
theorem ShaAt.cellV (k : ShaAt w g h n v) : w.cell? ⟨g, 9, none⟩ = some v := by
  rw [cell_of_row w g 9 _ _ (0, 0) k.2]; simpa using shaL_v k.1 n v
theorem ShaAt.frozen (k : ShaAt w g h n v) (i : Nat) : w.frozen? ⟨g, i, none⟩ = false := frozen_of_row w g i _ _ k.2
theorem ShaAt.words (k : ShaAt w g h n v) : w.rangeAt g 0 (h.map wv) := fun j u hu => by
  rw [Nat.zero_add, cell_of_row w g j _ _ (0, 0) k.2]
  have hj : j < (h.map wv).length := (List.getElem?_eq_some_iff.1 hu).1
  simpa [shaL, List.getElem?_append_left hj] using hu
theorem ShaAt.word (k : ShaAt w g h n v) {i : Nat} {x : UInt32} (hx : h[i]? = some x) : w.cell? ⟨g, i, none⟩ = some (.int .u32 (x.toNat : Int)) := by
  have := k.words i (wv x) (by rw [List.getElem?_map, hx]; rfl)
  rwa [Nat.zero_add] at this
theorem ShaAt.all (k : ShaAt w g h n v) : w.rangeAt g 0 (shaL h n v) := fun j u hu => by
  rw [Nat.zero_add, cell_of_row w g j _ _ (0, 0) k.2]
  simpa using hu
theorem ShaAt.there (k : ShaAt w g h n v) : w.there g 0 8 := fun j hj => ⟨by
  rw [Nat.zero_add, cell_of_row w g j _ _ (0, 0) k.2]
  have : j < (shaL h n v).length := by rw [shaL_len k.1]; omega
  simp [this], k.frozen _⟩
theorem ShaAt.of (k : ShaAt w g h n v) (e : w'.heap[g]? = w.heap[g]?) : ShaAt w' g h n v := ⟨k.1, e.trans k.2⟩
theorem ShaAt.drew (k : ShaAt w g h n v) : ShaAt w.drew g h n v := k.of rfl
theorem ShaAt.drewN (k : ShaAt w g h n v) (m : Nat) : ShaAt (w.drewN m) g h n v := k.of rfl
theorem ShaAt.alloc (k : ShaAt w g h n v) (o : Obj) : ShaAt (w.alloc o) g h n v := k.of (heap_alloc_old w o k.lt)
theorem ShaAt.below {B : Nat} (k : ShaAt w g h n v) (hb : Below B w w') (hg : g < B) : ShaAt w' g h n v := k.of (hb.block g hg)
theorem ShaAt.far (k : ShaAt w g h n v) {p : Addr} (hp : g ≠ p.block) (u : Value) : ShaAt (w.setCell p u) g h n v := k.of (Below.heap_setCell w p u g hp)
theorem ShaAt.rowFar {g' : Nat} (k : ShaAt w g h n v) (hne : g ≠ g') (cs : Array Value) : ShaAt (w.setRow g' cs) g h n v := k.of (setRow_other w g' g cs hne)
theorem ShaAt.setN (k : ShaAt w g h n v) (m : Nat) : ShaAt (w.setCell ⟨g, 8, none⟩ (.int .u64 (m : Int))) g h m v := by
  refine ⟨k.1, ?_⟩
  have k2 := k.2
  simp only [World.setCell, Array.getElem?_modify, k2, Option.map_some]
  rw [← shaL_setN k.1 n m v]
  simp
theorem ShaAt.setV (k : ShaAt w g h n v) (u : Value) : ShaAt (w.setCell ⟨g, 9, none⟩ u) g h n u := by
  refine ⟨k.1, ?_⟩
  have k2 := k.2
  simp only [World.setCell, Array.getElem?_modify, k2, Option.map_some]
  rw [← shaL_setV k.1 n v u]
  simp
end

theorem ShaAt.setH {w : World} {g n : Nat} {h : List UInt32} {v : Value} (k : ShaAt w g h n v) {h' : List UInt32} (hh : h'.length = 8) : ShaAt (w.setCells g 0 (h'.map wv)) g h' n v := by
  refine ⟨hh, ?_⟩
  rw [setCells_heap g _ _ _ 0 w k.2 (by rw [shaL_len k.1]; simp [hh])]
  congr 3
  simp only [splice, shaL, List.take_zero, List.nil_append, List.length_map, hh, Nat.zero_add]
  rw [List.drop_append_of_le_length (by simp [k.1]), List.drop_of_length_le (by simp [k.1])]
  rfl

end Go.Proofs.YtlidhdljgnijaaaDoor

/-
  THE CONTRACT of the program's taken (package sha): parts go into a sum that is not done.
-/
set_option linter.unusedVariables false
namespace Go.Proofs.YtlidhdljgnijaaaDoor
open Go.RowKit

/-- what holds when s bytes of all have been gone through -/
structure TkInv (w wr : World) (gs gb gr : Nat) (h : List UInt32) (all : List UInt8) (N : Nat) (rv : Value) (s : Nat) : Prop where
  sha : ShaAt wr gs (blocksTo h all (s / 64)) N rv
  blk : ∃ L : List UInt8, L.length = 64 ∧ L.take (s % 64) = (all.drop (64 * (s / 64))).take (s % 64) ∧ ArrB wr gb 125 L
  res : ∃ cs : Array Value, cs.size = 10 ∧ wr.heap[gr]? = some (.cells cs 96 (0, 0))
  bel : Below w.heap.size w wr

theorem blk_more {all L : List UInt8} {s r : Nat} (hL : L.length = 64) (hs : L.take (s % 64) = (all.drop (64 * (s / 64))).take (s % 64)) (hr : s % 64 + r ≤ 64) (ha : s + r ≤ all.length) :
    (splice L (s % 64) ((all.drop s).take r)).take (s % 64 + r) = (all.drop (64 * (s / 64))).take (s % 64 + r) := by
  have hl : ((all.drop s).take r).length = r := by simp; omega
  have e : all.drop s = (all.drop (64 * (s / 64))).drop (s % 64) := by rw [List.drop_drop]; congr 1; omega
  unfold splice
  rw [hl, ← List.append_assoc, List.take_append_of_le_length (by rw [List.length_append, hl, List.length_take]; omega), hs,
    List.take_of_length_le (by rw [List.length_append, hl, List.length_take]; omega), e, List.take_add]
theorem splice_len64 {L cs : List UInt8} {o : Nat} (hL : L.length = 64) (h : o + cs.length ≤ 64) : (splice L o cs).length = 64 := by rw [length_splice _ _ _ (by omega), hL]

theorem TkInv.within {w wr wr' : World} {gs gb gr N s r : Nat} {h : List UInt32} {all L : List UInt8} {rv : Value} (k : TkInv w wr gs gb gr h all N rv s) (hL : L.length = 64) (hs : L.take (s % 64) = (all.drop (64 * (s / 64))).take (s % 64))
    (hr : s % 64 + r < 64) (ha : s + r ≤ all.length) (hw : wr' = wr.setRow gb ((splice L (s % 64) ((all.drop s).take r)).map bv).toArray) (hB : ArrB wr gb 125 L) (h1 : gs ≠ gb) (h2 : gr ≠ gb) (h3 : w.heap.size ≤ gb) :
    TkInv w wr' gs gb gr h all N rv (s + r) := by
  subst hw
  have e1 : (s + r) / 64 = s / 64 := by omega
  have e2 : (s + r) % 64 = s % 64 + r := by omega
  obtain ⟨cs, c1, c2⟩ := k.res
  refine ⟨by rw [e1]; exact k.sha.rowFar h1 _, ⟨_, splice_len64 hL (by simp; omega), ?_, hB.row _⟩, ⟨cs, c1, (setRow_other _ _ _ _ h2).trans c2⟩, below_setRow k.bel h3 _⟩
  rw [e1, e2]
  exact blk_more hL hs (by omega) ha

theorem chunk_full {all L : List UInt8} {s r : Nat} (hL : L.length = 64) (hs : L.take (s % 64) = (all.drop (64 * (s / 64))).take (s % 64)) (hr : s % 64 + r = 64) (ha : s + r ≤ all.length) :
    splice L (s % 64) ((all.drop s).take r) = chunk all (s / 64) := by
  have h := blk_more hL hs (by omega) ha
  rw [hr] at h
  rw [chunk, ← h]
  exact (List.take_of_length_le (by rw [splice_len64 hL (by simp; omega)]; exact Nat.le_refl _)).symm

theorem TkInv.setN {w wr : World} {gs gb gr N s : Nat} {h : List UInt32} {all : List UInt8} {rv : Value} (k : TkInv w wr gs gb gr h all N rv s) (N' : Nat) (x : Int) (hx : x = (N' : Int)) (h1 : gb ≠ gs) (h2 : gr ≠ gs) (h3 : w.heap.size ≤ gs) :
    TkInv w (wr.setCell ⟨gs, 8, none⟩ (.int .u64 x)) gs gb gr h all N' rv s := by
  subst hx
  obtain ⟨cs, c1, c2⟩ := k.res
  obtain ⟨L, l1, l2, l3⟩ := k.blk
  exact ⟨k.sha.setN N', ⟨L, l1, l2, l3.far h1 _⟩, ⟨cs, c1, (Below.heap_setCell _ _ _ _ h2).trans c2⟩, k.bel.setCell h3 _⟩
theorem TkInv.drewN {w wr : World} {gs gb gr N s : Nat} {h : List UInt32} {all : List UInt8} {rv : Value} (k : TkInv w wr gs gb gr h all N rv s) (m : Nat) : TkInv w (wr.drewN m) gs gb gr h all N rv s := by
  obtain ⟨cs, c1, c2⟩ := k.res
  obtain ⟨L, l1, l2, l3⟩ := k.blk
  exact ⟨k.sha.drewN m, ⟨L, l1, l2, l3.drewN m⟩, ⟨cs, c1, c2⟩, k.bel.trans ⟨rfl, rfl, rfl, Nat.le_refl _, fun _ _ => rfl⟩⟩

theorem all_at {rest : List UInt8} {ts : List (List UInt8)} {q : Nat} {t : List UInt8} (h : ts[q]? = some t) {j r : Nat} (hj : j + r ≤ t.length) :
    ((rest ++ ts.flatten).drop (rest.length + (ts.take q).flatten.length + j)).take r = (t.drop j).take r := by
  have e : ts.flatten = (ts.take q).flatten ++ (t ++ (ts.drop (q + 1)).flatten) := by
    conv => lhs; rw [← List.take_append_drop q ts, List.flatten_append]
    congr 1
    have hq : q < ts.length := (List.getElem?_eq_some_iff.1 h).1
    rw [List.drop_eq_getElem_cons hq, List.flatten_cons]
    congr 1
    exact (List.getElem?_eq_some_iff.1 h).2
  rw [e, ← List.append_assoc, ← List.drop_drop, ← List.length_append, List.drop_left, List.drop_append_of_le_length (by omega), List.take_append_of_le_length (by simp; omega)]

theorem infoSha : (Tryd.prog.info? 96).map (·.size) = some 10 := by kernel_rfl
theorem one_sha (h : List UInt32) (n : Nat) (A : Option Addr) (k c : Nat) : ((shaL h n (.slice A k c)).toArray).all (·.oneCell') = true := by
  rw [Array.all_eq_true_iff_forall_mem]
  intro v hv
  simp only [shaL, List.mem_toArray, List.mem_append, List.mem_map, List.mem_cons, List.not_mem_nil, or_false] at hv
  rcases hv with ⟨x, _, rfl⟩ | rfl | rfl <;> rfl
set_option maxRecDepth 1000000 in
set_option maxHeartbeats 2000000 in
theorem taken_any (h : List UInt32) (n : Nat) (A : Option Addr) (k c : Nat) (rest : List UInt8) (At : Option Addr) (m ct : Nat) (vs : List Value) (ts : List (List UInt8)) (w : World)
    (hh : h.length = 8) (hk : k < 64) (hr : Rd w w.heap.size A k (rest.map bv)) (hm : m ≤ 5864062014805) (htot : ts.flatten.length ≤ 1099511627776) (hn : n ≤ 4398046511104)
    (hv : Rd w w.heap.size At m vs) (ht : Txs w w.heap.size vs ts) (hT : CTab w) :
    Calls Tryd.prog 56 #[.agg (shaL h n (.slice A k c)).toArray, .slice At m ct] w fun e w' =>
      ∃ A' k' c', e = .returned (.agg (shaL (blocksTo h (rest ++ ts.flatten) ((rest ++ ts.flatten).length / 64)) (n + ts.flatten.length) (.slice A' k' c')).toArray) ∧
        w'.ownsRow w.heap.size 5 1 (.slice A' k' c') k' (((rest ++ ts.flatten).drop (64 * ((rest ++ ts.flatten).length / 64))).map bv) ∧ Below w.heap.size w w' := by
  have hrl : rest.length = k := by have := hr.len; simpa using this
  have hml : vs.length = m := hv.len
  have htl : ts.length = m := by rw [← ht.1, hml]
  have Hh := Lib.hid hh
  have Hrl := Lib.hid hrl
  have Hml := Lib.hid hml
  have Htl := Lib.hid htl
  have Hle := Lib.hid (flat_take_le ts)
  have Htot := Lib.hid htot
  clear hh hrl hml htl htot
  go_enter Tryd.func56, Tryd.ntmps56
  go_wp2_with fail
  refine wp_gen (fun w1 => ShaAt w1 w.heap.size h n (.slice A k c) ∧ ArrB w1 (w.heap.size + 1 + 1) 125 (List.replicate 64 0) ∧ (∃ cs : Array Value, cs.size = 10 ∧ w1.heap[w.heap.size + 1]? = some (.cells cs 96 (0, 0))) ∧ Below w.heap.size w w1) ?_ ?_
  · refine ⟨ShaAt.alloc (ShaAt.alloc ⟨Hh.out, heap_alloc_new _ _⟩ _) _, ArrB.mk_ _ _ _ _ (by simp) rfl, ⟨_, ?_, (heap_alloc_old _ _ (by simp)).trans (heap_new (by simp) _)⟩, (((Below.refl _ _).alloc (Nat.le_refl _) _).alloc (al0 _ _) _).alloc (Nat.le_trans (al0 _ _) (al0 _ _)) _⟩
    rfl
  rintro w1 ⟨hS1, hB1, ⟨cs1, hc1, hR1⟩, hb1⟩
  have cV1 := hS1.cellV
  go_still_tail 3, (by kernel_rfl)
  change wpList _ _ _ _ _ w1.drew
  obtain ⟨cs, hcs⟩ : ∃ cs, cs = rest.map bv := ⟨_, rfl⟩
  have hcl : cs.length = k := by rw [hcs, List.length_map, Hrl.out]
  have Hcs := Lib.hid hcs
  have Hcl := Lib.hid hcl
  have H1 := Lib.hid (show ∀ v ∈ cs, v.oneCell' = true by rw [hcs]; exact one_bv _)
  have Hr1 := Lib.hid (show Rd w1.drew w.heap.size A k cs by rw [hcs]; exact (hr.below hb1).drew)
  clear hcs
  go_wp2_with ((with_reducible show wpList _ _ _ (⟨some 13, _, _, _, _, _⟩ :: _) _ _); refine wpList_copy_row rfl (.tmp 10) (.tmp 12) _ _ rfl 5 Tryd.underlying41 byteSize _ _ _ _ _ _ rfl rfl (w.heap.size + 1 + 1) 0 ((List.replicate 64 0).map bv) 125 hB1.drew.at_ cs (by rw [Hcl.out]; exact (Nat.min_eq_left (by omega)).symm) (fun hp => ⟨rfl, Hr1.out.src hp⟩) (by rw [Hcl.out]; simp; omega) H1.out ?_)
  clear hcl
  obtain ⟨all, hall⟩ : ∃ all, all = rest ++ ts.flatten := ⟨_, rfl⟩
  have Hal := Lib.hid (show all.length = k + ts.flatten.length by rw [hall, List.length_append, Hrl.out])
  have Hall := Lib.hid hall
  clear hall
  have hstart : TkInv w (w1.drew.setRow (w.heap.size + 1 + 1) (splice ((List.replicate 64 0).map bv) 0 cs).toArray) w.heap.size (w.heap.size + 1 + 1) (w.heap.size + 1) h all n (.slice A k c) k := by
    have e0 : k / 64 = 0 := by omega
    have e1 : k % 64 = k := by omega
    have e2 : splice ((List.replicate 64 (0 : UInt8)).map bv) 0 cs = (splice (List.replicate 64 0) 0 rest).map bv := by rw [Hcs.out, splice_bytes]
    refine ⟨by rw [e0]; exact hS1.drew.rowFar (by omega) _, ⟨splice (List.replicate 64 0) 0 rest, splice_len64 (by simp) (by rw [Hrl.out]; omega), ?_, by rw [e2]; exact hB1.drew.row _⟩, ⟨cs1, hc1, (setRow_other _ _ _ _ (by omega)).trans hR1⟩, below_setRow hb1.drew (by omega) _⟩
    rw [e0, e1, Hall.out]
    simp [splice, Hrl.out]
  refine wp_gen (fun wx => TkInv w wx w.heap.size (w.heap.size + 1 + 1) (w.heap.size + 1) h all n (.slice A k c) k) hstart ?_
  clear hstart hS1 hB1 hR1 hb1 cV1 Hr1
  intro w2 hI2
  go_wp2_with fail
  go_loopw [6, 16] (fun fv i wr => ∃ q f : Nat, q ≤ m ∧ i = .int .i64 (q : Int) ∧ fv = .int .i64 (f : Int) ∧ Hid (f = (k + (ts.take q).flatten.length) % 64) ∧ TkInv w wr w.heap.size (w.heap.size + 1 + 1) (w.heap.size + 1) h all (n + (ts.take q).flatten.length) (.slice A k c) (k + (ts.take q).flatten.length)) (fun _ i _ => m - (intOf i).toNat)
  case atStart => exact ⟨0, k, by omega, rfl, rfl, by show k = _; simp; omega, by simpa using hI2⟩
  case round =>
    obtain ⟨q, f, hq, rfl, rfl, Hf, hI⟩ := hrel
    obtain ⟨wo, rfl⟩ : ∃ wo, wo = wr := ⟨_, rfl⟩
    by_cases hlt : q < m
    · obtain ⟨v, hvq⟩ : ∃ v, vs[q]? = some v := ⟨_, List.getElem?_eq_getElem (by have := Hml.out; omega)⟩
      obtain ⟨t, htq⟩ : ∃ t, ts[q]? = some t := ⟨_, List.getElem?_eq_getElem (by have := Htl.out; omega)⟩
      obtain ⟨b, o, rfl, hb, hc⟩ := (hv.below hI.bel).pos (by omega)
      obtain ⟨Ax, cx, rfl, hcx, hrx⟩ := ht.2 q v t hvq htq
      have hcell := hc q _ hvq
      have cN := hI.sha.cellN
      have fN := hI.sha.frozen 8
      have Hsn := Lib.hid (flat_take_succ htq)
      have hle1 : (ts.take q).flatten.length + t.length ≤ ts.flatten.length := by
        have h2 := Hle.out (q + 1)
        rw [flat_take_succ htq, List.length_append] at h2
        exact h2
      have htt := Htot.out
      have Hat := Lib.hid (fun (j r : Nat) (hj : j + r ≤ t.length) => (all_at (rest := rest) htq hj))
      generalize hfl : (ts.take q).flatten.length = fl at *
      have Hfl := Lib.hid hfl
      have n1 : n + fl ≤ 5497558138880 := by omega
      have n2 : t.length ≤ 1099511627776 := by omega
      have Hle1 := Lib.hid hle1
      clear hvq htq hc htt hfl hle1
      generalize hN0 : n + fl = N0 at *
      have HN0 := Lib.hid hN0
      generalize hs0 : k + fl = s0 at *
      have Hs0 := Lib.hid hs0
      clear hN0 hs0
      generalize htlen : t.length = tl at *
      have Htlen := Lib.hid htlen
      clear htlen
      go_wp2_with fail
      have Hat2 := Lib.hid (show ∀ j r : Nat, j + r ≤ tl → (all.drop (s0 + j)).take r = (t.drop j).take r by
        intro j r hj
        rw [Hall.out, ← Hs0.out, ← Hrl.out]
        exact Hat.out j r hj)
      have hsl : s0 + tl ≤ all.length := by rw [Hal.out, ← Hs0.out]; have := Hle1.out; omega
      have Hsl := Lib.hid hsl
      clear hsl
      refine wp_gen (fun wx => TkInv w wx w.heap.size (w.heap.size + 1 + 1) (w.heap.size + 1) h all (N0 + tl) (.slice A k c) s0) (hI.setN _ _ (by omega) (by omega) (by omega) (by omega)) ?_
      clear hI Hat cN fN hcell
      intro w3 hI3
      go_loopw [6, 8] (fun fv p wr => ∃ (j f : Nat) (A' : Option Addr) (c' : Nat), j ≤ tl ∧ p = .slice A' (tl - j) c' ∧ tl - j ≤ c' ∧ Rd w w.heap.size A' (tl - j) ((t.drop j).map bv) ∧ fv = .int .i64 (f : Int) ∧ Hid (f = (s0 + j) % 64) ∧ TkInv w wr w.heap.size (w.heap.size + 1 + 1) (w.heap.size + 1) h all (N0 + tl) (.slice A k c) (s0 + j)) (fun _ p _ => lenOf p)
      case atStart => exact ⟨0, f, Ax, cx, by omega, rfl, hcx, hrx, rfl, Hf, hI3⟩
      case round =>
        obtain ⟨j, f2, A', c', hj, rfl, hcj, hrj, rfl, Hf2, hI4⟩ := hrel
        obtain ⟨L, hL1, hL2, hL3⟩ := hI4.blk
        by_cases hlj : j < tl
        · have hf2 : f2 < 64 := by rw [Hf2.out]; exact Nat.mod_lt _ (by omega)
          have Hat3 := Lib.hid (Hat2.out j (Nat.min (tl - j) (64 - f2)) (by have h : Nat.min (tl - j) (64 - f2) ≤ tl - j := Nat.min_le_left _ _; omega))
          have hr1 : Nat.min (tl - j) (64 - f2) ≤ tl - j := Nat.min_le_left _ _
          have hr2 : f2 + Nat.min (tl - j) (64 - f2) ≤ 64 := by have h : Nat.min (tl - j) (64 - f2) ≤ 64 - f2 := Nat.min_le_right _ _; omega
          have hr3 : 1 ≤ Nat.min (tl - j) (64 - f2) := Nat.le_min.2 ⟨by omega, by omega⟩
          obtain ⟨r, hr⟩ : ∃ r, Nat.min (tl - j) (64 - f2) = r := ⟨_, rfl⟩
          rw [hr] at Hat3 hr1 hr2 hr3
          have Hr := Lib.hid hr
          clear hr
          obtain ⟨cs3, hcs3⟩ : ∃ cs3, cs3 = ((t.drop j).take r).map bv := ⟨_, rfl⟩
          have hcl3 : cs3.length = r := by rw [hcs3, List.length_map, List.length_take, List.length_drop, Htlen.out]; omega
          have Hcl3 := Lib.hid hcl3
          have H3 := Lib.hid (show ∀ v ∈ cs3, v.oneCell' = true by rw [hcs3]; exact one_bv _)
          have Hcs3 := Lib.hid hcs3
          have Hr3 := Lib.hid (show ∀ wx : World, Below w.heap.size w wx → Rd wx w.heap.size A' r cs3 by
            intro wx hb
            have := (hrj.below hb).take hr1
            rwa [← List.map_take, ← hcs3] at this)
          clear hcs3
          have i0 : (0 : Int) < ((tl - j : Nat) : Int) := by omega
          have i1 : (f2 : Int) ≤ 64 := by omega
          have i2 : ¬ 64 = f2 := by omega
          have i3 : (r : Int) ≤ ((tl - j : Nat) : Int) := by omega
          have i4 : IntKind.i64.wrap ((f2 : Int) + (r : Int)) = (f2 : Int) + (r : Int) := IntWalk.i64_in _ (by omega)
          generalize htj : tl - j = tj at *
          have Htj := Lib.hid htj
          clear htj
          have Hspl := Lib.hid (show splice (L.map bv) f2 cs3 = (splice L ((s0 + j) % 64) ((all.drop (s0 + j)).take r)).map bv by
            rw [Hcs3.out, splice_bytes, Hat3.out, Hf2.out])
          have hsum : s0 + j + r ≤ all.length := by have := Hsl.out; have := Htj.out; omega
          have hf3 := Hf2.out
          have Hcut := Lib.hid (show Rd w w.heap.size (if c' = r then A' else A'.map (·.add r)) (tl - (j + r)) ((t.drop (j + r)).map bv) by
            have h := hrj.cut hr1 hcj
            rw [← List.map_drop, List.drop_drop] at h
            rw [show tl - (j + r) = tj - r by have := Htj.out; omega]
            exact h)
          have Hjr := Lib.hid (show j + r ≤ tl ∧ tl - (j + r) = tj - r ∧ tj - r ≤ c' - r ∧ (f2 + r) % 64 = (s0 + (j + r)) % 64 ∧ tj - r < tj by have := Htj.out; omega)
          by_cases hfull : f2 + r = 64
          · have Hch := Lib.hid (chunk_full hL1 hL2 (by omega) hsum)
            have Hq := Lib.hid (show (s0 + j + r) / 64 = (s0 + j) / 64 + 1 ∧ (s0 + j + r) % 64 = 0 by omega)
            have hS4 := hI4.sha
            obtain ⟨cs4, hc4, hR4⟩ := hI4.res
            have hbel4 := hI4.bel
            clear hf3 hsum
            have j1 : ((f2 : Int) + (r : Int) == 64) = true := by simp; omega
            by_cases hcr : c' = r
            all_goals
              go_wp2_with ((with_reducible show wpList _ _ _ (⟨some 33, _, _, _, _, _⟩ :: _) _ _); refine wpList_copy_row rfl (.tmp 31) (.tmp 32) _ _ rfl 5 Tryd.underlying41 byteSize _ _ _ _ _ _ rfl rfl (w.heap.size + 1 + 1) f2 (L.map bv) 125 hL3.at_ cs3 (by rw [Hcl3.out]; exact Hr.out.symm) (fun hp => ⟨rfl, (Hr3.out _ hI4.bel).src hp⟩) (by rw [Hcl3.out]; simp [hL1]; omega) H3.out ?_)
              refine wp_gen (fun wx => ShaAt wx w.heap.size (blocksTo h all ((s0 + j) / 64)) (N0 + tl) (.slice A k c) ∧ ArrB wx (w.heap.size + 1 + 1) 125 (chunk all ((s0 + j) / 64)) ∧ wx.heap[w.heap.size + 1]? = some (.cells cs4 96 (0, 0)) ∧ Below w.heap.size w wx) ⟨hS4.rowFar (by omega) _, by rw [Hspl.out, Hch.out]; exact hL3.row _, (setRow_other _ _ _ _ (by omega)).trans hR4, below_setRow hbel4 (by omega) _⟩ ?_
              clear hI4 hL3 hL2 hS4 hR4 hbel4
              rintro w4 ⟨hS5, hL5, hR5, hb5⟩
              have hlen5 := hS5.1
              have hcl5 : (chunk all ((s0 + j) / 64)).length = 64 := by rw [← Hch.out]; exact splice_len64 hL1 (by simp; have := Hf2.out; omega)
              have Hbk := Lib.hid (show blocksTo h all ((s0 + j) / 64 + 1) = blockW (blocksTo h all ((s0 + j) / 64)) (wordsU (chunk all ((s0 + j) / 64))) from rfl)
              generalize blocksTo h all ((s0 + j) / 64) = hcur at *
              generalize chunk all ((s0 + j) / 64) = ck at *
              have Hi8 := Lib.hid (show (Tryd.prog.info? 94).map (·.size) = some (hcur.map wv).length by rw [info8]; simp [hlen5])
              have Hi64 := Lib.hid (show (Tryd.prog.info? 125).map (·.size) = some ((ck.map bv).toArray).size by rw [info64b]; simp [hcl5])
              have Hln5 := Lib.hid hlen5
              have Hck5 := Lib.hid hcl5
              clear hlen5 hcl5
              have hCT := hT.below hb5
              go_quiet (fail)
              generalize hwq : w4.drewN nq = w5
              have hS6 : ShaAt w5 w.heap.size hcur (N0 + tl) (.slice A k c) := by rw [← hwq]; exact hS5.drewN nq
              have hL6 : ArrB w5 (w.heap.size + 1 + 1) 125 ck := by rw [← hwq]; exact hL5.drewN nq
              have hR6 : w5.heap[w.heap.size + 1]? = some (.cells cs4 96 (0, 0)) := by rw [← hwq]; exact hR5
              have hb6 : Below w.heap.size w w5 := by rw [← hwq]; exact hb5.trans ⟨rfl, rfl, rfl, Nat.le_refl _, fun _ _ => rfl⟩
              have hC6 : CTab w5 := by rw [← hwq]; exact hCT
              clear hwq hS5 hL5 hR5 hb5 hCT
              go_wp2_with (first
                | ((with_reducible show wpList _ _ _ (⟨some 43, _, _, _, _, _⟩ :: _) _ _); refine wpList_load_mid rfl 94 (.tmp 42) rfl w.heap.size 0 rfl (hcur.map wv) _ hS6.words Tryd.underlying94 rfl Hi8.out ?_)
                | ((with_reducible show wpList _ _ _ (⟨some 44, _, _, _, _, _⟩ :: _) _ _); refine wpList_load_row rfl 125 (.tmp 5) rfl (w.heap.size + 1 + 1) rfl 125 (ck.map bv).toArray (0, 0) _ hL6 Tryd.underlying125 rfl Hi64.out ?_))
              refine (mixed_any hcur ck w5 Hln5.out Hck5.out hC6).mono ?_
              rintro e w6 ⟨rfl, hb7⟩
              rw [← Hbk.out]
              have hS7 := hS6.below hb7 hS6.lt
              have hL7 := hL6.below hb7 hL6.lt
              have hR7 : w6.heap[w.heap.size + 1]? = some (.cells cs4 96 (0, 0)) := (hb7.block _ (by have := hL6.lt; omega)).trans hR6
              have hb8 : Below w.heap.size w w6 := hb6.trans (hb7.mono hb6.size)
              have hln7 : (blocksTo h all ((s0 + j) / 64 + 1)).length = 8 := blocksTo_len Hh.out _ _
              generalize hgn : blocksTo h all ((s0 + j) / 64 + 1) = hnew at *
              have Hgn := Lib.hid hgn
              have Hln7 := Lib.hid hln7
              have Hi7 := Lib.hid (show (Tryd.prog.info? 94).map (·.size) = some ((hnew.map wv).toArray).size by rw [info8]; simp [hln7])
              have Ht7 := Lib.hid (show w6.there w.heap.size 0 ((hnew.map wv).toArray).size by simp [hln7]; exact hS7.there)
              clear hgn hln7
              go_wp2_with ((with_reducible show wpList _ _ _ (⟨none, Op.store 94 _ _, _, _, _, _⟩ :: _) _ _); refine wpList_store_mid rfl 94 (.tmp 46) (.tmp 45) rfl w.heap.size 0 (hnew.map wv).toArray rfl rfl Ht7.out Hi7.out (one_wv _) ?_)
              obtain ⟨g1, g2, g3, g4, g5⟩ := Hjr.out
              obtain ⟨q1, q2⟩ := Hq.out
              have hcut := Hcut.out
              first | rw [if_pos hcr] at hcut | rw [if_neg hcr] at hcut
              have hI8 : TkInv w (w6.setCells w.heap.size 0 (hnew.map wv)) w.heap.size (w.heap.size + 1 + 1) (w.heap.size + 1) h all (N0 + tl) (.slice A k c) (s0 + (j + r)) := by
                rw [← Nat.add_assoc]
                refine ⟨by rw [q1, Hgn.out]; exact hS7.setH Hln7.out, ⟨ck, Hck5.out, by rw [q2]; rfl, ?_⟩, ⟨cs4, hc4, (setCells_far _ _ (by omega) _ _ _).trans hR7⟩, below_setCells (Nat.le_refl _) _ _ _ hb8⟩
                exact hL7.of (setCells_far _ _ (by omega) _ _ _)
              exact ⟨⟨j + r, 0, _, _, g1, by rw [g2], by rw [g2]; omega, hcut, rfl, by show 0 = _; omega, by simpa using hI8⟩, by simp [lenOf]; omega⟩
          · have Hwi := Lib.hid (fun wx hw => TkInv.within (wr' := wx) hI4 hL1 hL2 (r := r) (by omega) hsum hw hL3 (by omega) (by omega) (by omega))
            clear hf3 hsum
            have j1 : ((f2 : Int) + (r : Int) == 64) = false := by simp; omega
            by_cases hcr : c' = r
            all_goals
              go_wp2_with ((with_reducible show wpList _ _ _ (⟨some 33, _, _, _, _, _⟩ :: _) _ _); refine wpList_copy_row rfl (.tmp 31) (.tmp 32) _ _ rfl 5 Tryd.underlying41 byteSize _ _ _ _ _ _ rfl rfl (w.heap.size + 1 + 1) f2 (L.map bv) 125 hL3.at_ cs3 (by rw [Hcl3.out]; exact Hr.out.symm) (fun hp => ⟨rfl, (Hr3.out _ hI4.bel).src hp⟩) (by rw [Hcl3.out]; simp [hL1]; omega) H3.out ?_)
              refine wp_gen (fun wx => TkInv w wx w.heap.size (w.heap.size + 1 + 1) (w.heap.size + 1) h all (N0 + tl) (.slice A k c) (s0 + j + r)) (Hwi.out _ (by rw [Hspl.out])) ?_
              clear hI4 hL3 hL2
              intro w4 hI5
              go_quiet (fail)
              go_wp2_with fail
              obtain ⟨g1, g2, g3, g4, g5⟩ := Hjr.out
              have hcut := Hcut.out
              first | rw [if_pos hcr] at hcut | rw [if_neg hcr] at hcut
              exact ⟨⟨j + r, f2 + r, _, _, g1, by rw [g2], by rw [g2]; omega, hcut, by rw [Int.natCast_add], by show f2 + r = _; rw [← g4]; omega, by rw [← Nat.add_assoc]; exact hI5.drewN nq⟩, by simp [lenOf]; omega⟩
        · obtain rfl : j = tl := by omega
          go_wp2_with fail
          have hfl1 : (ts.take (q + 1)).flatten.length = fl + j := by rw [Hsn.out, List.length_append, Hfl.out, Htlen.out]
          have hs1 : k + (ts.take (q + 1)).flatten.length = s0 + j := by rw [hfl1, ← Hs0.out]; omega
          have hN1 : n + (ts.take (q + 1)).flatten.length = N0 + j := by rw [hfl1, ← HN0.out]; omega
          exact ⟨⟨q + 1, f2, by omega, by go_num, rfl, by show f2 = _; rw [hs1]; exact Hf2.out, by rw [hs1, hN1]; exact hI4⟩, by simp [intOf]; omega⟩
    · obtain rfl : q = m := by omega
      have e : ts.take q = ts := List.take_of_length_le (by have := Htl.out; omega)
      rw [e, ← Hal.out] at hI Hf
      obtain ⟨L, hL1, hL2, hL3⟩ := hI.blk
      obtain ⟨cs9, hc9, hR9⟩ := hI.res
      have hS9 := hI.sha
      have hb9 := hI.bel
      have hf9 : f < 64 := by rw [Hf.out]; exact Nat.mod_lt _ (by omega)
      have i1 : (f : Int) ≤ 64 := by omega
      have i0 : 0 ≤ (f : Int) := by omega
      have hLl : (L.take f).length = f := by simp [hL1]; omega
      have hrL : ∀ wx : World, ArrB wx (w.heap.size + 1 + 1) 125 L → Rd wx wx.heap.size (some ⟨w.heap.size + 1 + 1, 0, none⟩) f ((L.take f).map bv) := by
        intro wx hx
        refine ⟨by simp [hL1]; omega, fun _ => ⟨_, 0, rfl, hx.lt, fun j u hu => ?_⟩⟩
        rw [Nat.zero_add, cell_of_row wx _ j _ _ (0, 0) hx.at_]
        rw [List.map_take, List.getElem?_take] at hu
        split at hu
        · simpa using hu
        · cases hu
      have HrL := Lib.hid hrL
      have Hl2 := Lib.hid (show L.take f = all.drop (64 * (all.length / 64)) by
        rw [Hf.out, hL2]
        exact List.take_of_length_le (by simp; omega))
      clear hrL hL2 hI hLl e
      go_wp2_with fail
      refine (Clone_any _ f _ (L.take f) _ (by omega) (HrL.out _ hL3)).mono ?_
      rintro e w7 ⟨A7, c7, rfl, hown7, hb7⟩
      have hS7 := hS9.below hb7 hS9.lt
      have hR7 : w7.heap[w.heap.size + 1]? = some (.cells cs9 96 (0, 0)) := (hb7.block _ (by have := hL3.lt; omega)).trans hR9
      have hb8 : Below w.heap.size w w7 := hb9.trans (hb7.mono hb9.size)
      have cV7 := hS7.cellV
      have fV7 := hS7.frozen 9
      have hS8 := hS7.setV (.slice A7 f c7)
      have hR8 : (w7.setCell ⟨w.heap.size, 9, none⟩ (.slice A7 f c7)).heap[w.heap.size + 1]? = some (.cells cs9 96 (0, 0)) := (Below.heap_setCell _ _ _ _ (by simp)).trans hR7
      have hb10 : Below w.heap.size w (w7.setCell ⟨w.heap.size, 9, none⟩ (.slice A7 f c7)) := hb8.setCell (Nat.le_refl _) _
      have hown8 : (w7.setCell ⟨w.heap.size, 9, none⟩ (.slice A7 f c7)).ownsRow w.heap.size 5 1 (.slice A7 f c7) f ((L.take f).map bv) := by
        refine own_far (own_base hown7 hb9.size) (by simp) (fun g hg => Below.heap_setCell _ _ _ _ ?_)
        have := (hown7.lt g hg).1
        have := hL3.lt
        simp
        omega
      have hown9 : ((w7.setCell ⟨w.heap.size, 9, none⟩ (.slice A7 f c7)).setRow (w.heap.size + 1) (shaL (blocksTo h all (all.length / 64)) (n + ts.flatten.length) (.slice A7 f c7)).toArray).ownsRow w.heap.size 5 1 (.slice A7 f c7) f ((L.take f).map bv) := by
        refine own_far hown8 (by simp [World.setRow]) (fun g hg => setRow_other _ _ _ _ ?_)
        have := (hown7.lt g hg).1
        have := hL3.lt
        omega
      generalize hgb : blocksTo h all (all.length / 64) = hfin at *
      have Hgb := Lib.hid hgb
      generalize hgN : n + ts.flatten.length = Nf at *
      have HgN := Lib.hid hgN
      have hl10 := shaL_len hS8.1 Nf (.slice A7 f c7)
      have Hi10 := Lib.hid (show (Tryd.prog.info? 96).map (·.size) = some ((shaL hfin Nf (.slice A7 f c7)).toArray).size by rw [infoSha]; simp [hl10])
      have Hz10 := Lib.hid (show cs9.size = ((shaL hfin Nf (.slice A7 f c7)).toArray).size by simp [hl10, hc9])
      have H1s := Lib.hid (one_sha hfin Nf A7 f c7)
      clear hgb hgN hl10 hc9
      go_wp2_with (first
        | ((with_reducible show wpList _ _ _ (⟨some 52, _, _, _, _, _⟩ :: _) _ _); refine wpList_load_row rfl 96 (.tmp 2) rfl w.heap.size rfl 96 (shaL hfin Nf (.slice A7 f c7)).toArray (0, 0) _ hS8.2 Tryd.underlying96 rfl Hi10.out ?_)
        | ((with_reducible show wpList _ _ _ (⟨none, Op.store 96 _ _, _, _, _, _⟩ :: _) _ _); refine wpList_store_row rfl 96 (.tmp 4) (.tmp 52) rfl (w.heap.size + 1) (shaL hfin Nf (.slice A7 f c7)).toArray rfl rfl 96 _ hR8 Hi10.out Hz10.out H1s.out ?_))
      refine bodyPost_ret (results_cell_row rfl _ _ (w.heap.size + 1) 96 _ (0, 0) _ rfl (setRow_heap _ _ _ _ _ _ hR8) Tryd.underlying96 rfl Hi10.out) rfl ⟨A7, f, c7, ?_, ?_, below_setRow hb10 (by omega) _⟩
      · rw [← Hall.out, Hgb.out, HgN.out]
      · rw [← Hall.out, ← Hl2.out]
        exact hown9

end Go.Proofs.YtlidhdljgnijaaaDoor

/-
  CONTRACTS of New, Check (package sha): the program's.
-/
set_option linter.unusedVariables false
namespace Go.Proofs.YtlidhdljgnijaaaDoor
open Go.RowKit

set_option maxRecDepth 1000000 in
theorem New_any (w : World) :
    Calls Tryd.prog 57 #[] w fun e w' => e = .returned (.agg (shaL firstU 0 (.slice none 0 0)).toArray) ∧ Below w.heap.size w w' := by
  go_enter Tryd.func57, Tryd.ntmps57
  go_wp2_with ((with_reducible show wpList _ _ _ (⟨none, _, _, _, _, _⟩ :: _) _ _)
               refine wpList_store_row rfl 96 (.tmp 0) (.tmp 2) rfl w.heap.size (shaL firstU 0 (.slice none 0 0)).toArray rfl rfl 96 _ (heap_alloc_new _ _) infoSha rfl (one_sha _ _ _ _ _) ?_
               rw [World.setRow_alloc_new])
  exact bodyPost_ret (results_cell_row rfl _ _ w.heap.size 96 _ (0, 0) _ rfl (heap_alloc_new _ _) Tryd.underlying96 rfl infoSha) rfl ⟨rfl, (Below.refl _ _).alloc (Nat.le_refl _) _⟩

end Go.Proofs.YtlidhdljgnijaaaDoor

/-
  CONTRACTS of Same (package sha, and the document's), haveRoom, closed, Sum.
-/
set_option linter.unusedVariables false
namespace Go.Proofs.YtlidhdljgnijaaaDoor
open Go.RowKit

end Go.Proofs.YtlidhdljgnijaaaDoor

/-
  CONTRACTS of the program's closed and Sum (package sha).
-/
set_option linter.unusedVariables false
namespace Go.Proofs.YtlidhdljgnijaaaDoor
open Go.RowKit

/-- the words behind all blocks and the padding -/
def doneU (h : List UInt32) (n : Nat) (rest : List UInt8) : List UInt8 := bytesU (blocksTo h (rest ++ tailU n) ((rest ++ tailU n).length / 64))

theorem outAt_splice {b cs : List UInt8} {p : Nat} (hb : b.length = 32) (h1 : p + cs.length ≤ 32) (h2 : (b.drop p).take cs.length = cs) : outAt b (p + cs.length) = splice (outAt b p) p cs := by
  have hp : (b.take p).length = p := by simp; omega
  have h := splice_in (b.take p) (List.replicate (32 - p) (0 : UInt8)) cs (by simp; omega)
  rw [hp] at h
  unfold outAt
  rw [h, List.take_add, h2, List.drop_replicate]
  congr 2
  omega
theorem bytesU_take {h : List UInt32} {j : Nat} {x : UInt32} (hx : h[j]? = some x) : ((bytesU h).drop (4 * j)).take (be 4 x.toNat).length = be 4 x.toNat := by
  apply List.ext_getElem?
  intro n
  rw [be_length, List.getElem?_take]
  split
  · rename_i hn
    rw [List.getElem?_drop, bytesU_at h j n x hx hn]
  · rename_i hn
    rw [List.getElem?_eq_none (by rw [be_length]; omega)]

theorem size_alloc1 (w : World) (o : Obj) : (w.alloc o).heap.size = w.heap.size + 1 := by simp

theorem size_alloc2 (w : World) (o o' : Obj) : ((w.alloc o).alloc o').heap.size = w.heap.size + 1 + 1 := by simp
set_option maxRecDepth 1000000 in
theorem sha_struct : ∃ f0 f1 f2, Tryd.prog.underlying 96 = some (.struct #[f0, f1, f2]) ∧ f0.type = 94 ∧ f0.offset = 0 := ⟨_, _, _, rfl, rfl, rfl⟩
theorem field_H (w : World) (h : List UInt32) (n : Nat) (v : Value) (hh : h.length = 8) :
    (Instr.field 96 (.agg (shaL h n v).toArray) 0).run Tryd.prog w = .ok (.agg (h.map wv).toArray) w := by
  obtain ⟨f0, f1, f2, hu, ht, ho⟩ := sha_struct
  have hs := info8
  cases hq : Tryd.prog.info? 94 with
  | none => simp [hq] at hs
  | some i =>
    have hi : i.size = 8 := by simpa [hq] using hs
    simp [Instr.field, run_underlying hu, asAgg, part, isAgg, ht, ho, run_underlying Tryd.underlying94, sizeOf, typeInfo, hq, hi]
    rw [shaL, List.take_append_of_le_length (by simp [hh])]
    exact List.take_of_length_le (by simp [hh])

/-- taken, of one part -/
theorem taken_one (h : List UInt32) (n : Nat) (A : Option Addr) (k c : Nat) (rest : List UInt8) (At : Option Addr) (b m c' ct : Nat) (t : List UInt8) (w : World)
    (hh : h.length = 8) (hk : k < 64) (hr : Rd w w.heap.size A k (rest.map bv)) (hn : n ≤ 4398046511104) (hb : b < w.heap.size) (hc : w.cell? ⟨b, 0, none⟩ = some (.slice At m c')) (ht : Rd w w.heap.size At m (t.map bv)) (hmc : m ≤ c') (hm : m ≤ 1099511627776) (hT : CTab w) :
    Calls Tryd.prog 56 #[.agg (shaL h n (.slice A k c)).toArray, .slice (some ⟨b, 0, none⟩) 1 ct] w fun e w' =>
      ∃ hf nf A' k' c', e = .returned (.agg (shaL hf nf (.slice A' k' c')).toArray) ∧ hf.length = 8 ∧ Hid (hf = blocksTo h (rest ++ t) ((rest ++ t).length / 64)) ∧ Below w.heap.size w w' := by
  have htl : t.length = m := by have := ht.len; simpa using this
  refine (taken_any h n A k c rest (some ⟨b, 0, none⟩) 1 ct [.slice At m c'] [t] w hh hk hr (by omega) (by simp; omega) hn ⟨rfl, fun _ => ⟨b, 0, rfl, hb, fun j u hu => ?_⟩⟩ ?_ hT).mono ?_
  · rcases j with _ | j
    · simpa using hu ▸ hc
    · simp at hu
  · rw [← htl] at ht hmc ⊢
    exact Txs.one ht hmc
  · rintro e w' ⟨A', k', c1, rfl, hown, hb⟩
    have e1 : [t].flatten = t := by simp
    rw [e1] at *
    exact ⟨_, _, A', k', c1, rfl, blocksTo_len hh _ _, show _ = _ from rfl, hb⟩

theorem feed1 {w1 w2 : World} {B : Nat} {A : Option Addr} {k : Nat} {xs : List Value} (h : Rd w1 B A k xs) (hb : Below w1.heap.size w1 w2) (hB : B ≤ w1.heap.size) (o : Obj) : Rd (w2.alloc o) (w2.alloc o).heap.size A k xs :=
  ((h.below (hb.mono hB)).alloc (Nat.le_trans hB hb.size) o).more (Nat.le_trans (Nat.le_trans hB hb.size) (al0 _ _))
theorem feed2 (w : World) (o : Obj) : w.heap.size < (w.alloc o).heap.size := by simp
theorem feed3 (w : World) (v : Value) (t : TypeId) : (w.alloc (.cells #[v] t)).cell? ⟨w.heap.size, 0, none⟩ = some v := by
  rw [cell_of_row _ _ 0 _ _ (0, 0) (heap_alloc_new _ _)]; rfl
theorem feed4 {w : World} {base : Nat} {e : TypeId} {A : Option Addr} {n c : Nat} {xs : List Value} (h : w.ownsRow base e 1 (.slice A n c) n xs) (o : Obj) : Rd (w.alloc o) (w.alloc o).heap.size A n xs :=
  ((Rd.of_own h).alloc (Nat.le_refl _) o).more (al0 _ _)
theorem own_le {w : World} {base : Nat} {e : TypeId} {A : Option Addr} {n c : Nat} {xs : List Value} (h : w.ownsRow base e 1 (.slice A n c) n xs) : n ≤ c := by
  rcases h.2 with ⟨_, rfl⟩ | ⟨g, cap, cur, hv, _, _, h3, _⟩
  · omega
  · injection hv; omega
theorem own_few {w : World} {base : Nat} {e : TypeId} {v : Value} {n m : Nat} {l : List UInt8} (h : w.ownsRow base e 1 v n (l.map bv)) (hl : l.length ≤ m) : n ≤ m := by
  have := h.1
  simp at this
  omega
theorem CTab.drew {w : World} (h : CTab w) : CTab w.drew := fun i x hx => h i x hx
theorem feed5 {w1 w2 : World} (h : CTab w1) (hb : Below w1.heap.size w1 w2) (o : Obj) : CTab (w2.alloc o) := (h.below hb).below ((Below.refl _ _).alloc (Nat.le_refl _) _)

/-- the same, its sum written out -/
theorem taken_eight (a0 a1 a2 a3 a4 a5 a6 a7 : UInt32) (n : Nat) (A : Option Addr) (k c : Nat) (rest : List UInt8) (At : Option Addr) (b m c' ct : Nat) (t : List UInt8) (w : World)
    (hk : k < 64) (hr : Rd w w.heap.size A k (rest.map bv)) (hn : n ≤ 4398046511104) (hb : b < w.heap.size) (hc : w.cell? ⟨b, 0, none⟩ = some (.slice At m c')) (ht : Rd w w.heap.size At m (t.map bv)) (hmc : m ≤ c') (hm : m ≤ 1099511627776) (hT : CTab w) :
    Calls Tryd.prog 56 #[.agg #[.int .u32 (a0.toNat : Int), .int .u32 (a1.toNat : Int), .int .u32 (a2.toNat : Int), .int .u32 (a3.toNat : Int), .int .u32 (a4.toNat : Int), .int .u32 (a5.toNat : Int), .int .u32 (a6.toNat : Int), .int .u32 (a7.toNat : Int), .int .u64 (n : Int), .slice A k c], .slice (some ⟨b, 0, none⟩) 1 ct] w fun e w' =>
      ∃ hf nf A' k' c', e = .returned (.agg (shaL hf nf (.slice A' k' c')).toArray) ∧ hf.length = 8 ∧ Hid (hf = blocksTo [a0, a1, a2, a3, a4, a5, a6, a7] (rest ++ t) ((rest ++ t).length / 64)) ∧ Below w.heap.size w w' :=
  taken_one [a0, a1, a2, a3, a4, a5, a6, a7] n A k c rest At b m c' ct t w rfl hk hr hn hb hc ht hmc hm hT

set_option maxRecDepth 1000000 in
set_option maxHeartbeats 1000000 in
theorem closed_any (h : List UInt32) (n : Nat) (A : Option Addr) (k c : Nat) (rest : List UInt8) (w : World)
    (hh : h.length = 8) (hk : k < 64) (hr : Rd w w.heap.size A k (rest.map bv)) (hn : n ≤ 1099511627776) (hT : CTab w) :
    Calls Tryd.prog 55 #[.agg (shaL h n (.slice A k c)).toArray] w fun e w' => e = .returned (.agg ((doneU h n rest).map bv).toArray) ∧ Below w.heap.size w w' := by
  obtain ⟨a0, a1, a2, a3, a4, a5, a6, a7, rfl⟩ := eight hh
  go_enter Tryd.func55, Tryd.ntmps55
  go_wp2_with fail
  refine wp_gen (fun w1 => ShaAt w1 w.heap.size [a0, a1, a2, a3, a4, a5, a6, a7] n (.slice A k c) ∧ ArrB w1 (w.heap.size + 1) 36 (List.replicate 32 0) ∧ ArrB w1 (w.heap.size + 1 + 1) 36 (List.replicate 32 0) ∧ Below w.heap.size w w1) ?_ ?_
  · refine ⟨ShaAt.alloc (ShaAt.alloc ⟨rfl, heap_alloc_new _ _⟩ _) _, ArrB.alloc (ArrB.mk_ _ _ _ (List.replicate 32 0) (size_alloc1 _ _) ?_) _, ArrB.mk_ _ _ _ (List.replicate 32 0) (size_alloc2 _ _ _) ?_, (((Below.refl _ _).alloc (Nat.le_refl _) _).alloc (al0 _ _) _).alloc (Nat.le_trans (al0 _ _) (al0 _ _)) _⟩
    · rfl
    · rfl
  rintro w1 ⟨hS1, hR1, hK1, hb1⟩
  have cN := hS1.cellN
  have cV := hS1.cellV
  have m0 := hS1.word (i := 0) (x := a0) rfl
  have m1 := hS1.word (i := 1) (x := a1) rfl
  have m2 := hS1.word (i := 2) (x := a2) rfl
  have m3 := hS1.word (i := 3) (x := a3) rfl
  have m4 := hS1.word (i := 4) (x := a4) rfl
  have m5 := hS1.word (i := 5) (x := a5) rfl
  have m6 := hS1.word (i := 6) (x := a6) rfl
  have m7 := hS1.word (i := 7) (x := a7) rfl
  have hlt := hK1.lt
  have hrd := hr.below hb1
  have hfd := field_H
  have hCT := hT.below hb1
  have HT := Lib.hid (tailU_len n)
  have hz := zeros_le n
  clear hh
  go_region_held3 (fun w' => w'.cell? ⟨w.heap.size, 8, none⟩ = some (.int .u64 (n : Int)) ∧ w'.cell? ⟨w.heap.size, 0, none⟩ = some (.int .u32 (a0.toNat : Int)) ∧ w'.cell? ⟨w.heap.size, 1, none⟩ = some (.int .u32 (a1.toNat : Int)) ∧ w'.cell? ⟨w.heap.size, 2, none⟩ = some (.int .u32 (a2.toNat : Int)) ∧ w'.cell? ⟨w.heap.size, 3, none⟩ = some (.int .u32 (a3.toNat : Int)) ∧ w'.cell? ⟨w.heap.size, 4, none⟩ = some (.int .u32 (a4.toNat : Int)) ∧ w'.cell? ⟨w.heap.size, 5, none⟩ = some (.int .u32 (a5.toNat : Int)) ∧ w'.cell? ⟨w.heap.size, 6, none⟩ = some (.int .u32 (a6.toNat : Int)) ∧ w'.cell? ⟨w.heap.size, 7, none⟩ = some (.int .u32 (a7.toNat : Int)) ∧ w'.cell? ⟨w.heap.size, 9, none⟩ = some (.slice A k c))
    (first | go_keep | (go_split_ands; refine ⟨?_, ?_, ?_, ?_, ?_, ?_, ?_, ?_, ?_, ?_⟩ <;> (rw [hb2.cell (by simp; omega)]; assumption)) | (go_split_ands; refine ⟨?_, ?_, ?_, ?_, ?_, ?_, ?_, ?_, ?_, ?_⟩ <;> (rw [hb3.cell (by simp; omega)]; assumption)))
    (first
      | (go_at_call 84; refine (padding_any n _ hn).mono ?_; rintro e w2 ⟨A2, m2, c2, rfl, hown2, hb2⟩; have hs2 : w.heap.size + 3 ≤ w2.heap.size := Nat.le_trans (show w.heap.size + 3 ≤ w1.heap.size from hlt) hb2.size)
      | (go_at_call 56; refine (taken_eight a0 a1 a2 a3 a4 a5 a6 a7 n A k c rest A2 _ m2 c2 _ (tailU n) _ hk (feed1 (hrd.drew (B := w.heap.size)) hb2 (by simp; omega) _) (by omega) (feed2 _ _) (feed3 _ _ _) (feed4 hown2 _) (own_le hown2) (own_few hown2 (by rw [HT.out]; omega)) (feed5 hCT.drew hb2 _)).mono ?_; rintro e w3 ⟨hf, nf, A3, k3, c3, rfl, hl3, Hf3, hb3⟩))
  have hs3 : w.heap.size + 3 ≤ w3.heap.size := Nat.le_trans hs2 (Nat.le_trans (al0 _ _) hb3.size)
  have hb12 : Below w.heap.size w w2 := hb1.trans ((⟨rfl, rfl, rfl, Nat.le_refl _, fun _ _ => rfl⟩ : Below w.heap.size w1 w1.drew).trans (hb2.mono (Nat.le_trans (by omega) hlt)))
  have hb13 : Below w.heap.size w w3 := (hb12.alloc (by omega) _).trans (hb3.mono (Nat.le_trans (by omega) (al0 _ _)))
  have hR3 : ArrB w3 (w.heap.size + 1) 36 (List.replicate 32 0) := ((hR1.drew.below hb2 (Nat.lt_of_lt_of_le (by omega) hlt)).alloc _).below hb3 (Nat.lt_of_lt_of_le (by omega) (al0 _ _))
  have hK3 : ArrB w3 (w.heap.size + 1 + 1) 36 (List.replicate 32 0) := ((hK1.drew.below hb2 hlt).alloc _).below hb3 (Nat.lt_of_lt_of_le (by omega) (al0 _ _))
  have Hl3 := Lib.hid hl3
  have Hbl := Lib.hid (show (bytesU hf).length = 32 by rw [bytesU_len, hl3])
  clear hl3 hR1 hK1 hb1 hb2 hb3 hb12 hS1 cN cV m3 m4 m5 m6 m7 hfd hCT hrd hlt hown2 hs2
  have hpl := word_plain
  obtain ⟨iw, hiw⟩ := word_info
  go_wp2_with fail
  go_loopw [13] (fun i wr => ∃ j : Nat, j ≤ 8 ∧ i = .int .i64 (j : Int) ∧ ArrB wr (w.heap.size + 1 + 1) 36 (outAt (bytesU hf) (4 * j)) ∧ ArrB wr (w.heap.size + 1) 36 (List.replicate 32 0) ∧ Below w.heap.size w wr) (fun i _ => (8 - intOf i).toNat)
  case atStart => exact ⟨0, by omega, rfl, by rw [show 4 * 0 = 0 from rfl, outAt_zero]; exact hK3, hR3, hb13⟩
  case round =>
    obtain ⟨j, hj, rfl, hK, hR, hb⟩ := hrel
    by_cases hlt : j < 8
    · obtain ⟨x, hx⟩ : ∃ x, hf[j]? = some x := ⟨_, List.getElem?_eq_getElem (by rw [Hl3.out]; omega)⟩
      have Hspl := Lib.hid (outAt_splice (b := bytesU hf) (p := 4 * j) (cs := be 4 x.toNat) Hbl.out (by rw [be_length]; omega) (bytesU_take hx))
      have hxv : (hf.map wv).toArray[j]? = some (.int .u32 (x.toNat : Int)) := by simp [hx, wv]
      have i0 : 0 ≤ (j : Int) * 4 := by omega
      have i1 : (j : Int) * 4 ≤ 32 := by omega
      have i2 : ((j : Int) * 4).toNat = 4 * j := by omega
      have i3 : ¬ 32 = 4 * j := by omega
      have Hxv := Lib.hid hxv
      clear hx hxv
      go_wp2_with (first
        | ((with_reducible show wpList _ _ _ (⟨some 16, _, _, _, _, _⟩ :: _) _ _); refine wpList_index_cell rfl (some 16) rfl 94 (.tmp 12) (.tmp 13) rfl (hf.map wv).toArray rfl j rfl 8 93 Tryd.underlying94 hpl iw hiw word_cells _ Hxv.out hlt ?_)
        | (go_at_call 85; refine (putWord_any (w.heap.size + 1 + 1) (4 * j) _ _ ((outAt (bytesU hf) (4 * j)).map bv) 36 x _ (by omega) (by rw [List.length_map, outAt_len Hbl.out (by omega)]; omega) hK.at_).mono ?_; rintro e w4 ⟨rfl, o4, rfl⟩))
      refine ⟨⟨j + 1, by omega, by go_num, ?_, ?_, ?_⟩, by simp [intOf]; omega⟩
      · rw [splice_bytes, show 4 * (j + 1) = 4 * j + (be 4 x.toNat).length by rw [be_length]; omega, Hspl.out]
        exact (hK.alloc o4).row _
      · exact (hR.alloc o4).rowFar (by omega) _
      · exact below_setRow (hb.alloc hb.size _) (by omega) _
    · obtain rfl : j = 8 := by omega
      rw [show ((8 : Nat) : Int) = 8 from rfl]
      rw [show 4 * 8 = 32 from rfl, outAt_all Hbl.out] at hK
      have Hf := Lib.hid (show (Tryd.prog.info? 36).map (·.size) = some (((bytesU hf).map bv).toArray).size by rw [info32]; simp [Hbl.out])
      have Hz := Lib.hid (show ((List.replicate 32 (0 : UInt8)).map bv).toArray.size = (((bytesU hf).map bv).toArray).size by simp [Hbl.out])
      have Hd := Lib.hid (show doneU [a0, a1, a2, a3, a4, a5, a6, a7] n rest = bytesU hf by rw [doneU, Hf3.out])
      clear hpl
      generalize bytesU hf = b at *
      go_wp2_with (first
        | ((with_reducible show wpList _ _ _ (⟨some 23, _, _, _, _, _⟩ :: _) _ _); refine wpList_load_row rfl 36 (.tmp 3) rfl (w.heap.size + 1 + 1) rfl 36 (b.map bv).toArray (0, 0) _ hK Tryd.underlying36 rfl Hf.out ?_)
        | ((with_reducible show wpList _ _ _ (⟨none, Op.store 36 _ _, _, _, _, _⟩ :: _) _ _); refine wpList_store_row rfl 36 (.tmp 2) (.tmp 23) rfl (w.heap.size + 1) (b.map bv).toArray rfl rfl 36 _ hR Hf.out Hz.out (one_bvA _) ?_))
      exact bodyPost_ret (results_cell_row rfl _ _ (w.heap.size + 1) 36 _ (0, 0) _ rfl (hR.row b) Tryd.underlying36 rfl Hf.out) rfl ⟨by rw [Hd.out], below_setRow hb (by omega) _⟩

end Go.Proofs.YtlidhdljgnijaaaDoor

/-
  CONTRACTS of the program's Sum, Write, Done (package sha).
-/
set_option linter.unusedVariables false
namespace Go.Proofs.YtlidhdljgnijaaaDoor
open Go.RowKit

/-- the blocks of a beginning -/
theorem blocksTo_app (h : List UInt32) (a b : List UInt8) : ∀ q, 64 * q ≤ a.length → blocksTo h (a ++ b) q = blocksTo h a q
  | 0, _ => rfl
  | q + 1, hq => by
    have ih := blocksTo_app h a b q (by omega)
    have e : chunk (a ++ b) q = chunk a q := by
      unfold chunk
      rw [List.drop_append_of_le_length (by omega), List.take_append_of_le_length (by simp; omega)]
    rw [blocksTo, blocksTo, ih, e]
theorem blocksTo_add (h : List UInt32) (l : List UInt8) (q : Nat) : ∀ r, blocksTo h l (q + r) = blocksTo (blocksTo h l q) (l.drop (64 * q)) r
  | 0 => rfl
  | r + 1 => by
    have ih := blocksTo_add h l q r
    have e : chunk (l.drop (64 * q)) r = chunk l (q + r) := by
      unfold chunk
      rw [List.drop_drop, show 64 * q + 64 * r = 64 * (q + r) by omega]
    rw [show q + (r + 1) = (q + r) + 1 from rfl, blocksTo, blocksTo, ih, e]

/-- what is written on, and done, is all, done -/
theorem doneU_all (h : List UInt32) (l : List UInt8) (n : Nat) : doneU (blocksTo h l (l.length / 64)) n (l.drop (64 * (l.length / 64))) = bytesU (blocksTo h (l ++ tailU n) ((l ++ tailU n).length / 64)) := by
  unfold doneU
  have hq : 64 * (l.length / 64) ≤ l.length := by omega
  have e1 : (l ++ tailU n).length / 64 = l.length / 64 + ((l.drop (64 * (l.length / 64)) ++ tailU n).length / 64) := by
    simp only [List.length_append, List.length_drop]
    omega
  rw [e1, blocksTo_add, blocksTo_app h l _ _ hq, List.drop_append_of_le_length hq]

theorem sum_done (l : List UInt8) : doneU (blocksTo firstU l (l.length / 64)) l.length (l.drop (64 * (l.length / 64))) = sumU l := by
  rw [doneU_all, sumU, padU_tail]

set_option maxRecDepth 1000000 in
set_option maxHeartbeats 400000 in
theorem pSum_any (At : Option Addr) (m ct : Nat) (vs : List Value) (ts : List (List UInt8)) (w : World) (hm : m ≤ 5864062014805) (htot : ts.flatten.length ≤ 1099511627776)
    (hv : Rd w w.heap.size At m vs) (ht : Txs w w.heap.size vs ts) (hT : CTab w) :
    Calls Tryd.prog 31 #[.slice At m ct] w fun e w' => e = .returned (.agg ((sumU ts.flatten).map bv).toArray) ∧ Below w.heap.size w w' := by
  have Htot := Lib.hid htot
  clear htot
  go_enter Tryd.func31, Tryd.ntmps31
  go_wp2_with fail
  refine (New_any _).mono ?_
  rintro e w2 ⟨rfl, hb2⟩
  have hb02 : Below w.heap.size w w2 := ((Below.refl _ _).alloc (Nat.le_refl _) _).trans (hb2.mono (al0 _ _))
  have hR2 : ArrB w2 w.heap.size 36 (List.replicate 32 0) := by
    refine (ArrB.mk_ w _ _ (List.replicate 32 0) rfl ?_).below hb2 (by simp)
    rfl
  go_wp2_with fail
  refine (taken_any firstU 0 none 0 0 [] At m ct vs ts _ rfl (by omega) (Rd.zero _ _ _) hm Htot.out (by omega) ((hv.below hb02).more hb02.size) ((ht.below hb02).more hb02.size) (hT.below hb02)).mono ?_
  rintro e w3 ⟨A3, k3, c3, rfl, hown3, hb3⟩
  rw [List.nil_append, Nat.zero_add] at *
  have hk3 : k3 < 64 := by have := hown3.1; rw [List.length_map, List.length_drop] at this; omega
  have hb03 : Below w.heap.size w w3 := hb02.trans (hb3.mono hb02.size)
  have hl3 := blocksTo_len (h := firstU) rfl ts.flatten (ts.flatten.length / 64)
  have Hs := Lib.hid (sum_done ts.flatten)
  have hR3 := hR2.below hb3 hR2.lt
  have hC3 := hT.below hb03
  generalize hg1 : blocksTo firstU ts.flatten (ts.flatten.length / 64) = hf at *
  generalize hg2 : ts.flatten.drop (64 * (ts.flatten.length / 64)) = rf at *
  generalize hg3 : ts.flatten.length = nf at *
  clear hg1 hg2 hg3
  have Hl3 := Lib.hid hl3
  clear hl3
  go_wp2_with fail
  refine (closed_any hf nf A3 k3 c3 rf _ Hl3.out hk3 (Rd.of_own hown3) Htot.out hC3).mono ?_
  rintro e w4 ⟨rfl, hb4⟩
  rw [Hs.out]
  have hls : (sumU ts.flatten).length = 32 := by rw [sumU, bytesU_len, blocksTo_len rfl]
  have Hf := Lib.hid (show (Tryd.prog.info? 36).map (·.size) = some (((sumU ts.flatten).map bv).toArray).size by rw [info32]; simp [hls])
  have Hz := Lib.hid (show ((List.replicate 32 (0 : UInt8)).map bv).toArray.size = (((sumU ts.flatten).map bv).toArray).size by simp [hls])
  clear hls
  generalize hgb : sumU ts.flatten = b at *
  have Hgb := Lib.hid hgb
  clear hgb
  have hR4 := hR3.below hb4 hR3.lt
  go_wp2_with ((with_reducible show wpList _ _ _ (⟨none, Op.store 36 _ _, _, _, _, _⟩ :: _) _ _); refine wpList_store_row rfl 36 (.tmp 2) (.tmp 6) rfl w.heap.size (b.map bv).toArray rfl rfl 36 _ hR4 Hf.out Hz.out (one_bvA _) ?_)
  exact bodyPost_ret (results_cell_row rfl _ _ w.heap.size 36 _ (0, 0) _ rfl (hR4.row b) Tryd.underlying36 rfl Hf.out) rfl ⟨by rw [Hgb.out], below_setRow (hb03.trans (hb4.mono hb03.size)) (Nat.le_refl _) _⟩

end Go.Proofs.YtlidhdljgnijaaaDoor

/-
  CONTRACTS of the program's Done (package sha).
-/
set_option linter.unusedVariables false
namespace Go.Proofs.YtlidhdljgnijaaaDoor
open Go.RowKit

end Go.Proofs.YtlidhdljgnijaaaDoor

