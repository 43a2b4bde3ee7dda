/-
  CONTRACTS of the program's putWord and padding (package sha); a law for copy into a row that is known whole, the world told.
-/
import Derived.Test.YtmkkghlpdnoogaaDoorShaH
import Derived.Test.YtmkkghlpdnoogaaDoorClone
import Derived.Laws.CopyOwn
import Derived.Laws.MakeOwn
set_option linter.unusedVariables false
namespace Go.Proofs.YtmkkghlpdnoogaaDoor
open Go.RowKit

theorem setRow_same (w : World) (g : Nat) (cs : Array Value) (t : TypeId) (fr : Nat × Nat) (hg : w.heap[g]? = some (.cells cs t fr)) : w.setRow g cs = w := by
  unfold World.setRow
  have : w.heap.modify g (fun | .cells _ elem frozen => .cells cs elem frozen | o => o) = w.heap := by
    apply Array.ext_getElem?
    intro i
    rw [Array.getElem?_modify]
    by_cases h : g = i
    · subst h; simp [hg]
    · simp [h]
  exact congrArg (fun h => ({ w with heap := h } : World)) this

/-- copy into a row that is known whole: one law for all sources, the world behind it written out -/
theorem wpList_copy_row {P : Program} {w : World} {ops : Array Oper} {rest : List Oper} {o : Oper} {a : Act} {Q : Exit → Act → World → Prop} (hgd : o.guard = none) (d s : Operand) (dT sT : TypeId)
    (ho : o.op = .call { callee := .builtin .copy, args := #[d, s], argTypes := #[dT, sT] }) (elem : TypeId) (hu : P.underlying dT = some (.slice elem)) (hsz : (P.info? elem).map (·.size) = some 1)
    (dp sp : Option Addr) (dLen dCap sLen sCap : Nat) (hd : a.eval d = .slice dp dLen dCap) (hs : a.eval s = .slice sp sLen sCap)
    (g off : Nat) (cur : List Value) (t : TypeId) (hg : w.heap[g]? = some (.cells cur.toArray t (0, 0))) (cs : List Value) (hn : cs.length = Nat.min sLen dLen)
    (hpos : 0 < cs.length → dp = some ⟨g, off, none⟩ ∧ ∃ ad, sp = some ad ∧ ∀ j v, cs[j]? = some v → w.cell? (ad.add j) = some v)
    (hfit : off + cs.length ≤ cur.length) (h1 : ∀ v ∈ cs, v.oneCell' = true)
    (h : wpList P ops Q rest (a.put o.dst (goInt cs.length)) (w.setRow g (splice cur off cs).toArray)) :
    wpList P ops Q (o :: rest) a w := by
  by_cases h0 : cs.length = 0
  · obtain rfl : cs = [] := List.eq_nil_of_length_eq_zero h0
    refine wpList_copy_nothing hgd d s dT sT ho elem hu hsz dp sp dLen dCap sLen sCap hd hs (by simpa using hn.symm) ?_
    have e : w.setRow g (splice cur off []).toArray = w := by
      have : splice cur off ([] : List Value) = cur := by simp [splice]
      rw [this]
      exact setRow_same w g _ t _ hg
    rw [e] at h
    exact h
  · obtain ⟨rfl, ad, rfl, hsrc⟩ := hpos (by omega)
    refine wpList_copy_own hgd d s dT sT ho elem hu hsz g off dLen dCap ad sLen sCap hd hs cur.toArray t hg cs hn hsrc (by simpa using hfit) h1 ?_
    have e : (cur.toArray.toList.take off ++ (cs ++ cur.toArray.toList.drop (off + cs.length))).toArray = (splice cur off cs).toArray := by simp [splice]
    rw [e]
    exact h

theorem byteSize : (Tryd.prog.info? 5).map (·.size) = some 1 := by kernel_rfl

theorem be4_cells (x : UInt32) : (be 4 x.toNat).map bv = [.int .u8 ((x.toNat : Int) / 16777216), .int .u8 ((x.toNat : Int) / 65536 % 256), .int .u8 ((x.toNat : Int) / 256 % 256), .int .u8 ((x.toNat : Int) % 256)] := by
  have hx := u32_lt x
  have h : be 4 x.toNat = [UInt8.ofNat (x.toNat / 16777216), UInt8.ofNat (x.toNat / 65536), UInt8.ofNat (x.toNat / 256), UInt8.ofNat x.toNat] := by
    simp [be, Nat.div_div_eq_div_mul]
  rw [h]
  simp only [List.map_cons, List.map_nil, bv, UInt8.toNat_ofNat']
  have e1 : ((x.toNat / 16777216 % 2 ^ 8 : Nat) : Int) = (x.toNat : Int) / 16777216 := by omega
  have e2 : ((x.toNat / 65536 % 2 ^ 8 : Nat) : Int) = (x.toNat : Int) / 65536 % 256 := by omega
  have e3 : ((x.toNat / 256 % 2 ^ 8 : Nat) : Int) = (x.toNat : Int) / 256 % 256 := by omega
  have e4 : ((x.toNat % 2 ^ 8 : Nat) : Int) = (x.toNat : Int) % 256 := by omega
  rw [e1, e2, e3, e4]

theorem putWord_any (g off n c : Nat) (cur : List Value) (t : TypeId) (x : UInt32) (w : World) (hn : 4 ≤ n) (hfit : off + 4 ≤ cur.length) (hg : w.heap[g]? = some (.cells cur.toArray t (0, 0))) :
    Calls Tryd.prog 59 #[.slice (some ⟨g, off, none⟩) n c, .int .u32 (x.toNat : Int)] w fun e w' =>
      e = .returned (.tuple #[]) ∧ ∃ o, w' = (w.alloc o).setRow g (splice cur off ((be 4 x.toNat).map bv)).toArray := by
  have hx := u32_lt x
  have hlt : g < w.heap.size := (Array.getElem?_eq_some_iff.1 hg).1
  have hg' : ∀ o, (w.alloc o).heap[g]? = some (.cells cur.toArray t (0, 0)) := fun o => (heap_alloc_old w o hlt).trans hg
  go_enter Tryd.func59, Tryd.ntmps59
  have Hb := Lib.hid (be4_cells x)
  have Hl := Lib.hid (show ((be 4 x.toNat).map bv).length = 4 by simp [be_length])
  generalize (be 4 x.toNat).map bv = cs at *
  have h1 : ∀ v ∈ cs, v.oneCell' = true := by
    rw [Hb.out]; simp [Value.oneCell']
  have H1 := Lib.hid h1
  clear h1
  go_wp2_with ((with_reducible show wpList _ _ _ (⟨some 19, _, _, _, _, _⟩ :: _) _ _); refine wpList_copy_row rfl (.tmp 17) (.tmp 18) _ _ rfl 5 Tryd.underlying25 byteSize _ _ _ _ _ _ rfl rfl g off cur t (hg' _) cs (by rw [Hl.out]; exact (Nat.min_eq_left hn).symm) (fun _ => ⟨rfl, _, rfl, fun j v hj => ?_⟩) (by rw [Hl.out]; exact hfit) H1.out ?_)
  · rw [Addr.add_lit, Nat.zero_add, cell_of_row _ _ j _ _ (0, 0) (heap_alloc_new w _)]
    rw [Hb.out] at hj
    simpa using hj
  · go_end0
    exact ⟨rfl, _, rfl⟩

/-- what a text of n bytes is padded by -/
def tailU (n : Nat) : List UInt8 := [128] ++ List.replicate (zeros n) 0 ++ be 8 (8 * n)
theorem tailU_len (n : Nat) : (tailU n).length = 1 + zeros n + 8 := by simp [tailU, be_length]; omega
theorem padU_tail (l : List UInt8) : padU l = l ++ tailU l.length := by simp [padU, padTo, tailU]

theorem be8_split (x : Nat) : be 8 x = be 4 (x / 4294967296) ++ be 4 x := by
  simp [be, Nat.div_div_eq_div_mul]

theorem make_bytes (m : Nat) (w : World) (k : IntKind) (x : Int) (hx : x = (m : Int)) (hm : m ≤ 1099511627776) :
    ∃ w1, (Instr.makeSlice 25 (.int k x) (.int k x)).run Tryd.prog w = .ok (.slice (some ⟨w.heap.size, 0, none⟩) m m) w1 ∧ ArrB w1 w.heap.size 5 (List.replicate m 0) ∧ Below w.heap.size w w1 := by
  subst hx
  obtain ⟨i0, hi0, hz0, hz1, hz2⟩ := info_parts byteInfo
  have h := run_make (P := Tryd.prog) w 25 5 i0 _ Tryd.underlying25 hi0 hz0 k k (m : Int) (m : Int) (by omega) (Int.le_refl _) (by rw [hz2]; omega) (by omega)
  rw [hz1, Int.toNat_natCast] at h
  refine ⟨_, h, ?_, (Below.refl _ _).alloc (Nat.le_refl _) _⟩
  refine ArrB.mk_ _ _ _ _ rfl ?_
  apply Array.ext_getElem?
  intro i
  by_cases hi : i < m
  · simp [madeCells, Value.cells, hi, bv, Nat.mod_one]
  · simp [madeCells, Value.cells, hi]

theorem ArrB.at_ {w : World} {g : Nat} {t : TypeId} {l : List UInt8} (h : ArrB w g t l) : w.heap[g]? = some (.cells (l.map bv).toArray t (0, 0)) := h

theorem own_arr {w : World} {base g : Nat} {l : List UInt8} {n : Nat} (h : ArrB w g 5 l) (hb : base ≤ g) (hl : l.length = n) (hm : n ≤ maxLen) : w.ownsRow base 5 1 (.slice (some ⟨g, 0, none⟩) n n) n (l.map bv) := by
  subst hl
  exact ⟨by simp, .inr ⟨g, l.length, (l.map bv).toArray, rfl, hb, h, Nat.le_refl _, hm, by simp, by rw [Nat.mul_one]; exact List.take_of_length_le (by simp)⟩⟩

theorem splice_in {α : Type} (L M : List α) (cs : List α) (h : cs.length ≤ M.length) : splice (L ++ M) L.length cs = (L ++ cs) ++ M.drop cs.length := by
  unfold splice
  rw [List.take_left, ← List.drop_drop, List.drop_left, List.append_assoc]

theorem splice_bytes (l : List UInt8) (off : Nat) (cs : List UInt8) : splice (l.map bv) off (cs.map bv) = (splice l off cs).map bv := by
  simp [splice]

theorem padding_any (n : Nat) (w : World) (hn : n ≤ 1099511627776) :
    Calls Tryd.prog 58 #[.int .u64 (n : Int)] w fun e w' =>
      ∃ A m c, e = .returned (.slice A m c) ∧ w'.ownsRow w.heap.size 5 1 (.slice A m c) m ((tailU n).map bv) ∧ Below w.heap.size w w' := by
  have hz := zeros_le n
  have e1 : (64 - ((n : Int) + 1 + 8) % 64) % 64 = ((zeros n : Nat) : Int) := by unfold zeros; omega
  have Ht := Lib.hid (show tailU n = [128] ++ List.replicate (zeros n) 0 ++ be 8 (8 * n) from rfl)
  generalize zeros n = z at *
  obtain ⟨w1, hmk, hA, hB⟩ := make_bytes (z + 9) w .u64 (1 + (z : Int) + 8) (by omega) (by omega)
  have c0 := hA.cell (i := 0) (x := 0) (by simp)
  have f0 := hA.frozen 0
  have d0 : (0 : Int) < ((z + 9 : Nat) : Int) := by omega
  have d1 : 0 ≤ 1 + (z : Int) := by omega
  have d2 : 1 + (z : Int) ≤ ((z + 9 : Nat) : Int) := by omega
  have d3 : (1 + (z : Int)).toNat = 1 + z := by omega
  have d4 : ¬ z + 9 = 1 + z := by omega
  obtain ⟨x1, hx1⟩ : ∃ x1 : UInt32, x1.toNat = 8 * n / 4294967296 := ⟨UInt32.ofNat (8 * n / 4294967296), by rw [UInt32.toNat_ofNat', Nat.mod_eq_of_lt (by omega)]⟩
  obtain ⟨x2, hx2⟩ : ∃ x2 : UInt32, x2.toNat = 8 * n % 4294967296 := ⟨UInt32.ofNat (8 * n), by rw [UInt32.toNat_ofNat']⟩
  have e2 : (n : Int) * 8 / 4294967296 = (x1.toNat : Int) := by omega
  have e3 : (n : Int) * 8 % 4294967296 = (x2.toNat : Int) := by omega
  have Hbe := Lib.hid (show be 8 (8 * n) = be 4 x1.toNat ++ be 4 x2.toNat by
    rw [be8_split, hx1, hx2]
    congr 1
    exact (be_mod 4 (8 * n)).symm)
  have l1 := be_length 4 x1.toNat
  have l2 := be_length 4 x2.toNat
  clear hx1 hx2
  have hA1 : ArrB (w1.setCell ⟨w.heap.size, 0, none⟩ (.int .u8 128)) w.heap.size 5 (([128] ++ List.replicate z 0) ++ List.replicate 8 0) := by
    have h := hA.set_ 0 128
    rw [show (List.replicate (z + 9) (0 : UInt8)).set 0 128 = ([128] ++ List.replicate z 0) ++ List.replicate 8 0 by
      rw [List.append_assoc, List.replicate_append_replicate, show z + 9 = (z + 8) + 1 from rfl, List.replicate_succ]; rfl] at h
    exact h
  have lL : ([128] ++ List.replicate z (0 : UInt8)).length = 1 + z := by simp; omega
  generalize [128] ++ List.replicate z (0 : UInt8) = L at *
  have l3 : (L ++ List.replicate 8 0).length = z + 9 := by simp; omega
  have HlL := Lib.hid lL
  have Hl3 := Lib.hid l3
  have Hl1 := Lib.hid l1
  have Hl2 := Lib.hid l2
  clear lL l3 l1 l2
  go_enter Tryd.func58, Tryd.ntmps58
  go_wp2_with fail
  refine (putWord_any w.heap.size (1 + z) _ _ ((L ++ List.replicate 8 0).map bv) 5 x1 _ (by omega) (by rw [List.length_map, Hl3.out]; omega) hA1.at_).mono ?_
  rintro e w2 ⟨rfl, o2, hw2⟩
  have hA2 : ArrB w2 w.heap.size 5 ((L ++ be 4 x1.toNat) ++ List.replicate 4 0) := by
    have h := (hA1.alloc o2).row (splice (L ++ List.replicate 8 0) (1 + z) (be 4 x1.toNat))
    rw [hw2, splice_bytes]
    rw [show splice (L ++ List.replicate 8 0) (1 + z) (be 4 x1.toNat) = (L ++ be 4 x1.toNat) ++ List.replicate 4 0 by
      rw [← HlL.out, splice_in _ _ _ (by rw [Hl1.out]; simp), Hl1.out]; rfl] at h ⊢
    exact h
  have hB2 : Below w.heap.size w w2 := by
    rw [hw2]
    exact below_setRow ((hB.setCell (by simp) _).alloc (by simp; exact hB.size) _) (Nat.le_refl _) _
  clear hw2
  go_wp2_with fail
  refine (putWord_any w.heap.size (1 + z + 4) _ _ (((L ++ be 4 x1.toNat) ++ List.replicate 4 0).map bv) 5 x2 _ (by omega) (by simp [Hl1.out, HlL.out]) hA2.at_).mono ?_
  rintro e w3 ⟨rfl, o3, hw3⟩
  have hA3 : ArrB w3 w.heap.size 5 (L ++ (be 4 x1.toNat ++ be 4 x2.toNat)) := by
    have h := (hA2.alloc o3).row (splice ((L ++ be 4 x1.toNat) ++ List.replicate 4 0) (1 + z + 4) (be 4 x2.toNat))
    rw [hw3, splice_bytes]
    rw [show splice ((L ++ be 4 x1.toNat) ++ List.replicate 4 0) (1 + z + 4) (be 4 x2.toNat) = L ++ (be 4 x1.toNat ++ be 4 x2.toNat) by
      rw [show 1 + z + 4 = (L ++ be 4 x1.toNat).length by rw [List.length_append, HlL.out, Hl1.out], splice_in _ _ _ (by rw [Hl2.out]; simp), Hl2.out]; simp] at h ⊢
    exact h
  have hB3 : Below w.heap.size w w3 := by
    rw [hw3]
    exact below_setRow (hB2.alloc hB2.size _) (Nat.le_refl _) _
  clear hw3
  go_wp2_with fail
  go_ret
  refine ⟨_, z + 9, z + 9, rfl, ?_, hB3⟩
  rw [Ht.out, Hbe.out]
  exact own_arr hA3 (Nat.le_refl _) (by simp [HlL.out, Hl1.out, Hl2.out]; omega) (by simp [maxLen]; omega)

end Go.Proofs.YtmkkghlpdnoogaaDoor
