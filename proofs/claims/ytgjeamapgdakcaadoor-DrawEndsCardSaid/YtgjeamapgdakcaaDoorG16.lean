import Derived.Test.YtgjeamapgdakcaaDoorG14
import Derived.Test.YtgjeamapgdakcaaDoorG15
import Derived.Deep.RegionHeld3
/-
  CONTRACTS of New, Check (package sha): the program's.
-/
set_option linter.unusedVariables false
namespace Go.Proofs.YtgjeamapgdakcaaDoor
open Go.RowKit

theorem hfirst : firstU.length = 8 := rfl
theorem newCells : (shaL firstU 0 (.slice none 0 0)).length = 10 := rfl

set_option maxRecDepth 1000000 in
theorem New_any (w : World) :
    Calls Tryd.prog 31 #[] w fun e w' => e = .returned (.agg (shaL firstU 0 (.slice none 0 0)).toArray) ∧ Below w.heap.size w w' := by
  go_enter Tryd.func31, Tryd.ntmps31
  go_wp2_with ((with_reducible show wpList _ _ _ (⟨none, _, _, _, _, _⟩ :: _) _ _)
               refine wpList_store_row rfl 59 (.tmp 0) (.tmp 2) rfl w.heap.size (shaL firstU 0 (.slice none 0 0)).toArray rfl rfl 59 _ (heap_alloc_new _ _) infoSha rfl (one_sha _ _ _ _ _) ?_
               rw [World.setRow_alloc_new])
  exact bodyPost_ret (results_cell_row rfl _ _ w.heap.size 59 _ (0, 0) _ rfl (heap_alloc_new _ _) Tryd.underlying59 rfl infoSha) rfl ⟨rfl, (Below.refl _ _).alloc (Nat.le_refl _) _⟩

def chkU (h : List UInt32) (n k : Nat) : Bool := decide (n ≤ 1099511627776) && (k == n % 64) && (decide (64 ≤ n) || h == firstU)
def errC (b : Bool) : Int := if b then 0 else 1

theorem chk1 {h : List UInt32} {n k : Nat} (h1 : 1099511627776 < n) : chkU h n k = false := by simp [chkU]; omega
theorem chk2 {h : List UInt32} {n k : Nat} (h1 : ¬ k = n % 64) : chkU h n k = false := by simp [chkU, h1]
theorem chk3 {h : List UInt32} {n k : Nat} (h0 : n ≤ 1099511627776) (h1 : k = n % 64) (h2 : 64 ≤ n) : chkU h n k = true := by simp [chkU, h0, h1, h2]
theorem chk4 {h : List UInt32} {n k : Nat} (h0 : n ≤ 1099511627776) (h1 : k = n % 64) (h2 : n < 64) : chkU h n k = (h == firstU) := by simp [chkU, h0, h1]; omega

end Go.Proofs.YtgjeamapgdakcaaDoor

/-
  CONTRACTS of Same (package sha, and the document's), haveRoom, closed, Sum.
-/
set_option linter.unusedVariables false
namespace Go.Proofs.YtgjeamapgdakcaaDoor
open Go.RowKit

def sameSha (h : List UInt32) (n : Nat) (l : List UInt8) (h' : List UInt32) (n' : Nat) (l' : List UInt8) : Bool := (h == h') && (n == n') && sameB l l'

def roomB (n m : Nat) : Bool := decide (n + m ≤ 1099511627776)

end Go.Proofs.YtgjeamapgdakcaaDoor

/-
  CONTRACTS of the program's closed and Sum (package sha).
-/
set_option linter.unusedVariables false
namespace Go.Proofs.YtgjeamapgdakcaaDoor
open Go.RowKit

/-- the words behind all blocks and the padding -/
def doneU (h : List UInt32) (n : Nat) (rest : List UInt8) : List UInt8 := bytesU (blocksTo h (rest ++ tailU n) ((rest ++ tailU n).length / 64))

theorem outAt_splice {b cs : List UInt8} {p : Nat} (hb : b.length = 32) (h1 : p + cs.length ≤ 32) (h2 : (b.drop p).take cs.length = cs) : outAt b (p + cs.length) = splice (outAt b p) p cs := by
  have hp : (b.take p).length = p := by simp; omega
  have h := splice_in (b.take p) (List.replicate (32 - p) (0 : UInt8)) cs (by simp; omega)
  rw [hp] at h
  unfold outAt
  rw [h, List.take_add, h2, List.drop_replicate]
  congr 2
  omega
theorem bytesU_take {h : List UInt32} {j : Nat} {x : UInt32} (hx : h[j]? = some x) : ((bytesU h).drop (4 * j)).take (be 4 x.toNat).length = be 4 x.toNat := by
  apply List.ext_getElem?
  intro n
  rw [be_length, List.getElem?_take]
  split
  · rename_i hn
    rw [List.getElem?_drop, bytesU_at h j n x hx hn]
  · rename_i hn
    rw [List.getElem?_eq_none (by rw [be_length]; omega)]

theorem size_alloc1 (w : World) (o : Obj) : (w.alloc o).heap.size = w.heap.size + 1 := by simp

theorem size_alloc2 (w : World) (o o' : Obj) : ((w.alloc o).alloc o').heap.size = w.heap.size + 1 + 1 := by simp
set_option maxRecDepth 1000000 in
theorem sha_struct : ∃ f0 f1 f2, Tryd.prog.underlying 59 = some (.struct #[f0, f1, f2]) ∧ f0.type = 57 ∧ f0.offset = 0 := ⟨_, _, _, rfl, rfl, rfl⟩
theorem field_H (w : World) (h : List UInt32) (n : Nat) (v : Value) (hh : h.length = 8) :
    (Instr.field 59 (.agg (shaL h n v).toArray) 0).run Tryd.prog w = .ok (.agg (h.map wv).toArray) w := by
  obtain ⟨f0, f1, f2, hu, ht, ho⟩ := sha_struct
  have hs := info8
  cases hq : Tryd.prog.info? 57 with
  | none => simp [hq] at hs
  | some i =>
    have hi : i.size = 8 := by simpa [hq] using hs
    simp [Instr.field, run_underlying hu, asAgg, part, isAgg, ht, ho, run_underlying Tryd.underlying57, sizeOf, typeInfo, hq, hi]
    rw [shaL, List.take_append_of_le_length (by simp [hh])]
    exact List.take_of_length_le (by simp [hh])

/-- taken, of one part -/
theorem taken_one (h : List UInt32) (n : Nat) (A : Option Addr) (k c : Nat) (rest : List UInt8) (At : Option Addr) (b m c' ct : Nat) (t : List UInt8) (w : World)
    (hh : h.length = 8) (hk : k < 64) (hr : Rd w w.heap.size A k (rest.map bv)) (hn : n ≤ 4398046511104) (hb : b < w.heap.size) (hc : w.cell? ⟨b, 0, none⟩ = some (.slice At m c')) (ht : Rd w w.heap.size At m (t.map bv)) (hmc : m ≤ c') (hm : m ≤ 1099511627776) (hT : CTab w) :
    Calls Tryd.prog 30 #[.agg (shaL h n (.slice A k c)).toArray, .slice (some ⟨b, 0, none⟩) 1 ct] w fun e w' =>
      ∃ hf nf A' k' c', e = .returned (.agg (shaL hf nf (.slice A' k' c')).toArray) ∧ hf.length = 8 ∧ Hid (hf = blocksTo h (rest ++ t) ((rest ++ t).length / 64)) ∧ Below w.heap.size w w' := by
  have htl : t.length = m := by have := ht.len; simpa using this
  refine (taken_any h n A k c rest (some ⟨b, 0, none⟩) 1 ct [.slice At m c'] [t] w hh hk hr (by omega) (by simp; omega) hn ⟨rfl, fun _ => ⟨b, 0, rfl, hb, fun j u hu => ?_⟩⟩ ?_ hT).mono ?_
  · rcases j with _ | j
    · simpa using hu ▸ hc
    · simp at hu
  · rw [← htl] at ht hmc ⊢
    exact Txs.one ht hmc
  · rintro e w' ⟨A', k', c1, rfl, hown, hb⟩
    have e1 : [t].flatten = t := by simp
    rw [e1] at *
    exact ⟨_, _, A', k', c1, rfl, blocksTo_len hh _ _, show _ = _ from rfl, hb⟩

theorem feed1 {w1 w2 : World} {B : Nat} {A : Option Addr} {k : Nat} {xs : List Value} (h : Rd w1 B A k xs) (hb : Below w1.heap.size w1 w2) (hB : B ≤ w1.heap.size) (o : Obj) : Rd (w2.alloc o) (w2.alloc o).heap.size A k xs :=
  ((h.below (hb.mono hB)).alloc (Nat.le_trans hB hb.size) o).more (Nat.le_trans (Nat.le_trans hB hb.size) (al0 _ _))
theorem feed2 (w : World) (o : Obj) : w.heap.size < (w.alloc o).heap.size := by simp
theorem feed3 (w : World) (v : Value) (t : TypeId) : (w.alloc (.cells #[v] t)).cell? ⟨w.heap.size, 0, none⟩ = some v := by
  rw [cell_of_row _ _ 0 _ _ (0, 0) (heap_alloc_new _ _)]; rfl
theorem feed4 {w : World} {base : Nat} {e : TypeId} {A : Option Addr} {n c : Nat} {xs : List Value} (h : w.ownsRow base e 1 (.slice A n c) n xs) (o : Obj) : Rd (w.alloc o) (w.alloc o).heap.size A n xs :=
  ((Rd.of_own h).alloc (Nat.le_refl _) o).more (al0 _ _)
theorem own_le {w : World} {base : Nat} {e : TypeId} {A : Option Addr} {n c : Nat} {xs : List Value} (h : w.ownsRow base e 1 (.slice A n c) n xs) : n ≤ c := by
  rcases h.2 with ⟨_, rfl⟩ | ⟨g, cap, cur, hv, _, _, h3, _⟩
  · omega
  · injection hv; omega
theorem own_few {w : World} {base : Nat} {e : TypeId} {v : Value} {n m : Nat} {l : List UInt8} (h : w.ownsRow base e 1 v n (l.map bv)) (hl : l.length ≤ m) : n ≤ m := by
  have := h.1
  simp at this
  omega
theorem CTab.drew {w : World} (h : CTab w) : CTab w.drew := fun i x hx => h i x hx
theorem feed5 {w1 w2 : World} (h : CTab w1) (hb : Below w1.heap.size w1 w2) (o : Obj) : CTab (w2.alloc o) := (h.below hb).below ((Below.refl _ _).alloc (Nat.le_refl _) _)

/-- the same, its sum written out -/
theorem taken_eight (a0 a1 a2 a3 a4 a5 a6 a7 : UInt32) (n : Nat) (A : Option Addr) (k c : Nat) (rest : List UInt8) (At : Option Addr) (b m c' ct : Nat) (t : List UInt8) (w : World)
    (hk : k < 64) (hr : Rd w w.heap.size A k (rest.map bv)) (hn : n ≤ 4398046511104) (hb : b < w.heap.size) (hc : w.cell? ⟨b, 0, none⟩ = some (.slice At m c')) (ht : Rd w w.heap.size At m (t.map bv)) (hmc : m ≤ c') (hm : m ≤ 1099511627776) (hT : CTab w) :
    Calls Tryd.prog 30 #[.agg #[.int .u32 (a0.toNat : Int), .int .u32 (a1.toNat : Int), .int .u32 (a2.toNat : Int), .int .u32 (a3.toNat : Int), .int .u32 (a4.toNat : Int), .int .u32 (a5.toNat : Int), .int .u32 (a6.toNat : Int), .int .u32 (a7.toNat : Int), .int .u64 (n : Int), .slice A k c], .slice (some ⟨b, 0, none⟩) 1 ct] w fun e w' =>
      ∃ hf nf A' k' c', e = .returned (.agg (shaL hf nf (.slice A' k' c')).toArray) ∧ hf.length = 8 ∧ Hid (hf = blocksTo [a0, a1, a2, a3, a4, a5, a6, a7] (rest ++ t) ((rest ++ t).length / 64)) ∧ Below w.heap.size w w' :=
  taken_one [a0, a1, a2, a3, a4, a5, a6, a7] n A k c rest At b m c' ct t w rfl hk hr hn hb hc ht hmc hm hT

set_option maxRecDepth 1000000 in
set_option maxHeartbeats 1000000 in
theorem closed_any (h : List UInt32) (n : Nat) (A : Option Addr) (k c : Nat) (rest : List UInt8) (w : World)
    (hh : h.length = 8) (hk : k < 64) (hr : Rd w w.heap.size A k (rest.map bv)) (hn : n ≤ 1099511627776) (hT : CTab w) :
    Calls Tryd.prog 29 #[.agg (shaL h n (.slice A k c)).toArray] w fun e w' => e = .returned (.agg ((doneU h n rest).map bv).toArray) ∧ Below w.heap.size w w' := by
  obtain ⟨a0, a1, a2, a3, a4, a5, a6, a7, rfl⟩ := eight hh
  go_enter Tryd.func29, Tryd.ntmps29
  go_wp2_with fail
  refine wp_gen (fun w1 => ShaAt w1 w.heap.size [a0, a1, a2, a3, a4, a5, a6, a7] n (.slice A k c) ∧ ArrB w1 (w.heap.size + 1) 24 (List.replicate 32 0) ∧ ArrB w1 (w.heap.size + 1 + 1) 24 (List.replicate 32 0) ∧ Below w.heap.size w w1) ?_ ?_
  · refine ⟨ShaAt.alloc (ShaAt.alloc ⟨rfl, heap_alloc_new _ _⟩ _) _, ArrB.alloc (ArrB.mk_ _ _ _ (List.replicate 32 0) (size_alloc1 _ _) ?_) _, ArrB.mk_ _ _ _ (List.replicate 32 0) (size_alloc2 _ _ _) ?_, (((Below.refl _ _).alloc (Nat.le_refl _) _).alloc (al0 _ _) _).alloc (Nat.le_trans (al0 _ _) (al0 _ _)) _⟩
    · rfl
    · rfl
  rintro w1 ⟨hS1, hR1, hK1, hb1⟩
  have cN := hS1.cellN
  have cV := hS1.cellV
  have m0 := hS1.word (i := 0) (x := a0) rfl
  have m1 := hS1.word (i := 1) (x := a1) rfl
  have m2 := hS1.word (i := 2) (x := a2) rfl
  have m3 := hS1.word (i := 3) (x := a3) rfl
  have m4 := hS1.word (i := 4) (x := a4) rfl
  have m5 := hS1.word (i := 5) (x := a5) rfl
  have m6 := hS1.word (i := 6) (x := a6) rfl
  have m7 := hS1.word (i := 7) (x := a7) rfl
  have hlt := hK1.lt
  have hrd := hr.below hb1
  have hfd := field_H
  have hCT := hT.below hb1
  have HT := Lib.hid (tailU_len n)
  have hz := zeros_le n
  clear hh
  go_region_held3 (fun w' => w'.cell? ⟨w.heap.size, 8, none⟩ = some (.int .u64 (n : Int)) ∧ w'.cell? ⟨w.heap.size, 0, none⟩ = some (.int .u32 (a0.toNat : Int)) ∧ w'.cell? ⟨w.heap.size, 1, none⟩ = some (.int .u32 (a1.toNat : Int)) ∧ w'.cell? ⟨w.heap.size, 2, none⟩ = some (.int .u32 (a2.toNat : Int)) ∧ w'.cell? ⟨w.heap.size, 3, none⟩ = some (.int .u32 (a3.toNat : Int)) ∧ w'.cell? ⟨w.heap.size, 4, none⟩ = some (.int .u32 (a4.toNat : Int)) ∧ w'.cell? ⟨w.heap.size, 5, none⟩ = some (.int .u32 (a5.toNat : Int)) ∧ w'.cell? ⟨w.heap.size, 6, none⟩ = some (.int .u32 (a6.toNat : Int)) ∧ w'.cell? ⟨w.heap.size, 7, none⟩ = some (.int .u32 (a7.toNat : Int)) ∧ w'.cell? ⟨w.heap.size, 9, none⟩ = some (.slice A k c))
    (first | go_keep | (go_split_ands; refine ⟨?_, ?_, ?_, ?_, ?_, ?_, ?_, ?_, ?_, ?_⟩ <;> (rw [hb2.cell (by simp; omega)]; assumption)) | (go_split_ands; refine ⟨?_, ?_, ?_, ?_, ?_, ?_, ?_, ?_, ?_, ?_⟩ <;> (rw [hb3.cell (by simp; omega)]; assumption)))
    (first
      | (go_at_call 43; refine (padding_any n _ hn).mono ?_; rintro e w2 ⟨A2, m2, c2, rfl, hown2, hb2⟩; have hs2 : w.heap.size + 3 ≤ w2.heap.size := Nat.le_trans (show w.heap.size + 3 ≤ w1.heap.size from hlt) hb2.size)
      | (go_at_call 30; refine (taken_eight a0 a1 a2 a3 a4 a5 a6 a7 n A k c rest A2 _ m2 c2 _ (tailU n) _ hk (feed1 (hrd.drew (B := w.heap.size)) hb2 (by simp; omega) _) (by omega) (feed2 _ _) (feed3 _ _ _) (feed4 hown2 _) (own_le hown2) (own_few hown2 (by rw [HT.out]; omega)) (feed5 hCT.drew hb2 _)).mono ?_; rintro e w3 ⟨hf, nf, A3, k3, c3, rfl, hl3, Hf3, hb3⟩))
  have hs3 : w.heap.size + 3 ≤ w3.heap.size := Nat.le_trans hs2 (Nat.le_trans (al0 _ _) hb3.size)
  have hb12 : Below w.heap.size w w2 := hb1.trans ((⟨rfl, rfl, rfl, Nat.le_refl _, fun _ _ => rfl⟩ : Below w.heap.size w1 w1.drew).trans (hb2.mono (Nat.le_trans (by omega) hlt)))
  have hb13 : Below w.heap.size w w3 := (hb12.alloc (by omega) _).trans (hb3.mono (Nat.le_trans (by omega) (al0 _ _)))
  have hR3 : ArrB w3 (w.heap.size + 1) 24 (List.replicate 32 0) := ((hR1.drew.below hb2 (Nat.lt_of_lt_of_le (by omega) hlt)).alloc _).below hb3 (Nat.lt_of_lt_of_le (by omega) (al0 _ _))
  have hK3 : ArrB w3 (w.heap.size + 1 + 1) 24 (List.replicate 32 0) := ((hK1.drew.below hb2 hlt).alloc _).below hb3 (Nat.lt_of_lt_of_le (by omega) (al0 _ _))
  have Hl3 := Lib.hid hl3
  have Hbl := Lib.hid (show (bytesU hf).length = 32 by rw [bytesU_len, hl3])
  clear hl3 hR1 hK1 hb1 hb2 hb3 hb12 hS1 cN cV m3 m4 m5 m6 m7 hfd hCT hrd hlt hown2 hs2
  have hpl := word_plain
  obtain ⟨iw, hiw⟩ := word_info
  go_wp2_with fail
  go_loopw [13] (fun i wr => ∃ j : Nat, j ≤ 8 ∧ i = .int .i64 (j : Int) ∧ ArrB wr (w.heap.size + 1 + 1) 24 (outAt (bytesU hf) (4 * j)) ∧ ArrB wr (w.heap.size + 1) 24 (List.replicate 32 0) ∧ Below w.heap.size w wr) (fun i _ => (8 - intOf i).toNat)
  case atStart => exact ⟨0, by omega, rfl, by rw [show 4 * 0 = 0 from rfl, outAt_zero]; exact hK3, hR3, hb13⟩
  case round =>
    obtain ⟨j, hj, rfl, hK, hR, hb⟩ := hrel
    by_cases hlt : j < 8
    · obtain ⟨x, hx⟩ : ∃ x, hf[j]? = some x := ⟨_, List.getElem?_eq_getElem (by rw [Hl3.out]; omega)⟩
      have Hspl := Lib.hid (outAt_splice (b := bytesU hf) (p := 4 * j) (cs := be 4 x.toNat) Hbl.out (by rw [be_length]; omega) (bytesU_take hx))
      have hxv : (hf.map wv).toArray[j]? = some (.int .u32 (x.toNat : Int)) := by simp [hx, wv]
      have i0 : 0 ≤ (j : Int) * 4 := by omega
      have i1 : (j : Int) * 4 ≤ 32 := by omega
      have i2 : ((j : Int) * 4).toNat = 4 * j := by omega
      have i3 : ¬ 32 = 4 * j := by omega
      have Hxv := Lib.hid hxv
      clear hx hxv
      go_wp2_with (first
        | ((with_reducible show wpList _ _ _ (⟨some 16, _, _, _, _, _⟩ :: _) _ _); refine wpList_index_cell rfl (some 16) rfl 57 (.tmp 12) (.tmp 13) rfl (hf.map wv).toArray rfl j rfl 8 56 Tryd.underlying57 hpl iw hiw word_cells _ Hxv.out hlt ?_)
        | (go_at_call 44; refine (putWord_any (w.heap.size + 1 + 1) (4 * j) _ _ ((outAt (bytesU hf) (4 * j)).map bv) 24 x _ (by omega) (by rw [List.length_map, outAt_len Hbl.out (by omega)]; omega) hK.at_).mono ?_; rintro e w4 ⟨rfl, o4, rfl⟩))
      refine ⟨⟨j + 1, by omega, by go_num, ?_, ?_, ?_⟩, by simp [intOf]; omega⟩
      · rw [splice_bytes, show 4 * (j + 1) = 4 * j + (be 4 x.toNat).length by rw [be_length]; omega, Hspl.out]
        exact (hK.alloc o4).row _
      · exact (hR.alloc o4).rowFar (by omega) _
      · exact below_setRow (hb.alloc hb.size _) (by omega) _
    · obtain rfl : j = 8 := by omega
      rw [show ((8 : Nat) : Int) = 8 from rfl]
      rw [show 4 * 8 = 32 from rfl, outAt_all Hbl.out] at hK
      have Hf := Lib.hid (show (Tryd.prog.info? 24).map (·.size) = some (((bytesU hf).map bv).toArray).size by rw [info32]; simp [Hbl.out])
      have Hz := Lib.hid (show ((List.replicate 32 (0 : UInt8)).map bv).toArray.size = (((bytesU hf).map bv).toArray).size by simp [Hbl.out])
      have Hd := Lib.hid (show doneU [a0, a1, a2, a3, a4, a5, a6, a7] n rest = bytesU hf by rw [doneU, Hf3.out])
      clear hpl
      generalize bytesU hf = b at *
      go_wp2_with (first
        | ((with_reducible show wpList _ _ _ (⟨some 23, _, _, _, _, _⟩ :: _) _ _); refine wpList_load_row rfl 24 (.tmp 3) rfl (w.heap.size + 1 + 1) rfl 24 (b.map bv).toArray (0, 0) _ hK Tryd.underlying24 rfl Hf.out ?_)
        | ((with_reducible show wpList _ _ _ (⟨none, Op.store 24 _ _, _, _, _, _⟩ :: _) _ _); refine wpList_store_row rfl 24 (.tmp 2) (.tmp 23) rfl (w.heap.size + 1) (b.map bv).toArray rfl rfl 24 _ hR Hf.out Hz.out (one_bvA _) ?_))
      exact bodyPost_ret (results_cell_row rfl _ _ (w.heap.size + 1) 24 _ (0, 0) _ rfl (hR.row b) Tryd.underlying24 rfl Hf.out) rfl ⟨by rw [Hd.out], below_setRow hb (by omega) _⟩

end Go.Proofs.YtgjeamapgdakcaaDoor

/-
  CONTRACTS of the program's Sum, Write, Done (package sha).
-/
set_option linter.unusedVariables false
namespace Go.Proofs.YtgjeamapgdakcaaDoor
open Go.RowKit

theorem results_cell_tmp {P : Program} {fn : Func} {p q : Tmp} {ty : TypeId} (h : fn.results = #[.cell p ty, .tmp q]) (tmps : Array Value) (w : World) (g : Nat) (t : TypeId) (cs : Array Value) (fr : Nat × Nat) (d : TypeDesc)
    (hp : tmps.getD p undef = .pointer (some ⟨g, 0, none⟩)) (hg : w.heap[g]? = some (.cells cs t fr))
    (hu : P.underlying ty = some d) (hd : (match d with | .struct _ | .array _ _ => true | _ => false) = true) (hi : (P.info? ty).map (·.size) = some cs.size) :
    (results fn tmps).run P w = .ok (.tuple #[.agg cs, tmps.getD q undef]) w := by
  have hp' : tmps[p]?.getD undef = .pointer (some ⟨g, 0, none⟩) := by simpa using hp
  simp [results, h, hp', asAddr, run_loadVar_row w g t ty cs fr d hg hu hd hi]

def zeroSha : List Value := shaL zero8 0 (.slice none 0 0)
theorem zeroSha_def : zeroSha = shaL zero8 0 (.slice none 0 0) := rfl

theorem chk_true {h : List UInt32} {n k : Nat} (hc : chkU h n k = true) : n ≤ 1099511627776 ∧ k = n % 64 := by
  simp [chkU] at hc
  omega

/-- the blocks of a beginning -/
theorem blocksTo_app (h : List UInt32) (a b : List UInt8) : ∀ q, 64 * q ≤ a.length → blocksTo h (a ++ b) q = blocksTo h a q
  | 0, _ => rfl
  | q + 1, hq => by
    have ih := blocksTo_app h a b q (by omega)
    have e : chunk (a ++ b) q = chunk a q := by
      unfold chunk
      rw [List.drop_append_of_le_length (by omega), List.take_append_of_le_length (by simp; omega)]
    rw [blocksTo, blocksTo, ih, e]
theorem blocksTo_add (h : List UInt32) (l : List UInt8) (q : Nat) : ∀ r, blocksTo h l (q + r) = blocksTo (blocksTo h l q) (l.drop (64 * q)) r
  | 0 => rfl
  | r + 1 => by
    have ih := blocksTo_add h l q r
    have e : chunk (l.drop (64 * q)) r = chunk l (q + r) := by
      unfold chunk
      rw [List.drop_drop, show 64 * q + 64 * r = 64 * (q + r) by omega]
    rw [show q + (r + 1) = (q + r) + 1 from rfl, blocksTo, blocksTo, ih, e]

/-- what is written on, and done, is all, done -/
theorem doneU_all (h : List UInt32) (l : List UInt8) (n : Nat) : doneU (blocksTo h l (l.length / 64)) n (l.drop (64 * (l.length / 64))) = bytesU (blocksTo h (l ++ tailU n) ((l ++ tailU n).length / 64)) := by
  unfold doneU
  have hq : 64 * (l.length / 64) ≤ l.length := by omega
  have e1 : (l ++ tailU n).length / 64 = l.length / 64 + ((l.drop (64 * (l.length / 64)) ++ tailU n).length / 64) := by
    simp only [List.length_append, List.length_drop]
    omega
  rw [e1, blocksTo_add, blocksTo_app h l _ _ hq, List.drop_append_of_le_length hq]

theorem sum_done (l : List UInt8) : doneU (blocksTo firstU l (l.length / 64)) l.length (l.drop (64 * (l.length / 64))) = sumU l := by
  rw [doneU_all, sumU, padU_tail]

theorem key_zero : (Tryd.prog.info? 24).map (·.size) = some ((List.replicate 32 (0 : UInt8)).map bv).toArray.size := by rw [info32]; rfl

set_option maxRecDepth 1000000 in
set_option maxHeartbeats 400000 in
theorem pSum_any (At : Option Addr) (m ct : Nat) (vs : List Value) (ts : List (List UInt8)) (w : World) (hm : m ≤ 5864062014805) (htot : ts.flatten.length ≤ 1099511627776)
    (hv : Rd w w.heap.size At m vs) (ht : Txs w w.heap.size vs ts) (hT : CTab w) :
    Calls Tryd.prog 21 #[.slice At m ct] w fun e w' => e = .returned (.agg ((sumU ts.flatten).map bv).toArray) ∧ Below w.heap.size w w' := by
  have Htot := Lib.hid htot
  clear htot
  go_enter Tryd.func21, Tryd.ntmps21
  go_wp2_with fail
  refine (New_any _).mono ?_
  rintro e w2 ⟨rfl, hb2⟩
  have hb02 : Below w.heap.size w w2 := ((Below.refl _ _).alloc (Nat.le_refl _) _).trans (hb2.mono (al0 _ _))
  have hR2 : ArrB w2 w.heap.size 24 (List.replicate 32 0) := by
    refine (ArrB.mk_ w _ _ (List.replicate 32 0) rfl ?_).below hb2 (by simp)
    rfl
  go_wp2_with fail
  refine (taken_any firstU 0 none 0 0 [] At m ct vs ts _ rfl (by omega) (Rd.zero _ _ _) hm Htot.out (by omega) ((hv.below hb02).more hb02.size) ((ht.below hb02).more hb02.size) (hT.below hb02)).mono ?_
  rintro e w3 ⟨A3, k3, c3, rfl, hown3, hb3⟩
  rw [List.nil_append, Nat.zero_add] at *
  have hk3 : k3 < 64 := by have := hown3.1; rw [List.length_map, List.length_drop] at this; omega
  have hb03 : Below w.heap.size w w3 := hb02.trans (hb3.mono hb02.size)
  have hl3 := blocksTo_len (h := firstU) rfl ts.flatten (ts.flatten.length / 64)
  have Hs := Lib.hid (sum_done ts.flatten)
  have hR3 := hR2.below hb3 hR2.lt
  have hC3 := hT.below hb03
  generalize hg1 : blocksTo firstU ts.flatten (ts.flatten.length / 64) = hf at *
  generalize hg2 : ts.flatten.drop (64 * (ts.flatten.length / 64)) = rf at *
  generalize hg3 : ts.flatten.length = nf at *
  clear hg1 hg2 hg3
  have Hl3 := Lib.hid hl3
  clear hl3
  go_wp2_with fail
  refine (closed_any hf nf A3 k3 c3 rf _ Hl3.out hk3 (Rd.of_own hown3) Htot.out hC3).mono ?_
  rintro e w4 ⟨rfl, hb4⟩
  rw [Hs.out]
  have hls : (sumU ts.flatten).length = 32 := by rw [sumU, bytesU_len, blocksTo_len rfl]
  have Hf := Lib.hid (show (Tryd.prog.info? 24).map (·.size) = some (((sumU ts.flatten).map bv).toArray).size by rw [info32]; simp [hls])
  have Hz := Lib.hid (show ((List.replicate 32 (0 : UInt8)).map bv).toArray.size = (((sumU ts.flatten).map bv).toArray).size by simp [hls])
  clear hls
  generalize hgb : sumU ts.flatten = b at *
  have Hgb := Lib.hid hgb
  clear hgb
  have hR4 := hR3.below hb4 hR3.lt
  go_wp2_with ((with_reducible show wpList _ _ _ (⟨none, Op.store 24 _ _, _, _, _, _⟩ :: _) _ _); refine wpList_store_row rfl 24 (.tmp 2) (.tmp 6) rfl w.heap.size (b.map bv).toArray rfl rfl 24 _ hR4 Hf.out Hz.out (one_bvA _) ?_)
  exact bodyPost_ret (results_cell_row rfl _ _ w.heap.size 24 _ (0, 0) _ rfl (hR4.row b) Tryd.underlying24 rfl Hf.out) rfl ⟨by rw [Hgb.out], below_setRow (hb03.trans (hb4.mono hb03.size)) (Nat.le_refl _) _⟩

theorem errK (b : Bool) : errC b = if b then 0 else 1 := rfl

/-- what Write answers where all is well -/
def WriteOk (h : List UInt32) (n : Nat) (all : List UInt8) (m : Nat) (w : World) (e : Ending) (w' : World) : Prop :=
  ∃ A' k' c', e = .returned (.tuple #[.agg (shaL (blocksTo h all (all.length / 64)) (n + m) (.slice A' k' c')).toArray, .int .i64 0]) ∧
    w'.ownsRow w.heap.size 5 1 (.slice A' k' c') k' ((all.drop (64 * (all.length / 64))).map bv) ∧ Below w.heap.size w w'

end Go.Proofs.YtgjeamapgdakcaaDoor

/-
  CONTRACTS of the program's Done (package sha).
-/
set_option linter.unusedVariables false
namespace Go.Proofs.YtgjeamapgdakcaaDoor
open Go.RowKit

def zeroKey : List UInt8 := List.replicate 32 0
theorem one_key : ((zeroKey.map bv).toArray).all (·.oneCell') = true := one_bvA _

end Go.Proofs.YtgjeamapgdakcaaDoor

