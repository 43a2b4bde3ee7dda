/-
  THE WALK of ShaRest (coterielaw02).
-/
import Derived.Test.YtjgacdhoopecgaaDoorShaLong
import Derived.Deep.RegionWith
set_option linter.unusedVariables false
namespace Go.Proofs.YtjgacdhoopecgaaDoor
open Go.RowKit

/-- what is written on is what is written at once -/
theorem write_twice (h : List UInt32) (l m : List UInt8) :
    blocksTo (blocksTo h l (l.length / 64)) (l.drop (64 * (l.length / 64)) ++ m) ((l.drop (64 * (l.length / 64)) ++ m).length / 64) = blocksTo h (l ++ m) ((l ++ m).length / 64) ∧
    (l.drop (64 * (l.length / 64)) ++ m).drop (64 * ((l.drop (64 * (l.length / 64)) ++ m).length / 64)) = (l ++ m).drop (64 * ((l ++ m).length / 64)) := by
  have hq : 64 * (l.length / 64) ≤ l.length := by omega
  have e1 : (l ++ m).length / 64 = l.length / 64 + ((l.drop (64 * (l.length / 64)) ++ m).length / 64) := by
    simp only [List.length_append, List.length_drop]
    omega
  have e2 : (l ++ m).drop (64 * (l.length / 64)) = l.drop (64 * (l.length / 64)) ++ m := List.drop_append_of_le_length hq
  rw [e1, blocksTo_add, blocksTo_app h l _ _ hq, e2, Nat.mul_add, ← List.drop_drop, e2]
  exact ⟨rfl, rfl⟩
theorem write_whole (h : List UInt32) (l : List UInt8) :
    blocksTo h (l.take (64 * (l.length / 64))) ((l.take (64 * (l.length / 64))).length / 64) = blocksTo h l (l.length / 64) ∧ (l.take (64 * (l.length / 64))).length = 64 * (l.length / 64) := by
  have hl : (l.take (64 * (l.length / 64))).length = 64 * (l.length / 64) := by simp; omega
  refine ⟨?_, hl⟩
  rw [hl, Nat.mul_div_cancel_left _ (show 0 < 64 by omega)]
  have h1 := blocksTo_app h (l.take (64 * (l.length / 64))) (l.drop (64 * (l.length / 64))) (l.length / 64) (Nat.le_of_eq hl.symm)
  rw [List.take_append_drop] at h1
  exact h1.symm
theorem new_chk : chkU firstU 0 0 = true := rfl

/-- all whole blocks, written onto nothing -/
theorem Write_whole (A : Option Addr) (N c ct blk : Nat) (l : List UInt8) (hf : List UInt32) (w : World) (hw : blocksTo firstU l (l.length / 64) = hf ∧ l.length = N) (hN : N ≤ 4000) (h64 : N % 64 = 0) (hc : N ≤ c) (h1 : Rd w w.heap.size (some ⟨blk, 0, none⟩) 1 [.slice A N c]) (h2 : Rd w w.heap.size A N (l.map bv)) (hT : CTab w) :
    Calls Tryd.prog 15 #[.agg (shaL firstU 0 (.slice none 0 0)).toArray, .slice (some ⟨blk, 0, none⟩) 1 ct] w fun e w' =>
      ∃ A' c', e = .returned (.tuple #[.agg (shaL hf N (.slice A' 0 c')).toArray, .int .i64 0]) ∧ hf.length = 8 ∧ Below w.heap.size w w' := by
  obtain ⟨hw1, hw2⟩ := hw
  refine (Write_ok firstU 0 none 0 0 [] (some ⟨blk, 0, none⟩) 1 ct [.slice A N c] [l] w rfl (by omega) (Rd.zero _ _ _) (by omega) (fun t ht => by simp at ht; subst ht; omega) h1 (txs_one hw2 hc h2) new_chk hT (decide_eq_true (by simp; omega))).mono ?_
  rintro e w' ⟨A', k', c', rfl, hown, hb⟩
  rw [show [l].flatten = l by simp, List.nil_append] at hown ⊢
  have hk : k' = 0 := by have := hown.1; rw [List.length_map, List.length_drop, hw2] at this; omega
  subst hk
  rw [hw1, hw2, Nat.zero_add]
  exact ⟨A', c', rfl, by rw [← hw1]; exact blocksTo_len rfl _ _, hb⟩

/-- the same, its words written out -/
theorem Write_whole8 (A : Option Addr) (N c ct blk : Nat) (l : List UInt8) (t0 t1 t2 t3 t4 t5 t6 t7 : UInt32) (w : World) (hw : blocksTo firstU l (l.length / 64) = [t0, t1, t2, t3, t4, t5, t6, t7] ∧ l.length = N) (hN : N ≤ 4000) (h64 : N % 64 = 0) (hc : N ≤ c) (h1 : Rd w w.heap.size (some ⟨blk, 0, none⟩) 1 [.slice A N c]) (h2 : Rd w w.heap.size A N (l.map bv)) (hT : CTab w) :
    Calls Tryd.prog 15 #[.agg (shaL firstU 0 (.slice none 0 0)).toArray, .slice (some ⟨blk, 0, none⟩) 1 ct] w fun e w' =>
      ∃ A' c', e = .returned (.tuple #[.agg #[.int .u32 (t0.toNat : Int), .int .u32 (t1.toNat : Int), .int .u32 (t2.toNat : Int), .int .u32 (t3.toNat : Int), .int .u32 (t4.toNat : Int), .int .u32 (t5.toNat : Int), .int .u32 (t6.toNat : Int), .int .u32 (t7.toNat : Int), .int .u64 (N : Int), .slice A' 0 c'], .int .i64 0]) ∧ Below w.heap.size w w' :=
  (Write_whole A N c ct blk l [t0, t1, t2, t3, t4, t5, t6, t7] w hw hN h64 hc h1 h2 hT).mono fun _ _ ⟨A', c', he, _, hb⟩ => ⟨A', c', he, hb⟩
theorem b_rd {a w : World} {A : Option Addr} {n : Nat} {xs : List Value} (h : Rd a a.heap.size A n xs) (hb : Below a.heap.size a w) : Rd w w.heap.size A n xs := (h.below hb).more hb.size

theorem feedB {w1 w2 : World} {B : Nat} {A : Option Addr} {k : Nat} {xs : List Value} (o : Obj) (h : Rd w1 B A k xs) (hb : Below (w1.alloc o).heap.size (w1.alloc o) w2) (hB : B ≤ w1.heap.size) : Rd w2 w2.heap.size A k xs :=
  ((h.alloc hB o).below (hb.mono (Nat.le_trans hB (al0 _ _)))).more (Nat.le_trans (Nat.le_trans hB (al0 _ _)) hb.size)
theorem feedBn {w1 w2 : World} {v : Value} {t : TypeId} (hb : Below (w1.alloc (.cells #[v] t)).heap.size (w1.alloc (.cells #[v] t)) w2) : Rd w2 w2.heap.size (some ⟨w1.heap.size, 0, none⟩) 1 [v] :=
  ((Rd.mk_ w1 t #[v] rfl (by simp) rfl rfl : Rd _ (w1.alloc (.cells #[v] t)).heap.size _ 1 [v]).below hb).more hb.size
theorem feedAn (w : World) (v : Value) (t : TypeId) : Rd (w.alloc (.cells #[v] t)) (w.alloc (.cells #[v] t)).heap.size (some ⟨w.heap.size, 0, none⟩) 1 [v] := Rd.mk_ w t #[v] rfl (by simp) rfl rfl
theorem feedBT {w1 w2 : World} (o : Obj) (h : CTab w1) (hb : Below (w1.alloc o).heap.size (w1.alloc o) w2) : CTab w2 := (h.below ((Below.refl _ _).alloc (Nat.le_refl _) o)).below hb
theorem bcell {W w1 : World} (hb : Below W.heap.size W w1) : (∀ b o, b < W.heap.size → w1.cell? ⟨b, o, none⟩ = W.cell? ⟨b, o, none⟩) ∧ (∀ b o, b < W.heap.size → w1.frozen? ⟨b, o, none⟩ = W.frozen? ⟨b, o, none⟩) :=
  ⟨fun b o h => hb.cell (p := ⟨b, o, none⟩) h, fun b o h => hb.frozen (p := ⟨b, o, none⟩) h⟩
theorem b_refl (w : World) : Below w.heap.size w w := Below.refl _ _
theorem b_alloc {a w : World} (h : Below a.heap.size a w) (o : Obj) : Below a.heap.size a (w.alloc o) := h.alloc h.size o
theorem b_drew {a w : World} (h : Below a.heap.size a w) : Below a.heap.size a w.drew := h.drew
theorem b_drewN {B : Nat} {a w : World} (h : Below B a w) (n : Nat) : Below B a (w.drewN n) := ⟨h.os, h.tape, h.output, h.size, h.block⟩
theorem b_call {a w w' : World} (h : Below a.heap.size a w) (hb : Below w.heap.size w w') : Below a.heap.size a w' := h.trans (hb.mono h.size)
theorem b_set {a w : World} (h : Below a.heap.size a w) {g : Nat} (hg : a.heap.size ≤ g) (i : Nat) (v : Value) : Below a.heap.size a (w.setCell ⟨g, i, none⟩ v) := h.setCell hg v

theorem hdrE {w1 w2 : World} {v : Value} {t : TypeId} {g : Nat} (hb : Below (w1.alloc (.cells #[v] t)).heap.size (w1.alloc (.cells #[v] t)) w2) (hg : w1.heap.size = g) : Rd w2 w2.heap.size (some ⟨g, 0, none⟩) 1 [v] := by
  subst hg
  exact ((feedAn w1 v t).below hb).more hb.size
theorem new_zero {w1 w2 : World} {g : Nat} (hb : Below (w1.alloc (.cells zeroSha.toArray 35)).heap.size (w1.alloc (.cells zeroSha.toArray 35)) w2) (hg : w1.heap.size = g) : w2.heap[g]? = some (.cells zeroSha.toArray 35 (0, 0)) := by
  subst hg
  exact (hb.block _ (by simp)).trans (heap_alloc_new w1 _)
theorem zero_facts {w : World} {g : Nat} (h : w.heap[g]? = some (.cells zeroSha.toArray 35 (0, 0))) :
    w.cell? ⟨g, 0, none⟩ = some (.int .u32 0) ∧ w.cell? ⟨g, 1, none⟩ = some (.int .u32 0) ∧ w.cell? ⟨g, 2, none⟩ = some (.int .u32 0) ∧ w.cell? ⟨g, 3, none⟩ = some (.int .u32 0) ∧ w.cell? ⟨g, 4, none⟩ = some (.int .u32 0) ∧ w.cell? ⟨g, 5, none⟩ = some (.int .u32 0) ∧ w.cell? ⟨g, 6, none⟩ = some (.int .u32 0) ∧ w.cell? ⟨g, 7, none⟩ = some (.int .u32 0) ∧ w.cell? ⟨g, 8, none⟩ = some (.int .u64 0) ∧ w.cell? ⟨g, 9, none⟩ = some (.slice none 0 0) ∧ (∀ i, w.frozen? ⟨g, i, none⟩ = false) := by
  refine ⟨?_, ?_, ?_, ?_, ?_, ?_, ?_, ?_, ?_, ?_, fun i => frozen_of_row w g i _ _ h⟩
  all_goals
    rw [cell_of_row w g _ _ _ (0, 0) h]
    rfl
theorem zero_elim {w1 w2 : World} {g : Nat} {P : Prop} (hg : w1.heap.size = g) (hb : Below (w1.alloc (.cells zeroSha.toArray 35)).heap.size (w1.alloc (.cells zeroSha.toArray 35)) w2) (h : (w2.cell? ⟨g, 0, none⟩ = some (.int .u32 0) ∧ w2.cell? ⟨g, 1, none⟩ = some (.int .u32 0) ∧ w2.cell? ⟨g, 2, none⟩ = some (.int .u32 0) ∧ w2.cell? ⟨g, 3, none⟩ = some (.int .u32 0) ∧ w2.cell? ⟨g, 4, none⟩ = some (.int .u32 0) ∧ w2.cell? ⟨g, 5, none⟩ = some (.int .u32 0) ∧ w2.cell? ⟨g, 6, none⟩ = some (.int .u32 0) ∧ w2.cell? ⟨g, 7, none⟩ = some (.int .u32 0) ∧ w2.cell? ⟨g, 8, none⟩ = some (.int .u64 0) ∧ w2.cell? ⟨g, 9, none⟩ = some (.slice none 0 0) ∧ (∀ i, w2.frozen? ⟨g, i, none⟩ = false)) → P) : P := h (zero_facts (new_zero hb hg))
theorem new_kept {w1 w2 : World} {o : Obj} (hb : Below (w1.alloc o).heap.size (w1.alloc o) w2) : w2.heap[w1.heap.size]? = some o := (hb.block _ (by simp)).trans (heap_alloc_new w1 o)
theorem sha_info {h : List UInt32} (hh : h.length = 8) (n : Nat) (v : Value) : (Tryd.prog.info? 35).map (·.size) = some ((shaL h n v).toArray).size := by rw [infoSha]; simp [shaL_len hh]
theorem sha_zero {h : List UInt32} (hh : h.length = 8) (n : Nat) (v : Value) : (zeroSha.toArray).size = ((shaL h n v).toArray).size := by simp [shaL_len hh]; rfl
theorem underSha : (Tryd.prog.info? 35).map (·.size) = some 10 := infoSha

/-- what the cut around the second write says -/
def RestQ (w w7 w10 : World) (ws : List UInt32) (n mk : Nat) (v7 : Value) (A7 : Option Addr) (k7 : Nat) (x7 : List Value) (A10 : Option Addr) (x10 : List Value) (g : Nat) (v : Value) (wx : World) : Prop :=
  ShaAt wx g ws n v ∧ ShaAt wx w7.heap.size ws mk v7 ∧ Rd wx w10.heap.size A7 k7 x7 ∧ Rd wx w10.heap.size A10 mk x10 ∧ Below w.heap.size w wx
theorem rest_old {w w7 w10 : World} {ws : List UInt32} {n mk : Nat} {v7 v : Value} {A7 A10 : Option Addr} {k7 : Nat} {x7 x10 : List Value} {g : Nat} {W : World} (hb : Below w10.heap.size w10 W) (hS : ShaAt w10 w7.heap.size ws mk v7) (h7 : Rd w10 w10.heap.size A7 k7 x7) (h10 : Rd w10 w10.heap.size A10 mk x10) (hB : Below w.heap.size w w10) (hg : ShaAt W g ws n v) : RestQ w w7 w10 ws n mk v7 A7 k7 x7 A10 x10 g v W :=
  ⟨hg, hS.below hb hS.lt, h7.below hb, h10.below hb, b_call hB hb⟩
theorem rest_new {w w7 w10 w12 : World} {ws : List UInt32} {n mk : Nat} {v7 v : Value} {A7 A10 : Option Addr} {k7 : Nat} {x7 x10 : List Value} (hb : Below w10.heap.size w10 w12) (hS : ShaAt w10 w7.heap.size ws mk v7) (h7 : Rd w10 w10.heap.size A7 k7 x7) (h10 : Rd w10 w10.heap.size A10 mk x10) (hB : Below w.heap.size w w10) (hl : ws.length = 8) : RestQ w w7 w10 ws n mk v7 A7 k7 x7 A10 x10 w12.heap.size v (w12.alloc (.cells (shaL ws n v).toArray 35)) :=
  rest_old (b_alloc hb _) hS h7 h10 hB ⟨hl, heap_alloc_new _ _⟩
theorem rest_set {w w7 w10 w12 : World} {ws : List UInt32} {n mk : Nat} {v7 v : Value} {A7 A10 : Option Addr} {k7 : Nat} {x7 x10 : List Value} {g : Nat} (hz : w12.heap[g]? = some (.cells zeroSha.toArray 35 (0, 0))) (hg : w10.heap.size ≤ g) (hb : Below w10.heap.size w10 w12) (hS : ShaAt w10 w7.heap.size ws mk v7) (h7 : Rd w10 w10.heap.size A7 k7 x7) (h10 : Rd w10 w10.heap.size A10 mk x10) (hB : Below w.heap.size w w10) (hl : ws.length = 8) : RestQ w w7 w10 ws n mk v7 A7 k7 x7 A10 x10 g v (w12.setCells g 0 (shaL ws n v)) := by
  refine rest_old (below_setCells hg _ _ _ hb) hS h7 h10 hB ⟨hl, ?_⟩
  refine (setCells_heap g _ (shaL ws n v) zeroSha 0 w12 hz (by rw [shaL_len hl]; exact Nat.le_refl _)).trans ?_
  have hlen : (shaL ws n v).length = 10 := shaL_len hl _ _
  simp only [splice, List.take_zero, List.nil_append, Nat.zero_add, hlen]
  rw [show zeroSha.drop 10 = [] from rfl, List.append_nil]

theorem rest_new8 {w w7 w10 w12 : World} {t0 t1 t2 t3 t4 t5 t6 t7 : UInt32} {n mk c12 : Nat} {v7 : Value} {A7 A10 A12 : Option Addr} {k7 : Nat} {x7 x10 : List Value} (hb : Below w10.heap.size w10 w12) (hS : ShaAt w10 w7.heap.size [t0, t1, t2, t3, t4, t5, t6, t7] mk v7) (h7 : Rd w10 w10.heap.size A7 k7 x7) (h10 : Rd w10 w10.heap.size A10 mk x10) (hB : Below w.heap.size w w10) : RestQ w w7 w10 [t0, t1, t2, t3, t4, t5, t6, t7] n mk v7 A7 k7 x7 A10 x10 w12.heap.size (.slice A12 0 c12) (w12.alloc (.cells #[.int .u32 (t0.toNat : Int), .int .u32 (t1.toNat : Int), .int .u32 (t2.toNat : Int), .int .u32 (t3.toNat : Int), .int .u32 (t4.toNat : Int), .int .u32 (t5.toNat : Int), .int .u32 (t6.toNat : Int), .int .u32 (t7.toNat : Int), .int .u64 (n : Int), .slice A12 0 c12] 35)) := rest_new (v := .slice A12 0 c12) hb hS h7 h10 hB rfl
theorem rest_set8 {w w7 w10 w12 : World} {t0 t1 t2 t3 t4 t5 t6 t7 : UInt32} {n mk c12 : Nat} {v7 : Value} {A7 A10 A12 : Option Addr} {k7 : Nat} {x7 x10 : List Value} {g : Nat} (hz : w12.heap[g]? = some (.cells zeroSha.toArray 35 (0, 0))) (hg : w10.heap.size ≤ g) (hb : Below w10.heap.size w10 w12) (hS : ShaAt w10 w7.heap.size [t0, t1, t2, t3, t4, t5, t6, t7] mk v7) (h7 : Rd w10 w10.heap.size A7 k7 x7) (h10 : Rd w10 w10.heap.size A10 mk x10) (hB : Below w.heap.size w w10) : RestQ w w7 w10 [t0, t1, t2, t3, t4, t5, t6, t7] n mk v7 A7 k7 x7 A10 x10 g (.slice A12 0 c12) ((((((((((w12.setCell ⟨g, 0, none⟩ (.int .u32 (t0.toNat : Int))).setCell ⟨g, 1, none⟩ (.int .u32 (t1.toNat : Int))).setCell ⟨g, 2, none⟩ (.int .u32 (t2.toNat : Int))).setCell ⟨g, 3, none⟩ (.int .u32 (t3.toNat : Int))).setCell ⟨g, 4, none⟩ (.int .u32 (t4.toNat : Int))).setCell ⟨g, 5, none⟩ (.int .u32 (t5.toNat : Int))).setCell ⟨g, 6, none⟩ (.int .u32 (t6.toNat : Int))).setCell ⟨g, 7, none⟩ (.int .u32 (t7.toNat : Int))).setCell ⟨g, 8, none⟩ (.int .u64 (n : Int))).setCell ⟨g, 9, none⟩ (.slice A12 0 c12)) := rest_set (v := .slice A12 0 c12) hz hg hb hS h7 h10 hB rfl

set_option maxRecDepth 1000000 in
theorem Rest_a (Ab : Option Addr) (m cb : Nat) (b : List UInt8) (Am : Option Addr) (k cm : Nat) (more : List UInt8) (w : World) (hmc : m ≤ cb) (hcb : cb ≤ maxLen) (hb : Rd w w.heap.size Ab m (b.map bv)) (hkc : k ≤ cm) (hcm : cm ≤ maxLen) (hm : Rd w w.heap.size Am k (more.map bv)) (hT : CTab w) (h1 : 2000 < m ∨ 2000 < k) :
    Calls Tryd.prog 7 #[.slice Ab m cb, .slice Am k cm] w fun e w' => e = .returned (.bool true) ∧ Below w.heap.size w w' := by
  by_cases hm2 : 2000 < m
  · have d1 : (2000 : Int) < (m : Int) := by omega
    clear h1
    go_enter Tryd.func7, Tryd.ntmps7
    go_wp2_with fail
    refine (live_any _ hT).mono ?_
    rintro e w2 ⟨rfl, hB2⟩
    go_wp2_with fail
    go_ret
    exact ⟨rfl, hB2⟩
  · have d1 : ¬ (2000 : Int) < (m : Int) := by omega
    have d2 : (2000 : Int) < (k : Int) := by omega
    clear h1
    go_enter Tryd.func7, Tryd.ntmps7
    go_wp2_with fail
    refine (live_any _ hT).mono ?_
    rintro e w2 ⟨rfl, hB2⟩
    go_wp2_with fail
    go_ret
    exact ⟨rfl, hB2⟩

set_option maxRecDepth 1000000 in
set_option maxHeartbeats 2000000 in
theorem Rest_b (Ab : Option Addr) (m cb : Nat) (b : List UInt8) (Am : Option Addr) (k cm : Nat) (more : List UInt8) (w : World) (hmc : m ≤ cb) (hcb : cb ≤ maxLen) (hb : Rd w w.heap.size Ab m (b.map bv)) (hkc : k ≤ cm) (hcm : cm ≤ maxLen) (hm : Rd w w.heap.size Am k (more.map bv)) (hT : CTab w) (h1 : m ≤ 2000) (h2 : k ≤ 2000) :
    Calls Tryd.prog 7 #[.slice Ab m cb, .slice Am k cm] w fun e w' => e = .returned (.bool true) ∧ Below w.heap.size w w' := by
  have d1 : ¬ (2000 : Int) < (m : Int) := by omega
  have d2 : ¬ (2000 : Int) < (k : Int) := by omega
  have hbl : b.length = m := by have := hb.len; simpa using this
  have hml : more.length = k := by have := hm.len; simpa using this
  have Hbl := Lib.hid hbl
  have Hml := Lib.hid hml
  have Hrm1 := Lib.hid (show roomB 0 [b].flatten.length = true by simp only [List.flatten_cons, List.flatten_nil, List.append_nil, hbl]; exact decide_eq_true (by omega))
  have Hrm2 := Lib.hid (show roomB m [more].flatten.length = true by simp only [List.flatten_cons, List.flatten_nil, List.append_nil, hml]; exact decide_eq_true (by omega))
  have Hc1 := Lib.hid (chk_write (rest := []) (t := b) new_chk rfl (by omega))
  have Htw := Lib.hid (write_twice firstU b more)
  clear hbl hml
  go_enter Tryd.func7, Tryd.ntmps7
  go_wp2_with fail
  refine (live_any _ hT).mono ?_
  rintro e w2 ⟨rfl, hB2⟩
  go_wp2_with fail
  refine (New_any _).mono ?_
  rintro e w3 ⟨rfl, hb3⟩
  have hB3 : Below w.heap.size w w3 := hB2.trans (hb3.mono hB2.size)
  clear hb3 hB2
  go_wp2_with fail
  refine calls_gen (fun wx => (Rd wx wx.heap.size (some ⟨w3.heap.size, 0, none⟩) 1 [.slice Ab m cb] ∧ Rd wx wx.heap.size Ab m (b.map bv)) ∧ Below w.heap.size w wx) ⟨⟨Rd.mk_ _ _ _ rfl (by simp) rfl rfl, ((hb.below hB3).alloc hB3.size _).more (Nat.le_trans hB3.size (al0 _ _))⟩, hB3.alloc hB3.size _⟩ ?_
  rintro w4 ⟨⟨hr1, hr2⟩, hB4⟩
  refine (Write_ok firstU 0 none 0 0 [] (some ⟨w3.heap.size, 0, none⟩) 1 1 [.slice Ab m cb] [b] _ rfl (by omega) (Rd.zero _ _ _) (by omega) (fun t ht => by simp at ht; subst ht; rw [Hbl.out]; omega) hr1 (txs_one Hbl.out hmc hr2) new_chk (hT.below hB4) Hrm1.out).mono ?_
  rintro e w5 ⟨A5, k5, c5, rfl, hown5, hb5⟩
  rw [show [b].flatten = b by simp, List.nil_append] at hown5 ⊢
  have hl5 := blocksTo_len (h := firstU) rfl b (b.length / 64)
  have hk5 : k5 = b.length - 64 * (b.length / 64) := by have := hown5.1; rw [List.length_map, List.length_drop] at this; omega
  have Hc5 := Lib.hid (show chkU (blocksTo firstU b (b.length / 64)) m k5 = true by have := Hc1.out; rw [List.nil_append, Nat.zero_add, ← hk5] at this; rw [show m = b.length from Hbl.out.symm]; exact this)
  have hk5' : k5 < 64 := by omega
  clear hk5
  generalize hgs : blocksTo firstU b (b.length / 64) = hs at *
  generalize hgr : b.drop (64 * (b.length / 64)) = rs at *
  clear hgs hgr
  rw [Hbl.out, Nat.zero_add]
  have hB5 : Below w.heap.size w w5 := hB4.trans (hb5.mono hB4.size)
  have I5 := Lib.hid (show (Tryd.prog.info? 35).map (·.size) = some ((shaL hs m (.slice A5 k5 c5)).toArray).size by rw [infoSha]; simp [shaL_len hl5])
  have Z5 := Lib.hid (show (zeroSha.toArray).size = ((shaL hs m (.slice A5 k5 c5)).toArray).size by simp [shaL_len hl5]; rfl)
  have O5 := Lib.hid (one_sha hs m A5 k5 c5)
  have Hl5 := Lib.hid hl5
  clear hr1 hr2 hB4 hb5 hB3 hl5
  go_wp2_with (first
    | ((with_reducible show wpList _ _ _ (⟨none, Op.store 35 _ _, _, _, _, _⟩ :: _) _ _); refine wpList_store_row rfl 35 (.tmp 6) (.tmp 31) rfl (w5.heap.size) (shaL hs m (.slice A5 k5 c5)).toArray rfl rfl 35 (zeroSha).toArray (heap_alloc_new _ _) I5.out Z5.out O5.out ?_; rw [World.setRow_alloc_new])
    | ((with_reducible show wpList _ _ _ (⟨some 34, _, _, _, _, _⟩ :: _) _ _); refine wpList_load_row rfl 35 (.tmp 6) rfl (w5.heap.size) rfl 35 (shaL hs m (.slice A5 k5 c5)).toArray (0, 0) _ (heap_alloc_new _ _) Tryd.underlying35 rfl I5.out ?_))
  refine calls_gen (fun wx => ((Rd wx wx.heap.size (some ⟨w5.heap.size + 1, 0, none⟩) 1 [.slice Am k cm] ∧ Rd wx wx.heap.size Am k (more.map bv)) ∧ Rd wx wx.heap.size A5 k5 (rs.map bv)) ∧ Below w.heap.size w wx) ?_ ?_
  · exact ⟨⟨⟨Rd.mk_ _ _ _ (size_alloc1 _ _) (by simp) rfl rfl, (((hm.below hB5).alloc hB5.size _).alloc (Nat.le_trans hB5.size (al0 _ _)) _).more (Nat.le_trans hB5.size (Nat.le_trans (al0 _ _) (al0 _ _)))⟩, (((Rd.of_own hown5).alloc (Nat.le_refl _) _).alloc (al0 _ _) _).more (Nat.le_trans (al0 _ _) (al0 _ _))⟩, (hB5.alloc hB5.size _).alloc (Nat.le_trans hB5.size (al0 _ _)) _⟩
  clear hown5
  rintro w6 ⟨⟨⟨hr1, hr2⟩, hrs⟩, hB6⟩
  refine (Write_ok hs m A5 k5 c5 rs (some ⟨w5.heap.size + 1, 0, none⟩) 1 1 [.slice Am k cm] [more] _ Hl5.out (by omega) hrs (by omega) (fun t ht => by simp at ht; subst ht; rw [Hml.out]; omega) hr1 (txs_one Hml.out hkc hr2) Hc5.out (hT.below hB6) Hrm2.out).mono ?_
  rintro e w7 ⟨A7, k7, c7, rfl, hown7, hb7⟩
  rw [show [more].flatten = more by simp, Htw.out.2] at hown7
  rw [show [more].flatten = more by simp, Htw.out.1, Hml.out]
  have hal : (b ++ more).length = m + k := by rw [List.length_append, Hbl.out, Hml.out]
  have hl7 := blocksTo_len (h := firstU) rfl (b ++ more) ((b ++ more).length / 64)
  have Hww := Lib.hid (write_whole firstU (b ++ more))
  have hB7 : Below w.heap.size w w7 := hB6.trans (hb7.mono hB6.size)
  generalize hgt : blocksTo firstU (b ++ more) ((b ++ more).length / 64) = ht at *
  have Hgt := Lib.hid hgt
  have I7 := Lib.hid (show (Tryd.prog.info? 35).map (·.size) = some ((shaL ht (m + k) (.slice A7 k7 c7)).toArray).size by rw [infoSha]; simp [shaL_len hl7])
  have Z7 := Lib.hid (show (zeroSha.toArray).size = ((shaL ht (m + k) (.slice A7 k7 c7)).toArray).size by simp [shaL_len hl7]; rfl)
  have O7 := Lib.hid (one_sha ht (m + k) A7 k7 c7)
  have Hl7 := Lib.hid hl7
  have Hal := Lib.hid hal
  clear hr1 hr2 hrs hB6 hb7 hgt hl7 hal
  obtain ⟨i0, hi0, hz0, hz1, hz2⟩ := info_parts byteInfo
  have hS8 : ShaAt (w7.alloc (.cells (shaL ht (m + k) (.slice A7 k7 c7)).toArray 35)) w7.heap.size ht (m + k) (.slice A7 k7 c7) := ⟨Hl7.out, heap_alloc_new _ _⟩
  have hB8 : Below w.heap.size w (w7.alloc (.cells (shaL ht (m + k) (.slice A7 k7 c7)).toArray 35)) := hB7.alloc hB7.size _
  have hR8 : Rd (w7.alloc (.cells (shaL ht (m + k) (.slice A7 k7 c7)).toArray 35)) w7.heap.size A7 k7 _ := (Rd.of_own hown7).alloc (Nat.le_refl _) _
  go_wp2_with (first
    | ((with_reducible show wpList _ _ _ (⟨none, Op.store 35 _ _, _, _, _, _⟩ :: _) _ _); refine wpList_store_row rfl 35 (.tmp 8) (.tmp 38) rfl (w7.heap.size) (shaL ht (m + k) (.slice A7 k7 c7)).toArray rfl rfl 35 (zeroSha).toArray (heap_alloc_new _ _) I7.out Z7.out O7.out ?_; rw [World.setRow_alloc_new])
    | ((with_reducible show wpList _ _ _ (⟨some 41, _, _, _, _, _⟩ :: _) _ _); refine wpList_append_rd _ rfl (.const (.slice none 0 0)) (.tmp 40) _ rfl (w7.heap.size + 1) 5 i0 _ 1 Tryd.underlying25 hi0 hz0 hz1 hz2 rfl (.slice none 0 0) 0 [] rfl (World.ownsRow_nil _ _ _ _) w.heap.size Ab m cb (b.map bv) rfl (hb.below hB8) (one_bv b) (by simp only [maxLen]; omega) (by omega) (by simp) ?_; intro v9 w9 hown9 hgr9 hat9)
    | ((with_reducible show wpList _ _ _ (⟨some 43, _, _, _, _, _⟩ :: _) _ _); refine wpList_append_rd _ rfl (.tmp 41) (.tmp 42) _ rfl (w7.heap.size + 1) 5 i0 _ 1 Tryd.underlying25 hi0 hz0 hz1 hz2 rfl v9 m (b.map bv) rfl (by simpa using hown9) w.heap.size Am k cm (more.map bv) rfl (hm.below (hB8.grown hgr9 hB8.size (by simp [Value.ownBlock]))) (one_bv more) (by simp only [maxLen]; omega) (by omega) (by have := hgr9.size; simp at this; omega) ?_; intro v10 w10 hown10 hgr10 hat10; obtain ⟨A10, c10, rfl, hc10, _⟩ := own_form hown10))
  have hB10 : Below w.heap.size w w10 := (hB8.grown hgr9 hB8.size (by simp [Value.ownBlock])).grown hgr10 (Nat.le_trans hB8.size hgr9.size) (fun g hg => Nat.le_trans (Nat.le_trans hB7.size (by omega)) (hown9.lt g hg).1)
  have hS10 : ShaAt w10 w7.heap.size ht (m + k) (.slice A7 k7 c7) := (hS8.of (hgr9.block _ hS8.lt (by simp [Value.ownBlock]))).of (hgr10.block _ (Nat.lt_of_lt_of_le hS8.lt hgr9.size) (fun e => by have := (hown9.lt _ e.symm).1; omega))
  have hR10 : Rd w10 w10.heap.size A7 k7 (((b ++ more).drop (64 * ((b ++ more).length / 64))).map bv) := ((hR8.grown hgr9 (al0 _ _) (by simp [Value.ownBlock])).grown hgr10 (Nat.le_trans (al0 _ _) hgr9.size) (fun g hg => Nat.le_of_succ_le (hown9.lt g hg).1)).more (Nat.le_trans (Nat.le_trans (al0 _ _) hgr9.size) hgr10.size)
  have hA10 : Rd w10 w10.heap.size A10 (m + k) ((b ++ more).map bv) := by rw [List.map_append]; exact Rd.of_own hown10
  clear hown10 hgr10 hat10 hown9 hgr9 hat9 hR8 hS8 hB8 hown7 hB7 hi0 hz0 hz1 hz2
  generalize hall : b ++ more = all at *
  have Hall := Lib.hid hall
  clear hall
  obtain ⟨N, hN⟩ : ∃ N, N = 64 * ((m + k) / 64) := ⟨_, rfl⟩
  have Hn64 := Lib.hid (show 64 * (all.length / 64) = N by rw [Hal.out, hN])
  have HN := Lib.hid hN
  have n1 : ((m : Int) + (k : Int)) / 64 * 64 = (N : Int) := by omega
  have n2 : (N : Int) ≤ (c10 : Int) := by omega
  have n3 : (N : Int) ≤ ((m + k : Nat) : Int) := by omega
  have n4 : N ≤ m + k := by omega
  clear hN
  rw [Hn64.out] at hR10
  have hN10 : Rd w10 w10.heap.size A10 N ((all.take N).map bv) := by rw [List.map_take]; exact hA10.take n4
  have Hw := Lib.hid (show blocksTo firstU (all.take N) ((all.take N).length / 64) = ht ∧ (all.take N).length = N by rw [← Hn64.out]; exact Hww.out)
  have n4' := n4
  clear n4
  obtain ⟨t0, t1, t2, t3, t4, t5, t6, t7, hte⟩ := eight Hl7.out
  subst hte
  have hNb : N ≤ 4000 := by omega
  have hN64 : N % 64 = 0 := by rw [HN.out]; omega
  have hNc : N ≤ c10 := by omega
  have hT10 := hT.below hB10
  have HN64 := Lib.hid hN64
  clear hN64
  go_cut [11, 12, 13] (fun n p e wx => n = .int .i64 (N : Int) ∧ ∃ g A c, p = .pointer (some ⟨g, 0, none⟩) ∧ e = .int .i64 0 ∧ RestQ w w7 w10 [t0, t1, t2, t3, t4, t5, t6, t7] N (m + k) (.slice A7 k7 c7) A7 k7 ((all.drop N).map bv) A10 (all.map bv) g (.slice A 0 c) wx)
  case first =>
    go_region_held3 (fun _ => True) (first | trivial)
      (first
        | (go_at_call 23; refine (New_any _).mono ?_; rintro e w11 ⟨rfl, hb11⟩; obtain ⟨hc11, hf11⟩ := bcell hb11; have z11 : w10.heap.size ≤ w11.heap.size := (show Below w10.heap.size w10 w11 by (repeat (first | exact b_refl _ | refine b_drew ?_ | refine b_alloc ?_ _ | refine b_call ?_ hb11)); first | done | fail "open").size)
        | (go_at_call 15; refine (Write_whole8 A10 N c10 _ _ _ t0 t1 t2 t3 t4 t5 t6 t7 _ Hw.out hNb HN64.out hNc (by first | exact hdrE (w1 := w10) (by (repeat (first | exact b_refl _ | refine b_drew ?_ | refine b_alloc ?_ _ | refine b_call ?_ hb11)); first | done | fail "open") rfl | exact hdrE (w1 := w11) (by (repeat (first | exact b_refl _ | refine b_drew ?_ | refine b_alloc ?_ _ | refine b_call ?_ hb11)); first | done | fail "open") rfl | exact hdrE (w1 := w10.alloc _) (by (repeat (first | exact b_refl _ | refine b_drew ?_ | refine b_alloc ?_ _ | refine b_call ?_ hb11)); first | done | fail "open") (size_alloc1 _ _) | exact hdrE (w1 := w11.alloc _) (by (repeat (first | exact b_refl _ | refine b_drew ?_ | refine b_alloc ?_ _ | refine b_call ?_ hb11)); first | done | fail "open") (size_alloc1 _ _)) (b_rd hN10 (by (repeat (first | exact b_refl _ | refine b_drew ?_ | refine b_alloc ?_ _ | refine b_call ?_ hb11)); first | done | fail "open")) (hT10.below (by (repeat (first | exact b_refl _ | refine b_drew ?_ | refine b_alloc ?_ _ | refine b_call ?_ hb11)); first | done | fail "open"))).mono ?_; rintro e w12 ⟨A12, c12, rfl, hb12⟩; (first | (refine zero_elim (w1 := w10) (w2 := w12) rfl (by (repeat (first | exact b_refl _ | refine b_drew ?_ | refine b_alloc ?_ _ | refine b_call ?_ hb11 | refine b_call ?_ hb12)); first | done | fail "open") ?_; rintro ⟨y0, y1, y2, y3, y4, y5, y6, y7, y8, y9, yf⟩) | (refine zero_elim (w1 := w11) (w2 := w12) rfl (by (repeat (first | exact b_refl _ | refine b_drew ?_ | refine b_alloc ?_ _ | refine b_call ?_ hb11 | refine b_call ?_ hb12)); first | done | fail "open") ?_; rintro ⟨y0, y1, y2, y3, y4, y5, y6, y7, y8, y9, yf⟩) | (refine zero_elim (w1 := w10.alloc _) (w2 := w12) (size_alloc1 _ _) (by (repeat (first | exact b_refl _ | refine b_drew ?_ | refine b_alloc ?_ _ | refine b_call ?_ hb11 | refine b_call ?_ hb12)); first | done | fail "open") ?_; rintro ⟨y0, y1, y2, y3, y4, y5, y6, y7, y8, y9, yf⟩) | (refine zero_elim (w1 := w11.alloc _) (w2 := w12) (size_alloc1 _ _) (by (repeat (first | exact b_refl _ | refine b_drew ?_ | refine b_alloc ?_ _ | refine b_call ?_ hb11 | refine b_call ?_ hb12)); first | done | fail "open") ?_; rintro ⟨y0, y1, y2, y3, y4, y5, y6, y7, y8, y9, yf⟩) | skip)))
    all_goals go_wp2_with fail
    all_goals go_meet
    all_goals refine ⟨rfl, _, A12, c12, rfl, rfl, ?_⟩
    all_goals (first
      | ((with_reducible refine rest_new8 ?_ hS10 hR10 hA10 hB10); ((repeat (first | exact b_refl _ | refine b_drew ?_ | refine b_alloc ?_ _ | refine b_call ?_ hb11 | refine b_call ?_ hb12)); first | done | fail "open"))
      | ((with_reducible refine rest_set8 ?_ ?_ ?_ hS10 hR10 hA10 hB10); (first | exact new_zero (w1 := w10) (by (repeat (first | exact b_refl _ | refine b_drew ?_ | refine b_alloc ?_ _ | refine b_call ?_ hb11 | refine b_call ?_ hb12)); first | done | fail "open") rfl | exact new_zero (w1 := w11) (by (repeat (first | exact b_refl _ | refine b_drew ?_ | refine b_alloc ?_ _ | refine b_call ?_ hb11 | refine b_call ?_ hb12)); first | done | fail "open") rfl | exact new_zero (w1 := w10.alloc _) (by (repeat (first | exact b_refl _ | refine b_drew ?_ | refine b_alloc ?_ _ | refine b_call ?_ hb11 | refine b_call ?_ hb12)); first | done | fail "open") (size_alloc1 _ _) | exact new_zero (w1 := w11.alloc _) (by (repeat (first | exact b_refl _ | refine b_drew ?_ | refine b_alloc ?_ _ | refine b_call ?_ hb11 | refine b_call ?_ hb12)); first | done | fail "open") (size_alloc1 _ _)); (first | exact Nat.le_refl _ | exact z11 | exact Nat.le_succ _ | exact Nat.le_succ_of_le z11); ((repeat (first | exact b_refl _ | refine b_drew ?_ | refine b_alloc ?_ _ | refine b_call ?_ hb11 | refine b_call ?_ hb12)); first | done | fail "open")))
  case rest =>
    obtain ⟨rfl, g, A, c, rfl, rfl, hS, hS7, h7, h10, hB⟩ := hcut
    clear hS10 hR10 hA10 hB10 hN10 hT10
    have cN7 := hS7.cellN
    have cV7 := hS7.cellV
    have cV := hS.cellV
    have p0 := hS.word (i := 0) rfl
    have q0 := hS7.word (i := 0) rfl
    have p1 := hS.word (i := 1) rfl
    have q1 := hS7.word (i := 1) rfl
    have p2 := hS.word (i := 2) rfl
    have q2 := hS7.word (i := 2) rfl
    have p3 := hS.word (i := 3) rfl
    have q3 := hS7.word (i := 3) rfl
    have p4 := hS.word (i := 4) rfl
    have q4 := hS7.word (i := 4) rfl
    have p5 := hS.word (i := 5) rfl
    have q5 := hS7.word (i := 5) rfl
    have p6 := hS.word (i := 6) rfl
    have q6 := hS7.word (i := 6) rfl
    have p7 := hS.word (i := 7) rfl
    have q7 := hS7.word (i := 7) rfl
    have hq : ∀ wx : World, (Op.equalIn 10000 32 (.agg #[.int .u32 (t0.toNat : Int), .int .u32 (t1.toNat : Int), .int .u32 (t2.toNat : Int), .int .u32 (t3.toNat : Int), .int .u32 (t4.toNat : Int), .int .u32 (t5.toNat : Int), .int .u32 (t6.toNat : Int), .int .u32 (t7.toNat : Int)]) (.agg #[.int .u32 (t0.toNat : Int), .int .u32 (t1.toNat : Int), .int .u32 (t2.toNat : Int), .int .u32 (t3.toNat : Int), .int .u32 (t4.toNat : Int), .int .u32 (t5.toNat : Int), .int .u32 (t6.toNat : Int), .int .u32 (t7.toNat : Int)])).run Tryd.prog wx = .ok true wx := fun wx => by
      obtain ⟨ii, hii⟩ := word_info
      have h := run_eqlRow wx false Tryd.underlying32 Tryd.underlying31 hii word_cells wv (fun x => (x.toNat : Int)) (fun _ => rfl) wv_inj 0 [t0, t1, t2, t3, t4, t5, t6, t7] [t0, t1, t2, t3, t4, t5, t6, t7] rfl rfl
      rw [beq_self_eq_true] at h
      exact h
    clear hS hS7
    have n5 : (N : Int) ≤ (m : Int) + (k : Int) := by omega
    have n6 : IntKind.u64.wrap ((m : Int) + (k : Int)) = (m : Int) + (k : Int) := by rw [IntKind.wrap_u64]; omega
    have h11 := h10.cut (k := N) n4' hc10
    rw [← List.map_drop] at h11
    go_wp2_with fail
    go_quiet ((go_at_call 13; exact (Same_any _ _ _ _ _ _ _ _ _ _ _ (h7.drewN _) (h11.drewN _)).mono (fun _ _ ⟨he, hm⟩ => ⟨he.trans (by rw [sameB_refl]), _, hm.symm⟩)))
    go_wp2_with fail
    all_goals
      go_ret
      exact ⟨rfl, b_drewN hB _⟩

theorem walk_ShaRest (Ab : Option Addr) (m cb : Nat) (b : List UInt8) (Am : Option Addr) (k cm : Nat) (more : List UInt8) (w : World) (hmc : m ≤ cb) (hcb : cb ≤ maxLen) (hb : Rd w w.heap.size Ab m (b.map bv)) (hkc : k ≤ cm) (hcm : cm ≤ maxLen) (hm : Rd w w.heap.size Am k (more.map bv)) (hT : CTab w) :
    Calls Tryd.prog 7 #[.slice Ab m cb, .slice Am k cm] w fun e w' => e = .returned (.bool true) ∧ Below w.heap.size w w' := by
  by_cases h1 : 2000 < m ∨ 2000 < k
  · exact Rest_a Ab m cb b Am k cm more w hmc hcb hb hkc hcm hm hT h1
  · exact Rest_b Ab m cb b Am k cm more w hmc hcb hb hkc hcm hm hT (by omega) (by omega)

end Go.Proofs.YtjgacdhoopecgaaDoor
