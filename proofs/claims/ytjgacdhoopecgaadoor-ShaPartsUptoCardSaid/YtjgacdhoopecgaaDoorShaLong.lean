/-
  THE WALK of ShaLong (coterielaw02).
-/
import Derived.Test.YtjgacdhoopecgaaDoorShaQ
set_option linter.unusedVariables false
namespace Go.Proofs.YtjgacdhoopecgaaDoor
open Go.RowKit

theorem zero8_len : zero8.length = 8 := rfl
theorem zeroSha_info : (Tryd.prog.info? 35).map (·.size) = some (zeroSha.toArray).size := by rw [infoSha]; rfl
theorem one_zeroSha : (zeroSha.toArray).all (·.oneCell') = true := one_sha _ _ _ _ _

theorem chk_write {h : List UInt32} {n k : Nat} {rest t : List UInt8} (hc : chkU h n k = true) (hl : rest.length = k) (hr : n + t.length ≤ 1099511627776) :
    chkU (blocksTo h (rest ++ t) ((rest ++ t).length / 64)) (n + t.length) ((rest ++ t).length - 64 * ((rest ++ t).length / 64)) = true := by
  obtain ⟨h1, h2⟩ := chk_true hc
  have e : (rest ++ t).length = k + t.length := by rw [List.length_append, hl]
  by_cases hs : 64 ≤ n + t.length
  · exact chk3 hr (by rw [e]; omega) hs
  · rw [chk4 hr (by rw [e]; omega) (by omega), show (rest ++ t).length / 64 = 0 by rw [e]; omega]
    rwa [chk4 h1 h2 (by omega)] at hc

theorem sameSha_refl (h : List UInt32) (n : Nat) (l : List UInt8) : sameSha h n l h n l = true := by simp [sameSha, sameB]
theorem txs_one {w : World} {B : Nat} {A : Option Addr} {m c : Nat} {t : List UInt8} (hl : t.length = m) (hc : m ≤ c) (hr : Rd w B A m (t.map bv)) : Txs w B [.slice A m c] [t] := by
  subst hl
  exact Txs.one hr hc

set_option maxRecDepth 1000000 in
theorem Long_a (h : List UInt32) (n : Nat) (A : Option Addr) (k c : Nat) (rest : List UInt8) (Ab : Option Addr) (m cb : Nat) (b : List UInt8) (w : World) (hh : h.length = 8) (hn : n < 18446744073709551616) (hk : k ≤ 9223372036854775807) (hm : m ≤ 9223372036854775807) (hmc : m ≤ cb) (hr : Rd w w.heap.size A k (rest.map bv)) (hb : Rd w w.heap.size Ab m (b.map bv)) (hT : CTab w) (h1 : 2000 < m ∨ 200 < k) :
    Calls Tryd.prog 6 #[.agg (shaL h n (.slice A k c)).toArray, .slice Ab m cb] w fun e w' => e = .returned (.bool true) ∧ Below w.heap.size w w' := by
  by_cases hm2 : 2000 < m
  · have d1 : (2000 : Int) < (m : Int) := by omega
    clear h1
    have Hh := Lib.hid hh
    have I10 := Lib.hid (show (Tryd.prog.info? 35).map (·.size) = some ((shaL h n (.slice A k c)).toArray).size by rw [infoSha]; simp [shaL_len hh])
    clear hh
    go_enter Tryd.func6, Tryd.ntmps6
    go_wp2_with fail
    refine (live_any _ (hT.below ((Below.refl _ _).alloc (Nat.le_refl _) _))).mono ?_
    rintro e w2 ⟨rfl, hb2⟩
    have hS2 : ShaAt w2 w.heap.size h n (.slice A k c) := ShaAt.below ⟨Hh.out, heap_alloc_new _ _⟩ hb2 (by simp)
    have hB2 : Below w.heap.size w w2 := ((Below.refl _ _).alloc (Nat.le_refl _) _).trans (hb2.mono (al0 _ _))
    have cV2 := hS2.cellV
    have cN2 := hS2.cellN
    have hlt2 := hS2.lt
    clear hb2
    go_wp2_with fail
    go_ret
    exact ⟨rfl, hB2⟩
  · have d1 : ¬ (2000 : Int) < (m : Int) := by omega
    have d2 : (200 : Int) < (k : Int) := by omega
    clear h1
    have Hh := Lib.hid hh
    have I10 := Lib.hid (show (Tryd.prog.info? 35).map (·.size) = some ((shaL h n (.slice A k c)).toArray).size by rw [infoSha]; simp [shaL_len hh])
    clear hh
    go_enter Tryd.func6, Tryd.ntmps6
    go_wp2_with fail
    refine (live_any _ (hT.below ((Below.refl _ _).alloc (Nat.le_refl _) _))).mono ?_
    rintro e w2 ⟨rfl, hb2⟩
    have hS2 : ShaAt w2 w.heap.size h n (.slice A k c) := ShaAt.below ⟨Hh.out, heap_alloc_new _ _⟩ hb2 (by simp)
    have hB2 : Below w.heap.size w w2 := ((Below.refl _ _).alloc (Nat.le_refl _) _).trans (hb2.mono (al0 _ _))
    have cV2 := hS2.cellV
    have cN2 := hS2.cellN
    have hlt2 := hS2.lt
    clear hb2
    go_wp2_with fail
    go_ret
    exact ⟨rfl, hB2⟩

set_option maxRecDepth 1000000 in
set_option maxHeartbeats 1000000 in
theorem Long_c (h : List UInt32) (n : Nat) (A : Option Addr) (k c : Nat) (rest : List UInt8) (Ab : Option Addr) (m cb : Nat) (b : List UInt8) (w : World) (hh : h.length = 8) (hn : n < 18446744073709551616) (hk : k ≤ 9223372036854775807) (hm : m ≤ 9223372036854775807) (hmc : m ≤ cb) (hr : Rd w w.heap.size A k (rest.map bv)) (hb : Rd w w.heap.size Ab m (b.map bv)) (hT : CTab w) (h1 : m ≤ 2000) (h2 : k ≤ 200) (hc : chkU h n k = false) :
    Calls Tryd.prog 6 #[.agg (shaL h n (.slice A k c)).toArray, .slice Ab m cb] w fun e w' => e = .returned (.bool true) ∧ Below w.heap.size w w' := by
  have d1 : ¬ (2000 : Int) < (m : Int) := by omega
  have d2 : ¬ (200 : Int) < (k : Int) := by omega
  have Hc := Lib.hid hc
  clear hc
  have Hh := Lib.hid hh
  have I10 := Lib.hid (show (Tryd.prog.info? 35).map (·.size) = some ((shaL h n (.slice A k c)).toArray).size by rw [infoSha]; simp [shaL_len hh])
  clear hh
  go_enter Tryd.func6, Tryd.ntmps6
  go_wp2_with fail
  refine (live_any _ (hT.below ((Below.refl _ _).alloc (Nat.le_refl _) _))).mono ?_
  rintro e w2 ⟨rfl, hb2⟩
  have hS2 : ShaAt w2 w.heap.size h n (.slice A k c) := ShaAt.below ⟨Hh.out, heap_alloc_new _ _⟩ hb2 (by simp)
  have hB2 : Below w.heap.size w w2 := ((Below.refl _ _).alloc (Nat.le_refl _) _).trans (hb2.mono (al0 _ _))
  have cV2 := hS2.cellV
  have cN2 := hS2.cellN
  have hlt2 := hS2.lt
  clear hb2
  go_wp2_with ((with_reducible show wpList _ _ _ (⟨some 26, _, _, _, _, _⟩ :: _) _ _); refine wpList_load_row rfl 35 (.tmp 2) rfl (w.heap.size) rfl 35 (shaL h n (.slice A k c)).toArray (0, 0) _ hS2.2 Tryd.underlying35 rfl I10.out ?_)
  refine (Write_bad h n A k c _ 1 1 _ Hh.out hn hk Hc.out).mono ?_
  rintro e w3 ⟨rfl, hb3⟩
  have hS3 : ShaAt w3 w.heap.size h n (.slice A k c) := (hS2.alloc _).below hb3 (Nat.lt_of_lt_of_le hlt2 (al0 _ _))
  have hB3 : Below w.heap.size w w3 := (hB2.alloc hB2.size _).trans (hb3.mono (Nat.le_trans hB2.size (al0 _ _)))
  clear hb3 hS2 hB2 cV2 cN2 hlt2
  go_wp2_with (first
    | ((with_reducible show wpList _ _ _ (⟨none, Op.store 35 _ _, _, _, _, _⟩ :: _) _ _); refine wpList_store_row rfl 35 (.tmp 6) (.tmp 30) rfl (w3.heap.size) (zeroSha).toArray rfl rfl 35 (zeroSha).toArray (heap_alloc_new _ _) zeroSha_info rfl one_zeroSha ?_; rw [World.setRow_alloc_new])
    | ((with_reducible show wpList _ _ _ (⟨some 32, _, _, _, _, _⟩ :: _) _ _); refine wpList_load_row rfl 35 (.tmp 2) rfl (w.heap.size) rfl 35 (shaL h n (.slice A k c)).toArray (0, 0) _ (hS3.alloc _).2 Tryd.underlying35 rfl I10.out ?_))
  refine calls_gen (fun wx => (ShaAt wx w.heap.size h n (.slice A k c) ∧ ShaAt wx w3.heap.size zero8 0 (.slice none 0 0)) ∧ Below w.heap.size w wx) ⟨⟨hS3.alloc _, zero8_len, heap_alloc_new _ _⟩, hB3.alloc hB3.size _⟩ ?_
  rintro w4 ⟨⟨hS4, hZ4⟩, hB4⟩
  refine (Check_any h n A k c _ Hh.out hn hk).mono ?_
  rintro e w5 ⟨rfl, hb5⟩
  rw [Hc.out, errK]
  have hS5 := hS4.below hb5 hS4.lt
  have hZ5 := hZ4.below hb5 hZ4.lt
  have hB5 : Below w.heap.size w w5 := hB4.trans (hb5.mono hB4.size)
  clear hS3 hB3 hS4 hZ4 hB4 hb5
  go_wp2_with ((with_reducible show wpList _ _ _ (⟨some 36, _, _, _, _, _⟩ :: _) _ _); refine wpList_load_row rfl 35 (.tmp 2) rfl (w.heap.size) rfl 35 (shaL h n (.slice A k c)).toArray (0, 0) _ hS5.2 Tryd.underlying35 rfl I10.out ?_)
  refine (Done_bad h n A k c _ Hh.out hn hk Hc.out).mono ?_
  rintro e w6 ⟨rfl, hb6⟩
  have hZ6 := hZ5.below hb6 hZ5.lt
  have hB6 : Below w.heap.size w w6 := hB5.trans (hb6.mono hB5.size)
  clear hS5 hZ5 hB5 hb6
  go_wp2_with (first
    | ((with_reducible show wpList _ _ _ (⟨none, Op.store 28 _ _, _, _, _, _⟩ :: _) _ _); refine wpList_store_row rfl 28 (.tmp 8) (.tmp 38) rfl (w6.heap.size) (zeroKey.map bv).toArray rfl rfl 28 (zeroKey.map bv).toArray (heap_alloc_new _ _) key_zero rfl one_key ?_; rw [World.setRow_alloc_new])
    | ((with_reducible show wpList _ _ _ (⟨some 50, _, _, _, _, _⟩ :: _) _ _); refine wpList_load_rowG rfl 35 (.tmp 6) rfl (w3.heap.size) rfl 35 (zeroSha).toArray (0, 0) _ (hZ6.alloc _).2 Tryd.underlying35 rfl zeroSha_info ?_)
    | (go_at_call 22; refine (pSame_any zero8 zero8 0 0 none none 0 0 0 0 [] [] _ rfl rfl (Rd.zero _ _ _) (Rd.zero _ _ _)).mono ?_; rintro e w7 ⟨rfl, hb7⟩; rw [show sameSha zero8 0 [] zero8 0 [] = true from rfl]))
  go_ret
  exact ⟨rfl, (hB6.alloc hB6.size _).trans (hb7.mono (Nat.le_trans hB6.size (al0 _ _)))⟩

set_option maxRecDepth 1000000 in
set_option maxHeartbeats 1000000 in
theorem Long_d (h : List UInt32) (n : Nat) (A : Option Addr) (k c : Nat) (rest : List UInt8) (Ab : Option Addr) (m cb : Nat) (b : List UInt8) (w : World) (hh : h.length = 8) (hn : n < 18446744073709551616) (hk : k ≤ 9223372036854775807) (hm : m ≤ 9223372036854775807) (hmc : m ≤ cb) (hr : Rd w w.heap.size A k (rest.map bv)) (hb : Rd w w.heap.size Ab m (b.map bv)) (hT : CTab w) (h1 : m ≤ 2000) (h2 : k ≤ 200) (hc : chkU h n k = true) (hl : 1099511627776 < n + m) :
    Calls Tryd.prog 6 #[.agg (shaL h n (.slice A k c)).toArray, .slice Ab m cb] w fun e w' => e = .returned (.bool true) ∧ Below w.heap.size w w' := by
  have d1 : ¬ (2000 : Int) < (m : Int) := by omega
  have d2 : ¬ (200 : Int) < (k : Int) := by omega
  have d3 : (1099511627776 : Int) < (n : Int) + (m : Int) := by omega
  have hn1 := (chk_true hc).1
  have Hc := Lib.hid hc
  have hbl : b.length = m := by have := hb.len; simpa using this
  have Hrm := Lib.hid (show roomB n [b].flatten.length = false by simp only [List.flatten_cons, List.flatten_nil, List.append_nil, hbl]; exact decide_eq_false (by omega))
  have Hbl := Lib.hid hbl
  clear hc hbl
  have Hh := Lib.hid hh
  have I10 := Lib.hid (show (Tryd.prog.info? 35).map (·.size) = some ((shaL h n (.slice A k c)).toArray).size by rw [infoSha]; simp [shaL_len hh])
  clear hh
  go_enter Tryd.func6, Tryd.ntmps6
  go_wp2_with fail
  refine (live_any _ (hT.below ((Below.refl _ _).alloc (Nat.le_refl _) _))).mono ?_
  rintro e w2 ⟨rfl, hb2⟩
  have hS2 : ShaAt w2 w.heap.size h n (.slice A k c) := ShaAt.below ⟨Hh.out, heap_alloc_new _ _⟩ hb2 (by simp)
  have hB2 : Below w.heap.size w w2 := ((Below.refl _ _).alloc (Nat.le_refl _) _).trans (hb2.mono (al0 _ _))
  have cV2 := hS2.cellV
  have cN2 := hS2.cellN
  have hlt2 := hS2.lt
  clear hb2
  go_wp2_with ((with_reducible show wpList _ _ _ (⟨some 26, _, _, _, _, _⟩ :: _) _ _); refine wpList_load_row rfl 35 (.tmp 2) rfl (w.heap.size) rfl 35 (shaL h n (.slice A k c)).toArray (0, 0) _ hS2.2 Tryd.underlying35 rfl I10.out ?_)
  refine calls_gen (fun wx => (Rd wx wx.heap.size (some ⟨w2.heap.size, 0, none⟩) 1 [.slice Ab m cb] ∧ Rd wx wx.heap.size Ab m (b.map bv)) ∧ (ShaAt wx w.heap.size h n (.slice A k c) ∧ Rd wx wx.heap.size A k (rest.map bv)) ∧ Below w.heap.size w wx) ⟨⟨Rd.mk_ _ _ _ rfl (by simp) rfl rfl, ((hb.below hB2).alloc hB2.size _).more (Nat.le_trans hB2.size (al0 _ _))⟩, ⟨hS2.alloc _, ((hr.below hB2).alloc hB2.size _).more (Nat.le_trans hB2.size (al0 _ _))⟩, hB2.alloc hB2.size _⟩ ?_
  clear hS2 hB2 cV2 cN2 hlt2
  rintro wx ⟨⟨hr1, hr2⟩, ⟨hSx, hrx⟩, hBx⟩
  refine (Write_long h n A k c rest (some ⟨w2.heap.size, 0, none⟩) 1 1 [.slice Ab m cb] [b] _ Hh.out hn hrx (by omega) (fun t ht => by simp at ht; subst ht; rw [Hbl.out]; exact hm) hr1 (txs_one Hbl.out hmc hr2) Hc.out Hrm.out).mono ?_
  rintro e w3 ⟨rfl, hb3⟩
  have hS3 := hSx.below hb3 hSx.lt
  have hB3 : Below w.heap.size w w3 := hBx.trans (hb3.mono hBx.size)
  clear hSx hBx hb3 hr1 hr2 hrx
  go_wp2_with (first
    | ((with_reducible show wpList _ _ _ (⟨none, Op.store 35 _ _, _, _, _, _⟩ :: _) _ _); refine wpList_store_row rfl 35 (.tmp 6) (.tmp 30) rfl (w3.heap.size) (zeroSha).toArray rfl rfl 35 (zeroSha).toArray (heap_alloc_new _ _) zeroSha_info rfl one_zeroSha ?_; rw [World.setRow_alloc_new])
    | ((with_reducible show wpList _ _ _ (⟨some 32, _, _, _, _, _⟩ :: _) _ _); refine wpList_load_row rfl 35 (.tmp 2) rfl (w.heap.size) rfl 35 (shaL h n (.slice A k c)).toArray (0, 0) _ (hS3.alloc _).2 Tryd.underlying35 rfl I10.out ?_))
  refine calls_gen (fun wx => (ShaAt wx w.heap.size h n (.slice A k c) ∧ ShaAt wx w3.heap.size zero8 0 (.slice none 0 0)) ∧ Below w.heap.size w wx) ⟨⟨hS3.alloc _, zero8_len, heap_alloc_new _ _⟩, hB3.alloc hB3.size _⟩ ?_
  rintro w4 ⟨⟨hS4, hZ4⟩, hB4⟩
  refine (Check_any h n A k c _ Hh.out hn hk).mono ?_
  rintro e w5 ⟨rfl, hb5⟩
  rw [Hc.out, errK]
  have hS5 := hS4.below hb5 hS4.lt
  have hZ5 := hZ4.below hb5 hZ4.lt
  have hB5 : Below w.heap.size w w5 := hB4.trans (hb5.mono hB4.size)
  have cN5 := hS5.cellN
  clear hS3 hB3 hS4 hZ4 hB4 hb5
  go_wp2_with (first
    | ((with_reducible show wpList _ _ _ (⟨some 67, _, _, _, _, _⟩ :: _) _ _); refine wpList_load_rowG rfl 35 (.tmp 6) rfl (w3.heap.size) rfl 35 (zeroSha).toArray (0, 0) _ hZ5.2 Tryd.underlying35 rfl zeroSha_info ?_)
    | (go_at_call 22; refine (pSame_any zero8 zero8 0 0 none none 0 0 0 0 [] [] _ rfl rfl (Rd.zero _ _ _) (Rd.zero _ _ _)).mono ?_; rintro e w7 ⟨rfl, hb7⟩; rw [show sameSha zero8 0 [] zero8 0 [] = true from rfl]))
  go_ret
  exact ⟨rfl, hB5.trans (hb7.mono hB5.size)⟩

set_option maxRecDepth 1000000 in
set_option maxHeartbeats 2000000 in
theorem Long_e (h : List UInt32) (n : Nat) (A : Option Addr) (k c : Nat) (rest : List UInt8) (Ab : Option Addr) (m cb : Nat) (b : List UInt8) (w : World) (hh : h.length = 8) (hn : n < 18446744073709551616) (hk : k ≤ 9223372036854775807) (hm : m ≤ 9223372036854775807) (hmc : m ≤ cb) (hr : Rd w w.heap.size A k (rest.map bv)) (hb : Rd w w.heap.size Ab m (b.map bv)) (hT : CTab w) (h1 : m ≤ 2000) (h2 : k ≤ 200) (hc : chkU h n k = true) (hl : n + m ≤ 1099511627776) :
    Calls Tryd.prog 6 #[.agg (shaL h n (.slice A k c)).toArray, .slice Ab m cb] w fun e w' => e = .returned (.bool true) ∧ Below w.heap.size w w' := by
  have d1 : ¬ (2000 : Int) < (m : Int) := by omega
  have d2 : ¬ (200 : Int) < (k : Int) := by omega
  have d3 : ¬ (1099511627776 : Int) < (n : Int) + (m : Int) := by omega
  obtain ⟨hn1, hk1⟩ := chk_true hc
  have Hc := Lib.hid hc
  have hbl : b.length = m := by have := hb.len; simpa using this
  have hrl : rest.length = k := by have := hr.len; simpa using this
  have Hrm := Lib.hid (show roomB n [b].flatten.length = true by simp only [List.flatten_cons, List.flatten_nil, List.append_nil, hbl]; exact decide_eq_true hl)
  have Hrm0 := Lib.hid (show roomB n ([] : List (List UInt8)).flatten.length = true from decide_eq_true (by simpa using hn1))
  have Hcw := Lib.hid (chk_write (t := b) hc hrl (by omega))
  have Hbl := Lib.hid hbl
  have Hrl := Lib.hid hrl
  have Hk1 := Lib.hid hk1
  clear hc hbl hrl hk1
  have Hh := Lib.hid hh
  have I10 := Lib.hid (show (Tryd.prog.info? 35).map (·.size) = some ((shaL h n (.slice A k c)).toArray).size by rw [infoSha]; simp [shaL_len hh])
  clear hh
  go_enter Tryd.func6, Tryd.ntmps6
  go_wp2_with fail
  refine (live_any _ (hT.below ((Below.refl _ _).alloc (Nat.le_refl _) _))).mono ?_
  rintro e w2 ⟨rfl, hb2⟩
  have hS2 : ShaAt w2 w.heap.size h n (.slice A k c) := ShaAt.below ⟨Hh.out, heap_alloc_new _ _⟩ hb2 (by simp)
  have hB2 : Below w.heap.size w w2 := ((Below.refl _ _).alloc (Nat.le_refl _) _).trans (hb2.mono (al0 _ _))
  have cV2 := hS2.cellV
  have cN2 := hS2.cellN
  have hlt2 := hS2.lt
  clear hb2
  go_wp2_with ((with_reducible show wpList _ _ _ (⟨some 26, _, _, _, _, _⟩ :: _) _ _); refine wpList_load_row rfl 35 (.tmp 2) rfl (w.heap.size) rfl 35 (shaL h n (.slice A k c)).toArray (0, 0) _ hS2.2 Tryd.underlying35 rfl I10.out ?_)
  refine calls_gen (fun wx => (Rd wx wx.heap.size (some ⟨w2.heap.size, 0, none⟩) 1 [.slice Ab m cb] ∧ Rd wx wx.heap.size Ab m (b.map bv)) ∧ (ShaAt wx w.heap.size h n (.slice A k c) ∧ Rd wx wx.heap.size A k (rest.map bv)) ∧ Below w.heap.size w wx) ⟨⟨Rd.mk_ _ _ _ rfl (by simp) rfl rfl, ((hb.below hB2).alloc hB2.size _).more (Nat.le_trans hB2.size (al0 _ _))⟩, ⟨hS2.alloc _, ((hr.below hB2).alloc hB2.size _).more (Nat.le_trans hB2.size (al0 _ _))⟩, hB2.alloc hB2.size _⟩ ?_
  clear hS2 hB2 cV2 cN2 hlt2
  rintro wx ⟨⟨hr1, hr2⟩, ⟨hSx, hrx⟩, hBx⟩
  refine (Write_ok h n A k c rest (some ⟨w2.heap.size, 0, none⟩) 1 1 [.slice Ab m cb] [b] _ Hh.out hn hrx (by omega) (fun t ht => by simp at ht; subst ht; rw [Hbl.out]; exact hm) hr1 (txs_one Hbl.out hmc hr2) Hc.out (hT.below hBx) Hrm.out).mono ?_
  rintro e w3 ⟨A3, k3, c3, rfl, hown3, hb3⟩
  rw [show [b].flatten = b by simp] at hown3 ⊢
  rw [Hbl.out]
  have hS3 := hSx.below hb3 hSx.lt
  have hB3 : Below w.heap.size w w3 := hBx.trans (hb3.mono hBx.size)
  have hl3 := blocksTo_len Hh.out (rest ++ b) ((rest ++ b).length / 64)
  have hk3 : k3 = (rest ++ b).length - 64 * ((rest ++ b).length / 64) := by have := hown3.1; rw [List.length_map, List.length_drop] at this; omega
  have Hcw3 := Lib.hid (show chkU (blocksTo h (rest ++ b) ((rest ++ b).length / 64)) (n + m) k3 = true by rw [hk3]; have := Hcw.out; rwa [Hbl.out] at this)
  have hk3' : k3 < 64 := by omega
  clear hk3
  generalize blocksTo h (rest ++ b) ((rest ++ b).length / 64) = hf at *
  generalize (rest ++ b).drop (64 * ((rest ++ b).length / 64)) = rf at *
  have hnm : n + m < 18446744073709551616 := by omega
  generalize hnm2 : n + m = nm at *
  have Hnm := Lib.hid hnm2
  have d4 : (n : Int) + (m : Int) = (nm : Int) := by omega
  clear hnm2
  have Hl3 := Lib.hid hl3
  have If := Lib.hid (show (Tryd.prog.info? 35).map (·.size) = some ((shaL hf nm (.slice A3 k3 c3)).toArray).size by rw [infoSha]; simp [shaL_len hl3])
  have Zf := Lib.hid (show (zeroSha.toArray).size = ((shaL hf nm (.slice A3 k3 c3)).toArray).size by simp [shaL_len hl3]; rfl)
  have Of := Lib.hid (one_sha hf nm A3 k3 c3)
  clear hSx hBx hb3 hr1 hr2 hrx hl3
  go_wp2_with (first
    | ((with_reducible show wpList _ _ _ (⟨none, Op.store 35 _ _, _, _, _, _⟩ :: _) _ _); refine wpList_store_row rfl 35 (.tmp 6) (.tmp 30) rfl (w3.heap.size) (shaL hf nm (.slice A3 k3 c3)).toArray rfl rfl 35 (zeroSha).toArray (heap_alloc_new _ _) If.out Zf.out Of.out ?_; rw [World.setRow_alloc_new])
    | ((with_reducible show wpList _ _ _ (⟨some 32, _, _, _, _, _⟩ :: _) _ _); refine wpList_load_row rfl 35 (.tmp 2) rfl (w.heap.size) rfl 35 (shaL h n (.slice A k c)).toArray (0, 0) _ (hS3.alloc _).2 Tryd.underlying35 rfl I10.out ?_))
  refine calls_gen (fun wx => (ShaAt wx w.heap.size h n (.slice A k c) ∧ ShaAt wx w3.heap.size hf nm (.slice A3 k3 c3)) ∧ Rd wx wx.heap.size A3 k3 (rf.map bv) ∧ Below w.heap.size w wx) ⟨⟨hS3.alloc _, Hl3.out, heap_alloc_new _ _⟩, ((Rd.of_own hown3).alloc (Nat.le_refl _) _).more (al0 _ _), hB3.alloc hB3.size _⟩ ?_
  clear hown3 hS3
  rintro w4 ⟨⟨hS4, hZ4⟩, hR4, hB4⟩
  refine (Check_any h n A k c _ Hh.out hn hk).mono ?_
  rintro e w5 ⟨rfl, hb5⟩
  rw [Hc.out, errK]
  have hS5 := hS4.below hb5 hS4.lt
  have hZ5 := hZ4.below hb5 hZ4.lt
  have hR5 := hR4.below hb5
  have hB5 : Below w.heap.size w w5 := hB4.trans (hb5.mono hB4.size)
  have cN5 := hS5.cellN
  have Hs45 := Lib.hid hb5.size
  clear hB3 hS4 hZ4 hB4 hb5 hR4
  go_wp2_with ((with_reducible show wpList _ _ _ (⟨some 72, _, _, _, _, _⟩ :: _) _ _); refine wpList_load_row rfl 35 (.tmp 2) rfl (w.heap.size) rfl 35 (shaL h n (.slice A k c)).toArray (0, 0) _ hS5.2 Tryd.underlying35 rfl I10.out ?_)
  refine (Write_ok h n A k c rest none 0 0 [] [] _ Hh.out hn ((hr.below hB5).more hB5.size) (by omega) (fun t ht => by simp at ht) (Rd.zero _ _ _) (Txs.nil _ _) Hc.out (hT.below hB5) Hrm0.out).mono ?_
  rintro e w6 ⟨A6, k6, c6, rfl, hown6, hb6⟩
  rw [List.flatten_nil, List.append_nil, Hrl.out, show k / 64 = 0 by have := Hk1.out; omega, Nat.mul_zero, List.drop_zero] at hown6
  rw [List.flatten_nil, List.append_nil, List.length_nil, Nat.add_zero, Hrl.out, show k / 64 = 0 by have := Hk1.out; omega, show blocksTo h rest 0 = h from rfl]
  have hk6 : k6 = k := by have := hown6.1; rw [List.length_map, Hrl.out] at this; omega
  subst hk6
  have hS6 := hS5.below hb6 hS5.lt
  have hZ6 := hZ5.below hb6 hZ5.lt
  have hR6 := hR5.below (hb6.mono Hs45.out)
  have hB6 : Below w.heap.size w w6 := hB5.trans (hb6.mono hB5.size)
  have Hs6 := Lib.hid hb6.size
  have I6 := Lib.hid (show (Tryd.prog.info? 35).map (·.size) = some ((shaL h n (.slice A6 k6 c6)).toArray).size by rw [infoSha]; simp [shaL_len Hh.out])
  have Z6 := Lib.hid (show (zeroSha.toArray).size = ((shaL h n (.slice A6 k6 c6)).toArray).size by simp [shaL_len Hh.out]; rfl)
  have O6 := Lib.hid (one_sha h n A6 k6 c6)
  clear hS5 hZ5 hb6 cN5 hB5 hR5
  have hS7 := hS6.alloc (.cells (shaL h n (.slice A6 k6 c6)).toArray 35)
  have hZ7 := hZ6.alloc (.cells (shaL h n (.slice A6 k6 c6)).toArray 35)
  have hX7 : ShaAt (w6.alloc (.cells (shaL h n (.slice A6 k6 c6)).toArray 35)) w6.heap.size h n (.slice A6 k6 c6) := ⟨Hh.out, heap_alloc_new _ _⟩
  have hB7 : Below w.heap.size w (w6.alloc (.cells (shaL h n (.slice A6 k6 c6)).toArray 35)) := hB6.alloc hB6.size _
  have hR7 := ((Rd.of_own hown6).alloc (Nat.le_refl _) (.cells (shaL h n (.slice A6 k6 c6)).toArray 35)).more (al0 w6 (.cells (shaL h n (.slice A6 k6 c6)).toArray 35))
  have cNS := hS7.cellN
  have cNZ := hZ7.cellN
  go_wp2_with (first
    | ((with_reducible show wpList _ _ _ (⟨none, Op.store 35 _ _, _, _, _, _⟩ :: _) _ _); refine wpList_store_row rfl 35 (.tmp 10) (.tmp 74) rfl (w6.heap.size) (shaL h n (.slice A6 k6 c6)).toArray rfl rfl 35 (zeroSha).toArray (heap_alloc_new _ _) I6.out Z6.out O6.out ?_; rw [World.setRow_alloc_new])
    | ((with_reducible show wpList _ _ _ (⟨some 97, _, _, _, _, _⟩ :: _) _ _); refine wpList_load_rowG rfl 35 (.tmp 6) rfl (w3.heap.size) rfl 35 (shaL hf nm (.slice A3 k3 c3)).toArray (0, 0) _ hZ7.2 Tryd.underlying35 rfl If.out ?_)
    | (go_at_call 20; refine (Check_any hf nm A3 k3 c3 _ Hl3.out hnm (by omega)).mono ?_; rintro e w8 ⟨rfl, hb8⟩; rw [Hcw3.out, errK])
    | ((with_reducible show wpList _ _ _ (⟨some 102, _, _, _, _, _⟩ :: _) _ _); refine wpList_load_rowG rfl 35 (.tmp 10) rfl (w6.heap.size) rfl 35 (shaL h n (.slice A6 k6 c6)).toArray (0, 0) _ (hX7.below hb8 hX7.lt).2 Tryd.underlying35 rfl I6.out ?_)
    | ((with_reducible show wpList _ _ _ (⟨some 103, _, _, _, _, _⟩ :: _) _ _); refine wpList_load_rowG rfl 35 (.tmp 2) rfl (w.heap.size) rfl 35 (shaL h n (.slice A k6 c)).toArray (0, 0) _ (hS7.below hb8 hS7.lt).2 Tryd.underlying35 rfl I10.out ?_)
    | (go_at_call 22; refine (pSame_any h h n n A6 A k6 c6 k6 c rest rest _ Hh.out Hh.out ((hR7.below hb8).more hb8.size) ((hr.below (hB7.trans (hb8.mono hB7.size))).more (hB7.trans (hb8.mono hB7.size)).size)).mono ?_; rintro e w9 ⟨rfl, hb9⟩; rw [sameSha_refl]))
  go_ret
  exact ⟨rfl, hB7.trans ((hb8.trans (hb9.mono hb8.size)).mono hB7.size)⟩

theorem walk_ShaLong (h : List UInt32) (n : Nat) (A : Option Addr) (k c : Nat) (rest : List UInt8) (Ab : Option Addr) (m cb : Nat) (b : List UInt8) (w : World) (hh : h.length = 8) (hn : n < 18446744073709551616) (hkc : k ≤ c) (hcm : c ≤ maxLen) (hr : Rd w w.heap.size A k (rest.map bv))
    (hmc : m ≤ cb) (hcb : cb ≤ maxLen) (hb : Rd w w.heap.size Ab m (b.map bv)) (hT : CTab w) :
    Calls Tryd.prog 6 #[.agg (shaL h n (.slice A k c)).toArray, .slice Ab m cb] w fun e w' => e = .returned (.bool true) ∧ Below w.heap.size w w' := by
  have hk : k ≤ 9223372036854775807 := by simp [maxLen] at hcm; omega
  have hm : m ≤ 9223372036854775807 := by simp [maxLen] at hcb; omega
  by_cases h1 : 2000 < m ∨ 200 < k
  · exact Long_a h n A k c rest Ab m cb b w hh hn hk hm hmc hr hb hT h1
  · cases hc : chkU h n k
    · exact Long_c h n A k c rest Ab m cb b w hh hn hk hm hmc hr hb hT (by omega) (by omega) hc
    · by_cases hl : n + m ≤ 1099511627776
      · exact Long_e h n A k c rest Ab m cb b w hh hn hk hm hmc hr hb hT (by omega) (by omega) hc hl
      · exact Long_d h n A k c rest Ab m cb b w hh hn hk hm hmc hr hb hT (by omega) (by omega) hc (by omega)

end Go.Proofs.YtjgacdhoopecgaaDoor
