import Derived.Test.YtgjeamapgdakcaaDoorG33
import Derived.Test.YtgjeamapgdakcaaDoorG10
/-
  CONTRACT of the document's own Same of keys (coterieref09).
-/
set_option linter.unusedVariables false
namespace Go.Proofs.YtgjeamapgdakcaaDoor
open Go.RowKit

/-- n keys lie there, one behind the other -/
def KeysAt (w : World) (A : Option Addr) (n : Nat) (xs : List UInt8) : Prop :=
  xs.length = n * 32 ∧ (0 < n → ∃ b, A = some ⟨b, 0, none⟩ ∧ b < w.heap.size ∧ w.rangeAt b 0 (xs.map bv))
theorem KeysAt.below {w w' : World} {A : Option Addr} {n : Nat} {xs : List UInt8} (h : KeysAt w A n xs) (hb : Below w.heap.size w w') : KeysAt w' A n xs :=
  ⟨h.1, fun hn => by
    obtain ⟨b, h1, h2, h3⟩ := h.2 hn
    exact ⟨b, h1, Nat.lt_of_lt_of_le h2 hb.size, fun j u hu => by
      rw [← h3 j u hu]
      exact hb.cell (p := ⟨b, 0 + j, none⟩) h2⟩⟩
theorem KeysAt.of_own {w : World} {base n c : Nat} {A : Option Addr} {xs : List UInt8} (h : w.ownsRow base 24 32 (.slice A n c) n (xs.map bv)) : KeysAt w A n xs := by
  refine ⟨by simpa using h.1, fun hn => ?_⟩
  rcases h.2 with ⟨_, h0⟩ | ⟨g, cap, cur, hv, _, hg, _, _, _, ht⟩
  · omega
  · injection hv with h1
    refine ⟨g, h1, (Array.getElem?_eq_some_iff.1 hg).1, fun j u hu => ?_⟩
    rw [← ht, List.getElem?_take] at hu
    split at hu
    · rw [Nat.zero_add, cell_of_row w g j cur 24 (0, 0) hg, ← Array.getElem?_toList]
      exact hu
    · cases hu
/-- key i -/
def keyAt (xs : List UInt8) (i : Nat) : List UInt8 := (xs.drop (i * 32)).take 32
theorem keyAt_len {xs : List UInt8} {n i : Nat} (h : xs.length = n * 32) (hi : i < n) : (keyAt xs i).length = 32 := by
  have : (i + 1) * 32 ≤ n * 32 := Nat.mul_le_mul_right _ hi
  rw [keyAt, List.length_take, List.length_drop, h]
  omega
theorem keyAt_range {w : World} {b : Nat} {xs : List UInt8} (h : w.rangeAt b 0 (xs.map bv)) (i : Nat) : w.rangeAt b (i * 32) (keyC (keyAt xs i)).toList := fun j u hu => by
  have hu' : ((keyAt xs i).map bv)[j]? = some u := by simpa [keyC] using hu
  rw [List.getElem?_map, keyAt, List.getElem?_take] at hu'
  split at hu'
  · rw [List.getElem?_drop, ← List.getElem?_map] at hu'
    have := h (i * 32 + j) u hu'
    rwa [Nat.zero_add] at this
  · simp at hu'
theorem keyAt_at {xs : List UInt8} {q : Nat} : xs[q]? = (keyAt xs (q / 32))[q % 32]? := by
  rw [keyAt, List.getElem?_take, if_pos (Nat.mod_lt _ (by omega)), List.getElem?_drop]
  congr 1
  omega
theorem keys_eq {xs ys : List UInt8} {n : Nat} (hx : xs.length = n * 32) (hy : ys.length = n * 32) (h : ∀ i, i < n → keyAt xs i = keyAt ys i) : xs = ys := by
  apply List.ext_getElem?
  intro q
  by_cases hq : q < n * 32
  · rw [keyAt_at, keyAt_at (xs := ys), h (q / 32) (by omega)]
  · rw [List.getElem?_eq_none (by omega), List.getElem?_eq_none (by omega)]
theorem neq_keyD (w : World) (a b : List UInt8) (ha : a.length = 32) (hb : b.length = 32) :
    (binOp .neq 24 (.agg (keyC a)) (.agg (keyC b))).run Tryd.prog w = .ok (.bool (!(a == b))) w := by
  obtain ⟨i, hi⟩ := byte_info
  rw [run_neq_struct, keyC, keyC, run_eqlRow w false Tryd.underlying24 Tryd.underlying5 hi byteCells bv (fun x => (x.toNat : Int)) (fun _ => rfl) bv_inj 0 a b ha hb]
  rfl

set_option maxRecDepth 100000 in
set_option maxHeartbeats 2000000 in
theorem RDSame (A A' : Option Addr) (k c k' c' : Nat) (xs ys : List UInt8) (w : World) (hk : k ≤ 1000000) (hk' : k' ≤ 1000000) (hx : KeysAt w A k xs) (hy : KeysAt w A' k' ys) :
    Calls Tryd.prog 17 #[.slice A k c, .slice A' k' c'] w fun e w' => e = .returned (.bool (xs == ys)) ∧ Below w.heap.size w w' := by
  go_enter Tryd.func17, Tryd.ntmps17
  by_cases hkk : k = k'
  rotate_left
  · have h1 : ¬ (k : Int) = (k' : Int) := by omega
    have He := Lib.hid (show (xs == ys) = false by
      rw [beq_eq_false_iff_ne]
      intro e
      have e1 := hx.1
      have e2 := hy.1
      rw [e] at e1
      omega)
    clear hkk
    go_wp2_with fail
    go_ret
    exact ⟨by rw [He.out]; rfl, c_refl _⟩
  subst hkk
  go_wp2_with fail
  go_loopw [13] (fun i wr => ∃ j : Nat, j ≤ k ∧ i = .int .i64 (j : Int) ∧ Hid (∀ q, q < j → keyAt xs q = keyAt ys q) ∧ Below w.heap.size w wr) (fun i _ => k - (intOf i).toNat)
  case atStart => exact ⟨0, by omega, rfl, Lib.hid (fun q hq => absurd hq (by omega)), c_refl _⟩
  case round =>
    obtain ⟨j, hj, rfl, hall, hB⟩ := hrel
    by_cases hlt : j < k
    · have j0 : (0 : Int) ≤ (j : Int) := by omega
      have j1 : (j : Int) < (k : Int) := by omega
      obtain ⟨b, rfl, hb, hrb⟩ := (hx.below hB).2 (by omega)
      obtain ⟨b', rfl, hb', hrb'⟩ := (hy.below hB).2 (by omega)
      have Hlx := Lib.hid (keyAt_len hx.1 hlt)
      have Hly := Lib.hid (keyAt_len hy.1 hlt)
      have hkeep : ∀ wx : World, Below wr.heap.size wr wx → wx.rangeAt b (j * 32) (keyC (keyAt xs j)).toList ∧ wx.rangeAt b' (j * 32) (keyC (keyAt ys j)).toList := fun wx hbx => by
        obtain ⟨b2, e2, _, h2⟩ := ((hx.below hB).below hbx).2 (by omega)
        obtain ⟨b3, e3, _, h3⟩ := ((hy.below hB).below hbx).2 (by omega)
        injection e2 with e2
        injection e2 with e2
        injection e3 with e3
        injection e3 with e3
        subst e2 e3
        exact ⟨keyAt_range h2 j, keyAt_range h3 j⟩
      have hne := fun wx => neq_keyD wx (keyAt xs j) (keyAt ys j) Hlx.out Hly.out
      have hun := Tryd.underlying24
      have hsx : (Tryd.prog.info? 24).map (·.size) = some (keyC (keyAt xs j)).toList.length := by simpa using sizeKey Hlx.out
      have hsy : (Tryd.prog.info? 24).map (·.size) = some (keyC (keyAt ys j)).toList.length := by simpa using sizeKey Hly.out
      obtain ⟨sb, hsb⟩ : ∃ sb, (keyAt xs j == keyAt ys j) = sb := ⟨_, rfl⟩
      simp only [hsb] at hne
      have Hsb := Lib.hid hsb
      clear hrb hrb' hsb
      generalize hkx : keyAt xs j = kx at *
      generalize hky : keyAt ys j = ky at *
      have Hkx := Lib.hid hkx
      have Hky := Lib.hid hky
      clear hkx hky
      go_wp2_with fail
      refine beginT (fun wx => wx.rangeAt b (j * 32) (keyC kx).toList ∧ wx.rangeAt b' (j * 32) (keyC ky).toList) 9 (by kernel_rfl) ?_
      have hS := hkeep _ (c_drew (c_refl _))
      refine takeD 0 (some 16) (.slice (some ⟨b, 0, none⟩) k c) rfl rfl (by kernel_rfl) (by kernel_rfl) (by kernel_rfl) (by kernel_rfl) (fun _ _ _ h => h) (Or.inl ⟨by kernel_rfl, fun wx hSw => by go_simp⟩) hS ?_
      simp only [Act.put, List.setIfInBounds_toArray, List.set_cons_zero, List.set_cons_succ]
      refine takeD 1 (some 17) (.int .i64 (j : Int)) rfl rfl (by kernel_rfl) (by kernel_rfl) (by kernel_rfl) (by kernel_rfl) (fun _ _ _ h => h) (Or.inl ⟨by kernel_rfl, fun wx hSw => by go_simp⟩) hS ?_
      simp only [Act.put, List.setIfInBounds_toArray, List.set_cons_zero, List.set_cons_succ]
      refine takeD 2 (some 18) (.pointer (some ⟨b, j * 32, none⟩)) rfl rfl (by kernel_rfl) (by kernel_rfl) (by kernel_rfl) (by kernel_rfl) (fun _ _ _ h => h) (Or.inl ⟨by kernel_rfl, fun wx hSw => by go_simp⟩) hS ?_
      simp only [Act.put, List.setIfInBounds_toArray, List.set_cons_zero, List.set_cons_succ]
      refine loadT 3 (some 19) 24 (.tmp 18) b (j * 32) (keyC kx).toList rfl rfl (by kernel_rfl) (by kernel_rfl) (by kernel_rfl) (by kernel_rfl) rfl (by kernel_rfl) rfl (fun wx hSw => hSw.1) hun rfl hsx (fun _ _ _ h => h) hS ?_
      simp only [Act.put, List.setIfInBounds_toArray, List.set_cons_zero, List.set_cons_succ, Array.toArray_toList]
      refine takeD 4 (some 20) (.slice (some ⟨b', 0, none⟩) k c') rfl rfl (by kernel_rfl) (by kernel_rfl) (by kernel_rfl) (by kernel_rfl) (fun _ _ _ h => h) (Or.inl ⟨by kernel_rfl, fun wx hSw => by go_simp⟩) hS ?_
      simp only [Act.put, List.setIfInBounds_toArray, List.set_cons_zero, List.set_cons_succ]
      refine takeD 5 (some 21) (.int .i64 (j : Int)) rfl rfl (by kernel_rfl) (by kernel_rfl) (by kernel_rfl) (by kernel_rfl) (fun _ _ _ h => h) (Or.inl ⟨by kernel_rfl, fun wx hSw => by go_simp⟩) hS ?_
      simp only [Act.put, List.setIfInBounds_toArray, List.set_cons_zero, List.set_cons_succ]
      refine takeD 6 (some 22) (.pointer (some ⟨b', j * 32, none⟩)) rfl rfl (by kernel_rfl) (by kernel_rfl) (by kernel_rfl) (by kernel_rfl) (fun _ _ _ h => h) (Or.inl ⟨by kernel_rfl, fun wx hSw => by go_simp⟩) hS ?_
      simp only [Act.put, List.setIfInBounds_toArray, List.set_cons_zero, List.set_cons_succ]
      refine loadT 7 (some 23) 24 (.tmp 22) b' (j * 32) (keyC ky).toList rfl rfl (by kernel_rfl) (by kernel_rfl) (by kernel_rfl) (by kernel_rfl) rfl (by kernel_rfl) rfl (fun wx hSw => hSw.2) hun rfl hsy (fun _ _ _ h => h) hS ?_
      simp only [Act.put, List.setIfInBounds_toArray, List.set_cons_zero, List.set_cons_succ, Array.toArray_toList]
      refine takeD 8 (some 24) (.bool (!sb)) rfl rfl (by kernel_rfl) (by kernel_rfl) (by kernel_rfl) (by kernel_rfl) (fun _ _ _ h => h) (Or.inl ⟨by kernel_rfl, fun wx hSw => by go_simp⟩) hS ?_
      simp only [Act.put, List.setIfInBounds_toArray, List.set_cons_zero, List.set_cons_succ]
      refine doneT (by kernel_rfl) ?_ _
      have hE : Below w.heap.size w wr.drew := c_drew hB
      cases sb
      · have He := Lib.hid (show (xs == ys) = false by
          rw [beq_eq_false_iff_ne]
          intro e
          have h1 := Hsb.out
          rw [beq_eq_false_iff_ne, ← Hkx.out, ← Hky.out, e] at h1
          exact h1 rfl)
        go_wp2_with fail
        go_ret
        exact ⟨by rw [He.out]; rfl, hE⟩
      · go_wp2_with fail
        go_roundw
        case rel =>
          refine ⟨j + 1, by omega, by go_num, Lib.hid (fun q hq => ?_), hE⟩
          rcases Nat.lt_or_ge q j with h | h
          · exact hall.out q h
          · obtain rfl : q = j := by omega
            rw [Hkx.out, Hky.out]
            have h1 := Hsb.out
            rwa [beq_iff_eq] at h1
        case measure => simp [intOf]; omega
    · obtain rfl : j = k := by omega
      have He := Lib.hid (show (xs == ys) = true by
        rw [beq_iff_eq]
        exact keys_eq hx.1 hy.1 hall.out)
      go_wp2_with fail
      go_ret
      exact ⟨by rw [He.out]; rfl, hB⟩

end Go.Proofs.YtgjeamapgdakcaaDoor

/-
  WHAT LAYER 9's CALLS OF THE PROGRAM ANSWER, as hypotheses of the walks, and the walk of the laws' live (coterielaw09).
-/
set_option linter.unusedVariables false
namespace Go.Proofs.YtgjeamapgdakcaaDoor
open Go.RowKit

def HPN : Prop := ∀ (At : Option Addr) (mt ct : Nat) (vs : List Value) (ts : List (List UInt8)) (w : World), mt ≤ ct → ct ≤ maxLen → mt ≤ 200 → (GoodT ts → (txs ts).length ≤ 536870912) → Rd w w.heap.size At mt vs → Txs w w.heap.size vs ts → CTab w →
  Calls Tryd.prog 9 #[.slice At mt ct] w (NewPostD w ts)
def HPC : Prop := ∀ (s : List UInt8) (N : Nat) (w : World), s.length = 32 → N < 18446744073709551616 → Calls Tryd.prog 18 #[.agg (drC s N)] w fun e w' => e = .returned (.int .i64 (chkV N)) ∧ Below w.heap.size w w'
def HPX : Prop := ∀ (s : List UInt8) (N : Nat) (w : World), s.length = 32 → N < 18446744073709551616 → CTab w → Calls Tryd.prog 11 #[.agg (drC s N)] w fun e w' => e = .returned (nextV s N) ∧ Below w.heap.size w w'
def HPM : Prop := ∀ (s : List UInt8) (N : Nat) (n : Int) (w : World), s.length = 32 → N < 18446744073709551616 → -9223372036854775808 ≤ n → n ≤ 9223372036854775807 → CTab w → Calls Tryd.prog 13 #[.agg (drC s N), .int .i64 n] w (ManyPostD w s N n)
def HPF : Prop := ∀ (s : List UInt8) (N : Nat) (l : ByteArray) (w : World), s.length = 32 → N < 18446744073709551616 → l.size ≤ 70000 → CTab w → Calls Tryd.prog 15 #[.agg (drC s N), .string l] w fun e w' => e = .returned (forkV s N (strB l)) ∧ Below w.heap.size w w'
theorem nextV_ok {s : List UInt8} {N : Nat} (h : N < 4294967296) : nextV s N = .tuple #[.agg (keyC (drawU s N)), .agg (drC s (N + 1)), .int .i64 0] := by
  rw [nextV, if_pos (by rw [errN, if_neg (by omega), if_neg (by omega)])]
  rfl

set_option maxRecDepth 100000 in
set_option maxHeartbeats 2000000 in
theorem live09 (hN : HPN) (hX : HPX) (w : World) (hT : CTab w) :
    Calls Tryd.prog 7 #[] w fun e w' => e = .returned (.bool true) ∧ Below w.heap.size w w' := by
  have f1 : Rd (w.alloc (.cells #[.int .u8 97] 5 (1, 2))) (w.alloc (.cells #[.int .u8 97] 5 (1, 2))).heap.size (some ⟨w.heap.size, 0, none⟩) 1 (([97] : List UInt8).map bv) := Rd.mkFr _ _ _ _ rfl (by simp) rfl rfl
  have h1 : Below w.heap.size w (w.alloc (.cells #[.int .u8 97] 5 (1, 2))) := d_al _ _
  have h0 : w.heap.size + 1 = (w.alloc (.cells #[.int .u8 97] 5 (1, 2))).heap.size := by simp
  have K0 := Lib.hid (Go.Joins.run_convert_bytes_const_at (P := Tryd.prog) w 45 5 #[.int .u8 97] 1 1 w.heap.size rfl Tryd.underlying45 Tryd.underlying5)
  have hg : GoodT [[97]] := fun i t h => by
    match i, h with
    | 0, h => injection h with h; subst h; decide
  have hsl := newK_len [[97]]
  have hne := draw_live
  obtain ⟨s, hse⟩ : ∃ s, s = newK [[97]] := ⟨_, rfl⟩
  have hx : ∀ wx, CTab wx → Calls Tryd.prog 11 #[.agg (drC s 0)] wx fun e w' => e = .returned (.tuple #[.agg (keyC (drawU s 0)), .agg (drC s 1), .int .i64 0]) ∧ Below wx.heap.size wx w' := fun wx h => by
    have := hX s 0 wx (by rw [hse]; exact hsl) (by omega) h
    rwa [nextV_ok (by omega)] at this
  rw [← hse] at hsl hne
  have hPN : ∀ wx e w', NewPostD wx [[97]] e w' → e = .returned (.tuple #[.agg (drC s 0), .int .i64 0]) ∧ Below wx.heap.size wx w' := by
    rintro wx e w' ⟨hb, ⟨_, h⟩ | ⟨h, _⟩⟩
    · rw [hse]
      exact ⟨h, hb⟩
    · exact absurd hg h
  have Hs0 := Lib.hid (sizeDr 0 hsl)
  have Ho0 := Lib.hid (one_dr s 0)
  have Hz0 := Lib.hid (show (#[.int .u8 0, .int .u8 0, .int .u8 0, .int .u8 0, .int .u8 0, .int .u8 0, .int .u8 0, .int .u8 0, .int .u8 0, .int .u8 0, .int .u8 0, .int .u8 0, .int .u8 0, .int .u8 0, .int .u8 0, .int .u8 0, .int .u8 0, .int .u8 0, .int .u8 0, .int .u8 0, .int .u8 0, .int .u8 0, .int .u8 0, .int .u8 0, .int .u8 0, .int .u8 0, .int .u8 0, .int .u8 0, .int .u8 0, .int .u8 0, .int .u8 0, .int .u8 0, .int .u64 0] : Array Value).size = (drC s 0).size by rw [drC_size 0 hsl]; rfl)
  have Hs1 := Lib.hid (sizeDr 1 hsl)
  have Ho1 := Lib.hid (one_dr s 1)
  have Hz1 := Lib.hid (show (#[.int .u8 0, .int .u8 0, .int .u8 0, .int .u8 0, .int .u8 0, .int .u8 0, .int .u8 0, .int .u8 0, .int .u8 0, .int .u8 0, .int .u8 0, .int .u8 0, .int .u8 0, .int .u8 0, .int .u8 0, .int .u8 0, .int .u8 0, .int .u8 0, .int .u8 0, .int .u8 0, .int .u8 0, .int .u8 0, .int .u8 0, .int .u8 0, .int .u8 0, .int .u8 0, .int .u8 0, .int .u8 0, .int .u8 0, .int .u8 0, .int .u8 0, .int .u8 0, .int .u64 0] : Array Value).size = (drC s 1).size by rw [drC_size 1 hsl]; rfl)
  have hkl := drawU_len s 0
  have Hsk := Lib.hid (sizeKey hkl)
  have Hok := Lib.hid (one_keyF (drawU s 0))
  have Hzk := Lib.hid (show (#[.int .u8 0, .int .u8 0, .int .u8 0, .int .u8 0, .int .u8 0, .int .u8 0, .int .u8 0, .int .u8 0, .int .u8 0, .int .u8 0, .int .u8 0, .int .u8 0, .int .u8 0, .int .u8 0, .int .u8 0, .int .u8 0, .int .u8 0, .int .u8 0, .int .u8 0, .int .u8 0, .int .u8 0, .int .u8 0, .int .u8 0, .int .u8 0, .int .u8 0, .int .u8 0, .int .u8 0, .int .u8 0, .int .u8 0, .int .u8 0, .int .u8 0, .int .u8 0] : Array Value).size = (keyC (drawU s 0)).size by rw [keyC_size, hkl]; rfl)
  have hq := fun wx => eql_keyF wx (drawU s 0) (drawU s 0) hkl hkl
  simp only [beq_self_eq_true] at hq
  have hz := fun wx => eql_keyF wx (drawU s 0) zeroD hkl zeroD_len
  rw [keyZD, beq_eq_false_iff_ne.2 hne] at hz
  have Hsl := Lib.hid hsl
  clear hX hg hsl hne hse hkl
  generalize drawU s 0 = kk at *
  go_enter Tryd.func7, Tryd.ntmps7
  go_wp2_with fail
  rw [K0.out]
  clear K0
  generalize w.alloc (.cells #[.int .u8 97] 5 (1, 2)) = wa at *
  have h2 := d_al wa (.cells #[.slice (some ⟨w.heap.size, 0, none⟩) 1 1] 45)
  have h12 := c_call h1 h2
  have hcall := hN (some ⟨wa.heap.size, 0, none⟩) 1 1 [.slice (some ⟨w.heap.size, 0, none⟩) 1 1] [[97]] (wa.alloc (.cells #[.slice (some ⟨w.heap.size, 0, none⟩) 1 1] 45)) (Nat.le_refl _) (by simp [maxLen]) (by omega) (fun _ => by simp [txs, be_length]) (Rd.mk_ _ _ _ rfl (by simp) rfl rfl) (txs_one1 rfl (Nat.le_refl _) (d_rd f1 h2)) (hT.below h12)
  clear h0 hN f1
  go_wp2_with fail
  refine hcall.mono ?_
  intro e w3 hP
  obtain ⟨rfl, hb3⟩ := hPN _ e w3 hP
  have hM3 := ((Ms.nil w).call (c_call h12 hb3)).put 27 #[.int .u8 0, .int .u8 0, .int .u8 0, .int .u8 0, .int .u8 0, .int .u8 0, .int .u8 0, .int .u8 0, .int .u8 0, .int .u8 0, .int .u8 0, .int .u8 0, .int .u8 0, .int .u8 0, .int .u8 0, .int .u8 0, .int .u8 0, .int .u8 0, .int .u8 0, .int .u8 0, .int .u8 0, .int .u8 0, .int .u8 0, .int .u8 0, .int .u8 0, .int .u8 0, .int .u8 0, .int .u8 0, .int .u8 0, .int .u8 0, .int .u8 0, .int .u8 0, .int .u64 0] (drC s 0)
  clear hcall hPN hP h1 h2 h12 hb3
  go_wp2_with (first
    | ((with_reducible show wpList _ _ _ (⟨none, Op.store 27 _ _, _, _, _, _⟩ :: _) _ _); refine wpList_store_row rfl 27 (.tmp 1) (.tmp 14) rfl (w3.heap.size) (drC s 0) rfl rfl 27 _ (RowC.new _ _ _) Hs0.out Hz0.out Ho0.out ?_)
    | ((with_reducible show wpList _ _ _ (⟨some 17, _, _, _, _, _⟩ :: _) _ _); refine wpList_loadC (by kernel_rfl) 27 (.tmp 1) rfl (w3.heap.size) rfl 27 (drC s 0) _ (hM3.get 0 rfl) Tryd.underlying27 rfl Hs0.out ?_))
  refine (hx _ (hT.below hM3.old)).mono ?_
  rintro e w4 ⟨rfl, hb4⟩
  have hM4 := hM3.call hb4
  clear hM3 hb4
  have hB5 := (hM4.box 24 #[.int .u8 0, .int .u8 0, .int .u8 0, .int .u8 0, .int .u8 0, .int .u8 0, .int .u8 0, .int .u8 0, .int .u8 0, .int .u8 0, .int .u8 0, .int .u8 0, .int .u8 0, .int .u8 0, .int .u8 0, .int .u8 0, .int .u8 0, .int .u8 0, .int .u8 0, .int .u8 0, .int .u8 0, .int .u8 0, .int .u8 0, .int .u8 0, .int .u8 0, .int .u8 0, .int .u8 0, .int .u8 0, .int .u8 0, .int .u8 0, .int .u8 0, .int .u8 0]).box 27 #[.int .u8 0, .int .u8 0, .int .u8 0, .int .u8 0, .int .u8 0, .int .u8 0, .int .u8 0, .int .u8 0, .int .u8 0, .int .u8 0, .int .u8 0, .int .u8 0, .int .u8 0, .int .u8 0, .int .u8 0, .int .u8 0, .int .u8 0, .int .u8 0, .int .u8 0, .int .u8 0, .int .u8 0, .int .u8 0, .int .u8 0, .int .u8 0, .int .u8 0, .int .u8 0, .int .u8 0, .int .u8 0, .int .u8 0, .int .u8 0, .int .u8 0, .int .u8 0, .int .u64 0]
  have hg5 := hM4.old.size
  have hn5 := fun p hp => Nat.ne_of_lt ((hM4.rows p hp).lt)
  have hm5 := fun p hp => Nat.ne_of_lt (((hM4.box 24 #[.int .u8 0, .int .u8 0, .int .u8 0, .int .u8 0, .int .u8 0, .int .u8 0, .int .u8 0, .int .u8 0, .int .u8 0, .int .u8 0, .int .u8 0, .int .u8 0, .int .u8 0, .int .u8 0, .int .u8 0, .int .u8 0, .int .u8 0, .int .u8 0, .int .u8 0, .int .u8 0, .int .u8 0, .int .u8 0, .int .u8 0, .int .u8 0, .int .u8 0, .int .u8 0, .int .u8 0, .int .u8 0, .int .u8 0, .int .u8 0, .int .u8 0, .int .u8 0]).rows p hp).lt)
  simp only [World.size_alloc] at hB5 hm5
  have hM5 := Ms.set2 (ds := (keyC kk)) (ds' := (drC s 1)) hB5.swap hg5 (by omega) (by omega) hn5 (fun p hp => hm5 p (List.mem_cons_of_mem _ hp))
  go_wp2_with (first
    | ((with_reducible show wpList _ _ _ (⟨none, Op.store 24 _ _, _, _, _, _⟩ :: _) _ _); refine wpList_store_row rfl 24 (.tmp 3) (.tmp 19) rfl (w4.heap.size) (keyC kk) rfl rfl 24 _ (hB5.get 1 rfl) Hsk.out Hzk.out Hok.out ?_)
    | ((with_reducible show wpList _ _ _ (⟨none, Op.store 27 _ _, _, _, _, _⟩ :: _) _ _); refine wpList_store_row rfl 27 (.tmp 4) (.tmp 20) rfl (w4.heap.size + 1) (drC s 1) rfl rfl 27 _ ((hB5.get 0 rfl).rowFar (by omega) _) Hs1.out Hz1.out Ho1.out ?_)
    | ((with_reducible show wpList _ _ _ (⟨some 23, _, _, _, _, _⟩ :: _) _ _); refine wpList_loadC (by kernel_rfl) 27 (.tmp 1) rfl (w3.heap.size) rfl 27 (drC s 0) _ (hM5.get 2 rfl) Tryd.underlying27 rfl Hs0.out ?_))
  refine (hx _ (hT.below hM5.old)).mono ?_
  rintro e w6 ⟨rfl, hb6⟩
  have hM6 := hM5.call hb6
  clear hM5 hb6 hM4 hB5 hg5 hn5 hm5
  have hB7 := (hM6.box 24 #[.int .u8 0, .int .u8 0, .int .u8 0, .int .u8 0, .int .u8 0, .int .u8 0, .int .u8 0, .int .u8 0, .int .u8 0, .int .u8 0, .int .u8 0, .int .u8 0, .int .u8 0, .int .u8 0, .int .u8 0, .int .u8 0, .int .u8 0, .int .u8 0, .int .u8 0, .int .u8 0, .int .u8 0, .int .u8 0, .int .u8 0, .int .u8 0, .int .u8 0, .int .u8 0, .int .u8 0, .int .u8 0, .int .u8 0, .int .u8 0, .int .u8 0, .int .u8 0]).box 27 #[.int .u8 0, .int .u8 0, .int .u8 0, .int .u8 0, .int .u8 0, .int .u8 0, .int .u8 0, .int .u8 0, .int .u8 0, .int .u8 0, .int .u8 0, .int .u8 0, .int .u8 0, .int .u8 0, .int .u8 0, .int .u8 0, .int .u8 0, .int .u8 0, .int .u8 0, .int .u8 0, .int .u8 0, .int .u8 0, .int .u8 0, .int .u8 0, .int .u8 0, .int .u8 0, .int .u8 0, .int .u8 0, .int .u8 0, .int .u8 0, .int .u8 0, .int .u8 0, .int .u64 0]
  have hg7 := hM6.old.size
  have hn7 := fun p hp => Nat.ne_of_lt ((hM6.rows p hp).lt)
  have hm7 := fun p hp => Nat.ne_of_lt (((hM6.box 24 #[.int .u8 0, .int .u8 0, .int .u8 0, .int .u8 0, .int .u8 0, .int .u8 0, .int .u8 0, .int .u8 0, .int .u8 0, .int .u8 0, .int .u8 0, .int .u8 0, .int .u8 0, .int .u8 0, .int .u8 0, .int .u8 0, .int .u8 0, .int .u8 0, .int .u8 0, .int .u8 0, .int .u8 0, .int .u8 0, .int .u8 0, .int .u8 0, .int .u8 0, .int .u8 0, .int .u8 0, .int .u8 0, .int .u8 0, .int .u8 0, .int .u8 0, .int .u8 0]).rows p hp).lt)
  simp only [World.size_alloc] at hB7 hm7
  have hM7 := Ms.set2 (ds := (keyC kk)) (ds' := (drC s 1)) hB7.swap hg7 (by omega) (by omega) hn7 (fun p hp => hm7 p (List.mem_cons_of_mem _ hp))
  have hn := (hM7.get 3 rfl).nth Hsl.out
  go_wp2_with (first
    | ((with_reducible show wpList _ _ _ (⟨none, Op.store 24 _ _, _, _, _, _⟩ :: _) _ _); refine wpList_store_row rfl 24 (.tmp 6) (.tmp 25) rfl (w6.heap.size) (keyC kk) rfl rfl 24 _ (hB7.get 1 rfl) Hsk.out Hzk.out Hok.out ?_)
    | ((with_reducible show wpList _ _ _ (⟨none, Op.store 27 _ _, _, _, _, _⟩ :: _) _ _); refine wpList_store_row rfl 27 (.tmp 7) (.tmp 26) rfl (w6.heap.size + 1) (drC s 1) rfl rfl 27 _ ((hB7.get 0 rfl).rowFar (by omega) _) Hs1.out Hz1.out Ho1.out ?_)
    | ((with_reducible show wpList _ _ _ (⟨some 39, _, _, _, _, _⟩ :: _) _ _); refine wpList_loadC (by kernel_rfl) 24 (.tmp 3) rfl (w4.heap.size) rfl 24 (keyC kk) _ (hM7.get 2 rfl) Tryd.underlying24 rfl Hsk.out ?_)
    | ((with_reducible show wpList _ _ _ (⟨some 40, _, _, _, _, _⟩ :: _) _ _); refine wpList_loadC (by kernel_rfl) 24 (.tmp 6) rfl (w6.heap.size) rfl 24 (keyC kk) _ (hM7.get 0 rfl) Tryd.underlying24 rfl Hsk.out ?_)
    | ((with_reducible show wpList _ _ _ (⟨some 49, _, _, _, _, _⟩ :: _) _ _); refine wpList_loadC (by kernel_rfl) 24 (.tmp 3) rfl (w4.heap.size) rfl 24 (keyC kk) _ (hM7.get 2 rfl) Tryd.underlying24 rfl Hsk.out ?_))
  go_ret
  exact ⟨rfl, hM7.old⟩

end Go.Proofs.YtgjeamapgdakcaaDoor

