import Derived.Test.YtbiijdboolpaeaaGreatDoorH08
import Derived.Test.YtbiijdboolpaeaaGreatDoorH11
import Derived.Test.YtbiijdboolpaeaaGreatDoorH33
import Derived.Test.YtbiijdboolpaeaaGreatDoorH04
set_option linter.unusedVariables false
namespace Go.Proofs.YtbiijdboolpaeaaGreatDoor
open Go.RowKit
theorem keyAt {k : List UInt8} (h : k.length = 16) {j p : Nat} (hj : j < 11) (hp : p < 16) : at0 (keysU k) (16 * j + p) = at0 (keyU k j) p := by
 rw [keysU_kTo]
 unfold at0
 rw [List.getD_eq_getElem?_getD, kTo_at h hp 11 hj, List.getD_eq_getElem?_getD]
theorem word_first {k : List UInt8} (h : k.length = 16) {p : Nat} (hp : p < 16) : at0 (keysU k) p = at0 k p := by
 have := keyAt h (j := 0) (p := p) (by omega) hp
 rwa [show 16 * 0 + p = p by omega] at this
def tW (F : List UInt8) (i n : Nat) : UInt8 := if i % 4 = 0 then boxU (at0 F (4 * (i - 1) + (n + 1) % 4)) ^^^ (if n = 0 then markU ((i - 1) / 4) else 0) else at0 F (4 * (i - 1) + n)
theorem word_next {k : List UInt8} (h : k.length = 16) {i n : Nat} (hi : 4 ≤ i) (hi2 : i < 44) (hn : n < 4) :
  at0 (keysU k) (4 * i + n) = at0 (keysU k) (4 * (i - 4) + n) ^^^ tW (keysU k) i n := by
 obtain ⟨j, c, hc, rfl⟩ : ∃ j c, c < 4 ∧ i = 4 * (j + 1) + c := ⟨i / 4 - 1, i % 4, by omega, by omega⟩
 have e1 : at0 (keysU k) (4 * (4 * (j + 1) + c) + n) = wordK (keyU k j) (markU j) (c + 1) n := by
  rw [show 4 * (4 * (j + 1) + c) + n = 16 * (j + 1) + (n + 4 * c) by omega, keyAt h (by omega) (by omega), keyU, nextU, at0_map (nextF (keyU k j) (markU j)) (by omega)]
  unfold nextF
  rw [show (n + 4 * c) / 4 = c by omega, show (n + 4 * c) % 4 = n by omega]
 have e2 : at0 (keysU k) (4 * (4 * (j + 1) + c - 4) + n) = at0 (keyU k j) (n + 4 * c) := by
  rw [show 4 * (4 * (j + 1) + c - 4) + n = 16 * j + (n + 4 * c) by omega, keyAt h (by omega) (by omega)]
 have e3 : tW (keysU k) (4 * (j + 1) + c) n = wordK (keyU k j) (markU j) c n := by
  unfold tW
  rcases c with _ | c
  ·
   rw [if_pos (by omega), show 4 * (4 * (j + 1) + 0 - 1) + (n + 1) % 4 = 16 * j + (12 + (n + 1) % 4) by omega, keyAt h (by omega) (by omega), show (4 * (j + 1) + 0 - 1) / 4 = j by omega]
   rfl
  ·
   rw [if_neg (by omega), show 4 * (4 * (j + 1) + (c + 1) - 1) + n = 16 * (j + 1) + (n + 4 * c) by omega, keyAt h (by omega) (by omega), keyU, nextU, at0_map (nextF (keyU k j) (markU j)) (by omega)]
   unfold nextF
   rw [show (n + 4 * c) / 4 = c by omega, show (n + 4 * c) % 4 = n by omega]
 rw [e1, e2, e3, UInt8.xor_comm]
 rfl
theorem info176 : (Tryz.prog.info? 136).map (fun i => (i.zero, i.size, i.bytes)) = some (some (.agg (cz 176)), 176, 176) := by kernel_rfl
theorem zero176 (w : World) : (zeroValue 136).run Tryz.prog w = .ok (.agg (cz 176)) w := by
 obtain ⟨i0, hi0, hz0, hz1, hz2⟩ := info_parts info176
 exact run_zero_of hi0 hz0 w
theorem size176 : (Tryz.prog.info? 136).map (·.size) = some 176 := by kernel_rfl
theorem keysU_len {k : List UInt8} (h : k.length = 16) : (keysU k).length = 176 := by rw [keysU_kTo, kTo_len h]
theorem infoW : (Tryz.prog.info? 159).map (fun i => (i.zero, i.size, i.bytes)) = some (some (.agg (cz 176)), 176, 176) := by kernel_rfl
theorem zeroW (w : World) : (zeroValue 159).run Tryz.prog w = .ok (.agg (cz 176)) w := by
 obtain ⟨i0, hi0, hz0, hz1, hz2⟩ := info_parts infoW
 exact run_zero_of hi0 hz0 w
theorem sizeW : (Tryz.prog.info? 159).map (·.size) = some 176 := by kernel_rfl
def kwU (F : List UInt8) (n : Nat) : List UInt8 := upto (at0 F) (fun _ => 0) 176 n
theorem kU_zero (F : List UInt8) : kwU F 0 = List.replicate 176 0 := by
 rw [kwU, upto_zero]
 exact List.eq_replicate_iff.2 ⟨by rw [List.length_map, List.length_range], fun b hb => by obtain ⟨_, _, rfl⟩ := List.mem_map.1 hb; rfl⟩
theorem kU_all {F : List UInt8} (h : F.length = 176) : kwU F 176 = F := by rw [kwU, upto_all, map_at0 h]
theorem kwU_len (F : List UInt8) (n : Nat) : (kwU F n).length = 176 := upto_len _ _ _ _
theorem kU_word (F : List UInt8) (i : Nat) (hi : i < 44) : splice (kwU F (i * 4)) (i * 4) [at0 F (i * 4), at0 F (i * 4 + 1), at0 F (i * 4 + 2), at0 F (i * 4 + 3)] = kwU F ((i + 1) * 4) := by
 have h3 : kwU F ((i + 1) * 4) = ((((kwU F (i * 4)).set (i * 4) (at0 F (i * 4))).set (i * 4 + 1) (at0 F (i * 4 + 1))).set (i * 4 + 2) (at0 F (i * 4 + 2))).set (i * 4 + 3) (at0 F (i * 4 + 3)) := by
  rw [show (i + 1) * 4 = i * 4 + 3 + 1 by omega]
  unfold kwU
  rw [upto_succ, upto_succ, upto_succ, upto_succ]
 rw [h3]
 rw [← splice_set _ _ _ _ (by simp [kwU_len]; omega), ← splice_set _ _ _ _ (by simp [kwU_len]; omega), ← splice_set _ _ _ _ (by simp [kwU_len]; omega), ← splice_set _ _ _ _ (by simp [kwU_len]; omega)]
 simp [splice]
theorem there_of {w : World} {g : Nat} {t : TypeId} {l : List UInt8} (h : ArrB w g t l) {o n : Nat} (hn : o + n ≤ l.length) : w.there g o n := fun j hj =>
 ⟨by rw [h.cell (at0_of (show o + j < l.length by omega))]; rfl, h.frozen _⟩
theorem ArrB.splice_ {w : World} {g : Nat} {t : TypeId} {l l' cs : List UInt8} {o : Nat} (h : ArrB w g t l) (ho : o + cs.length ≤ l.length) (hl : splice l o cs = l') : ArrB (w.setCells g o (cs.map bv)) g t l' := by
 have h2 := setCells_heap g t (cs.map bv) (l.map bv) o w h (by simpa using ho)
 rw [splice_bytes, hl] at h2
 exact h2
theorem ArrB.mid {w : World} {g : Nat} {t : TypeId} {l cs : List UInt8} {o : Nat} (h : ArrB w g t l) (hc : ∀ j x, cs[j]? = Option.some x → l[o + j]? = Option.some x) : w.rangeAt g o (cs.map bv) := by
 intro j u hu
 rw [List.getElem?_map] at hu
 obtain ⟨x, hx, rfl⟩ := Option.map_eq_some_iff.1 hu
 exact h.cell (hc j x hx)
theorem four_at {a b c d : UInt8} {P : Nat → UInt8 → Prop} (h0 : P 0 a) (h1 : P 1 b) (h2 : P 2 c) (h3 : P 3 d) : ∀ j x, [a, b, c, d][j]? = some x → P j x
 | 0, x, h => by simp at h; subst h; exact h0
 | 1, x, h => by simp at h; subst h; exact h1
 | 2, x, h => by simp at h; subst h; exact h2
 | 3, x, h => by simp at h; subst h; exact h3
 | n + 4, x, h => by simp at h
theorem kU_done {F : List UInt8} {n p : Nat} (hp : p < n) (hn : n ≤ 176) : (kwU F n)[p]? = some (at0 F p) := upto_done _ _ (by omega) hp
theorem kU_old {F : List UInt8} {n : Nat} (hn : n < 176) : (kwU F n)[n]? = some 0 := upto_old _ _ hn (Nat.le_refl _)
theorem kU_set (F : List UInt8) (n : Nat) : (kwU F n).set n (at0 F n) = kwU F (n + 1) := (upto_succ _ _ _ _).symm
theorem wpList_index_row {ops : Array Oper} {rest : List Oper} {o : Oper} {a : Act} {w : World} {Q : Exit → Act → World → Prop} (hg : o.guard = none) (dst : Option Tmp) (hdst : o.dst = dst)
  (x ix : Operand) (ho : o.op = .index 159 x ix) (cs : Array Value) (hx : a.eval x = .agg cs) (j : Nat) (hi : a.eval ix = .int .i64 (j : Int)) (v : Array Value) (hv : cs.extract (j * 4) (j * 4 + 4) = v) (hvs : v.size = 4) (hj : j < 44)
  (h : wpList Tryz.prog ops Q rest (a.put dst (.agg v)) w) : wpList Tryz.prog ops Q (o :: rest) a w := by
 refine Go.Great.wpList_readTo hg dst hdst (.agg v) ?_ h
 obtain ⟨i4, hi4, hs4⟩ : ∃ i, Tryz.prog.info? 143 = some i ∧ i.size = 4 := by
  have := info4
  cases hq : Tryz.prog.info? 143 with
  | none => rw [hq] at this; cases this
  | some i => exact ⟨i, rfl, by rw [hq] at this; simpa using this⟩
 simp only [execOp, ho, hx, hi]
 have hj2 : (j : Int) < 44 := by omega
 simp [Instr.index, run_underlying Tryz.underlying159, asIntOf, sizeOf, typeInfo, hi4, hs4, part, isAgg, run_underlying Tryz.underlying143, hv]
 intro h44
 omega
theorem ext4 {F : List UInt8} (hl : F.length = 176) {i : Nat} (hi : i < 44) :
  ((F.map bv).toArray).extract (i * 4) (i * 4 + 4) = #[bv (at0 F (i * 4 + 0)), bv (at0 F (i * 4 + 1)), bv (at0 F (i * 4 + 2)), bv (at0 F (i * 4 + 3))] := by
 have e : ∀ j, j < 4 → (F.map bv)[i * 4 + j]? = some (bv (at0 F (i * 4 + j))) := fun j hj => by rw [List.getElem?_map, at0_of (show i * 4 + j < F.length by omega)]; rfl
 apply Array.ext (by simp [hl]; omega)
 intro j h1 h2
 have hj : j < 4 := by simpa using h2
 rw [Array.getElem_extract]
 have := e j hj
 rw [List.getElem?_eq_getElem (by simp [hl]; omega)] at this
 rcases (show j = 0 ∨ j = 1 ∨ j = 2 ∨ j = 3 by omega) with rfl | rfl | rfl | rfl <;> simpa using this
theorem keys_mid {w : World} {g : Nat} {t : TypeId} {k : List UInt8} (hk : k.length = 16) (h : ArrB w g t (keysU k)) {i : Nat} (hi : i < 11) : w.rangeAt g (i * 16) ((keyU k i).map bv) :=
 h.mid fun j x hx => by
  have hj : j < 16 := by have := (List.getElem?_eq_some_iff.1 hx).1; rwa [keyU_len hk] at this
  rw [keysU_kTo, show i * 16 + j = 16 * i + j by omega, kTo_at hk hj 11 hi, hx]
theorem RBox_b (x : UInt8) (w : World) :
  Calls Tryz.prog 136 #[.int .u8 (x.toNat : Int)] w fun e w' => e = .returned (.int .u8 ((boxU x).toNat : Int)) ∧ Below w.heap.size w w' :=
 (RBox_any x w).mono fun _ _ ⟨h, q, hq⟩ => ⟨h, by subst hq; exact ⟨rfl, rfl, rfl, Nat.le_refl _, fun _ _ => rfl⟩⟩
set_option maxRecDepth 1000000 in
set_option maxHeartbeats 8000000 in
theorem RKeys_any (k : List UInt8) (w : World) (hk : k.length = 16) :
  Calls Tryz.prog 120 #[.agg (k.map bv).toArray] w fun e w' => e = .returned (.agg ((keysU k).map bv).toArray) ∧ Below w.heap.size w w' := by
 have hz1 := zero176
 have hz2 := zeroW
 have hc := cz_ne 175
 have Hrep := Lib.hid (cz_list 176)
 have Hk := Lib.hid hk
 have Hkl := Lib.hid (keysU_len hk)
 have Hf := Lib.hid (fun p hp => word_first (p := p) hk hp)
 have Hn := Lib.hid (fun i n h1 h2 h3 => word_next (i := i) (n := n) hk h1 h2 h3)
 clear hk
 generalize hF : keysU k = F at *
 have HF := Lib.hid hF
 clear hF
 generalize cz 176 = zs at *
 go_enter Tryz.func120, Tryz.ntmps120
 go_wp2_with fail
 have g0 := ((ArrB.mk_ w 83 _ k rfl rfl).alloc (.cells zs 136)).alloc (.cells zs 159)
 have g1 := (ArrB.mk_ (b := w.heap.size + 1) (w.alloc (.cells (k.map bv).toArray 83)) 136 zs (kwU F 0) (by simp) (by rw [kU_zero]; exact Hrep.out)).alloc (.cells zs 159)
 have g2 := ArrB.mk_ (b := w.heap.size + 1 + 1) ((w.alloc (.cells (k.map bv).toArray 83)).alloc (.cells zs 136)) 159 zs (kwU F 0) (by simp) (by rw [kU_zero]; exact Hrep.out)
 have hB0 := (((Below.refl w.heap.size w).alloc (Nat.le_refl _) (.cells (k.map bv).toArray 83)).alloc (al0 _ _) (.cells zs 136)).alloc (Nat.le_trans (al0 _ _) (al0 _ _)) (.cells zs 159)
 refine wp_gen (fun wx => ArrB wx w.heap.size 83 k ∧ ArrB wx (w.heap.size + 1) 136 (kwU F 0) ∧ ArrB wx (w.heap.size + 1 + 1) 159 (kwU F 0) ∧ Below w.heap.size w wx) ⟨g0, g1, g2, hB0⟩ ?_
 clear g0 g1 g2 hB0 hz2
 rintro w1 ⟨g0, g1, g2, hB⟩
 go_loopw [14] (fun i wr => ∃ j : Nat, j ≤ 4 ∧ i = .int .i64 (j : Int) ∧ ArrB wr w.heap.size 83 k ∧ ArrB wr (w.heap.size + 1) 136 (kwU F 0) ∧ ArrB wr (w.heap.size + 1 + 1) 159 (kwU F (j * 4)) ∧ Below w.heap.size w wr) (fun i _ => (4 - intOf i).toNat)
 case atStart => exact ⟨0, by omega, rfl, g0, g1, g2, hB⟩
 case round =>
  obtain ⟨j, hj, rfl, g0, g1, g2, hB⟩ := hrel
  by_cases hlt : j < 4
  ·
   have c0 := g0.cell (at0_of (show 4 * j < k.length by rw [Hk.out]; omega))
   have c1 := g0.cell (at0_of (show 4 * j + 1 < k.length by rw [Hk.out]; omega))
   have c2 := g0.cell (at0_of (show 4 * j + 2 < k.length by rw [Hk.out]; omega))
   have c3 := g0.cell (at0_of (show 4 * j + 3 < k.length by rw [Hk.out]; omega))
   have hw0 := kU_word F j (by omega)
   have Ht := there_of g2 (o := j * 4) (n := 4) (by rw [kwU_len]; omega)
   rw [Hf.out (j * 4) (by omega), Hf.out (j * 4 + 1) (by omega), Hf.out (j * 4 + 2) (by omega), Hf.out (j * 4 + 3) (by omega), show j * 4 = 4 * j by omega] at hw0
   generalize at0 k (4 * j) = x0 at *
   generalize at0 k (4 * j + 1) = x1 at *
   generalize at0 k (4 * j + 2) = x2 at *
   generalize at0 k (4 * j + 3) = x3 at *
   rw [show 4 * j = j * 4 by omega] at hw0
   have Hs := Lib.hid (g2.splice_ (cs := [x0, x1, x2, x3]) (by simp [kwU_len]; omega) hw0)
   clear hw0
   have j0 : 0 ≤ (j : Int) := by omega
   have j1 : (j : Int) < 4 := by omega
   have v0 : IntKind.i64.wrap (4 * (j : Int)) = 4 * (j : Int) := IntWalk.i64_in _ (by omega)
   have v1 : IntKind.i64.wrap (4 * (j : Int) + 1) = 4 * (j : Int) + 1 := IntWalk.i64_in _ (by omega)
   have v2 : IntKind.i64.wrap (4 * (j : Int) + 2) = 4 * (j : Int) + 2 := IntWalk.i64_in _ (by omega)
   have v3 : IntKind.i64.wrap (4 * (j : Int) + 3) = 4 * (j : Int) + 3 := IntWalk.i64_in _ (by omega)
   have a0 : 0 ≤ 4 * (j : Int) := by omega
   have a1 : 4 * (j : Int) < 16 := by omega
   have a2 : 0 ≤ 4 * (j : Int) + 1 := by omega
   have a3 : 4 * (j : Int) + 1 < 16 := by omega
   have a4 : 0 ≤ 4 * (j : Int) + 2 := by omega
   have a5 : 4 * (j : Int) + 2 < 16 := by omega
   have a6 : 0 ≤ 4 * (j : Int) + 3 := by omega
   have a7 : 4 * (j : Int) + 3 < 16 := by omega
   have t0 : (4 * (j : Int)).toNat = 4 * j := by omega
   have t1 : (4 * (j : Int) + 1).toNat = 4 * j + 1 := by omega
   have t2 : (4 * (j : Int) + 2).toNat = 4 * j + 2 := by omega
   have t3 : (4 * (j : Int) + 3).toNat = 4 * j + 3 := by omega
   have j2 : (j : Int) < 44 := by omega
   go_wp2_with fail
   go_still_tail 22, (by kernel_rfl)
   change wpList _ _ _ _ _ wr.drew
   clear v0 v1 v2 v3 a0 a1 a2 a3 a4 a5 a6 a7 t0 t1 t2 t3 c0 c1 c2 c3
   go_wp2_with ((with_reducible refine tsQ 143 ?_); refine wpList_store_mid rfl 143 (.tmp 38) (.tmp 37) rfl (w.heap.size + 1 + 1) (j * 4) ([x0, x1, x2, x3].map bv).toArray rfl rfl Ht (size4 rfl) (one_bvA _) ?_)
   have hB2 := below_setCells (show w.heap.size ≤ w.heap.size + 1 + 1 by omega) ([x0, x1, x2, x3].map bv) (j * 4) wr.drew hB.drew
   exact ⟨⟨j + 1, by omega, by go_num, (g0.drew).of (setCells_far _ _ (by omega) _ _ _), (g1.drew).of (setCells_far _ _ (by omega) _ _ _), Hs.out, hB2⟩, by simp [intOf]; omega⟩
  ·
   obtain rfl : j = 4 := by omega
   rw [show ((4 : Nat) : Int) = 4 from rfl]
   clear Hf
   go_wp2_with fail
   go_loopw [5, 6] (fun m i wr => ∃ i' : Nat, 4 ≤ i' ∧ i' ≤ 44 ∧ i = .int .i64 (i' : Int) ∧ m = .int .u8 ((markU ((i' - 1) / 4)).toNat : Int) ∧ ArrB wr (w.heap.size + 1) 136 (kwU F 0) ∧ ArrB wr (w.heap.size + 1 + 1) 159 (kwU F (i' * 4)) ∧ Below w.heap.size w wr) (fun _ i _ => (44 - intOf i).toNat)
   case atStart => exact ⟨4, by omega, by omega, rfl, rfl, g1, g2, hB⟩
   case round =>
    obtain ⟨i, hi4, hi, rfl, rfl, g1, g2, hB⟩ := hrel
    obtain ⟨wo, rfl⟩ : ∃ wo, wo = wr := ⟨_, rfl⟩
    by_cases hlt2 : i < 44
    ·
     have hg2 := g2.lt
     have hr := g2.mid (o := (i - 1) * 4) (cs := [at0 F ((i - 1) * 4 + 0), at0 F ((i - 1) * 4 + 1), at0 F ((i - 1) * 4 + 2), at0 F ((i - 1) * 4 + 3)])
      (four_at (P := fun j x => (kwU F (i * 4))[(i - 1) * 4 + j]? = some x) (kU_done (by omega) (by omega)) (kU_done (by omega) (by omega)) (kU_done (by omega) (by omega)) (kU_done (by omega) (by omega)))
     have Ht0 := Lib.hid (show ∀ n, n < 4 → tW F i n = if i % 4 = 0 then boxU (at0 F ((i - 1) * 4 + (n + 1) % 4)) ^^^ (if n = 0 then markU ((i - 1) / 4) else 0) else at0 F ((i - 1) * 4 + n) from fun n hn => by unfold tW; rw [show 4 * (i - 1) = (i - 1) * 4 by omega])
     obtain ⟨x0, hx0⟩ : ∃ x, at0 F ((i - 1) * 4 + 0) = x := ⟨_, rfl⟩
     have Hx0 := Lib.hid hx0
     rw [hx0] at hr
     clear hx0
     obtain ⟨x1, hx1⟩ : ∃ x, at0 F ((i - 1) * 4 + 1) = x := ⟨_, rfl⟩
     have Hx1 := Lib.hid hx1
     rw [hx1] at hr
     clear hx1
     obtain ⟨x2, hx2⟩ : ∃ x, at0 F ((i - 1) * 4 + 2) = x := ⟨_, rfl⟩
     have Hx2 := Lib.hid hx2
     rw [hx2] at hr
     clear hx2
     obtain ⟨x3, hx3⟩ : ∃ x, at0 F ((i - 1) * 4 + 3) = x := ⟨_, rfl⟩
     have Hx3 := Lib.hid hx3
     rw [hx3] at hr
     clear hx3
     have k7 := ArrB.mk_ wo 143 #[bv x0, bv x1, bv x2, bv x3] [x0, x1, x2, x3] rfl rfl
     have k1 := g1.alloc (.cells #[bv x0, bv x1, bv x2, bv x3] 143)
     have k2 := g2.alloc (.cells #[bv x0, bv x1, bv x2, bv x3] 143)
     have hB' := hB.alloc hB.size (.cells #[bv x0, bv x1, bv x2, bv x3] 143)
     have j0 : 0 ≤ (i : Int) - 1 := by omega
     have j1 : (i : Int) - 1 < 44 := by omega
     have j2 : ((i : Int) - 1).toNat = i - 1 := by omega
     have j3 : (i : Int) < 44 := by omega
     have j4 : 0 ≤ (i : Int) := by omega
     have q1 : ((i : Int).tmod 4 == 0) = decide (i % 4 = 0) := by
      rw [Int.tmod_eq_emod_of_nonneg (by omega)]
      by_cases h : i % 4 = 0
      ·
       rw [decide_eq_true h, show (i : Int) % 4 = 0 by omega]; rfl
      ·
       rw [decide_eq_false h, beq_eq_false_iff_ne]; omega
     have q2 : ((i : Int) % 4 == 0) = decide (i % 4 = 0) := by
      by_cases h : i % 4 = 0
      ·
       rw [decide_eq_true h, show (i : Int) % 4 = 0 by omega]; rfl
      ·
       rw [decide_eq_false h, beq_eq_false_iff_ne]; omega
     by_cases h4 : i % 4 = 0
     ·
      rw [decide_eq_true h4] at q1 q2
      go_wp2_with (first
       | ((with_reducible refine tdQ 47 ?_); refine wpList_load_mid rfl 143 (.tmp 46) rfl (w.heap.size + 1 + 1) ((i - 1) * 4) rfl ([x0, x1, x2, x3].map bv) _ hr Tryz.underlying143 rfl (size4L rfl) ?_)
       | ((with_reducible refine tsQ 143 ?_); refine srQ 143 (.tmp 7) (.tmp 47) wo.heap.size ([x0, x1, x2, x3].map bv).toArray _ (heap_alloc_new _ _) (size4 rfl) rfl (one_bvA _) ?_; rw [World.setRow_alloc_new]))
      have hg7 : w.heap.size + 1 + 1 < wo.heap.size := hg2
      have hl7 : wo.heap.size < (wo.alloc (.cells #[bv x0, bv x1, bv x2, bv x3] 143)).heap.size := k7.lt
      clear g1 g2 hB hr
      generalize wo.alloc (.cells #[bv x0, bv x1, bv x2, bv x3] 143) = w2 at *
      generalize wo.heap.size = g7 at *
      have Hmk := Lib.hid (show markU ((i + 1 - 1) / 4) = twU (markU ((i - 1) / 4)) by rw [show (i + 1 - 1) / 4 = (i - 1) / 4 + 1 by omega]; rfl)
      have hT0 := Ht0.out 0 (by omega)
      have hT1 := Ht0.out 1 (by omega)
      have hT2 := Ht0.out 2 (by omega)
      have hT3 := Ht0.out 3 (by omega)
      rw [if_pos h4] at hT0 hT1 hT2 hT3
      rw [if_pos rfl, show (0 + 1) % 4 = 1 from rfl] at hT0
      rw [if_neg (by omega), UInt8.xor_zero, show (1 + 1) % 4 = 2 from rfl] at hT1
      rw [if_neg (by omega), UInt8.xor_zero, show (2 + 1) % 4 = 3 from rfl] at hT2
      rw [if_neg (by omega), UInt8.xor_zero, show (3 + 1) % 4 = 0 from rfl] at hT3
      rw [Hx1.out] at hT0
      rw [Hx2.out] at hT1
      rw [Hx3.out] at hT2
      rw [Hx0.out] at hT3
      have HT0 := Lib.hid hT0
      have HT1 := Lib.hid hT1
      have HT2 := Lib.hid hT2
      have HT3 := Lib.hid hT3
      clear hT0 hT1 hT2 hT3 Ht0
      have c0 := k7.cell (i := 0) (x := x0) rfl
      have c1 := k7.cell (i := 1) (x := x1) rfl
      have c2 := k7.cell (i := 2) (x := x2) rfl
      have c3 := k7.cell (i := 3) (x := x3) rfl
      generalize markU ((i - 1) / 4) = mk at *
      go_wp2_with fail
      have hkeep : ∀ wx : World, Below w2.heap.size w2 wx → wx.cell? ⟨g7, 0, none⟩ = some (.int .u8 (x0.toNat : Int)) ∧ wx.cell? ⟨g7, 1, none⟩ = some (.int .u8 (x1.toNat : Int)) ∧ wx.cell? ⟨g7, 2, none⟩ = some (.int .u8 (x2.toNat : Int)) ∧ wx.cell? ⟨g7, 3, none⟩ = some (.int .u8 (x3.toNat : Int)) := fun wx hw =>
       ⟨(k7.below hw k7.lt).cell rfl, (k7.below hw k7.lt).cell rfl, (k7.below hw k7.lt).cell rfl, (k7.below hw k7.lt).cell rfl⟩
      refine beginT (fun wx => wx.cell? ⟨g7, 0, none⟩ = some (.int .u8 (x0.toNat : Int)) ∧ wx.cell? ⟨g7, 1, none⟩ = some (.int .u8 (x1.toNat : Int)) ∧ wx.cell? ⟨g7, 2, none⟩ = some (.int .u8 (x2.toNat : Int)) ∧ wx.cell? ⟨g7, 3, none⟩ = some (.int .u8 (x3.toNat : Int))) 15 (by kernel_rfl) ?_
      have hS := hkeep _ (c_drew (c_refl _))
      refine takeD 0 (some 51) (.pointer (some ⟨g7, 1, none⟩)) rfl rfl (by kernel_rfl) (by kernel_rfl) (by kernel_rfl) (by kernel_rfl) (fun _ _ _ h => h) (Or.inl ⟨by kernel_rfl, fun wx hSw => by (try dsimp only at hSw); go_simp⟩) hS ?_
      simp only [Act.put, sA, sZ, sS]
      refine takeD 1 (some 52) (.int .u8 (x1.toNat : Int)) rfl rfl (by kernel_rfl) (by kernel_rfl) (by kernel_rfl) (by kernel_rfl) (fun _ _ _ h => h) (Or.inl ⟨by kernel_rfl, fun wx hSw => by (try dsimp only at hSw); go_simp⟩) hS ?_
      simp only [Act.put, sA, sZ, sS]
      refine takeD 3 (some 54) (.int .u8 (mk.toNat : Int)) rfl rfl (by kernel_rfl) (by kernel_rfl) (by kernel_rfl) (by kernel_rfl) (fun _ _ _ h => h) (Or.inl ⟨by kernel_rfl, fun wx hSw => by (try dsimp only at hSw); go_simp⟩) hS ?_
      simp only [Act.put, sA, sZ, sS]
      refine takeD 5 (some 56) (.pointer (some ⟨g7, 2, none⟩)) rfl rfl (by kernel_rfl) (by kernel_rfl) (by kernel_rfl) (by kernel_rfl) (fun _ _ _ h => h) (Or.inl ⟨by kernel_rfl, fun wx hSw => by (try dsimp only at hSw); go_simp⟩) hS ?_
      simp only [Act.put, sA, sZ, sS]
      refine takeD 6 (some 57) (.int .u8 (x2.toNat : Int)) rfl rfl (by kernel_rfl) (by kernel_rfl) (by kernel_rfl) (by kernel_rfl) (fun _ _ _ h => h) (Or.inl ⟨by kernel_rfl, fun wx hSw => by (try dsimp only at hSw); go_simp⟩) hS ?_
      simp only [Act.put, sA, sZ, sS]
      refine takeD 8 (some 59) (.pointer (some ⟨g7, 3, none⟩)) rfl rfl (by kernel_rfl) (by kernel_rfl) (by kernel_rfl) (by kernel_rfl) (fun _ _ _ h => h) (Or.inl ⟨by kernel_rfl, fun wx hSw => by (try dsimp only at hSw); go_simp⟩) hS ?_
      simp only [Act.put, sA, sZ, sS]
      refine takeD 9 (some 60) (.int .u8 (x3.toNat : Int)) rfl rfl (by kernel_rfl) (by kernel_rfl) (by kernel_rfl) (by kernel_rfl) (fun _ _ _ h => h) (Or.inl ⟨by kernel_rfl, fun wx hSw => by (try dsimp only at hSw); go_simp⟩) hS ?_
      simp only [Act.put, sA, sZ, sS]
      refine takeD 11 (some 62) (.pointer (some ⟨g7, 0, none⟩)) rfl rfl (by kernel_rfl) (by kernel_rfl) (by kernel_rfl) (by kernel_rfl) (fun _ _ _ h => h) (Or.inl ⟨by kernel_rfl, fun wx hSw => by (try dsimp only at hSw); go_simp⟩) hS ?_
      simp only [Act.put, sA, sZ, sS]
      refine takeD 12 (some 63) (.int .u8 (x0.toNat : Int)) rfl rfl (by kernel_rfl) (by kernel_rfl) (by kernel_rfl) (by kernel_rfl) (fun _ _ _ h => h) (Or.inl ⟨by kernel_rfl, fun wx hSw => by (try dsimp only at hSw); go_simp⟩) hS ?_
      simp only [Act.put, sA, sZ, sS]
      refine on1 2 fun K hK => ?_
      go_simp
      refine (RBox_b x1 _).mono ?_
      rintro e wa ⟨rfl, hba⟩
      refine kp hK hkeep ?_
      clear hK K
      have hSa := hkeep wa bl
      refine takeD 4 (some 55) (.int .u8 (bits .xor .u8 ((boxU x1).toNat : Int) (mk.toNat : Int))) rfl rfl (by kernel_rfl) (by kernel_rfl) (by kernel_rfl) (by kernel_rfl) (fun _ _ _ h => h) (Or.inl ⟨by kernel_rfl, fun wx hSw => by (try dsimp only at hSw); go_simp⟩) hSa ?_
      simp only [Act.put, sA, sZ, sS]
      rw [b_xor, ← HT0.out]
      refine on1 7 fun K hK => ?_
      go_simp
      refine (RBox_b x2 _).mono ?_
      rintro e wb ⟨rfl, hbb⟩
      refine kp hK hkeep ?_
      clear hK K
      rw [← HT1.out]
      refine on1 10 fun K hK => ?_
      go_simp
      refine (RBox_b x3 _).mono ?_
      rintro e wd ⟨rfl, hbd⟩
      refine kp hK hkeep ?_
      clear hK K
      rw [← HT2.out]
      refine on1 13 fun K hK => ?_
      go_simp
      refine (RBox_b x0 _).mono ?_
      rintro e we ⟨rfl, hbe⟩
      refine kp hK hkeep ?_
      clear hK K
      rw [← HT3.out]
      have hE : Below w2.heap.size w2 we := bl
      have hSe := hkeep we hE
      have e7 := k7.below hE k7.lt
      generalize hy0 : tW F i 0 = y0 at *
      generalize hy1 : tW F i 1 = y1 at *
      generalize hy2 : tW F i 2 = y2 at *
      generalize hy3 : tW F i 3 = y3 at *
      refine takeD 14 (some 65) (.agg #[.int .u8 (y0.toNat : Int), .int .u8 (y1.toNat : Int), .int .u8 (y2.toNat : Int), .int .u8 (y3.toNat : Int)]) rfl rfl (by kernel_rfl) (by kernel_rfl) (by kernel_rfl) (by kernel_rfl) (fun _ _ _ h => h) (Or.inl ⟨by kernel_rfl, fun wx hSw => by (try dsimp only at hSw); go_simp⟩) hSe ?_
      simp only [Act.put, sA, sZ, sS]
      have e1 := k1.below hE k1.lt
      have e2 := k2.below hE k2.lt
      refine on1 15 fun K hK => ?_
      refine step_store_row rfl 143 (.tmp 7) (.tmp 65) rfl g7 ([y0, y1, y2, y3].map bv).toArray rfl rfl 143 ([x0, x1, x2, x3].map bv).toArray e7 (size4 rfl) rfl (one_bvA _) ?_
      refine hK.out _ _ (fun h => absurd rfl h) ?_
      clear hK K
      refine doneT (by kernel_rfl) ?_ _
      have k7e := e7.row [y0, y1, y2, y3]
      have k1e := e1.rowFar (g' := g7) (by omega) ([y0, y1, y2, y3].map bv).toArray
      have k2e := e2.rowFar (g' := g7) (by omega) ([y0, y1, y2, y3].map bv).toArray
      have hBe := below_setRow (hB'.trans (hE.mono hB'.size)) (show w.heap.size ≤ g7 by omega) ([y0, y1, y2, y3].map bv).toArray
      go_wp2_with fail
      refine (RMul_2r mk _).mono ?_
      rintro e w5 ⟨rfl, rfl⟩
      rw [← hy0, ← hy1, ← hy2, ← hy3] at k7e k1e k2e hBe
      rw [← hy0, ← hy1, ← hy2, ← hy3]
      have hl8 := k7e.lt
      clear k7 k1 k2 hB' hE hSe e7 e1 e2 hS hSa hba hbb hbd hbe hkeep HT0 HT1 HT2 HT3 hy0 hy1 hy2 hy3
      skip
      go_wp2_with fail
      refine wp_gen (fun wx => ArrB wx g7 143 [tW F i 0, tW F i 1, tW F i 2, tW F i 3] ∧ ArrB wx (w.heap.size + 1) 136 (kwU F 0) ∧ ArrB wx (w.heap.size + 1 + 1) 159 (kwU F (i * 4)) ∧ Below w.heap.size w wx) ⟨k7e, k1e, k2e, hBe⟩ ?_
      clear k7e k1e k2e hBe
      rintro w6 ⟨k7, k1, k2, hB'⟩
      go_loopw [68] (fun n wr => ∃ n' : Nat, n' ≤ 4 ∧ n = .int .i64 (n' : Int) ∧ ArrB wr (w.heap.size + 1) 136 (kwU F 0) ∧ ArrB wr (w.heap.size + 1 + 1) 159 (kwU F (i * 4 + n')) ∧ ArrB wr g7 143 [tW F i 0, tW F i 1, tW F i 2, tW F i 3] ∧ Below w.heap.size w wr) (fun n _ => (4 - intOf n).toNat)
      case atStart => exact ⟨0, by omega, rfl, k1, k2, k7, hB'⟩
      case round =>
       obtain ⟨n, hn, rfl, k1, k2, k7, hB'⟩ := hrel
       by_cases hlt3 : n < 4
       ·
        have cw := k2.cell (kU_done (F := F) (p := (i - 4) * 4 + n) (show (i - 4) * 4 + n < i * 4 + n by omega) (by omega))
        have ct := k7.cell (i := n) (x := tW F i n) (by rcases (show n = 0 ∨ n = 1 ∨ n = 2 ∨ n = 3 by omega) with rfl | rfl | rfl | rfl <;> rfl)
        have cd := k2.cell (kU_old (F := F) (show i * 4 + n < 176 by omega))
        have fd := k2.frozen (i * 4 + n)
        have hs := k2.set_ (i * 4 + n) (at0 F (i * 4 + n))
        rw [kU_set] at hs
        have Hx := Lib.hid (show at0 F (i * 4 + n) = at0 F ((i - 4) * 4 + n) ^^^ tW F i n by have := Hn.out i n hi4 hlt2 hlt3; rwa [show 4 * i + n = i * 4 + n by omega, show 4 * (i - 4) + n = (i - 4) * 4 + n by omega] at this)
        have Hl7 := Lib.hid (show [tW F i 0, tW F i 1, tW F i 2, tW F i 3] = [tW F i 0, tW F i 1, tW F i 2, tW F i 3] from rfl)
        generalize tW F i n = tn at *
        generalize at0 F ((i - 4) * 4 + n) = wn at *
        have m0 : 0 ≤ (n : Int) := by omega
        have m1 : (n : Int) < 4 := by omega
        have m2 : 0 ≤ (i : Int) - 4 := by omega
        have m3 : (i : Int) - 4 < 44 := by omega
        have m6 : (4 : Int) ≤ (i : Int) := by omega
        have m7 : (i : Int) < 48 := by omega
        have m4 : ((i : Int) - 4).toNat = i - 4 := by omega
        have m5 : IntKind.i64.wrap ((i : Int) - 4) = (i : Int) - 4 := IntWalk.i64_in _ (by omega)
        go_wp2_with fail
        go_still_tail 14, (by kernel_rfl)
        change wpList _ _ _ _ _ wr.drew
        rw [b_xor, ← Hx.out]
        clear cw ct m5
        go_wp2_with fail
        exact ⟨⟨n + 1, by omega, by go_num, (k1.far (by simp; try omega) _).drew, hs.drew, (k7.far (by simp; try omega) _).drew, (hB'.setCell (by simp; try omega) _).drew⟩, by simp [intOf]; omega⟩
       ·
        obtain rfl : n = 4 := by omega
        rw [show ((4 : Nat) : Int) = 4 from rfl]
        go_wp2_with fail
        exact ⟨⟨i + 1, by omega, by omega, by go_num, by rw [Hmk.out], k1, by rw [show (i + 1) * 4 = i * 4 + 4 by omega]; exact k2, hB'⟩, by simp [intOf]; omega⟩
     ·
      rw [decide_eq_false h4] at q1 q2
      go_wp2_with (first
       | ((with_reducible refine tdQ 47 ?_); refine wpList_load_mid rfl 143 (.tmp 46) rfl (w.heap.size + 1 + 1) ((i - 1) * 4) rfl ([x0, x1, x2, x3].map bv) _ hr Tryz.underlying143 rfl (size4L rfl) ?_)
       | ((with_reducible refine tsQ 143 ?_); refine srQ 143 (.tmp 7) (.tmp 47) wo.heap.size ([x0, x1, x2, x3].map bv).toArray _ (heap_alloc_new _ _) (size4 rfl) rfl (one_bvA _) ?_; rw [World.setRow_alloc_new]))
      have hg7 : w.heap.size + 1 + 1 < wo.heap.size := hg2
      have hl7 : wo.heap.size < (wo.alloc (.cells #[bv x0, bv x1, bv x2, bv x3] 143)).heap.size := k7.lt
      clear g1 g2 hB hr
      generalize wo.alloc (.cells #[bv x0, bv x1, bv x2, bv x3] 143) = w2 at *
      generalize wo.heap.size = g7 at *
      have Hmk := Lib.hid (show markU ((i + 1 - 1) / 4) = markU ((i - 1) / 4) by rw [show (i + 1 - 1) / 4 = (i - 1) / 4 by omega])
      have hT0 := Ht0.out 0 (by omega)
      have hT1 := Ht0.out 1 (by omega)
      have hT2 := Ht0.out 2 (by omega)
      have hT3 := Ht0.out 3 (by omega)
      rw [if_neg h4] at hT0 hT1 hT2 hT3
      rw [Hx0.out] at hT0
      rw [Hx1.out] at hT1
      rw [Hx2.out] at hT2
      rw [Hx3.out] at hT3
      rw [← hT0, ← hT1, ← hT2, ← hT3] at k7
      clear hT0 hT1 hT2 hT3 Ht0
      go_wp2_with fail
      go_loopw [68] (fun n wr => ∃ n' : Nat, n' ≤ 4 ∧ n = .int .i64 (n' : Int) ∧ ArrB wr (w.heap.size + 1) 136 (kwU F 0) ∧ ArrB wr (w.heap.size + 1 + 1) 159 (kwU F (i * 4 + n')) ∧ ArrB wr g7 143 [tW F i 0, tW F i 1, tW F i 2, tW F i 3] ∧ Below w.heap.size w wr) (fun n _ => (4 - intOf n).toNat)
      case atStart => exact ⟨0, by omega, rfl, k1, k2, k7, hB'⟩
      case round =>
       obtain ⟨n, hn, rfl, k1, k2, k7, hB'⟩ := hrel
       by_cases hlt3 : n < 4
       ·
        have cw := k2.cell (kU_done (F := F) (p := (i - 4) * 4 + n) (show (i - 4) * 4 + n < i * 4 + n by omega) (by omega))
        have ct := k7.cell (i := n) (x := tW F i n) (by rcases (show n = 0 ∨ n = 1 ∨ n = 2 ∨ n = 3 by omega) with rfl | rfl | rfl | rfl <;> rfl)
        have cd := k2.cell (kU_old (F := F) (show i * 4 + n < 176 by omega))
        have fd := k2.frozen (i * 4 + n)
        have hs := k2.set_ (i * 4 + n) (at0 F (i * 4 + n))
        rw [kU_set] at hs
        have Hx := Lib.hid (show at0 F (i * 4 + n) = at0 F ((i - 4) * 4 + n) ^^^ tW F i n by have := Hn.out i n hi4 hlt2 hlt3; rwa [show 4 * i + n = i * 4 + n by omega, show 4 * (i - 4) + n = (i - 4) * 4 + n by omega] at this)
        have Hl7 := Lib.hid (show [tW F i 0, tW F i 1, tW F i 2, tW F i 3] = [tW F i 0, tW F i 1, tW F i 2, tW F i 3] from rfl)
        generalize tW F i n = tn at *
        generalize at0 F ((i - 4) * 4 + n) = wn at *
        have m0 : 0 ≤ (n : Int) := by omega
        have m1 : (n : Int) < 4 := by omega
        have m2 : 0 ≤ (i : Int) - 4 := by omega
        have m3 : (i : Int) - 4 < 44 := by omega
        have m6 : (4 : Int) ≤ (i : Int) := by omega
        have m7 : (i : Int) < 48 := by omega
        have m4 : ((i : Int) - 4).toNat = i - 4 := by omega
        have m5 : IntKind.i64.wrap ((i : Int) - 4) = (i : Int) - 4 := IntWalk.i64_in _ (by omega)
        go_wp2_with fail
        go_still_tail 14, (by kernel_rfl)
        change wpList _ _ _ _ _ wr.drew
        rw [b_xor, ← Hx.out]
        clear cw ct m5
        go_wp2_with fail
        exact ⟨⟨n + 1, by omega, by go_num, (k1.far (by simp; try omega) _).drew, hs.drew, (k7.far (by simp; try omega) _).drew, (hB'.setCell (by simp; try omega) _).drew⟩, by simp [intOf]; omega⟩
       ·
        obtain rfl : n = 4 := by omega
        rw [show ((4 : Nat) : Int) = 4 from rfl]
        go_wp2_with fail
        exact ⟨⟨i + 1, by omega, by omega, by go_num, by rw [Hmk.out], k1, by rw [show (i + 1) * 4 = i * 4 + 4 by omega]; exact k2, hB'⟩, by simp [intOf]; omega⟩
    ·
     obtain rfl : i = 44 := by omega
     rw [show ((44 : Nat) : Int) = 44 from rfl]
     rw [show 44 * 4 = 176 from rfl, kU_all Hkl.out] at g2
     have g9 := ArrB.mk_ wo 136 zs (kwU F 0) rfl (by rw [kU_zero]; exact Hrep.out)
     have k1 := g1.alloc (.cells zs 136)
     have k2 := g2.alloc (.cells zs 136)
     have hB' := hB.alloc hB.size (.cells zs 136)
     have hg9 : w.heap.size + 1 + 1 < wo.heap.size := g2.lt
     have sW : (Tryz.prog.info? 159).map (·.size) = some (F.map bv).toArray.size := by rw [sizeW, List.size_toArray, List.length_map, Hkl.out]
     have si2 : (Tryz.prog.info? 136).map (·.size) = some (F.map bv).toArray.size := by rw [size176, List.size_toArray, List.length_map, Hkl.out]
     have sj : (((kwU F 0).map bv).toArray).size = (F.map bv).toArray.size := by rw [List.size_toArray, List.size_toArray, List.length_map, List.length_map, Hkl.out, kwU_len]
     have Hx4 := Lib.hid (fun (i : Nat) (hi : i < 44) => ext4 Hkl.out hi)
     have SI2 := Lib.hid si2
     have SJ := Lib.hid sj
     clear si2 sj
     clear g1 g2 hB
     go_wp2_with ((with_reducible refine tdQ 86 ?_); refine wpList_load_row rfl 159 (.tmp 3) rfl (w.heap.size + 1 + 1) rfl 159 (F.map bv).toArray (0, 0) _ k2 Tryz.underlying159 rfl sW ?_)
     refine wp_gen (fun wx => ArrB wx wo.heap.size 136 (kwU F 0) ∧ ArrB wx (w.heap.size + 1) 136 (kwU F 0) ∧ Below w.heap.size w wx) ⟨g9, k1, hB'⟩ ?_
     clear g9 k1 k2 hB' sW hz1 hc
     generalize wo.heap.size = g9' at *
     generalize hFA : (F.map bv).toArray = FA at *
     have HFA := Lib.hid hFA
     clear hFA
     rintro w3 ⟨k9, k1, hB'⟩
     go_loopw [87] (fun i wr => ∃ j : Nat, j ≤ 44 ∧ i = .int .i64 (j : Int) ∧ ArrB wr g9' 136 (kwU F (j * 4)) ∧ ArrB wr (w.heap.size + 1) 136 (kwU F 0) ∧ Below w.heap.size w wr) (fun i _ => (44 - intOf i).toNat)
     case atStart => exact ⟨0, by omega, rfl, k9, k1, hB'⟩
     case round =>
      obtain ⟨i, hi, rfl, k9, k1, hB'⟩ := hrel
      obtain ⟨wo, rfl⟩ : ∃ wo, wo = wr := ⟨_, rfl⟩
      by_cases hlt4 : i < 44
      ·
       have he := Hx4.out i hlt4
       have Hy := Lib.hid (show ∀ n, n < 4 → ∀ x, [at0 F (i * 4 + 0), at0 F (i * 4 + 1), at0 F (i * 4 + 2), at0 F (i * 4 + 3)][n]? = some x → x = at0 F (i * 4 + n) from fun n hn => four_at (P := fun n x => x = at0 F (i * 4 + n)) rfl rfl rfl rfl n)
       generalize at0 F (i * 4 + 0) = x0 at *
       generalize at0 F (i * 4 + 1) = x1 at *
       generalize at0 F (i * 4 + 2) = x2 at *
       generalize at0 F (i * 4 + 3) = x3 at *
       have k11 := ArrB.mk_ wo 143 #[bv x0, bv x1, bv x2, bv x3] [x0, x1, x2, x3] rfl rfl
       have k9a := k9.alloc (.cells #[bv x0, bv x1, bv x2, bv x3] 143)
       have k1a := k1.alloc (.cells #[bv x0, bv x1, bv x2, bv x3] 143)
       have hBa := hB'.alloc hB'.size (.cells #[bv x0, bv x1, bv x2, bv x3] 143)
       have hl9 := k9.lt
       have j0 : 0 ≤ (i : Int) := by omega
       have j1 : (i : Int) < 44 := by omega
       go_wp2_with (first
        | ((with_reducible refine tdQ 90 ?_); refine wpList_index_row rfl (some 90) rfl (.tmp 86) (.tmp 87) rfl FA rfl i rfl #[bv x0, bv x1, bv x2, bv x3] he rfl hlt4 ?_)
        | ((with_reducible refine tdQ 91 ?_); refine wpList_load_row rfl 143 (.tmp 11) rfl wo.heap.size rfl 143 #[bv x0, bv x1, bv x2, bv x3] (0, 0) _ k11 Tryz.underlying143 rfl (size4 (l := [x0, x1, x2, x3]) rfl) ?_)
        | ((with_reducible refine tsQ 143 ?_); refine srQ 143 (.tmp 11) (.tmp 90) wo.heap.size #[bv x0, bv x1, bv x2, bv x3] _ (heap_alloc_new _ _) (size4 (l := [x0, x1, x2, x3]) rfl) rfl (one_bvA [x0, x1, x2, x3]) ?_; rw [World.setRow_alloc_new]))
       refine wp_gen (fun wx => ArrB wx g9' 136 (kwU F (i * 4)) ∧ ArrB wx (w.heap.size + 1) 136 (kwU F 0) ∧ Below w.heap.size w wx) ⟨k9a, k1a, hBa⟩ ?_
       clear k11 k9a k1a hBa he
       rintro w4 ⟨k9, k1, hB'⟩
       generalize wo.heap.size = g11 at *
       obtain ⟨i8, hi8⟩ := byte_info
       go_loopw [92] (fun n wr => ∃ n' : Nat, n' ≤ 4 ∧ n = .int .i64 (n' : Int) ∧ ArrB wr g9' 136 (kwU F (i * 4 + n')) ∧ ArrB wr (w.heap.size + 1) 136 (kwU F 0) ∧ Below w.heap.size w wr) (fun n _ => (4 - intOf n).toNat)
       case atStart => exact ⟨0, by omega, rfl, k9, k1, hB'⟩
       case round =>
        obtain ⟨n, hn, rfl, k9, k1, hB'⟩ := hrel
        by_cases hlt5 : n < 4
        ·
         have ho : i / 4 * 16 + (4 * (i % 4) + n) = i * 4 + n := by omega
         have cd := k9.cell (kU_old (F := F) (show i * 4 + n < 176 by omega))
         have fd := k9.frozen (i * 4 + n)
         have hs := k9.set_ (i * 4 + n) (at0 F (i * 4 + n))
         rw [kU_set] at hs
         obtain ⟨x, hx⟩ : ∃ x, [x0, x1, x2, x3][n]? = some x := ⟨_, List.getElem?_eq_getElem (by simpa using hlt5)⟩
         have hxe := Hy.out n hlt5 x hx
         have hix : (#[bv x0, bv x1, bv x2, bv x3])[n]? = some (.int .u8 (x.toNat : Int)) := by
          have : (([x0, x1, x2, x3].map bv).toArray)[n]? = some (bv x) := by simp only [List.getElem?_toArray, List.getElem?_map, hx]; rfl
          exact this
         rw [← hxe] at hs
         have Hs := Lib.hid hs
         clear hs hx hxe
         have m0 : 0 ≤ (n : Int) := by omega
         have m1 : (n : Int) < 4 := by omega
         have m2 : (i : Int) / 4 < 11 := by omega
         have m3 : 4 * ((i : Int) % 4) + (n : Int) < 16 := by omega
         have m4 : 0 ≤ 4 * ((i : Int) % 4) + (n : Int) := by omega
         have m5 : (4 * ((i : Int) % 4) + (n : Int)).toNat = 4 * (i % 4) + n := by omega
         go_wp2_with ((with_reducible refine tdQ 95 ?_); refine wpList_index_cell rfl (some 95) rfl 143 (.tmp 91) (.tmp 92) rfl #[bv x0, bv x1, bv x2, bv x3] rfl n rfl 4 5 Tryz.underlying143 byte_plain i8 hi8 byteCells _ hix hlt5 ?_)
         exact ⟨⟨n + 1, by omega, by go_num, Hs.out, k1.far (by simp; try omega) _, hB'.setCell (by simp; try omega) _⟩, by simp [intOf]; omega⟩
        ·
         obtain rfl : n = 4 := by omega
         rw [show ((4 : Nat) : Int) = 4 from rfl]
         go_wp2_with fail
         exact ⟨⟨i + 1, by omega, by go_num, by rw [show (i + 1) * 4 = i * 4 + 4 by omega]; exact k9, k1, hB'⟩, by simp [intOf]; omega⟩
      ·
       obtain rfl : i = 44 := by omega
       rw [show ((44 : Nat) : Int) = 44 from rfl]
       rw [show 44 * 4 = 176 from rfl, kU_all Hkl.out] at k9
       go_wp2_with (first
        | ((with_reducible refine tdQ 108 ?_); refine wpList_load_row rfl 136 (.tmp 9) rfl g9' rfl 136 (F.map bv).toArray (0, 0) _ k9 Tryz.underlying136 rfl (by rw [HFA.out]; exact SI2.out) ?_)
        | ((with_reducible refine tsQ 136 ?_); refine wpList_store_row rfl 136 (.tmp 2) (.tmp 108) rfl (w.heap.size + 1) (F.map bv).toArray rfl rfl 136 _ k1 (by rw [HFA.out]; exact SI2.out) (by rw [HFA.out]; exact SJ.out) (one_bvA _) ?_))
       exact bodyPost_ret (results_cell_row rfl _ _ (w.heap.size + 1) 136 _ (0, 0) _ rfl (k1.row F) Tryz.underlying136 rfl (by rw [HFA.out]; exact SI2.out)) rfl ⟨rfl, below_setRow hB' (by omega) _⟩
def encR (k b : List UInt8) : Nat → List UInt8
 | 0 => addU b k
 | n + 1 => if n + 1 < 10 then addU (mixU (turnU (boxL (encR k b n)))) (keyU k (n + 1)) else addU (turnU (boxL (encR k b n))) (keyU k (n + 1))
theorem encR_to (k b : List UInt8) : ∀ n, n < 10 → encR k b n = encTo k b n
 | 0, _ => rfl
 | n + 1, h => by rw [encR, if_pos h, encR_to k b n (by omega)]; rfl
theorem encR_all (k b : List UInt8) : encR k b 10 = encU k b := by rw [encR, if_neg (by omega), encR_to k b 9 (by omega)]; rfl
theorem encR_len (k b : List UInt8) : ∀ n, (encR k b n).length = 16
 | 0 => addU_len _ _
 | n + 1 => by rw [encR]; split <;> exact addU_len _ _
set_option maxRecDepth 1000000 in
set_option maxHeartbeats 4000000 in
theorem REncrypt_any (k b : List UInt8) (w : World) (hk : k.length = 16) (hb : b.length = 16) :
  Calls Tryz.prog 94 #[.agg (k.map bv).toArray, .agg (b.map bv).toArray] w fun e w' => e = .returned (.agg ((encU k b).map bv).toArray) ∧ Below w.heap.size w w' := by
 have hz1 := zero176
 have hc := cz_ne 175
 have Hrep := Lib.hid (cz_list 176)
 have Hk := Lib.hid hk
 have Hb := Lib.hid hb
 have Hkl := Lib.hid (keysU_len hk)
 have Hmid := Lib.hid (fun (wx : World) (g : Nat) (t : TypeId) (h : ArrB wx g t (keysU k)) (i : Nat) (hi : i < 11) => keys_mid hk h hi)
 clear hk hb
 generalize cz 176 = zs at *
 go_enter Tryz.func94, Tryz.ntmps94
 have g0 := ((ArrB.mk_ w 83 _ k rfl rfl).alloc (.cells (b.map bv).toArray 83)).alloc (.cells (zero16.map bv).toArray 83)
 have g1 := (ArrB.mk_ (b := w.heap.size + 1) (w.alloc (.cells (k.map bv).toArray 83)) 83 _ b (by simp) rfl).alloc (.cells (zero16.map bv).toArray 83)
 have g2 := ArrB.mk_ (b := w.heap.size + 1 + 1) ((w.alloc (.cells (k.map bv).toArray 83)).alloc (.cells (b.map bv).toArray 83)) 83 _ zero16 (by simp) rfl
 have hB0 := (((Below.refl w.heap.size w).alloc (Nat.le_refl _) (.cells (k.map bv).toArray 83)).alloc (al0 _ _) (.cells (b.map bv).toArray 83)).alloc (Nat.le_trans (al0 _ _) (al0 _ _)) (.cells (zero16.map bv).toArray 83)
 go_wp2_with ((with_reducible refine tdQ 8 ?_); refine wpList_load_row rfl 83 (.tmp 2) rfl w.heap.size rfl 83 (k.map bv).toArray (0, 0) _ g0 Tryz.underlying83 rfl (size16 Hk.out) ?_)
 refine calls_gen (fun wx => ArrB wx (w.heap.size + 1) 83 b ∧ ArrB wx (w.heap.size + 1 + 1) 83 zero16 ∧ Below w.heap.size w wx) ⟨g1, g2, hB0⟩ ?_
 clear g0 g1 g2 hB0
 rintro w1 ⟨g1, g2, hB⟩
 refine (RKeys_any k _ Hk.out).mono ?_
 rintro e w2 ⟨rfl, hb2⟩
 have e1 := g1.below hb2 g1.lt
 have e2 := g2.below hb2 g2.lt
 have hB2 := hB.trans (hb2.mono hB.size)
 clear g1 g2 hB hb2
 have si2 : (Tryz.prog.info? 136).map (·.size) = some ((keysU k).map bv).toArray.size := by rw [size176, List.size_toArray, List.length_map, Hkl.out]
 have sj : zs.size = ((keysU k).map bv).toArray.size := by rw [← Hrep.out, List.size_toArray, List.size_toArray, List.length_map, List.length_map, Hkl.out, List.length_replicate]
 have k5 := ArrB.mk_ w2 136 _ (keysU k) rfl rfl
 have e1' := e1.alloc (.cells ((keysU k).map bv).toArray 136)
 have e2' := e2.alloc (.cells ((keysU k).map bv).toArray 136)
 have hB2' := hB2.alloc hB2.size (.cells ((keysU k).map bv).toArray 136)
 have hl2 := e2.lt
 have hr0 := Hmid.out _ _ _ k5 0 (by omega)
 go_wp2_with (first
  | ((with_reducible refine tsQ 136 ?_); refine srQ 136 (.tmp 5) (.tmp 9) w2.heap.size ((keysU k).map bv).toArray zs (heap_alloc_new _ _) si2 sj (one_bvA _) ?_; rw [World.setRow_alloc_new])
  | ((with_reducible refine tdQ 10 ?_); refine wpList_load_row rfl 83 (.tmp 3) rfl (w.heap.size + 1) rfl 83 (b.map bv).toArray (0, 0) _ e1' Tryz.underlying83 rfl (size16 Hb.out) ?_)
  | ((with_reducible refine tdQ 12 ?_); refine wpList_load_mid rfl 83 (.tmp 11) rfl w2.heap.size 0 rfl (k.map bv) _ hr0 Tryz.underlying83 rfl (size16L Hk.out) ?_))
 refine calls_gen (fun wx => ArrB wx w2.heap.size 136 (keysU k) ∧ ArrB wx (w.heap.size + 1 + 1) 83 zero16 ∧ Below w.heap.size w wx) ⟨k5, e2', hB2'⟩ ?_
 clear k5 e1' e2' hB2' e1 e2 hB2 hr0 si2 sj
 generalize w2.heap.size = g5 at *
 rintro w3 ⟨k5, k2, hB⟩
 refine (Rxor_any b k _ Hb.out Hk.out).mono ?_
 rintro e w4 ⟨rfl, hb4⟩
 have e5 := k5.below hb4 k5.lt
 have e2 := k2.below hb4 k2.lt
 have hB4 := hB.trans (hb4.mono hB.size)
 have hl5 := e5.lt
 clear k5 k2 hB hb4
 have k6 := ArrB.mk_ w4 83 _ (addU b k) rfl rfl
 have e5' := e5.alloc (.cells ((addU b k).map bv).toArray 83)
 have e2' := e2.alloc (.cells ((addU b k).map bv).toArray 83)
 have hB4' := hB4.alloc hB4.size (.cells ((addU b k).map bv).toArray 83)
 go_wp2_with ((with_reducible refine tsQ 83 ?_); refine srQ 83 (.tmp 6) (.tmp 13) w4.heap.size ((addU b k).map bv).toArray (zero16.map bv).toArray (heap_alloc_new _ _) (size16 (addU_len _ _)) (same16 (addU_len _ _) zero16_len) (one_bvA _) ?_; rw [World.setRow_alloc_new])
 refine wp_gen (fun wx => ArrB wx w4.heap.size 83 (encR k b 0) ∧ ArrB wx g5 136 (keysU k) ∧ ArrB wx (w.heap.size + 1 + 1) 83 zero16 ∧ Below w.heap.size w wx) ⟨k6, e5', e2', hB4'⟩ ?_
 clear k6 e5' e2' hB4' e5 e2 hB4 hz1 hc Hrep
 generalize w4.heap.size = g6 at *
 rintro w5 ⟨k6, k5, k2, hB⟩
 go_loopw [7] (fun i wr => ∃ i' : Nat, 1 ≤ i' ∧ i' ≤ 11 ∧ i = .int .i64 (i' : Int) ∧ ArrB wr g6 83 (encR k b (i' - 1)) ∧ ArrB wr g5 136 (keysU k) ∧ ArrB wr (w.heap.size + 1 + 1) 83 zero16 ∧ Below w.heap.size w wr) (fun i _ => (11 - intOf i).toNat)
 case atStart => exact ⟨1, by omega, by omega, rfl, k6, k5, k2, hB⟩
 case round =>
  obtain ⟨i, hi1, hi, rfl, k6, k5, k2, hB⟩ := hrel
  obtain ⟨wo, rfl⟩ : ∃ wo, wo = wr := ⟨_, rfl⟩
  by_cases hlt : i < 11
  ·
   have Hq := Lib.hid (encR_len k b (i - 1))
   have Hst := Lib.hid (show encR k b (i + 1 - 1) = if i < 10 then addU (mixU (turnU (boxL (encR k b (i - 1))))) (keyU k i) else addU (turnU (boxL (encR k b (i - 1)))) (keyU k i) by
    have e : i + 1 - 1 = (i - 1) + 1 := by omega
    rw [e, encR, show i - 1 + 1 = i by omega])
   have Hkn := Lib.hid (keyU_len Hk.out i)
   have Hmk := Lib.hid (fun (wx : World) (h : ArrB wx g5 136 (keysU k)) => Hmid.out wx g5 _ h i (by omega))
   generalize encR k b (i - 1) = q at *
   generalize keyU k i = kn at *
   have j0 : 0 ≤ (i : Int) := by omega
   have j1 : (i : Int) < 11 := by omega
   have j2 : (i : Int) ≤ 10 := by omega
   have hl6 := k6.lt
   by_cases h10 : i < 10
   ·
    have j3 : (i : Int) < 10 := by omega
    go_wp2_with ((with_reducible refine tdQ 18 ?_); refine wpList_load_row rfl 83 (.tmp 6) rfl g6 rfl 83 (q.map bv).toArray (0, 0) _ k6 Tryz.underlying83 rfl (size16 Hq.out) ?_)
    refine (Rturned_any q _ Hq.out).mono ?_
    rintro e w6 ⟨rfl, hb6⟩
    have a6 := (k6.below hb6 hl6).row (turnU (boxL q))
    have a5 := (k5.below hb6 k5.lt).rowFar (g' := g6) (by omega) ((turnU (boxL q)).map bv).toArray
    have a2 := (k2.below hb6 k2.lt).rowFar (g' := g6) (by omega) ((turnU (boxL q)).map bv).toArray
    have hBa := below_setRow (hB.trans (hb6.mono hB.size)) (show w.heap.size ≤ g6 by omega) ((turnU (boxL q)).map bv).toArray
    have o6 := k6.below hb6 hl6
    have HY := Lib.hid (turnU_len (boxL q))
    clear k6 k5 k2 hB
    generalize turnU (boxL q) = y at *
    have hlA := a6.lt
    go_wp2_with (first
     | ((with_reducible refine tsQ 83 ?_); refine wpList_store_row rfl 83 (.tmp 6) (.tmp 19) rfl g6 (y.map bv).toArray rfl rfl 83 _ o6 (size16 HY.out) (same16 HY.out Hq.out) (one_bvA _) ?_)
     | ((with_reducible refine tdQ 22 ?_); refine wpList_load_row rfl 83 (.tmp 6) rfl g6 rfl 83 (y.map bv).toArray (0, 0) _ a6 Tryz.underlying83 rfl (size16 HY.out) ?_))
    refine calls_gen (fun wx => ArrB wx g6 83 y ∧ ArrB wx g5 136 (keysU k) ∧ ArrB wx (w.heap.size + 1 + 1) 83 zero16 ∧ Below w.heap.size w wx) ⟨a6, a5, a2, hBa⟩ ?_
    clear a6 a5 a2 hBa o6 hb6
    rintro w7 ⟨k6, k5, k2, hB⟩
    refine (Rmixed_any y _ HY.out).mono ?_
    rintro e w8 ⟨rfl, hb8⟩
    have a6 := (k6.below hb8 k6.lt).row (mixU y)
    have a5 := (k5.below hb8 k5.lt).rowFar (g' := g6) (by omega) ((mixU y).map bv).toArray
    have a2 := (k2.below hb8 k2.lt).rowFar (g' := g6) (by omega) ((mixU y).map bv).toArray
    have hBa := below_setRow (hB.trans (hb8.mono hB.size)) (show w.heap.size ≤ g6 by omega) ((mixU y).map bv).toArray
    have o6 := k6.below hb8 k6.lt
    have HZ := Lib.hid (mixU_len y)
    clear k6 k5 k2 hB
    generalize mixU y = z at *
    go_wp2_with ((with_reducible refine tsQ 83 ?_); refine wpList_store_row rfl 83 (.tmp 6) (.tmp 23) rfl g6 (z.map bv).toArray rfl rfl 83 _ o6 (size16 HZ.out) (same16 HZ.out HY.out) (one_bvA _) ?_)
    rw [if_pos h10] at Hst
    refine wp_gen (fun wx => ArrB wx g6 83 z ∧ ArrB wx g5 136 (keysU k) ∧ ArrB wx (w.heap.size + 1 + 1) 83 zero16 ∧ Below w.heap.size w wx) ⟨a6, a5, a2, hBa⟩ ?_
    clear a6 a5 a2 hBa o6
    rintro w9 ⟨k6, k5, k2, hB⟩
    have hl9 := k6.lt
    have hu := Tryz.underlying83
    have hi1 := size16L HZ.out
    have hi2 := size16L Hkn.out
    have hkeep : ∀ wx : World, Below w9.heap.size w9 wx → wx.rangeAt g6 0 (z.map bv) ∧ wx.rangeAt g5 (i * 16) (kn.map bv) := fun wx hw => ⟨(k6.below hw k6.lt).range, Hmk.out wx (k5.below hw k5.lt)⟩
    refine beginT (fun wx => wx.rangeAt g6 0 (z.map bv) ∧ wx.rangeAt g5 (i * 16) (kn.map bv)) 5 (by kernel_rfl) ?_
    have hS := hkeep _ (c_drew (c_refl _))
    refine ldQ 0 (some 24) 83 (.tmp 6) g6 0 (z.map bv) (fun wx hSw => hSw.1) hu hi1 (fun _ _ _ h => h) hS ?_
    simp only [Act.put, sA, sZ, sS]
    refine tk 1 (some 25) (.int .i64 (i : Int)) (fun _ _ _ h => h) hS ?_
    simp only [Act.put, sA, sZ, sS]
    refine tk 2 (some 26) (.pointer (some ⟨g5, i * 16, none⟩)) (fun _ _ _ h => h) hS ?_
    simp only [Act.put, sA, sZ, sS]
    refine ldQ 3 (some 27) 83 (.tmp 26) g5 (i * 16) (kn.map bv) (fun wx hSw => hSw.2) hu hi2 (fun _ _ _ h => h) hS ?_
    simp only [Act.put, sA, sZ, sS]
    refine on1 4 fun K hK => ?_
    go_simp
    refine (Rxor_any z kn _ HZ.out Hkn.out).mono ?_
    rintro e we ⟨rfl, hbe⟩
    refine kp hK hkeep ?_
    clear hK K
    have hE : Below w9.heap.size w9 we := bl
    have e6 := k6.below hE k6.lt
    rw [← Hst.out]
    refine on1 5 fun K hK => ?_
    refine step_store_row rfl 83 (.tmp 6) (.tmp 28) rfl g6 ((encR k b (i + 1 - 1)).map bv).toArray rfl rfl 83 (z.map bv).toArray e6 (size16 (encR_len _ _ _)) (same16 (encR_len _ _ _) HZ.out) (one_bvA _) ?_
    refine hK.out _ _ (fun h => absurd rfl h) ?_
    clear hK K
    refine doneT (by kernel_rfl) ?_ _
    go_wp2_with fail
    exact ⟨⟨i + 1, by omega, by omega, by go_num, e6.row _, (k5.below hE k5.lt).rowFar (by omega) _, (k2.below hE k2.lt).rowFar (by omega) _, below_setRow (hB.trans (hE.mono hB.size)) (by omega) _⟩, by simp [intOf]; omega⟩
   ·
    have j3 : ¬ (i : Int) < 10 := by omega
    have j4 : (10 : Int) ≤ (i : Int) := by omega
    go_wp2_with ((with_reducible refine tdQ 18 ?_); refine wpList_load_row rfl 83 (.tmp 6) rfl g6 rfl 83 (q.map bv).toArray (0, 0) _ k6 Tryz.underlying83 rfl (size16 Hq.out) ?_)
    refine (Rturned_any q _ Hq.out).mono ?_
    rintro e w6 ⟨rfl, hb6⟩
    have a6 := (k6.below hb6 hl6).row (turnU (boxL q))
    have a5 := (k5.below hb6 k5.lt).rowFar (g' := g6) (by omega) ((turnU (boxL q)).map bv).toArray
    have a2 := (k2.below hb6 k2.lt).rowFar (g' := g6) (by omega) ((turnU (boxL q)).map bv).toArray
    have hBa := below_setRow (hB.trans (hb6.mono hB.size)) (show w.heap.size ≤ g6 by omega) ((turnU (boxL q)).map bv).toArray
    have o6 := k6.below hb6 hl6
    have HY := Lib.hid (turnU_len (boxL q))
    clear k6 k5 k2 hB
    generalize turnU (boxL q) = z at *
    have HZ := HY
    go_wp2_with ((with_reducible refine tsQ 83 ?_); refine wpList_store_row rfl 83 (.tmp 6) (.tmp 19) rfl g6 (z.map bv).toArray rfl rfl 83 _ o6 (size16 HY.out) (same16 HY.out Hq.out) (one_bvA _) ?_)
    rw [if_neg h10] at Hst
    refine wp_gen (fun wx => ArrB wx g6 83 z ∧ ArrB wx g5 136 (keysU k) ∧ ArrB wx (w.heap.size + 1 + 1) 83 zero16 ∧ Below w.heap.size w wx) ⟨a6, a5, a2, hBa⟩ ?_
    clear a6 a5 a2 hBa o6
    rintro w9 ⟨k6, k5, k2, hB⟩
    have hl9 := k6.lt
    have hu := Tryz.underlying83
    have hi1 := size16L HZ.out
    have hi2 := size16L Hkn.out
    have hkeep : ∀ wx : World, Below w9.heap.size w9 wx → wx.rangeAt g6 0 (z.map bv) ∧ wx.rangeAt g5 (i * 16) (kn.map bv) := fun wx hw => ⟨(k6.below hw k6.lt).range, Hmk.out wx (k5.below hw k5.lt)⟩
    refine beginT (fun wx => wx.rangeAt g6 0 (z.map bv) ∧ wx.rangeAt g5 (i * 16) (kn.map bv)) 5 (by kernel_rfl) ?_
    have hS := hkeep _ (c_drew (c_refl _))
    refine ldQ 0 (some 24) 83 (.tmp 6) g6 0 (z.map bv) (fun wx hSw => hSw.1) hu hi1 (fun _ _ _ h => h) hS ?_
    simp only [Act.put, sA, sZ, sS]
    refine tk 1 (some 25) (.int .i64 (i : Int)) (fun _ _ _ h => h) hS ?_
    simp only [Act.put, sA, sZ, sS]
    refine tk 2 (some 26) (.pointer (some ⟨g5, i * 16, none⟩)) (fun _ _ _ h => h) hS ?_
    simp only [Act.put, sA, sZ, sS]
    refine ldQ 3 (some 27) 83 (.tmp 26) g5 (i * 16) (kn.map bv) (fun wx hSw => hSw.2) hu hi2 (fun _ _ _ h => h) hS ?_
    simp only [Act.put, sA, sZ, sS]
    refine on1 4 fun K hK => ?_
    go_simp
    refine (Rxor_any z kn _ HZ.out Hkn.out).mono ?_
    rintro e we ⟨rfl, hbe⟩
    refine kp hK hkeep ?_
    clear hK K
    have hE : Below w9.heap.size w9 we := bl
    have e6 := k6.below hE k6.lt
    rw [← Hst.out]
    refine on1 5 fun K hK => ?_
    refine step_store_row rfl 83 (.tmp 6) (.tmp 28) rfl g6 ((encR k b (i + 1 - 1)).map bv).toArray rfl rfl 83 (z.map bv).toArray e6 (size16 (encR_len _ _ _)) (same16 (encR_len _ _ _) HZ.out) (one_bvA _) ?_
    refine hK.out _ _ (fun h => absurd rfl h) ?_
    clear hK K
    refine doneT (by kernel_rfl) ?_ _
    go_wp2_with fail
    exact ⟨⟨i + 1, by omega, by omega, by go_num, e6.row _, (k5.below hE k5.lt).rowFar (by omega) _, (k2.below hE k2.lt).rowFar (by omega) _, below_setRow (hB.trans (hE.mono hB.size)) (by omega) _⟩, by simp [intOf]; omega⟩
  ·
   obtain rfl : i = 11 := by omega
   rw [show ((11 : Nat) : Int) = 11 from rfl]
   rw [show 11 - 1 = 10 from rfl, encR_all] at k6
   go_wp2_with (first
    | ((with_reducible refine tdQ 29 ?_); refine wpList_load_row rfl 83 (.tmp 6) rfl g6 rfl 83 ((encU k b).map bv).toArray (0, 0) _ k6 Tryz.underlying83 rfl (size16 (encU_len _ _)) ?_)
    | ((with_reducible refine tsQ 83 ?_); refine wpList_store_row rfl 83 (.tmp 4) (.tmp 29) rfl (w.heap.size + 1 + 1) ((encU k b).map bv).toArray rfl rfl 83 _ k2 (size16 (encU_len _ _)) (same16 (encU_len _ _) zero16_len) (one_bvA _) ?_))
   exact bodyPost_ret (results_cell_row rfl _ _ (w.heap.size + 1 + 1) 83 _ (0, 0) _ rfl (k2.row (encU k b)) Tryz.underlying83 rfl (size16 (encU_len _ _))) rfl ⟨rfl, below_setRow hB (by omega) _⟩
end Go.Proofs.YtbiijdboolpaeaaGreatDoor
