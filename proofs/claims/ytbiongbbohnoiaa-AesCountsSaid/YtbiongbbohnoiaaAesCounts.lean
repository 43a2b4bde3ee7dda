/-
  THE WALK of AesCounts (coterielaw04).
-/
import Derived.Test.YtbiongbbohnoiaaAesBack
import Derived.Test.YtbiongbbohnoiaaAesH
import Derived.Deep.RegionHeld3
set_option linter.unusedVariables false
namespace Go.Proofs.Ytbiongbbohnoiaa
open Go.RowKit

theorem Bytes_4 (x : Nat) (y : Int) (w : World) (hy : y = (x : Int)) (hx : x < 18446744073709551616) :
    Calls Try.prog 21 #[.int .i64 4, .int .u64 y] w fun e w' =>
      ∃ g c, e = .returned (.slice (some ⟨g, 0, none⟩) 4 c) ∧ (∀ j v, ((be 4 x).map bv)[j]? = some v → w'.cell? ((⟨g, 0, none⟩ : Addr).add j) = some v) ∧ Below w.heap.size w w' := by
  subst hy
  refine (Bytes_any 4 x w (by omega) hx).mono ?_
  rintro e w' ⟨A, c, rfl, ho, hb⟩
  obtain ⟨g, cap, hv, _, _⟩ := ho.form (by decide)
  injection hv with hv1 _ _
  subst hv1
  exact ⟨g, c, rfl, fun j v h => ho.cells (g := g) rfl j v h, hb⟩

theorem cin_splice {n : List UInt8} (h : n.length = 12) (x : Nat) : splice (splice zero16 0 n) 12 (be 4 x) = cinU n x := by
  have hz : zero16 = List.replicate 12 0 ++ List.replicate 4 0 := rfl
  have h1 : splice zero16 0 n = n ++ List.replicate 4 0 := by
    rw [hz]
    have := splice_in (α := UInt8) [] (List.replicate 12 0 ++ List.replicate 4 0) n (by simp [h])
    simp only [List.nil_append, List.length_nil] at this
    rw [this, h, List.drop_left' (by simp)]
  rw [h1]
  have := splice_in n (List.replicate 4 0) (be 4 x) (by simp [be_length])
  rw [h] at this
  rw [this]
  simp [be_length, cinU]
theorem nbs_16 (M : Nat) : nbs (16 * M) = M := by unfold nbs; omega

set_option maxRecDepth 1000000 in
set_option maxHeartbeats 4000000 in
theorem walk_AesCounts (k n : List UInt8) (f : Nat) (q : UInt8) (w : World) (hk : k.length = 16) (hn : n.length = 12) (hf : f < 4294967296) :
    Calls Try.prog 8 #[.agg (k.map bv).toArray, .agg (n.map bv).toArray, .int .u32 (f : Int), .int .u8 (q.toNat : Int)] w fun e w' => e = .returned (.bool true) ∧ Below w.heap.size w w' := by
  have hq := b_lt q
  have e1 : (q.toNat : Int).tmod 8 = ((q.toNat % 8 : Nat) : Int) := by rw [Int.tmod_eq_emod_of_nonneg (by omega)]; rfl
  have e2 : (q.toNat : Int) % 8 = ((q.toNat % 8 : Nat) : Int) := rfl
  have hM : q.toNat % 8 < 8 := Nat.mod_lt _ (by omega)
  have Hk := Lib.hid hk
  have Hn := Lib.hid hn
  have Hf := Lib.hid hf
  clear hk hn hf
  generalize q.toNat = qn at *
  generalize qn % 8 = M at *
  have b0 : (0 : Int) ≤ (M : Int) := by omega
  have b1 : (M : Int) < 8 := by omega
  obtain ⟨P, hP⟩ : ∃ P, P = 16 * M := ⟨_, rfl⟩
  have e3 : 16 * (M : Int) = (P : Int) := by omega
  have hPl : P ≤ 112 := by omega
  have hnb : nbs P = M := by rw [hP]; exact nbs_16 M
  have p0 : (0 : Int) ≤ (P : Int) := by omega
  have p1 : (P : Int) ≤ 112 := by omega
  have HP := Lib.hid hP
  have Hnb := Lib.hid hnb
  clear hP hnb
  have hf0 := Hf.out
  have hw4 : IntKind.u64.wrap (f : Int) = (f : Int) := by rw [IntKind.wrap_u64]; omega
  have hw5 : IntKind.u64.wrap ((f : Int) + (M : Int)) = (f : Int) + (M : Int) := by rw [IntKind.wrap_u64]; omega
  clear hf0
  have hw1 : IntKind.i64.wrap (P : Int) = (P : Int) := IntWalk.i64_in _ (by omega)
  go_enter Try.func8, Try.ntmps8
  go_wp2_with fail
  have gK := (ArrB.mk_ w 23 _ k rfl rfl).alloc (.cells (n.map bv).toArray 31)
  have gN := ArrB.mk_ (b := w.heap.size + 1) (w.alloc (.cells (k.map bv).toArray 23)) 31 _ n (by simp) rfl
  have hB0 := c_alloc (c_alloc (c_refl w) (.cells (k.map bv).toArray 23)) (.cells (n.map bv).toArray 31)
  refine (live04 _).mono ?_
  rintro e w1 ⟨rfl, hb1⟩
  obtain ⟨wz, hmk, hA, hBz⟩ := make_bytes P w1 .i64 (P : Int) rfl (by omega)
  have hKz := (gK.below hb1 gK.lt).below hBz (by have := gK.lt; have := hb1.size; omega)
  have hNz := (gN.below hb1 gN.lt).below hBz (by have := gN.lt; have := hb1.size; omega)
  have hBB := c_call (c_call hB0 hb1) hBz
  clear gK gN hB0 hb1 hBz
  have Hib := Lib.hid (size16 Hk.out)
  have Hin := Lib.hid (size12 Hn.out)
  have hR0 := Rd.of_own (own_arr (n := P) hA (Nat.le_refl _) (by simp) (by simp only [maxLen]; omega))
  clear hA
  go_wp2_with (first
    | ((with_reducible show wpList _ _ _ (⟨some _, Op.load 23 _, _, _, _, _⟩ :: _) _ _); refine wpList_load_row rfl 23 (.tmp 4) rfl w.heap.size rfl 23 (k.map bv).toArray (0, 0) _ hKz Try.underlying23 rfl Hib.out ?_)
    | ((with_reducible show wpList _ _ _ (⟨some _, Op.load 31 _, _, _, _, _⟩ :: _) _ _); refine wpList_load_row rfl 31 (.tmp 5) rfl (w.heap.size + 1) rfl 31 (n.map bv).toArray (0, 0) _ hNz Try.underlying31 rfl Hin.out ?_))
  by_cases hfit : f + M ≤ 4294967296
  · refine (Ctr_ok k n (List.replicate P 0) f P P _ _ Hk.out Hn.out Hf.out hR0 (by omega) (by rw [Hnb.out]; exact hfit)).mono ?_
    rintro e w2 ⟨A1, c1, rfl, ho1, hb2⟩
    have hmc1 : P ≤ c1 := by
      obtain ⟨_, c0, e, h, _⟩ := own_form ho1
      injection e with _ _ e3
      rw [e3]
      exact h
    have hx2 := Rd.of_own ho1
    have hK2 := hKz.below hb2 hKz.lt
    have hN2 := hNz.below hb2 hNz.lt
    have hB2 := c_call hBB hb2
    clear ho1 hKz hNz hb2 hmk hR0
    have Hz := Lib.hid (fun i (hi : i < M) => ctr_zeros k n f M i Hk.out hi)
    rw [← HP.out] at Hz
    generalize ctrU k n f (List.replicate P 0) = xs at *
    go_wp2_with fail
    go_loopw [51] (fun i wr => ∃ j : Nat, j ≤ M ∧ i = .int .i64 (j : Int) ∧ ArrB wr w.heap.size 23 k ∧ ArrB wr (w.heap.size + 1) 31 n ∧ Rd wr wr.heap.size A1 P (xs.map bv) ∧ Below w.heap.size w wr) (fun i _ => M - (intOf i).toNat)
    case atStart => exact ⟨0, by omega, rfl, hK2, hN2, hx2, hB2⟩
    case round =>
      obtain ⟨j, hj, rfl, hK, hN, hx, hB⟩ := hrel
      clear hK2 hN2 hx2 hB2
      by_cases hlt : j < M
      · have j0 : (0 : Int) ≤ (j : Int) := by omega
        have j1 : (j : Int) < (M : Int) := by omega
        have hlK := hK.lt
        have hlN := hN.lt
        go_wp2_with fail
        have gI := ArrB.mk_ wr 23 _ zero16 rfl rfl
        have hK' := hK.alloc (.cells (zero16.map bv).toArray 23)
        have hN' := hN.alloc (.cells (zero16.map bv).toArray 23)
        have hx' := c_rd hx (d_al wr (.cells (zero16.map bv).toArray 23))
        have hB' := c_alloc hB (.cells (zero16.map bv).toArray 23)
        refine wp_gen (fun wx => ArrB wx wr.heap.size 23 zero16 ∧ ArrB wx w.heap.size 23 k ∧ ArrB wx (w.heap.size + 1) 31 n ∧ Rd wx wx.heap.size A1 P (xs.map bv) ∧ Below w.heap.size w wx ∧ wr.heap.size < wx.heap.size ∧ Below wr.heap.size wr wx)
          ⟨gI, hK', hN', hx', hB', gI.lt, d_al wr _⟩ ?_
        clear gI hK' hN' hx' hB'
        rintro wa ⟨gI, hKa, hNa, hxa, hBa, hga, hra⟩
        have hgi : w.heap.size + 1 < wr.heap.size := hlN
        have hlo : w.heap.size ≤ wr.heap.size := hB.size
        generalize wr.heap.size = gi at *
        go_region_held3 (fun _ => True) (trivial)
          (first | (refine step_copy_row rfl (.tmp 54) (.tmp 55) 33 33 rfl 5 Try.underlying33 byteSize gi 0 ⟨w.heap.size + 1, 0, none⟩ 16 16 12 12 rfl rfl (zero16.map bv) 23 gI.drew.at_ (n.map bv) 12 (by simp [Hn.out]) rfl (fun j v hv => by rw [Addr.add_lit]; exact hNa.drew.range j v hv) (by simp [Hn.out, zero16]) (one_bv n) ?_; rw [splice_bytes]))
        have gI2 := gI.drew.row (splice zero16 0 n)
        have hKb := hKa.drew.rowFar (show w.heap.size ≠ gi by omega) ((splice zero16 0 n).map bv).toArray
        have hNb := hNa.drew.rowFar (show w.heap.size + 1 ≠ gi by omega) ((splice zero16 0 n).map bv).toArray
        have hBb := below_setRow hBa.drew hlo ((splice zero16 0 n).map bv).toArray
        have hrb := below_setRow hra.drew (Nat.le_refl gi) ((splice zero16 0 n).map bv).toArray
        clear hxa gI hKa hNa hBa
        have hszb : gi < (wa.drew.setRow gi ((splice zero16 0 n).map bv).toArray).heap.size := gI2.lt
        generalize wa.drew.setRow gi ((splice zero16 0 n).map bv).toArray = wc at *
        clear hra hga wa
        have hf0 := Hf.out
        have hw6 : IntKind.u64.wrap (j : Int) = (j : Int) := by rw [IntKind.wrap_u64]; omega
        have hw7 : IntKind.u64.wrap ((f : Int) + (j : Int)) = (f : Int) + (j : Int) := by rw [IntKind.wrap_u64]; omega
        clear hf0
        go_wp2_with fail
        go_region_held3 (fun _ => True) (trivial)
          (first
            | (go_at_call 21; refine (Bytes_4 (f + j) _ _ (by omega) (by have := Hf.out; omega)).mono ?_; rintro e wb ⟨g5, c5, rfl, hsrc, hb5⟩)
            | (refine step_copy_row rfl (.tmp 57) (.tmp 63) 33 33 rfl 5 Try.underlying33 byteSize gi 12 ⟨g5, 0, none⟩ 4 4 4 c5 rfl rfl ((splice zero16 0 n).map bv) 23 (gI2.drew.below hb5 gI2.drew.lt).at_ ((be 4 (f + j)).map bv) 4 (by simp [be_length]) rfl hsrc (by simp [Hn.out, zero16, splice, be_length]) (one_bv _) ?_; rw [splice_bytes, cin_splice Hn.out]))
        have gI3 := (gI2.drew.below hb5 gI2.drew.lt).row (cinU n (f + j))
        have hKc := (hKb.drew.below hb5 hKb.drew.lt).rowFar (show w.heap.size ≠ gi by omega) ((cinU n (f + j)).map bv).toArray
        have hNc := (hNb.drew.below hb5 hNb.drew.lt).rowFar (show w.heap.size + 1 ≠ gi by omega) ((cinU n (f + j)).map bv).toArray
        have hBc := below_setRow (c_call hBb.drew hb5) hlo ((cinU n (f + j)).map bv).toArray
        have hrc := below_setRow (hrb.drew.trans (hb5.mono (show gi ≤ wc.drew.heap.size from Nat.le_of_lt hszb))) (Nat.le_refl gi) ((cinU n (f + j)).map bv).toArray
        clear gI2 hKb hNb hBb hrb hsrc hszb
        generalize wb.setRow gi ((cinU n (f + j)).map bv).toArray = wd at *
        have Hic := Lib.hid (size16 (cinU_len Hn.out (f + j)))
        have hz := Hz.out j hlt
        have Hzz := Lib.hid hz
        clear hz
        go_wp2_with (first
          | ((with_reducible show wpList _ _ _ (⟨some 65, _, _, _, _, _⟩ :: _) _ _); refine wpList_load_row rfl 23 (.tmp 4) rfl w.heap.size rfl 23 (k.map bv).toArray (0, 0) _ hKc Try.underlying23 rfl Hib.out ?_)
          | ((with_reducible show wpList _ _ _ (⟨some 66, _, _, _, _, _⟩ :: _) _ _); refine wpList_load_row rfl 23 (.tmp 15) rfl gi rfl 23 ((cinU n (f + j)).map bv).toArray (0, 0) _ gI3 Try.underlying23 rfl Hic.out ?_)
          | (go_at_call 14; refine (Encrypt_any k (cinU n (f + j)) _ Hk.out (cinU_len Hn.out _)).mono ?_; rintro e we ⟨rfl, hbe⟩)
          | ((with_reducible show wpList _ _ _ (⟨none, Op.store 23 _ _, _, _, _, _⟩ :: _) _ _); refine wpList_store_row rfl 23 (.tmp 16) (.tmp 67) rfl we.heap.size ((encU k (cinU n (f + j))).map bv).toArray rfl rfl 23 (zero16.map bv).toArray (heap_alloc_new _ _) (size16 (encU_len _ _)) (same16 (encU_len _ _) zero16_len) (one_bvA _) ?_; rw [World.setRow_alloc_new]))
        have hpj : 16 * j + 16 ≤ P := by have := HP.out; omega
        obtain ⟨Q, hQ⟩ : ∃ Q, Q = 16 * j := ⟨_, rfl⟩
        have e5 : 16 * (j : Int) = (Q : Int) := by omega
        rw [← hQ] at hpj
        have HQ := Lib.hid hQ
        clear hQ
        have i2 : ¬ c1 = Q := by omega
        have q0 : (0 : Int) ≤ (Q : Int) := by omega
        have q1 : (Q : Int) + 16 ≤ (c1 : Int) := by omega
        have q2 : (Q : Int) ≤ (Q : Int) + 16 := by omega
        have hQ16 : ((Q : Int) + 16).toNat - Q = 16 := by omega
        have hw8 : IntKind.i64.wrap (Q : Int) = (Q : Int) := IntWalk.i64_in _ (by omega)
        have hw9 : IntKind.i64.wrap ((Q : Int) + 16) = (Q : Int) + 16 := IntWalk.i64_in _ (by omega)
        have hz := Hzz.out
        rw [← HQ.out] at hz
        clear Hzz
        have hlg : gi ≤ wd.heap.size := Nat.le_of_lt gI3.lt
        have hsl : (encU k (cinU n (f + j))).length = 16 := encU_len _ _
        generalize encU k (cinU n (f + j)) = s at *
        have Hsl := Lib.hid hsl
        clear hsl
        have hre : Below gi wr (we.alloc (.cells (s.map bv).toArray 23)) := (hrc.trans (hbe.mono hlg)).alloc (Nat.le_trans hlg hbe.size) _
        have hKe := (hKc.below hbe hKc.lt).alloc (.cells (s.map bv).toArray 23)
        have hNe := (hNc.below hbe hNc.lt).alloc (.cells (s.map bv).toArray 23)
        have hBe := c_alloc (c_call hBc hbe) (.cells (s.map bv).toArray 23)
        have hss : Rd (we.alloc (.cells (s.map bv).toArray 23)) (we.alloc (.cells (s.map bv).toArray 23)).heap.size (some ⟨we.heap.size, 0, none⟩) 16 (s.map bv) := Rd.mk_ we _ _ rfl (by simp) (by simp [Hsl.out]) rfl
        have hxl : gi ≤ (we.alloc (.cells (s.map bv).toArray 23)).heap.size := Nat.le_trans hlg (Nat.le_trans hbe.size (by simp))
        have hxf := (hx.below hre).more hxl
        generalize we.alloc (.cells (s.map bv).toArray 23) = wf at *
        have hxc := (hxf.cut (show Q ≤ P by omega) hmc1).take (show 16 ≤ P - Q by omega)
        rw [if_neg i2, ← List.map_drop, ← List.map_take, hz] at hxc
        clear hKc hNc hBc gI3 hbe hrc hre hz Hic
        go_region_held3 (fun _ => True) (trivial)
          (first
            | (go_at_call 19; (try rw [hQ16]); refine (Same_any (A1.map (·.add Q)) (some ⟨we.heap.size, 0, none⟩) 16 (c1 - Q) 16 16 s s _ _ _ hxc.drew hss.drew).mono ?_; rintro e wg ⟨rfl, rfl⟩; rw [sameB_refl]))
        go_wp2_with fail
        exact ⟨⟨j + 1, by omega, by go_num, hKe.drew, hNe.drew, hxf.drew, hBe.drew⟩, by simp [intOf]; omega⟩
      · obtain rfl : j = M := by omega
        go_wp2_with fail
        go_ret
        exact ⟨rfl, hB⟩
  · refine (Ctr_arg k n f P P _ _ Hf.out (by omega) (by rw [Hnb.out]; omega)).mono ?_
    rintro e w2 ⟨rfl, hb2⟩
    have o1 : (4294967296 : Int) < (f : Int) + (M : Int) := by omega
    clear hfit
    go_wp2_with fail
    go_ret
    exact ⟨rfl, c_call hBB hb2⟩

end Go.Proofs.Ytbiongbbohnoiaa
