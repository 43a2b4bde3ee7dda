import Derived.Test.YtgjeamapgdakcaaDoorG25
/-
  CONTRACTS of the document's own padded (a long key), Mac and Extract (coterieref03).
-/
set_option linter.unusedVariables false
namespace Go.Proofs.YtgjeamapgdakcaaDoor
open Go.RowKit

set_option maxRecDepth 100000 in
set_option maxHeartbeats 1000000 in
theorem padded_big (A : Option Addr) (k c : Nat) (key : List UInt8) (x : UInt8) (w : World) (hkc : k ≤ c) (hk : k ≤ 1073741824) (hr : Rd w w.heap.size A k (key.map bv)) (hK : KTab w) (hs : ¬ k ≤ 64) :
    Calls Tryd.prog 60 #[.slice A k c, .int .u8 (x.toNat : Int)] w (PadPost w key x) := by
  have Hkl := Lib.hid (show key.length = k by simpa using hr.len)
  have Hsl := Lib.hid (sumU_len key)
  obtain ⟨p, hp⟩ : ∃ p, padK (sumU key) = p := ⟨_, rfl⟩
  have HP := Lib.hid hp
  have Hpl := Lib.hid (show p.length = 64 by rw [← hp]; exact padK_len _)
  have Hxp := Lib.hid (show p.map (· ^^^ x) = xorK key x by rw [← hp, padK_sum key (by have := Hkl.out; omega)]; rfl)
  unfold PadPost
  rw [← Hxp.out]
  clear hp Hxp
  go_enter Tryd.func60, Tryd.ntmps60
  go_wp2_with fail
  refine (Sum_any _ 1 1 [.slice A k c] [key] _ (by omega) (by have := Hkl.out; simp; omega) (Rd.mk_ _ _ _ rfl (by simp) rfl rfl) (txs_one1 Hkl.out hkc (d_rd hr (d_al _ _))) (hK.below (d_al _ _))).mono ?_
  rintro e w3 ⟨rfl, hb3⟩
  have hB3 : Below w.heap.size w w3 := c_call (d_al _ _) hb3
  rw [show [key].flatten = key by simp]
  generalize sumU key = s at *
  clear hb3 hr
  have hA4 : ArrB (w3.alloc (.cells (s.map bv).toArray 24)) w3.heap.size 24 s := ArrB.mk_ _ _ _ _ rfl rfl
  have hB4 := c_alloc hB3 (.cells (s.map bv).toArray 24)
  go_wp2_with ((with_reducible show wpList _ _ _ (⟨none, Op.store 24 _ _, _, _, _, _⟩ :: _) _ _); refine wpList_store_row rfl 24 (.tmp 5) (.tmp 13) rfl w3.heap.size (s.map bv).toArray rfl rfl 24 ((List.replicate 32 (0 : UInt8)).map bv).toArray (heap_alloc_new _ _) (infoK32 Hsl.out) (sizeK Hsl.out) (one_bvA _) ?_; rw [World.setRow_alloc_new]; refine wpList_gen (fun wx => ArrB wx w3.heap.size 24 s ∧ Below w.heap.size w wx) ⟨hA4, hB4⟩ ?_; rintro w4 ⟨hQ4, hC4⟩; have hr4 := hQ4.rd Hsl.out; generalize w3.heap.size = gS at *; clear hA4 hB4 hB3 hQ4; obtain ⟨wm, hmk, hAm, hBm⟩ := make_bytes 64 w4 .i64 64 rfl (by omega); have hBw : Below w.heap.size w wm := c_call hC4 hBm; have hrm : Rd wm w4.heap.size (some ⟨gS, 0, none⟩) 32 (s.map bv) := (hr4).below hBm; have hgw : w.heap.size ≤ w4.heap.size := (hC4).size; generalize hgm : w4.heap.size = gm at *; clear hBm)
  go_loopw [18] (fun i wr => ∃ j : Nat, j ≤ 64 ∧ i = .int .i64 (j : Int) ∧ ArrB wr (gm) 5 (padX p x j) ∧ Rd wr (gm) (some ⟨gS, 0, none⟩) 32 (s.map bv) ∧ Below w.heap.size w wr) (fun i _ => 64 - (intOf i).toNat)
  case atStart => exact ⟨0, by omega, rfl, by rw [padX_zero]; exact hAm, hrm, hBw⟩
  case round =>
    obtain ⟨j, hj, rfl, hA, hR, hB⟩ := hrel
    by_cases hlt : j < 64
    · have f0 := hA.frozen j
      have hpl := padX_len x Hpl.out hj
      obtain ⟨z0, hz0⟩ : ∃ z0, (padX p x j)[j]? = some z0 := ⟨_, List.getElem?_eq_getElem (by omega)⟩
      have c0 := hA.cell hz0
      obtain ⟨y, hy⟩ : ∃ y, p[j]? = some y := ⟨_, List.getElem?_eq_getElem (by have := Hpl.out; omega)⟩
      have Hs := Lib.hid (padX_succ x hy Hpl.out)
      have Hy := Lib.hid hy
      have j0 : (0 : Int) ≤ (j : Int) := by omega
      have j1 : (j : Int) < 64 := by omega
      have hA2 := hA.set_ j x
      have hB2 := hB.setCell (p := ⟨gm, j, none⟩) hgw (.int .u8 (x.toNat : Int))
      have hR2 := hR.setCell (p := ⟨gm, j, none⟩) (Nat.le_refl _) (.int .u8 (x.toNat : Int))
      have c2l : ((padX p x j).set j x)[j]? = some x := by rw [List.getElem?_set_self (by omega)]
      have c2 := hA2.cell (i := j) (x := x) c2l
      have f2 := hA2.frozen j
      clear hy hz0 hpl
      by_cases hjk : j < 32
      · obtain ⟨b, o, hAe, hb, hc⟩ := hR2.pos (by omega)
        obtain ⟨yk, hyk⟩ : ∃ y, (s)[j]? = some y := ⟨_, List.getElem?_eq_getElem (by have := Hsl.out; omega)⟩
        have hyy : yk = y := by
          have h1 := padK_at (j := j) (y := yk) (by have := Hsl.out; omega) hyk
          rw [HP.out, Hy.out] at h1
          exact (Option.some.inj h1).symm
        subst hyy
        have ck := hc j (.int .u8 (yk.toNat : Int)) (by rw [List.getElem?_map, hyk]; rfl)
        have hx := b_xor x yk
        rw [UInt8.xor_comm x yk] at hx
        clear hc
        obtain ⟨rfl, rfl⟩ : gS = b ∧ 0 = o := by simp at hAe; exact ⟨hAe.1, hAe.2⟩
        go_wp2_with fail
        refine wp_gen (fun wx => ArrB wx (gm) 5 ((padX p x j).set j x) ∧ Rd wx (gm) (some ⟨gS, 0, none⟩) 32 (s.map bv) ∧ Below w.heap.size w wx) ⟨hA2, hR2, hB2⟩ ?_
        clear c0 f0 c2 f2 ck
        rintro wz ⟨hAz, hRz, hBz⟩
        have cz1 : wz.cell? ⟨gm, j, none⟩ = some (.int .u8 (x.toNat : Int)) := hAz.cell (i := j) (x := x) c2l
        have cz2 : wz.cell? ⟨gS, j, none⟩ = some (.int .u8 (yk.toNat : Int)) := by
          obtain ⟨b', o', he, _, hcz⟩ := hRz.pos (by omega)
          injection he with he
          injection he with he1 he2
          subst he1 he2
          have h0 := hcz j (.int .u8 (yk.toNat : Int)) (by rw [List.getElem?_map, hyk]; rfl)
          rwa [Nat.zero_add] at h0
        go_still_tail 10, (by kernel_rfl)
        change wpList _ _ _ _ _ wz.drew
        clear cz1 cz2
        refine wpList_gen (fun wx => ArrB wx (gm) 5 ((padX p x j).set j x) ∧ Rd wx (gm) (some ⟨gS, 0, none⟩) 32 (s.map bv) ∧ Below w.heap.size w wx) ⟨hAz.drew, hRz.drew, hBz.drew⟩ ?_
        rintro w5 ⟨hA5, hR5, hB5⟩
        have c5 := hA5.cell (i := j) (x := x) c2l
        have f5 := hA5.frozen j
        have hA6 := hA5.set_ j (x ^^^ yk)
        rw [List.set_set, UInt8.xor_comm x yk, ← Hs.out] at hA6
        have hB6 := hB5.setCell (p := ⟨gm, j, none⟩) hgw (.int .u8 ((yk ^^^ x).toNat : Int))
        have hR6 := hR5.setCell (p := ⟨gm, j, none⟩) (Nat.le_refl _) (.int .u8 ((yk ^^^ x).toNat : Int))
        go_wp2_with fail
        go_roundw
        case rel => exact ⟨j + 1, by omega, by go_num, hA6, hR6, hB6⟩
        case measure => simp [intOf]; omega
      · have hyy : y = 0 := by
          have h1 := padK_past (key := s) (j := j) (by have := Hsl.out; omega) (by have := Hsl.out; omega) hlt
          rw [HP.out, Hy.out] at h1
          exact Option.some.inj h1
        subst hyy
        rw [zero_xor8] at Hs
        rw [← Hs.out] at hA2
        go_wp2_with fail
        go_roundw
        case rel => exact ⟨j + 1, by omega, by go_num, hA2, hR2, hB2⟩
        case measure => simp [intOf]; omega
    · obtain rfl : j = 64 := by omega
      rw [padX_all x Hpl.out] at hA
      rw [show ((64 : Nat) : Int) = 64 from rfl]
      go_wp2_with fail
      go_ret
      exact ⟨gm, rfl, hA, hB⟩


theorem padded_any (A : Option Addr) (k c : Nat) (key : List UInt8) (x : UInt8) (w : World) (hkc : k ≤ c) (hk : k ≤ 1073741824) (hr : Rd w w.heap.size A k (key.map bv)) (hK : KTab w) :
    Calls Tryd.prog 60 #[.slice A k c, .int .u8 (x.toNat : Int)] w (PadPost w key x) := by
  by_cases hs : k ≤ 64
  · exact padded_small A k c key x w hs hr
  · exact padded_big A k c key x w hkc hk hr hK hs
theorem padded54 (A : Option Addr) (k c : Nat) (key : List UInt8) (w : World) (hkc : k ≤ c) (hk : k ≤ 1073741824) (hr : Rd w w.heap.size A k (key.map bv)) (hK : KTab w) :
    Calls Tryd.prog 60 #[.slice A k c, .int .u8 54] w (PadPost w key 54) := padded_any A k c key 54 w hkc hk hr hK
theorem padded92 (A : Option Addr) (k c : Nat) (key : List UInt8) (w : World) (hkc : k ≤ c) (hk : k ≤ 1073741824) (hr : Rd w w.heap.size A k (key.map bv)) (hK : KTab w) :
    Calls Tryd.prog 60 #[.slice A k c, .int .u8 92] w (PadPost w key 92) := padded_any A k c key 92 w hkc hk hr hK

end Go.Proofs.YtgjeamapgdakcaaDoor

/-
  CONTRACTS of the document's own Mac and Extract (coterieref03).
-/
set_option linter.unusedVariables false
namespace Go.Proofs.YtgjeamapgdakcaaDoor
open Go.RowKit

set_option maxRecDepth 1000000 in
set_option maxHeartbeats 1000000 in
theorem rMac_any (A : Option Addr) (k c : Nat) (key : List UInt8) (At : Option Addr) (m ct : Nat) (vs : List Value) (ts : List (List UInt8)) (w : World) (hkc : k ≤ c) (hk : k ≤ 1073741824) (hm : m ≤ 1073741823) (htot : ts.flatten.length ≤ 1073741824)
    (hr : Rd w w.heap.size A k (key.map bv)) (hv : Rd w w.heap.size At m vs) (ht : Txs w w.heap.size vs ts) (hK : KTab w) :
    Calls Tryd.prog 54 #[.slice A k c, .slice At m ct] w fun e w' => e = .returned (.agg ((macU key ts.flatten).map bv).toArray) ∧ Below w.heap.size w w' := by
  have Htot := Lib.hid htot
  clear htot
  go_enter Tryd.func54, Tryd.ntmps54
  go_wp2_with fail
  refine (padded54 A k c key _ hkc hk (d_rd hr (d_al _ _)) (hK.below (d_al _ _))).mono ?_
  rintro e w2 ⟨g2, rfl, hA2, hb2⟩
  have hz2 : ArrB w2 w.heap.size 24 (List.replicate 32 0) := (ArrB.mk_ w _ _ (List.replicate 32 0) rfl rfl).below hb2 (by simp)
  have hB2 : Below w.heap.size w w2 := c_call (d_al _ _) hb2
  clear hb2
  go_wp2_with fail
  refine (All_any At m ct vs ts w2 (by omega) (by have := Htot.out; omega) (d_rd hv hB2) (d_txs ht hB2)).mono ?_
  rintro e w3 ⟨A3, n3, c3, rfl, hn3, hown3, hb3⟩
  have hr3 := Rd.of_own hown3
  have Hl3 := Lib.hid (show ts.flatten.length = n3 by have h := hr3.len; rwa [List.length_map] at h)
  have hA3 := hA2.below hb3 hA2.lt
  have hz3 := hz2.below hb3 hz2.lt
  have hB3 : Below w.heap.size w w3 := c_call hB2 hb3
  clear hA2 hz2 hB2 hb3 hown3
  go_wp2_with fail
  have hal := d_al w3 (.cells #[.slice (some ⟨g2, 0, none⟩) 64 64, .slice A3 n3 c3] 45)
  refine (Sum_any _ 2 2 [_, _] [xorK key 54, ts.flatten] _ (by omega) (by have := Htot.out; simp only [List.flatten_cons, List.length_append, xorK_len, List.flatten_nil, List.length_nil]; omega) (Rd.mk_ _ _ _ rfl (by simp) rfl rfl) (Txs.cons (txs_one1 (xorK_len _ _) (Nat.le_refl _) (d_rd (hA3.rd (xorK_len _ _)) hal)) (txs_one1 Hl3.out hn3 (d_rd hr3 hal))) (hK.below (c_call hB3 hal))).mono ?_
  rintro e w6 ⟨rfl, hb6⟩
  have hz6 := (hz3.alloc _).below hb6 (hz3.alloc _).lt
  have hB6 : Below w.heap.size w w6 := c_call (c_call hB3 hal) hb6
  have Hi := Lib.hid (innerU_len key ts.flatten)
  have Hmac := Lib.hid (show sumU (xorK key 92 ++ innerU key ts.flatten) = macU key ts.flatten from rfl)
  rw [show sumU [xorK key 54, ts.flatten].flatten = innerU key ts.flatten by simp only [List.flatten_cons, List.flatten_nil, List.append_nil]; rfl]
  generalize innerU key ts.flatten = q at *
  clear hz3 hA3 hr3 hal hB3 hb6
  have hQ : ArrB (w6.alloc (.cells (q.map bv).toArray 24)) w6.heap.size 24 q := ArrB.mk_ _ _ _ _ rfl rfl
  have hz7 := hz6.alloc (.cells (q.map bv).toArray 24)
  have hB7 := hB6.alloc hB6.size (.cells (q.map bv).toArray 24)
  go_wp2_with ((with_reducible show wpList _ _ _ (⟨none, Op.store 24 _ _, _, _, _, _⟩ :: _) _ _); refine wpList_store_row rfl 24 (.tmp 5) (.tmp 11) rfl w6.heap.size (q.map bv).toArray rfl rfl 24 ((List.replicate 32 (0 : UInt8)).map bv).toArray (heap_alloc_new _ _) (infoK32 Hi.out) (sizeK Hi.out) (one_bvA _) ?_; rw [World.setRow_alloc_new])
  generalize w6.alloc (.cells (q.map bv).toArray 24) = w7 at *
  have Hml := Lib.hid (macU_len key ts.flatten)
  generalize hr0 : macU key ts.flatten = r at *
  have Hr0 := Lib.hid hr0
  clear hr0
  have hg6 : w.heap.size < w6.heap.size := hz6.lt
  have hkeep : ∀ wx : World, Below w7.heap.size w7 wx → wx.there w.heap.size 0 32 ∧ (SomeB wx w.heap.size 24 32 ∧ ArrB wx w6.heap.size 24 q) :=
    fun wx hb => ⟨(hz7.below hb hz7.lt).there (by simp), (hz7.below hb hz7.lt).some (by simp), hQ.below hb hQ.lt⟩
  have hstore : ∀ wx : World, Below w7.heap.size w7 wx → (fun wx : World => wx.there w.heap.size 0 32 ∧ (SomeB wx w.heap.size 24 32 ∧ ArrB wx w6.heap.size 24 q)) (wx.setCells w.heap.size 0 (r.map bv)) :=
    fun wx hb => by
      have h1 := (hz7.below hb hz7.lt).stored (l' := r) (by simp [Hml.out])
      exact ⟨h1.there Hml.out, h1.some Hml.out, (hQ.below hb hQ.lt).of (setCells_far _ _ (by omega) _ _ _)⟩
  have hu2 := Tryd.underlying24
  have hi2 : (Tryd.prog.info? 24).map (·.size) = some (r.map bv).length := by rw [info32]; simp [Hml.out]
  have hl2 : (r.map bv).length = 32 := by simp [Hml.out]
  have h12 := one_bv r
  have HPd := fun (wx : World) (hb : Below w7.heap.size w7 wx) => padded92 A k c key wx hkc hk (d_rd hr (c_call hB7 hb)) (hK.below (c_call hB7 hb))
  clear hz6 hB6
  go_region_held3 (fun wx => wx.there w.heap.size 0 32 ∧ (SomeB wx w.heap.size 24 32 ∧ ArrB wx w6.heap.size 24 q))
    (first
      | (refine hkeep _ ?_; (repeat (first | exact c_refl _ | refine c_drew ?_ | refine c_alloc ?_ _ | refine c_call ?_ hbm | refine c_call ?_ hbs)); done)
      | (refine hstore _ ?_; (repeat (first | exact c_refl _ | refine c_drew ?_ | refine c_alloc ?_ _ | refine c_call ?_ hbm | refine c_call ?_ hbs)); done))
    (first
      | (go_at_call 60; refine (HPd _ (by ((repeat (first | exact c_refl _ | refine c_drew ?_)); first | done | fail "open"))).mono ?_; rintro e wm ⟨gm, rfl, hAm, hbm⟩)
      | (go_at_call 23; refine (Sum_any _ 2 2 [_, _] [xorK key 92, q] _ (by omega) (by simp [xorK_len, Hi.out]) (Rd.mk_ _ _ _ rfl (by simp) rfl rfl) (Txs.cons (txs_one1 (xorK_len _ _) (Nat.le_refl _) (d_rd (hAm.rd (xorK_len _ _)) (d_al _ _))) (txs_one1 Hi.out (Nat.le_refl _) ((hkeep _ (by ((repeat (first | exact c_refl _ | refine c_drew ?_ | refine c_alloc ?_ _ | refine c_call ?_ hbm)); first | done | fail "open"))).2.2.rd Hi.out))) (hK.below (c_call hB7 (by ((repeat (first | exact c_refl _ | refine c_drew ?_ | refine c_alloc ?_ _ | refine c_call ?_ hbm)); first | done | fail "open"))))).mono ?_; rintro e ws ⟨rfl, hbs⟩; rw [show [xorK key 92, q].flatten = xorK key 92 ++ q by simp, Hmac.out]))
  have HB : Below w7.heap.size w7 ws := by
    repeat (first | exact c_refl _ | refine c_drew ?_ | refine c_alloc ?_ _ | refine c_call ?_ hbm | refine c_call ?_ hbs)
  have HA : ArrB (ws.setCells w.heap.size 0 (r.map bv)) w.heap.size 24 r := (hz7.below HB hz7.lt).stored (by rw [Hml.out]; rfl)
  go_wp2_with fail
  exact bodyPost_ret (results_cell_row rfl _ _ w.heap.size 24 _ (0, 0) _ rfl HA Tryd.underlying24 rfl (infoK32 Hml.out)) rfl ⟨by rw [Hr0.out], below_setCells (Nat.le_refl _) _ _ _ (c_call hB7 HB)⟩

end Go.Proofs.YtgjeamapgdakcaaDoor

/-
  CONTRACTS of the document's own Expand (coterieref03).
-/
set_option linter.unusedVariables false
namespace Go.Proofs.YtgjeamapgdakcaaDoor
open Go.RowKit

theorem rExpand_bad (k : List UInt8) (Ai : Option Addr) (ni ci : Nat) (n : Int) (w : World) (hn : n < 0 ∨ 8160 < n) :
    Calls Tryd.prog 41 #[.agg (k.map bv).toArray, .slice Ai ni ci, .int .i64 n] w fun e w' => e = .returned (.tuple #[.slice none 0 0, .int .i64 1]) ∧ Below w.heap.size w w' := by
  rcases hn with h | h
  · go_enter Tryd.func41, Tryd.ntmps41
    go_wp2_with fail
    go_ret2
    exact ⟨rfl, d_al _ _⟩
  · have h' : ¬ n < 0 := by omega
    go_enter Tryd.func41, Tryd.ntmps41
    go_wp2_with fail
    go_ret2
    exact ⟨rfl, d_al _ _⟩

theorem rExpand_long (k : List UInt8) (Ai : Option Addr) (ni ci : Nat) (n : Int) (w : World) (h0 : 0 ≤ n) (hn : n ≤ 8160) (hni : 1048576 < ni) :
    Calls Tryd.prog 41 #[.agg (k.map bv).toArray, .slice Ai ni ci, .int .i64 n] w fun e w' => e = .returned (.tuple #[.slice none 0 0, .int .i64 4]) ∧ Below w.heap.size w w' := by
  have h' : ¬ n < 0 := by omega
  go_enter Tryd.func41, Tryd.ntmps41
  go_wp2_with fail
  go_ret2
  exact ⟨rfl, d_al _ _⟩

theorem three_flat (a b : List UInt8) (z : UInt8) : [a, b, [z]].flatten = a ++ b ++ [z] := by simp
theorem one_byte (j : Nat) (hj : j < 255) : [UInt8.ofNat (j + 1)].map bv = [.int .u8 ((j : Int) + 1)] := by
  have e : (UInt8.ofNat (j + 1)).toNat = j + 1 := by rw [UInt8.toNat_ofNat', Nat.mod_eq_of_lt (by omega)]
  simp only [List.map_cons, List.map_nil, bv, e]
  congr 2

set_option maxRecDepth 1000000 in
set_option maxHeartbeats 1000000 in
theorem rExpand_ok (k : List UInt8) (Ai : Option Addr) (ni ci : Nat) (info : List UInt8) (n : Nat) (w : World) (hk : k.length = 32) (hn : n ≤ 8160) (hnc : ni ≤ ci) (hni : ni ≤ 1048576) (hr : Rd w w.heap.size Ai ni (info.map bv)) (hK : KTab w) :
    Calls Tryd.prog 41 #[.agg (k.map bv).toArray, .slice Ai ni ci, .int .i64 (n : Int)] w fun e w' =>
      ∃ A c, e = .returned (.tuple #[.slice A n c, .int .i64 0]) ∧ n ≤ c ∧ Rd w' w'.heap.size A n ((expandU k info n).map bv) ∧ Below w.heap.size w w' := by
  obtain ⟨i0, hi0, hz0, hz1, hz2⟩ := info_parts byteInfo
  have Hk := Lib.hid hk
  have Hil := Lib.hid (show info.length = ni by simpa using hr.len)
  have hn0 : ¬ ((n : Int) < 0) := by omega
  have hA1 : ArrB (w.alloc (.cells (k.map bv).toArray 24)) w.heap.size 24 k := ArrB.mk_ w _ _ k rfl rfl
  clear hk
  go_enter Tryd.func41, Tryd.ntmps41
  go_wp2_with fail
  go_loopw [8, 9, 10] (fun v l i wr => ∃ (j : Nat) (A : Option Addr) (c : Nat) (Al : Option Addr) (nl cl : Nat), 32 * j < n + 32 ∧ v = .slice A (32 * j) c ∧ 32 * j ≤ c ∧ l = .slice Al nl cl ∧ nl ≤ cl ∧ Hid ((stepU k info j).length = nl) ∧ i = .int .i64 ((j : Int) + 1) ∧
      wr.ownsRow (w.heap.size + 1) 5 1 v (32 * j) ((outU k info j).map bv) ∧ Rd wr wr.heap.size Al nl ((stepU k info j).map bv) ∧ (∀ g, v.ownBlock = some g → ∀ ad, Al = some ad → ad.block ≠ g) ∧ ArrB wr w.heap.size 24 k ∧ Below w.heap.size w wr) (fun v _ _ _ => n + 32 - lenOf v)
  case atStart => exact ⟨0, none, 0, none, 0, 0, by omega, rfl, Nat.le_refl _, rfl, Nat.le_refl _, Lib.hid rfl, by simp, World.ownsRow_nil _ _ _ _, Rd.zero _ _ _, (fun g h => by cases h), hA1, d_al _ _⟩
  case round =>
    obtain ⟨j, A, c, Al, nl, cl, hj, rfl, hjc, rfl, hnl, hll, rfl, hown, hrl, hfree, hA, hB⟩ := hrel
    have hl : ((32 * j : Nat) : Int) = 32 * (j : Int) := by omega
    have hls := stepU_le k info j
    have hnl32 : nl ≤ 32 := by have := hll.out; omega
    clear hls
    by_cases hlt : 32 * j < n
    · have hj255 : j < 255 := by omega
      have Hob := Lib.hid (one_byte j hj255)
      have hb2 := (d_al wr (.cells #[.int .u8 ((j : Int) + 1)] 5)).alloc (al0 _ _) (.cells #[.slice Al nl cl, .slice Ai ni ci, .slice (some ⟨wr.heap.size, 0, none⟩) 1 1] 45)
      go_wp2_with fail
      refine (rMac_any (some ⟨w.heap.size, 0, none⟩) 32 32 k (some ⟨wr.heap.size + 1, 0, none⟩) 3 3 [.slice Al nl cl, .slice Ai ni ci, .slice (some ⟨wr.heap.size, 0, none⟩) 1 1] [stepU k info j, info, [UInt8.ofNat (j + 1)]] _ (by omega) (by omega) (by omega) (by rw [three_flat]; simp only [List.length_append, hll.out, Hil.out, List.length_cons, List.length_nil]; omega) (d_rd (hA.rd Hk.out) hb2) (Rd.mk_ _ _ _ (by simp) (by simp) rfl rfl)
        (Txs.cons (txs_one1 hll.out hnl (d_rd hrl hb2)) (Txs.cons (txs_one1 Hil.out hnc (d_rd hr (c_call hB hb2))) (txs_one1 rfl (Nat.le_refl _) (((Rd.mk_ (B := wr.heap.size + 1) _ _ _ rfl (by omega) rfl (by rw [Hob.out])).alloc (by simp) _).more (by simp))))) (hK.below (c_call hB hb2))).mono ?_
      rintro e w3 ⟨rfl, hb3⟩
      have hb03 : Below wr.heap.size wr w3 := c_call hb2 hb3
      have hown3 := own_below hown hb03
      have hA3 := hA.below hb03 hA.lt
      have hB3 := c_call hB hb03
      have hs3 := hb03.size
      have hwr := hA.lt
      rw [three_flat, ← stepU_succ]
      have Hsl := Lib.hid (stepU_len k info j)
      have Ho := Lib.hid (outU_succ k info j)
      clear hb2 hb3 hb03 hrl hA hB
      generalize hgr : stepU k info (j + 1) = r at *
      have Hgr := Lib.hid hgr
      clear hgr
      have hQ4 : ArrB (w3.alloc (.cells (r.map bv).toArray 24)) w3.heap.size 24 r := ArrB.mk_ _ _ _ _ rfl rfl
      have hB4 := c_alloc hB3 (.cells (r.map bv).toArray 24)
      have hA4 := hA3.alloc (.cells (r.map bv).toArray 24)
      have hown4 := hown3.alloc (.cells (r.map bv).toArray 24)
      have hg4 : w3.heap.size < (w3.alloc (.cells (r.map bv).toArray 24)).heap.size := hQ4.lt
      have hbase : w.heap.size + 1 ≤ (w3.alloc (.cells (r.map bv).toArray 24)).heap.size := by omega
      go_wp2_with (first
        | ((with_reducible show wpList _ _ _ (⟨none, Op.store 24 _ _, _, _, _, _⟩ :: _) _ _); refine wpList_store_row rfl 24 (.tmp 11) (.tmp 34) rfl w3.heap.size (r.map bv).toArray rfl rfl 24 ((List.replicate 32 (0 : UInt8)).map bv).toArray (heap_alloc_new _ _) (infoK32 Hsl.out) (sizeK Hsl.out) (one_bvA _) ?_; rw [World.setRow_alloc_new])
        | (at_builtin; refine wpList_append_rd _ rfl (.tmp 36) (.tmp 37) _ rfl (w.heap.size + 1) 5 i0 _ 1 Tryd.underlying45 hi0 hz0 hz1 hz2 rfl (.slice A (32 * j) c) (32 * j) _ rfl hown4 _ (some ⟨w3.heap.size, 0, none⟩) 32 32 (r.map bv) rfl (hQ4.rd Hsl.out) (one_bv _) (by simp only [maxLen]; omega) (by omega) hbase ?_; intro v5 w5 hown5 hgr5 hat5))
      obtain ⟨A5, c5, rfl, hc5, _⟩ := own_form hown5
      have hne : ∀ g, (Value.slice A (32 * j) c).ownBlock = some g → g < w3.heap.size ∧ w.heap.size < g := fun g hg => ⟨Nat.lt_of_lt_of_le (hown.lt g hg).2 hs3, (hown.lt g hg).1⟩
      have hQ5 := hQ4.of (hgr5.block w3.heap.size hg4 (fun e => by have := (hne _ e.symm).1; omega))
      have hA5 := hA4.of (hgr5.block w.heap.size hA4.lt (fun e => by have := (hne _ e.symm).2; omega))
      have hB5 := hB4.grown hgr5 hB4.size (fun g hg => Nat.le_of_lt (hne g hg).2)
      go_roundw
      case rel =>
        refine ⟨j + 1, A5, c5, some ⟨w3.heap.size, 0, none⟩, 32, 32, by omega, rfl, hc5, rfl, Nat.le_refl _, Lib.hid (by rw [Hgr.out]; exact Hsl.out), by go_num, ?_, by rw [Hgr.out]; exact hQ5.rd Hsl.out, ?_, hA5, hB5⟩
        · rw [Ho.out, List.map_append]
          exact hown5
        · rintro g hg ad had
          obtain rfl := Option.some.inj had
          rcases hat5 with h | h
          · rw [hg] at h
            have := (hne g h.symm).1
            show w3.heap.size ≠ g
            omega
          · rw [hg] at h
            injection h with h
            show w3.heap.size ≠ g
            omega
      case measure => simp [lenOf]; omega
    · have Hx := Lib.hid (expandU_of k info n j (by omega))
      go_wp2_with fail
      go_ret2
      refine ⟨A, c, rfl, by omega, ?_, hB⟩
      rw [← Hx.out, List.map_take]
      exact (Rd.of_own hown).take (by omega)

end Go.Proofs.YtgjeamapgdakcaaDoor

