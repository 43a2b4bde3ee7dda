/-
  THE WALK of MacKeys (coterielaw03).
-/
import Derived.Test.YtmkkghlpdnoogaaDoorMacOwn
set_option linter.unusedVariables false
namespace Go.Proofs.YtmkkghlpdnoogaaDoor
open Go.RowKit

theorem two_texts {w : World} {B : Nat} {A A' : Option Addr} {k c k' c' : Nat} {a b : List UInt8} (hk : a.length = k) (hk' : b.length = k') (hc : k ≤ c) (hc' : k' ≤ c') (hr : Rd w B A k (a.map bv)) (hr' : Rd w B A' k' (b.map bv)) : Txs w B [.slice A k c, .slice A' k' c'] [a, b] :=
  Txs.cons (txs_one1 hk hc hr) (txs_one1 hk' hc' hr')

set_option maxRecDepth 1000000 in
set_option maxHeartbeats 2000000 in
theorem walk_MacKeys (A : Option Addr) (k c : Nat) (key : List UInt8) (Aa : Option Addr) (na ca : Nat) (a : List UInt8) (Ab : Option Addr) (nb cb : Nat) (b : List UInt8) (x : UInt8) (w : World) (hkc : k ≤ c) (hcm : c ≤ maxLen) (hr : Rd w w.heap.size A k (key.map bv)) (hac : na ≤ ca) (hacm : ca ≤ maxLen) (ha : Rd w w.heap.size Aa na (a.map bv)) (hbc : nb ≤ cb) (hbcm : cb ≤ maxLen) (hb : Rd w w.heap.size Ab nb (b.map bv))
    (hT : CTab w) :
    Calls Tryd.prog 7 #[.slice A k c, .slice Aa na ca, .slice Ab nb cb, .int .u8 (x.toNat : Int)] w fun e w' => e = .returned (.bool true) ∧ Below w.heap.size w w' := by
  go_enter Tryd.func7, Tryd.ntmps7
  go_wp2_with fail
  refine (live03 _ hT).mono ?_
  rintro e w2 ⟨rfl, hB2⟩
  by_cases hk : k ≤ 500
  rotate_left
  · go_wp2_with fail
    go_ret
    exact ⟨rfl, hB2⟩
  by_cases hna : na ≤ 2000
  rotate_left
  · go_wp2_with fail
    go_ret
    exact ⟨rfl, hB2⟩
  by_cases hnb : nb ≤ 2000
  rotate_left
  · go_wp2_with fail
    go_ret
    exact ⟨rfl, hB2⟩
  have Hkl := Lib.hid (show key.length = k by simpa using hr.len)
  have Hal := Lib.hid (show a.length = na by simpa using ha.len)
  have Hbl := Lib.hid (show b.length = nb by simpa using hb.len)
  have Hab := Lib.hid (show [a, b].flatten = a ++ b by simp)
  go_wp2_with fail
  have b3 := c_alloc hB2 (.cells #[.slice Aa na ca, .slice Ab nb cb] 25)
  refine (Mac_any A k c key _ 2 2 [.slice Aa na ca, .slice Ab nb cb] [a, b] _ hkc (by omega) (by omega) (by omega) (by rw [Hab.out, List.length_append, Hal.out, Hbl.out]; omega) (d_rd hr b3) (Rd.mk_ _ _ _ rfl (by simp) rfl rfl) (two_texts Hal.out Hbl.out hac hbc (d_rd ha b3) (d_rd hb b3)) (hT.below b3)).mono ?_
  rintro e w3 ⟨rfl, hb3⟩
  have hB3 : Below w.heap.size w w3 := b3.trans (hb3.mono b3.size)
  rw [Hab.out]
  have Hrl := Lib.hid (macU_len key (a ++ b))
  have Hsum := fun (h : 64 < k) => macU_sum key (a ++ b) (by have := Hkl.out; omega)
  have Hzer := fun (z : Nat) (h : k + z ≤ 64) => macU_zeros key (a ++ b) z (by have := Hkl.out; omega)
  have HM := fun (Ax : Option Addr) (n cx : Nat) (kx : List UInt8) (wx : World) (hx : n ≤ cx) (hn : n ≤ 500) (hrx : Rd wx wx.heap.size Ax n (kx.map bv)) (Ah : Option Addr) (hh : Rd wx wx.heap.size Ah 2 [.slice Aa na ca, .slice Ab nb cb]) (hbx : Below w.heap.size w wx) =>
    Mac_any Ax n cx kx Ah 2 2 [.slice Aa na ca, .slice Ab nb cb] [a, b] wx hx (by omega) (by omega) (by omega) (by rw [Hab.out, List.length_append, Hal.out, Hbl.out]; omega) hrx hh (two_texts Hal.out Hbl.out hac hbc (d_rd ha hbx) (d_rd hb hbx)) (hT.below hbx)
  have HM1 := fun (Ax : Option Addr) (n cx : Nat) (wx : World) (hx : n ≤ cx) (hn : n = na + nb) (hrx : Rd wx wx.heap.size Ax n ((a ++ b).map bv)) (Ah : Option Addr) (hh : Rd wx wx.heap.size Ah 1 [.slice Ax n cx]) (hbx : Below w.heap.size w wx) =>
    Mac_any A k c key Ah 1 1 [.slice Ax n cx] [a ++ b] wx hkc (by omega) (by omega) (by omega) (by simp [Hal.out, Hbl.out]; omega) (d_rd hr hbx) hh (txs_one1 (by rw [List.length_append, Hal.out, Hbl.out, hn]) hx hrx) (hT.below hbx)
  have e1 : [a ++ b].flatten = a ++ b := by simp
  rw [e1] at HM1
  simp only [Hab.out] at HM
  have HabL := Lib.hid (show (a ++ b).length = na + nb by rw [List.length_append, Hal.out, Hbl.out])
  generalize hr0 : macU key (a ++ b) = r at *
  have Hr0 := Lib.hid hr0
  clear hr0 e1 hb3 b3
  have hQ : ArrB (w3.alloc (.cells (r.map bv).toArray 36)) w3.heap.size 36 r := ArrB.mk_ _ _ _ _ rfl rfl
  have hB4 := c_alloc hB3 (.cells (r.map bv).toArray 36)
  go_wp2_with ((with_reducible show wpList _ _ _ (⟨none, Op.store 36 _ _, _, _, _, _⟩ :: _) _ _); refine wpList_store_row rfl 36 (.tmp 10) (.tmp 34) rfl w3.heap.size (r.map bv).toArray rfl rfl 36 ((List.replicate 32 (0 : UInt8)).map bv).toArray (heap_alloc_new _ _) (infoK32 Hrl.out) (sizeK Hrl.out) (one_bvA _) ?_; rw [World.setRow_alloc_new])
  generalize w3.alloc (.cells (r.map bv).toArray 36) = w4 at *
  have hq := fun wx : World => key_same wx r Hrl.out
  have hund := Tryd.underlying36
  have hinf : (Tryd.prog.info? 36).map (·.size) = some (r.map bv).length := by rw [info32]; simp [Hrl.out]
  have hkeep : ∀ wx : World, Below w4.heap.size w4 wx → wx.rangeAt w3.heap.size 0 (r.map bv) := fun wx hb => (hQ.below hb hQ.lt).range
  obtain ⟨i0, hi0, hz0, hz1, hz2⟩ := info_parts byteInfo
  go_region_held3 (fun wx => wx.rangeAt w3.heap.size 0 (r.map bv))
    (first | (refine hkeep _ ?_; (repeat (first | exact c_refl _ | exact hBa | exact hBb | refine c_drew ?_ | refine c_alloc ?_ _ | refine c_call ?_ hbs)); done))
    (first
      | (refine step_append_rd (by rfl) (.const (.slice none 0 0)) (.tmp 37) _ rfl w4.heap.size 5 i0 _ 1 Tryd.underlying25 hi0 hz0 hz1 hz2 rfl (.slice none 0 0) 0 [] rfl (World.ownsRow_nil _ _ _ _) _ Aa na ca (a.map bv) rfl (d_rd ha (by ((repeat (first | exact c_refl _ | exact hB4 | refine c_drew ?_)); first | done | fail "open"))) (one_bv _) (by simp only [maxLen]; omega) (by omega) (show Below w4.heap.size w4 _ from (by ((repeat (first | exact c_refl _ | exact hB4 | refine c_drew ?_)); first | done | fail "open"))).size ?_; intro va wa howna hgra; have hBa : Below w4.heap.size w4 wa := (show Below w4.heap.size w4 _ from (by ((repeat (first | exact c_refl _ | exact hB4 | refine c_drew ?_)); first | done | fail "open"))).grown hgra (show Below w4.heap.size w4 _ from (by ((repeat (first | exact c_refl _ | exact hB4 | refine c_drew ?_)); first | done | fail "open"))).size (by simp [Value.ownBlock]))
      | (refine step_append_rd (by rfl) (.tmp 38) (.tmp 39) _ rfl w4.heap.size 5 i0 _ 1 Tryd.underlying25 hi0 hz0 hz1 hz2 rfl va na (a.map bv) rfl (by simpa using howna) _ Ab nb cb (b.map bv) rfl (d_rd hb (by ((repeat (first | exact c_refl _ | exact hBa | exact hB4.trans (hBa.mono hB4.size) | refine c_drew ?_)); first | done | fail "open"))) (one_bv _) (by simp only [maxLen]; omega) (by omega) (show Below w4.heap.size w4 _ from (by ((repeat (first | exact c_refl _ | exact hBa | refine c_drew ?_)); first | done | fail "open"))).size ?_; intro vb wb hownb hgrb; have hBb : Below w4.heap.size w4 wb := (show Below w4.heap.size w4 _ from (by ((repeat (first | exact c_refl _ | exact hBa | refine c_drew ?_)); first | done | fail "open"))).grown hgrb (show Below w4.heap.size w4 _ from (by ((repeat (first | exact c_refl _ | exact hBa | refine c_drew ?_)); first | done | fail "open"))).size (fun g hg => (howna.lt g hg).1); obtain ⟨Ab', cb', rfl, hcb, _⟩ := own_form hownb; rw [← List.map_append] at hownb; have hRb := Rd.of_own hownb)
      | (go_at_call 26; refine (HM1 Ab' (na + nb) cb' _ hcb rfl (d_rd hRb (by ((repeat (first | exact c_refl _ | refine c_drew ?_ | refine c_alloc ?_ _)); first | done | fail "open"))) _ (Rd.mk_ _ _ _ rfl (by simp) rfl rfl) (by ((repeat (first | exact c_refl _ | exact hB4.trans (hBb.mono hB4.size) | refine c_drew ?_ | refine c_alloc ?_ _)); first | done | fail "open"))).mono ?_; rintro e ws ⟨rfl, hbs⟩))
  have hB5 : Below w4.heap.size w4 ws := by
    repeat (first | exact c_refl _ | exact hBb | refine c_drew ?_ | refine c_alloc ?_ _ | refine c_call ?_ hbs)
  have hB6 : Below w.heap.size w ws := c_call hB4 hB5
  have hQ6 := hQ.below hB5 hQ.lt
  clear hB5 hBa hBb hRb howna hownb hgra hgrb hcb hbs HM1 hkeep hQ hB4 hB3
  have hg3 : w3.heap.size < ws.heap.size := hQ6.lt
  generalize hgo : w3.heap.size = gO at *
  clear hgo
  by_cases hs : k ≤ 64
  · have hxb := b_lt x
    obtain ⟨z, hz, hzk⟩ : ∃ z : Nat, min (x.toNat : Int) (64 - (k : Int)) = (z : Int) ∧ k + z ≤ 64 := ⟨min x.toNat (64 - k), by omega, by omega⟩
    have Hz := Lib.hid hz
    have Hze := Lib.hid (Hzer z hzk)
    have Hkz := Lib.hid (show (key ++ List.replicate z (0 : UInt8)).length = k + z by simp [Hkl.out])
    clear hz Hzer Hsum
    go_wp2_with (first
      | (at_builtin; refine wpList_append_rd _ rfl (.const (.slice none 0 0)) (.tmp 60) _ rfl w.heap.size 5 i0 _ 1 Tryd.underlying25 hi0 hz0 hz1 hz2 rfl (.slice none 0 0) 0 [] rfl (World.ownsRow_nil _ _ _ _) w.heap.size A k c (key.map bv) rfl (hr.below hB6) (one_bv _) (by simp only [maxLen]; omega) (by omega) hB6.size ?_; intro v7 w7 hown7 hgr7 hat7; have hown7' : w7.ownsRow w.heap.size 5 1 v7 k (key.map bv) := (by simpa using hown7); have hB7 : Below w.heap.size w w7 := hB6.grown hgr7 hB6.size (by simp [Value.ownBlock]); obtain ⟨v8, w8, hrun8, hown8, hgr8⟩ := run_append_zeros w7 w.heap.size v7 k key hown7' z (by omega) hB7.size; rw [← Hz.out] at hrun8)
      | (at_builtin; refine Lib.wpList_append_run _ rfl (.tmp 61) (.tmp 67) _ _ rfl v7 _ rfl rfl v8 w8 hrun8 ?_))
    have hB8 : Below w.heap.size w w8 := hB7.grown hgr8 hB7.size (fun g hg => (hown7'.lt g hg).1)
    have hQ7 : ArrB w7 gO 36 r := hQ6.of (hgr7.block gO hg3 (by simp [Value.ownBlock]))
    have hQ8 : ArrB w8 gO 36 r := hQ7.of (hgr8.block gO hQ7.lt (fun e => by
      rcases hat7 with h | h
      · rw [h] at e
        simp [Value.ownBlock] at e
      · rw [h] at e
        injection e with e
        omega))
    obtain ⟨A8, c8, rfl, hc8, _⟩ := own_form hown8
    have hR8 := Rd.of_own hown8
    have HMs := fun (wx : World) (hrx : Rd wx wx.heap.size A8 (k + z) ((key ++ List.replicate z (0 : UInt8)).map bv)) (Ah : Option Addr) (hh : Rd wx wx.heap.size Ah 2 [.slice Aa na ca, .slice Ab nb cb]) (hbx : Below w.heap.size w wx) => HM A8 (k + z) c8 (key ++ List.replicate z 0) wx hc8 (by omega) hrx Ah hh hbx
    rw [Hze.out] at HMs
    clear HM hQ7 hown8 hgr8 hrun8 hgr7 hown7 hown7' hat7 hB7 hB6 hQ6 hg3
    have hkeep : ∀ wx : World, Below w8.heap.size w8 wx → wx.rangeAt gO 0 (r.map bv) := fun wx hb => (hQ8.below hb hQ8.lt).range
    go_region_held3 (fun wx => wx.rangeAt gO 0 (r.map bv))
      (first | (refine hkeep _ ?_; (repeat (first | exact c_refl _ | refine c_drew ?_ | refine c_alloc ?_ _ | refine c_call ?_ hbt)); done))
      (first
        | (go_at_call 26; refine (HMs _ (d_rd hR8 (by ((repeat (first | exact c_refl _ | refine c_drew ?_ | refine c_alloc ?_ _)); first | done | fail "open"))) _ (by first | exact Rd.mk_ _ _ _ rfl (by simp) rfl rfl | exact (Rd.mk_ _ _ _ rfl (by simp) rfl rfl).drew) (c_call hB8 (by ((repeat (first | exact c_refl _ | refine c_drew ?_ | refine c_alloc ?_ _)); first | done | fail "open")))).mono ?_; rintro e wt ⟨rfl, hbt⟩))
    have hE : Below w.heap.size w wt := by
      repeat (first | exact hB8 | refine c_drew ?_ | refine c_alloc ?_ _ | refine c_call ?_ hbt)
    go_wp2_with fail
    go_ret
    exact ⟨rfl, hE⟩
  · go_wp2_with fail
    have b7 := c_alloc hB6 (.cells #[.slice A k c] 25)
    refine (pSum_any _ 1 1 [.slice A k c] [key] _ (by omega) (by simp [Hkl.out]; omega) (Rd.mk_ _ _ _ rfl (by simp) rfl rfl) (txs_one1 Hkl.out hkc (d_rd hr b7)) (hT.below b7)).mono ?_
    rintro e w7 ⟨rfl, hb7⟩
    have hB7 : Below w.heap.size w w7 := b7.trans (hb7.mono b7.size)
    have hQ7 := (hQ6.alloc (.cells #[.slice A k c] 25)).below hb7 (hQ6.alloc _).lt
    rw [show [key].flatten = key by simp]
    have Hsl := Lib.hid (sumU_len key)
    have Hsm := Lib.hid (Hsum (by omega))
    clear Hsum Hzer b7 hb7 hB6 hQ6
    have HMs := fun (wx : World) (hrx : Rd wx wx.heap.size (some ⟨w7.heap.size, 0, none⟩) 32 ((sumU key).map bv)) (Ah : Option Addr) (hh : Rd wx wx.heap.size Ah 2 [.slice Aa na ca, .slice Ab nb cb]) (hbx : Below w.heap.size w wx) => HM (some ⟨w7.heap.size, 0, none⟩) 32 32 (sumU key) wx (by omega) (by omega) hrx Ah hh hbx
    rw [Hsm.out] at HMs
    clear HM
    generalize sumU key = s at *
    have hS8 : ArrB (w7.alloc (.cells (s.map bv).toArray 36)) w7.heap.size 36 s := ArrB.mk_ _ _ _ _ rfl rfl
    have hQ8 := hQ7.alloc (.cells (s.map bv).toArray 36)
    have hB8 := c_alloc hB7 (.cells (s.map bv).toArray 36)
    go_wp2_with ((with_reducible show wpList _ _ _ (⟨none, Op.store 36 _ _, _, _, _, _⟩ :: _) _ _); refine wpList_store_row rfl 36 (.tmp 11) (.tmp 49) rfl w7.heap.size (s.map bv).toArray rfl rfl 36 ((List.replicate 32 (0 : UInt8)).map bv).toArray (heap_alloc_new _ _) (infoK32 Hsl.out) (sizeK Hsl.out) (one_bvA _) ?_; rw [World.setRow_alloc_new])
    generalize w7.alloc (.cells (s.map bv).toArray 36) = w8 at *
    have hkeep : ∀ wx : World, Below w8.heap.size w8 wx → wx.rangeAt gO 0 (r.map bv) := fun wx hb => (hQ8.below hb hQ8.lt).range
    go_region_held3 (fun wx => wx.rangeAt gO 0 (r.map bv))
      (first | (refine hkeep _ ?_; (repeat (first | exact c_refl _ | refine c_drew ?_ | refine c_alloc ?_ _ | refine c_call ?_ hbt)); done))
      (first
        | (go_at_call 26; refine (HMs _ ((hS8.below (by ((repeat (first | exact c_refl _ | refine c_drew ?_ | refine c_alloc ?_ _)); first | done | fail "open")) hS8.lt).rd Hsl.out) _ (by first | exact Rd.mk_ _ _ _ rfl (by simp) rfl rfl | exact (Rd.mk_ _ _ _ rfl (by simp) rfl rfl).drew) (c_call hB8 (by ((repeat (first | exact c_refl _ | refine c_drew ?_ | refine c_alloc ?_ _)); first | done | fail "open")))).mono ?_; rintro e wt ⟨rfl, hbt⟩))
    have hE : Below w.heap.size w wt := by
      repeat (first | exact hB8 | refine c_drew ?_ | refine c_alloc ?_ _ | refine c_call ?_ hbt)
    go_wp2_with fail
    go_ret
    exact ⟨rfl, hE⟩

end Go.Proofs.YtmkkghlpdnoogaaDoor
