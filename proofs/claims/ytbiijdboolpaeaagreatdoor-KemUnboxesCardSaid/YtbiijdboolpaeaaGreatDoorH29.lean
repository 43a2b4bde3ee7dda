import Derived.Test.YtbiijdboolpaeaaGreatDoorH26
import Derived.Test.YtbiijdboolpaeaaGreatDoorH28
import Derived.Deep.MidRow
set_option linter.unusedVariables false
namespace Go.Proofs.YtbiijdboolpaeaaGreatDoor
open Go.RowKit
theorem marked54 (l : List UInt8) (w : World) (hl : l.length = 64) :
  Calls Tryz.prog 76 #[.agg (l.map bv).toArray, .int .u8 54] w fun e w' =>
   e = .returned (.slice (some ⟨w.heap.size, 0, none⟩) 64 64) ∧ Rd w' w'.heap.size (some ⟨w.heap.size, 0, none⟩) 64 ((l.map (· ^^^ 54)).map bv) ∧ Below w.heap.size w w' := marked_any l 54 w hl
theorem marked92 (l : List UInt8) (w : World) (hl : l.length = 64) :
  Calls Tryz.prog 76 #[.agg (l.map bv).toArray, .int .u8 92] w fun e w' =>
   e = .returned (.slice (some ⟨w.heap.size, 0, none⟩) 64 64) ∧ Rd w' w'.heap.size (some ⟨w.heap.size, 0, none⟩) 64 ((l.map (· ^^^ 92)).map bv) ∧ Below w.heap.size w w' := marked_any l 92 w hl
theorem Txs.cons {w : World} {B : Nat} {v : Value} {vs : List Value} {t : List UInt8} {ts : List (List UInt8)} (h : Txs w B [v] [t]) (h' : Txs w B vs ts) : Txs w B (v :: vs) (t :: ts) := h.append h'
theorem one_slice (A : Option Addr) (n c : Nat) : ∀ u ∈ [Value.slice A n c], u.oneCell' = true := by
 intro u hu
 obtain rfl := List.mem_singleton.1 hu
 rfl
set_option maxRecDepth 1000000 in
set_option maxHeartbeats 1000000 in
theorem Mac_any (A : Option Addr) (k c : Nat) (key : List UInt8) (At : Option Addr) (m ct : Nat) (vs : List Value) (ts : List (List UInt8)) (w : World) (hkc : k ≤ c) (hk : k ≤ 1073741824) (hmc : m ≤ ct) (hm : m ≤ 1073741823) (htot : ts.flatten.length ≤ 1073741824)
  (hr : Rd w w.heap.size A k (key.map bv)) (hv : Rd w w.heap.size At m vs) (ht : Txs w w.heap.size vs ts) (hT : CTab w) :
  Calls Tryz.prog 49 #[.slice A k c, .slice At m ct] w fun e w' => e = .returned (.agg ((macU key ts.flatten).map bv).toArray) ∧ Below w.heap.size w w' := by
 have Htot := Lib.hid htot
 clear htot
 go_enter Tryz.func49, Tryz.ntmps49
 go_wp2_with fail
 refine (filled_any A k c key _ hkc hk (d_rd hr (d_al _ _)) (hT.below (d_al _ _))).mono ?_
 rintro e w2 ⟨rfl, hb2⟩
 have hz2 : ArrB w2 w.heap.size 23 (List.replicate 32 0) := (ArrB.mk_ w _ _ (List.replicate 32 0) rfl rfl).below hb2 (by simp)
 have hB2 : Below w.heap.size w w2 := (d_al _ _).trans (hb2.mono (al0 _ _))
 have Hp := Lib.hid (padK_len key)
 have H54 := Lib.hid (show (padK key).map (· ^^^ 54) = xorK key 54 from rfl)
 have H92 := Lib.hid (show (padK key).map (· ^^^ 92) = xorK key 92 from rfl)
 generalize padK key = p at *
 clear hb2
 have hP := ArrB.mk_ w2 94 (p.map bv).toArray p rfl rfl
 have hzP := hz2.alloc (.cells (p.map bv).toArray 94)
 have hBP := hB2.alloc hB2.size (.cells (p.map bv).toArray 94)
 go_wp2_with (first
  | ((with_reducible refine tsQ 94 ?_); refine srQ 94 (.tmp 5) (.tmp 8) w2.heap.size (p.map bv).toArray (zero64b.map bv).toArray (heap_alloc_new _ _) (infoK Hp.out) (sizeK Hp.out) (one_bvA _) ?_; rw [World.setRow_alloc_new])
  | ((with_reducible refine tdQ 9 ?_); refine wpList_load_row rfl 94 (.tmp 5) rfl w2.heap.size rfl 94 (p.map bv).toArray (0, 0) _ hP Tryz.underlying94 rfl (infoK Hp.out) ?_))
 refine (marked54 p _ Hp.out).mono ?_
 rintro e w3 ⟨rfl, hr3, hb3⟩
 rw [H54.out] at hr3
 have hP3 := hP.below hb3 hP.lt
 have hz3 := hzP.below hb3 hzP.lt
 have hB3 : Below w.heap.size w w3 := hBP.trans (hb3.mono hBP.size)
 have hBlt := hz2.lt
 clear hP hzP hBP hb3 hz2 hB2
 have hg3 : (w2.alloc (.cells (p.map bv).toArray 94)).heap.size = w2.heap.size + 1 := by simp
 rw [hg3] at hr3 ⊢
 have hgP : w.heap.size < w2.heap.size := hBlt
 generalize hgp : w2.heap.size = gP at *
 clear hg3 hgp
 go_wp2_with fail
 refine calls_gen (fun wx => ((Rd wx wx.heap.size (some ⟨w3.heap.size + 1, 0, none⟩) 2 [.slice (some ⟨w3.heap.size, 0, none⟩) 1 1, .slice At m ct] ∧ Rd wx wx.heap.size (some ⟨w3.heap.size, 0, none⟩) 1 [.slice (some ⟨gP + 1, 0, none⟩) 64 64] ∧ Rd wx wx.heap.size (some ⟨gP + 1, 0, none⟩) 64 ((xorK key 54).map bv)) ∧ ArrB wx gP 94 p ∧ ArrB wx w.heap.size 23 (List.replicate 32 0)) ∧ Below w.heap.size w wx) ?_ ?_
 ·
  have b2 := (d_al w3 (.cells #[.slice (some ⟨gP + 1, 0, none⟩) 64 64] 24)).alloc (al0 _ _) (.cells #[.slice (some ⟨w3.heap.size, 0, none⟩) 1 1, .slice At m ct] 25)
  exact ⟨⟨⟨Rd.mk_ _ _ _ (by simp) (by simp) rfl rfl, ((Rd.mk_ (B := w3.heap.size + 1) _ _ _ rfl (by omega) rfl rfl).alloc (by simp) _).more (by simp), d_rd hr3 b2⟩, (hP3.alloc _).alloc _, (hz3.alloc _).alloc _⟩, (hB3.alloc hB3.size _).alloc (Nat.le_trans hB3.size (al0 _ _)) _⟩
 clear hP3 hz3 hr3 hB3
 rintro w4 ⟨⟨⟨hh4, hl4, hr4⟩, hP4, hz4⟩, hB4⟩
 refine (Concat_any _ 2 2 _ [[.slice (some ⟨gP + 1, 0, none⟩) 64 64], vs] w4 (by omega) (by simp) (by simp [hv.len]; omega) hh4 (Lists.two hl4 (Nat.le_refl _) (one_slice _ _ _) (d_rd hv hB4) hmc ht.one_cell)).mono ?_
 rintro e w5 ⟨A5, n5, c5, rfl, hn5, hown5, hb5⟩
 have hr5 := Rd.of_own hown5
 rw [show [[Value.slice (some ⟨gP + 1, 0, none⟩) 64 64], vs].flatten = .slice (some ⟨gP + 1, 0, none⟩) 64 64 :: vs by simp] at hr5
 have hx5 := d_rd hr4 hb5
 have hP5 := hP4.below hb5 hP4.lt
 have hz5 := hz4.below hb5 hz4.lt
 have hB5 : Below w.heap.size w w5 := hB4.trans (hb5.mono hB4.size)
 clear hh4 hl4 hr4 hP4 hz4 hB4 hb5 hown5
 have hn5m : n5 ≤ 1073741824 := by have := hr5.len; have h2 := hv.len; simp only [List.length_cons] at this; omega
 go_wp2_with fail
 refine (pSum_any A5 n5 c5 _ (xorK key 54 :: ts) w5 (by omega) (by have := Htot.out; have := xorK_len key 54; rw [List.flatten_cons, List.length_append]; omega) hr5 (Txs.cons (txs_one1 (xorK_len _ _) (Nat.le_refl _) hx5) (d_txs ht hB5)) (hT.below hB5)).mono ?_
 rintro e w6 ⟨rfl, hb6⟩
 have hP6 := hP5.below hb6 hP5.lt
 have hz6 := hz5.below hb6 hz5.lt
 have hB6 : Below w.heap.size w w6 := hB5.trans (hb6.mono hB5.size)
 have Hi := Lib.hid (innerU_len key ts.flatten)
 have Hmac := Lib.hid (show sumU (xorK key 92 ++ innerU key ts.flatten) = macU key ts.flatten from rfl)
 rw [show sumU (xorK key 54 :: ts).flatten = innerU key ts.flatten by rw [List.flatten_cons]; rfl]
 generalize innerU key ts.flatten = q at *
 clear hr5 hx5 hP5 hz5 hB5 hb6
 have hQ : ArrB (w6.alloc (.cells (q.map bv).toArray 23)) w6.heap.size 23 q := ArrB.mk_ _ _ _ _ rfl rfl
 have hP7 := hP6.alloc (.cells (q.map bv).toArray 23)
 have hz7 := hz6.alloc (.cells (q.map bv).toArray 23)
 have hB7 := hB6.alloc hB6.size (.cells (q.map bv).toArray 23)
 go_wp2_with ((with_reducible refine tsQ 23 ?_); refine srQ 23 (.tmp 6) (.tmp 15) w6.heap.size (q.map bv).toArray ((List.replicate 32 (0 : UInt8)).map bv).toArray (heap_alloc_new _ _) (infoK32 Hi.out) (sizeK Hi.out) (one_bvA _) ?_; rw [World.setRow_alloc_new])
 have hgq : w6.heap.size < (w6.alloc (.cells (q.map bv).toArray 23)).heap.size := hQ.lt
 generalize w6.alloc (.cells (q.map bv).toArray 23) = w7 at *
 have Hml := Lib.hid (macU_len key ts.flatten)
 generalize hr0 : macU key ts.flatten = r at *
 have Hr0 := Lib.hid hr0
 clear hr0
 have hg6 : w.heap.size < w6.heap.size := hz6.lt
 have hkeep : ∀ wx : World, Below w7.heap.size w7 wx → wx.rangeAt gP 0 (p.map bv) ∧ wx.there w.heap.size 0 32 ∧ (SomeB wx w.heap.size 23 32 ∧ ArrB wx w6.heap.size 23 q) :=
  fun wx hb => ⟨(hP7.below hb hP7.lt).range, (hz7.below hb hz7.lt).there (by simp), (hz7.below hb hz7.lt).some (by simp), hQ.below hb hQ.lt⟩
 have hstore : ∀ wx : World, Below w7.heap.size w7 wx → (fun wx : World => wx.rangeAt gP 0 (p.map bv) ∧ wx.there w.heap.size 0 32 ∧ (SomeB wx w.heap.size 23 32 ∧ ArrB wx w6.heap.size 23 q)) (wx.setCells w.heap.size 0 (r.map bv)) :=
  fun wx hb => by
   have h1 := (hz7.below hb hz7.lt).stored (l' := r) (by simp [Hml.out])
   exact ⟨ArrB.range ((hP7.below hb hP7.lt).of (setCells_far _ _ (by omega) _ _ _)), h1.there Hml.out, h1.some Hml.out, (hQ.below hb hQ.lt).of (setCells_far _ _ (by omega) _ _ _)⟩
 have hu1 := Tryz.underlying94
 have hu2 := Tryz.underlying23
 have hi1 : (Tryz.prog.info? 94).map (·.size) = some (p.map bv).length := by rw [info64b]; simp [Hp.out]
 have hi2 : (Tryz.prog.info? 23).map (·.size) = some (r.map bv).length := by rw [info32]; simp [Hml.out]
 have hl2 : (r.map bv).length = 32 := by simp [Hml.out]
 have h12 := one_bv r
 clear hP6 hz6 hB6
 go_region_held3 (fun wx => wx.rangeAt gP 0 (p.map bv) ∧ wx.there w.heap.size 0 32 ∧ (SomeB wx w.heap.size 23 32 ∧ ArrB wx w6.heap.size 23 q))
  (first
   | (refine hkeep _ ?_; (repeat (first | exact c_refl _ | refine c_drew ?_ | refine c_alloc ?_ _ | refine c_call ?_ hbm | refine c_call ?_ hbs)); done)
   | (refine hstore _ ?_; (repeat (first | exact c_refl _ | refine c_drew ?_ | refine c_alloc ?_ _ | refine c_call ?_ hbm | refine c_call ?_ hbs)); done))
  (first
   | (go_at_call 76; refine (marked92 p _ Hp.out).mono ?_; rintro e wm ⟨rfl, hrm, hbm⟩; rw [H92.out] at hrm)
   | (go_at_call 74; refine (pSum_any _ 2 2 [_, _] [xorK key 92, q] _ (by omega) (by simp [xorK_len, Hi.out]) (Rd.mk_ _ _ _ rfl (by simp) rfl rfl) (Txs.cons (txs_one1 (xorK_len _ _) (Nat.le_refl _) (d_rd hrm (d_al _ _))) (txs_one1 Hi.out (Nat.le_refl _) ((hkeep _ (by ((repeat (first | exact c_refl _ | refine c_drew ?_ | refine c_alloc ?_ _ | refine c_call ?_ hbm)); first | done | fail "open"))).2.2.2.rd Hi.out))) (hT.below (c_call hB7 (by ((repeat (first | exact c_refl _ | refine c_drew ?_ | refine c_alloc ?_ _ | refine c_call ?_ hbm)); first | done | fail "open"))))).mono ?_; rintro e ws ⟨rfl, hbs⟩; rw [show [xorK key 92, q].flatten = xorK key 92 ++ q by simp, Hmac.out]))
 have HB : Below w7.heap.size w7 ws := by
  repeat (first | exact c_refl _ | refine c_drew ?_ | refine c_alloc ?_ _ | refine c_call ?_ hbm | refine c_call ?_ hbs)
 have HA : ArrB (ws.setCells w.heap.size 0 (r.map bv)) w.heap.size 23 r := (hz7.below HB hz7.lt).stored (by rw [Hml.out]; rfl)
 go_wp2_with fail
 exact bodyPost_ret (results_cell_row rfl _ _ w.heap.size 23 _ (0, 0) _ rfl HA Tryz.underlying23 rfl (infoK32 Hml.out)) rfl ⟨by rw [Hr0.out], below_setCells (Nat.le_refl _) _ _ _ (c_call hB7 HB)⟩
def padX (p : List UInt8) (x : UInt8) (j : Nat) : List UInt8 := (p.take j).map (· ^^^ x) ++ List.replicate (64 - j) 0
theorem padX_zero (p : List UInt8) (x : UInt8) : padX p x 0 = List.replicate 64 0 := by simp [padX]
theorem padX_all {p : List UInt8} (x : UInt8) (hp : p.length = 64) : padX p x 64 = p.map (· ^^^ x) := by simp [padX, ← hp]
theorem padX_len {p : List UInt8} (x : UInt8) {j : Nat} (hp : p.length = 64) (hj : j ≤ 64) : (padX p x j).length = 64 := by
 unfold padX
 simp
 omega
theorem padX_succ {p : List UInt8} {j : Nat} (x : UInt8) {y : UInt8} (h : p[j]? = some y) (hp : p.length = 64) : padX p x (j + 1) = (padX p x j).set j (y ^^^ x) := by
 have hj := (List.getElem?_eq_some_iff.1 h).1
 unfold padX
 rw [take_succ_of h, List.set_append_right _ _ (by simp; omega), show j - ((p.take j).map (· ^^^ x)).length = 0 from by simp; omega,
  show 64 - j = (64 - (j + 1)) + 1 from by omega, List.replicate_succ]
 simp
theorem padK_at {key : List UInt8} {j : Nat} {y : UInt8} (hk : key.length ≤ 64) (h : key[j]? = some y) : (padK key)[j]? = some y := by
 unfold padK
 rw [if_pos hk, List.getElem?_append_left (List.getElem?_eq_some_iff.1 h).1, h]
theorem padK_past {key : List UInt8} {j : Nat} (hk : key.length ≤ 64) (h : key.length ≤ j) (hj : j < 64) : (padK key)[j]? = some 0 := by
 unfold padK
 rw [if_pos hk, List.getElem?_append_right h, List.getElem?_replicate, if_pos (by omega)]
theorem zero_xor8 (x : UInt8) : 0 ^^^ x = x := UInt8.zero_xor
def PadPost (w : World) (key : List UInt8) (x : UInt8) (e : Ending) (w' : World) : Prop :=
 ∃ g, e = .returned (.slice (some ⟨g, 0, none⟩) 64 64) ∧ ArrB w' g 5 (xorK key x) ∧ Below w.heap.size w w'
set_option maxRecDepth 100000 in
set_option maxHeartbeats 1000000 in
theorem padded_small (A : Option Addr) (k c : Nat) (key : List UInt8) (x : UInt8) (w : World) (hk : k ≤ 64) (hr : Rd w w.heap.size A k (key.map bv)) :
  Calls Tryz.prog 81 #[.slice A k c, .int .u8 (x.toNat : Int)] w (PadPost w key x) := by
 have Hkl := Lib.hid (show key.length = k by simpa using hr.len)
 obtain ⟨p, hp⟩ : ∃ p, padK key = p := ⟨_, rfl⟩
 have HP := Lib.hid hp
 have Hpl := Lib.hid (show p.length = 64 by rw [← hp]; exact padK_len key)
 have Hxp := Lib.hid (show p.map (· ^^^ x) = xorK key x by rw [← hp]; rfl)
 unfold PadPost
 rw [← Hxp.out]
 clear hp
 go_enter Tryz.func81, Tryz.ntmps81
 obtain ⟨wm, hmk, hAm, hBm⟩ := make_bytes 64 w .i64 64 rfl (by omega)
 have hBw : Below w.heap.size w wm := c_call (c_refl w) hBm
 have hrm : Rd wm w.heap.size A k (key.map bv) := (hr).below hBm
 have hgw : w.heap.size ≤ w.heap.size := ((c_refl w)).size
 skip
 clear hBm
 go_wp2_with fail
 go_loopw [18] (fun i wr => ∃ j : Nat, j ≤ 64 ∧ i = .int .i64 (j : Int) ∧ ArrB wr (w.heap.size) 5 (padX p x j) ∧ Rd wr (w.heap.size) A k (key.map bv) ∧ Below w.heap.size w wr) (fun i _ => 64 - (intOf i).toNat)
 case atStart => exact ⟨0, by omega, rfl, by rw [padX_zero]; exact hAm, hrm, hBw⟩
 case round =>
  obtain ⟨j, hj, rfl, hA, hR, hB⟩ := hrel
  by_cases hlt : j < 64
  ·
   have f0 := hA.frozen j
   have hpl := padX_len x Hpl.out hj
   obtain ⟨z0, hz0⟩ : ∃ z0, (padX p x j)[j]? = some z0 := ⟨_, List.getElem?_eq_getElem (by omega)⟩
   have c0 := hA.cell hz0
   obtain ⟨y, hy⟩ : ∃ y, p[j]? = some y := ⟨_, List.getElem?_eq_getElem (by have := Hpl.out; omega)⟩
   have Hs := Lib.hid (padX_succ x hy Hpl.out)
   have Hy := Lib.hid hy
   have j0 : (0 : Int) ≤ (j : Int) := by omega
   have j1 : (j : Int) < 64 := by omega
   have hA2 := hA.set_ j x
   have hB2 := hB.setCell (p := ⟨w.heap.size, j, none⟩) hgw (.int .u8 (x.toNat : Int))
   have hR2 := hR.setCell (p := ⟨w.heap.size, j, none⟩) (Nat.le_refl _) (.int .u8 (x.toNat : Int))
   have c2l : ((padX p x j).set j x)[j]? = some x := by rw [List.getElem?_set_self (by omega)]
   have c2 := hA2.cell (i := j) (x := x) c2l
   have f2 := hA2.frozen j
   clear hy hz0 hpl
   by_cases hjk : j < k
   ·
    obtain ⟨b, o, hAe, hb, hc⟩ := hR2.pos (by omega)
    obtain ⟨yk, hyk⟩ : ∃ y, (key)[j]? = some y := ⟨_, List.getElem?_eq_getElem (by have := Hkl.out; omega)⟩
    have hyy : yk = y := by
     have h1 := padK_at (j := j) (y := yk) (by have := Hkl.out; omega) hyk
     rw [HP.out, Hy.out] at h1
     exact (Option.some.inj h1).symm
    subst hyy
    have ck := hc j (.int .u8 (yk.toNat : Int)) (by rw [List.getElem?_map, hyk]; rfl)
    have hx := b_xor x yk
    rw [UInt8.xor_comm x yk] at hx
    clear hc
    obtain rfl := hAe
    go_wp2_with fail
    refine wp_gen (fun wx => ArrB wx (w.heap.size) 5 ((padX p x j).set j x) ∧ Rd wx (w.heap.size) (some ⟨b, o, none⟩) k (key.map bv) ∧ Below w.heap.size w wx) ⟨hA2, hR2, hB2⟩ ?_
    clear c0 f0 c2 f2 ck
    rintro wz ⟨hAz, hRz, hBz⟩
    have cz1 : wz.cell? ⟨w.heap.size, j, none⟩ = some (.int .u8 (x.toNat : Int)) := hAz.cell (i := j) (x := x) c2l
    have cz2 : wz.cell? ⟨b, o + j, none⟩ = some (.int .u8 (yk.toNat : Int)) := by
     obtain ⟨b', o', he, _, hcz⟩ := hRz.pos (by omega)
     injection he with he
     injection he with he1 he2
     subst he1 he2
     exact hcz j _ (by rw [List.getElem?_map, hyk]; rfl)
    go_still_tail 10, (by kernel_rfl)
    change wpList _ _ _ _ _ wz.drew
    clear cz1 cz2
    refine wpList_gen (fun wx => ArrB wx (w.heap.size) 5 ((padX p x j).set j x) ∧ Rd wx (w.heap.size) (some ⟨b, o, none⟩) k (key.map bv) ∧ Below w.heap.size w wx) ⟨hAz.drew, hRz.drew, hBz.drew⟩ ?_
    rintro w5 ⟨hA5, hR5, hB5⟩
    have c5 := hA5.cell (i := j) (x := x) c2l
    have f5 := hA5.frozen j
    have hA6 := hA5.set_ j (x ^^^ yk)
    rw [List.set_set, UInt8.xor_comm x yk, ← Hs.out] at hA6
    have hB6 := hB5.setCell (p := ⟨w.heap.size, j, none⟩) hgw (.int .u8 ((yk ^^^ x).toNat : Int))
    have hR6 := hR5.setCell (p := ⟨w.heap.size, j, none⟩) (Nat.le_refl _) (.int .u8 ((yk ^^^ x).toNat : Int))
    go_wp2_with fail
    go_roundw
    case rel => exact ⟨j + 1, by omega, by go_num, hA6, hR6, hB6⟩
    case measure => simp [intOf]; omega
   ·
    have hyy : y = 0 := by
     have h1 := padK_past (key := key) (j := j) (by have := Hkl.out; omega) (by have := Hkl.out; omega) hlt
     rw [HP.out, Hy.out] at h1
     exact Option.some.inj h1
    subst hyy
    rw [zero_xor8] at Hs
    rw [← Hs.out] at hA2
    go_wp2_with fail
    go_roundw
    case rel => exact ⟨j + 1, by omega, by go_num, hA2, hR2, hB2⟩
    case measure => simp [intOf]; omega
  ·
   obtain rfl : j = 64 := by omega
   rw [padX_all x Hpl.out] at hA
   rw [show ((64 : Nat) : Int) = 64 from rfl]
   go_wp2_with fail
   go_ret
   exact ⟨w.heap.size, rfl, hA, hB⟩
set_option maxRecDepth 100000 in
set_option maxHeartbeats 1000000 in
theorem padded_big (A : Option Addr) (k c : Nat) (key : List UInt8) (x : UInt8) (w : World) (hkc : k ≤ c) (hk : k ≤ 1073741824) (hr : Rd w w.heap.size A k (key.map bv)) (hK : KTab w) (hs : ¬ k ≤ 64) :
  Calls Tryz.prog 81 #[.slice A k c, .int .u8 (x.toNat : Int)] w (PadPost w key x) := by
 have Hkl := Lib.hid (show key.length = k by simpa using hr.len)
 have Hsl := Lib.hid (sumU_len key)
 obtain ⟨p, hp⟩ : ∃ p, padK (sumU key) = p := ⟨_, rfl⟩
 have HP := Lib.hid hp
 have Hpl := Lib.hid (show p.length = 64 by rw [← hp]; exact padK_len _)
 have Hxp := Lib.hid (show p.map (· ^^^ x) = xorK key x by rw [← hp, padK_sum key (by have := Hkl.out; omega)]; rfl)
 unfold PadPost
 rw [← Hxp.out]
 clear hp Hxp
 go_enter Tryz.func81, Tryz.ntmps81
 go_wp2_with fail
 refine (Sum_any _ 1 1 [.slice A k c] [key] _ (by omega) (by have := Hkl.out; simp; omega) (Rd.mk_ _ _ _ rfl (by simp) rfl rfl) (txs_one1 Hkl.out hkc (d_rd hr (d_al _ _))) (hK.below (d_al _ _))).mono ?_
 rintro e w3 ⟨rfl, hb3⟩
 have hB3 : Below w.heap.size w w3 := c_call (d_al _ _) hb3
 rw [show [key].flatten = key by simp]
 generalize sumU key = s at *
 clear hb3 hr
 have hA4 : ArrB (w3.alloc (.cells (s.map bv).toArray 23)) w3.heap.size 23 s := ArrB.mk_ _ _ _ _ rfl rfl
 have hB4 := c_alloc hB3 (.cells (s.map bv).toArray 23)
 go_wp2_with ((with_reducible refine tsQ 23 ?_); refine srQ 23 (.tmp 5) (.tmp 13) w3.heap.size (s.map bv).toArray ((List.replicate 32 (0 : UInt8)).map bv).toArray (heap_alloc_new _ _) (infoK32 Hsl.out) (sizeK Hsl.out) (one_bvA _) ?_; rw [World.setRow_alloc_new]; refine wpList_gen (fun wx => ArrB wx w3.heap.size 23 s ∧ Below w.heap.size w wx) ⟨hA4, hB4⟩ ?_; rintro w4 ⟨hQ4, hC4⟩; have hr4 := hQ4.rd Hsl.out; generalize w3.heap.size = gS at *; clear hA4 hB4 hB3 hQ4; obtain ⟨wm, hmk, hAm, hBm⟩ := make_bytes 64 w4 .i64 64 rfl (by omega); have hBw : Below w.heap.size w wm := c_call hC4 hBm; have hrm : Rd wm w4.heap.size (some ⟨gS, 0, none⟩) 32 (s.map bv) := (hr4).below hBm; have hgw : w.heap.size ≤ w4.heap.size := (hC4).size; generalize hgm : w4.heap.size = gm at *; clear hBm)
 go_loopw [18] (fun i wr => ∃ j : Nat, j ≤ 64 ∧ i = .int .i64 (j : Int) ∧ ArrB wr (gm) 5 (padX p x j) ∧ Rd wr (gm) (some ⟨gS, 0, none⟩) 32 (s.map bv) ∧ Below w.heap.size w wr) (fun i _ => 64 - (intOf i).toNat)
 case atStart => exact ⟨0, by omega, rfl, by rw [padX_zero]; exact hAm, hrm, hBw⟩
 case round =>
  obtain ⟨j, hj, rfl, hA, hR, hB⟩ := hrel
  by_cases hlt : j < 64
  ·
   have f0 := hA.frozen j
   have hpl := padX_len x Hpl.out hj
   obtain ⟨z0, hz0⟩ : ∃ z0, (padX p x j)[j]? = some z0 := ⟨_, List.getElem?_eq_getElem (by omega)⟩
   have c0 := hA.cell hz0
   obtain ⟨y, hy⟩ : ∃ y, p[j]? = some y := ⟨_, List.getElem?_eq_getElem (by have := Hpl.out; omega)⟩
   have Hs := Lib.hid (padX_succ x hy Hpl.out)
   have Hy := Lib.hid hy
   have j0 : (0 : Int) ≤ (j : Int) := by omega
   have j1 : (j : Int) < 64 := by omega
   have hA2 := hA.set_ j x
   have hB2 := hB.setCell (p := ⟨gm, j, none⟩) hgw (.int .u8 (x.toNat : Int))
   have hR2 := hR.setCell (p := ⟨gm, j, none⟩) (Nat.le_refl _) (.int .u8 (x.toNat : Int))
   have c2l : ((padX p x j).set j x)[j]? = some x := by rw [List.getElem?_set_self (by omega)]
   have c2 := hA2.cell (i := j) (x := x) c2l
   have f2 := hA2.frozen j
   clear hy hz0 hpl
   by_cases hjk : j < 32
   ·
    obtain ⟨b, o, hAe, hb, hc⟩ := hR2.pos (by omega)
    obtain ⟨yk, hyk⟩ : ∃ y, (s)[j]? = some y := ⟨_, List.getElem?_eq_getElem (by have := Hsl.out; omega)⟩
    have hyy : yk = y := by
     have h1 := padK_at (j := j) (y := yk) (by have := Hsl.out; omega) hyk
     rw [HP.out, Hy.out] at h1
     exact (Option.some.inj h1).symm
    subst hyy
    have ck := hc j (.int .u8 (yk.toNat : Int)) (by rw [List.getElem?_map, hyk]; rfl)
    have hx := b_xor x yk
    rw [UInt8.xor_comm x yk] at hx
    clear hc
    obtain ⟨rfl, rfl⟩ : gS = b ∧ 0 = o := by simp at hAe; exact ⟨hAe.1, hAe.2⟩
    go_wp2_with fail
    refine wp_gen (fun wx => ArrB wx (gm) 5 ((padX p x j).set j x) ∧ Rd wx (gm) (some ⟨gS, 0, none⟩) 32 (s.map bv) ∧ Below w.heap.size w wx) ⟨hA2, hR2, hB2⟩ ?_
    clear c0 f0 c2 f2 ck
    rintro wz ⟨hAz, hRz, hBz⟩
    have cz1 : wz.cell? ⟨gm, j, none⟩ = some (.int .u8 (x.toNat : Int)) := hAz.cell (i := j) (x := x) c2l
    have cz2 : wz.cell? ⟨gS, j, none⟩ = some (.int .u8 (yk.toNat : Int)) := by
     obtain ⟨b', o', he, _, hcz⟩ := hRz.pos (by omega)
     injection he with he
     injection he with he1 he2
     subst he1 he2
     have h0 := hcz j (.int .u8 (yk.toNat : Int)) (by rw [List.getElem?_map, hyk]; rfl)
     rwa [Nat.zero_add] at h0
    go_still_tail 10, (by kernel_rfl)
    change wpList _ _ _ _ _ wz.drew
    clear cz1 cz2
    refine wpList_gen (fun wx => ArrB wx (gm) 5 ((padX p x j).set j x) ∧ Rd wx (gm) (some ⟨gS, 0, none⟩) 32 (s.map bv) ∧ Below w.heap.size w wx) ⟨hAz.drew, hRz.drew, hBz.drew⟩ ?_
    rintro w5 ⟨hA5, hR5, hB5⟩
    have c5 := hA5.cell (i := j) (x := x) c2l
    have f5 := hA5.frozen j
    have hA6 := hA5.set_ j (x ^^^ yk)
    rw [List.set_set, UInt8.xor_comm x yk, ← Hs.out] at hA6
    have hB6 := hB5.setCell (p := ⟨gm, j, none⟩) hgw (.int .u8 ((yk ^^^ x).toNat : Int))
    have hR6 := hR5.setCell (p := ⟨gm, j, none⟩) (Nat.le_refl _) (.int .u8 ((yk ^^^ x).toNat : Int))
    go_wp2_with fail
    go_roundw
    case rel => exact ⟨j + 1, by omega, by go_num, hA6, hR6, hB6⟩
    case measure => simp [intOf]; omega
   ·
    have hyy : y = 0 := by
     have h1 := padK_past (key := s) (j := j) (by have := Hsl.out; omega) (by have := Hsl.out; omega) hlt
     rw [HP.out, Hy.out] at h1
     exact Option.some.inj h1
    subst hyy
    rw [zero_xor8] at Hs
    rw [← Hs.out] at hA2
    go_wp2_with fail
    go_roundw
    case rel => exact ⟨j + 1, by omega, by go_num, hA2, hR2, hB2⟩
    case measure => simp [intOf]; omega
  ·
   obtain rfl : j = 64 := by omega
   rw [padX_all x Hpl.out] at hA
   rw [show ((64 : Nat) : Int) = 64 from rfl]
   go_wp2_with fail
   go_ret
   exact ⟨gm, rfl, hA, hB⟩
theorem padded_any (A : Option Addr) (k c : Nat) (key : List UInt8) (x : UInt8) (w : World) (hkc : k ≤ c) (hk : k ≤ 1073741824) (hr : Rd w w.heap.size A k (key.map bv)) (hK : KTab w) :
  Calls Tryz.prog 81 #[.slice A k c, .int .u8 (x.toNat : Int)] w (PadPost w key x) := by
 by_cases hs : k ≤ 64
 ·
  exact padded_small A k c key x w hs hr
 ·
  exact padded_big A k c key x w hkc hk hr hK hs
theorem padded54 (A : Option Addr) (k c : Nat) (key : List UInt8) (w : World) (hkc : k ≤ c) (hk : k ≤ 1073741824) (hr : Rd w w.heap.size A k (key.map bv)) (hK : KTab w) :
  Calls Tryz.prog 81 #[.slice A k c, .int .u8 54] w (PadPost w key 54) := padded_any A k c key 54 w hkc hk hr hK
theorem padded92 (A : Option Addr) (k c : Nat) (key : List UInt8) (w : World) (hkc : k ≤ c) (hk : k ≤ 1073741824) (hr : Rd w w.heap.size A k (key.map bv)) (hK : KTab w) :
  Calls Tryz.prog 81 #[.slice A k c, .int .u8 92] w (PadPost w key 92) := padded_any A k c key 92 w hkc hk hr hK
set_option maxRecDepth 1000000 in
set_option maxHeartbeats 1000000 in
theorem rMac_any (A : Option Addr) (k c : Nat) (key : List UInt8) (At : Option Addr) (m ct : Nat) (vs : List Value) (ts : List (List UInt8)) (w : World) (hkc : k ≤ c) (hk : k ≤ 1073741824) (hm : m ≤ 1073741823) (htot : ts.flatten.length ≤ 1073741824)
  (hr : Rd w w.heap.size A k (key.map bv)) (hv : Rd w w.heap.size At m vs) (ht : Txs w w.heap.size vs ts) (hK : KTab w) :
  Calls Tryz.prog 57 #[.slice A k c, .slice At m ct] w fun e w' => e = .returned (.agg ((macU key ts.flatten).map bv).toArray) ∧ Below w.heap.size w w' := by
 have Htot := Lib.hid htot
 clear htot
 go_enter Tryz.func57, Tryz.ntmps57
 go_wp2_with fail
 refine (padded54 A k c key _ hkc hk (d_rd hr (d_al _ _)) (hK.below (d_al _ _))).mono ?_
 rintro e w2 ⟨g2, rfl, hA2, hb2⟩
 have hz2 : ArrB w2 w.heap.size 23 (List.replicate 32 0) := (ArrB.mk_ w _ _ (List.replicate 32 0) rfl rfl).below hb2 (by simp)
 have hB2 : Below w.heap.size w w2 := c_call (d_al _ _) hb2
 clear hb2
 go_wp2_with fail
 refine (All_any At m ct vs ts w2 (by omega) (by have := Htot.out; omega) (d_rd hv hB2) (d_txs ht hB2)).mono ?_
 rintro e w3 ⟨A3, n3, c3, rfl, hn3, hown3, hb3⟩
 have hr3 := Rd.of_own hown3
 have Hl3 := Lib.hid (show ts.flatten.length = n3 by have h := hr3.len; rwa [List.length_map] at h)
 have hA3 := hA2.below hb3 hA2.lt
 have hz3 := hz2.below hb3 hz2.lt
 have hB3 : Below w.heap.size w w3 := c_call hB2 hb3
 clear hA2 hz2 hB2 hb3 hown3
 go_wp2_with fail
 have hal := d_al w3 (.cells #[.slice (some ⟨g2, 0, none⟩) 64 64, .slice A3 n3 c3] 24)
 refine (Sum_any _ 2 2 [_, _] [xorK key 54, ts.flatten] _ (by omega) (by have := Htot.out; simp only [List.flatten_cons, List.length_append, xorK_len, List.flatten_nil, List.length_nil]; omega) (Rd.mk_ _ _ _ rfl (by simp) rfl rfl) (Txs.cons (txs_one1 (xorK_len _ _) (Nat.le_refl _) (d_rd (hA3.rd (xorK_len _ _)) hal)) (txs_one1 Hl3.out hn3 (d_rd hr3 hal))) (hK.below (c_call hB3 hal))).mono ?_
 rintro e w6 ⟨rfl, hb6⟩
 have hz6 := (hz3.alloc _).below hb6 (hz3.alloc _).lt
 have hB6 : Below w.heap.size w w6 := c_call (c_call hB3 hal) hb6
 have Hi := Lib.hid (innerU_len key ts.flatten)
 have Hmac := Lib.hid (show sumU (xorK key 92 ++ innerU key ts.flatten) = macU key ts.flatten from rfl)
 rw [show sumU [xorK key 54, ts.flatten].flatten = innerU key ts.flatten by simp only [List.flatten_cons, List.flatten_nil, List.append_nil]; rfl]
 generalize innerU key ts.flatten = q at *
 clear hz3 hA3 hr3 hal hB3 hb6
 have hQ : ArrB (w6.alloc (.cells (q.map bv).toArray 23)) w6.heap.size 23 q := ArrB.mk_ _ _ _ _ rfl rfl
 have hz7 := hz6.alloc (.cells (q.map bv).toArray 23)
 have hB7 := hB6.alloc hB6.size (.cells (q.map bv).toArray 23)
 go_wp2_with ((with_reducible refine tsQ 23 ?_); refine srQ 23 (.tmp 5) (.tmp 11) w6.heap.size (q.map bv).toArray ((List.replicate 32 (0 : UInt8)).map bv).toArray (heap_alloc_new _ _) (infoK32 Hi.out) (sizeK Hi.out) (one_bvA _) ?_; rw [World.setRow_alloc_new])
 generalize w6.alloc (.cells (q.map bv).toArray 23) = w7 at *
 have Hml := Lib.hid (macU_len key ts.flatten)
 generalize hr0 : macU key ts.flatten = r at *
 have Hr0 := Lib.hid hr0
 clear hr0
 have hg6 : w.heap.size < w6.heap.size := hz6.lt
 have hkeep : ∀ wx : World, Below w7.heap.size w7 wx → wx.there w.heap.size 0 32 ∧ (SomeB wx w.heap.size 23 32 ∧ ArrB wx w6.heap.size 23 q) :=
  fun wx hb => ⟨(hz7.below hb hz7.lt).there (by simp), (hz7.below hb hz7.lt).some (by simp), hQ.below hb hQ.lt⟩
 have hstore : ∀ wx : World, Below w7.heap.size w7 wx → (fun wx : World => wx.there w.heap.size 0 32 ∧ (SomeB wx w.heap.size 23 32 ∧ ArrB wx w6.heap.size 23 q)) (wx.setCells w.heap.size 0 (r.map bv)) :=
  fun wx hb => by
   have h1 := (hz7.below hb hz7.lt).stored (l' := r) (by simp [Hml.out])
   exact ⟨h1.there Hml.out, h1.some Hml.out, (hQ.below hb hQ.lt).of (setCells_far _ _ (by omega) _ _ _)⟩
 have hu2 := Tryz.underlying23
 have hi2 : (Tryz.prog.info? 23).map (·.size) = some (r.map bv).length := by rw [info32]; simp [Hml.out]
 have hl2 : (r.map bv).length = 32 := by simp [Hml.out]
 have h12 := one_bv r
 have HPd := fun (wx : World) (hb : Below w7.heap.size w7 wx) => padded92 A k c key wx hkc hk (d_rd hr (c_call hB7 hb)) (hK.below (c_call hB7 hb))
 clear hz6 hB6
 go_region_held3 (fun wx => wx.there w.heap.size 0 32 ∧ (SomeB wx w.heap.size 23 32 ∧ ArrB wx w6.heap.size 23 q))
  (first
   | (refine hkeep _ ?_; (repeat (first | exact c_refl _ | refine c_drew ?_ | refine c_alloc ?_ _ | refine c_call ?_ hbm | refine c_call ?_ hbs)); done)
   | (refine hstore _ ?_; (repeat (first | exact c_refl _ | refine c_drew ?_ | refine c_alloc ?_ _ | refine c_call ?_ hbm | refine c_call ?_ hbs)); done))
  (first
   | (go_at_call 81; refine (HPd _ (by ((repeat (first | exact c_refl _ | refine c_drew ?_)); first | done | fail "open"))).mono ?_; rintro e wm ⟨gm, rfl, hAm, hbm⟩)
   | (go_at_call 80; refine (Sum_any _ 2 2 [_, _] [xorK key 92, q] _ (by omega) (by simp [xorK_len, Hi.out]) (Rd.mk_ _ _ _ rfl (by simp) rfl rfl) (Txs.cons (txs_one1 (xorK_len _ _) (Nat.le_refl _) (d_rd (hAm.rd (xorK_len _ _)) (d_al _ _))) (txs_one1 Hi.out (Nat.le_refl _) ((hkeep _ (by ((repeat (first | exact c_refl _ | refine c_drew ?_ | refine c_alloc ?_ _ | refine c_call ?_ hbm)); first | done | fail "open"))).2.2.rd Hi.out))) (hK.below (c_call hB7 (by ((repeat (first | exact c_refl _ | refine c_drew ?_ | refine c_alloc ?_ _ | refine c_call ?_ hbm)); first | done | fail "open"))))).mono ?_; rintro e ws ⟨rfl, hbs⟩; rw [show [xorK key 92, q].flatten = xorK key 92 ++ q by simp, Hmac.out]))
 have HB : Below w7.heap.size w7 ws := by
  repeat (first | exact c_refl _ | refine c_drew ?_ | refine c_alloc ?_ _ | refine c_call ?_ hbm | refine c_call ?_ hbs)
 have HA : ArrB (ws.setCells w.heap.size 0 (r.map bv)) w.heap.size 23 r := (hz7.below HB hz7.lt).stored (by rw [Hml.out]; rfl)
 go_wp2_with fail
 exact bodyPost_ret (results_cell_row rfl _ _ w.heap.size 23 _ (0, 0) _ rfl HA Tryz.underlying23 rfl (infoK32 Hml.out)) rfl ⟨by rw [Hr0.out], below_setCells (Nat.le_refl _) _ _ _ (c_call hB7 HB)⟩
set_option maxRecDepth 1000000 in
theorem mExtract_any (A : Option Addr) (k c : Nat) (key : List UInt8) (A' : Option Addr) (k' c' : Nat) (b : List UInt8) (w : World) (hkc : k ≤ c) (hk : k ≤ 1073741824) (hkc' : k' ≤ c') (hk' : k' ≤ 1073741824)
  (hr : Rd w w.heap.size A k (key.map bv)) (hr' : Rd w w.heap.size A' k' (b.map bv)) (hT : CTab w) :
  Calls Tryz.prog 26 #[.slice A k c, .slice A' k' c'] w fun e w' => e = .returned (.agg ((macU key b).map bv).toArray) ∧ Below w.heap.size w w' := by
 have Hbl := Lib.hid (show b.length = k' by simpa using hr'.len)
 have b2 := (d_al w (.cells ((List.replicate 32 (0 : UInt8)).map bv).toArray 23)).alloc (al0 _ _) (.cells #[.slice A' k' c'] 24)
 have hZ : ArrB ((w.alloc (.cells ((List.replicate 32 (0 : UInt8)).map bv).toArray 23)).alloc (.cells #[.slice A' k' c'] 24)) w.heap.size 23 (List.replicate 32 0) := (ArrB.mk_ w _ _ _ rfl rfl).alloc _
 go_enter Tryz.func26, Tryz.ntmps26
 go_wp2_with fail
 refine (Mac_any A k c key (some ⟨w.heap.size + 1, 0, none⟩) 1 1 [.slice A' k' c'] [b] _ hkc hk (by omega) (by omega) (by have := Hbl.out; simp; omega) (d_rd hr b2) (Rd.mk_ _ _ _ (by simp) (by simp) rfl rfl) (txs_one1 Hbl.out hkc' (d_rd hr' b2)) (hT.below b2)).mono ?_
 rintro e w3 ⟨rfl, hb3⟩
 have hZ3 := hZ.below hb3 hZ.lt
 have hB3 : Below w.heap.size w w3 := c_call b2 hb3
 rw [show [b].flatten = b by simp]
 have Hl := Lib.hid (macU_len key b)
 generalize hr0 : macU key b = r at *
 have Hr0 := Lib.hid hr0
 clear hZ b2 hb3 hr0
 go_wp2_with ((with_reducible refine tsQ 23 ?_); refine wpList_store_row rfl 23 (.tmp 4) (.tmp 8) rfl w.heap.size (r.map bv).toArray rfl rfl 23 _ hZ3 (infoK32 Hl.out) (sizeK Hl.out) (one_bvA _) ?_)
 exact bodyPost_ret (results_cell_row rfl _ _ w.heap.size 23 _ (0, 0) _ rfl (hZ3.row r) Tryz.underlying23 rfl (infoK32 Hl.out)) rfl ⟨by rw [Hr0.out], below_setRow hB3 (Nat.le_refl _) _⟩
set_option maxRecDepth 1000000 in
theorem rExtract_any (A : Option Addr) (k c : Nat) (key : List UInt8) (A' : Option Addr) (k' c' : Nat) (b : List UInt8) (w : World) (hkc : k ≤ c) (hk : k ≤ 1073741824) (hkc' : k' ≤ c') (hk' : k' ≤ 1073741824)
  (hr : Rd w w.heap.size A k (key.map bv)) (hr' : Rd w w.heap.size A' k' (b.map bv)) (hK : KTab w) :
  Calls Tryz.prog 28 #[.slice A k c, .slice A' k' c'] w fun e w' => e = .returned (.agg ((macU key b).map bv).toArray) ∧ Below w.heap.size w w' := by
 have Hbl := Lib.hid (show b.length = k' by simpa using hr'.len)
 have b2 := (d_al w (.cells ((List.replicate 32 (0 : UInt8)).map bv).toArray 23)).alloc (al0 _ _) (.cells #[.slice A' k' c'] 24)
 have hZ : ArrB ((w.alloc (.cells ((List.replicate 32 (0 : UInt8)).map bv).toArray 23)).alloc (.cells #[.slice A' k' c'] 24)) w.heap.size 23 (List.replicate 32 0) := (ArrB.mk_ w _ _ _ rfl rfl).alloc _
 go_enter Tryz.func28, Tryz.ntmps28
 go_wp2_with fail
 refine (rMac_any A k c key (some ⟨w.heap.size + 1, 0, none⟩) 1 1 [.slice A' k' c'] [b] _ hkc hk (by omega) (by have := Hbl.out; simp; omega) (d_rd hr b2) (Rd.mk_ _ _ _ (by simp) (by simp) rfl rfl) (txs_one1 Hbl.out hkc' (d_rd hr' b2)) (hK.below b2)).mono ?_
 rintro e w3 ⟨rfl, hb3⟩
 have hZ3 := hZ.below hb3 hZ.lt
 have hB3 : Below w.heap.size w w3 := c_call b2 hb3
 rw [show [b].flatten = b by simp]
 have Hl := Lib.hid (macU_len key b)
 generalize hr0 : macU key b = r at *
 have Hr0 := Lib.hid hr0
 clear hZ b2 hb3 hr0
 go_wp2_with ((with_reducible refine tsQ 23 ?_); refine wpList_store_row rfl 23 (.tmp 4) (.tmp 8) rfl w.heap.size (r.map bv).toArray rfl rfl 23 _ hZ3 (infoK32 Hl.out) (sizeK Hl.out) (one_bvA _) ?_)
 exact bodyPost_ret (results_cell_row rfl _ _ w.heap.size 23 _ (0, 0) _ rfl (hZ3.row r) Tryz.underlying23 rfl (infoK32 Hl.out)) rfl ⟨by rw [Hr0.out], below_setRow hB3 (Nat.le_refl _) _⟩
theorem rExpand_long (k : List UInt8) (Ai : Option Addr) (ni ci : Nat) (n : Int) (w : World) (h0 : 0 ≤ n) (hn : n ≤ 8160) (hni : 1048576 < ni) :
  Calls Tryz.prog 31 #[.agg (k.map bv).toArray, .slice Ai ni ci, .int .i64 n] w fun e w' => e = .returned (.tuple #[.slice none 0 0, .int .i64 4]) ∧ Below w.heap.size w w' := by
 have h' : ¬ n < 0 := by omega
 go_enter Tryz.func31, Tryz.ntmps31
 go_wp2_with fail
 go_ret2
 exact ⟨rfl, d_al _ _⟩
theorem three_flat (a b : List UInt8) (z : UInt8) : [a, b, [z]].flatten = a ++ b ++ [z] := by simp
theorem one_byte (j : Nat) (hj : j < 255) : [UInt8.ofNat (j + 1)].map bv = [.int .u8 ((j : Int) + 1)] := by
 have e : (UInt8.ofNat (j + 1)).toNat = j + 1 := by rw [UInt8.toNat_ofNat', Nat.mod_eq_of_lt (by omega)]
 simp only [List.map_cons, List.map_nil, bv, e]
 congr 2
set_option maxRecDepth 1000000 in
set_option maxHeartbeats 1000000 in
theorem rExpand_ok (k : List UInt8) (Ai : Option Addr) (ni ci : Nat) (info : List UInt8) (n : Nat) (w : World) (hk : k.length = 32) (hn : n ≤ 8160) (hnc : ni ≤ ci) (hni : ni ≤ 1048576) (hr : Rd w w.heap.size Ai ni (info.map bv)) (hK : KTab w) :
  Calls Tryz.prog 31 #[.agg (k.map bv).toArray, .slice Ai ni ci, .int .i64 (n : Int)] w fun e w' =>
   ∃ A c, e = .returned (.tuple #[.slice A n c, .int .i64 0]) ∧ n ≤ c ∧ Rd w' w'.heap.size A n ((expandU k info n).map bv) ∧ Below w.heap.size w w' := by
 obtain ⟨i0, hi0, hz0, hz1, hz2⟩ := info_parts byteInfo
 have Hk := Lib.hid hk
 have Hil := Lib.hid (show info.length = ni by simpa using hr.len)
 have hn0 : ¬ ((n : Int) < 0) := by omega
 have hA1 : ArrB (w.alloc (.cells (k.map bv).toArray 23)) w.heap.size 23 k := ArrB.mk_ w _ _ k rfl rfl
 clear hk
 go_enter Tryz.func31, Tryz.ntmps31
 go_wp2_with fail
 go_loopw [8, 9, 10] (fun v l i wr => ∃ (j : Nat) (A : Option Addr) (c : Nat) (Al : Option Addr) (nl cl : Nat), 32 * j < n + 32 ∧ v = .slice A (32 * j) c ∧ 32 * j ≤ c ∧ l = .slice Al nl cl ∧ nl ≤ cl ∧ Hid ((stepU k info j).length = nl) ∧ i = .int .i64 ((j : Int) + 1) ∧
   wr.ownsRow (w.heap.size + 1) 5 1 v (32 * j) ((outU k info j).map bv) ∧ Rd wr wr.heap.size Al nl ((stepU k info j).map bv) ∧ (∀ g, v.ownBlock = some g → ∀ ad, Al = some ad → ad.block ≠ g) ∧ ArrB wr w.heap.size 23 k ∧ Below w.heap.size w wr) (fun v _ _ _ => n + 32 - lenOf v)
 case atStart => exact ⟨0, none, 0, none, 0, 0, by omega, rfl, Nat.le_refl _, rfl, Nat.le_refl _, Lib.hid rfl, by simp, World.ownsRow_nil _ _ _ _, Rd.zero _ _ _, (fun g h => by cases h), hA1, d_al _ _⟩
 case round =>
  obtain ⟨j, A, c, Al, nl, cl, hj, rfl, hjc, rfl, hnl, hll, rfl, hown, hrl, hfree, hA, hB⟩ := hrel
  have hl : ((32 * j : Nat) : Int) = 32 * (j : Int) := by omega
  have hls := stepU_le k info j
  have hnl32 : nl ≤ 32 := by have := hll.out; omega
  clear hls
  by_cases hlt : 32 * j < n
  ·
   have hj255 : j < 255 := by omega
   have Hob := Lib.hid (one_byte j hj255)
   have hb2 := (d_al wr (.cells #[.int .u8 ((j : Int) + 1)] 5)).alloc (al0 _ _) (.cells #[.slice Al nl cl, .slice Ai ni ci, .slice (some ⟨wr.heap.size, 0, none⟩) 1 1] 24)
   go_wp2_with fail
   refine (rMac_any (some ⟨w.heap.size, 0, none⟩) 32 32 k (some ⟨wr.heap.size + 1, 0, none⟩) 3 3 [.slice Al nl cl, .slice Ai ni ci, .slice (some ⟨wr.heap.size, 0, none⟩) 1 1] [stepU k info j, info, [UInt8.ofNat (j + 1)]] _ (by omega) (by omega) (by omega) (by rw [three_flat]; simp only [List.length_append, hll.out, Hil.out, List.length_cons, List.length_nil]; omega) (d_rd (hA.rd Hk.out) hb2) (Rd.mk_ _ _ _ (by simp) (by simp) rfl rfl)
    (Txs.cons (txs_one1 hll.out hnl (d_rd hrl hb2)) (Txs.cons (txs_one1 Hil.out hnc (d_rd hr (c_call hB hb2))) (txs_one1 rfl (Nat.le_refl _) (((Rd.mk_ (B := wr.heap.size + 1) _ _ _ rfl (by omega) rfl (by rw [Hob.out])).alloc (by simp) _).more (by simp))))) (hK.below (c_call hB hb2))).mono ?_
   rintro e w3 ⟨rfl, hb3⟩
   have hb03 : Below wr.heap.size wr w3 := c_call hb2 hb3
   have hown3 := own_below hown hb03
   have hA3 := hA.below hb03 hA.lt
   have hB3 := c_call hB hb03
   have hs3 := hb03.size
   have hwr := hA.lt
   rw [three_flat, ← stepU_succ]
   have Hsl := Lib.hid (stepU_len k info j)
   have Ho := Lib.hid (outU_succ k info j)
   clear hb2 hb3 hb03 hrl hA hB
   generalize hgr : stepU k info (j + 1) = r at *
   have Hgr := Lib.hid hgr
   clear hgr
   have hQ4 : ArrB (w3.alloc (.cells (r.map bv).toArray 23)) w3.heap.size 23 r := ArrB.mk_ _ _ _ _ rfl rfl
   have hB4 := c_alloc hB3 (.cells (r.map bv).toArray 23)
   have hA4 := hA3.alloc (.cells (r.map bv).toArray 23)
   have hown4 := hown3.alloc (.cells (r.map bv).toArray 23)
   have hg4 : w3.heap.size < (w3.alloc (.cells (r.map bv).toArray 23)).heap.size := hQ4.lt
   have hbase : w.heap.size + 1 ≤ (w3.alloc (.cells (r.map bv).toArray 23)).heap.size := by omega
   go_wp2_with (first
    | ((with_reducible refine tsQ 23 ?_); refine srQ 23 (.tmp 11) (.tmp 34) w3.heap.size (r.map bv).toArray ((List.replicate 32 (0 : UInt8)).map bv).toArray (heap_alloc_new _ _) (infoK32 Hsl.out) (sizeK Hsl.out) (one_bvA _) ?_; rw [World.setRow_alloc_new])
    | (at_builtin; refine wpList_append_rd _ rfl (.tmp 36) (.tmp 37) _ rfl (w.heap.size + 1) 5 i0 _ 1 Tryz.underlying24 hi0 hz0 hz1 hz2 rfl (.slice A (32 * j) c) (32 * j) _ rfl hown4 _ (some ⟨w3.heap.size, 0, none⟩) 32 32 (r.map bv) rfl (hQ4.rd Hsl.out) (one_bv _) (by simp only [maxLen]; omega) (by omega) hbase ?_; intro v5 w5 hown5 hgr5 hat5))
   obtain ⟨A5, c5, rfl, hc5, _⟩ := own_form hown5
   have hne : ∀ g, (Value.slice A (32 * j) c).ownBlock = some g → g < w3.heap.size ∧ w.heap.size < g := fun g hg => ⟨Nat.lt_of_lt_of_le (hown.lt g hg).2 hs3, (hown.lt g hg).1⟩
   have hQ5 := hQ4.of (hgr5.block w3.heap.size hg4 (fun e => by have := (hne _ e.symm).1; omega))
   have hA5 := hA4.of (hgr5.block w.heap.size hA4.lt (fun e => by have := (hne _ e.symm).2; omega))
   have hB5 := hB4.grown hgr5 hB4.size (fun g hg => Nat.le_of_lt (hne g hg).2)
   go_roundw
   case rel =>
    refine ⟨j + 1, A5, c5, some ⟨w3.heap.size, 0, none⟩, 32, 32, by omega, rfl, hc5, rfl, Nat.le_refl _, Lib.hid (by rw [Hgr.out]; exact Hsl.out), by go_num, ?_, by rw [Hgr.out]; exact hQ5.rd Hsl.out, ?_, hA5, hB5⟩
    ·
     rw [Ho.out, List.map_append]
     exact hown5
    ·
     rintro g hg ad had
     obtain rfl := Option.some.inj had
     rcases hat5 with h | h
     ·
      rw [hg] at h
      have := (hne g h.symm).1
      show w3.heap.size ≠ g
      omega
     ·
      rw [hg] at h
      injection h with h
      show w3.heap.size ≠ g
      omega
   case measure => simp [lenOf]; omega
  ·
   have Hx := Lib.hid (expandU_of k info n j (by omega))
   go_wp2_with fail
   go_ret2
   refine ⟨A, c, rfl, by omega, ?_, hB⟩
   rw [← Hx.out, List.map_take]
   exact (Rd.of_own hown).take (by omega)
structure Turn (w : World) (base bt bk bl bi : Nat) (k info : List UInt8) (Ai : Option Addr) (ni ci i : Nat) : Prop where
 turn : w.heap[bt]? = some (.cells #[.int .u8 (i : Int)] 5 (0, 0))
 key : ArrB w bk 23 k
 last : ∃ Al nl cl, w.heap[bl]? = some (.cells #[.slice Al nl cl] 24 (0, 0)) ∧ nl ≤ cl ∧ Rd w w.heap.size Al nl ((stepU k info i).map bv) ∧ ∀ ad, Al = some ad → ad.block ≠ bt ∧ ad.block ≠ bl ∧ ad.block < w.heap.size
 info : w.heap[bi]? = some (.cells #[.slice Ai ni ci] 24 (0, 0))
 ne : bt ≠ bk ∧ bt ≠ bl ∧ bt ≠ bi ∧ bl ≠ bk ∧ bl ≠ bi
 low : base ≤ bt ∧ base ≤ bk ∧ base ≤ bl ∧ base ≤ bi
theorem block_lt {w : World} {g : Nat} {o : Obj} (h : w.heap[g]? = some o) : g < w.heap.size := (Array.getElem?_eq_some_iff.1 h).1
theorem Turn.keep {w w' : World} {base bt bk bl bi : Nat} {k info : List UInt8} {Ai : Option Addr} {ni ci i : Nat} (h : Turn w base bt bk bl bi k info Ai ni ci i) (hs : w.heap.size ≤ w'.heap.size) (hb : ∀ q, q < w.heap.size → w'.heap[q]? = w.heap[q]?) : Turn w' base bt bk bl bi k info Ai ni ci i := by
 obtain ⟨Al, nl, cl, h1, h2, h3, h4⟩ := h.last
 refine ⟨(hb _ (block_lt h.turn)).trans h.turn, h.key.of (hb _ h.key.lt), ⟨Al, nl, cl, (hb _ (block_lt h1)).trans h1, h2, ?_, fun ad e => ?_⟩, (hb _ (block_lt h.info)).trans h.info, h.ne, h.low⟩
 ·
  exact (h3.keep fun p hp => World.cell?_of_block (hb _ hp)).more hs
 ·
  obtain ⟨a, b, c⟩ := h4 ad e
  exact ⟨a, b, by omega⟩
set_option maxRecDepth 100000 in
theorem expander_any (k : List UInt8) (Ai : Option Addr) (ni ci : Nat) (info : List UInt8) (w : World) (hk : k.length = 32) :
  Calls Tryz.prog 84 #[.agg (k.map bv).toArray, .slice Ai ni ci] w fun e w' =>
   ∃ bt bk bl bi, e = .returned (.func (.func 111) #[] #[.pointer (some ⟨bt, 0, none⟩), .pointer (some ⟨bk, 0, none⟩), .pointer (some ⟨bl, 0, none⟩), .pointer (some ⟨bi, 0, none⟩)]) ∧
    Turn w' w.heap.size bt bk bl bi k info Ai ni ci 0 ∧ Below w.heap.size w w' := by
 have hmf : ∀ (fn : Fn) (first cap : Array Value) (w : World), (Instr.makeFunc fn first cap).run Tryz.prog w = .ok (.func fn first cap) w := fun _ _ _ _ => rfl
 go_enter Tryz.func84, Tryz.ntmps84
 go_wp2_with fail
 go_ret
 have e0 : ((((w.alloc (.cells (k.map bv).toArray 23)).alloc (.cells #[.slice Ai ni ci] 24)).alloc (.cells #[.slice none 0 0] 24)).alloc (.cells #[.int .u8 0] 5)).heap.size = w.heap.size + 4 := by simp
 refine ⟨_, _, _, _, rfl, ⟨heap_new (by simp) _, (((ArrB.mk_ _ _ _ _ rfl rfl).alloc _).alloc _).alloc _, ⟨none, 0, 0, ?_, Nat.le_refl _, Rd.zero _ _ _, fun ad h => by cases h⟩, ?_, by omega, by omega⟩, (((d_al _ _).alloc (by simp) _).alloc (by first | (simp; done) | (simp; omega)) _).alloc (by first | (simp; done) | (simp; omega)) _⟩
 ·
  exact (heap_alloc_old _ _ (by simp)).trans (heap_new (by simp) _)
 ·
  exact (heap_alloc_old _ _ (by first | (simp; done) | (simp; omega))).trans ((heap_alloc_old _ _ (by simp)).trans (heap_new (by simp) _))
theorem Rd.mkk {w : World} {t : TypeId} {xs : Array Value} {b n : Nat} {l : List Value} (hb : w.heap.size = b) (hn : xs.size = n) (hl : xs.toList = l) : Rd (w.alloc (.cells xs t)) (w.alloc (.cells xs t)).heap.size (some ⟨b, 0, none⟩) n l := Rd.mk_ w t xs hb (by first | (simp; done) | (simp; omega)) hn hl
theorem Rd.al {w : World} {A : Option Addr} {n : Nat} {xs : List Value} (h : Rd w w.heap.size A n xs) (o : Obj) : Rd (w.alloc o) (w.alloc o).heap.size A n xs := (h.alloc (Nat.le_refl _) o).more (al0 _ _)
theorem Rd.dr {w : World} {A : Option Addr} {n : Nat} {xs : List Value} (h : Rd w w.heap.size A n xs) : Rd w.drew w.drew.heap.size A n xs := h.drew
theorem c_cells {a w : World} (h : Below a.heap.size a w) {g : Nat} (hg : a.heap.size ≤ g) (vs : List Value) : Below a.heap.size a (w.setCells g 0 vs) := below_setCells hg vs 0 w h
theorem ctab_from {w w' : World} {base : Nat} (hT : CTab w) (hg : 1 < base) (hb : Below base w w') : CTab w' := fun i x hx => (hb.cell (p := ⟨1, i, none⟩) hg).trans (hT i x hx)
structure Fine (a W : World) (g : Nat) (r : List UInt8) : Prop where
 arr : ArrB W g 23 r
 below : Below a.heap.size a W
 low : a.heap.size ≤ g
theorem fine_old {a ws : World} {g : Nat} (hb : Below a.heap.size a ws) (hz : ArrB ws g 23 (List.replicate 32 0)) (hg : a.heap.size ≤ g) (r : List UInt8) (hr : r.length = 32) :
  ∃ W g8, Hid (ws.setCells g 0 (r.map bv) = W) ∧ Hid (g = g8) ∧ Fine a W g8 r :=
 ⟨_, _, Lib.hid rfl, Lib.hid rfl, hz.stored (by simp [hr]), c_cells hb hg _, hg⟩
theorem fine_new {a ws : World} (hb : Below a.heap.size a ws) (r : List UInt8) (hr : r.length = 32) :
  ∃ W g8, Hid ((ws.alloc (.cells #[.int .u8 0, .int .u8 0, .int .u8 0, .int .u8 0, .int .u8 0, .int .u8 0, .int .u8 0, .int .u8 0, .int .u8 0, .int .u8 0, .int .u8 0, .int .u8 0, .int .u8 0, .int .u8 0, .int .u8 0, .int .u8 0, .int .u8 0, .int .u8 0, .int .u8 0, .int .u8 0, .int .u8 0, .int .u8 0, .int .u8 0, .int .u8 0, .int .u8 0, .int .u8 0, .int .u8 0, .int .u8 0, .int .u8 0, .int .u8 0, .int .u8 0, .int .u8 0] 23)).setCells ws.heap.size 0 (r.map bv) = W) ∧ Hid (ws.heap.size = g8) ∧ Fine a W g8 r :=
 ⟨_, _, Lib.hid rfl, Lib.hid rfl, (ArrB.mk_ _ _ _ (List.replicate 32 0) rfl rfl).stored (by simp [hr]), c_cells (c_alloc hb _) hb.size _, hb.size⟩
theorem turn_end {w w1 W8 : World} {base bt bk bl bi : Nat} {k info r : List UInt8} {Ai : Option Addr} {ni ci i g8 : Nat} (h : Turn w base bt bk bl bi k info Ai ni ci i) (hbase : base ≤ w.heap.size)
  (ht1 : w1.heap[bt]? = some (.cells #[.int .u8 (((i + 1 : Nat)) : Int)] 5 (0, 0))) (hold : ∀ q, q < w.heap.size → q ≠ bt → w1.heap[q]? = w.heap[q]?) (hs2 : w.heap.size < w1.heap.size) (hb1 : Below base w w1)
  (hF : Fine w1 W8 g8 r) (hr0 : stepU k info (i + 1) = r) (hr : r.length = 32) (cs : Array Value) :
  Turn ((W8.setCell ⟨bl, 0, none⟩ (.slice (some ⟨g8, 0, none⟩) 32 32)).setRow w.heap.size cs) base bt bk bl bi k info Ai ni ci (i + 1) ∧ Below base w ((W8.setCell ⟨bl, 0, none⟩ (.slice (some ⟨g8, 0, none⟩) 32 32)).setRow w.heap.size cs) ∧
   w.heap.size ≤ ((W8.setCell ⟨bl, 0, none⟩ (.slice (some ⟨g8, 0, none⟩) 32 32)).setRow w.heap.size cs).heap.size ∧ (∀ q, q < w.heap.size → q ≠ bt → q ≠ bl → ((W8.setCell ⟨bl, 0, none⟩ (.slice (some ⟨g8, 0, none⟩) 32 32)).setRow w.heap.size cs).heap[q]? = w.heap[q]?) ∧
   ∃ g, w.heap.size ≤ g ∧ ((W8.setCell ⟨bl, 0, none⟩ (.slice (some ⟨g8, 0, none⟩) 32 32)).setRow w.heap.size cs).heap[bl]? = some (.cells #[.slice (some ⟨g, 0, none⟩) 32 32] 24 (0, 0)) := by
 obtain ⟨Al, nl, cl, hl1, hl2, hl3, hl4⟩ := h.last
 obtain ⟨n1, n2, n3, n4, n5⟩ := h.ne
 have lbl := block_lt hl1
 have lbt := block_lt h.turn
 have lbi := block_lt h.info
 have lbk := h.key.lt
 have hlow := hF.low
 have hsz : w1.heap.size ≤ W8.heap.size := hF.below.size
 have far : ∀ q, q < w1.heap.size → q ≠ bl → q ≠ w.heap.size → ((W8.setCell ⟨bl, 0, none⟩ (.slice (some ⟨g8, 0, none⟩) 32 32)).setRow w.heap.size cs).heap[q]? = w1.heap[q]? := fun q h1 h2 h3 =>
  (setRow_other _ _ _ _ h3).trans ((Below.heap_setCell _ _ _ q h2).trans (hF.below.block q h1))
 have hW : ((W8.setCell ⟨bl, 0, none⟩ (.slice (some ⟨g8, 0, none⟩) 32 32)).setRow w.heap.size cs).heap.size = W8.heap.size := by simp [World.setRow]
 have hA : ArrB ((W8.setCell ⟨bl, 0, none⟩ (.slice (some ⟨g8, 0, none⟩) 32 32)).setRow w.heap.size cs) g8 23 r := (hF.arr.far (p := ⟨bl, 0, none⟩) (show g8 ≠ bl by omega) _).rowFar (show g8 ≠ w.heap.size by omega) _
 have hLn : ((W8.setCell ⟨bl, 0, none⟩ (.slice (some ⟨g8, 0, none⟩) 32 32)).setRow w.heap.size cs).heap[bl]? = some (.cells #[.slice (some ⟨g8, 0, none⟩) 32 32] 24 (0, 0)) :=
  (setRow_other _ _ _ _ (by omega)).trans (one_setCell (v := .slice Al nl cl) ((hF.below.block bl (by omega)).trans ((hold bl lbl (fun e => n2 e.symm)).trans hl1)))
 refine ⟨⟨(far bt (by omega) n2 (by omega)).trans ht1, h.key.of ((far bk (by omega) (fun e => n4 e.symm) (by omega)).trans (hold bk lbk (fun e => n1 e.symm))), ⟨some ⟨g8, 0, none⟩, 32, 32, hLn, Nat.le_refl _, ?_, ?_⟩, (far bi (by omega) (fun e => n5 e.symm) (by omega)).trans ((hold bi lbi (fun e => n3 e.symm)).trans h.info), h.ne, h.low⟩, ?_, by omega, fun q h1 h2 h3 => (far q (by omega) h3 (by omega)).trans (hold q h1 h2), g8, by omega, hLn⟩
 ·
  rw [hr0]; exact hA.rd hr
 ·
  rintro ad e
  injection e with e
  subst e
  exact ⟨show g8 ≠ bt by omega, show g8 ≠ bl by omega, hA.lt⟩
 ·
  exact below_setRow ((hb1.trans (hF.below.mono (by omega))).setCell h.low.2.2.1 _) hbase _
set_option maxRecDepth 1000000 in
set_option maxHeartbeats 600000 in
theorem turn_any (base bt bk bl bi : Nat) (k info : List UInt8) (Ai : Option Addr) (ni ci i : Nat) (w : World) (hk : k.length = 32) (hi : i < 255) (hnc : ni ≤ ci) (hni : ni ≤ 1048576) (hinfo : Rd w base Ai ni (info.map bv)) (hbase : base ≤ w.heap.size)
  (h : Turn w base bt bk bl bi k info Ai ni ci i) (hT : CTab w) (hTb : 1 < base) :
  Calls Tryz.prog 111 #[.pointer (some ⟨bt, 0, none⟩), .pointer (some ⟨bk, 0, none⟩), .pointer (some ⟨bl, 0, none⟩), .pointer (some ⟨bi, 0, none⟩)] w fun e w' =>
   e = .returned (.agg ((stepU k info (i + 1)).map bv).toArray) ∧ Turn w' base bt bk bl bi k info Ai ni ci (i + 1) ∧ Below base w w' ∧ w.heap.size ≤ w'.heap.size ∧ (∀ q, q < w.heap.size → q ≠ bt → q ≠ bl → w'.heap[q]? = w.heap[q]?) ∧ ∃ g, w.heap.size ≤ g ∧ w'.heap[bl]? = some (.cells #[.slice (some ⟨g, 0, none⟩) 32 32] 24 (0, 0)) := by
 obtain ⟨Al, nl, cl, hl1, hl2, hl3, hl4⟩ := h.last
 have ct : ∀ o, (w.alloc o).cell? ⟨bt, 0, none⟩ = some (.int .u8 (i : Int)) := fun o => (World.cell?_alloc_lt w o _ (block_lt h.turn)).trans (cell_of_one h.turn)
 have ft : ∀ o, (w.alloc o).frozen? ⟨bt, 0, none⟩ = false := fun o => free_of_one ((heap_alloc_old w o (block_lt h.turn)).trans h.turn)
 have i0 : (0 : Int) ≤ (i : Int) := by omega
 have i1 : (i : Int) < 255 := by omega
 go_enter Tryz.func111, Tryz.ntmps111
 go_wp2_with fail
 have hs1 : ∀ u, (((w.alloc (.cells ((List.replicate 32 (0 : UInt8)).map bv).toArray 23)).setCell ⟨bt, 0, none⟩ u)).heap.size = w.heap.size + 1 := fun u => by simp
 have hq1 : ∀ u q, q < w.heap.size → q ≠ bt → (((w.alloc (.cells ((List.replicate 32 (0 : UInt8)).map bv).toArray 23)).setCell ⟨bt, 0, none⟩ u)).heap[q]? = w.heap[q]? := fun u q h1 h2 => (Below.heap_setCell _ _ u q h2).trans (heap_alloc_old _ _ h1)
 have hbtlt := block_lt h.turn
 refine wp_gen (fun w1 => (w1.heap[bt]? = some (.cells #[.int .u8 (((i + 1 : Nat)) : Int)] 5 (0, 0)) ∧ ArrB w1 w.heap.size 23 (List.replicate 32 0)) ∧ (w1.heap.size = w.heap.size + 1 ∧ Below base w w1) ∧ ∀ q, q < w.heap.size → q ≠ bt → w1.heap[q]? = w.heap[q]?) ⟨⟨?_, ?_⟩, ⟨hs1 _, (((Below.refl _ _).alloc hbase _).setCell h.low.1 _)⟩, hq1 _⟩ ?_
 ·
  exact one_setCell ((heap_alloc_old _ _ hbtlt).trans h.turn)
 ·
  exact (ArrB.mk_ _ _ _ (List.replicate 32 0) rfl rfl).far (p := ⟨bt, 0, none⟩) (show w.heap.size ≠ bt by omega) _
 rintro w1 ⟨⟨ht1, hz1⟩, ⟨hs1, hb1⟩, hq1⟩
 have hs2 : w.heap.size < w1.heap.size := by omega
 clear hs1
 have hold : ∀ q, q < w.heap.size → q ≠ bt → w1.heap[q]? = w.heap[q]? := hq1
 have hk1 : ArrB w1 bk 23 k := h.key.of (hold _ h.key.lt (fun e => h.ne.1 e.symm))
 have hl1' : w1.heap[bl]? = some (.cells #[.slice Al nl cl] 24 (0, 0)) := (hold _ (block_lt hl1) (fun e => h.ne.2.1 e.symm)).trans hl1
 have hn1 : w1.heap[bi]? = some (.cells #[.slice Ai ni ci] 24 (0, 0)) := (hold _ (block_lt h.info) (fun e => h.ne.2.2.1 e.symm)).trans h.info
 have hrl : Rd w1 w1.heap.size Al nl ((stepU k info i).map bv) := (hl3.keepAt fun ad e p hp => World.cell?_of_block (hold _ (by rw [hp]; exact (hl4 ad e).2.2) (by rw [hp]; exact (hl4 ad e).1))).more (by omega)
 have hrn : Rd w1 w1.heap.size Ai ni (info.map bv) := (hinfo.below hb1).more (by omega)
 have hTw : CTab w1 := ctab_from hT hTb hb1
 have hlen := stepU_le k info i
 have hnl : nl ≤ 32 := by have := hl3.len; simp at this; omega
 have hil : info.length = ni := by have := hinfo.len; simpa using this
 have Hlast := Lib.hid (show (stepU k info i).length = nl by have := hl3.len; simpa using this)
 have Hil := Lib.hid hil
 have Hb1 := Lib.hid (show (UInt8.ofNat (i + 1)).toNat = i + 1 by rw [UInt8.toNat_ofNat', Nat.mod_eq_of_lt (by omega)])
 have Hflat := Lib.hid (show [stepU k info i, info, [UInt8.ofNat (i + 1)]].flatten = stepU k info i ++ info ++ [UInt8.ofNat (i + 1)] by simp)
 have Hsu := Lib.hid (stepU_succ k info i)
 have HM := fun (wx : World) (gb : Nat) (gh : Nat) (hh : Rd wx wx.heap.size (some ⟨gh, 0, none⟩) 3 [.slice Al nl cl, .slice Ai ni ci, .slice (some ⟨gb, 0, none⟩) 1 1]) (hx : Rd wx wx.heap.size (some ⟨gb, 0, none⟩) 1 [.int .u8 ((i : Int) + 1)]) (hbx : Below w1.heap.size w1 wx) =>
  Mac_any (some ⟨bk, 0, none⟩) 32 32 k (some ⟨gh, 0, none⟩) 3 3 [.slice Al nl cl, .slice Ai ni ci, .slice (some ⟨gb, 0, none⟩) 1 1] [stepU k info i, info, [UInt8.ofNat (i + 1)]] wx (by omega) (by omega) (by omega) (by omega)
   (by rw [Hflat.out]; simp only [List.length_append, Hlast.out, Hil.out]; simp; omega) ((hk1.below hbx hk1.lt).rd hk) hh
   (Txs.cons (txs_one1 Hlast.out hl2 (d_rd hrl hbx)) (Txs.cons (txs_one1 Hil.out hnc (d_rd hrn hbx)) (txs_one1 rfl (Nat.le_refl _) (by
    show Rd wx wx.heap.size (some ⟨gb, 0, none⟩) 1 [.int .u8 ((UInt8.ofNat (i + 1)).toNat : Int)]
    rw [Hb1.out, Int.natCast_add, Int.natCast_one]; exact hx)))) (hTw.below hbx)
 simp only [Hflat.out, ← Hsu.out] at HM
 have Hrl := Lib.hid (stepU_len k info i)
 generalize hr0 : stepU k info (i + 1) = r at *
 have Hr0 := Lib.hid hr0
 clear hr0
 have hu2 := Tryz.underlying23
 have hi2 : (Tryz.prog.info? 23).map (·.size) = some (r.map bv).length := by rw [info32]; simp [Hrl.out]
 have hl2' : (r.map bv).length = 32 := by simp [Hrl.out]
 have h12 := one_bv r
 have hkeep : ∀ wx : World, Below w1.heap.size w1 wx → wx.cell? ⟨bl, 0, none⟩ = some (.slice Al nl cl) ∧ wx.cell? ⟨bi, 0, none⟩ = some (.slice Ai ni ci) ∧ wx.cell? ⟨bt, 0, none⟩ = some (.int .u8 ((i : Int) + 1)) :=
  fun wx hb => ⟨cell_of_one ((hb.block _ (block_lt hl1')).trans hl1'), cell_of_one ((hb.block _ (block_lt hn1)).trans hn1), cell_of_one ((hb.block _ (block_lt ht1)).trans ht1)⟩
 clear ct ft hq1
 have M0 : Calls Tryz.prog 49 #[.slice (some ⟨bk, 0, none⟩) 32 32, .slice (some ⟨w1.heap.size + 1 + 1, 0, none⟩) 3 3] (((w1.alloc (.cells #[.int .u8 0, .int .u8 0, .int .u8 0, .int .u8 0, .int .u8 0, .int .u8 0, .int .u8 0, .int .u8 0, .int .u8 0, .int .u8 0, .int .u8 0, .int .u8 0, .int .u8 0, .int .u8 0, .int .u8 0, .int .u8 0, .int .u8 0, .int .u8 0, .int .u8 0, .int .u8 0, .int .u8 0, .int .u8 0, .int .u8 0, .int .u8 0, .int .u8 0, .int .u8 0, .int .u8 0, .int .u8 0, .int .u8 0, .int .u8 0, .int .u8 0, .int .u8 0] 23)).alloc (.cells #[.int .u8 ((i : Int) + 1)] 5)).alloc (.cells #[.slice Al nl cl, .slice Ai ni ci, .slice (some ⟨w1.heap.size + 1, 0, none⟩) 1 1] 24)).drew (fun e ws => e = .returned (.agg (r.map bv).toArray) ∧ Below w1.heap.size w1 ws ∧ ArrB ws (w1.heap.size) 23 (List.replicate 32 0)) := by
  have hb : Below w1.heap.size w1 (((w1.alloc (.cells #[.int .u8 0, .int .u8 0, .int .u8 0, .int .u8 0, .int .u8 0, .int .u8 0, .int .u8 0, .int .u8 0, .int .u8 0, .int .u8 0, .int .u8 0, .int .u8 0, .int .u8 0, .int .u8 0, .int .u8 0, .int .u8 0, .int .u8 0, .int .u8 0, .int .u8 0, .int .u8 0, .int .u8 0, .int .u8 0, .int .u8 0, .int .u8 0, .int .u8 0, .int .u8 0, .int .u8 0, .int .u8 0, .int .u8 0, .int .u8 0, .int .u8 0, .int .u8 0] 23)).alloc (.cells #[.int .u8 ((i : Int) + 1)] 5)).alloc (.cells #[.slice Al nl cl, .slice Ai ni ci, .slice (some ⟨w1.heap.size + 1, 0, none⟩) 1 1] 24)).drew := c_drew (c_alloc (c_alloc (c_alloc (c_refl w1) _) _) _)
  refine (HM _ (w1.heap.size + 1) (w1.heap.size + 1 + 1) (Rd.dr (Rd.mkk (by simp) rfl rfl)) (Rd.dr (Rd.al (Rd.mkk (by simp) rfl rfl) _)) hb).mono ?_
  have hz : ArrB (((w1.alloc (.cells #[.int .u8 0, .int .u8 0, .int .u8 0, .int .u8 0, .int .u8 0, .int .u8 0, .int .u8 0, .int .u8 0, .int .u8 0, .int .u8 0, .int .u8 0, .int .u8 0, .int .u8 0, .int .u8 0, .int .u8 0, .int .u8 0, .int .u8 0, .int .u8 0, .int .u8 0, .int .u8 0, .int .u8 0, .int .u8 0, .int .u8 0, .int .u8 0, .int .u8 0, .int .u8 0, .int .u8 0, .int .u8 0, .int .u8 0, .int .u8 0, .int .u8 0, .int .u8 0] 23)).alloc (.cells #[.int .u8 ((i : Int) + 1)] 5)).alloc (.cells #[.slice Al nl cl, .slice Ai ni ci, .slice (some ⟨w1.heap.size + 1, 0, none⟩) 1 1] 24)).drew (w1.heap.size) 23 (List.replicate 32 0) := ArrB.drew (ArrB.alloc (ArrB.alloc (ArrB.mk_ _ _ _ (List.replicate 32 0) (by simp) rfl) _) _)
  rintro e ws ⟨rfl, hbs⟩
  exact ⟨rfl, c_call hb hbs, hz.below hbs hz.lt⟩
 have M1 : Calls Tryz.prog 49 #[.slice (some ⟨bk, 0, none⟩) 32 32, .slice (some ⟨w1.heap.size + 1 + 1, 0, none⟩) 3 3] (((w1.alloc (.cells #[.int .u8 ((i : Int) + 1)] 5)).alloc (.cells #[.int .u8 0, .int .u8 0, .int .u8 0, .int .u8 0, .int .u8 0, .int .u8 0, .int .u8 0, .int .u8 0, .int .u8 0, .int .u8 0, .int .u8 0, .int .u8 0, .int .u8 0, .int .u8 0, .int .u8 0, .int .u8 0, .int .u8 0, .int .u8 0, .int .u8 0, .int .u8 0, .int .u8 0, .int .u8 0, .int .u8 0, .int .u8 0, .int .u8 0, .int .u8 0, .int .u8 0, .int .u8 0, .int .u8 0, .int .u8 0, .int .u8 0, .int .u8 0] 23)).alloc (.cells #[.slice Al nl cl, .slice Ai ni ci, .slice (some ⟨w1.heap.size, 0, none⟩) 1 1] 24)).drew (fun e ws => e = .returned (.agg (r.map bv).toArray) ∧ Below w1.heap.size w1 ws ∧ ArrB ws (w1.heap.size + 1) 23 (List.replicate 32 0)) := by
  have hb : Below w1.heap.size w1 (((w1.alloc (.cells #[.int .u8 ((i : Int) + 1)] 5)).alloc (.cells #[.int .u8 0, .int .u8 0, .int .u8 0, .int .u8 0, .int .u8 0, .int .u8 0, .int .u8 0, .int .u8 0, .int .u8 0, .int .u8 0, .int .u8 0, .int .u8 0, .int .u8 0, .int .u8 0, .int .u8 0, .int .u8 0, .int .u8 0, .int .u8 0, .int .u8 0, .int .u8 0, .int .u8 0, .int .u8 0, .int .u8 0, .int .u8 0, .int .u8 0, .int .u8 0, .int .u8 0, .int .u8 0, .int .u8 0, .int .u8 0, .int .u8 0, .int .u8 0] 23)).alloc (.cells #[.slice Al nl cl, .slice Ai ni ci, .slice (some ⟨w1.heap.size, 0, none⟩) 1 1] 24)).drew := c_drew (c_alloc (c_alloc (c_alloc (c_refl w1) _) _) _)
  refine (HM _ (w1.heap.size) (w1.heap.size + 1 + 1) (Rd.dr (Rd.mkk (by simp) rfl rfl)) (Rd.dr (Rd.al (Rd.al (Rd.mkk (by simp) rfl rfl) _) _)) hb).mono ?_
  have hz : ArrB (((w1.alloc (.cells #[.int .u8 ((i : Int) + 1)] 5)).alloc (.cells #[.int .u8 0, .int .u8 0, .int .u8 0, .int .u8 0, .int .u8 0, .int .u8 0, .int .u8 0, .int .u8 0, .int .u8 0, .int .u8 0, .int .u8 0, .int .u8 0, .int .u8 0, .int .u8 0, .int .u8 0, .int .u8 0, .int .u8 0, .int .u8 0, .int .u8 0, .int .u8 0, .int .u8 0, .int .u8 0, .int .u8 0, .int .u8 0, .int .u8 0, .int .u8 0, .int .u8 0, .int .u8 0, .int .u8 0, .int .u8 0, .int .u8 0, .int .u8 0] 23)).alloc (.cells #[.slice Al nl cl, .slice Ai ni ci, .slice (some ⟨w1.heap.size, 0, none⟩) 1 1] 24)).drew (w1.heap.size + 1) 23 (List.replicate 32 0) := ArrB.drew (ArrB.alloc (ArrB.mk_ _ _ _ (List.replicate 32 0) (by simp) rfl) _)
  rintro e ws ⟨rfl, hbs⟩
  exact ⟨rfl, c_call hb hbs, hz.below hbs hz.lt⟩
 have M2 : Calls Tryz.prog 49 #[.slice (some ⟨bk, 0, none⟩) 32 32, .slice (some ⟨w1.heap.size + 1, 0, none⟩) 3 3] (((w1.alloc (.cells #[.int .u8 ((i : Int) + 1)] 5)).alloc (.cells #[.slice Al nl cl, .slice Ai ni ci, .slice (some ⟨w1.heap.size, 0, none⟩) 1 1] 24)).alloc (.cells #[.int .u8 0, .int .u8 0, .int .u8 0, .int .u8 0, .int .u8 0, .int .u8 0, .int .u8 0, .int .u8 0, .int .u8 0, .int .u8 0, .int .u8 0, .int .u8 0, .int .u8 0, .int .u8 0, .int .u8 0, .int .u8 0, .int .u8 0, .int .u8 0, .int .u8 0, .int .u8 0, .int .u8 0, .int .u8 0, .int .u8 0, .int .u8 0, .int .u8 0, .int .u8 0, .int .u8 0, .int .u8 0, .int .u8 0, .int .u8 0, .int .u8 0, .int .u8 0] 23)).drew (fun e ws => e = .returned (.agg (r.map bv).toArray) ∧ Below w1.heap.size w1 ws ∧ ArrB ws (w1.heap.size + 1 + 1) 23 (List.replicate 32 0)) := by
  have hb : Below w1.heap.size w1 (((w1.alloc (.cells #[.int .u8 ((i : Int) + 1)] 5)).alloc (.cells #[.slice Al nl cl, .slice Ai ni ci, .slice (some ⟨w1.heap.size, 0, none⟩) 1 1] 24)).alloc (.cells #[.int .u8 0, .int .u8 0, .int .u8 0, .int .u8 0, .int .u8 0, .int .u8 0, .int .u8 0, .int .u8 0, .int .u8 0, .int .u8 0, .int .u8 0, .int .u8 0, .int .u8 0, .int .u8 0, .int .u8 0, .int .u8 0, .int .u8 0, .int .u8 0, .int .u8 0, .int .u8 0, .int .u8 0, .int .u8 0, .int .u8 0, .int .u8 0, .int .u8 0, .int .u8 0, .int .u8 0, .int .u8 0, .int .u8 0, .int .u8 0, .int .u8 0, .int .u8 0] 23)).drew := c_drew (c_alloc (c_alloc (c_alloc (c_refl w1) _) _) _)
  refine (HM _ (w1.heap.size) (w1.heap.size + 1) (Rd.dr (Rd.al (Rd.mkk (by simp) rfl rfl) _)) (Rd.dr (Rd.al (Rd.al (Rd.mkk (by simp) rfl rfl) _) _)) hb).mono ?_
  have hz : ArrB (((w1.alloc (.cells #[.int .u8 ((i : Int) + 1)] 5)).alloc (.cells #[.slice Al nl cl, .slice Ai ni ci, .slice (some ⟨w1.heap.size, 0, none⟩) 1 1] 24)).alloc (.cells #[.int .u8 0, .int .u8 0, .int .u8 0, .int .u8 0, .int .u8 0, .int .u8 0, .int .u8 0, .int .u8 0, .int .u8 0, .int .u8 0, .int .u8 0, .int .u8 0, .int .u8 0, .int .u8 0, .int .u8 0, .int .u8 0, .int .u8 0, .int .u8 0, .int .u8 0, .int .u8 0, .int .u8 0, .int .u8 0, .int .u8 0, .int .u8 0, .int .u8 0, .int .u8 0, .int .u8 0, .int .u8 0, .int .u8 0, .int .u8 0, .int .u8 0, .int .u8 0] 23)).drew (w1.heap.size + 1 + 1) 23 (List.replicate 32 0) := ArrB.drew (ArrB.mk_ _ _ _ (List.replicate 32 0) (by simp) rfl)
  rintro e ws ⟨rfl, hbs⟩
  exact ⟨rfl, c_call hb hbs, hz.below hbs hz.lt⟩
 have M3 : Calls Tryz.prog 49 #[.slice (some ⟨bk, 0, none⟩) 32 32, .slice (some ⟨w1.heap.size + 1, 0, none⟩) 3 3] ((w1.alloc (.cells #[.int .u8 ((i : Int) + 1)] 5)).alloc (.cells #[.slice Al nl cl, .slice Ai ni ci, .slice (some ⟨w1.heap.size, 0, none⟩) 1 1] 24)).drew (fun e ws => e = .returned (.agg (r.map bv).toArray) ∧ Below w1.heap.size w1 ws) := by
  have hb : Below w1.heap.size w1 ((w1.alloc (.cells #[.int .u8 ((i : Int) + 1)] 5)).alloc (.cells #[.slice Al nl cl, .slice Ai ni ci, .slice (some ⟨w1.heap.size, 0, none⟩) 1 1] 24)).drew := c_drew (c_alloc (c_alloc (c_refl w1) _) _)
  refine (HM _ (w1.heap.size) (w1.heap.size + 1) (Rd.dr (Rd.mkk (by simp) rfl rfl)) (Rd.dr (Rd.al (Rd.mkk (by simp) rfl rfl) _)) hb).mono ?_
  rintro e ws ⟨rfl, hbs⟩
  exact ⟨rfl, c_call hb hbs⟩
 go_region_held3 (fun wx => wx.cell? ⟨bl, 0, none⟩ = some (.slice Al nl cl) ∧ wx.cell? ⟨bi, 0, none⟩ = some (.slice Ai ni ci) ∧ wx.cell? ⟨bt, 0, none⟩ = some (.int .u8 ((i : Int) + 1)))
  (first | (refine hkeep _ ?_; (repeat (first | exact c_refl _ | exact hB8 | refine c_drew ?_ | refine c_alloc ?_ _ | refine c_call ?_ hbs | refine c_cells ?_ (by omega) _ | refine c_cells ?_ hB8.size _)); done))
  (first
   | (go_at_call 49; (with_reducible refine M0.mono ?_); rintro e ws ⟨rfl, hB8, hz8⟩; have hth : ws.there (w1.heap.size) 0 32 := hz8.there (by simp); obtain ⟨W8, g8, HW, Hg, hF⟩ := fine_old hB8 hz8 (by omega) r Hrl.out)
   | (go_at_call 49; (with_reducible refine M1.mono ?_); rintro e ws ⟨rfl, hB8, hz8⟩; have hth : ws.there (w1.heap.size + 1) 0 32 := hz8.there (by simp); obtain ⟨W8, g8, HW, Hg, hF⟩ := fine_old hB8 hz8 (by omega) r Hrl.out)
   | (go_at_call 49; (with_reducible refine M2.mono ?_); rintro e ws ⟨rfl, hB8, hz8⟩; have hth : ws.there (w1.heap.size + 1 + 1) 0 32 := hz8.there (by simp); obtain ⟨W8, g8, HW, Hg, hF⟩ := fine_old hB8 hz8 (by omega) r Hrl.out)
   | (go_at_call 49; (with_reducible refine M3.mono ?_); rintro e ws ⟨rfl, hB8⟩; have hth : (ws.alloc (.cells #[.int .u8 0, .int .u8 0, .int .u8 0, .int .u8 0, .int .u8 0, .int .u8 0, .int .u8 0, .int .u8 0, .int .u8 0, .int .u8 0, .int .u8 0, .int .u8 0, .int .u8 0, .int .u8 0, .int .u8 0, .int .u8 0, .int .u8 0, .int .u8 0, .int .u8 0, .int .u8 0, .int .u8 0, .int .u8 0, .int .u8 0, .int .u8 0, .int .u8 0, .int .u8 0, .int .u8 0, .int .u8 0, .int .u8 0, .int .u8 0, .int .u8 0, .int .u8 0] 23)).there ws.heap.size 0 32 := ArrB.there (ArrB.mk_ _ _ _ (List.replicate 32 0) rfl rfl) (by simp); obtain ⟨W8, g8, HW, Hg, hF⟩ := fine_new hB8 r Hrl.out))
 all_goals
  rw [HW.out, Hg.out]
  have hE := turn_end h hbase ht1 hold hs2 hb1 hF Hr0.out Hrl.out (r.map bv).toArray
  have hA8 := hF.arr
  have hZ8 := hz1.below hF.below hz1.lt
  have hL8 : W8.heap[bl]? = some (.cells #[.slice Al nl cl] 24 (0, 0)) := (hF.below.block bl (block_lt hl1')).trans hl1'
  have cl8 := cell_of_one hL8
  have fl8 := free_of_one hL8
  have lbl := block_lt hl1
  have hlow := hF.low
  have hA9 : ArrB (W8.setCell ⟨bl, 0, none⟩ (.slice (some ⟨g8, 0, none⟩) 32 32)) g8 23 r := hA8.far (p := ⟨bl, 0, none⟩) (show g8 ≠ bl by omega) _
  have hZ9 : ArrB (W8.setCell ⟨bl, 0, none⟩ (.slice (some ⟨g8, 0, none⟩) 32 32)) w.heap.size 23 (List.replicate 32 0) := hZ8.far (p := ⟨bl, 0, none⟩) (show w.heap.size ≠ bl by omega) _
  clear HW Hg hF M0 M1 M2 M3 HM hkeep hold
  go_wp2_with (first
   | ((with_reducible refine tdQ 16 ?_); refine wpList_load_row rfl 23 (.tmp 5) rfl g8 rfl 23 (r.map bv).toArray (0, 0) _ hA9 Tryz.underlying23 rfl (infoK32 Hrl.out) ?_)
   | ((with_reducible refine tsQ 23 ?_); refine wpList_store_row rfl 23 (.tmp 4) (.tmp 16) rfl w.heap.size (r.map bv).toArray rfl rfl 23 _ hZ9 (infoK32 Hrl.out) (sizeK Hrl.out) (one_bvA _) ?_))
  exact bodyPost_ret (results_cell_row rfl _ _ w.heap.size 23 _ (0, 0) _ rfl (hZ9.row r) Tryz.underlying23 rfl (infoK32 Hrl.out)) rfl ⟨by rw [Hr0.out], hE.1, hE.2.1, hE.2.2.1, hE.2.2.2⟩
theorem Turn.row {w w' : World} {base bt bk bl bi : Nat} {k info : List UInt8} {Ai : Option Addr} {ni ci i : Nat} {row : Option Nat} (h : Turn w base bt bk bl bi k info Ai ni ci i) (hg : w.grownBy w' row)
  (hf : ∀ g, row = some g → g ≠ bt ∧ g ≠ bk ∧ g ≠ bl ∧ g ≠ bi ∧ ∀ ad n c, w.heap[bl]? = some (.cells #[.slice (some ad) n c] 24 (0, 0)) → ad.block ≠ g) : Turn w' base bt bk bl bi k info Ai ni ci i := by
 obtain ⟨Al, nl, cl, h1, h2, h3, h4⟩ := h.last
 have hb : ∀ q, q < w.heap.size → (∀ g, row = some g → g ≠ q) → w'.heap[q]? = w.heap[q]? := fun q hq hn => hg.block q hq (fun e => hn q e.symm rfl)
 refine ⟨(hb _ (block_lt h.turn) (fun g e => (hf g e).1)).trans h.turn, h.key.of (hb _ h.key.lt (fun g e => (hf g e).2.1)), ⟨Al, nl, cl, (hb _ (block_lt h1) (fun g e => (hf g e).2.2.1)).trans h1, h2, ?_, fun ad e => ?_⟩, (hb _ (block_lt h.info) (fun g e => (hf g e).2.2.2.1)).trans h.info, h.ne, h.low⟩
 ·
  refine (h3.keepAt fun ad e p hp => World.cell?_of_block (hb _ (by rw [hp]; exact (h4 ad e).2.2) (fun g eg => ?_))).more hg.size
  rw [hp]
  subst e
  exact fun e => (hf g eg).2.2.2.2 ad nl cl h1 e.symm
 ·
  obtain ⟨a, b, c⟩ := h4 ad e
  exact ⟨a, b, Nat.lt_of_lt_of_le c hg.size⟩
theorem Expand_long (k : List UInt8) (Ai : Option Addr) (ni ci : Nat) (n : Int) (w : World) (h0 : 0 ≤ n) (hn : n ≤ 8160) (hni : 1048576 < ni) :
  Calls Tryz.prog 59 #[.agg (k.map bv).toArray, .slice Ai ni ci, .int .i64 n] w fun e w' => e = .returned (.tuple #[.slice none 0 0, .int .i64 4]) ∧ Below w.heap.size w w' := by
 have h' : ¬ n < 0 := by omega
 go_enter Tryz.func59, Tryz.ntmps59
 go_wp2_with fail
 go_ret2
 exact ⟨rfl, d_al _ _⟩
set_option maxRecDepth 1000000 in
set_option maxHeartbeats 1000000 in
theorem Expand_ok (k : List UInt8) (Ai : Option Addr) (ni ci : Nat) (info : List UInt8) (n : Nat) (w : World) (hk : k.length = 32) (hn : n ≤ 8160) (hnc : ni ≤ ci) (hni : ni ≤ 1048576) (hr : Rd w w.heap.size Ai ni (info.map bv)) (hT : CTab w) :
  Calls Tryz.prog 59 #[.agg (k.map bv).toArray, .slice Ai ni ci, .int .i64 (n : Int)] w fun e w' =>
   ∃ A c, e = .returned (.tuple #[.slice A n c, .int .i64 0]) ∧ n ≤ c ∧ Rd w' w'.heap.size A n ((expandU k info n).map bv) ∧ Below w.heap.size w w' := by
 obtain ⟨i0, hi0, hz0, hz1, hz2⟩ := info_parts byteInfo
 have Hk := Lib.hid hk
 have hn0 : ¬ ((n : Int) < 0) := by omega
 have hTl := hT.lt
 clear hk
 go_enter Tryz.func59, Tryz.ntmps59
 go_wp2_with (first
  | ((with_reducible refine tdQ 20 ?_); refine wpList_load_row rfl 23 (.tmp 3) rfl w.heap.size rfl 23 (k.map bv).toArray (0, 0) _ (heap_alloc_new _ _) Tryz.underlying23 rfl (infoK32 Hk.out) ?_))
 refine (expander_any k Ai ni ci info _ Hk.out).mono ?_
 rintro e w2 ⟨bt, bk, bl, bi, rfl, hTu, hb2⟩
 have hB2 : Below w.heap.size w w2 := (d_al _ _).trans (hb2.mono (al0 _ _))
 have hgs : w.heap.size < (w.alloc (.cells (k.map bv).toArray 23)).heap.size := by simp
 generalize (w.alloc (.cells (k.map bv).toArray 23)).heap.size = base at *
 clear hb2
 go_wp2_with fail
 go_loopw [9] (fun v wr => ∃ (j : Nat) (A : Option Addr) (c : Nat), 32 * j < n + 32 ∧ v = .slice A (32 * j) c ∧ 32 * j ≤ c ∧ wr.ownsRow w.heap.size 5 1 v (32 * j) ((outU k info j).map bv) ∧ Turn wr base bt bk bl bi k info Ai ni ci j ∧ Below w.heap.size w wr ∧ (base ≤ wr.heap.size) ∧
   ∀ g, v.ownBlock = some g → g ≠ bt ∧ g ≠ bk ∧ g ≠ bl ∧ g ≠ bi ∧ ∀ ad n c, wr.heap[bl]? = some (.cells #[.slice (some ad) n c] 24 (0, 0)) → ad.block ≠ g) (fun v _ => n + 32 - lenOf v)
 case atStart =>
  have hlb : base ≤ w2.heap.size := Nat.le_trans hTu.low.1 (Nat.le_of_lt (block_lt hTu.turn))
  exact ⟨0, none, 0, by omega, rfl, Nat.le_refl _, World.ownsRow_nil _ _ _ _, hTu, hB2, hlb, fun g h => by cases h⟩
 case round =>
  obtain ⟨j, A, c, hj, rfl, hjc, hown, hTj, hB, hbs, hfree⟩ := hrel
  have hl : ((32 * j : Nat) : Int) = 32 * (j : Int) := by omega
  by_cases hlt : 32 * j < n
  ·
   have hj255 : j < 255 := by omega
   go_wp2_with fail
   refine (turn_any base bt bk bl bi k info Ai ni ci j _ Hk.out hj255 hnc hni ((hr.below hB).more (Nat.le_of_lt hgs)) hbs hTj (hT.below hB) (Nat.lt_trans hTl hgs)).mono ?_
   rintro e w3 ⟨rfl, hT3, hb3, hs3, hq3, g8, hg8, hl8⟩
   have hB3 : Below w.heap.size w w3 := hB.trans (hb3.mono (Nat.le_of_lt hgs))
   have hown3 : w3.ownsRow w.heap.size 5 1 (.slice A (32 * j) c) (32 * j) ((outU k info j).map bv) := own_far hown hs3 (fun g hg => hq3 g (hown.lt g hg).2 (hfree g hg).1 (hfree g hg).2.2.1)
   have Hsl := Lib.hid (stepU_len k info j)
   have Ho := Lib.hid (outU_succ k info j)
   have hfree3 : ∀ g, (Value.slice A (32 * j) c).ownBlock = some g → g ≠ bt ∧ g ≠ bk ∧ g ≠ bl ∧ g ≠ bi ∧ ∀ ad n c, w3.heap[bl]? = some (.cells #[.slice (some ad) n c] 24 (0, 0)) → ad.block ≠ g := fun g hg => by
    obtain ⟨f1, f2, f3, f4, _⟩ := hfree g hg
    refine ⟨f1, f2, f3, f4, fun ad n c e => ?_⟩
    rw [hl8] at e
    have hlt := (hown.lt g hg).2
    simp at e
    obtain ⟨rfl, _⟩ := e
    show g8 ≠ g
    omega
   clear hTj hown hfree hq3 hb3 hB
   generalize stepU k info (j + 1) = r at *
   have hA4 : ArrB (w3.alloc (.cells (r.map bv).toArray 23)) w3.heap.size 23 r := ArrB.mk_ _ _ _ _ rfl rfl
   have hB4 := c_alloc hB3 (.cells (r.map bv).toArray 23)
   have hj2 : (32 * j + 32) ≤ 8192 := by omega
   go_wp2_with (first
    | ((with_reducible refine tsQ 23 ?_); refine srQ 23 (.tmp 10) (.tmp 28) w3.heap.size (r.map bv).toArray ((List.replicate 32 (0 : UInt8)).map bv).toArray (heap_alloc_new _ _) (infoK32 Hsl.out) (sizeK Hsl.out) (one_bvA _) ?_; rw [World.setRow_alloc_new])
    | (at_builtin; refine wpList_append_rd _ rfl (.tmp 29) (.tmp 30) _ rfl w.heap.size 5 i0 _ 1 Tryz.underlying24 hi0 hz0 hz1 hz2 rfl (.slice A (32 * j) c) (32 * j) _ rfl (hown3.alloc _) _ (some ⟨w3.heap.size, 0, none⟩) 32 32 (r.map bv) rfl (hA4.rd Hsl.out) (one_bv _) (by simp only [maxLen]; omega) (by omega) hB4.size ?_; intro v5 w5 hown5 hgr5 hat5))
   obtain ⟨A5, c5, rfl, hc5, _⟩ := own_form hown5
   have hT4 : Turn (w3.alloc (.cells (r.map bv).toArray 23)) base bt bk bl bi k info Ai ni ci (j + 1) := hT3.keep (al0 _ _) (fun q hq => heap_alloc_old _ _ hq)
   have hl4 : ∀ ad n c, (w3.alloc (.cells (r.map bv).toArray 23)).heap[bl]? = some (.cells #[.slice (some ad) n c] 24 (0, 0)) → ad = ⟨g8, 0, none⟩ := fun ad n c e => by
    rw [heap_alloc_old _ _ (block_lt hl8), hl8] at e
    simp at e
    exact e.1.symm
   have hg8l : g8 < w3.heap.size := by
    obtain ⟨Al, nl, cl, h1, _, _, h4⟩ := hT3.last
    rw [hl8] at h1
    simp at h1
    exact (h4 _ h1.1.symm).2.2
   have hfree4 : ∀ g, (Value.slice A (32 * j) c).ownBlock = some g → g ≠ bt ∧ g ≠ bk ∧ g ≠ bl ∧ g ≠ bi ∧ ∀ ad n c, (w3.alloc (.cells (r.map bv).toArray 23)).heap[bl]? = some (.cells #[.slice (some ad) n c] 24 (0, 0)) → ad.block ≠ g := fun g hg => by
    obtain ⟨f1, f2, f3, f4, f5⟩ := hfree3 g hg
    exact ⟨f1, f2, f3, f4, fun ad n c e => f5 ad n c (by rwa [heap_alloc_old _ _ (block_lt hl8)] at e)⟩
   have hT5 := hT4.row hgr5 hfree4
   have hl5 : ∀ ad n c, w5.heap[bl]? = some (.cells #[.slice (some ad) n c] 24 (0, 0)) → ad = ⟨g8, 0, none⟩ := fun ad n c e => by
    rw [hgr5.block bl (Nat.lt_of_lt_of_le (block_lt hl8) (al0 _ _)) (fun e => (hfree3 _ e.symm).2.2.1 rfl)] at e
    exact hl4 ad n c e
   have hbt := block_lt hT4.turn
   have hbk := hT4.key.lt
   have hbl := block_lt hl8
   have hbi := block_lt hT4.info
   go_roundw
   case rel =>
    refine ⟨j + 1, A5, c5, by omega, rfl, hc5, ?_, hT5, hB4.grown hgr5 hB4.size (fun g hg => (hown3.lt g hg).1), Nat.le_trans hbs (Nat.le_trans hs3 (Nat.le_trans (al0 _ _) hgr5.size)), fun g hg => ?_⟩
    ·
     rw [Ho.out, List.map_append]
     exact hown5
    ·
     rcases hat5 with h | h
     ·
      rw [hg] at h
      obtain ⟨f1, f2, f3, f4, f5⟩ := hfree3 g h.symm
      refine ⟨f1, f2, f3, f4, fun ad n c e => ?_⟩
      obtain rfl := hl5 ad n c e
      exact f5 _ _ _ hl8
     ·
      rw [hg] at h
      injection h with h
      refine ⟨by omega, by omega, by rw [h]; exact Nat.ne_of_gt (Nat.lt_of_lt_of_le hbl (al0 _ _)), by omega, fun ad n c e => ?_⟩
      obtain rfl := hl5 ad n c e
      rw [h]
      exact Nat.ne_of_lt (Nat.lt_of_lt_of_le hg8l (al0 _ _))
   case measure => simp [lenOf]; omega
  ·
   have Hx := Lib.hid (expandU_of k info n j (by omega))
   go_wp2_with fail
   go_ret2
   refine ⟨A, n, rfl, Nat.le_refl _, ?_, hB⟩
   rw [← Hx.out, List.map_take]
   exact (Rd.of_own hown).take (by omega)
end Go.Proofs.YtbiijdboolpaeaaGreatDoor
