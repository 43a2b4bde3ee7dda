import Derived.Test.YtgjeamapgdakcaaDoorG23
import Derived.Test.YtgjeamapgdakcaaDoorG24
import Derived.Deep.MidRow
/-
  CONTRACT of mac.Mac.
-/
set_option linter.unusedVariables false
namespace Go.Proofs.YtgjeamapgdakcaaDoor
open Go.RowKit

theorem marked54 (l : List UInt8) (w : World) (hl : l.length = 64) :
    Calls Tryd.prog 69 #[.agg (l.map bv).toArray, .int .u8 54] w fun e w' =>
      e = .returned (.slice (some ⟨w.heap.size, 0, none⟩) 64 64) ∧ Rd w' w'.heap.size (some ⟨w.heap.size, 0, none⟩) 64 ((l.map (· ^^^ 54)).map bv) ∧ Below w.heap.size w w' := marked_any l 54 w hl
theorem marked92 (l : List UInt8) (w : World) (hl : l.length = 64) :
    Calls Tryd.prog 69 #[.agg (l.map bv).toArray, .int .u8 92] w fun e w' =>
      e = .returned (.slice (some ⟨w.heap.size, 0, none⟩) 64 64) ∧ Rd w' w'.heap.size (some ⟨w.heap.size, 0, none⟩) 64 ((l.map (· ^^^ 92)).map bv) ∧ Below w.heap.size w w' := marked_any l 92 w hl

theorem Txs.cons {w : World} {B : Nat} {v : Value} {vs : List Value} {t : List UInt8} {ts : List (List UInt8)} (h : Txs w B [v] [t]) (h' : Txs w B vs ts) : Txs w B (v :: vs) (t :: ts) := h.append h'
theorem one_slice (A : Option Addr) (n c : Nat) : ∀ u ∈ [Value.slice A n c], u.oneCell' = true := by
  intro u hu
  obtain rfl := List.mem_singleton.1 hu
  rfl
set_option maxRecDepth 1000000 in
set_option maxHeartbeats 1000000 in
theorem Mac_any (A : Option Addr) (k c : Nat) (key : List UInt8) (At : Option Addr) (m ct : Nat) (vs : List Value) (ts : List (List UInt8)) (w : World) (hkc : k ≤ c) (hk : k ≤ 1073741824) (hmc : m ≤ ct) (hm : m ≤ 1073741823) (htot : ts.flatten.length ≤ 1073741824)
    (hr : Rd w w.heap.size A k (key.map bv)) (hv : Rd w w.heap.size At m vs) (ht : Txs w w.heap.size vs ts) (hT : CTab w) :
    Calls Tryd.prog 66 #[.slice A k c, .slice At m ct] w fun e w' => e = .returned (.agg ((macU key ts.flatten).map bv).toArray) ∧ Below w.heap.size w w' := by
  have Htot := Lib.hid htot
  clear htot
  go_enter Tryd.func66, Tryd.ntmps66
  go_wp2_with fail
  refine (filled_any A k c key _ hkc hk (d_rd hr (d_al _ _)) (hT.below (d_al _ _))).mono ?_
  rintro e w2 ⟨rfl, hb2⟩
  have hz2 : ArrB w2 w.heap.size 24 (List.replicate 32 0) := (ArrB.mk_ w _ _ (List.replicate 32 0) rfl rfl).below hb2 (by simp)
  have hB2 : Below w.heap.size w w2 := (d_al _ _).trans (hb2.mono (al0 _ _))
  have Hp := Lib.hid (padK_len key)
  have H54 := Lib.hid (show (padK key).map (· ^^^ 54) = xorK key 54 from rfl)
  have H92 := Lib.hid (show (padK key).map (· ^^^ 92) = xorK key 92 from rfl)
  generalize padK key = p at *
  clear hb2
  have hP := ArrB.mk_ w2 73 (p.map bv).toArray p rfl rfl
  have hzP := hz2.alloc (.cells (p.map bv).toArray 73)
  have hBP := hB2.alloc hB2.size (.cells (p.map bv).toArray 73)
  go_wp2_with (first
    | ((with_reducible show wpList _ _ _ (⟨none, Op.store 73 _ _, _, _, _, _⟩ :: _) _ _); refine wpList_store_row rfl 73 (.tmp 5) (.tmp 8) rfl w2.heap.size (p.map bv).toArray rfl rfl 73 (zero64b.map bv).toArray (heap_alloc_new _ _) (infoK Hp.out) (sizeK Hp.out) (one_bvA _) ?_; rw [World.setRow_alloc_new])
    | ((with_reducible show wpList _ _ _ (⟨some 9, _, _, _, _, _⟩ :: _) _ _); refine wpList_load_row rfl 73 (.tmp 5) rfl w2.heap.size rfl 73 (p.map bv).toArray (0, 0) _ hP Tryd.underlying73 rfl (infoK Hp.out) ?_))
  refine (marked54 p _ Hp.out).mono ?_
  rintro e w3 ⟨rfl, hr3, hb3⟩
  rw [H54.out] at hr3
  have hP3 := hP.below hb3 hP.lt
  have hz3 := hzP.below hb3 hzP.lt
  have hB3 : Below w.heap.size w w3 := hBP.trans (hb3.mono hBP.size)
  have hBlt := hz2.lt
  clear hP hzP hBP hb3 hz2 hB2
  have hg3 : (w2.alloc (.cells (p.map bv).toArray 73)).heap.size = w2.heap.size + 1 := by simp
  rw [hg3] at hr3 ⊢
  have hgP : w.heap.size < w2.heap.size := hBlt
  generalize hgp : w2.heap.size = gP at *
  clear hg3 hgp
  go_wp2_with fail
  refine calls_gen (fun wx => ((Rd wx wx.heap.size (some ⟨w3.heap.size + 1, 0, none⟩) 2 [.slice (some ⟨w3.heap.size, 0, none⟩) 1 1, .slice At m ct] ∧ Rd wx wx.heap.size (some ⟨w3.heap.size, 0, none⟩) 1 [.slice (some ⟨gP + 1, 0, none⟩) 64 64] ∧ Rd wx wx.heap.size (some ⟨gP + 1, 0, none⟩) 64 ((xorK key 54).map bv)) ∧ ArrB wx gP 73 p ∧ ArrB wx w.heap.size 24 (List.replicate 32 0)) ∧ Below w.heap.size w wx) ?_ ?_
  · have b2 := (d_al w3 (.cells #[.slice (some ⟨gP + 1, 0, none⟩) 64 64] 45)).alloc (al0 _ _) (.cells #[.slice (some ⟨w3.heap.size, 0, none⟩) 1 1, .slice At m ct] 22)
    exact ⟨⟨⟨Rd.mk_ _ _ _ (by simp) (by simp) rfl rfl, ((Rd.mk_ (B := w3.heap.size + 1) _ _ _ rfl (by omega) rfl rfl).alloc (by simp) _).more (by simp), d_rd hr3 b2⟩, (hP3.alloc _).alloc _, (hz3.alloc _).alloc _⟩, (hB3.alloc hB3.size _).alloc (Nat.le_trans hB3.size (al0 _ _)) _⟩
  clear hP3 hz3 hr3 hB3
  rintro w4 ⟨⟨⟨hh4, hl4, hr4⟩, hP4, hz4⟩, hB4⟩
  refine (Concat_any _ 2 2 _ [[.slice (some ⟨gP + 1, 0, none⟩) 64 64], vs] w4 (by omega) (by simp) (by simp [hv.len]; omega) hh4 (Lists.two hl4 (Nat.le_refl _) (one_slice _ _ _) (d_rd hv hB4) hmc ht.one_cell)).mono ?_
  rintro e w5 ⟨A5, n5, c5, rfl, hn5, hown5, hb5⟩
  have hr5 := Rd.of_own hown5
  rw [show [[Value.slice (some ⟨gP + 1, 0, none⟩) 64 64], vs].flatten = .slice (some ⟨gP + 1, 0, none⟩) 64 64 :: vs by simp] at hr5
  have hx5 := d_rd hr4 hb5
  have hP5 := hP4.below hb5 hP4.lt
  have hz5 := hz4.below hb5 hz4.lt
  have hB5 : Below w.heap.size w w5 := hB4.trans (hb5.mono hB4.size)
  clear hh4 hl4 hr4 hP4 hz4 hB4 hb5 hown5
  have hn5m : n5 ≤ 1073741824 := by have := hr5.len; have h2 := hv.len; simp only [List.length_cons] at this; omega
  go_wp2_with fail
  refine (pSum_any A5 n5 c5 _ (xorK key 54 :: ts) w5 (by omega) (by have := Htot.out; have := xorK_len key 54; rw [List.flatten_cons, List.length_append]; omega) hr5 (Txs.cons (txs_one1 (xorK_len _ _) (Nat.le_refl _) hx5) (d_txs ht hB5)) (hT.below hB5)).mono ?_
  rintro e w6 ⟨rfl, hb6⟩
  have hP6 := hP5.below hb6 hP5.lt
  have hz6 := hz5.below hb6 hz5.lt
  have hB6 : Below w.heap.size w w6 := hB5.trans (hb6.mono hB5.size)
  have Hi := Lib.hid (innerU_len key ts.flatten)
  have Hmac := Lib.hid (show sumU (xorK key 92 ++ innerU key ts.flatten) = macU key ts.flatten from rfl)
  rw [show sumU (xorK key 54 :: ts).flatten = innerU key ts.flatten by rw [List.flatten_cons]; rfl]
  generalize innerU key ts.flatten = q at *
  clear hr5 hx5 hP5 hz5 hB5 hb6
  have hQ : ArrB (w6.alloc (.cells (q.map bv).toArray 24)) w6.heap.size 24 q := ArrB.mk_ _ _ _ _ rfl rfl
  have hP7 := hP6.alloc (.cells (q.map bv).toArray 24)
  have hz7 := hz6.alloc (.cells (q.map bv).toArray 24)
  have hB7 := hB6.alloc hB6.size (.cells (q.map bv).toArray 24)
  go_wp2_with ((with_reducible show wpList _ _ _ (⟨none, Op.store 24 _ _, _, _, _, _⟩ :: _) _ _); refine wpList_store_row rfl 24 (.tmp 6) (.tmp 15) rfl w6.heap.size (q.map bv).toArray rfl rfl 24 ((List.replicate 32 (0 : UInt8)).map bv).toArray (heap_alloc_new _ _) (infoK32 Hi.out) (sizeK Hi.out) (one_bvA _) ?_; rw [World.setRow_alloc_new])
  have hgq : w6.heap.size < (w6.alloc (.cells (q.map bv).toArray 24)).heap.size := hQ.lt
  generalize w6.alloc (.cells (q.map bv).toArray 24) = w7 at *
  have Hml := Lib.hid (macU_len key ts.flatten)
  generalize hr0 : macU key ts.flatten = r at *
  have Hr0 := Lib.hid hr0
  clear hr0
  have hg6 : w.heap.size < w6.heap.size := hz6.lt
  have hkeep : ∀ wx : World, Below w7.heap.size w7 wx → wx.rangeAt gP 0 (p.map bv) ∧ wx.there w.heap.size 0 32 ∧ (SomeB wx w.heap.size 24 32 ∧ ArrB wx w6.heap.size 24 q) :=
    fun wx hb => ⟨(hP7.below hb hP7.lt).range, (hz7.below hb hz7.lt).there (by simp), (hz7.below hb hz7.lt).some (by simp), hQ.below hb hQ.lt⟩
  have hstore : ∀ wx : World, Below w7.heap.size w7 wx → (fun wx : World => wx.rangeAt gP 0 (p.map bv) ∧ wx.there w.heap.size 0 32 ∧ (SomeB wx w.heap.size 24 32 ∧ ArrB wx w6.heap.size 24 q)) (wx.setCells w.heap.size 0 (r.map bv)) :=
    fun wx hb => by
      have h1 := (hz7.below hb hz7.lt).stored (l' := r) (by simp [Hml.out])
      exact ⟨ArrB.range ((hP7.below hb hP7.lt).of (setCells_far _ _ (by omega) _ _ _)), h1.there Hml.out, h1.some Hml.out, (hQ.below hb hQ.lt).of (setCells_far _ _ (by omega) _ _ _)⟩
  have hu1 := Tryd.underlying73
  have hu2 := Tryd.underlying24
  have hi1 : (Tryd.prog.info? 73).map (·.size) = some (p.map bv).length := by rw [info64b]; simp [Hp.out]
  have hi2 : (Tryd.prog.info? 24).map (·.size) = some (r.map bv).length := by rw [info32]; simp [Hml.out]
  have hl2 : (r.map bv).length = 32 := by simp [Hml.out]
  have h12 := one_bv r
  clear hP6 hz6 hB6
  go_region_held3 (fun wx => wx.rangeAt gP 0 (p.map bv) ∧ wx.there w.heap.size 0 32 ∧ (SomeB wx w.heap.size 24 32 ∧ ArrB wx w6.heap.size 24 q))
    (first
      | (refine hkeep _ ?_; (repeat (first | exact c_refl _ | refine c_drew ?_ | refine c_alloc ?_ _ | refine c_call ?_ hbm | refine c_call ?_ hbs)); done)
      | (refine hstore _ ?_; (repeat (first | exact c_refl _ | refine c_drew ?_ | refine c_alloc ?_ _ | refine c_call ?_ hbm | refine c_call ?_ hbs)); done))
    (first
      | (go_at_call 69; refine (marked92 p _ Hp.out).mono ?_; rintro e wm ⟨rfl, hrm, hbm⟩; rw [H92.out] at hrm)
      | (go_at_call 21; refine (pSum_any _ 2 2 [_, _] [xorK key 92, q] _ (by omega) (by simp [xorK_len, Hi.out]) (Rd.mk_ _ _ _ rfl (by simp) rfl rfl) (Txs.cons (txs_one1 (xorK_len _ _) (Nat.le_refl _) (d_rd hrm (d_al _ _))) (txs_one1 Hi.out (Nat.le_refl _) ((hkeep _ (by ((repeat (first | exact c_refl _ | refine c_drew ?_ | refine c_alloc ?_ _ | refine c_call ?_ hbm)); first | done | fail "open"))).2.2.2.rd Hi.out))) (hT.below (c_call hB7 (by ((repeat (first | exact c_refl _ | refine c_drew ?_ | refine c_alloc ?_ _ | refine c_call ?_ hbm)); first | done | fail "open"))))).mono ?_; rintro e ws ⟨rfl, hbs⟩; rw [show [xorK key 92, q].flatten = xorK key 92 ++ q by simp, Hmac.out]))
  have HB : Below w7.heap.size w7 ws := by
    repeat (first | exact c_refl _ | refine c_drew ?_ | refine c_alloc ?_ _ | refine c_call ?_ hbm | refine c_call ?_ hbs)
  have HA : ArrB (ws.setCells w.heap.size 0 (r.map bv)) w.heap.size 24 r := (hz7.below HB hz7.lt).stored (by rw [Hml.out]; rfl)
  go_wp2_with fail
  exact bodyPost_ret (results_cell_row rfl _ _ w.heap.size 24 _ (0, 0) _ rfl HA Tryd.underlying24 rfl (infoK32 Hml.out)) rfl ⟨by rw [Hr0.out], below_setCells (Nat.le_refl _) _ _ _ (c_call hB7 HB)⟩

end Go.Proofs.YtgjeamapgdakcaaDoor

/-
  CONTRACTS of the document's own padded and Mac (coterieref03).
-/
set_option linter.unusedVariables false
namespace Go.Proofs.YtgjeamapgdakcaaDoor
open Go.RowKit

/-- the first j are told, the rest is 0 -/
def padX (p : List UInt8) (x : UInt8) (j : Nat) : List UInt8 := (p.take j).map (· ^^^ x) ++ List.replicate (64 - j) 0
theorem padX_zero (p : List UInt8) (x : UInt8) : padX p x 0 = List.replicate 64 0 := by simp [padX]
theorem padX_all {p : List UInt8} (x : UInt8) (hp : p.length = 64) : padX p x 64 = p.map (· ^^^ x) := by simp [padX, ← hp]
theorem padX_len {p : List UInt8} (x : UInt8) {j : Nat} (hp : p.length = 64) (hj : j ≤ 64) : (padX p x j).length = 64 := by
  unfold padX
  simp
  omega
theorem padX_succ {p : List UInt8} {j : Nat} (x : UInt8) {y : UInt8} (h : p[j]? = some y) (hp : p.length = 64) : padX p x (j + 1) = (padX p x j).set j (y ^^^ x) := by
  have hj := (List.getElem?_eq_some_iff.1 h).1
  unfold padX
  rw [take_succ_of h, List.set_append_right _ _ (by simp; omega), show j - ((p.take j).map (· ^^^ x)).length = 0 from by simp; omega,
    show 64 - j = (64 - (j + 1)) + 1 from by omega, List.replicate_succ]
  simp

theorem padK_at {key : List UInt8} {j : Nat} {y : UInt8} (hk : key.length ≤ 64) (h : key[j]? = some y) : (padK key)[j]? = some y := by
  unfold padK
  rw [if_pos hk, List.getElem?_append_left (List.getElem?_eq_some_iff.1 h).1, h]
theorem padK_past {key : List UInt8} {j : Nat} (hk : key.length ≤ 64) (h : key.length ≤ j) (hj : j < 64) : (padK key)[j]? = some 0 := by
  unfold padK
  rw [if_pos hk, List.getElem?_append_right h, List.getElem?_replicate, if_pos (by omega)]
theorem zero_xor8 (x : UInt8) : 0 ^^^ x = x := UInt8.zero_xor

def PadPost (w : World) (key : List UInt8) (x : UInt8) (e : Ending) (w' : World) : Prop :=
  ∃ g, e = .returned (.slice (some ⟨g, 0, none⟩) 64 64) ∧ ArrB w' g 5 (xorK key x) ∧ Below w.heap.size w w'

set_option maxRecDepth 100000 in
set_option maxHeartbeats 1000000 in
theorem padded_small (A : Option Addr) (k c : Nat) (key : List UInt8) (x : UInt8) (w : World) (hk : k ≤ 64) (hr : Rd w w.heap.size A k (key.map bv)) :
    Calls Tryd.prog 60 #[.slice A k c, .int .u8 (x.toNat : Int)] w (PadPost w key x) := by
  have Hkl := Lib.hid (show key.length = k by simpa using hr.len)
  obtain ⟨p, hp⟩ : ∃ p, padK key = p := ⟨_, rfl⟩
  have HP := Lib.hid hp
  have Hpl := Lib.hid (show p.length = 64 by rw [← hp]; exact padK_len key)
  have Hxp := Lib.hid (show p.map (· ^^^ x) = xorK key x by rw [← hp]; rfl)
  unfold PadPost
  rw [← Hxp.out]
  clear hp
  go_enter Tryd.func60, Tryd.ntmps60
  obtain ⟨wm, hmk, hAm, hBm⟩ := make_bytes 64 w .i64 64 rfl (by omega)
  have hBw : Below w.heap.size w wm := c_call (c_refl w) hBm
  have hrm : Rd wm w.heap.size A k (key.map bv) := (hr).below hBm
  have hgw : w.heap.size ≤ w.heap.size := ((c_refl w)).size
  skip
  clear hBm
  go_wp2_with fail
  go_loopw [18] (fun i wr => ∃ j : Nat, j ≤ 64 ∧ i = .int .i64 (j : Int) ∧ ArrB wr (w.heap.size) 5 (padX p x j) ∧ Rd wr (w.heap.size) A k (key.map bv) ∧ Below w.heap.size w wr) (fun i _ => 64 - (intOf i).toNat)
  case atStart => exact ⟨0, by omega, rfl, by rw [padX_zero]; exact hAm, hrm, hBw⟩
  case round =>
    obtain ⟨j, hj, rfl, hA, hR, hB⟩ := hrel
    by_cases hlt : j < 64
    · have f0 := hA.frozen j
      have hpl := padX_len x Hpl.out hj
      obtain ⟨z0, hz0⟩ : ∃ z0, (padX p x j)[j]? = some z0 := ⟨_, List.getElem?_eq_getElem (by omega)⟩
      have c0 := hA.cell hz0
      obtain ⟨y, hy⟩ : ∃ y, p[j]? = some y := ⟨_, List.getElem?_eq_getElem (by have := Hpl.out; omega)⟩
      have Hs := Lib.hid (padX_succ x hy Hpl.out)
      have Hy := Lib.hid hy
      have j0 : (0 : Int) ≤ (j : Int) := by omega
      have j1 : (j : Int) < 64 := by omega
      have hA2 := hA.set_ j x
      have hB2 := hB.setCell (p := ⟨w.heap.size, j, none⟩) hgw (.int .u8 (x.toNat : Int))
      have hR2 := hR.setCell (p := ⟨w.heap.size, j, none⟩) (Nat.le_refl _) (.int .u8 (x.toNat : Int))
      have c2l : ((padX p x j).set j x)[j]? = some x := by rw [List.getElem?_set_self (by omega)]
      have c2 := hA2.cell (i := j) (x := x) c2l
      have f2 := hA2.frozen j
      clear hy hz0 hpl
      by_cases hjk : j < k
      · obtain ⟨b, o, hAe, hb, hc⟩ := hR2.pos (by omega)
        obtain ⟨yk, hyk⟩ : ∃ y, (key)[j]? = some y := ⟨_, List.getElem?_eq_getElem (by have := Hkl.out; omega)⟩
        have hyy : yk = y := by
          have h1 := padK_at (j := j) (y := yk) (by have := Hkl.out; omega) hyk
          rw [HP.out, Hy.out] at h1
          exact (Option.some.inj h1).symm
        subst hyy
        have ck := hc j (.int .u8 (yk.toNat : Int)) (by rw [List.getElem?_map, hyk]; rfl)
        have hx := b_xor x yk
        rw [UInt8.xor_comm x yk] at hx
        clear hc
        obtain rfl := hAe
        go_wp2_with fail
        refine wp_gen (fun wx => ArrB wx (w.heap.size) 5 ((padX p x j).set j x) ∧ Rd wx (w.heap.size) (some ⟨b, o, none⟩) k (key.map bv) ∧ Below w.heap.size w wx) ⟨hA2, hR2, hB2⟩ ?_
        clear c0 f0 c2 f2 ck
        rintro wz ⟨hAz, hRz, hBz⟩
        have cz1 : wz.cell? ⟨w.heap.size, j, none⟩ = some (.int .u8 (x.toNat : Int)) := hAz.cell (i := j) (x := x) c2l
        have cz2 : wz.cell? ⟨b, o + j, none⟩ = some (.int .u8 (yk.toNat : Int)) := by
          obtain ⟨b', o', he, _, hcz⟩ := hRz.pos (by omega)
          injection he with he
          injection he with he1 he2
          subst he1 he2
          exact hcz j _ (by rw [List.getElem?_map, hyk]; rfl)
        go_still_tail 10, (by kernel_rfl)
        change wpList _ _ _ _ _ wz.drew
        clear cz1 cz2
        refine wpList_gen (fun wx => ArrB wx (w.heap.size) 5 ((padX p x j).set j x) ∧ Rd wx (w.heap.size) (some ⟨b, o, none⟩) k (key.map bv) ∧ Below w.heap.size w wx) ⟨hAz.drew, hRz.drew, hBz.drew⟩ ?_
        rintro w5 ⟨hA5, hR5, hB5⟩
        have c5 := hA5.cell (i := j) (x := x) c2l
        have f5 := hA5.frozen j
        have hA6 := hA5.set_ j (x ^^^ yk)
        rw [List.set_set, UInt8.xor_comm x yk, ← Hs.out] at hA6
        have hB6 := hB5.setCell (p := ⟨w.heap.size, j, none⟩) hgw (.int .u8 ((yk ^^^ x).toNat : Int))
        have hR6 := hR5.setCell (p := ⟨w.heap.size, j, none⟩) (Nat.le_refl _) (.int .u8 ((yk ^^^ x).toNat : Int))
        go_wp2_with fail
        go_roundw
        case rel => exact ⟨j + 1, by omega, by go_num, hA6, hR6, hB6⟩
        case measure => simp [intOf]; omega
      · have hyy : y = 0 := by
          have h1 := padK_past (key := key) (j := j) (by have := Hkl.out; omega) (by have := Hkl.out; omega) hlt
          rw [HP.out, Hy.out] at h1
          exact Option.some.inj h1
        subst hyy
        rw [zero_xor8] at Hs
        rw [← Hs.out] at hA2
        go_wp2_with fail
        go_roundw
        case rel => exact ⟨j + 1, by omega, by go_num, hA2, hR2, hB2⟩
        case measure => simp [intOf]; omega
    · obtain rfl : j = 64 := by omega
      rw [padX_all x Hpl.out] at hA
      rw [show ((64 : Nat) : Int) = 64 from rfl]
      go_wp2_with fail
      go_ret
      exact ⟨w.heap.size, rfl, hA, hB⟩

end Go.Proofs.YtgjeamapgdakcaaDoor

