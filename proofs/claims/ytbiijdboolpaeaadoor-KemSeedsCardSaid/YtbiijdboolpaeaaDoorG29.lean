import Derived.Test.YtbiijdboolpaeaaDoorG26
import Derived.Test.YtbiijdboolpaeaaDoorG28
import Derived.Deep.MidRow
set_option linter.unusedVariables false
namespace Go.Proofs.YtbiijdboolpaeaaDoor
open Go.RowKit
theorem marked54 (l : List UInt8) (w : World) (hl : l.length = 64) :
  Calls Tryd.prog 51 #[.agg (l.map bv).toArray, .int .u8 54] w fun e w' =>
   e = .returned (.slice (some ⟨w.heap.size, 0, none⟩) 64 64) ∧ Rd w' w'.heap.size (some ⟨w.heap.size, 0, none⟩) 64 ((l.map (· ^^^ 54)).map bv) ∧ Below w.heap.size w w' := marked_any l 54 w hl
theorem marked92 (l : List UInt8) (w : World) (hl : l.length = 64) :
  Calls Tryd.prog 51 #[.agg (l.map bv).toArray, .int .u8 92] w fun e w' =>
   e = .returned (.slice (some ⟨w.heap.size, 0, none⟩) 64 64) ∧ Rd w' w'.heap.size (some ⟨w.heap.size, 0, none⟩) 64 ((l.map (· ^^^ 92)).map bv) ∧ Below w.heap.size w w' := marked_any l 92 w hl
theorem Txs.cons {w : World} {B : Nat} {v : Value} {vs : List Value} {t : List UInt8} {ts : List (List UInt8)} (h : Txs w B [v] [t]) (h' : Txs w B vs ts) : Txs w B (v :: vs) (t :: ts) := h.append h'
theorem one_slice (A : Option Addr) (n c : Nat) : ∀ u ∈ [Value.slice A n c], u.oneCell' = true := by
 intro u hu
 obtain rfl := List.mem_singleton.1 hu
 rfl
set_option maxRecDepth 1000000 in
set_option maxHeartbeats 1000000 in
theorem Mac_any (A : Option Addr) (k c : Nat) (key : List UInt8) (At : Option Addr) (m ct : Nat) (vs : List Value) (ts : List (List UInt8)) (w : World) (hkc : k ≤ c) (hk : k ≤ 1073741824) (hmc : m ≤ ct) (hm : m ≤ 1073741823) (htot : ts.flatten.length ≤ 1073741824)
  (hr : Rd w w.heap.size A k (key.map bv)) (hv : Rd w w.heap.size At m vs) (ht : Txs w w.heap.size vs ts) (hT : CTab w) :
  Calls Tryd.prog 34 #[.slice A k c, .slice At m ct] w fun e w' => e = .returned (.agg ((macU key ts.flatten).map bv).toArray) ∧ Below w.heap.size w w' := by
 have Htot := Lib.hid htot
 clear htot
 go_enter Tryd.func34, Tryd.ntmps34
 go_wp2_with fail
 refine (filled_any A k c key _ hkc hk (d_rd hr (d_al _ _)) (hT.below (d_al _ _))).mono ?_
 rintro e w2 ⟨rfl, hb2⟩
 have hz2 : ArrB w2 w.heap.size 23 (List.replicate 32 0) := (ArrB.mk_ w _ _ (List.replicate 32 0) rfl rfl).below hb2 (by simp)
 have hB2 : Below w.heap.size w w2 := (d_al _ _).trans (hb2.mono (al0 _ _))
 have Hp := Lib.hid (padK_len key)
 have H54 := Lib.hid (show (padK key).map (· ^^^ 54) = xorK key 54 from rfl)
 have H92 := Lib.hid (show (padK key).map (· ^^^ 92) = xorK key 92 from rfl)
 generalize padK key = p at *
 clear hb2
 have hP := ArrB.mk_ w2 80 (p.map bv).toArray p rfl rfl
 have hzP := hz2.alloc (.cells (p.map bv).toArray 80)
 have hBP := hB2.alloc hB2.size (.cells (p.map bv).toArray 80)
 go_wp2_with (first
  | ((with_reducible refine tsQ 80 ?_); refine srQ 80 (.tmp 5) (.tmp 8) w2.heap.size (p.map bv).toArray (zero64b.map bv).toArray (heap_alloc_new _ _) (infoK Hp.out) (sizeK Hp.out) (one_bvA _) ?_; rw [World.setRow_alloc_new])
  | ((with_reducible refine tdQ 9 ?_); refine wpList_load_row rfl 80 (.tmp 5) rfl w2.heap.size rfl 80 (p.map bv).toArray (0, 0) _ hP Tryd.underlying80 rfl (infoK Hp.out) ?_))
 refine (marked54 p _ Hp.out).mono ?_
 rintro e w3 ⟨rfl, hr3, hb3⟩
 rw [H54.out] at hr3
 have hP3 := hP.below hb3 hP.lt
 have hz3 := hzP.below hb3 hzP.lt
 have hB3 : Below w.heap.size w w3 := hBP.trans (hb3.mono hBP.size)
 have hBlt := hz2.lt
 clear hP hzP hBP hb3 hz2 hB2
 have hg3 : (w2.alloc (.cells (p.map bv).toArray 80)).heap.size = w2.heap.size + 1 := by simp
 rw [hg3] at hr3 ⊢
 have hgP : w.heap.size < w2.heap.size := hBlt
 generalize hgp : w2.heap.size = gP at *
 clear hg3 hgp
 go_wp2_with fail
 refine calls_gen (fun wx => ((Rd wx wx.heap.size (some ⟨w3.heap.size + 1, 0, none⟩) 2 [.slice (some ⟨w3.heap.size, 0, none⟩) 1 1, .slice At m ct] ∧ Rd wx wx.heap.size (some ⟨w3.heap.size, 0, none⟩) 1 [.slice (some ⟨gP + 1, 0, none⟩) 64 64] ∧ Rd wx wx.heap.size (some ⟨gP + 1, 0, none⟩) 64 ((xorK key 54).map bv)) ∧ ArrB wx gP 80 p ∧ ArrB wx w.heap.size 23 (List.replicate 32 0)) ∧ Below w.heap.size w wx) ?_ ?_
 ·
  have b2 := (d_al w3 (.cells #[.slice (some ⟨gP + 1, 0, none⟩) 64 64] 24)).alloc (al0 _ _) (.cells #[.slice (some ⟨w3.heap.size, 0, none⟩) 1 1, .slice At m ct] 25)
  exact ⟨⟨⟨Rd.mk_ _ _ _ (by simp) (by simp) rfl rfl, ((Rd.mk_ (B := w3.heap.size + 1) _ _ _ rfl (by omega) rfl rfl).alloc (by simp) _).more (by simp), d_rd hr3 b2⟩, (hP3.alloc _).alloc _, (hz3.alloc _).alloc _⟩, (hB3.alloc hB3.size _).alloc (Nat.le_trans hB3.size (al0 _ _)) _⟩
 clear hP3 hz3 hr3 hB3
 rintro w4 ⟨⟨⟨hh4, hl4, hr4⟩, hP4, hz4⟩, hB4⟩
 refine (Concat_any _ 2 2 _ [[.slice (some ⟨gP + 1, 0, none⟩) 64 64], vs] w4 (by omega) (by simp) (by simp [hv.len]; omega) hh4 (Lists.two hl4 (Nat.le_refl _) (one_slice _ _ _) (d_rd hv hB4) hmc ht.one_cell)).mono ?_
 rintro e w5 ⟨A5, n5, c5, rfl, hn5, hown5, hb5⟩
 have hr5 := Rd.of_own hown5
 rw [show [[Value.slice (some ⟨gP + 1, 0, none⟩) 64 64], vs].flatten = .slice (some ⟨gP + 1, 0, none⟩) 64 64 :: vs by simp] at hr5
 have hx5 := d_rd hr4 hb5
 have hP5 := hP4.below hb5 hP4.lt
 have hz5 := hz4.below hb5 hz4.lt
 have hB5 : Below w.heap.size w w5 := hB4.trans (hb5.mono hB4.size)
 clear hh4 hl4 hr4 hP4 hz4 hB4 hb5 hown5
 have hn5m : n5 ≤ 1073741824 := by have := hr5.len; have h2 := hv.len; simp only [List.length_cons] at this; omega
 go_wp2_with fail
 refine (pSum_any A5 n5 c5 _ (xorK key 54 :: ts) w5 (by omega) (by have := Htot.out; have := xorK_len key 54; rw [List.flatten_cons, List.length_append]; omega) hr5 (Txs.cons (txs_one1 (xorK_len _ _) (Nat.le_refl _) hx5) (d_txs ht hB5)) (hT.below hB5)).mono ?_
 rintro e w6 ⟨rfl, hb6⟩
 have hP6 := hP5.below hb6 hP5.lt
 have hz6 := hz5.below hb6 hz5.lt
 have hB6 : Below w.heap.size w w6 := hB5.trans (hb6.mono hB5.size)
 have Hi := Lib.hid (innerU_len key ts.flatten)
 have Hmac := Lib.hid (show sumU (xorK key 92 ++ innerU key ts.flatten) = macU key ts.flatten from rfl)
 rw [show sumU (xorK key 54 :: ts).flatten = innerU key ts.flatten by rw [List.flatten_cons]; rfl]
 generalize innerU key ts.flatten = q at *
 clear hr5 hx5 hP5 hz5 hB5 hb6
 have hQ : ArrB (w6.alloc (.cells (q.map bv).toArray 23)) w6.heap.size 23 q := ArrB.mk_ _ _ _ _ rfl rfl
 have hP7 := hP6.alloc (.cells (q.map bv).toArray 23)
 have hz7 := hz6.alloc (.cells (q.map bv).toArray 23)
 have hB7 := hB6.alloc hB6.size (.cells (q.map bv).toArray 23)
 go_wp2_with ((with_reducible refine tsQ 23 ?_); refine srQ 23 (.tmp 6) (.tmp 15) w6.heap.size (q.map bv).toArray ((List.replicate 32 (0 : UInt8)).map bv).toArray (heap_alloc_new _ _) (infoK32 Hi.out) (sizeK Hi.out) (one_bvA _) ?_; rw [World.setRow_alloc_new])
 have hgq : w6.heap.size < (w6.alloc (.cells (q.map bv).toArray 23)).heap.size := hQ.lt
 generalize w6.alloc (.cells (q.map bv).toArray 23) = w7 at *
 have Hml := Lib.hid (macU_len key ts.flatten)
 generalize hr0 : macU key ts.flatten = r at *
 have Hr0 := Lib.hid hr0
 clear hr0
 have hg6 : w.heap.size < w6.heap.size := hz6.lt
 have hkeep : ∀ wx : World, Below w7.heap.size w7 wx → wx.rangeAt gP 0 (p.map bv) ∧ wx.there w.heap.size 0 32 ∧ (SomeB wx w.heap.size 23 32 ∧ ArrB wx w6.heap.size 23 q) :=
  fun wx hb => ⟨(hP7.below hb hP7.lt).range, (hz7.below hb hz7.lt).there (by simp), (hz7.below hb hz7.lt).some (by simp), hQ.below hb hQ.lt⟩
 have hstore : ∀ wx : World, Below w7.heap.size w7 wx → (fun wx : World => wx.rangeAt gP 0 (p.map bv) ∧ wx.there w.heap.size 0 32 ∧ (SomeB wx w.heap.size 23 32 ∧ ArrB wx w6.heap.size 23 q)) (wx.setCells w.heap.size 0 (r.map bv)) :=
  fun wx hb => by
   have h1 := (hz7.below hb hz7.lt).stored (l' := r) (by simp [Hml.out])
   exact ⟨ArrB.range ((hP7.below hb hP7.lt).of (setCells_far _ _ (by omega) _ _ _)), h1.there Hml.out, h1.some Hml.out, (hQ.below hb hQ.lt).of (setCells_far _ _ (by omega) _ _ _)⟩
 have hu1 := Tryd.underlying80
 have hu2 := Tryd.underlying23
 have hi1 : (Tryd.prog.info? 80).map (·.size) = some (p.map bv).length := by rw [info64b]; simp [Hp.out]
 have hi2 : (Tryd.prog.info? 23).map (·.size) = some (r.map bv).length := by rw [info32]; simp [Hml.out]
 have hl2 : (r.map bv).length = 32 := by simp [Hml.out]
 have h12 := one_bv r
 clear hP6 hz6 hB6
 go_region_held3 (fun wx => wx.rangeAt gP 0 (p.map bv) ∧ wx.there w.heap.size 0 32 ∧ (SomeB wx w.heap.size 23 32 ∧ ArrB wx w6.heap.size 23 q))
  (first
   | (refine hkeep _ ?_; (repeat (first | exact c_refl _ | refine c_drew ?_ | refine c_alloc ?_ _ | refine c_call ?_ hbm | refine c_call ?_ hbs)); done)
   | (refine hstore _ ?_; (repeat (first | exact c_refl _ | refine c_drew ?_ | refine c_alloc ?_ _ | refine c_call ?_ hbm | refine c_call ?_ hbs)); done))
  (first
   | (go_at_call 51; refine (marked92 p _ Hp.out).mono ?_; rintro e wm ⟨rfl, hrm, hbm⟩; rw [H92.out] at hrm)
   | (go_at_call 49; refine (pSum_any _ 2 2 [_, _] [xorK key 92, q] _ (by omega) (by simp [xorK_len, Hi.out]) (Rd.mk_ _ _ _ rfl (by simp) rfl rfl) (Txs.cons (txs_one1 (xorK_len _ _) (Nat.le_refl _) (d_rd hrm (d_al _ _))) (txs_one1 Hi.out (Nat.le_refl _) ((hkeep _ (by ((repeat (first | exact c_refl _ | refine c_drew ?_ | refine c_alloc ?_ _ | refine c_call ?_ hbm)); first | done | fail "open"))).2.2.2.rd Hi.out))) (hT.below (c_call hB7 (by ((repeat (first | exact c_refl _ | refine c_drew ?_ | refine c_alloc ?_ _ | refine c_call ?_ hbm)); first | done | fail "open"))))).mono ?_; rintro e ws ⟨rfl, hbs⟩; rw [show [xorK key 92, q].flatten = xorK key 92 ++ q by simp, Hmac.out]))
 have HB : Below w7.heap.size w7 ws := by
  repeat (first | exact c_refl _ | refine c_drew ?_ | refine c_alloc ?_ _ | refine c_call ?_ hbm | refine c_call ?_ hbs)
 have HA : ArrB (ws.setCells w.heap.size 0 (r.map bv)) w.heap.size 23 r := (hz7.below HB hz7.lt).stored (by rw [Hml.out]; rfl)
 go_wp2_with fail
 exact bodyPost_ret (results_cell_row rfl _ _ w.heap.size 23 _ (0, 0) _ rfl HA Tryd.underlying23 rfl (infoK32 Hml.out)) rfl ⟨by rw [Hr0.out], below_setCells (Nat.le_refl _) _ _ _ (c_call hB7 HB)⟩
set_option maxRecDepth 1000000 in
theorem mExtract_any (A : Option Addr) (k c : Nat) (key : List UInt8) (A' : Option Addr) (k' c' : Nat) (b : List UInt8) (w : World) (hkc : k ≤ c) (hk : k ≤ 1073741824) (hkc' : k' ≤ c') (hk' : k' ≤ 1073741824)
  (hr : Rd w w.heap.size A k (key.map bv)) (hr' : Rd w w.heap.size A' k' (b.map bv)) (hT : CTab w) :
  Calls Tryd.prog 18 #[.slice A k c, .slice A' k' c'] w fun e w' => e = .returned (.agg ((macU key b).map bv).toArray) ∧ Below w.heap.size w w' := by
 have Hbl := Lib.hid (show b.length = k' by simpa using hr'.len)
 have b2 := (d_al w (.cells ((List.replicate 32 (0 : UInt8)).map bv).toArray 23)).alloc (al0 _ _) (.cells #[.slice A' k' c'] 24)
 have hZ : ArrB ((w.alloc (.cells ((List.replicate 32 (0 : UInt8)).map bv).toArray 23)).alloc (.cells #[.slice A' k' c'] 24)) w.heap.size 23 (List.replicate 32 0) := (ArrB.mk_ w _ _ _ rfl rfl).alloc _
 go_enter Tryd.func18, Tryd.ntmps18
 go_wp2_with fail
 refine (Mac_any A k c key (some ⟨w.heap.size + 1, 0, none⟩) 1 1 [.slice A' k' c'] [b] _ hkc hk (by omega) (by omega) (by have := Hbl.out; simp; omega) (d_rd hr b2) (Rd.mk_ _ _ _ (by simp) (by simp) rfl rfl) (txs_one1 Hbl.out hkc' (d_rd hr' b2)) (hT.below b2)).mono ?_
 rintro e w3 ⟨rfl, hb3⟩
 have hZ3 := hZ.below hb3 hZ.lt
 have hB3 : Below w.heap.size w w3 := c_call b2 hb3
 rw [show [b].flatten = b by simp]
 have Hl := Lib.hid (macU_len key b)
 generalize hr0 : macU key b = r at *
 have Hr0 := Lib.hid hr0
 clear hZ b2 hb3 hr0
 go_wp2_with ((with_reducible refine tsQ 23 ?_); refine wpList_store_row rfl 23 (.tmp 4) (.tmp 8) rfl w.heap.size (r.map bv).toArray rfl rfl 23 _ hZ3 (infoK32 Hl.out) (sizeK Hl.out) (one_bvA _) ?_)
 exact bodyPost_ret (results_cell_row rfl _ _ w.heap.size 23 _ (0, 0) _ rfl (hZ3.row r) Tryd.underlying23 rfl (infoK32 Hl.out)) rfl ⟨by rw [Hr0.out], below_setRow hB3 (Nat.le_refl _) _⟩
structure Turn (w : World) (base bt bk bl bi : Nat) (k info : List UInt8) (Ai : Option Addr) (ni ci i : Nat) : Prop where
 turn : w.heap[bt]? = some (.cells #[.int .u8 (i : Int)] 5 (0, 0))
 key : ArrB w bk 23 k
 last : ∃ Al nl cl, w.heap[bl]? = some (.cells #[.slice Al nl cl] 24 (0, 0)) ∧ nl ≤ cl ∧ Rd w w.heap.size Al nl ((stepU k info i).map bv) ∧ ∀ ad, Al = some ad → ad.block ≠ bt ∧ ad.block ≠ bl ∧ ad.block < w.heap.size
 info : w.heap[bi]? = some (.cells #[.slice Ai ni ci] 24 (0, 0))
 ne : bt ≠ bk ∧ bt ≠ bl ∧ bt ≠ bi ∧ bl ≠ bk ∧ bl ≠ bi
 low : base ≤ bt ∧ base ≤ bk ∧ base ≤ bl ∧ base ≤ bi
theorem block_lt {w : World} {g : Nat} {o : Obj} (h : w.heap[g]? = some o) : g < w.heap.size := (Array.getElem?_eq_some_iff.1 h).1
theorem Turn.keep {w w' : World} {base bt bk bl bi : Nat} {k info : List UInt8} {Ai : Option Addr} {ni ci i : Nat} (h : Turn w base bt bk bl bi k info Ai ni ci i) (hs : w.heap.size ≤ w'.heap.size) (hb : ∀ q, q < w.heap.size → w'.heap[q]? = w.heap[q]?) : Turn w' base bt bk bl bi k info Ai ni ci i := by
 obtain ⟨Al, nl, cl, h1, h2, h3, h4⟩ := h.last
 refine ⟨(hb _ (block_lt h.turn)).trans h.turn, h.key.of (hb _ h.key.lt), ⟨Al, nl, cl, (hb _ (block_lt h1)).trans h1, h2, ?_, fun ad e => ?_⟩, (hb _ (block_lt h.info)).trans h.info, h.ne, h.low⟩
 ·
  exact (h3.keep fun p hp => World.cell?_of_block (hb _ hp)).more hs
 ·
  obtain ⟨a, b, c⟩ := h4 ad e
  exact ⟨a, b, by omega⟩
set_option maxRecDepth 100000 in
theorem expander_any (k : List UInt8) (Ai : Option Addr) (ni ci : Nat) (info : List UInt8) (w : World) (hk : k.length = 32) :
  Calls Tryd.prog 53 #[.agg (k.map bv).toArray, .slice Ai ni ci] w fun e w' =>
   ∃ bt bk bl bi, e = .returned (.func (.func 73) #[] #[.pointer (some ⟨bt, 0, none⟩), .pointer (some ⟨bk, 0, none⟩), .pointer (some ⟨bl, 0, none⟩), .pointer (some ⟨bi, 0, none⟩)]) ∧
    Turn w' w.heap.size bt bk bl bi k info Ai ni ci 0 ∧ Below w.heap.size w w' := by
 have hmf : ∀ (fn : Fn) (first cap : Array Value) (w : World), (Instr.makeFunc fn first cap).run Tryd.prog w = .ok (.func fn first cap) w := fun _ _ _ _ => rfl
 go_enter Tryd.func53, Tryd.ntmps53
 go_wp2_with fail
 go_ret
 have e0 : ((((w.alloc (.cells (k.map bv).toArray 23)).alloc (.cells #[.slice Ai ni ci] 24)).alloc (.cells #[.slice none 0 0] 24)).alloc (.cells #[.int .u8 0] 5)).heap.size = w.heap.size + 4 := by simp
 refine ⟨_, _, _, _, rfl, ⟨heap_new (by simp) _, (((ArrB.mk_ _ _ _ _ rfl rfl).alloc _).alloc _).alloc _, ⟨none, 0, 0, ?_, Nat.le_refl _, Rd.zero _ _ _, fun ad h => by cases h⟩, ?_, by omega, by omega⟩, (((d_al _ _).alloc (by simp) _).alloc (by first | (simp; done) | (simp; omega)) _).alloc (by first | (simp; done) | (simp; omega)) _⟩
 ·
  exact (heap_alloc_old _ _ (by simp)).trans (heap_new (by simp) _)
 ·
  exact (heap_alloc_old _ _ (by first | (simp; done) | (simp; omega))).trans ((heap_alloc_old _ _ (by simp)).trans (heap_new (by simp) _))
theorem Rd.mkk {w : World} {t : TypeId} {xs : Array Value} {b n : Nat} {l : List Value} (hb : w.heap.size = b) (hn : xs.size = n) (hl : xs.toList = l) : Rd (w.alloc (.cells xs t)) (w.alloc (.cells xs t)).heap.size (some ⟨b, 0, none⟩) n l := Rd.mk_ w t xs hb (by first | (simp; done) | (simp; omega)) hn hl
theorem Rd.al {w : World} {A : Option Addr} {n : Nat} {xs : List Value} (h : Rd w w.heap.size A n xs) (o : Obj) : Rd (w.alloc o) (w.alloc o).heap.size A n xs := (h.alloc (Nat.le_refl _) o).more (al0 _ _)
theorem Rd.dr {w : World} {A : Option Addr} {n : Nat} {xs : List Value} (h : Rd w w.heap.size A n xs) : Rd w.drew w.drew.heap.size A n xs := h.drew
theorem c_cells {a w : World} (h : Below a.heap.size a w) {g : Nat} (hg : a.heap.size ≤ g) (vs : List Value) : Below a.heap.size a (w.setCells g 0 vs) := below_setCells hg vs 0 w h
theorem ctab_from {w w' : World} {base : Nat} (hT : CTab w) (hg : 0 < base) (hb : Below base w w') : CTab w' := fun i x hx => (hb.cell (p := ⟨0, i, none⟩) hg).trans (hT i x hx)
structure Fine (a W : World) (g : Nat) (r : List UInt8) : Prop where
 arr : ArrB W g 23 r
 below : Below a.heap.size a W
 low : a.heap.size ≤ g
theorem fine_old {a ws : World} {g : Nat} (hb : Below a.heap.size a ws) (hz : ArrB ws g 23 (List.replicate 32 0)) (hg : a.heap.size ≤ g) (r : List UInt8) (hr : r.length = 32) :
  ∃ W g8, Hid (ws.setCells g 0 (r.map bv) = W) ∧ Hid (g = g8) ∧ Fine a W g8 r :=
 ⟨_, _, Lib.hid rfl, Lib.hid rfl, hz.stored (by simp [hr]), c_cells hb hg _, hg⟩
theorem fine_new {a ws : World} (hb : Below a.heap.size a ws) (r : List UInt8) (hr : r.length = 32) :
  ∃ W g8, Hid ((ws.alloc (.cells #[.int .u8 0, .int .u8 0, .int .u8 0, .int .u8 0, .int .u8 0, .int .u8 0, .int .u8 0, .int .u8 0, .int .u8 0, .int .u8 0, .int .u8 0, .int .u8 0, .int .u8 0, .int .u8 0, .int .u8 0, .int .u8 0, .int .u8 0, .int .u8 0, .int .u8 0, .int .u8 0, .int .u8 0, .int .u8 0, .int .u8 0, .int .u8 0, .int .u8 0, .int .u8 0, .int .u8 0, .int .u8 0, .int .u8 0, .int .u8 0, .int .u8 0, .int .u8 0] 23)).setCells ws.heap.size 0 (r.map bv) = W) ∧ Hid (ws.heap.size = g8) ∧ Fine a W g8 r :=
 ⟨_, _, Lib.hid rfl, Lib.hid rfl, (ArrB.mk_ _ _ _ (List.replicate 32 0) rfl rfl).stored (by simp [hr]), c_cells (c_alloc hb _) hb.size _, hb.size⟩
theorem turn_end {w w1 W8 : World} {base bt bk bl bi : Nat} {k info r : List UInt8} {Ai : Option Addr} {ni ci i g8 : Nat} (h : Turn w base bt bk bl bi k info Ai ni ci i) (hbase : base ≤ w.heap.size)
  (ht1 : w1.heap[bt]? = some (.cells #[.int .u8 (((i + 1 : Nat)) : Int)] 5 (0, 0))) (hold : ∀ q, q < w.heap.size → q ≠ bt → w1.heap[q]? = w.heap[q]?) (hs2 : w.heap.size < w1.heap.size) (hb1 : Below base w w1)
  (hF : Fine w1 W8 g8 r) (hr0 : stepU k info (i + 1) = r) (hr : r.length = 32) (cs : Array Value) :
  Turn ((W8.setCell ⟨bl, 0, none⟩ (.slice (some ⟨g8, 0, none⟩) 32 32)).setRow w.heap.size cs) base bt bk bl bi k info Ai ni ci (i + 1) ∧ Below base w ((W8.setCell ⟨bl, 0, none⟩ (.slice (some ⟨g8, 0, none⟩) 32 32)).setRow w.heap.size cs) ∧
   w.heap.size ≤ ((W8.setCell ⟨bl, 0, none⟩ (.slice (some ⟨g8, 0, none⟩) 32 32)).setRow w.heap.size cs).heap.size ∧ (∀ q, q < w.heap.size → q ≠ bt → q ≠ bl → ((W8.setCell ⟨bl, 0, none⟩ (.slice (some ⟨g8, 0, none⟩) 32 32)).setRow w.heap.size cs).heap[q]? = w.heap[q]?) ∧
   ∃ g, w.heap.size ≤ g ∧ ((W8.setCell ⟨bl, 0, none⟩ (.slice (some ⟨g8, 0, none⟩) 32 32)).setRow w.heap.size cs).heap[bl]? = some (.cells #[.slice (some ⟨g, 0, none⟩) 32 32] 24 (0, 0)) := by
 obtain ⟨Al, nl, cl, hl1, hl2, hl3, hl4⟩ := h.last
 obtain ⟨n1, n2, n3, n4, n5⟩ := h.ne
 have lbl := block_lt hl1
 have lbt := block_lt h.turn
 have lbi := block_lt h.info
 have lbk := h.key.lt
 have hlow := hF.low
 have hsz : w1.heap.size ≤ W8.heap.size := hF.below.size
 have far : ∀ q, q < w1.heap.size → q ≠ bl → q ≠ w.heap.size → ((W8.setCell ⟨bl, 0, none⟩ (.slice (some ⟨g8, 0, none⟩) 32 32)).setRow w.heap.size cs).heap[q]? = w1.heap[q]? := fun q h1 h2 h3 =>
  (setRow_other _ _ _ _ h3).trans ((Below.heap_setCell _ _ _ q h2).trans (hF.below.block q h1))
 have hW : ((W8.setCell ⟨bl, 0, none⟩ (.slice (some ⟨g8, 0, none⟩) 32 32)).setRow w.heap.size cs).heap.size = W8.heap.size := by simp [World.setRow]
 have hA : ArrB ((W8.setCell ⟨bl, 0, none⟩ (.slice (some ⟨g8, 0, none⟩) 32 32)).setRow w.heap.size cs) g8 23 r := (hF.arr.far (p := ⟨bl, 0, none⟩) (show g8 ≠ bl by omega) _).rowFar (show g8 ≠ w.heap.size by omega) _
 have hLn : ((W8.setCell ⟨bl, 0, none⟩ (.slice (some ⟨g8, 0, none⟩) 32 32)).setRow w.heap.size cs).heap[bl]? = some (.cells #[.slice (some ⟨g8, 0, none⟩) 32 32] 24 (0, 0)) :=
  (setRow_other _ _ _ _ (by omega)).trans (one_setCell (v := .slice Al nl cl) ((hF.below.block bl (by omega)).trans ((hold bl lbl (fun e => n2 e.symm)).trans hl1)))
 refine ⟨⟨(far bt (by omega) n2 (by omega)).trans ht1, h.key.of ((far bk (by omega) (fun e => n4 e.symm) (by omega)).trans (hold bk lbk (fun e => n1 e.symm))), ⟨some ⟨g8, 0, none⟩, 32, 32, hLn, Nat.le_refl _, ?_, ?_⟩, (far bi (by omega) (fun e => n5 e.symm) (by omega)).trans ((hold bi lbi (fun e => n3 e.symm)).trans h.info), h.ne, h.low⟩, ?_, by omega, fun q h1 h2 h3 => (far q (by omega) h3 (by omega)).trans (hold q h1 h2), g8, by omega, hLn⟩
 ·
  rw [hr0]; exact hA.rd hr
 ·
  rintro ad e
  injection e with e
  subst e
  exact ⟨show g8 ≠ bt by omega, show g8 ≠ bl by omega, hA.lt⟩
 ·
  exact below_setRow ((hb1.trans (hF.below.mono (by omega))).setCell h.low.2.2.1 _) hbase _
set_option maxRecDepth 1000000 in
set_option maxHeartbeats 600000 in
theorem turn_any (base bt bk bl bi : Nat) (k info : List UInt8) (Ai : Option Addr) (ni ci i : Nat) (w : World) (hk : k.length = 32) (hi : i < 255) (hnc : ni ≤ ci) (hni : ni ≤ 1048576) (hinfo : Rd w base Ai ni (info.map bv)) (hbase : base ≤ w.heap.size)
  (h : Turn w base bt bk bl bi k info Ai ni ci i) (hT : CTab w) (hTb : 0 < base) :
  Calls Tryd.prog 73 #[.pointer (some ⟨bt, 0, none⟩), .pointer (some ⟨bk, 0, none⟩), .pointer (some ⟨bl, 0, none⟩), .pointer (some ⟨bi, 0, none⟩)] w fun e w' =>
   e = .returned (.agg ((stepU k info (i + 1)).map bv).toArray) ∧ Turn w' base bt bk bl bi k info Ai ni ci (i + 1) ∧ Below base w w' ∧ w.heap.size ≤ w'.heap.size ∧ (∀ q, q < w.heap.size → q ≠ bt → q ≠ bl → w'.heap[q]? = w.heap[q]?) ∧ ∃ g, w.heap.size ≤ g ∧ w'.heap[bl]? = some (.cells #[.slice (some ⟨g, 0, none⟩) 32 32] 24 (0, 0)) := by
 obtain ⟨Al, nl, cl, hl1, hl2, hl3, hl4⟩ := h.last
 have ct : ∀ o, (w.alloc o).cell? ⟨bt, 0, none⟩ = some (.int .u8 (i : Int)) := fun o => (World.cell?_alloc_lt w o _ (block_lt h.turn)).trans (cell_of_one h.turn)
 have ft : ∀ o, (w.alloc o).frozen? ⟨bt, 0, none⟩ = false := fun o => free_of_one ((heap_alloc_old w o (block_lt h.turn)).trans h.turn)
 have i0 : (0 : Int) ≤ (i : Int) := by omega
 have i1 : (i : Int) < 255 := by omega
 go_enter Tryd.func73, Tryd.ntmps73
 go_wp2_with fail
 have hs1 : ∀ u, (((w.alloc (.cells ((List.replicate 32 (0 : UInt8)).map bv).toArray 23)).setCell ⟨bt, 0, none⟩ u)).heap.size = w.heap.size + 1 := fun u => by simp
 have hq1 : ∀ u q, q < w.heap.size → q ≠ bt → (((w.alloc (.cells ((List.replicate 32 (0 : UInt8)).map bv).toArray 23)).setCell ⟨bt, 0, none⟩ u)).heap[q]? = w.heap[q]? := fun u q h1 h2 => (Below.heap_setCell _ _ u q h2).trans (heap_alloc_old _ _ h1)
 have hbtlt := block_lt h.turn
 refine wp_gen (fun w1 => (w1.heap[bt]? = some (.cells #[.int .u8 (((i + 1 : Nat)) : Int)] 5 (0, 0)) ∧ ArrB w1 w.heap.size 23 (List.replicate 32 0)) ∧ (w1.heap.size = w.heap.size + 1 ∧ Below base w w1) ∧ ∀ q, q < w.heap.size → q ≠ bt → w1.heap[q]? = w.heap[q]?) ⟨⟨?_, ?_⟩, ⟨hs1 _, (((Below.refl _ _).alloc hbase _).setCell h.low.1 _)⟩, hq1 _⟩ ?_
 ·
  exact one_setCell ((heap_alloc_old _ _ hbtlt).trans h.turn)
 ·
  exact (ArrB.mk_ _ _ _ (List.replicate 32 0) rfl rfl).far (p := ⟨bt, 0, none⟩) (show w.heap.size ≠ bt by omega) _
 rintro w1 ⟨⟨ht1, hz1⟩, ⟨hs1, hb1⟩, hq1⟩
 have hs2 : w.heap.size < w1.heap.size := by omega
 clear hs1
 have hold : ∀ q, q < w.heap.size → q ≠ bt → w1.heap[q]? = w.heap[q]? := hq1
 have hk1 : ArrB w1 bk 23 k := h.key.of (hold _ h.key.lt (fun e => h.ne.1 e.symm))
 have hl1' : w1.heap[bl]? = some (.cells #[.slice Al nl cl] 24 (0, 0)) := (hold _ (block_lt hl1) (fun e => h.ne.2.1 e.symm)).trans hl1
 have hn1 : w1.heap[bi]? = some (.cells #[.slice Ai ni ci] 24 (0, 0)) := (hold _ (block_lt h.info) (fun e => h.ne.2.2.1 e.symm)).trans h.info
 have hrl : Rd w1 w1.heap.size Al nl ((stepU k info i).map bv) := (hl3.keepAt fun ad e p hp => World.cell?_of_block (hold _ (by rw [hp]; exact (hl4 ad e).2.2) (by rw [hp]; exact (hl4 ad e).1))).more (by omega)
 have hrn : Rd w1 w1.heap.size Ai ni (info.map bv) := (hinfo.below hb1).more (by omega)
 have hTw : CTab w1 := ctab_from hT hTb hb1
 have hlen := stepU_le k info i
 have hnl : nl ≤ 32 := by have := hl3.len; simp at this; omega
 have hil : info.length = ni := by have := hinfo.len; simpa using this
 have Hlast := Lib.hid (show (stepU k info i).length = nl by have := hl3.len; simpa using this)
 have Hil := Lib.hid hil
 have Hb1 := Lib.hid (show (UInt8.ofNat (i + 1)).toNat = i + 1 by rw [UInt8.toNat_ofNat', Nat.mod_eq_of_lt (by omega)])
 have Hflat := Lib.hid (show [stepU k info i, info, [UInt8.ofNat (i + 1)]].flatten = stepU k info i ++ info ++ [UInt8.ofNat (i + 1)] by simp)
 have Hsu := Lib.hid (stepU_succ k info i)
 have HM := fun (wx : World) (gb : Nat) (gh : Nat) (hh : Rd wx wx.heap.size (some ⟨gh, 0, none⟩) 3 [.slice Al nl cl, .slice Ai ni ci, .slice (some ⟨gb, 0, none⟩) 1 1]) (hx : Rd wx wx.heap.size (some ⟨gb, 0, none⟩) 1 [.int .u8 ((i : Int) + 1)]) (hbx : Below w1.heap.size w1 wx) =>
  Mac_any (some ⟨bk, 0, none⟩) 32 32 k (some ⟨gh, 0, none⟩) 3 3 [.slice Al nl cl, .slice Ai ni ci, .slice (some ⟨gb, 0, none⟩) 1 1] [stepU k info i, info, [UInt8.ofNat (i + 1)]] wx (by omega) (by omega) (by omega) (by omega)
   (by rw [Hflat.out]; simp only [List.length_append, Hlast.out, Hil.out]; simp; omega) ((hk1.below hbx hk1.lt).rd hk) hh
   (Txs.cons (txs_one1 Hlast.out hl2 (d_rd hrl hbx)) (Txs.cons (txs_one1 Hil.out hnc (d_rd hrn hbx)) (txs_one1 rfl (Nat.le_refl _) (by
    show Rd wx wx.heap.size (some ⟨gb, 0, none⟩) 1 [.int .u8 ((UInt8.ofNat (i + 1)).toNat : Int)]
    rw [Hb1.out, Int.natCast_add, Int.natCast_one]; exact hx)))) (hTw.below hbx)
 simp only [Hflat.out, ← Hsu.out] at HM
 have Hrl := Lib.hid (stepU_len k info i)
 generalize hr0 : stepU k info (i + 1) = r at *
 have Hr0 := Lib.hid hr0
 clear hr0
 have hu2 := Tryd.underlying23
 have hi2 : (Tryd.prog.info? 23).map (·.size) = some (r.map bv).length := by rw [info32]; simp [Hrl.out]
 have hl2' : (r.map bv).length = 32 := by simp [Hrl.out]
 have h12 := one_bv r
 have hkeep : ∀ wx : World, Below w1.heap.size w1 wx → wx.cell? ⟨bl, 0, none⟩ = some (.slice Al nl cl) ∧ wx.cell? ⟨bi, 0, none⟩ = some (.slice Ai ni ci) ∧ wx.cell? ⟨bt, 0, none⟩ = some (.int .u8 ((i : Int) + 1)) :=
  fun wx hb => ⟨cell_of_one ((hb.block _ (block_lt hl1')).trans hl1'), cell_of_one ((hb.block _ (block_lt hn1)).trans hn1), cell_of_one ((hb.block _ (block_lt ht1)).trans ht1)⟩
 clear ct ft hq1
 have M0 : Calls Tryd.prog 34 #[.slice (some ⟨bk, 0, none⟩) 32 32, .slice (some ⟨w1.heap.size + 1 + 1, 0, none⟩) 3 3] (((w1.alloc (.cells #[.int .u8 0, .int .u8 0, .int .u8 0, .int .u8 0, .int .u8 0, .int .u8 0, .int .u8 0, .int .u8 0, .int .u8 0, .int .u8 0, .int .u8 0, .int .u8 0, .int .u8 0, .int .u8 0, .int .u8 0, .int .u8 0, .int .u8 0, .int .u8 0, .int .u8 0, .int .u8 0, .int .u8 0, .int .u8 0, .int .u8 0, .int .u8 0, .int .u8 0, .int .u8 0, .int .u8 0, .int .u8 0, .int .u8 0, .int .u8 0, .int .u8 0, .int .u8 0] 23)).alloc (.cells #[.int .u8 ((i : Int) + 1)] 5)).alloc (.cells #[.slice Al nl cl, .slice Ai ni ci, .slice (some ⟨w1.heap.size + 1, 0, none⟩) 1 1] 24)).drew (fun e ws => e = .returned (.agg (r.map bv).toArray) ∧ Below w1.heap.size w1 ws ∧ ArrB ws (w1.heap.size) 23 (List.replicate 32 0)) := by
  have hb : Below w1.heap.size w1 (((w1.alloc (.cells #[.int .u8 0, .int .u8 0, .int .u8 0, .int .u8 0, .int .u8 0, .int .u8 0, .int .u8 0, .int .u8 0, .int .u8 0, .int .u8 0, .int .u8 0, .int .u8 0, .int .u8 0, .int .u8 0, .int .u8 0, .int .u8 0, .int .u8 0, .int .u8 0, .int .u8 0, .int .u8 0, .int .u8 0, .int .u8 0, .int .u8 0, .int .u8 0, .int .u8 0, .int .u8 0, .int .u8 0, .int .u8 0, .int .u8 0, .int .u8 0, .int .u8 0, .int .u8 0] 23)).alloc (.cells #[.int .u8 ((i : Int) + 1)] 5)).alloc (.cells #[.slice Al nl cl, .slice Ai ni ci, .slice (some ⟨w1.heap.size + 1, 0, none⟩) 1 1] 24)).drew := c_drew (c_alloc (c_alloc (c_alloc (c_refl w1) _) _) _)
  refine (HM _ (w1.heap.size + 1) (w1.heap.size + 1 + 1) (Rd.dr (Rd.mkk (by simp) rfl rfl)) (Rd.dr (Rd.al (Rd.mkk (by simp) rfl rfl) _)) hb).mono ?_
  have hz : ArrB (((w1.alloc (.cells #[.int .u8 0, .int .u8 0, .int .u8 0, .int .u8 0, .int .u8 0, .int .u8 0, .int .u8 0, .int .u8 0, .int .u8 0, .int .u8 0, .int .u8 0, .int .u8 0, .int .u8 0, .int .u8 0, .int .u8 0, .int .u8 0, .int .u8 0, .int .u8 0, .int .u8 0, .int .u8 0, .int .u8 0, .int .u8 0, .int .u8 0, .int .u8 0, .int .u8 0, .int .u8 0, .int .u8 0, .int .u8 0, .int .u8 0, .int .u8 0, .int .u8 0, .int .u8 0] 23)).alloc (.cells #[.int .u8 ((i : Int) + 1)] 5)).alloc (.cells #[.slice Al nl cl, .slice Ai ni ci, .slice (some ⟨w1.heap.size + 1, 0, none⟩) 1 1] 24)).drew (w1.heap.size) 23 (List.replicate 32 0) := ArrB.drew (ArrB.alloc (ArrB.alloc (ArrB.mk_ _ _ _ (List.replicate 32 0) (by simp) rfl) _) _)
  rintro e ws ⟨rfl, hbs⟩
  exact ⟨rfl, c_call hb hbs, hz.below hbs hz.lt⟩
 have M1 : Calls Tryd.prog 34 #[.slice (some ⟨bk, 0, none⟩) 32 32, .slice (some ⟨w1.heap.size + 1 + 1, 0, none⟩) 3 3] (((w1.alloc (.cells #[.int .u8 ((i : Int) + 1)] 5)).alloc (.cells #[.int .u8 0, .int .u8 0, .int .u8 0, .int .u8 0, .int .u8 0, .int .u8 0, .int .u8 0, .int .u8 0, .int .u8 0, .int .u8 0, .int .u8 0, .int .u8 0, .int .u8 0, .int .u8 0, .int .u8 0, .int .u8 0, .int .u8 0, .int .u8 0, .int .u8 0, .int .u8 0, .int .u8 0, .int .u8 0, .int .u8 0, .int .u8 0, .int .u8 0, .int .u8 0, .int .u8 0, .int .u8 0, .int .u8 0, .int .u8 0, .int .u8 0, .int .u8 0] 23)).alloc (.cells #[.slice Al nl cl, .slice Ai ni ci, .slice (some ⟨w1.heap.size, 0, none⟩) 1 1] 24)).drew (fun e ws => e = .returned (.agg (r.map bv).toArray) ∧ Below w1.heap.size w1 ws ∧ ArrB ws (w1.heap.size + 1) 23 (List.replicate 32 0)) := by
  have hb : Below w1.heap.size w1 (((w1.alloc (.cells #[.int .u8 ((i : Int) + 1)] 5)).alloc (.cells #[.int .u8 0, .int .u8 0, .int .u8 0, .int .u8 0, .int .u8 0, .int .u8 0, .int .u8 0, .int .u8 0, .int .u8 0, .int .u8 0, .int .u8 0, .int .u8 0, .int .u8 0, .int .u8 0, .int .u8 0, .int .u8 0, .int .u8 0, .int .u8 0, .int .u8 0, .int .u8 0, .int .u8 0, .int .u8 0, .int .u8 0, .int .u8 0, .int .u8 0, .int .u8 0, .int .u8 0, .int .u8 0, .int .u8 0, .int .u8 0, .int .u8 0, .int .u8 0] 23)).alloc (.cells #[.slice Al nl cl, .slice Ai ni ci, .slice (some ⟨w1.heap.size, 0, none⟩) 1 1] 24)).drew := c_drew (c_alloc (c_alloc (c_alloc (c_refl w1) _) _) _)
  refine (HM _ (w1.heap.size) (w1.heap.size + 1 + 1) (Rd.dr (Rd.mkk (by simp) rfl rfl)) (Rd.dr (Rd.al (Rd.al (Rd.mkk (by simp) rfl rfl) _) _)) hb).mono ?_
  have hz : ArrB (((w1.alloc (.cells #[.int .u8 ((i : Int) + 1)] 5)).alloc (.cells #[.int .u8 0, .int .u8 0, .int .u8 0, .int .u8 0, .int .u8 0, .int .u8 0, .int .u8 0, .int .u8 0, .int .u8 0, .int .u8 0, .int .u8 0, .int .u8 0, .int .u8 0, .int .u8 0, .int .u8 0, .int .u8 0, .int .u8 0, .int .u8 0, .int .u8 0, .int .u8 0, .int .u8 0, .int .u8 0, .int .u8 0, .int .u8 0, .int .u8 0, .int .u8 0, .int .u8 0, .int .u8 0, .int .u8 0, .int .u8 0, .int .u8 0, .int .u8 0] 23)).alloc (.cells #[.slice Al nl cl, .slice Ai ni ci, .slice (some ⟨w1.heap.size, 0, none⟩) 1 1] 24)).drew (w1.heap.size + 1) 23 (List.replicate 32 0) := ArrB.drew (ArrB.alloc (ArrB.mk_ _ _ _ (List.replicate 32 0) (by simp) rfl) _)
  rintro e ws ⟨rfl, hbs⟩
  exact ⟨rfl, c_call hb hbs, hz.below hbs hz.lt⟩
 have M2 : Calls Tryd.prog 34 #[.slice (some ⟨bk, 0, none⟩) 32 32, .slice (some ⟨w1.heap.size + 1, 0, none⟩) 3 3] (((w1.alloc (.cells #[.int .u8 ((i : Int) + 1)] 5)).alloc (.cells #[.slice Al nl cl, .slice Ai ni ci, .slice (some ⟨w1.heap.size, 0, none⟩) 1 1] 24)).alloc (.cells #[.int .u8 0, .int .u8 0, .int .u8 0, .int .u8 0, .int .u8 0, .int .u8 0, .int .u8 0, .int .u8 0, .int .u8 0, .int .u8 0, .int .u8 0, .int .u8 0, .int .u8 0, .int .u8 0, .int .u8 0, .int .u8 0, .int .u8 0, .int .u8 0, .int .u8 0, .int .u8 0, .int .u8 0, .int .u8 0, .int .u8 0, .int .u8 0, .int .u8 0, .int .u8 0, .int .u8 0, .int .u8 0, .int .u8 0, .int .u8 0, .int .u8 0, .int .u8 0] 23)).drew (fun e ws => e = .returned (.agg (r.map bv).toArray) ∧ Below w1.heap.size w1 ws ∧ ArrB ws (w1.heap.size + 1 + 1) 23 (List.replicate 32 0)) := by
  have hb : Below w1.heap.size w1 (((w1.alloc (.cells #[.int .u8 ((i : Int) + 1)] 5)).alloc (.cells #[.slice Al nl cl, .slice Ai ni ci, .slice (some ⟨w1.heap.size, 0, none⟩) 1 1] 24)).alloc (.cells #[.int .u8 0, .int .u8 0, .int .u8 0, .int .u8 0, .int .u8 0, .int .u8 0, .int .u8 0, .int .u8 0, .int .u8 0, .int .u8 0, .int .u8 0, .int .u8 0, .int .u8 0, .int .u8 0, .int .u8 0, .int .u8 0, .int .u8 0, .int .u8 0, .int .u8 0, .int .u8 0, .int .u8 0, .int .u8 0, .int .u8 0, .int .u8 0, .int .u8 0, .int .u8 0, .int .u8 0, .int .u8 0, .int .u8 0, .int .u8 0, .int .u8 0, .int .u8 0] 23)).drew := c_drew (c_alloc (c_alloc (c_alloc (c_refl w1) _) _) _)
  refine (HM _ (w1.heap.size) (w1.heap.size + 1) (Rd.dr (Rd.al (Rd.mkk (by simp) rfl rfl) _)) (Rd.dr (Rd.al (Rd.al (Rd.mkk (by simp) rfl rfl) _) _)) hb).mono ?_
  have hz : ArrB (((w1.alloc (.cells #[.int .u8 ((i : Int) + 1)] 5)).alloc (.cells #[.slice Al nl cl, .slice Ai ni ci, .slice (some ⟨w1.heap.size, 0, none⟩) 1 1] 24)).alloc (.cells #[.int .u8 0, .int .u8 0, .int .u8 0, .int .u8 0, .int .u8 0, .int .u8 0, .int .u8 0, .int .u8 0, .int .u8 0, .int .u8 0, .int .u8 0, .int .u8 0, .int .u8 0, .int .u8 0, .int .u8 0, .int .u8 0, .int .u8 0, .int .u8 0, .int .u8 0, .int .u8 0, .int .u8 0, .int .u8 0, .int .u8 0, .int .u8 0, .int .u8 0, .int .u8 0, .int .u8 0, .int .u8 0, .int .u8 0, .int .u8 0, .int .u8 0, .int .u8 0] 23)).drew (w1.heap.size + 1 + 1) 23 (List.replicate 32 0) := ArrB.drew (ArrB.mk_ _ _ _ (List.replicate 32 0) (by simp) rfl)
  rintro e ws ⟨rfl, hbs⟩
  exact ⟨rfl, c_call hb hbs, hz.below hbs hz.lt⟩
 have M3 : Calls Tryd.prog 34 #[.slice (some ⟨bk, 0, none⟩) 32 32, .slice (some ⟨w1.heap.size + 1, 0, none⟩) 3 3] ((w1.alloc (.cells #[.int .u8 ((i : Int) + 1)] 5)).alloc (.cells #[.slice Al nl cl, .slice Ai ni ci, .slice (some ⟨w1.heap.size, 0, none⟩) 1 1] 24)).drew (fun e ws => e = .returned (.agg (r.map bv).toArray) ∧ Below w1.heap.size w1 ws) := by
  have hb : Below w1.heap.size w1 ((w1.alloc (.cells #[.int .u8 ((i : Int) + 1)] 5)).alloc (.cells #[.slice Al nl cl, .slice Ai ni ci, .slice (some ⟨w1.heap.size, 0, none⟩) 1 1] 24)).drew := c_drew (c_alloc (c_alloc (c_refl w1) _) _)
  refine (HM _ (w1.heap.size) (w1.heap.size + 1) (Rd.dr (Rd.mkk (by simp) rfl rfl)) (Rd.dr (Rd.al (Rd.mkk (by simp) rfl rfl) _)) hb).mono ?_
  rintro e ws ⟨rfl, hbs⟩
  exact ⟨rfl, c_call hb hbs⟩
 go_region_held3 (fun wx => wx.cell? ⟨bl, 0, none⟩ = some (.slice Al nl cl) ∧ wx.cell? ⟨bi, 0, none⟩ = some (.slice Ai ni ci) ∧ wx.cell? ⟨bt, 0, none⟩ = some (.int .u8 ((i : Int) + 1)))
  (first | (refine hkeep _ ?_; (repeat (first | exact c_refl _ | exact hB8 | refine c_drew ?_ | refine c_alloc ?_ _ | refine c_call ?_ hbs | refine c_cells ?_ (by omega) _ | refine c_cells ?_ hB8.size _)); done))
  (first
   | (go_at_call 34; (with_reducible refine M0.mono ?_); rintro e ws ⟨rfl, hB8, hz8⟩; have hth : ws.there (w1.heap.size) 0 32 := hz8.there (by simp); obtain ⟨W8, g8, HW, Hg, hF⟩ := fine_old hB8 hz8 (by omega) r Hrl.out)
   | (go_at_call 34; (with_reducible refine M1.mono ?_); rintro e ws ⟨rfl, hB8, hz8⟩; have hth : ws.there (w1.heap.size + 1) 0 32 := hz8.there (by simp); obtain ⟨W8, g8, HW, Hg, hF⟩ := fine_old hB8 hz8 (by omega) r Hrl.out)
   | (go_at_call 34; (with_reducible refine M2.mono ?_); rintro e ws ⟨rfl, hB8, hz8⟩; have hth : ws.there (w1.heap.size + 1 + 1) 0 32 := hz8.there (by simp); obtain ⟨W8, g8, HW, Hg, hF⟩ := fine_old hB8 hz8 (by omega) r Hrl.out)
   | (go_at_call 34; (with_reducible refine M3.mono ?_); rintro e ws ⟨rfl, hB8⟩; have hth : (ws.alloc (.cells #[.int .u8 0, .int .u8 0, .int .u8 0, .int .u8 0, .int .u8 0, .int .u8 0, .int .u8 0, .int .u8 0, .int .u8 0, .int .u8 0, .int .u8 0, .int .u8 0, .int .u8 0, .int .u8 0, .int .u8 0, .int .u8 0, .int .u8 0, .int .u8 0, .int .u8 0, .int .u8 0, .int .u8 0, .int .u8 0, .int .u8 0, .int .u8 0, .int .u8 0, .int .u8 0, .int .u8 0, .int .u8 0, .int .u8 0, .int .u8 0, .int .u8 0, .int .u8 0] 23)).there ws.heap.size 0 32 := ArrB.there (ArrB.mk_ _ _ _ (List.replicate 32 0) rfl rfl) (by simp); obtain ⟨W8, g8, HW, Hg, hF⟩ := fine_new hB8 r Hrl.out))
 all_goals
  rw [HW.out, Hg.out]
  have hE := turn_end h hbase ht1 hold hs2 hb1 hF Hr0.out Hrl.out (r.map bv).toArray
  have hA8 := hF.arr
  have hZ8 := hz1.below hF.below hz1.lt
  have hL8 : W8.heap[bl]? = some (.cells #[.slice Al nl cl] 24 (0, 0)) := (hF.below.block bl (block_lt hl1')).trans hl1'
  have cl8 := cell_of_one hL8
  have fl8 := free_of_one hL8
  have lbl := block_lt hl1
  have hlow := hF.low
  have hA9 : ArrB (W8.setCell ⟨bl, 0, none⟩ (.slice (some ⟨g8, 0, none⟩) 32 32)) g8 23 r := hA8.far (p := ⟨bl, 0, none⟩) (show g8 ≠ bl by omega) _
  have hZ9 : ArrB (W8.setCell ⟨bl, 0, none⟩ (.slice (some ⟨g8, 0, none⟩) 32 32)) w.heap.size 23 (List.replicate 32 0) := hZ8.far (p := ⟨bl, 0, none⟩) (show w.heap.size ≠ bl by omega) _
  clear HW Hg hF M0 M1 M2 M3 HM hkeep hold
  go_wp2_with (first
   | ((with_reducible refine tdQ 16 ?_); refine wpList_load_row rfl 23 (.tmp 5) rfl g8 rfl 23 (r.map bv).toArray (0, 0) _ hA9 Tryd.underlying23 rfl (infoK32 Hrl.out) ?_)
   | ((with_reducible refine tsQ 23 ?_); refine wpList_store_row rfl 23 (.tmp 4) (.tmp 16) rfl w.heap.size (r.map bv).toArray rfl rfl 23 _ hZ9 (infoK32 Hrl.out) (sizeK Hrl.out) (one_bvA _) ?_))
  exact bodyPost_ret (results_cell_row rfl _ _ w.heap.size 23 _ (0, 0) _ rfl (hZ9.row r) Tryd.underlying23 rfl (infoK32 Hrl.out)) rfl ⟨by rw [Hr0.out], hE.1, hE.2.1, hE.2.2.1, hE.2.2.2⟩
theorem Turn.row {w w' : World} {base bt bk bl bi : Nat} {k info : List UInt8} {Ai : Option Addr} {ni ci i : Nat} {row : Option Nat} (h : Turn w base bt bk bl bi k info Ai ni ci i) (hg : w.grownBy w' row)
  (hf : ∀ g, row = some g → g ≠ bt ∧ g ≠ bk ∧ g ≠ bl ∧ g ≠ bi ∧ ∀ ad n c, w.heap[bl]? = some (.cells #[.slice (some ad) n c] 24 (0, 0)) → ad.block ≠ g) : Turn w' base bt bk bl bi k info Ai ni ci i := by
 obtain ⟨Al, nl, cl, h1, h2, h3, h4⟩ := h.last
 have hb : ∀ q, q < w.heap.size → (∀ g, row = some g → g ≠ q) → w'.heap[q]? = w.heap[q]? := fun q hq hn => hg.block q hq (fun e => hn q e.symm rfl)
 refine ⟨(hb _ (block_lt h.turn) (fun g e => (hf g e).1)).trans h.turn, h.key.of (hb _ h.key.lt (fun g e => (hf g e).2.1)), ⟨Al, nl, cl, (hb _ (block_lt h1) (fun g e => (hf g e).2.2.1)).trans h1, h2, ?_, fun ad e => ?_⟩, (hb _ (block_lt h.info) (fun g e => (hf g e).2.2.2.1)).trans h.info, h.ne, h.low⟩
 ·
  refine (h3.keepAt fun ad e p hp => World.cell?_of_block (hb _ (by rw [hp]; exact (h4 ad e).2.2) (fun g eg => ?_))).more hg.size
  rw [hp]
  subst e
  exact fun e => (hf g eg).2.2.2.2 ad nl cl h1 e.symm
 ·
  obtain ⟨a, b, c⟩ := h4 ad e
  exact ⟨a, b, Nat.lt_of_lt_of_le c hg.size⟩
theorem Expand_long (k : List UInt8) (Ai : Option Addr) (ni ci : Nat) (n : Int) (w : World) (h0 : 0 ≤ n) (hn : n ≤ 8160) (hni : 1048576 < ni) :
  Calls Tryd.prog 36 #[.agg (k.map bv).toArray, .slice Ai ni ci, .int .i64 n] w fun e w' => e = .returned (.tuple #[.slice none 0 0, .int .i64 4]) ∧ Below w.heap.size w w' := by
 have h' : ¬ n < 0 := by omega
 go_enter Tryd.func36, Tryd.ntmps36
 go_wp2_with fail
 go_ret2
 exact ⟨rfl, d_al _ _⟩
set_option maxRecDepth 1000000 in
set_option maxHeartbeats 1000000 in
theorem Expand_ok (k : List UInt8) (Ai : Option Addr) (ni ci : Nat) (info : List UInt8) (n : Nat) (w : World) (hk : k.length = 32) (hn : n ≤ 8160) (hnc : ni ≤ ci) (hni : ni ≤ 1048576) (hr : Rd w w.heap.size Ai ni (info.map bv)) (hT : CTab w) :
  Calls Tryd.prog 36 #[.agg (k.map bv).toArray, .slice Ai ni ci, .int .i64 (n : Int)] w fun e w' =>
   ∃ A c, e = .returned (.tuple #[.slice A n c, .int .i64 0]) ∧ n ≤ c ∧ Rd w' w'.heap.size A n ((expandU k info n).map bv) ∧ Below w.heap.size w w' := by
 obtain ⟨i0, hi0, hz0, hz1, hz2⟩ := info_parts byteInfo
 have Hk := Lib.hid hk
 have hn0 : ¬ ((n : Int) < 0) := by omega
 have hTl := hT.lt
 clear hk
 go_enter Tryd.func36, Tryd.ntmps36
 go_wp2_with (first
  | ((with_reducible refine tdQ 20 ?_); refine wpList_load_row rfl 23 (.tmp 3) rfl w.heap.size rfl 23 (k.map bv).toArray (0, 0) _ (heap_alloc_new _ _) Tryd.underlying23 rfl (infoK32 Hk.out) ?_))
 refine (expander_any k Ai ni ci info _ Hk.out).mono ?_
 rintro e w2 ⟨bt, bk, bl, bi, rfl, hTu, hb2⟩
 have hB2 : Below w.heap.size w w2 := (d_al _ _).trans (hb2.mono (al0 _ _))
 have hgs : w.heap.size < (w.alloc (.cells (k.map bv).toArray 23)).heap.size := by simp
 generalize (w.alloc (.cells (k.map bv).toArray 23)).heap.size = base at *
 clear hb2
 go_wp2_with fail
 go_loopw [9] (fun v wr => ∃ (j : Nat) (A : Option Addr) (c : Nat), 32 * j < n + 32 ∧ v = .slice A (32 * j) c ∧ 32 * j ≤ c ∧ wr.ownsRow w.heap.size 5 1 v (32 * j) ((outU k info j).map bv) ∧ Turn wr base bt bk bl bi k info Ai ni ci j ∧ Below w.heap.size w wr ∧ (base ≤ wr.heap.size) ∧
   ∀ g, v.ownBlock = some g → g ≠ bt ∧ g ≠ bk ∧ g ≠ bl ∧ g ≠ bi ∧ ∀ ad n c, wr.heap[bl]? = some (.cells #[.slice (some ad) n c] 24 (0, 0)) → ad.block ≠ g) (fun v _ => n + 32 - lenOf v)
 case atStart =>
  have hlb : base ≤ w2.heap.size := Nat.le_trans hTu.low.1 (Nat.le_of_lt (block_lt hTu.turn))
  exact ⟨0, none, 0, by omega, rfl, Nat.le_refl _, World.ownsRow_nil _ _ _ _, hTu, hB2, hlb, fun g h => by cases h⟩
 case round =>
  obtain ⟨j, A, c, hj, rfl, hjc, hown, hTj, hB, hbs, hfree⟩ := hrel
  have hl : ((32 * j : Nat) : Int) = 32 * (j : Int) := by omega
  by_cases hlt : 32 * j < n
  ·
   have hj255 : j < 255 := by omega
   go_wp2_with fail
   refine (turn_any base bt bk bl bi k info Ai ni ci j _ Hk.out hj255 hnc hni ((hr.below hB).more (Nat.le_of_lt hgs)) hbs hTj (hT.below hB) (Nat.lt_trans hTl hgs)).mono ?_
   rintro e w3 ⟨rfl, hT3, hb3, hs3, hq3, g8, hg8, hl8⟩
   have hB3 : Below w.heap.size w w3 := hB.trans (hb3.mono (Nat.le_of_lt hgs))
   have hown3 : w3.ownsRow w.heap.size 5 1 (.slice A (32 * j) c) (32 * j) ((outU k info j).map bv) := own_far hown hs3 (fun g hg => hq3 g (hown.lt g hg).2 (hfree g hg).1 (hfree g hg).2.2.1)
   have Hsl := Lib.hid (stepU_len k info j)
   have Ho := Lib.hid (outU_succ k info j)
   have hfree3 : ∀ g, (Value.slice A (32 * j) c).ownBlock = some g → g ≠ bt ∧ g ≠ bk ∧ g ≠ bl ∧ g ≠ bi ∧ ∀ ad n c, w3.heap[bl]? = some (.cells #[.slice (some ad) n c] 24 (0, 0)) → ad.block ≠ g := fun g hg => by
    obtain ⟨f1, f2, f3, f4, _⟩ := hfree g hg
    refine ⟨f1, f2, f3, f4, fun ad n c e => ?_⟩
    rw [hl8] at e
    have hlt := (hown.lt g hg).2
    simp at e
    obtain ⟨rfl, _⟩ := e
    show g8 ≠ g
    omega
   clear hTj hown hfree hq3 hb3 hB
   generalize stepU k info (j + 1) = r at *
   have hA4 : ArrB (w3.alloc (.cells (r.map bv).toArray 23)) w3.heap.size 23 r := ArrB.mk_ _ _ _ _ rfl rfl
   have hB4 := c_alloc hB3 (.cells (r.map bv).toArray 23)
   have hj2 : (32 * j + 32) ≤ 8192 := by omega
   go_wp2_with (first
    | ((with_reducible refine tsQ 23 ?_); refine srQ 23 (.tmp 10) (.tmp 28) w3.heap.size (r.map bv).toArray ((List.replicate 32 (0 : UInt8)).map bv).toArray (heap_alloc_new _ _) (infoK32 Hsl.out) (sizeK Hsl.out) (one_bvA _) ?_; rw [World.setRow_alloc_new])
    | (at_builtin; refine wpList_append_rd _ rfl (.tmp 29) (.tmp 30) _ rfl w.heap.size 5 i0 _ 1 Tryd.underlying24 hi0 hz0 hz1 hz2 rfl (.slice A (32 * j) c) (32 * j) _ rfl (hown3.alloc _) _ (some ⟨w3.heap.size, 0, none⟩) 32 32 (r.map bv) rfl (hA4.rd Hsl.out) (one_bv _) (by simp only [maxLen]; omega) (by omega) hB4.size ?_; intro v5 w5 hown5 hgr5 hat5))
   obtain ⟨A5, c5, rfl, hc5, _⟩ := own_form hown5
   have hT4 : Turn (w3.alloc (.cells (r.map bv).toArray 23)) base bt bk bl bi k info Ai ni ci (j + 1) := hT3.keep (al0 _ _) (fun q hq => heap_alloc_old _ _ hq)
   have hl4 : ∀ ad n c, (w3.alloc (.cells (r.map bv).toArray 23)).heap[bl]? = some (.cells #[.slice (some ad) n c] 24 (0, 0)) → ad = ⟨g8, 0, none⟩ := fun ad n c e => by
    rw [heap_alloc_old _ _ (block_lt hl8), hl8] at e
    simp at e
    exact e.1.symm
   have hg8l : g8 < w3.heap.size := by
    obtain ⟨Al, nl, cl, h1, _, _, h4⟩ := hT3.last
    rw [hl8] at h1
    simp at h1
    exact (h4 _ h1.1.symm).2.2
   have hfree4 : ∀ g, (Value.slice A (32 * j) c).ownBlock = some g → g ≠ bt ∧ g ≠ bk ∧ g ≠ bl ∧ g ≠ bi ∧ ∀ ad n c, (w3.alloc (.cells (r.map bv).toArray 23)).heap[bl]? = some (.cells #[.slice (some ad) n c] 24 (0, 0)) → ad.block ≠ g := fun g hg => by
    obtain ⟨f1, f2, f3, f4, f5⟩ := hfree3 g hg
    exact ⟨f1, f2, f3, f4, fun ad n c e => f5 ad n c (by rwa [heap_alloc_old _ _ (block_lt hl8)] at e)⟩
   have hT5 := hT4.row hgr5 hfree4
   have hl5 : ∀ ad n c, w5.heap[bl]? = some (.cells #[.slice (some ad) n c] 24 (0, 0)) → ad = ⟨g8, 0, none⟩ := fun ad n c e => by
    rw [hgr5.block bl (Nat.lt_of_lt_of_le (block_lt hl8) (al0 _ _)) (fun e => (hfree3 _ e.symm).2.2.1 rfl)] at e
    exact hl4 ad n c e
   have hbt := block_lt hT4.turn
   have hbk := hT4.key.lt
   have hbl := block_lt hl8
   have hbi := block_lt hT4.info
   go_roundw
   case rel =>
    refine ⟨j + 1, A5, c5, by omega, rfl, hc5, ?_, hT5, hB4.grown hgr5 hB4.size (fun g hg => (hown3.lt g hg).1), Nat.le_trans hbs (Nat.le_trans hs3 (Nat.le_trans (al0 _ _) hgr5.size)), fun g hg => ?_⟩
    ·
     rw [Ho.out, List.map_append]
     exact hown5
    ·
     rcases hat5 with h | h
     ·
      rw [hg] at h
      obtain ⟨f1, f2, f3, f4, f5⟩ := hfree3 g h.symm
      refine ⟨f1, f2, f3, f4, fun ad n c e => ?_⟩
      obtain rfl := hl5 ad n c e
      exact f5 _ _ _ hl8
     ·
      rw [hg] at h
      injection h with h
      refine ⟨by omega, by omega, by rw [h]; exact Nat.ne_of_gt (Nat.lt_of_lt_of_le hbl (al0 _ _)), by omega, fun ad n c e => ?_⟩
      obtain rfl := hl5 ad n c e
      rw [h]
      exact Nat.ne_of_lt (Nat.lt_of_lt_of_le hg8l (al0 _ _))
   case measure => simp [lenOf]; omega
  ·
   have Hx := Lib.hid (expandU_of k info n j (by omega))
   go_wp2_with fail
   go_ret2
   refine ⟨A, n, rfl, Nat.le_refl _, ?_, hB⟩
   rw [← Hx.out, List.map_take]
   exact (Rd.of_own hown).take (by omega)
end Go.Proofs.YtbiijdboolpaeaaDoor
