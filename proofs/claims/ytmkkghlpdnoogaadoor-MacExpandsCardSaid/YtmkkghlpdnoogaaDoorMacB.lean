/-
  CONTRACT of mac.Mac.
-/
import Derived.Test.YtmkkghlpdnoogaaDoorMacA
import Derived.Test.YtmkkghlpdnoogaaDoorConcat
set_option linter.unusedVariables false
namespace Go.Proofs.YtmkkghlpdnoogaaDoor
open Go.RowKit

theorem marked54 (l : List UInt8) (w : World) (hl : l.length = 64) :
    Calls Tryd.prog 48 #[.agg (l.map bv).toArray, .int .u8 54] w fun e w' =>
      e = .returned (.slice (some ⟨w.heap.size, 0, none⟩) 64 64) ∧ Rd w' w'.heap.size (some ⟨w.heap.size, 0, none⟩) 64 ((l.map (· ^^^ 54)).map bv) ∧ Below w.heap.size w w' := marked_any l 54 w hl
theorem marked92 (l : List UInt8) (w : World) (hl : l.length = 64) :
    Calls Tryd.prog 48 #[.agg (l.map bv).toArray, .int .u8 92] w fun e w' =>
      e = .returned (.slice (some ⟨w.heap.size, 0, none⟩) 64 64) ∧ Rd w' w'.heap.size (some ⟨w.heap.size, 0, none⟩) 64 ((l.map (· ^^^ 92)).map bv) ∧ Below w.heap.size w w' := marked_any l 92 w hl

theorem Txs.cons {w : World} {B : Nat} {v : Value} {vs : List Value} {t : List UInt8} {ts : List (List UInt8)} (h : Txs w B [v] [t]) (h' : Txs w B vs ts) : Txs w B (v :: vs) (t :: ts) := h.append h'
theorem one_slice (A : Option Addr) (n c : Nat) : ∀ u ∈ [Value.slice A n c], u.oneCell' = true := by
  intro u hu
  obtain rfl := List.mem_singleton.1 hu
  rfl
/-- an array stored whole by its cells -/
theorem ArrB.stored {w : World} {g : Nat} {t : TypeId} {l l' : List UInt8} (h : ArrB w g t l) (hl : l'.length = l.length) : ArrB (w.setCells g 0 (l'.map bv)) g t l' := by
  have hh := setCells_heap g t (l'.map bv) (l.map bv) 0 w h (by simp [hl])
  rw [splice_bytes] at hh
  have e : splice l 0 l' = l' := by simp [splice, hl]
  rw [e] at hh
  exact hh
theorem ArrB.there {w : World} {g : Nat} {t : TypeId} {l : List UInt8} {n : Nat} (h : ArrB w g t l) (hn : l.length = n) : w.there g 0 n := fun j hj => by
  rw [Nat.zero_add]
  exact ⟨by rw [h.cell (List.getElem?_eq_getElem (show j < l.length by omega))]; rfl, h.frozen j⟩
theorem ArrB.range {w : World} {g : Nat} {t : TypeId} {l : List UInt8} (h : ArrB w g t l) : w.rangeAt g 0 (l.map bv) := fun j v hv => by
  rw [List.getElem?_map] at hv
  obtain ⟨z, hz, rfl⟩ := Option.map_eq_some_iff.1 hv
  rw [Nat.zero_add]
  exact h.cell hz

/-- block g is an array of n bytes, whichever -/
def SomeB (w : World) (g : Nat) (t : TypeId) (n : Nat) : Prop := ∃ l : List UInt8, l.length = n ∧ ArrB w g t l
theorem ArrB.some {w : World} {g : Nat} {t : TypeId} {l : List UInt8} {n : Nat} (h : ArrB w g t l) (hn : l.length = n) : SomeB w g t n := ⟨l, hn, h⟩

set_option maxRecDepth 1000000 in
set_option maxHeartbeats 1000000 in
theorem Mac_any (A : Option Addr) (k c : Nat) (key : List UInt8) (At : Option Addr) (m ct : Nat) (vs : List Value) (ts : List (List UInt8)) (w : World) (hkc : k ≤ c) (hk : k ≤ 1073741824) (hmc : m ≤ ct) (hm : m ≤ 1073741823) (htot : ts.flatten.length ≤ 1073741824)
    (hr : Rd w w.heap.size A k (key.map bv)) (hv : Rd w w.heap.size At m vs) (ht : Txs w w.heap.size vs ts) (hT : CTab w) :
    Calls Tryd.prog 26 #[.slice A k c, .slice At m ct] w fun e w' => e = .returned (.agg ((macU key ts.flatten).map bv).toArray) ∧ Below w.heap.size w w' := by
  have Htot := Lib.hid htot
  clear htot
  go_enter Tryd.func26, Tryd.ntmps26
  go_wp2_with fail
  refine (filled_any A k c key _ hkc hk (d_rd hr (d_al _ _)) (hT.below (d_al _ _))).mono ?_
  rintro e w2 ⟨rfl, hb2⟩
  have hz2 : ArrB w2 w.heap.size 36 (List.replicate 32 0) := (ArrB.mk_ w _ _ (List.replicate 32 0) rfl rfl).below hb2 (by simp)
  have hB2 : Below w.heap.size w w2 := (d_al _ _).trans (hb2.mono (al0 _ _))
  have Hp := Lib.hid (padK_len key)
  have H54 := Lib.hid (show (padK key).map (· ^^^ 54) = xorK key 54 from rfl)
  have H92 := Lib.hid (show (padK key).map (· ^^^ 92) = xorK key 92 from rfl)
  generalize padK key = p at *
  clear hb2
  have hP := ArrB.mk_ w2 67 (p.map bv).toArray p rfl rfl
  have hzP := hz2.alloc (.cells (p.map bv).toArray 67)
  have hBP := hB2.alloc hB2.size (.cells (p.map bv).toArray 67)
  go_wp2_with (first
    | ((with_reducible show wpList _ _ _ (⟨none, Op.store 67 _ _, _, _, _, _⟩ :: _) _ _); refine wpList_store_row rfl 67 (.tmp 5) (.tmp 8) rfl w2.heap.size (p.map bv).toArray rfl rfl 67 (zero64b.map bv).toArray (heap_alloc_new _ _) (infoK Hp.out) (sizeK Hp.out) (one_bvA _) ?_; rw [World.setRow_alloc_new])
    | ((with_reducible show wpList _ _ _ (⟨some 9, _, _, _, _, _⟩ :: _) _ _); refine wpList_load_row rfl 67 (.tmp 5) rfl w2.heap.size rfl 67 (p.map bv).toArray (0, 0) _ hP Tryd.underlying67 rfl (infoK Hp.out) ?_))
  refine (marked54 p _ Hp.out).mono ?_
  rintro e w3 ⟨rfl, hr3, hb3⟩
  rw [H54.out] at hr3
  have hP3 := hP.below hb3 hP.lt
  have hz3 := hzP.below hb3 hzP.lt
  have hB3 : Below w.heap.size w w3 := hBP.trans (hb3.mono hBP.size)
  have hBlt := hz2.lt
  clear hP hzP hBP hb3 hz2 hB2
  have hg3 : (w2.alloc (.cells (p.map bv).toArray 67)).heap.size = w2.heap.size + 1 := by simp
  rw [hg3] at hr3 ⊢
  have hgP : w.heap.size < w2.heap.size := hBlt
  generalize hgp : w2.heap.size = gP at *
  clear hg3 hgp
  go_wp2_with fail
  refine calls_gen (fun wx => ((Rd wx wx.heap.size (some ⟨w3.heap.size + 1, 0, none⟩) 2 [.slice (some ⟨w3.heap.size, 0, none⟩) 1 1, .slice At m ct] ∧ Rd wx wx.heap.size (some ⟨w3.heap.size, 0, none⟩) 1 [.slice (some ⟨gP + 1, 0, none⟩) 64 64] ∧ Rd wx wx.heap.size (some ⟨gP + 1, 0, none⟩) 64 ((xorK key 54).map bv)) ∧ ArrB wx gP 67 p ∧ ArrB wx w.heap.size 36 (List.replicate 32 0)) ∧ Below w.heap.size w wx) ?_ ?_
  · have b2 := (d_al w3 (.cells #[.slice (some ⟨gP + 1, 0, none⟩) 64 64] 25)).alloc (al0 _ _) (.cells #[.slice (some ⟨w3.heap.size, 0, none⟩) 1 1, .slice At m ct] 28)
    exact ⟨⟨⟨Rd.mk_ _ _ _ (by simp) (by simp) rfl rfl, ((Rd.mk_ (B := w3.heap.size + 1) _ _ _ rfl (by omega) rfl rfl).alloc (by simp) _).more (by simp), d_rd hr3 b2⟩, (hP3.alloc _).alloc _, (hz3.alloc _).alloc _⟩, (hB3.alloc hB3.size _).alloc (Nat.le_trans hB3.size (al0 _ _)) _⟩
  clear hP3 hz3 hr3 hB3
  rintro w4 ⟨⟨⟨hh4, hl4, hr4⟩, hP4, hz4⟩, hB4⟩
  refine (Concat_any _ 2 2 _ [[.slice (some ⟨gP + 1, 0, none⟩) 64 64], vs] w4 (by omega) (by simp) (by simp [hv.len]; omega) hh4 (Lists.two hl4 (Nat.le_refl _) (one_slice _ _ _) (d_rd hv hB4) hmc ht.one_cell)).mono ?_
  rintro e w5 ⟨A5, n5, c5, rfl, hn5, hown5, hb5⟩
  have hr5 := Rd.of_own hown5
  rw [show [[Value.slice (some ⟨gP + 1, 0, none⟩) 64 64], vs].flatten = .slice (some ⟨gP + 1, 0, none⟩) 64 64 :: vs by simp] at hr5
  have hx5 := d_rd hr4 hb5
  have hP5 := hP4.below hb5 hP4.lt
  have hz5 := hz4.below hb5 hz4.lt
  have hB5 : Below w.heap.size w w5 := hB4.trans (hb5.mono hB4.size)
  clear hh4 hl4 hr4 hP4 hz4 hB4 hb5 hown5
  have hn5m : n5 ≤ 1073741824 := by have := hr5.len; have h2 := hv.len; simp only [List.length_cons] at this; omega
  go_wp2_with fail
  refine (pSum_any A5 n5 c5 _ (xorK key 54 :: ts) w5 (by omega) (by have := Htot.out; have := xorK_len key 54; rw [List.flatten_cons, List.length_append]; omega) hr5 (Txs.cons (txs_one1 (xorK_len _ _) (Nat.le_refl _) hx5) (d_txs ht hB5)) (hT.below hB5)).mono ?_
  rintro e w6 ⟨rfl, hb6⟩
  have hP6 := hP5.below hb6 hP5.lt
  have hz6 := hz5.below hb6 hz5.lt
  have hB6 : Below w.heap.size w w6 := hB5.trans (hb6.mono hB5.size)
  have Hi := Lib.hid (innerU_len key ts.flatten)
  have Hmac := Lib.hid (show sumU (xorK key 92 ++ innerU key ts.flatten) = macU key ts.flatten from rfl)
  rw [show sumU (xorK key 54 :: ts).flatten = innerU key ts.flatten by rw [List.flatten_cons]; rfl]
  generalize innerU key ts.flatten = q at *
  clear hr5 hx5 hP5 hz5 hB5 hb6
  have hQ : ArrB (w6.alloc (.cells (q.map bv).toArray 36)) w6.heap.size 36 q := ArrB.mk_ _ _ _ _ rfl rfl
  have hP7 := hP6.alloc (.cells (q.map bv).toArray 36)
  have hz7 := hz6.alloc (.cells (q.map bv).toArray 36)
  have hB7 := hB6.alloc hB6.size (.cells (q.map bv).toArray 36)
  go_wp2_with ((with_reducible show wpList _ _ _ (⟨none, Op.store 36 _ _, _, _, _, _⟩ :: _) _ _); refine wpList_store_row rfl 36 (.tmp 6) (.tmp 15) rfl w6.heap.size (q.map bv).toArray rfl rfl 36 ((List.replicate 32 (0 : UInt8)).map bv).toArray (heap_alloc_new _ _) (infoK32 Hi.out) (sizeK Hi.out) (one_bvA _) ?_; rw [World.setRow_alloc_new])
  have hgq : w6.heap.size < (w6.alloc (.cells (q.map bv).toArray 36)).heap.size := hQ.lt
  generalize w6.alloc (.cells (q.map bv).toArray 36) = w7 at *
  have Hml := Lib.hid (macU_len key ts.flatten)
  generalize hr0 : macU key ts.flatten = r at *
  have Hr0 := Lib.hid hr0
  clear hr0
  have hg6 : w.heap.size < w6.heap.size := hz6.lt
  have hkeep : ∀ wx : World, Below w7.heap.size w7 wx → wx.rangeAt gP 0 (p.map bv) ∧ wx.there w.heap.size 0 32 ∧ (SomeB wx w.heap.size 36 32 ∧ ArrB wx w6.heap.size 36 q) :=
    fun wx hb => ⟨(hP7.below hb hP7.lt).range, (hz7.below hb hz7.lt).there (by simp), (hz7.below hb hz7.lt).some (by simp), hQ.below hb hQ.lt⟩
  have hstore : ∀ wx : World, Below w7.heap.size w7 wx → (fun wx : World => wx.rangeAt gP 0 (p.map bv) ∧ wx.there w.heap.size 0 32 ∧ (SomeB wx w.heap.size 36 32 ∧ ArrB wx w6.heap.size 36 q)) (wx.setCells w.heap.size 0 (r.map bv)) :=
    fun wx hb => by
      have h1 := (hz7.below hb hz7.lt).stored (l' := r) (by simp [Hml.out])
      exact ⟨ArrB.range ((hP7.below hb hP7.lt).of (setCells_far _ _ (by omega) _ _ _)), h1.there Hml.out, h1.some Hml.out, (hQ.below hb hQ.lt).of (setCells_far _ _ (by omega) _ _ _)⟩
  have hu1 := Tryd.underlying67
  have hu2 := Tryd.underlying36
  have hi1 : (Tryd.prog.info? 67).map (·.size) = some (p.map bv).length := by rw [info64b]; simp [Hp.out]
  have hi2 : (Tryd.prog.info? 36).map (·.size) = some (r.map bv).length := by rw [info32]; simp [Hml.out]
  have hl2 : (r.map bv).length = 32 := by simp [Hml.out]
  have h12 := one_bv r
  clear hP6 hz6 hB6
  go_region_held3 (fun wx => wx.rangeAt gP 0 (p.map bv) ∧ wx.there w.heap.size 0 32 ∧ (SomeB wx w.heap.size 36 32 ∧ ArrB wx w6.heap.size 36 q))
    (first
      | (refine hkeep _ ?_; (repeat (first | exact c_refl _ | refine c_drew ?_ | refine c_alloc ?_ _ | refine c_call ?_ hbm | refine c_call ?_ hbs)); done)
      | (refine hstore _ ?_; (repeat (first | exact c_refl _ | refine c_drew ?_ | refine c_alloc ?_ _ | refine c_call ?_ hbm | refine c_call ?_ hbs)); done))
    (first
      | (go_at_call 48; refine (marked92 p _ Hp.out).mono ?_; rintro e wm ⟨rfl, hrm, hbm⟩; rw [H92.out] at hrm)
      | (go_at_call 35; refine (pSum_any _ 2 2 [_, _] [xorK key 92, q] _ (by omega) (by simp [xorK_len, Hi.out]) (Rd.mk_ _ _ _ rfl (by simp) rfl rfl) (Txs.cons (txs_one1 (xorK_len _ _) (Nat.le_refl _) (d_rd hrm (d_al _ _))) (txs_one1 Hi.out (Nat.le_refl _) ((hkeep _ (by ((repeat (first | exact c_refl _ | refine c_drew ?_ | refine c_alloc ?_ _ | refine c_call ?_ hbm)); first | done | fail "open"))).2.2.2.rd Hi.out))) (hT.below (c_call hB7 (by ((repeat (first | exact c_refl _ | refine c_drew ?_ | refine c_alloc ?_ _ | refine c_call ?_ hbm)); first | done | fail "open"))))).mono ?_; rintro e ws ⟨rfl, hbs⟩; rw [show [xorK key 92, q].flatten = xorK key 92 ++ q by simp, Hmac.out]))
  have HB : Below w7.heap.size w7 ws := by
    repeat (first | exact c_refl _ | refine c_drew ?_ | refine c_alloc ?_ _ | refine c_call ?_ hbm | refine c_call ?_ hbs)
  have HA : ArrB (ws.setCells w.heap.size 0 (r.map bv)) w.heap.size 36 r := (hz7.below HB hz7.lt).stored (by rw [Hml.out]; rfl)
  go_wp2_with fail
  exact bodyPost_ret (results_cell_row rfl _ _ w.heap.size 36 _ (0, 0) _ rfl HA Tryd.underlying36 rfl (infoK32 Hml.out)) rfl ⟨by rw [Hr0.out], below_setCells (Nat.le_refl _) _ _ _ (c_call hB7 HB)⟩

end Go.Proofs.YtmkkghlpdnoogaaDoor
