/-
  CONTRACTS of the document's own Mac and Extract (coterieref03).
-/
import Derived.Test.YtmkkghlpdnoogaaDoorRefMacB
set_option linter.unusedVariables false
namespace Go.Proofs.YtmkkghlpdnoogaaDoor
open Go.RowKit

set_option maxRecDepth 1000000 in
set_option maxHeartbeats 1000000 in
theorem rMac_any (A : Option Addr) (k c : Nat) (key : List UInt8) (At : Option Addr) (m ct : Nat) (vs : List Value) (ts : List (List UInt8)) (w : World) (hkc : k ≤ c) (hk : k ≤ 1073741824) (hm : m ≤ 1073741823) (htot : ts.flatten.length ≤ 1073741824)
    (hr : Rd w w.heap.size A k (key.map bv)) (hv : Rd w w.heap.size At m vs) (ht : Txs w w.heap.size vs ts) (hK : KTab w) :
    Calls Tryd.prog 27 #[.slice A k c, .slice At m ct] w fun e w' => e = .returned (.agg ((macU key ts.flatten).map bv).toArray) ∧ Below w.heap.size w w' := by
  have Htot := Lib.hid htot
  clear htot
  go_enter Tryd.func27, Tryd.ntmps27
  go_wp2_with fail
  refine (padded54 A k c key _ hkc hk (d_rd hr (d_al _ _)) (hK.below (d_al _ _))).mono ?_
  rintro e w2 ⟨g2, rfl, hA2, hb2⟩
  have hz2 : ArrB w2 w.heap.size 36 (List.replicate 32 0) := (ArrB.mk_ w _ _ (List.replicate 32 0) rfl rfl).below hb2 (by simp)
  have hB2 : Below w.heap.size w w2 := c_call (d_al _ _) hb2
  clear hb2
  go_wp2_with fail
  refine (All_any At m ct vs ts w2 (by omega) (by have := Htot.out; omega) (d_rd hv hB2) (d_txs ht hB2)).mono ?_
  rintro e w3 ⟨A3, n3, c3, rfl, hn3, hown3, hb3⟩
  have hr3 := Rd.of_own hown3
  have Hl3 := Lib.hid (show ts.flatten.length = n3 by have h := hr3.len; rwa [List.length_map] at h)
  have hA3 := hA2.below hb3 hA2.lt
  have hz3 := hz2.below hb3 hz2.lt
  have hB3 : Below w.heap.size w w3 := c_call hB2 hb3
  clear hA2 hz2 hB2 hb3 hown3
  go_wp2_with fail
  have hal := d_al w3 (.cells #[.slice (some ⟨g2, 0, none⟩) 64 64, .slice A3 n3 c3] 25)
  refine (Sum_any _ 2 2 [_, _] [xorK key 54, ts.flatten] _ (by omega) (by have := Htot.out; simp only [List.flatten_cons, List.length_append, xorK_len, List.flatten_nil, List.length_nil]; omega) (Rd.mk_ _ _ _ rfl (by simp) rfl rfl) (Txs.cons (txs_one1 (xorK_len _ _) (Nat.le_refl _) (d_rd (hA3.rd (xorK_len _ _)) hal)) (txs_one1 Hl3.out hn3 (d_rd hr3 hal))) (hK.below (c_call hB3 hal))).mono ?_
  rintro e w6 ⟨rfl, hb6⟩
  have hz6 := (hz3.alloc _).below hb6 (hz3.alloc _).lt
  have hB6 : Below w.heap.size w w6 := c_call (c_call hB3 hal) hb6
  have Hi := Lib.hid (innerU_len key ts.flatten)
  have Hmac := Lib.hid (show sumU (xorK key 92 ++ innerU key ts.flatten) = macU key ts.flatten from rfl)
  rw [show sumU [xorK key 54, ts.flatten].flatten = innerU key ts.flatten by simp only [List.flatten_cons, List.flatten_nil, List.append_nil]; rfl]
  generalize innerU key ts.flatten = q at *
  clear hz3 hA3 hr3 hal hB3 hb6
  have hQ : ArrB (w6.alloc (.cells (q.map bv).toArray 36)) w6.heap.size 36 q := ArrB.mk_ _ _ _ _ rfl rfl
  have hz7 := hz6.alloc (.cells (q.map bv).toArray 36)
  have hB7 := hB6.alloc hB6.size (.cells (q.map bv).toArray 36)
  go_wp2_with ((with_reducible show wpList _ _ _ (⟨none, Op.store 36 _ _, _, _, _, _⟩ :: _) _ _); refine wpList_store_row rfl 36 (.tmp 5) (.tmp 11) rfl w6.heap.size (q.map bv).toArray rfl rfl 36 ((List.replicate 32 (0 : UInt8)).map bv).toArray (heap_alloc_new _ _) (infoK32 Hi.out) (sizeK Hi.out) (one_bvA _) ?_; rw [World.setRow_alloc_new])
  generalize w6.alloc (.cells (q.map bv).toArray 36) = w7 at *
  have Hml := Lib.hid (macU_len key ts.flatten)
  generalize hr0 : macU key ts.flatten = r at *
  have Hr0 := Lib.hid hr0
  clear hr0
  have hg6 : w.heap.size < w6.heap.size := hz6.lt
  have hkeep : ∀ wx : World, Below w7.heap.size w7 wx → wx.there w.heap.size 0 32 ∧ (SomeB wx w.heap.size 36 32 ∧ ArrB wx w6.heap.size 36 q) :=
    fun wx hb => ⟨(hz7.below hb hz7.lt).there (by simp), (hz7.below hb hz7.lt).some (by simp), hQ.below hb hQ.lt⟩
  have hstore : ∀ wx : World, Below w7.heap.size w7 wx → (fun wx : World => wx.there w.heap.size 0 32 ∧ (SomeB wx w.heap.size 36 32 ∧ ArrB wx w6.heap.size 36 q)) (wx.setCells w.heap.size 0 (r.map bv)) :=
    fun wx hb => by
      have h1 := (hz7.below hb hz7.lt).stored (l' := r) (by simp [Hml.out])
      exact ⟨h1.there Hml.out, h1.some Hml.out, (hQ.below hb hQ.lt).of (setCells_far _ _ (by omega) _ _ _)⟩
  have hu2 := Tryd.underlying36
  have hi2 : (Tryd.prog.info? 36).map (·.size) = some (r.map bv).length := by rw [info32]; simp [Hml.out]
  have hl2 : (r.map bv).length = 32 := by simp [Hml.out]
  have h12 := one_bv r
  have HPd := fun (wx : World) (hb : Below w7.heap.size w7 wx) => padded92 A k c key wx hkc hk (d_rd hr (c_call hB7 hb)) (hK.below (c_call hB7 hb))
  clear hz6 hB6
  go_region_held3 (fun wx => wx.there w.heap.size 0 32 ∧ (SomeB wx w.heap.size 36 32 ∧ ArrB wx w6.heap.size 36 q))
    (first
      | (refine hkeep _ ?_; (repeat (first | exact c_refl _ | refine c_drew ?_ | refine c_alloc ?_ _ | refine c_call ?_ hbm | refine c_call ?_ hbs)); done)
      | (refine hstore _ ?_; (repeat (first | exact c_refl _ | refine c_drew ?_ | refine c_alloc ?_ _ | refine c_call ?_ hbm | refine c_call ?_ hbs)); done))
    (first
      | (go_at_call 50; refine (HPd _ (by ((repeat (first | exact c_refl _ | refine c_drew ?_)); first | done | fail "open"))).mono ?_; rintro e wm ⟨gm, rfl, hAm, hbm⟩)
      | (go_at_call 49; refine (Sum_any _ 2 2 [_, _] [xorK key 92, q] _ (by omega) (by simp [xorK_len, Hi.out]) (Rd.mk_ _ _ _ rfl (by simp) rfl rfl) (Txs.cons (txs_one1 (xorK_len _ _) (Nat.le_refl _) (d_rd (hAm.rd (xorK_len _ _)) (d_al _ _))) (txs_one1 Hi.out (Nat.le_refl _) ((hkeep _ (by ((repeat (first | exact c_refl _ | refine c_drew ?_ | refine c_alloc ?_ _ | refine c_call ?_ hbm)); first | done | fail "open"))).2.2.rd Hi.out))) (hK.below (c_call hB7 (by ((repeat (first | exact c_refl _ | refine c_drew ?_ | refine c_alloc ?_ _ | refine c_call ?_ hbm)); first | done | fail "open"))))).mono ?_; rintro e ws ⟨rfl, hbs⟩; rw [show [xorK key 92, q].flatten = xorK key 92 ++ q by simp, Hmac.out]))
  have HB : Below w7.heap.size w7 ws := by
    repeat (first | exact c_refl _ | refine c_drew ?_ | refine c_alloc ?_ _ | refine c_call ?_ hbm | refine c_call ?_ hbs)
  have HA : ArrB (ws.setCells w.heap.size 0 (r.map bv)) w.heap.size 36 r := (hz7.below HB hz7.lt).stored (by rw [Hml.out]; rfl)
  go_wp2_with fail
  exact bodyPost_ret (results_cell_row rfl _ _ w.heap.size 36 _ (0, 0) _ rfl HA Tryd.underlying36 rfl (infoK32 Hml.out)) rfl ⟨by rw [Hr0.out], below_setCells (Nat.le_refl _) _ _ _ (c_call hB7 HB)⟩

end Go.Proofs.YtmkkghlpdnoogaaDoor
