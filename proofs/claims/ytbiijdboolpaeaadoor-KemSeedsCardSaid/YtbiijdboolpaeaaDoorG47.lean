import Derived.Test.YtbiijdboolpaeaaDoorG39
import Derived.Test.YtbiijdboolpaeaaDoorG31
import Derived.Test.YtbiijdboolpaeaaDoorG29
import Derived.Test.YtbiijdboolpaeaaDoorG41
import Derived.Test.YtbiijdboolpaeaaDoorG46
set_option linter.unusedVariables false
namespace Go.Proofs.YtbiijdboolpaeaaDoor
open Go.RowKit
theorem PDerive_K (k : List UInt8) (s : ByteArray) (At : Option Addr) (m ct : Nat) (vs : List Value) (ts : List (List UInt8)) (w : World) (hk : k.length = 32) (hs : s.size ≤ 70000) (hm : m ≤ 1000000) (hmc : m ≤ ct)
  (hv : Rd w w.heap.size At m vs) (ht : Txs w w.heap.size vs ts) (hT : CTab w) (hf : fitD (strB s) ts) :
  Calls Tryd.prog 19 #[.agg (keyC k), .string s, .slice At m ct] w fun e w' => e = .returned (.tuple #[.agg (keyC (deriveU k (strB s) ts)), .int .i64 0]) ∧ Below w.heap.size w w' := by
 refine (Derive_any k s At m ct vs ts w hk hs hm hmc hv ht hT).mono ?_
 rintro e w' ⟨hb, ⟨_, h⟩ | ⟨h, _⟩⟩
 ·
  exact ⟨h, hb⟩
 ·
  exact absurd hf h
theorem PExtract_K (b : List UInt8) (g : Nat) (w : World) (hb : b.length = 32) (hr : Rd w w.heap.size (some ⟨g, 0, none⟩) 32 (b.map bv)) (hT : CTab w) :
  Calls Tryd.prog 18 #[.slice none 0 0, .slice (some ⟨g, 0, none⟩) 32 32] w fun e w' => e = .returned (.agg (keyC (macU [] b))) ∧ Below w.heap.size w w' :=
 mExtract_any none 0 0 [] (some ⟨g, 0, none⟩) 32 32 b w (Nat.le_refl _) (by omega) (Nat.le_refl _) (by omega) (Rd.zero _ _ _) hr hT
theorem PBase_k : ∀ (k : List UInt8) (w : World), k.length = 32 → Calls Tryd.prog 13 #[.agg (keyC k)] w fun e w' => e = .returned (.agg (keyC (mltK k nineL))) ∧ Below w.heap.size w w' := fun k w hk => PBase_any k w hk
set_option maxRecDepth 100000 in
set_option maxHeartbeats 2000000 in
theorem PDerived_K (k : List UInt8) (s : ByteArray) (At : Option Addr) (m ct : Nat) (vs : List Value) (ts : List (List UInt8)) (w : World) (hk : k.length = 32) (hs : s.size ≤ 70000) (hm : m ≤ 1000000) (hmc : m ≤ ct)
  (hv : Rd w w.heap.size At m vs) (ht : Txs w w.heap.size vs ts) (hT : CTab w) (hf : fitD (strB s) ts) :
  Calls Tryd.prog 14 #[.agg (keyC k), .string s, .slice At m ct] w fun e w' => e = .returned (.agg (keyC (deriveU k (strB s) ts))) ∧ Below w.heap.size w w' := by
 have hM0 := ((Ms.nil w).box 23 (keyC k)).box 23 #[.int .u8 0, .int .u8 0, .int .u8 0, .int .u8 0, .int .u8 0, .int .u8 0, .int .u8 0, .int .u8 0, .int .u8 0, .int .u8 0, .int .u8 0, .int .u8 0, .int .u8 0, .int .u8 0, .int .u8 0, .int .u8 0, .int .u8 0, .int .u8 0, .int .u8 0, .int .u8 0, .int .u8 0, .int .u8 0, .int .u8 0, .int .u8 0, .int .u8 0, .int .u8 0, .int .u8 0, .int .u8 0, .int .u8 0, .int .u8 0, .int .u8 0, .int .u8 0]
 simp only [World.size_alloc] at hM0
 have Hsk := Lib.hid (sizeKey hk)
 have hd := fun wx (hb : Below w.heap.size w wx) => PDerive_K k s At m ct vs ts wx hk hs hm hmc (d_rd hv hb) (d_txs ht hb) (hT.below hb) hf
 have hdl := deriveU_len k (strB s) ts
 have Hsd := Lib.hid (sizeKey hdl)
 have Hod := Lib.hid (one_keyF (deriveU k (strB s) ts))
 have Hzd := Lib.hid (zkS (l := (deriveU k (strB s) ts)) (by rw [hdl]))
 clear hk hdl hs hm hmc hv ht hf
 generalize deriveU k (strB s) ts = d at *
 go_enter Tryd.func14, Tryd.ntmps14
 go_wp2_with ((with_reducible refine tdQ 10 ?_); refine lcQ 23 (.tmp 3) (w.heap.size) (keyC k) (hM0.get 1 rfl) Tryd.underlying23 Hsk.out ?_)
 refine (hd _ hM0.old).mono ?_
 rintro e w1 ⟨rfl, hb1⟩
 have hM1 := hM0.call hb1
 clear hM0 hb1
 have hP1 := hM1.put 23 #[.int .u8 0, .int .u8 0, .int .u8 0, .int .u8 0, .int .u8 0, .int .u8 0, .int .u8 0, .int .u8 0, .int .u8 0, .int .u8 0, .int .u8 0, .int .u8 0, .int .u8 0, .int .u8 0, .int .u8 0, .int .u8 0, .int .u8 0, .int .u8 0, .int .u8 0, .int .u8 0, .int .u8 0, .int .u8 0, .int .u8 0, .int .u8 0, .int .u8 0, .int .u8 0, .int .u8 0, .int .u8 0, .int .u8 0, .int .u8 0, .int .u8 0, .int .u8 0] (keyC d)
 go_wp2_with (first
  | ((with_reducible refine tsQ 23 ?_); refine srQ 23 (.tmp 7) (.tmp 14) (w1.heap.size) (keyC d) _ (RowC.new _ _ _) Hsd.out Hzd.out Hod.out ?_)
  | ((with_reducible refine tdQ 16 ?_); refine lcQ 23 (.tmp 7) (w1.heap.size) (keyC d) (hP1.get 0 rfl) Tryd.underlying23 Hsd.out ?_)
  | ((with_reducible refine tsQ 23 ?_); refine srQ 23 (.tmp 6) (.tmp 16) (w.heap.size + 1) (keyC d) _ (hP1.get 1 rfl) Hsd.out Hzd.out Hod.out ?_))
 exact bodyPost_ret (results_cell_one rfl _ _ (w.heap.size + 1) 23 (keyC d) _ rfl ((hP1.get 1 rfl).row _) Tryd.underlying23 rfl Hsd.out) rfl ⟨rfl, below_setRow hP1.old (by omega) _⟩
theorem PPairS (k : List UInt8) (w : World) (hk : k.length = 32) (hT : CTab w) :
  Calls Tryd.prog 14 #[.agg (keyC k), .string ⟨#[112, 97, 105, 114]⟩, .slice none 0 0] w fun e w' => e = .returned (.agg (keyC (secretU k))) ∧ Below w.heap.size w w' :=
 PDerived_K k ⟨#[112, 97, 105, 114]⟩ none 0 0 [] [] w hk (by decide) (by omega) (Nat.le_refl _) (Rd.zero _ _ _) (Txs.nil _ _) hT (fit_none (by decide))
theorem PBoxS (k : List UInt8) (w : World) (hk : k.length = 32) (hT : CTab w) :
  Calls Tryd.prog 14 #[.agg (keyC k), .string ⟨#[98, 111, 120]⟩, .slice none 0 0] w fun e w' => e = .returned (.agg (keyC (ownU k))) ∧ Below w.heap.size w w' :=
 PDerived_K k ⟨#[98, 111, 120]⟩ none 0 0 [] [] w hk (by decide) (by omega) (Nat.le_refl _) (Rd.zero _ _ _) (Txs.nil _ _) hT (fit_none (by decide))
set_option maxRecDepth 100000 in
set_option maxHeartbeats 2000000 in
theorem PPair_any : PKP := by
 intro k w hk hT
 have hM0 := (((Ms.nil w).box 23 (keyC k)).box 23 #[.int .u8 0, .int .u8 0, .int .u8 0, .int .u8 0, .int .u8 0, .int .u8 0, .int .u8 0, .int .u8 0, .int .u8 0, .int .u8 0, .int .u8 0, .int .u8 0, .int .u8 0, .int .u8 0, .int .u8 0, .int .u8 0, .int .u8 0, .int .u8 0, .int .u8 0, .int .u8 0, .int .u8 0, .int .u8 0, .int .u8 0, .int .u8 0, .int .u8 0, .int .u8 0, .int .u8 0, .int .u8 0, .int .u8 0, .int .u8 0, .int .u8 0, .int .u8 0]).box 23 #[.int .u8 0, .int .u8 0, .int .u8 0, .int .u8 0, .int .u8 0, .int .u8 0, .int .u8 0, .int .u8 0, .int .u8 0, .int .u8 0, .int .u8 0, .int .u8 0, .int .u8 0, .int .u8 0, .int .u8 0, .int .u8 0, .int .u8 0, .int .u8 0, .int .u8 0, .int .u8 0, .int .u8 0, .int .u8 0, .int .u8 0, .int .u8 0, .int .u8 0, .int .u8 0, .int .u8 0, .int .u8 0, .int .u8 0, .int .u8 0, .int .u8 0, .int .u8 0]
 simp only [World.size_alloc] at hM0
 have Hs0 := Lib.hid (sizeKey hk)
 have hsl := secretU_len k
 have Hs1 := Lib.hid (sizeKey hsl)
 have Ho1 := Lib.hid (one_keyF (secretU k))
 have Hz1 := Lib.hid (zkS (l := (secretU k)) (by rw [hsl]))
 have hpl := pointU_len k
 have Hs2 := Lib.hid (sizeKey hpl)
 have Ho2 := Lib.hid (one_keyF (pointU k))
 have Hz2 := Lib.hid (zkS (l := (pointU k)) (by rw [hpl]))
 have hd := fun wx (h : CTab wx) => PPairS k wx hk h
 have hb := fun wx => PBase_k (secretU k) wx hsl
 rw [show mltK (secretU k) nineL = pointU k from rfl] at hb
 clear hsl hpl hk
 generalize pointU k = p at *
 generalize secretU k = s at *
 go_enter Tryd.func8, Tryd.ntmps8
 go_wp2_with ((with_reducible refine tdQ 5 ?_); refine lcQ 23 (.tmp 1) (w.heap.size) (keyC k) (hM0.get 2 rfl) Tryd.underlying23 Hs0.out ?_)
 refine (hd _ (hT.below hM0.old)).mono ?_
 rintro e w1 ⟨rfl, hb1⟩
 have hM1 := hM0.call hb1
 clear hM0 hb1
 have hP1 := hM1.put 23 #[.int .u8 0, .int .u8 0, .int .u8 0, .int .u8 0, .int .u8 0, .int .u8 0, .int .u8 0, .int .u8 0, .int .u8 0, .int .u8 0, .int .u8 0, .int .u8 0, .int .u8 0, .int .u8 0, .int .u8 0, .int .u8 0, .int .u8 0, .int .u8 0, .int .u8 0, .int .u8 0, .int .u8 0, .int .u8 0, .int .u8 0, .int .u8 0, .int .u8 0, .int .u8 0, .int .u8 0, .int .u8 0, .int .u8 0, .int .u8 0, .int .u8 0, .int .u8 0] (keyC s)
 go_upto_region 2 with ((with_reducible refine tsQ 23 ?_); refine srQ 23 (.tmp 4) (.tmp 6) (w1.heap.size) (keyC s) _ (RowC.new _ _ _) Hs1.out Hz1.out Ho1.out ?_)
 try simp only [Act.put]
 refine wp_gen (fun wx => Ms w wx [(w1.heap.size, 23, (keyC s)), (w.heap.size + 1 + 1, 23, #[.int .u8 0, .int .u8 0, .int .u8 0, .int .u8 0, .int .u8 0, .int .u8 0, .int .u8 0, .int .u8 0, .int .u8 0, .int .u8 0, .int .u8 0, .int .u8 0, .int .u8 0, .int .u8 0, .int .u8 0, .int .u8 0, .int .u8 0, .int .u8 0, .int .u8 0, .int .u8 0, .int .u8 0, .int .u8 0, .int .u8 0, .int .u8 0, .int .u8 0, .int .u8 0, .int .u8 0, .int .u8 0, .int .u8 0, .int .u8 0, .int .u8 0, .int .u8 0]), (w.heap.size + 1, 23, #[.int .u8 0, .int .u8 0, .int .u8 0, .int .u8 0, .int .u8 0, .int .u8 0, .int .u8 0, .int .u8 0, .int .u8 0, .int .u8 0, .int .u8 0, .int .u8 0, .int .u8 0, .int .u8 0, .int .u8 0, .int .u8 0, .int .u8 0, .int .u8 0, .int .u8 0, .int .u8 0, .int .u8 0, .int .u8 0, .int .u8 0, .int .u8 0, .int .u8 0, .int .u8 0, .int .u8 0, .int .u8 0, .int .u8 0, .int .u8 0, .int .u8 0, .int .u8 0]), (w.heap.size, 23, (keyC k))]) hP1 ?_
 clear hP1
 rintro v1 hM
 obtain ⟨g4, hg4⟩ : ∃ g, g = w1.heap.size := ⟨_, rfl⟩
 rw [← hg4] at hM ⊢
 clear hg4
 have hun := Tryd.underlying23
 have hsz : (Tryd.prog.info? 23).map (·.size) = some (keyC s).toList.length := by simpa using Hs1.out
 have hkeep : ∀ wx : World, Below v1.heap.size v1 wx → wx.rangeAt g4 0 (keyC s).toList := fun wx hb => ((hM.get 0 rfl).call hb).range
 refine beginU (fun wx => wx.rangeAt g4 0 (keyC s).toList) [3, 4] (by kernel_rfl) ?_
 have hS := hkeep _ (c_drew (c_refl _))
 refine loadU 0 (some 7) 23 (.tmp 4) g4 0 (keyC s).toList rfl rfl (by kernel_rfl) (by kernel_rfl) (by kernel_rfl) (by kernel_rfl) (by kernel_rfl) rfl (by kernel_rfl) rfl (fun wx hSw => hSw) hun rfl hsz (fun _ _ _ h => h) hS ?_
 simp only [Act.put, sA, sZ, sS, Array.toArray_toList]
 refine loadU 1 (some 8) 23 (.tmp 4) g4 0 (keyC s).toList rfl rfl (by kernel_rfl) (by kernel_rfl) (by kernel_rfl) (by kernel_rfl) (by kernel_rfl) rfl (by kernel_rfl) rfl (fun wx hSw => hSw) hun rfl hsz (fun _ _ _ h => h) hS ?_
 simp only [Act.put, sA, sZ, sS, Array.toArray_toList]
 refine oneU 2 (by kernel_rfl) rfl (fun K hK => ?_)
 go_simp
 refine (hb _).mono ?_
 rintro e x1 ⟨rfl, hx1⟩
 refine kp hK hkeep ?_
 clear hK K
 have hE : Below v1.heap.size v1 x1 := bl
 have hM9 := hM.call hE
 refine oneU 3 (by kernel_rfl) rfl (fun K hK => ?_)
 refine step_store_row rfl 23 (.tmp 2) (.tmp 7) rfl (w.heap.size + 1) (keyC s) rfl rfl 23 _ (hM9.get 2 rfl) Hs1.out Hz1.out Ho1.out ?_
 refine hK.out _ _ (fun h => absurd (show 3 ∈ [3, 4] by decide) h) ?_
 clear hK K
 refine oneU 4 (by kernel_rfl) rfl (fun K hK => ?_)
 refine step_store_row rfl 23 (.tmp 3) (.tmp 9) rfl (w.heap.size + 1 + 1) (keyC p) rfl rfl 23 _ ((hM9.get 1 rfl).rowFar (by omega) _) Hs2.out Hz2.out Ho2.out ?_
 refine hK.out _ _ (fun h => absurd (show 4 ∈ [3, 4] by decide) h) ?_
 clear hK K
 refine done2U (by kernel_rfl) ?_ _
 go_wp2_with fail
 exact bodyPost_ret (results_cellsK rfl _ _ (w.heap.size + 1) (w.heap.size + 1 + 1) 23 (keyC s) (keyC p) _ rfl (((hM9.get 2 rfl).row _).rowFar (by omega) _) rfl (((hM9.get 1 rfl).rowFar (by omega) _).row _) Tryd.underlying23 rfl Hs1.out Hs2.out) rfl ⟨rfl, below_setRow (below_setRow hM9.old (by omega) _) (by omega) _⟩
set_option maxRecDepth 100000 in
set_option maxHeartbeats 4000000 in
theorem PShared_any : PKS := by
 intro a b m t w ha hb hm ht hT
 have hM0 := (((((Ms.nil w).box 23 (keyC a)).box 23 (keyC b)).box 23 (keyC m)).box 23 (keyC t)).box 23 #[.int .u8 0, .int .u8 0, .int .u8 0, .int .u8 0, .int .u8 0, .int .u8 0, .int .u8 0, .int .u8 0, .int .u8 0, .int .u8 0, .int .u8 0, .int .u8 0, .int .u8 0, .int .u8 0, .int .u8 0, .int .u8 0, .int .u8 0, .int .u8 0, .int .u8 0, .int .u8 0, .int .u8 0, .int .u8 0, .int .u8 0, .int .u8 0, .int .u8 0, .int .u8 0, .int .u8 0, .int .u8 0, .int .u8 0, .int .u8 0, .int .u8 0, .int .u8 0]
 simp only [World.size_alloc] at hM0
 have Hsa := Lib.hid (sizeKey ha)
 have Hsb := Lib.hid (sizeKey hb)
 have Hm := Lib.hid hm
 have Ht := Lib.hid ht
 have hml := fun wx => PMult_any a b wx ha hb
 have Hql := Lib.hid (mltK_len a b)
 have Hsq := Lib.hid (sizeKey (mltK_len a b))
 have Hoq := Lib.hid (one_keyF (mltK a b))
 have Hzq := Lib.hid (zkS (l := (mltK a b)) (by rw [mltK_len]))
 have Hpost := Lib.hid (show ∀ e w', Below w.heap.size w w' → ((mltK a b = zeroKey ∧ e = .returned (.tuple #[.agg (keyC zeroKey), .int .i64 1])) ∨ (mltK a b ≠ zeroKey ∧ e = .returned (.tuple #[.agg (keyC (twoU (mltK a b) m t)), .int .i64 0]))) → SharedPost w a b m t e w' from fun _ _ h1 h2 => ⟨h1, h2⟩)
 generalize SharedPost w a b m t = PO at *
 have hq := fun wx => eql_keyF wx (mltK a b) zeroKey (mltK_len a b) rfl
 rw [zeroC] at hq
 generalize mltK a b = q at *
 clear ha hb hm ht
 go_enter Tryd.func12, Tryd.ntmps12
 go_wp2_with (first
  | ((with_reducible refine tdQ 11 ?_); refine lcQ 23 (.tmp 4) (w.heap.size) (keyC a) (hM0.get 4 rfl) Tryd.underlying23 Hsa.out ?_)
  | ((with_reducible refine tdQ 12 ?_); refine lcQ 23 (.tmp 5) (w.heap.size + 1) (keyC b) (hM0.get 3 rfl) Tryd.underlying23 Hsb.out ?_))
 refine (hml _).mono ?_
 rintro e w1 ⟨rfl, hb1⟩
 have hM1 := hM0.call hb1
 clear hM0 hb1
 have hP1 := hM1.put 23 #[.int .u8 0, .int .u8 0, .int .u8 0, .int .u8 0, .int .u8 0, .int .u8 0, .int .u8 0, .int .u8 0, .int .u8 0, .int .u8 0, .int .u8 0, .int .u8 0, .int .u8 0, .int .u8 0, .int .u8 0, .int .u8 0, .int .u8 0, .int .u8 0, .int .u8 0, .int .u8 0, .int .u8 0, .int .u8 0, .int .u8 0, .int .u8 0, .int .u8 0, .int .u8 0, .int .u8 0, .int .u8 0, .int .u8 0, .int .u8 0, .int .u8 0, .int .u8 0] (keyC q)
 have hT1 := hT.below hP1.old
 by_cases hz : q = zeroKey
 ·
  have hz' : (q == zeroKey) = true := by rw [beq_iff_eq]; exact hz
  rw [hz'] at hq
  have Hz := Lib.hid hz
  clear hz hz'
  go_wp2_with (first
   | ((with_reducible refine tsQ 23 ?_); refine srQ 23 (.tmp 10) (.tmp 13) (w1.heap.size) (keyC q) _ (RowC.new _ _ _) Hsq.out Hzq.out Hoq.out ?_)
   | ((with_reducible refine tdQ 14 ?_); refine lcQ 23 (.tmp 10) (w1.heap.size) (keyC q) (hP1.get 0 rfl) Tryd.underlying23 Hsq.out ?_)
   | ((with_reducible refine tsQ 23 ?_); refine srQ 23 (.tmp 8) (.tmp 17) (w.heap.size + 1 + 1 + 1 + 1) #[.int .u8 0, .int .u8 0, .int .u8 0, .int .u8 0, .int .u8 0, .int .u8 0, .int .u8 0, .int .u8 0, .int .u8 0, .int .u8 0, .int .u8 0, .int .u8 0, .int .u8 0, .int .u8 0, .int .u8 0, .int .u8 0, .int .u8 0, .int .u8 0, .int .u8 0, .int .u8 0, .int .u8 0, .int .u8 0, .int .u8 0, .int .u8 0, .int .u8 0, .int .u8 0, .int .u8 0, .int .u8 0, .int .u8 0, .int .u8 0, .int .u8 0, .int .u8 0] _ (hP1.get 1 rfl) (sizeKey (l := zeroKey) rfl) rfl (one_keyF zeroKey) ?_))
  exact bodyPost_ret (results_cell_two rfl _ _ (w.heap.size + 1 + 1 + 1 + 1) 23 #[.int .u8 0, .int .u8 0, .int .u8 0, .int .u8 0, .int .u8 0, .int .u8 0, .int .u8 0, .int .u8 0, .int .u8 0, .int .u8 0, .int .u8 0, .int .u8 0, .int .u8 0, .int .u8 0, .int .u8 0, .int .u8 0, .int .u8 0, .int .u8 0, .int .u8 0, .int .u8 0, .int .u8 0, .int .u8 0, .int .u8 0, .int .u8 0, .int .u8 0, .int .u8 0, .int .u8 0, .int .u8 0, .int .u8 0, .int .u8 0, .int .u8 0, .int .u8 0] _ rfl ((hP1.get 1 rfl).row _) Tryd.underlying23 rfl infoKey) rfl (Hpost.out _ _ (below_setRow hP1.old (by omega) _) (.inl ⟨Hz.out, by rw [zeroC]; rfl⟩))
 have hz' : (q == zeroKey) = false := by rw [beq_eq_false_iff_ne]; exact hz
 rw [hz'] at hq
 have hlt1 := (hP1.get 5 rfl).lt
 go_upto_region 4 with (first
  | ((with_reducible refine tsQ 23 ?_); refine srQ 23 (.tmp 10) (.tmp 13) (w1.heap.size) (keyC q) _ (RowC.new _ _ _) Hsq.out Hzq.out Hoq.out ?_)
  | ((with_reducible refine tdQ 14 ?_); refine lcQ 23 (.tmp 10) (w1.heap.size) (keyC q) (hP1.get 0 rfl) Tryd.underlying23 Hsq.out ?_))
 try simp only [Act.put]
 refine wp_gen (fun wx => Ms w wx [(w1.heap.size, 23, (keyC q)), (w.heap.size + 1 + 1 + 1 + 1, 23, #[.int .u8 0, .int .u8 0, .int .u8 0, .int .u8 0, .int .u8 0, .int .u8 0, .int .u8 0, .int .u8 0, .int .u8 0, .int .u8 0, .int .u8 0, .int .u8 0, .int .u8 0, .int .u8 0, .int .u8 0, .int .u8 0, .int .u8 0, .int .u8 0, .int .u8 0, .int .u8 0, .int .u8 0, .int .u8 0, .int .u8 0, .int .u8 0, .int .u8 0, .int .u8 0, .int .u8 0, .int .u8 0, .int .u8 0, .int .u8 0, .int .u8 0, .int .u8 0]), (w.heap.size + 1 + 1 + 1, 23, (keyC t)), (w.heap.size + 1 + 1, 23, (keyC m)), (w.heap.size + 1, 23, (keyC b)), (w.heap.size, 23, (keyC a))]) hP1 ?_
 clear hP1 hq hlt1
 rintro v1 hM
 generalize w1.heap.size = g10 at *
 have hT1 := hT.below hM.old
 have hex := fun wx (hb : Below v1.heap.size v1 wx) => PExtract_K q g10 wx Hql.out (((hM.get 0 rfl).call hb).rdK Hql.out) (hT1.below hb)
 have hkeep : ∀ wx : World, Below v1.heap.size v1 wx → True := fun _ _ => trivial
 have Hmac := Lib.hid (show twoU q m t = deriveU (macU [] q) (strB ⟨#[107, 101, 121]⟩) [m, t] from rfl)
 have Hmal := Lib.hid (macU_len [] q)
 have Hsk := Lib.hid (sizeKey (twoU_len q m t))
 have Hok := Lib.hid (one_keyF (twoU q m t))
 have Hzk := Lib.hid (zkS (l := (twoU q m t)) (by rw [twoU_len]))
 have hder := fun wx (hb : Below v1.heap.size v1 wx) (gs : Nat) (hr : Rd wx wx.heap.size (some ⟨gs, 0, none⟩) 2 [.slice (some ⟨w.heap.size + 1 + 1, 0, none⟩) 32 32, .slice (some ⟨w.heap.size + 1 + 1 + 1, 0, none⟩) 32 32]) =>
  PDerived_K (macU [] q) ⟨#[107, 101, 121]⟩ (some ⟨gs, 0, none⟩) 2 2 _ [m, t] wx Hmal.out (by decide) (by omega) (Nat.le_refl _) hr (Txs.cons (txs_one1 Hm.out (Nat.le_refl _) (((hM.get 3 rfl).call hb).rdK Hm.out)) (txs_one1 Ht.out (Nat.le_refl _) (((hM.get 2 rfl).call hb).rdK Ht.out))) (hT1.below hb) (fit_two (by decide) Hm.out Ht.out)
 rw [← Hmac.out] at hder
 generalize twoU q m t = kk at *
 generalize macU [] q = mq at *
 refine beginT (fun _ => True) 6 (by kernel_rfl) ?_
 have hS := hkeep _ (c_drew (c_refl _))
 refine tk 0 (some 18) (.slice (some ⟨g10, 0, none⟩) 32 32) (fun _ _ _ h => h) hS ?_
 simp only [Act.put, sA, sZ, sS]
 refine tk 2 (some 20) (.slice (some ⟨w.heap.size + 1 + 1, 0, none⟩) 32 32) (fun _ _ _ h => h) hS ?_
 simp only [Act.put, sA, sZ, sS]
 refine tk 3 (some 21) (.slice (some ⟨w.heap.size + 1 + 1 + 1, 0, none⟩) 32 32) (fun _ _ _ h => h) hS ?_
 simp only [Act.put, sA, sZ, sS]
 refine rd2 1 4 (fun K hK => ?_) fun K hK => ?_
 ·
  go_simp
  refine (hex _ bl).mono ?_
  rintro e x1 ⟨rfl, hx1⟩
  refine hK.out _ _ (fun _ => trivial) ?_
  clear hK K
  refine on1 4 fun K hK => ?_
  go_simp
  refine hK.out _ _ (fun _ => trivial) ?_
  clear hK K
  have hrs : Rd (x1.alloc (.cells #[.slice (some ⟨w.heap.size + 1 + 1, 0, none⟩) 32 32, .slice (some ⟨w.heap.size + 1 + 1 + 1, 0, none⟩) 32 32] 24)) (x1.alloc (.cells #[.slice (some ⟨w.heap.size + 1 + 1, 0, none⟩) 32 32, .slice (some ⟨w.heap.size + 1 + 1 + 1, 0, none⟩) 32 32] 24)).heap.size (some ⟨x1.heap.size, 0, none⟩) 2 [.slice (some ⟨w.heap.size + 1 + 1, 0, none⟩) 32 32, .slice (some ⟨w.heap.size + 1 + 1 + 1, 0, none⟩) 32 32] := Rd.mk_ _ _ _ rfl (by simp) rfl rfl
  refine on1 5 fun K hK => ?_
  go_simp
  refine (hder _ bl _ hrs).mono ?_
  rintro e x2 ⟨rfl, hx2⟩
  refine hK.out _ _ (fun _ => trivial) ?_
  clear hK K
  have hE : Below v1.heap.size v1 x2 := bl
  have hM9 := hM.call hE
  refine on1 6 fun K hK => ?_
  refine step_store_row rfl 23 (.tmp 8) (.tmp 23) rfl (w.heap.size + 1 + 1 + 1 + 1) (keyC kk) rfl rfl 23 _ (hM9.get 1 rfl) Hsk.out Hzk.out Hok.out ?_
  refine hK.out _ _ (fun h => absurd rfl h) ?_
  clear hK K
  refine on1 7 fun K hK => ?_
  go_simp
  refine hK.out _ _ (fun _ => trivial) ?_
  clear hK K
  refine doneT (by kernel_rfl) ?_ _
  go_wp2_with fail
  exact bodyPost_ret (results_cell_two rfl _ _ (w.heap.size + 1 + 1 + 1 + 1) 23 (keyC kk) _ rfl ((hM9.get 1 rfl).row _) Tryd.underlying23 rfl Hsk.out) rfl (Hpost.out _ _ (below_setRow hM9.old (by omega) _) (.inr ⟨hz, rfl⟩))
 ·
  go_simp
  refine hK.out _ _ (fun _ => trivial) ?_
  clear hK K
  refine on1 1 fun K hK => ?_
  go_simp
  refine (hex _ bl).mono ?_
  rintro e x1 ⟨rfl, hx1⟩
  refine hK.out _ _ (fun _ => trivial) ?_
  clear hK K
  have hrs : Rd x1 x1.heap.size (some ⟨v1.drew.heap.size, 0, none⟩) 2 [.slice (some ⟨w.heap.size + 1 + 1, 0, none⟩) 32 32, .slice (some ⟨w.heap.size + 1 + 1 + 1, 0, none⟩) 32 32] := d_rd (Rd.mk_ (v1.drew) _ #[.slice (some ⟨w.heap.size + 1 + 1, 0, none⟩) 32 32, .slice (some ⟨w.heap.size + 1 + 1 + 1, 0, none⟩) 32 32] rfl (by simp) rfl rfl) hx1
  refine on1 5 fun K hK => ?_
  go_simp
  refine (hder _ bl _ hrs).mono ?_
  rintro e x2 ⟨rfl, hx2⟩
  refine hK.out _ _ (fun _ => trivial) ?_
  clear hK K
  have hE : Below v1.heap.size v1 x2 := bl
  have hM9 := hM.call hE
  refine on1 6 fun K hK => ?_
  refine step_store_row rfl 23 (.tmp 8) (.tmp 23) rfl (w.heap.size + 1 + 1 + 1 + 1) (keyC kk) rfl rfl 23 _ (hM9.get 1 rfl) Hsk.out Hzk.out Hok.out ?_
  refine hK.out _ _ (fun h => absurd rfl h) ?_
  clear hK K
  refine on1 7 fun K hK => ?_
  go_simp
  refine hK.out _ _ (fun _ => trivial) ?_
  clear hK K
  refine doneT (by kernel_rfl) ?_ _
  go_wp2_with fail
  exact bodyPost_ret (results_cell_two rfl _ _ (w.heap.size + 1 + 1 + 1 + 1) 23 (keyC kk) _ rfl ((hM9.get 1 rfl).row _) Tryd.underlying23 rfl Hsk.out) rfl (Hpost.out _ _ (below_setRow hM9.old (by omega) _) (.inr ⟨hz, rfl⟩))
set_option maxRecDepth 100000 in
set_option maxHeartbeats 4000000 in
theorem PBox_any : PKB := by
 intro p sd b A m c At mt ct vs ts w hp hs hmc hcm hr hmct hctm hmt hf hv ht hT
 have hM0 := ((Ms.nil w).box 23 (keyC p)).box 23 (keyC sd)
 simp only [World.size_alloc] at hM0
 have Hsp := Lib.hid (sizeKey hp)
 have Hss := Lib.hid (sizeKey hs)
 have hol := ownU_len sd
 have hbs := fun wx (h : CTab wx) => PBoxS sd wx hs h
 have hpr := fun wx (h : CTab wx) => PPair_any (ownU sd) wx hol h
 have hsl := secretU_len (ownU sd)
 have hnl := pointU_len (ownU sd)
 have Hsc := Lib.hid (sizeKey hsl)
 have Hoc := Lib.hid (one_keyF (secretU (ownU sd)))
 have Hzc := Lib.hid (zkS (l := (secretU (ownU sd))) (by rw [hsl]))
 have Hsn := Lib.hid (sizeKey hnl)
 have Hon := Lib.hid (one_keyF (pointU (ownU sd)))
 have Hzn := Lib.hid (zkS (l := (pointU (ownU sd))) (by rw [hnl]))
 have Hnl := Lib.hid hnl
 have hsh := fun wx (h : CTab wx) => PShared_any (secretU (ownU sd)) p (pointU (ownU sd)) p wx hsl hp hnl hp h
 have Hbb := Lib.hid (show boxBoth p sd = mltK (secretU (ownU sd)) p from rfl)
 have Hbk := Lib.hid (show boxKey p sd = twoU (mltK (secretU (ownU sd)) p) (pointU (ownU sd)) p from rfl)
 have Hbu := Lib.hid (show kboxU p sd b ts = pointU (ownU sd) ++ sealU (boxKey p sd) b ts from rfl)
 have Hkl := Lib.hid (show (boxKey p sd).length = 32 from twoU_len _ _ _)
 have Hsk := Lib.hid (sizeKey (show (boxKey p sd).length = 32 from twoU_len _ _ _))
 have Hok := Lib.hid (one_keyF (boxKey p sd))
 have Hzk := Lib.hid (zkS (l := (boxKey p sd)) (by rw [show (boxKey p sd).length = 32 from twoU_len _ _ _]))
 have Hbl := Lib.hid (show b.length = m by simpa using hr.len)
 obtain ⟨i0, hi0, hz0, hz1, hz2⟩ := info_parts byteInfo
 have Hpost := Lib.hid (show ∀ e w', Below w.heap.size w w' → ((boxBoth p sd = zeroKey ∧ e = .returned (.tuple #[.slice none 0 0, .int .i64 1])) ∨
  (boxBoth p sd ≠ zeroKey ∧ ¬ (b.length ≤ 1048576 ∧ GoodT ts) ∧ e = .returned (.tuple #[.slice none 0 0, .int .i64 4])) ∨
  (boxBoth p sd ≠ zeroKey ∧ b.length ≤ 1048576 ∧ GoodT ts ∧ ∃ A n c, e = .returned (.tuple #[.slice A n c, .int .i64 0]) ∧ NewB w w' A n c (kboxU p sd b ts))) → BoxPost w p sd b ts e w' from fun _ _ h1 h2 => ⟨h1, h2⟩)
 generalize BoxPost w p sd b ts = PO at *
 clear hp hs hol hsl hnl
 generalize kboxU p sd b ts = bu at *
 generalize pointU (ownU sd) = mine at *
 generalize secretU (ownU sd) = sec at *
 generalize ownU sd = own at *
 go_enter Tryd.func9, Tryd.ntmps9
 go_wp2_with ((with_reducible refine tdQ 16 ?_); refine lcQ 23 (.tmp 5) (w.heap.size + 1) (keyC sd) (hM0.get 0 rfl) Tryd.underlying23 Hss.out ?_)
 refine (hbs _ (hT.below hM0.old)).mono ?_
 rintro e w1 ⟨rfl, hb1⟩
 have hM1 := hM0.call hb1
 clear hM0 hb1
 have hT1 := hT.below hM1.old
 go_wp2_with fail
 refine (hpr _ hT1).mono ?_
 rintro e w2 ⟨rfl, hb2⟩
 have hM2 := hM1.call hb2
 clear hM1 hb2
 have hB2 := (hM2.box 23 #[.int .u8 0, .int .u8 0, .int .u8 0, .int .u8 0, .int .u8 0, .int .u8 0, .int .u8 0, .int .u8 0, .int .u8 0, .int .u8 0, .int .u8 0, .int .u8 0, .int .u8 0, .int .u8 0, .int .u8 0, .int .u8 0, .int .u8 0, .int .u8 0, .int .u8 0, .int .u8 0, .int .u8 0, .int .u8 0, .int .u8 0, .int .u8 0, .int .u8 0, .int .u8 0, .int .u8 0, .int .u8 0, .int .u8 0, .int .u8 0, .int .u8 0, .int .u8 0]).box 23 #[.int .u8 0, .int .u8 0, .int .u8 0, .int .u8 0, .int .u8 0, .int .u8 0, .int .u8 0, .int .u8 0, .int .u8 0, .int .u8 0, .int .u8 0, .int .u8 0, .int .u8 0, .int .u8 0, .int .u8 0, .int .u8 0, .int .u8 0, .int .u8 0, .int .u8 0, .int .u8 0, .int .u8 0, .int .u8 0, .int .u8 0, .int .u8 0, .int .u8 0, .int .u8 0, .int .u8 0, .int .u8 0, .int .u8 0, .int .u8 0, .int .u8 0, .int .u8 0]
 have hg1 := hM2.old.size
 have hn1 := fun p hp => Nat.ne_of_lt ((hM2.rows p hp).lt)
 have hn2 := fun p hp => Nat.ne_of_lt (((hM2.box 23 #[.int .u8 0, .int .u8 0, .int .u8 0, .int .u8 0, .int .u8 0, .int .u8 0, .int .u8 0, .int .u8 0, .int .u8 0, .int .u8 0, .int .u8 0, .int .u8 0, .int .u8 0, .int .u8 0, .int .u8 0, .int .u8 0, .int .u8 0, .int .u8 0, .int .u8 0, .int .u8 0, .int .u8 0, .int .u8 0, .int .u8 0, .int .u8 0, .int .u8 0, .int .u8 0, .int .u8 0, .int .u8 0, .int .u8 0, .int .u8 0, .int .u8 0, .int .u8 0]).rows p hp).lt)
 simp only [World.size_alloc] at hB2 hn2
 have hM3 := Ms.set2 (ds := (keyC sec)) (ds' := (keyC mine)) hB2.swap hg1 (by omega) (by omega) hn1 (fun p hp => hn2 p (List.mem_cons_of_mem _ hp))
 have hT3 := hT.below hM3.old
 clear hM2 hn1 hn2
 go_wp2_with (first
  | ((with_reducible refine tsQ 23 ?_); refine srQ 23 (.tmp 10) (.tmp 19) (w2.heap.size) (keyC sec) _ (hB2.get 1 rfl) Hsc.out Hzc.out Hoc.out ?_)
  | ((with_reducible refine tsQ 23 ?_); refine srQ 23 (.tmp 11) (.tmp 20) (w2.heap.size + 1) (keyC mine) _ ((hB2.get 0 rfl).rowFar (by omega) _) Hsn.out Hzn.out Hon.out ?_)
  | ((with_reducible refine tdQ 22 ?_); refine lcQ 23 (.tmp 10) (w2.heap.size) (keyC sec) (hM3.get 0 rfl) Tryd.underlying23 Hsc.out ?_)
  | ((with_reducible refine tdQ 23 ?_); refine lcQ 23 (.tmp 4) (w.heap.size) (keyC p) (hM3.get 3 rfl) Tryd.underlying23 Hsp.out ?_)
  | ((with_reducible refine tdQ 24 ?_); refine lcQ 23 (.tmp 11) (w2.heap.size + 1) (keyC mine) (hM3.get 1 rfl) Tryd.underlying23 Hsn.out ?_)
  | ((with_reducible refine tdQ 25 ?_); refine lcQ 23 (.tmp 4) (w.heap.size) (keyC p) (hM3.get 3 rfl) Tryd.underlying23 Hsp.out ?_))
 refine (hsh _ hT3).mono ?_
 intro e w4 hP
 by_cases hz : mltK sec p = zeroKey
 ·
  obtain ⟨rfl, hb4⟩ := hP.no hz
  have hM4 := (hM3.call hb4).put 23 #[.int .u8 0, .int .u8 0, .int .u8 0, .int .u8 0, .int .u8 0, .int .u8 0, .int .u8 0, .int .u8 0, .int .u8 0, .int .u8 0, .int .u8 0, .int .u8 0, .int .u8 0, .int .u8 0, .int .u8 0, .int .u8 0, .int .u8 0, .int .u8 0, .int .u8 0, .int .u8 0, .int .u8 0, .int .u8 0, .int .u8 0, .int .u8 0, .int .u8 0, .int .u8 0, .int .u8 0, .int .u8 0, .int .u8 0, .int .u8 0, .int .u8 0, .int .u8 0] (keyC zeroKey)
  clear hP hM3 hb4
  go_wp2_with ((with_reducible refine tsQ 23 ?_); refine srQ 23 (.tmp 12) (.tmp 27) (w4.heap.size) (keyC zeroKey) _ (RowC.new _ _ _) (sizeKey rfl) rfl (one_keyF _) ?_)
  (first | refine Hpost.out _ _ ?_ ?_ | refine bodyPost_ret (results_tmp2 rfl _ _ _) rfl (Hpost.out _ _ ?_ ?_))
  ·
   exact hM4.old
  ·
   exact (.inl ⟨by rw [Hbb.out]; exact hz, rfl⟩)
 obtain ⟨rfl, hb4⟩ := hP.yes hz
 rw [← Hbk.out]
 have hz2' : boxBoth p sd ≠ zeroKey := by rw [Hbb.out]; exact hz
 have hM4 := (hM3.call hb4).put 23 #[.int .u8 0, .int .u8 0, .int .u8 0, .int .u8 0, .int .u8 0, .int .u8 0, .int .u8 0, .int .u8 0, .int .u8 0, .int .u8 0, .int .u8 0, .int .u8 0, .int .u8 0, .int .u8 0, .int .u8 0, .int .u8 0, .int .u8 0, .int .u8 0, .int .u8 0, .int .u8 0, .int .u8 0, .int .u8 0, .int .u8 0, .int .u8 0, .int .u8 0, .int .u8 0, .int .u8 0, .int .u8 0, .int .u8 0, .int .u8 0, .int .u8 0, .int .u8 0] (keyC (boxKey p sd))
 clear hP hM3 hb4 Hbk Hbb hsh hpr hbs
 generalize boxKey p sd = kk at *
 go_wp2_with (first
  | ((with_reducible refine tsQ 23 ?_); refine srQ 23 (.tmp 12) (.tmp 27) (w4.heap.size) (keyC kk) _ (RowC.new _ _ _) Hsk.out Hzk.out Hok.out ?_)
  | ((with_reducible refine tdQ 33 ?_); refine lcQ 23 (.tmp 12) (w4.heap.size) (keyC kk) (hM4.get 0 rfl) Tryd.underlying23 Hsk.out ?_))
 have hB4 := hM4.old
 have hse := PSeal_any kk b A m c At mt ct vs ts _ Hkl.out hmc hcm (hr.below hB4 |>.more hB4.size) hmct hctm hmt hf (hv.below hB4 |>.more hB4.size) ((ht.below hB4).more hB4.size) (hT.below hB4)
 rw [show (kk.map bv).toArray = keyC kk from rfl] at hse
 refine hse.mono ?_
 intro e w5 hP
 by_cases hg : b.length ≤ 1048576 ∧ GoodT ts
 rotate_left
 ·
  obtain ⟨rfl, hb5⟩ := hP.no hg
  have hM5 := hM4.call hb5
  clear hP hM4 hse hb5
  go_wp2_with fail
  (first | refine Hpost.out _ _ ?_ ?_ | refine bodyPost_ret (results_tmp2 rfl _ _ _) rfl (Hpost.out _ _ ?_ ?_))
  ·
   exact hM5.old
  ·
   exact (.inr (.inl ⟨hz2', hg, rfl⟩))
 obtain ⟨A5, c5, rfl, hn5, hb5⟩ := hP.yes hg.1 hg.2
 have hM5 := hM4.call hb5
 have hmr := (hM5.get 2 rfl).rdK Hnl.out
 have hb16 : b.length + 16 ≤ 1048592 := by omega
 clear hP hM4 hse hb5
 go_wp2_with (at_builtin; refine wpList_append_full rfl (.tmp 42) (.tmp 43) _ rfl 5 i0 _ 1 Tryd.underlying24 hi0 hz0 hz1 hz2 rfl _ _ 32 32 (mine.map bv) rfl hmr _ A5 (b.length + 16) c5 _ rfl hn5.1 (by omega) (by omega) (by omega) (by simp only [maxLen]; omega) (by omega) ?_; intro g7 c7 w7 hown7 hb7)
 rw [← List.map_append, ← Hbu.out] at hown7
 (first | refine Hpost.out _ _ ?_ ?_ | refine bodyPost_ret (results_tmp2 rfl _ _ _) rfl (Hpost.out _ _ ?_ ?_))
 ·
  exact (hM5.old.trans (hb7.mono hM5.old.size))
 ·
  exact (.inr (.inr ⟨hz2', hg.1, hg.2, _, _, _, rfl, NewB.of_own hown7 hM5.old.size⟩))
set_option maxRecDepth 100000 in
set_option maxHeartbeats 4000000 in
theorem PUnbox_any : PKU := by
 intro s b A m c At mt ct vs ts w hs hmc hcm hr hmct hctm hmt hf hv ht hT
 have hM0 := (Ms.nil w).box 23 (keyC s)
 have Hss := Lib.hid (sizeKey hs)
 have Hsl := Lib.hid hs
 have Hbl := Lib.hid (show b.length = m by simpa using hr.len)
 have Hpost := Lib.hid (show ∀ e w', Below w.heap.size w w' → ((b.length < 32 ∧ e = .returned (.tuple #[.slice none 0 0, .int .i64 2])) ∨
  (32 ≤ b.length ∧ unBoth s b = zeroKey ∧ e = .returned (.tuple #[.slice none 0 0, .int .i64 1])) ∨
  (32 ≤ b.length ∧ unBoth s b ≠ zeroKey ∧ OpenPost w (unKey s b) (b.drop 32) ts e w')) → UnboxPost w s b ts e w' from fun _ _ h1 h2 => ⟨h1, h2⟩)
 generalize UnboxPost w s b ts = PO at *
 clear hs
 rw [maxLen] at hcm
 go_enter Tryd.func10, Tryd.ntmps10
 by_cases h32 : m < 32
 ·
  have h32' : (m : Int) < 32 := by omega
  go_wp2_with fail
  (first | refine Hpost.out _ _ ?_ ?_ | refine bodyPost_ret (results_tmp2 rfl _ _ _) rfl (Hpost.out _ _ ?_ ?_))
  ·
   exact hM0.old
  ·
   exact (.inl ⟨by rw [Hbl.out]; exact h32, rfl⟩)
 have h32' : ¬ (m : Int) < 32 := by omega
 have H32 := Lib.hid (show 32 ≤ m by omega)
 have hol : (b.take 32).length = 32 := by rw [List.length_take, Hbl.out]; omega
 have Hso := Lib.hid (sizeKey hol)
 have Hoo := Lib.hid (one_keyF (b.take 32))
 have Hzo := Lib.hid (zkS (l := (b.take 32)) (by rw [hol]))
 have hbase := fun wx => PBase_k s wx Hsl.out
 obtain ⟨x, er, hxl, hrel, hsh⟩ : ∃ (x : List UInt8) (er : Int), x.length = 32 ∧ ((unBoth s b = zeroKey ∧ er = 1) ∨ (unBoth s b ≠ zeroKey ∧ er = 0 ∧ x = unKey s b)) ∧
   ∀ wx, CTab wx → Calls Tryd.prog 12 #[.agg (keyC s), .agg (keyC (b.take 32)), .agg (keyC (b.take 32)), .agg (keyC (mltK s nineL))] wx fun e w' => e = .returned (.tuple #[.agg (keyC x), .int .i64 er]) ∧ Below wx.heap.size wx w' := by
  by_cases hz : unBoth s b = zeroKey
  ·
   exact ⟨zeroKey, 1, rfl, .inl ⟨hz, rfl⟩, fun wx hk => (PShared_any s (b.take 32) (b.take 32) (mltK s nineL) wx Hsl.out hol hol (mltK_len _ _) hk).mono fun e w' h => h.no hz⟩
  ·
   exact ⟨unKey s b, 0, twoU_len _ _ _, .inr ⟨hz, rfl, rfl⟩, fun wx hk => (PShared_any s (b.take 32) (b.take 32) (mltK s nineL) wx Hsl.out hol hol (mltK_len _ _) hk).mono fun e w' h => h.yes hz⟩
 have Hsx := Lib.hid (sizeKey hxl)
 have Hox := Lib.hid (one_keyF x)
 have Hzx := Lib.hid (zkS (l := x) (by rw [hxl]))
 have Hxl := Lib.hid hxl
 have Hrel := Lib.hid hrel
 have hr0 := hr
 obtain ⟨ba, ob, hA, hba, hcell⟩ := hr.pos (by omega)
 have hkA : ∀ wx : World, Below w.heap.size w wx → wx.rangeAt ba ob (keyC (b.take 32)).toList := fun wx hb => by
  obtain ⟨b', o', he, _, hcz⟩ := (d_rd hr0 hb).pos (by omega)
  rw [hA] at he
  injection he with he
  injection he with he1 he2
  subst he1 he2
  intro j u hu
  have hu' : ((b.map bv).take 32)[j]? = some u := by simpa [keyC] using hu
  rw [List.getElem?_take] at hu'
  split at hu'
  ·
   exact hcz j u hu'
  ·
   cases hu'
 clear hcell hol hxl hrel hr
 generalize b.take 32 = o at *
 generalize mltK s nineL = pt at *
 have hS8 := hkA _ hM0.old
 have hm32 : (32 : Int) ≤ (m : Int) := by omega
 have hc32 : (32 : Int) ≤ (c : Int) := by omega
 have hat : ∀ (wx : World) (n' c' : Nat), 32 ≤ n' → (Instr.arrayAt 23 (.slice (some ⟨ba, ob, none⟩) n' c')).run Tryd.prog wx = .ok (.pointer (some ⟨ba, ob, none⟩)) wx := fun wx n' c' h => run_arrayAt (P := Tryd.prog) (w := wx) 23 5 32 (some ⟨ba, ob, none⟩) n' c' Tryd.underlying23 h
 have hat1 := fun wx => hat wx 32 c (Nat.le_refl _)
 clear hat
 subst hA
 have hun := Tryd.underlying23
 have hso : (Tryd.prog.info? 23).map (·.size) = some (keyC o).toList.length := by simpa using Hso.out
 have hP1 := hM0.put 23 #[.int .u8 0, .int .u8 0, .int .u8 0, .int .u8 0, .int .u8 0, .int .u8 0, .int .u8 0, .int .u8 0, .int .u8 0, .int .u8 0, .int .u8 0, .int .u8 0, .int .u8 0, .int .u8 0, .int .u8 0, .int .u8 0, .int .u8 0, .int .u8 0, .int .u8 0, .int .u8 0, .int .u8 0, .int .u8 0, .int .u8 0, .int .u8 0, .int .u8 0, .int .u8 0, .int .u8 0, .int .u8 0, .int .u8 0, .int .u8 0, .int .u8 0, .int .u8 0] (keyC o)
 simp only [World.size_alloc] at hP1
 go_upto_region 4 with (first
  | ((with_reducible refine tdQ 17 ?_); refine wpList_load_midG (by kernel_rfl) 23 (.tmp 16) rfl ba ob rfl (keyC o).toList _ hS8 hun rfl hso ?_; simp only [Array.toArray_toList])
  | ((with_reducible refine tsQ 23 ?_); refine srQ 23 (.tmp 8) (.tmp 17) (w.heap.size + 1) (keyC o) _ (RowC.mk_ _ _ _ (by simp)) Hso.out Hzo.out Hoo.out ?_))
 try simp only [Act.put]
 refine wp_gen (fun wx => Ms w wx [(w.heap.size + 1, 23, keyC o), (w.heap.size, 23, keyC s)]) hP1 ?_
 clear hP1 hM0 hS8 hkA hat1
 rintro v1 hM
 generalize w.heap.size + 1 = g8 at *
 have hT1 := hT.below hM.old
 go_cut [9, 10] (fun p q wx => ∃ g : Nat, p = .pointer (some ⟨g, 0, none⟩) ∧ q = .int .i64 er ∧ Ms w wx [(g, 23, keyC x), (g8, 23, keyC o), (w.heap.size, 23, keyC s)])
 case first =>
  have hkeep : ∀ wx : World, Below v1.heap.size v1 wx → wx.rangeAt g8 0 (keyC o).toList ∧ wx.rangeAt w.heap.size 0 (keyC s).toList := fun wx hb => ⟨((hM.get 0 rfl).call hb).range, ((hM.get 1 rfl).call hb).range⟩
  have hss : (Tryd.prog.info? 23).map (·.size) = some (keyC s).toList.length := by simpa using Hss.out
  have hD := hM.drew
  refine beginT (fun wx => wx.rangeAt g8 0 (keyC o).toList ∧ wx.rangeAt w.heap.size 0 (keyC s).toList) 11 (by kernel_rfl) ?_
  have hS := hkeep _ (c_drew (c_refl _))
  refine ldQ 0 (some 19) 23 (.tmp 3) w.heap.size 0 (keyC s).toList (fun wx hSw => hSw.2) hun hss (fun _ _ _ h => h) hS ?_
  simp only [Act.put, sA, sZ, sS, Array.toArray_toList]
  refine ldQ 1 (some 20) 23 (.tmp 8) g8 0 (keyC o).toList (fun wx hSw => hSw.1) hun hso (fun _ _ _ h => h) hS ?_
  simp only [Act.put, sA, sZ, sS, Array.toArray_toList]
  refine ldQ 2 (some 21) 23 (.tmp 8) g8 0 (keyC o).toList (fun wx hSw => hSw.1) hun hso (fun _ _ _ h => h) hS ?_
  simp only [Act.put, sA, sZ, sS, Array.toArray_toList]
  refine ldQ 3 (some 22) 23 (.tmp 3) w.heap.size 0 (keyC s).toList (fun wx hSw => hSw.2) hun hss (fun _ _ _ h => h) hS ?_
  simp only [Act.put, sA, sZ, sS, Array.toArray_toList]
  refine rd2 4 9 (fun K hK => ?_) fun K hK => ?_
  ·
   go_simp
   refine (hbase _).mono ?_
   rintro e x1 ⟨rfl, hx1⟩
   refine kp hK hkeep ?_
   clear hK K
   have hN1 := hD.call hx1
   refine rd2 5 9 (fun K hK => ?_) fun K hK => ?_
   ·
    go_simp
    refine (hsh _ (hT.below (hN1).old)).mono ?_
    rintro e x2 ⟨rfl, hx2⟩
    refine kp hK hkeep ?_
    clear hK K
    have hN2 := hN1.call hx2
    have hS9 := hkeep x2 bl
    refine tk 6 (some 18) (.tuple #[.agg (keyC x), .int .i64 er]) (fun _ _ _ h => h) hS9 ?_
    simp only [Act.put, sA, sZ, sS]
    refine tk 7 (some 25) (.agg (keyC x)) (fun _ _ _ h => h) hS9 ?_
    simp only [Act.put, sA, sZ, sS]
    refine tk 8 (some 26) (.int .i64 er) (fun _ _ _ h => h) hS9 ?_
    simp only [Act.put, sA, sZ, sS]
    refine on1 9 fun K hK => ?_
    go_simp
    refine kp hK hkeep ?_
    clear hK K
    have hnx := fun p hp => Nat.ne_of_lt ((hN2.rows p hp).lt)
    have hgx := hN2.old.size
    have hN3 := hN2.box 23 #[.int .u8 0, .int .u8 0, .int .u8 0, .int .u8 0, .int .u8 0, .int .u8 0, .int .u8 0, .int .u8 0, .int .u8 0, .int .u8 0, .int .u8 0, .int .u8 0, .int .u8 0, .int .u8 0, .int .u8 0, .int .u8 0, .int .u8 0, .int .u8 0, .int .u8 0, .int .u8 0, .int .u8 0, .int .u8 0, .int .u8 0, .int .u8 0, .int .u8 0, .int .u8 0, .int .u8 0, .int .u8 0, .int .u8 0, .int .u8 0, .int .u8 0, .int .u8 0]
    have hset := Ms.set hN3 hgx hnx (keyC x)
    refine on1 10 fun K hK => ?_
    refine step_store_row rfl 23 (.tmp 9) (.tmp 25) rfl (x2.heap.size) (keyC x) rfl rfl 23 _ (hN3.get 0 rfl) Hsx.out Hzx.out Hox.out ?_
    refine hK.out _ _ (fun _ => ⟨(hset.get 1 rfl).range, (hset.get 2 rfl).range⟩) ?_
    clear hK K
    refine on1 11 fun K hK => ?_
    go_simp
    refine hK.out _ _ (fun h => absurd rfl h) ?_
    clear hK K
    refine doneT (by kernel_rfl) ?_ _
    go_wp2_with fail
    go_meet
    exact ⟨_, rfl, rfl, hset⟩
   ·
    go_simp
    refine kp hK hkeep ?_
    clear hK K
    have hnx := fun p hp => Nat.ne_of_lt ((hN1.rows p hp).lt)
    have hgx := hN1.old.size
    have hN2 := hN1.box 23 #[.int .u8 0, .int .u8 0, .int .u8 0, .int .u8 0, .int .u8 0, .int .u8 0, .int .u8 0, .int .u8 0, .int .u8 0, .int .u8 0, .int .u8 0, .int .u8 0, .int .u8 0, .int .u8 0, .int .u8 0, .int .u8 0, .int .u8 0, .int .u8 0, .int .u8 0, .int .u8 0, .int .u8 0, .int .u8 0, .int .u8 0, .int .u8 0, .int .u8 0, .int .u8 0, .int .u8 0, .int .u8 0, .int .u8 0, .int .u8 0, .int .u8 0, .int .u8 0]
    refine on1 5 fun K hK => ?_
    go_simp
    refine (hsh _ (hT.below (hN2).old)).mono ?_
    rintro e x3 ⟨rfl, hx3⟩
    refine kp hK hkeep ?_
    clear hK K
    have hN3 := hN2.call hx3
    have hS9 := hkeep x3 bl
    refine tk 6 (some 18) (.tuple #[.agg (keyC x), .int .i64 er]) (fun _ _ _ h => h) hS9 ?_
    simp only [Act.put, sA, sZ, sS]
    refine tk 7 (some 25) (.agg (keyC x)) (fun _ _ _ h => h) hS9 ?_
    simp only [Act.put, sA, sZ, sS]
    refine tk 8 (some 26) (.int .i64 er) (fun _ _ _ h => h) hS9 ?_
    simp only [Act.put, sA, sZ, sS]
    have hset := Ms.set hN3 hgx hnx (keyC x)
    refine on1 10 fun K hK => ?_
    refine step_store_row rfl 23 (.tmp 9) (.tmp 25) rfl (x1.heap.size) (keyC x) rfl rfl 23 _ (hN3.get 0 rfl) Hsx.out Hzx.out Hox.out ?_
    refine hK.out _ _ (fun _ => ⟨(hset.get 1 rfl).range, (hset.get 2 rfl).range⟩) ?_
    clear hK K
    refine on1 11 fun K hK => ?_
    go_simp
    refine hK.out _ _ (fun h => absurd rfl h) ?_
    clear hK K
    refine doneT (by kernel_rfl) ?_ _
    go_wp2_with fail
    go_meet
    exact ⟨_, rfl, rfl, hset⟩
  ·
   go_simp
   refine kp hK hkeep ?_
   clear hK K
   have hnx := fun p hp => Nat.ne_of_lt ((hD.rows p hp).lt)
   have hgx := hD.old.size
   have hN1 := hD.box 23 #[.int .u8 0, .int .u8 0, .int .u8 0, .int .u8 0, .int .u8 0, .int .u8 0, .int .u8 0, .int .u8 0, .int .u8 0, .int .u8 0, .int .u8 0, .int .u8 0, .int .u8 0, .int .u8 0, .int .u8 0, .int .u8 0, .int .u8 0, .int .u8 0, .int .u8 0, .int .u8 0, .int .u8 0, .int .u8 0, .int .u8 0, .int .u8 0, .int .u8 0, .int .u8 0, .int .u8 0, .int .u8 0, .int .u8 0, .int .u8 0, .int .u8 0, .int .u8 0]
   refine on1 4 fun K hK => ?_
   go_simp
   refine (hbase _).mono ?_
   rintro e x2 ⟨rfl, hx2⟩
   refine kp hK hkeep ?_
   clear hK K
   have hN2 := hN1.call hx2
   refine on1 5 fun K hK => ?_
   go_simp
   refine (hsh _ (hT.below (hN2).old)).mono ?_
   rintro e x3 ⟨rfl, hx3⟩
   refine kp hK hkeep ?_
   clear hK K
   have hN3 := hN2.call hx3
   have hS9 := hkeep x3 bl
   refine tk 6 (some 18) (.tuple #[.agg (keyC x), .int .i64 er]) (fun _ _ _ h => h) hS9 ?_
   simp only [Act.put, sA, sZ, sS]
   refine tk 7 (some 25) (.agg (keyC x)) (fun _ _ _ h => h) hS9 ?_
   simp only [Act.put, sA, sZ, sS]
   refine tk 8 (some 26) (.int .i64 er) (fun _ _ _ h => h) hS9 ?_
   simp only [Act.put, sA, sZ, sS]
   have hset := Ms.set hN3 hgx hnx (keyC x)
   refine on1 10 fun K hK => ?_
   refine step_store_row rfl 23 (.tmp 9) (.tmp 25) rfl (v1.drew.heap.size) (keyC x) rfl rfl 23 _ (hN3.get 0 rfl) Hsx.out Hzx.out Hox.out ?_
   refine hK.out _ _ (fun _ => ⟨(hset.get 1 rfl).range, (hset.get 2 rfl).range⟩) ?_
   clear hK K
   refine on1 11 fun K hK => ?_
   go_simp
   refine hK.out _ _ (fun h => absurd rfl h) ?_
   clear hK K
   refine doneT (by kernel_rfl) ?_ _
   go_wp2_with fail
   go_meet
   exact ⟨_, rfl, rfl, hset⟩
 case rest =>
  obtain ⟨g9, rfl, rfl, hM4⟩ := hcut
  clear hM hsh hbase
  rcases Hrel.out with ⟨hz, rfl⟩ | ⟨hz, rfl, hx⟩
  ·
   go_wp2_with fail
   (first | refine Hpost.out _ _ ?_ ?_ | refine bodyPost_ret (results_tmp2 rfl _ _ _) rfl (Hpost.out _ _ ?_ ?_))
   ·
    exact hM4.old
   ·
    exact (.inr (.inl ⟨by rw [Hbl.out]; exact H32.out, hz, rfl⟩))
  have Hx := Lib.hid hx
  clear hx
  have hBc := hM4.old
  have hsx : (Tryd.prog.info? 23).map (·.size) = some (keyC x).toList.length := by simpa using Hsx.out
  have k32 : (32 : Int) ≤ (m : Int) := by omega
  have k33 : (32 : Int) ≤ (c : Int) := by omega
  have k34 : (m : Int) ≤ (c : Int) := by omega
  by_cases hc : c = 32
  ·
   have hkeep : ∀ wx : World, Below wc.heap.size wc wx → wx.rangeAt g9 0 (keyC x).toList := fun wx hb => ((hM4.get 0 rfl).call hb).range
   have hm32 : m = 32 := by have := H32.out; omega
   subst hc hm32
   have hd : b.drop 32 = [] := List.drop_of_length_le (by rw [Hbl.out]; omega)
   have hrd : Rd w w.heap.size (some ⟨ba, ob, none⟩) 0 ((b.drop 32).map bv) := by rw [hd]; exact Rd.zero _ _ _
   clear hd
   have hopn := fun wx (hb : Below wc.heap.size wc wx) => POpen_any x (b.drop 32) (some ⟨ba, ob, none⟩) 0 0 At mt ct vs ts wx Hxl.out (by omega) (by rw [maxLen]; omega) (d_rd hrd (c_call hBc hb)) hmct hctm hmt hf (d_rd hv (c_call hBc hb)) (d_txs ht (c_call hBc hb)) (hT.below (c_call hBc hb))
   rw [show (x.map bv).toArray = keyC x from rfl] at hopn
   have Hopn := Lib.hid hopn
   clear hopn hrd
   go_wp2_with fail
   refine beginT (fun wx => wx.rangeAt g9 0 (keyC x).toList) 9 (by kernel_rfl) ?_
   have hS := hkeep _ (c_drew (c_refl _))
   refine ldQ 0 (some 30) 23 (.tmp 9) g9 0 (keyC x).toList (fun wx hSw => hSw) hun hsx (fun _ _ _ h => h) hS ?_
   simp only [Act.put, sA, sZ, sS, Array.toArray_toList]
   refine tk 1 (some 31) (.slice (some ⟨ba, ob, none⟩) 32 32) (fun _ _ _ h => h) hS ?_
   simp only [Act.put, sA, sZ, sS]
   refine tk 2 (some 32) (.slice (some ⟨ba, ob, none⟩) 0 0) (fun _ _ _ h => h) hS ?_
   simp only [Act.put, sA, sZ, sS]
   refine tk 3 (some 33) (.slice At mt ct) (fun _ _ _ h => h) hS ?_
   simp only [Act.put, sA, sZ, sS]
   refine on1 4 fun K hK => ?_
   go_simp
   refine (Hopn.out _ bl).mono ?_
   intro e x1 hP
   obtain ⟨v, er2, rfl⟩ := hP.form
   have hx1 := hP.1
   refine kp hK hkeep ?_
   clear hK K
   have hS9 := hkeep x1 bl
   have hE : Below wc.heap.size wc x1 := bl
   refine tk 5 (some 35) v (fun _ _ _ h => h) hS9 ?_
   simp only [Act.put, sA, sZ, sS]
   refine tk 6 (some 36) (.int .i64 er2) (fun _ _ _ h => h) hS9 ?_
   simp only [Act.put, sA, sZ, sS]
   refine on1 7 fun K hK => ?_
   go_simp
   refine hK.out _ _ (fun _ => hS9) ?_
   clear hK K
   refine on1 8 fun K hK => ?_
   go_simp
   refine hK.out _ _ (fun _ => hS9) ?_
   clear hK K
   refine doneT (by kernel_rfl) ?_ _
   have hP2 : OpenPost w x (b.drop 32) ts (.returned (.tuple #[v, .int .i64 er2])) x1 := hP.from (c_drew hBc)
   rw [Hx.out] at hP2
   have HP2 := Lib.hid hP2
   clear hP hP2
   go_wp2_with fail
   (first | refine Hpost.out _ _ ?_ ?_ | refine bodyPost_ret (results_tmp2 rfl _ _ _) rfl (Hpost.out _ _ ?_ ?_))
   ·
    exact c_call hBc hE
   ·
    exact .inr (.inr ⟨by rw [Hbl.out]; exact H32.out, hz, HP2.out⟩)
  ·
   have hkeep : ∀ wx : World, Below wc.heap.size wc wx → wx.rangeAt g9 0 (keyC x).toList := fun wx hb => ((hM4.get 0 rfl).call hb).range
   have hrd := hr0.cut (show 32 ≤ m from H32.out) hmc
   rw [← List.map_drop, if_neg hc] at hrd
   have hopn := fun wx (hb : Below wc.heap.size wc wx) => POpen_any x (b.drop 32) (some ((⟨ba, ob, none⟩ : Addr).add 32)) (m - 32) (c - 32) At mt ct vs ts wx Hxl.out (by omega) (by rw [maxLen]; omega) (d_rd hrd (c_call hBc hb)) hmct hctm hmt hf (d_rd hv (c_call hBc hb)) (d_txs ht (c_call hBc hb)) (hT.below (c_call hBc hb))
   rw [show (x.map bv).toArray = keyC x from rfl] at hopn
   have Hopn := Lib.hid hopn
   clear hopn hrd
   go_wp2_with fail
   refine beginT (fun wx => wx.rangeAt g9 0 (keyC x).toList) 9 (by kernel_rfl) ?_
   have hS := hkeep _ (c_drew (c_refl _))
   refine ldQ 0 (some 30) 23 (.tmp 9) g9 0 (keyC x).toList (fun wx hSw => hSw) hun hsx (fun _ _ _ h => h) hS ?_
   simp only [Act.put, sA, sZ, sS, Array.toArray_toList]
   refine tk 1 (some 31) (.slice (some ⟨ba, ob, none⟩) m c) (fun _ _ _ h => h) hS ?_
   simp only [Act.put, sA, sZ, sS]
   refine tk 2 (some 32) (.slice (some ((⟨ba, ob, none⟩ : Addr).add 32)) (m - 32) (c - 32)) (fun _ _ _ h => h) hS ?_
   simp only [Act.put, sA, sZ, sS]
   refine tk 3 (some 33) (.slice At mt ct) (fun _ _ _ h => h) hS ?_
   simp only [Act.put, sA, sZ, sS]
   refine on1 4 fun K hK => ?_
   go_simp
   refine (Hopn.out _ bl).mono ?_
   intro e x1 hP
   obtain ⟨v, er2, rfl⟩ := hP.form
   have hx1 := hP.1
   refine kp hK hkeep ?_
   clear hK K
   have hS9 := hkeep x1 bl
   have hE : Below wc.heap.size wc x1 := bl
   refine tk 5 (some 35) v (fun _ _ _ h => h) hS9 ?_
   simp only [Act.put, sA, sZ, sS]
   refine tk 6 (some 36) (.int .i64 er2) (fun _ _ _ h => h) hS9 ?_
   simp only [Act.put, sA, sZ, sS]
   refine on1 7 fun K hK => ?_
   go_simp
   refine hK.out _ _ (fun _ => hS9) ?_
   clear hK K
   refine on1 8 fun K hK => ?_
   go_simp
   refine hK.out _ _ (fun _ => hS9) ?_
   clear hK K
   refine doneT (by kernel_rfl) ?_ _
   have hP2 : OpenPost w x (b.drop 32) ts (.returned (.tuple #[v, .int .i64 er2])) x1 := hP.from (c_drew hBc)
   rw [Hx.out] at hP2
   have HP2 := Lib.hid hP2
   clear hP hP2
   go_wp2_with fail
   (first | refine Hpost.out _ _ ?_ ?_ | refine bodyPost_ret (results_tmp2 rfl _ _ _) rfl (Hpost.out _ _ ?_ ?_))
   ·
    exact c_call hBc hE
   ·
    exact .inr (.inr ⟨by rw [Hbl.out]; exact H32.out, hz, HP2.out⟩)
theorem walk_KemBack (s o : List UInt8) (A : Option Addr) (m c : Nat) (b : List UInt8) (At : Option Addr) (mt ct : Nat) (vs : List Value) (ts : List (List UInt8)) (w : World) (hs : s.length = 32) (ho : o.length = 32) (hmc : m ≤ c) (hcm : c ≤ maxLen) (hr : Rd w w.heap.size A m (b.map bv)) (hmt : mt ≤ ct) (hct : ct ≤ maxLen) (hm24 : mt * 24 ≤ 140737488355328) (hv : Rd w w.heap.size At mt vs) (ht : Txs w w.heap.size vs ts) (hT : CTab w) :
  Calls Tryd.prog 3 #[.agg (keyC s), .agg (keyC o), .slice A m c, .slice At mt ct] w fun e w' => e = .returned (.bool true) ∧ Below w.heap.size w w' :=
 walkH_KemBack PPair_any PBox_any PUnbox_any s o b A m c At mt ct vs ts w hs ho hmc hcm hr hmt hct hm24 hv ht hT
theorem walk_KemMeets (a b : List UInt8) (w : World) (ha : a.length = 32) (hb : b.length = 32) (hT : CTab w) :
  Calls Tryd.prog 4 #[.agg (keyC a), .agg (keyC b)] w fun e w' => e = .returned (.bool true) ∧ Below w.heap.size w w' :=
 walkH_KemMeets PPair_any PShared_any PBox_any PBase_k a b w ha hb hT
theorem walk_KemSeeds (p q s : List UInt8) (A : Option Addr) (m c : Nat) (a : List UInt8) (A' : Option Addr) (m' c' : Nat) (b : List UInt8) (w : World) (hp : p.length = 32) (hq : q.length = 32) (hs : s.length = 32) (hmc : m ≤ c) (hcm : c ≤ maxLen) (hr : Rd w w.heap.size A m (a.map bv)) (hmc' : m' ≤ c') (hcm' : c' ≤ maxLen) (hr' : Rd w w.heap.size A' m' (b.map bv)) (hT : CTab w) :
  Calls Tryd.prog 5 #[.agg (keyC p), .agg (keyC q), .agg (keyC s), .slice A m c, .slice A' m' c'] w fun e w' => e = .returned (.bool true) ∧ Below w.heap.size w w' :=
 walkH_KemSeeds PPair_any PBox_any p q s a b A m c A' m' c' w hp hq hs hmc hcm hr hmc' hcm' hr' hT
end Go.Proofs.YtbiijdboolpaeaaDoor
