import Derived.Test.YtbiijdboolpaeaaGreatDoorH04
import Derived.Test.YtbiijdboolpaeaaGreatDoorH27
import Derived.Test.YtbiijdboolpaeaaGreatDoorH29
import Derived.Test.YtbiijdboolpaeaaGreatDoorH31
import Derived.Test.YtbiijdboolpaeaaGreatDoorH35
import Derived.Test.YtbiijdboolpaeaaGreatDoorH36
set_option linter.unusedVariables false
namespace Go.Proofs.YtbiijdboolpaeaaGreatDoor
open Go.RowKit
theorem results_cellsK {P : Program} {fn : Func} {p q : Tmp} {ty : TypeId} (h : fn.results = #[.cell p ty, .cell q ty]) (tmps : Array Value) (w : World) (g g' : Nat) (t : TypeId) (cs cs' : Array Value) (d : TypeDesc)
  (hp : tmps.getD p undef = .pointer (some ⟨g, 0, none⟩)) (hg : RowC w g t cs) (hq : tmps.getD q undef = .pointer (some ⟨g', 0, none⟩)) (hg' : RowC w g' t cs')
  (hu : P.underlying ty = some d) (hd : (match d with | .struct _ | .array _ _ => true | _ => false) = true) (hi : (P.info? ty).map (·.size) = some cs.size) (hi' : (P.info? ty).map (·.size) = some cs'.size) :
  (results fn tmps).run P w = .ok (.tuple #[.agg cs, .agg cs']) w := by
 have hp' : tmps[p]?.getD undef = .pointer (some ⟨g, 0, none⟩) := by simpa using hp
 have hq' : tmps[q]?.getD undef = .pointer (some ⟨g', 0, none⟩) := by simpa using hq
 simp [results, h, hp', hq', asAddr, run_loadVar_row w g t ty cs (0, 0) d hg hu hd hi, run_loadVar_row w g' t ty cs' (0, 0) d hg' hu hd hi']
theorem fit_two {label m t : List UInt8} (hl : label.length ≤ 4) (hm : m.length = 32) (ht : t.length = 32) : fitD label [m, t] := by
 have hg : GoodT (nameU :: label :: [m, t]) := by
  intro i x h
  match i, h with
  | 0, h => injection h with h; subst h; decide
  | 1, h => injection h with h; subst h; omega
  | 2, h => injection h with h; subst h; omega
  | 3, h => injection h with h; subst h; omega
  | i + 4, h => simp at h
 refine ⟨hg, ?_⟩
 have := txs_short _ hg
 unfold infoU
 simp only [List.length_cons, List.length_nil] at this
 omega
theorem fit_none {label : List UInt8} (hl : label.length ≤ 4) : fitD label [] := by
 have hg : GoodT (nameU :: label :: []) := by
  intro i x h
  match i, h with
  | 0, h => injection h with h; subst h; decide
  | 1, h => injection h with h; subst h; omega
  | i + 2, h => simp at h
 refine ⟨hg, ?_⟩
 have := txs_short _ hg
 unfold infoU
 simp only [List.length_cons, List.length_nil] at this
 omega
theorem RDerive_K (k : List UInt8) (s : ByteArray) (At : Option Addr) (m ct : Nat) (vs : List Value) (ts : List (List UInt8)) (w : World) (hk : k.length = 32) (hs : s.size ≤ 70000) (hm : m ≤ 1000000) (hmc : m ≤ ct)
  (hv : Rd w w.heap.size At m vs) (ht : Txs w w.heap.size vs ts) (hT : KTab w) (hf : fitD (strB s) ts) :
  Calls Tryz.prog 18 #[.agg (keyC k), .string s, .slice At m ct] w fun e w' => e = .returned (.tuple #[.agg (keyC (deriveU k (strB s) ts)), .int .i64 0]) ∧ Below w.heap.size w w' := by
 refine (rDerive_any k s At m ct vs ts w hk hs hm hmc hv ht hT).mono ?_
 rintro e w' ⟨hb, ⟨_, h⟩ | ⟨h, _⟩⟩
 ·
  exact ⟨h, hb⟩
 ·
  exact absurd hf h
theorem RExtract_K (b : List UInt8) (g : Nat) (w : World) (hb : b.length = 32) (hr : Rd w w.heap.size (some ⟨g, 0, none⟩) 32 (b.map bv)) (hK : KTab w) :
  Calls Tryz.prog 28 #[.slice none 0 0, .slice (some ⟨g, 0, none⟩) 32 32] w fun e w' => e = .returned (.agg (keyC (macU [] b))) ∧ Below w.heap.size w w' :=
 rExtract_any none 0 0 [] (some ⟨g, 0, none⟩) 32 32 b w (Nat.le_refl _) (by omega) (Nat.le_refl _) (by omega) (Rd.zero _ _ _) hr hK
theorem RPairS (k : List UInt8) (w : World) (hk : k.length = 32) (hT : KTab w) :
  Calls Tryz.prog 18 #[.agg (keyC k), .string ⟨#[112, 97, 105, 114]⟩, .slice none 0 0] w fun e w' => e = .returned (.tuple #[.agg (keyC (secretU k)), .int .i64 0]) ∧ Below w.heap.size w w' :=
 RDerive_K k ⟨#[112, 97, 105, 114]⟩ none 0 0 [] [] w hk (by decide) (by omega) (Nat.le_refl _) (Rd.zero _ _ _) (Txs.nil _ _) hT (fit_none (by decide))
theorem RBoxS (k : List UInt8) (w : World) (hk : k.length = 32) (hT : KTab w) :
  Calls Tryz.prog 18 #[.agg (keyC k), .string ⟨#[98, 111, 120]⟩, .slice none 0 0] w fun e w' => e = .returned (.tuple #[.agg (keyC (ownU k)), .int .i64 0]) ∧ Below w.heap.size w w' :=
 RDerive_K k ⟨#[98, 111, 120]⟩ none 0 0 [] [] w hk (by decide) (by omega) (Nat.le_refl _) (Rd.zero _ _ _) (Txs.nil _ _) hT (fit_none (by decide))
theorem RBase_p (k : List UInt8) (w : World) (hk : k.length = 32) :
  Calls Tryz.prog 19 #[.agg (keyC k)] w fun e w' => e = .returned (.agg (keyC (mltK k nineL))) ∧ Below w.heap.size w w' := RBase_any k w hk
set_option maxRecDepth 100000 in
set_option maxHeartbeats 2000000 in
theorem RKPair_any (k : List UInt8) (w : World) (hk : k.length = 32) (hT : KTab w) :
  Calls Tryz.prog 8 #[.agg (keyC k)] w fun e w' => e = .returned (.tuple #[.agg (keyC (secretU k)), .agg (keyC (pointU k))]) ∧ Below w.heap.size w w' := by
 have hM0 := (((Ms.nil w).box 23 (keyC k)).box 23 #[.int .u8 0, .int .u8 0, .int .u8 0, .int .u8 0, .int .u8 0, .int .u8 0, .int .u8 0, .int .u8 0, .int .u8 0, .int .u8 0, .int .u8 0, .int .u8 0, .int .u8 0, .int .u8 0, .int .u8 0, .int .u8 0, .int .u8 0, .int .u8 0, .int .u8 0, .int .u8 0, .int .u8 0, .int .u8 0, .int .u8 0, .int .u8 0, .int .u8 0, .int .u8 0, .int .u8 0, .int .u8 0, .int .u8 0, .int .u8 0, .int .u8 0, .int .u8 0]).box 23 #[.int .u8 0, .int .u8 0, .int .u8 0, .int .u8 0, .int .u8 0, .int .u8 0, .int .u8 0, .int .u8 0, .int .u8 0, .int .u8 0, .int .u8 0, .int .u8 0, .int .u8 0, .int .u8 0, .int .u8 0, .int .u8 0, .int .u8 0, .int .u8 0, .int .u8 0, .int .u8 0, .int .u8 0, .int .u8 0, .int .u8 0, .int .u8 0, .int .u8 0, .int .u8 0, .int .u8 0, .int .u8 0, .int .u8 0, .int .u8 0, .int .u8 0, .int .u8 0]
 simp only [World.size_alloc] at hM0
 have Hs0 := Lib.hid (sizeKey hk)
 have hsl := secretU_len k
 have Hs1 := Lib.hid (sizeKey hsl)
 have Ho1 := Lib.hid (one_keyF (secretU k))
 have Hz1 := Lib.hid (zkS (l := (secretU k)) (by rw [hsl]))
 have hpl := pointU_len k
 have Hs2 := Lib.hid (sizeKey hpl)
 have Ho2 := Lib.hid (one_keyF (pointU k))
 have Hz2 := Lib.hid (zkS (l := (pointU k)) (by rw [hpl]))
 have hd := fun wx (h : KTab wx) => RPairS k wx hk h
 have hb := fun wx => RBase_p (secretU k) wx hsl
 rw [show mltK (secretU k) nineL = pointU k from rfl] at hb
 have Hsl := Lib.hid hsl
 clear hsl hpl hk
 generalize pointU k = p at *
 generalize secretU k = s at *
 go_enter Tryz.func8, Tryz.ntmps8
 go_wp2_with ((with_reducible refine tdQ 7 ?_); refine lcQ 23 (.tmp 1) (w.heap.size) (keyC k) (hM0.get 2 rfl) Tryz.underlying23 Hs0.out ?_)
 refine (hd _ (hT.below hM0.old)).mono ?_
 rintro e w1 ⟨rfl, hb1⟩
 have hM1 := hM0.call hb1
 clear hM0 hb1
 have hP1 := hM1.put 23 #[.int .u8 0, .int .u8 0, .int .u8 0, .int .u8 0, .int .u8 0, .int .u8 0, .int .u8 0, .int .u8 0, .int .u8 0, .int .u8 0, .int .u8 0, .int .u8 0, .int .u8 0, .int .u8 0, .int .u8 0, .int .u8 0, .int .u8 0, .int .u8 0, .int .u8 0, .int .u8 0, .int .u8 0, .int .u8 0, .int .u8 0, .int .u8 0, .int .u8 0, .int .u8 0, .int .u8 0, .int .u8 0, .int .u8 0, .int .u8 0, .int .u8 0, .int .u8 0] (keyC s)
 go_upto_region 2 with ((with_reducible refine tsQ 23 ?_); refine srQ 23 (.tmp 4) (.tmp 9) (w1.heap.size) (keyC s) _ (RowC.new _ _ _) Hs1.out Hz1.out Ho1.out ?_)
 try simp only [Act.put]
 refine wp_gen (fun wx => Ms w wx [(w1.heap.size, 23, (keyC s)), (w.heap.size + 1 + 1, 23, #[.int .u8 0, .int .u8 0, .int .u8 0, .int .u8 0, .int .u8 0, .int .u8 0, .int .u8 0, .int .u8 0, .int .u8 0, .int .u8 0, .int .u8 0, .int .u8 0, .int .u8 0, .int .u8 0, .int .u8 0, .int .u8 0, .int .u8 0, .int .u8 0, .int .u8 0, .int .u8 0, .int .u8 0, .int .u8 0, .int .u8 0, .int .u8 0, .int .u8 0, .int .u8 0, .int .u8 0, .int .u8 0, .int .u8 0, .int .u8 0, .int .u8 0, .int .u8 0]), (w.heap.size + 1, 23, #[.int .u8 0, .int .u8 0, .int .u8 0, .int .u8 0, .int .u8 0, .int .u8 0, .int .u8 0, .int .u8 0, .int .u8 0, .int .u8 0, .int .u8 0, .int .u8 0, .int .u8 0, .int .u8 0, .int .u8 0, .int .u8 0, .int .u8 0, .int .u8 0, .int .u8 0, .int .u8 0, .int .u8 0, .int .u8 0, .int .u8 0, .int .u8 0, .int .u8 0, .int .u8 0, .int .u8 0, .int .u8 0, .int .u8 0, .int .u8 0, .int .u8 0, .int .u8 0]), (w.heap.size, 23, (keyC k))]) hP1 ?_
 clear hP1
 rintro v1 hM
 obtain ⟨g4, hg4⟩ : ∃ g, g = w1.heap.size := ⟨_, rfl⟩
 rw [← hg4] at hM ⊢
 clear hg4
 have hun := Tryz.underlying23
 have hsz : (Tryz.prog.info? 23).map (·.size) = some (keyC s).toList.length := by simpa using Hs1.out
 have hkeep : ∀ wx : World, Below v1.heap.size v1 wx → wx.rangeAt g4 0 (keyC s).toList := fun wx hb => ((hM.get 0 rfl).call hb).range
 refine beginU (fun wx => wx.rangeAt g4 0 (keyC s).toList) [3, 4] (by kernel_rfl) ?_
 have hS := hkeep _ (c_drew (c_refl _))
 refine loadU 0 (some 11) 23 (.tmp 4) g4 0 (keyC s).toList rfl rfl (by kernel_rfl) (by kernel_rfl) (by kernel_rfl) (by kernel_rfl) (by kernel_rfl) rfl (by kernel_rfl) rfl (fun wx hSw => hSw) hun rfl hsz (fun _ _ _ h => h) hS ?_
 simp only [Act.put, sA, sZ, sS, Array.toArray_toList]
 refine loadU 1 (some 12) 23 (.tmp 4) g4 0 (keyC s).toList rfl rfl (by kernel_rfl) (by kernel_rfl) (by kernel_rfl) (by kernel_rfl) (by kernel_rfl) rfl (by kernel_rfl) rfl (fun wx hSw => hSw) hun rfl hsz (fun _ _ _ h => h) hS ?_
 simp only [Act.put, sA, sZ, sS, Array.toArray_toList]
 refine oneU 2 (by kernel_rfl) rfl (fun K hK => ?_)
 go_simp
 refine (hb _).mono ?_
 rintro e x1 ⟨rfl, hx1⟩
 refine kp hK hkeep ?_
 clear hK K
 have hE : Below v1.heap.size v1 x1 := bl
 have hM9 := hM.call hE
 refine oneU 3 (by kernel_rfl) rfl (fun K hK => ?_)
 refine step_store_row rfl 23 (.tmp 2) (.tmp 11) rfl (w.heap.size + 1) (keyC s) rfl rfl 23 _ (hM9.get 2 rfl) Hs1.out Hz1.out Ho1.out ?_
 refine hK.out _ _ (fun h => absurd (show 3 ∈ [3, 4] by decide) h) ?_
 clear hK K
 refine oneU 4 (by kernel_rfl) rfl (fun K hK => ?_)
 refine step_store_row rfl 23 (.tmp 3) (.tmp 13) rfl (w.heap.size + 1 + 1) (keyC p) rfl rfl 23 _ ((hM9.get 1 rfl).rowFar (by omega) _) Hs2.out Hz2.out Ho2.out ?_
 refine hK.out _ _ (fun h => absurd (show 4 ∈ [3, 4] by decide) h) ?_
 clear hK K
 refine done2U (by kernel_rfl) ?_ _
 go_wp2_with fail
 exact bodyPost_ret (results_cellsK rfl _ _ (w.heap.size + 1) (w.heap.size + 1 + 1) 23 (keyC s) (keyC p) _ rfl (((hM9.get 2 rfl).row _).rowFar (by omega) _) rfl (((hM9.get 1 rfl).rowFar (by omega) _).row _) Tryz.underlying23 rfl Hs1.out Hs2.out) rfl ⟨rfl, below_setRow (below_setRow hM9.old (by omega) _) (by omega) _⟩
def SharedPost (w : World) (s o m t : List UInt8) (e : Ending) (w' : World) : Prop :=
 Below w.heap.size w w' ∧ ((mltK s o = zeroKey ∧ e = .returned (.tuple #[.agg (keyC zeroKey), .int .i64 1])) ∨
  (mltK s o ≠ zeroKey ∧ e = .returned (.tuple #[.agg (keyC (twoU (mltK s o) m t)), .int .i64 0])))
theorem SharedPost.yes {w w' : World} {s o m t : List UInt8} {e : Ending} (h : SharedPost w s o m t e w') (hn : mltK s o ≠ zeroKey) :
  e = .returned (.tuple #[.agg (keyC (twoU (mltK s o) m t)), .int .i64 0]) ∧ Below w.heap.size w w' := by
 obtain ⟨hb, ⟨h1, _⟩ | ⟨_, h2⟩⟩ := h
 ·
  exact absurd h1 hn
 ·
  exact ⟨h2, hb⟩
theorem SharedPost.no {w w' : World} {s o m t : List UInt8} {e : Ending} (h : SharedPost w s o m t e w') (hn : mltK s o = zeroKey) :
  e = .returned (.tuple #[.agg (keyC zeroKey), .int .i64 1]) ∧ Below w.heap.size w w' := by
 obtain ⟨hb, ⟨_, h2⟩ | ⟨h1, _⟩⟩ := h
 ·
  exact ⟨h2, hb⟩
 ·
  exact absurd hn h1
theorem zeroC : keyC zeroKey = #[.int .u8 0, .int .u8 0, .int .u8 0, .int .u8 0, .int .u8 0, .int .u8 0, .int .u8 0, .int .u8 0, .int .u8 0, .int .u8 0, .int .u8 0, .int .u8 0, .int .u8 0, .int .u8 0, .int .u8 0, .int .u8 0, .int .u8 0, .int .u8 0, .int .u8 0, .int .u8 0, .int .u8 0, .int .u8 0, .int .u8 0, .int .u8 0, .int .u8 0, .int .u8 0, .int .u8 0, .int .u8 0, .int .u8 0, .int .u8 0, .int .u8 0, .int .u8 0] := rfl
set_option maxRecDepth 100000 in
set_option maxHeartbeats 4000000 in
theorem RShared_any (a b m t : List UInt8) (w : World) (ha : a.length = 32) (hb : b.length = 32) (hm : m.length = 32) (ht : t.length = 32) (hT : KTab w) :
  Calls Tryz.prog 15 #[.agg (keyC a), .agg (keyC b), .agg (keyC m), .agg (keyC t)] w (SharedPost w a b m t) := by
 have hM0 := (((((Ms.nil w).box 23 (keyC a)).box 23 (keyC b)).box 23 (keyC m)).box 23 (keyC t)).box 23 #[.int .u8 0, .int .u8 0, .int .u8 0, .int .u8 0, .int .u8 0, .int .u8 0, .int .u8 0, .int .u8 0, .int .u8 0, .int .u8 0, .int .u8 0, .int .u8 0, .int .u8 0, .int .u8 0, .int .u8 0, .int .u8 0, .int .u8 0, .int .u8 0, .int .u8 0, .int .u8 0, .int .u8 0, .int .u8 0, .int .u8 0, .int .u8 0, .int .u8 0, .int .u8 0, .int .u8 0, .int .u8 0, .int .u8 0, .int .u8 0, .int .u8 0, .int .u8 0]
 simp only [World.size_alloc] at hM0
 have Hsa := Lib.hid (sizeKey ha)
 have Hsb := Lib.hid (sizeKey hb)
 have Hm := Lib.hid hm
 have Ht := Lib.hid ht
 have hml := fun wx => RMult_k a b wx ha hb
 have Hql := Lib.hid (mltK_len a b)
 have Hsq := Lib.hid (sizeKey (mltK_len a b))
 have Hoq := Lib.hid (one_keyF (mltK a b))
 have Hzq := Lib.hid (zkS (l := (mltK a b)) (by rw [mltK_len]))
 have Hpost := Lib.hid (show ∀ e w', Below w.heap.size w w' → ((mltK a b = zeroKey ∧ e = .returned (.tuple #[.agg (keyC zeroKey), .int .i64 1])) ∨ (mltK a b ≠ zeroKey ∧ e = .returned (.tuple #[.agg (keyC (twoU (mltK a b) m t)), .int .i64 0]))) → SharedPost w a b m t e w' from fun _ _ h1 h2 => ⟨h1, h2⟩)
 generalize SharedPost w a b m t = PO at *
 have hq := fun wx => eql_keyF wx (mltK a b) zeroKey (mltK_len a b) rfl
 rw [zeroC] at hq
 generalize mltK a b = q at *
 clear ha hb hm ht
 go_enter Tryz.func15, Tryz.ntmps15
 go_wp2_with (first
  | ((with_reducible refine tdQ 11 ?_); refine lcQ 23 (.tmp 4) (w.heap.size) (keyC a) (hM0.get 4 rfl) Tryz.underlying23 Hsa.out ?_)
  | ((with_reducible refine tdQ 12 ?_); refine lcQ 23 (.tmp 5) (w.heap.size + 1) (keyC b) (hM0.get 3 rfl) Tryz.underlying23 Hsb.out ?_))
 refine (hml _).mono ?_
 rintro e w1 ⟨rfl, hb1⟩
 have hM1 := hM0.call hb1
 clear hM0 hb1
 have hP1 := hM1.put 23 #[.int .u8 0, .int .u8 0, .int .u8 0, .int .u8 0, .int .u8 0, .int .u8 0, .int .u8 0, .int .u8 0, .int .u8 0, .int .u8 0, .int .u8 0, .int .u8 0, .int .u8 0, .int .u8 0, .int .u8 0, .int .u8 0, .int .u8 0, .int .u8 0, .int .u8 0, .int .u8 0, .int .u8 0, .int .u8 0, .int .u8 0, .int .u8 0, .int .u8 0, .int .u8 0, .int .u8 0, .int .u8 0, .int .u8 0, .int .u8 0, .int .u8 0, .int .u8 0] (keyC q)
 have hT1 := hT.below hP1.old
 by_cases hz : q = zeroKey
 ·
  have hz' : (q == zeroKey) = true := by rw [beq_iff_eq]; exact hz
  rw [hz'] at hq
  have Hz := Lib.hid hz
  clear hz hz'
  go_wp2_with (first
   | ((with_reducible refine tsQ 23 ?_); refine srQ 23 (.tmp 10) (.tmp 13) (w1.heap.size) (keyC q) _ (RowC.new _ _ _) Hsq.out Hzq.out Hoq.out ?_)
   | ((with_reducible refine tdQ 14 ?_); refine lcQ 23 (.tmp 10) (w1.heap.size) (keyC q) (hP1.get 0 rfl) Tryz.underlying23 Hsq.out ?_)
   | ((with_reducible refine tsQ 23 ?_); refine srQ 23 (.tmp 8) (.tmp 17) (w.heap.size + 1 + 1 + 1 + 1) #[.int .u8 0, .int .u8 0, .int .u8 0, .int .u8 0, .int .u8 0, .int .u8 0, .int .u8 0, .int .u8 0, .int .u8 0, .int .u8 0, .int .u8 0, .int .u8 0, .int .u8 0, .int .u8 0, .int .u8 0, .int .u8 0, .int .u8 0, .int .u8 0, .int .u8 0, .int .u8 0, .int .u8 0, .int .u8 0, .int .u8 0, .int .u8 0, .int .u8 0, .int .u8 0, .int .u8 0, .int .u8 0, .int .u8 0, .int .u8 0, .int .u8 0, .int .u8 0] _ (hP1.get 1 rfl) (sizeKey (l := zeroKey) rfl) rfl (one_keyF zeroKey) ?_))
  exact bodyPost_ret (results_cell_two rfl _ _ (w.heap.size + 1 + 1 + 1 + 1) 23 #[.int .u8 0, .int .u8 0, .int .u8 0, .int .u8 0, .int .u8 0, .int .u8 0, .int .u8 0, .int .u8 0, .int .u8 0, .int .u8 0, .int .u8 0, .int .u8 0, .int .u8 0, .int .u8 0, .int .u8 0, .int .u8 0, .int .u8 0, .int .u8 0, .int .u8 0, .int .u8 0, .int .u8 0, .int .u8 0, .int .u8 0, .int .u8 0, .int .u8 0, .int .u8 0, .int .u8 0, .int .u8 0, .int .u8 0, .int .u8 0, .int .u8 0, .int .u8 0] _ rfl ((hP1.get 1 rfl).row _) Tryz.underlying23 rfl infoKey) rfl (Hpost.out _ _ (below_setRow hP1.old (by omega) _) (.inl ⟨Hz.out, by rw [zeroC]; rfl⟩))
 have hz' : (q == zeroKey) = false := by rw [beq_eq_false_iff_ne]; exact hz
 rw [hz'] at hq
 have hlt1 := (hP1.get 5 rfl).lt
 go_upto_region 4 with (first
  | ((with_reducible refine tsQ 23 ?_); refine srQ 23 (.tmp 10) (.tmp 13) (w1.heap.size) (keyC q) _ (RowC.new _ _ _) Hsq.out Hzq.out Hoq.out ?_)
  | ((with_reducible refine tdQ 14 ?_); refine lcQ 23 (.tmp 10) (w1.heap.size) (keyC q) (hP1.get 0 rfl) Tryz.underlying23 Hsq.out ?_))
 try simp only [Act.put]
 refine wp_gen (fun wx => Ms w wx [(w1.heap.size, 23, (keyC q)), (w.heap.size + 1 + 1 + 1 + 1, 23, #[.int .u8 0, .int .u8 0, .int .u8 0, .int .u8 0, .int .u8 0, .int .u8 0, .int .u8 0, .int .u8 0, .int .u8 0, .int .u8 0, .int .u8 0, .int .u8 0, .int .u8 0, .int .u8 0, .int .u8 0, .int .u8 0, .int .u8 0, .int .u8 0, .int .u8 0, .int .u8 0, .int .u8 0, .int .u8 0, .int .u8 0, .int .u8 0, .int .u8 0, .int .u8 0, .int .u8 0, .int .u8 0, .int .u8 0, .int .u8 0, .int .u8 0, .int .u8 0]), (w.heap.size + 1 + 1 + 1, 23, (keyC t)), (w.heap.size + 1 + 1, 23, (keyC m)), (w.heap.size + 1, 23, (keyC b)), (w.heap.size, 23, (keyC a))]) hP1 ?_
 clear hP1 hq hlt1
 rintro v1 hM
 generalize w1.heap.size = g10 at *
 have hT1 := hT.below hM.old
 have hex := fun wx (hb : Below v1.heap.size v1 wx) => RExtract_K q g10 wx Hql.out (((hM.get 0 rfl).call hb).rdK Hql.out) (hT1.below hb)
 have hkeep : ∀ wx : World, Below v1.heap.size v1 wx → True := fun _ _ => trivial
 have Hmac := Lib.hid (show twoU q m t = deriveU (macU [] q) (strB ⟨#[107, 101, 121]⟩) [m, t] from rfl)
 have Hmal := Lib.hid (macU_len [] q)
 have Hsk := Lib.hid (sizeKey (twoU_len q m t))
 have Hok := Lib.hid (one_keyF (twoU q m t))
 have Hzk := Lib.hid (zkS (l := (twoU q m t)) (by rw [twoU_len]))
 have hder := fun wx (hb : Below v1.heap.size v1 wx) (gs : Nat) (hr : Rd wx wx.heap.size (some ⟨gs, 0, none⟩) 2 [.slice (some ⟨w.heap.size + 1 + 1, 0, none⟩) 32 32, .slice (some ⟨w.heap.size + 1 + 1 + 1, 0, none⟩) 32 32]) =>
  RDerive_K (macU [] q) ⟨#[107, 101, 121]⟩ (some ⟨gs, 0, none⟩) 2 2 _ [m, t] wx Hmal.out (by decide) (by omega) (Nat.le_refl _) hr (Txs.cons (txs_one1 Hm.out (Nat.le_refl _) (((hM.get 3 rfl).call hb).rdK Hm.out)) (txs_one1 Ht.out (Nat.le_refl _) (((hM.get 2 rfl).call hb).rdK Ht.out))) (hT1.below hb) (fit_two (by decide) Hm.out Ht.out)
 rw [← Hmac.out] at hder
 generalize twoU q m t = kk at *
 generalize macU [] q = mq at *
 refine beginT (fun _ => True) 8 (by kernel_rfl) ?_
 have hS := hkeep _ (c_drew (c_refl _))
 refine tk 0 (some 18) (.slice (some ⟨g10, 0, none⟩) 32 32) (fun _ _ _ h => h) hS ?_
 simp only [Act.put, sA, sZ, sS]
 refine tk 2 (some 20) (.slice (some ⟨w.heap.size + 1 + 1, 0, none⟩) 32 32) (fun _ _ _ h => h) hS ?_
 simp only [Act.put, sA, sZ, sS]
 refine tk 3 (some 21) (.slice (some ⟨w.heap.size + 1 + 1 + 1, 0, none⟩) 32 32) (fun _ _ _ h => h) hS ?_
 simp only [Act.put, sA, sZ, sS]
 refine rd2 1 4 (fun K hK => ?_) fun K hK => ?_
 ·
  go_simp
  refine (hex _ bl).mono ?_
  rintro e x1 ⟨rfl, hx1⟩
  refine hK.out _ _ (fun _ => trivial) ?_
  clear hK K
  refine on1 4 fun K hK => ?_
  go_simp
  refine hK.out _ _ (fun _ => trivial) ?_
  clear hK K
  have hrs : Rd (x1.alloc (.cells #[.slice (some ⟨w.heap.size + 1 + 1, 0, none⟩) 32 32, .slice (some ⟨w.heap.size + 1 + 1 + 1, 0, none⟩) 32 32] 24)) (x1.alloc (.cells #[.slice (some ⟨w.heap.size + 1 + 1, 0, none⟩) 32 32, .slice (some ⟨w.heap.size + 1 + 1 + 1, 0, none⟩) 32 32] 24)).heap.size (some ⟨x1.heap.size, 0, none⟩) 2 [.slice (some ⟨w.heap.size + 1 + 1, 0, none⟩) 32 32, .slice (some ⟨w.heap.size + 1 + 1 + 1, 0, none⟩) 32 32] := Rd.mk_ _ _ _ rfl (by simp) rfl rfl
  refine on1 5 fun K hK => ?_
  go_simp
  refine (hder _ bl _ hrs).mono ?_
  rintro e x2 ⟨rfl, hx2⟩
  refine hK.out _ _ (fun _ => trivial) ?_
  clear hK K
  have hE : Below v1.heap.size v1 x2 := bl
  have hM9 := hM.call hE
  refine tk 6 (some 24) (.agg (keyC kk)) (fun _ _ _ h => h) trivial ?_
  simp only [Act.put, sA, sZ, sS]
  refine tk 7 (some 25) (.int .i64 0) (fun _ _ _ h => h) trivial ?_
  simp only [Act.put, sA, sZ, sS]
  refine on1 8 fun K hK => ?_
  refine step_store_row rfl 23 (.tmp 8) (.tmp 24) rfl (w.heap.size + 1 + 1 + 1 + 1) (keyC kk) rfl rfl 23 _ (hM9.get 1 rfl) Hsk.out Hzk.out Hok.out ?_
  refine hK.out _ _ (fun h => absurd rfl h) ?_
  clear hK K
  refine on1 9 fun K hK => ?_
  go_simp
  refine hK.out _ _ (fun _ => trivial) ?_
  clear hK K
  refine doneT (by kernel_rfl) ?_ _
  go_wp2_with fail
  exact bodyPost_ret (results_cell_two rfl _ _ (w.heap.size + 1 + 1 + 1 + 1) 23 (keyC kk) _ rfl ((hM9.get 1 rfl).row _) Tryz.underlying23 rfl Hsk.out) rfl (Hpost.out _ _ (below_setRow hM9.old (by omega) _) (.inr ⟨hz, rfl⟩))
 ·
  go_simp
  refine hK.out _ _ (fun _ => trivial) ?_
  clear hK K
  refine on1 1 fun K hK => ?_
  go_simp
  refine (hex _ bl).mono ?_
  rintro e x1 ⟨rfl, hx1⟩
  refine hK.out _ _ (fun _ => trivial) ?_
  clear hK K
  have hrs : Rd x1 x1.heap.size (some ⟨v1.drew.heap.size, 0, none⟩) 2 [.slice (some ⟨w.heap.size + 1 + 1, 0, none⟩) 32 32, .slice (some ⟨w.heap.size + 1 + 1 + 1, 0, none⟩) 32 32] := d_rd (Rd.mk_ (v1.drew) _ #[.slice (some ⟨w.heap.size + 1 + 1, 0, none⟩) 32 32, .slice (some ⟨w.heap.size + 1 + 1 + 1, 0, none⟩) 32 32] rfl (by simp) rfl rfl) hx1
  refine on1 5 fun K hK => ?_
  go_simp
  refine (hder _ bl _ hrs).mono ?_
  rintro e x2 ⟨rfl, hx2⟩
  refine hK.out _ _ (fun _ => trivial) ?_
  clear hK K
  have hE : Below v1.heap.size v1 x2 := bl
  have hM9 := hM.call hE
  refine tk 6 (some 24) (.agg (keyC kk)) (fun _ _ _ h => h) trivial ?_
  simp only [Act.put, sA, sZ, sS]
  refine tk 7 (some 25) (.int .i64 0) (fun _ _ _ h => h) trivial ?_
  simp only [Act.put, sA, sZ, sS]
  refine on1 8 fun K hK => ?_
  refine step_store_row rfl 23 (.tmp 8) (.tmp 24) rfl (w.heap.size + 1 + 1 + 1 + 1) (keyC kk) rfl rfl 23 _ (hM9.get 1 rfl) Hsk.out Hzk.out Hok.out ?_
  refine hK.out _ _ (fun h => absurd rfl h) ?_
  clear hK K
  refine on1 9 fun K hK => ?_
  go_simp
  refine hK.out _ _ (fun _ => trivial) ?_
  clear hK K
  refine doneT (by kernel_rfl) ?_ _
  go_wp2_with fail
  exact bodyPost_ret (results_cell_two rfl _ _ (w.heap.size + 1 + 1 + 1 + 1) 23 (keyC kk) _ rfl ((hM9.get 1 rfl).row _) Tryz.underlying23 rfl Hsk.out) rfl (Hpost.out _ _ (below_setRow hM9.old (by omega) _) (.inr ⟨hz, rfl⟩))
def BoxPost (w : World) (p s b : List UInt8) (ts : List (List UInt8)) (e : Ending) (w' : World) : Prop :=
 Below w.heap.size w w' ∧ ((boxBoth p s = zeroKey ∧ e = .returned (.tuple #[.slice none 0 0, .int .i64 1])) ∨
  (boxBoth p s ≠ zeroKey ∧ ¬ (b.length ≤ 1048576 ∧ GoodT ts) ∧ e = .returned (.tuple #[.slice none 0 0, .int .i64 4])) ∨
  (boxBoth p s ≠ zeroKey ∧ b.length ≤ 1048576 ∧ GoodT ts ∧ ∃ A n c, e = .returned (.tuple #[.slice A n c, .int .i64 0]) ∧ NewB w w' A n c (kboxU p s b ts)))
set_option maxRecDepth 100000 in
set_option maxHeartbeats 4000000 in
theorem RKBox_any (p sd b : List UInt8) (A : Option Addr) (m c : Nat) (At : Option Addr) (mt ct : Nat) (vs : List Value) (ts : List (List UInt8)) (w : World) (hp : p.length = 32) (hs : sd.length = 32) (hr : Rd w w.heap.size A m (b.map bv)) (hm63 : m ≤ 9223372036854775807)
  (hmt : mt ≤ 1048576) (htx : GoodT ts → (txs ts).length ≤ 536870912) (hv : Rd w w.heap.size At mt vs) (ht : Txs w w.heap.size vs ts) (hT : KTab w) :
  Calls Tryz.prog 10 #[.agg (keyC p), .agg (keyC sd), .slice A m c, .slice At mt ct] w (BoxPost w p sd b ts) := by
 have hM0 := ((Ms.nil w).box 23 (keyC p)).box 23 (keyC sd)
 simp only [World.size_alloc] at hM0
 have Hsp := Lib.hid (sizeKey hp)
 have Hss := Lib.hid (sizeKey hs)
 have hol := ownU_len sd
 have Hso := Lib.hid (sizeKey hol)
 have Hoo := Lib.hid (one_keyF (ownU sd))
 have Hzo := Lib.hid (zkS (l := (ownU sd)) (by rw [hol]))
 have hbs := fun wx (h : KTab wx) => RBoxS sd wx hs h
 have hpr := fun wx (h : KTab wx) => RKPair_any (ownU sd) wx hol h
 have hsl := secretU_len (ownU sd)
 have hnl := pointU_len (ownU sd)
 have Hsc := Lib.hid (sizeKey hsl)
 have Hoc := Lib.hid (one_keyF (secretU (ownU sd)))
 have Hzc := Lib.hid (zkS (l := (secretU (ownU sd))) (by rw [hsl]))
 have Hsn := Lib.hid (sizeKey hnl)
 have Hon := Lib.hid (one_keyF (pointU (ownU sd)))
 have Hzn := Lib.hid (zkS (l := (pointU (ownU sd))) (by rw [hnl]))
 have Hnl := Lib.hid hnl
 have hsh := fun wx (h : KTab wx) => RShared_any (secretU (ownU sd)) p (pointU (ownU sd)) p wx hsl hp hnl hp h
 have Hbb := Lib.hid (show boxBoth p sd = mltK (secretU (ownU sd)) p from rfl)
 have Hbk := Lib.hid (show boxKey p sd = twoU (mltK (secretU (ownU sd)) p) (pointU (ownU sd)) p from rfl)
 have Hbu := Lib.hid (show kboxU p sd b ts = pointU (ownU sd) ++ sealU (boxKey p sd) b ts from rfl)
 have Hkl := Lib.hid (show (boxKey p sd).length = 32 from twoU_len _ _ _)
 have Hsk := Lib.hid (sizeKey (show (boxKey p sd).length = 32 from twoU_len _ _ _))
 have Hok := Lib.hid (one_keyF (boxKey p sd))
 have Hzk := Lib.hid (zkS (l := (boxKey p sd)) (by rw [show (boxKey p sd).length = 32 from twoU_len _ _ _]))
 have Hbl := Lib.hid (show b.length = m by simpa using hr.len)
 obtain ⟨i0, hi0, hz0, hz1, hz2⟩ := info_parts byteInfo
 have Hpost := Lib.hid (show ∀ e w', Below w.heap.size w w' → ((boxBoth p sd = zeroKey ∧ e = .returned (.tuple #[.slice none 0 0, .int .i64 1])) ∨
  (boxBoth p sd ≠ zeroKey ∧ ¬ (b.length ≤ 1048576 ∧ GoodT ts) ∧ e = .returned (.tuple #[.slice none 0 0, .int .i64 4])) ∨
  (boxBoth p sd ≠ zeroKey ∧ b.length ≤ 1048576 ∧ GoodT ts ∧ ∃ A n c, e = .returned (.tuple #[.slice A n c, .int .i64 0]) ∧ NewB w w' A n c (kboxU p sd b ts))) → BoxPost w p sd b ts e w' from fun _ _ h1 h2 => ⟨h1, h2⟩)
 generalize BoxPost w p sd b ts = PO at *
 clear hp hs hol hsl hnl
 generalize kboxU p sd b ts = bu at *
 generalize pointU (ownU sd) = mine at *
 generalize secretU (ownU sd) = sec at *
 generalize ownU sd = own at *
 go_enter Tryz.func10, Tryz.ntmps10
 go_wp2_with ((with_reducible refine tdQ 18 ?_); refine lcQ 23 (.tmp 5) (w.heap.size + 1) (keyC sd) (hM0.get 0 rfl) Tryz.underlying23 Hss.out ?_)
 refine (hbs _ (hT.below hM0.old)).mono ?_
 rintro e w1 ⟨rfl, hb1⟩
 have hM1 := hM0.call hb1
 clear hM0 hb1
 have hP1 := hM1.put 23 #[.int .u8 0, .int .u8 0, .int .u8 0, .int .u8 0, .int .u8 0, .int .u8 0, .int .u8 0, .int .u8 0, .int .u8 0, .int .u8 0, .int .u8 0, .int .u8 0, .int .u8 0, .int .u8 0, .int .u8 0, .int .u8 0, .int .u8 0, .int .u8 0, .int .u8 0, .int .u8 0, .int .u8 0, .int .u8 0, .int .u8 0, .int .u8 0, .int .u8 0, .int .u8 0, .int .u8 0, .int .u8 0, .int .u8 0, .int .u8 0, .int .u8 0, .int .u8 0] (keyC own)
 have hT1 := hT.below hP1.old
 go_wp2_with (first
  | ((with_reducible refine tsQ 23 ?_); refine srQ 23 (.tmp 10) (.tmp 20) (w1.heap.size) (keyC own) _ (RowC.new _ _ _) Hso.out Hzo.out Hoo.out ?_)
  | ((with_reducible refine tdQ 23 ?_); refine lcQ 23 (.tmp 10) (w1.heap.size) (keyC own) (hP1.get 0 rfl) Tryz.underlying23 Hso.out ?_))
 refine (hpr _ hT1).mono ?_
 rintro e w2 ⟨rfl, hb2⟩
 have hM2 := hP1.call hb2
 clear hP1 hb2
 have hB2 := (hM2.box 23 #[.int .u8 0, .int .u8 0, .int .u8 0, .int .u8 0, .int .u8 0, .int .u8 0, .int .u8 0, .int .u8 0, .int .u8 0, .int .u8 0, .int .u8 0, .int .u8 0, .int .u8 0, .int .u8 0, .int .u8 0, .int .u8 0, .int .u8 0, .int .u8 0, .int .u8 0, .int .u8 0, .int .u8 0, .int .u8 0, .int .u8 0, .int .u8 0, .int .u8 0, .int .u8 0, .int .u8 0, .int .u8 0, .int .u8 0, .int .u8 0, .int .u8 0, .int .u8 0]).box 23 #[.int .u8 0, .int .u8 0, .int .u8 0, .int .u8 0, .int .u8 0, .int .u8 0, .int .u8 0, .int .u8 0, .int .u8 0, .int .u8 0, .int .u8 0, .int .u8 0, .int .u8 0, .int .u8 0, .int .u8 0, .int .u8 0, .int .u8 0, .int .u8 0, .int .u8 0, .int .u8 0, .int .u8 0, .int .u8 0, .int .u8 0, .int .u8 0, .int .u8 0, .int .u8 0, .int .u8 0, .int .u8 0, .int .u8 0, .int .u8 0, .int .u8 0, .int .u8 0]
 have hg1 := hM2.old.size
 have hn1 := fun p hp => Nat.ne_of_lt ((hM2.rows p hp).lt)
 have hn2 := fun p hp => Nat.ne_of_lt (((hM2.box 23 #[.int .u8 0, .int .u8 0, .int .u8 0, .int .u8 0, .int .u8 0, .int .u8 0, .int .u8 0, .int .u8 0, .int .u8 0, .int .u8 0, .int .u8 0, .int .u8 0, .int .u8 0, .int .u8 0, .int .u8 0, .int .u8 0, .int .u8 0, .int .u8 0, .int .u8 0, .int .u8 0, .int .u8 0, .int .u8 0, .int .u8 0, .int .u8 0, .int .u8 0, .int .u8 0, .int .u8 0, .int .u8 0, .int .u8 0, .int .u8 0, .int .u8 0, .int .u8 0]).rows p hp).lt)
 simp only [World.size_alloc] at hB2 hn2
 have hM3 := Ms.set2 (ds := (keyC sec)) (ds' := (keyC mine)) hB2.swap hg1 (by omega) (by omega) hn1 (fun p hp => hn2 p (List.mem_cons_of_mem _ hp))
 have hT3 := hT.below hM3.old
 clear hM2 hn1 hn2
 go_wp2_with (first
  | ((with_reducible refine tsQ 23 ?_); refine srQ 23 (.tmp 12) (.tmp 25) (w2.heap.size) (keyC sec) _ (hB2.get 1 rfl) Hsc.out Hzc.out Hoc.out ?_)
  | ((with_reducible refine tsQ 23 ?_); refine srQ 23 (.tmp 13) (.tmp 26) (w2.heap.size + 1) (keyC mine) _ ((hB2.get 0 rfl).rowFar (by omega) _) Hsn.out Hzn.out Hon.out ?_)
  | ((with_reducible refine tdQ 28 ?_); refine lcQ 23 (.tmp 12) (w2.heap.size) (keyC sec) (hM3.get 0 rfl) Tryz.underlying23 Hsc.out ?_)
  | ((with_reducible refine tdQ 29 ?_); refine lcQ 23 (.tmp 4) (w.heap.size) (keyC p) (hM3.get 4 rfl) Tryz.underlying23 Hsp.out ?_)
  | ((with_reducible refine tdQ 30 ?_); refine lcQ 23 (.tmp 13) (w2.heap.size + 1) (keyC mine) (hM3.get 1 rfl) Tryz.underlying23 Hsn.out ?_)
  | ((with_reducible refine tdQ 31 ?_); refine lcQ 23 (.tmp 4) (w.heap.size) (keyC p) (hM3.get 4 rfl) Tryz.underlying23 Hsp.out ?_))
 refine (hsh _ hT3).mono ?_
 intro e w4 hP
 by_cases hz : mltK sec p = zeroKey
 ·
  obtain ⟨rfl, hb4⟩ := hP.no hz
  have hM4 := (hM3.call hb4).put 23 #[.int .u8 0, .int .u8 0, .int .u8 0, .int .u8 0, .int .u8 0, .int .u8 0, .int .u8 0, .int .u8 0, .int .u8 0, .int .u8 0, .int .u8 0, .int .u8 0, .int .u8 0, .int .u8 0, .int .u8 0, .int .u8 0, .int .u8 0, .int .u8 0, .int .u8 0, .int .u8 0, .int .u8 0, .int .u8 0, .int .u8 0, .int .u8 0, .int .u8 0, .int .u8 0, .int .u8 0, .int .u8 0, .int .u8 0, .int .u8 0, .int .u8 0, .int .u8 0] (keyC zeroKey)
  clear hP hM3 hb4
  go_wp2_with ((with_reducible refine tsQ 23 ?_); refine srQ 23 (.tmp 14) (.tmp 33) (w4.heap.size) (keyC zeroKey) _ (RowC.new _ _ _) (sizeKey rfl) rfl (one_keyF _) ?_)
  (first | refine Hpost.out _ _ ?_ ?_ | refine bodyPost_ret (results_tmp2 rfl _ _ _) rfl (Hpost.out _ _ ?_ ?_))
  ·
   exact hM4.old
  ·
   exact (.inl ⟨by rw [Hbb.out]; exact hz, rfl⟩)
 obtain ⟨rfl, hb4⟩ := hP.yes hz
 rw [← Hbk.out]
 have hz2' : boxBoth p sd ≠ zeroKey := by rw [Hbb.out]; exact hz
 have hM4 := (hM3.call hb4).put 23 #[.int .u8 0, .int .u8 0, .int .u8 0, .int .u8 0, .int .u8 0, .int .u8 0, .int .u8 0, .int .u8 0, .int .u8 0, .int .u8 0, .int .u8 0, .int .u8 0, .int .u8 0, .int .u8 0, .int .u8 0, .int .u8 0, .int .u8 0, .int .u8 0, .int .u8 0, .int .u8 0, .int .u8 0, .int .u8 0, .int .u8 0, .int .u8 0, .int .u8 0, .int .u8 0, .int .u8 0, .int .u8 0, .int .u8 0, .int .u8 0, .int .u8 0, .int .u8 0] (keyC (boxKey p sd))
 clear hP hM3 hb4 Hbk Hbb hsh hpr hbs
 generalize boxKey p sd = kk at *
 go_wp2_with (first
  | ((with_reducible refine tsQ 23 ?_); refine srQ 23 (.tmp 14) (.tmp 33) (w4.heap.size) (keyC kk) _ (RowC.new _ _ _) Hsk.out Hzk.out Hok.out ?_)
  | ((with_reducible refine tdQ 39 ?_); refine lcQ 23 (.tmp 14) (w4.heap.size) (keyC kk) (hM4.get 0 rfl) Tryz.underlying23 Hsk.out ?_))
 have hB4 := hM4.old
 have hse := RSeal_any kk b A m c At mt ct vs ts _ Hkl.out (hr.below hB4 |>.more hB4.size) hm63 hmt htx (hv.below hB4 |>.more hB4.size) ((ht.below hB4).more hB4.size) (hT.below hB4)
 rw [show (kk.map bv).toArray = keyC kk from rfl] at hse
 refine hse.mono ?_
 intro e w5 hP
 by_cases hg : b.length ≤ 1048576 ∧ GoodT ts
 rotate_left
 ·
  obtain ⟨rfl, hb5⟩ := hP.no hg
  have hM5 := hM4.call hb5
  clear hP hM4 hse hb5
  go_wp2_with fail
  (first | refine Hpost.out _ _ ?_ ?_ | refine bodyPost_ret (results_tmp2 rfl _ _ _) rfl (Hpost.out _ _ ?_ ?_))
  ·
   exact hM5.old
  ·
   exact (.inr (.inl ⟨hz2', hg, rfl⟩))
 obtain ⟨A5, c5, rfl, hn5, hb5⟩ := hP.yes hg.1 hg.2
 have hM5 := hM4.call hb5
 have hmr := (hM5.get 2 rfl).rdK Hnl.out
 have hb16 : b.length + 16 ≤ 1048592 := by omega
 clear hP hM4 hse hb5
 go_wp2_with (at_builtin; refine wpList_append_full rfl (.tmp 48) (.tmp 49) _ rfl 5 i0 _ 1 Tryz.underlying24 hi0 hz0 hz1 hz2 rfl _ _ 32 32 (mine.map bv) rfl hmr _ A5 (b.length + 16) c5 _ rfl hn5.1 (by omega) (by omega) (by omega) (by simp only [maxLen]; omega) (by omega) ?_; intro g7 c7 w7 hown7 hb7)
 rw [← List.map_append, ← Hbu.out] at hown7
 (first | refine Hpost.out _ _ ?_ ?_ | refine bodyPost_ret (results_tmp2 rfl _ _ _) rfl (Hpost.out _ _ ?_ ?_))
 ·
  exact (hM5.old.trans (hb7.mono hM5.old.size))
 ·
  exact (.inr (.inr ⟨hz2', hg.1, hg.2, _, _, _, rfl, NewB.of_own hown7 hM5.old.size⟩))
set_option maxRecDepth 100000 in
set_option maxHeartbeats 1000000 in
theorem KeyM_any (A : Option Addr) (m c : Nat) (b : List UInt8) (w : World) (hm : 32 ≤ m) (hr : Rd w w.heap.size A m (b.map bv)) :
  Calls Tryz.prog 23 #[.slice A m c] w fun e w' => e = .returned (.agg (keyC (b.take 32))) ∧ Below w.heap.size w w' := by
 have hbl : b.length = m := by simpa using hr.len
 have Hkl := Lib.hid (show (b.take 32).length = 32 by rw [List.length_take, hbl]; omega)
 have Hb := Lib.hid hbl
 have Hk := Lib.hid (show ∀ j, j < 32 → (b.take 32)[j]? = b[j]? from fun j hj => by rw [List.getElem?_take, if_pos hj])
 generalize b.take 32 = kb at *
 obtain ⟨ba, o, rfl, hba, hcell⟩ := hr.pos (by omega)
 clear hcell hbl
 go_enter Tryz.func23, Tryz.ntmps23
 go_wp2_with fail
 go_loopw [5] (fun i wr => ∃ j : Nat, j ≤ 32 ∧ i = .int .i64 (j : Int) ∧ ArrB wr (w.heap.size + 1) 23 (keyTo kb j) ∧ ArrB wr w.heap.size 23 (List.replicate 32 0) ∧ Rd wr w.heap.size (some ⟨ba, o, none⟩) m (b.map bv) ∧ Below w.heap.size w wr) (fun i _ => 32 - (intOf i).toNat)
 case atStart => exact ⟨0, by omega, rfl, by rw [keyTo_zero]; exact ArrB.mk_ _ _ _ _ (by simp) rfl, (ArrB.mk_ w _ _ (List.replicate 32 0) rfl rfl).alloc _, (hr.alloc (Nat.le_refl _) _).alloc (al0 _ _) _, (d_al _ _).alloc (al0 _ _) _⟩
 case round =>
  obtain ⟨j, hj, rfl, hA, hZ, hR, hB⟩ := hrel
  by_cases hlt : j < 32
  ·
   obtain ⟨y, hy⟩ : ∃ y, b[j]? = some y := ⟨_, List.getElem?_eq_getElem (by have := Hb.out; omega)⟩
   have cb : wr.cell? ⟨ba, o + j, none⟩ = some (.int .u8 (y.toNat : Int)) := by
    obtain ⟨b', o', he, _, hcz⟩ := hR.pos (by omega)
    injection he with he
    injection he with he1 he2
    subst he1 he2
    exact hcz j _ (by rw [List.getElem?_map, hy]; rfl)
   have kl := keyTo_len Hkl.out hj
   obtain ⟨z0, hz0⟩ : ∃ z0, (keyTo kb j)[j]? = some z0 := ⟨_, List.getElem?_eq_getElem (by omega)⟩
   have c0 := hA.cell hz0
   have f0 := hA.frozen j
   have Hs := Lib.hid (keyTo_succ (show kb[j]? = some y by rw [Hk.out j hlt]; exact hy) Hkl.out)
   have hA2 := hA.set_ j y
   rw [← Hs.out] at hA2
   have hZ2 := hZ.far (p := ⟨w.heap.size + 1, j, none⟩) (show w.heap.size ≠ w.heap.size + 1 by omega) (.int .u8 (y.toNat : Int))
   have hR2 := hR.setCell (p := ⟨w.heap.size + 1, j, none⟩) (Nat.le_succ _) (.int .u8 (y.toNat : Int))
   have hB2 := hB.setCell (p := ⟨w.heap.size + 1, j, none⟩) (Nat.le_succ _) (.int .u8 (y.toNat : Int))
   have j0 : (0 : Int) ≤ (j : Int) := by omega
   have j1 : (j : Int) < 32 := by omega
   have j2 : (j : Int) < (m : Int) := by omega
   clear hy hz0 kl
   go_wp2_with fail
   go_roundw
   case rel => exact ⟨j + 1, by omega, by go_num, hA2, hZ2, hR2, hB2⟩
   case measure => simp [intOf]; omega
  ·
   obtain rfl : j = 32 := by omega
   rw [keyTo_all Hkl.out] at hA
   rw [show ((32 : Nat) : Int) = 32 from rfl]
   go_wp2_with (first
    | ((with_reducible refine tdQ 19 ?_); refine wpList_load_row rfl 23 (.tmp 3) rfl (w.heap.size + 1) rfl 23 (kb.map bv).toArray (0, 0) _ hA Tryz.underlying23 rfl (infoK32 Hkl.out) ?_)
    | ((with_reducible refine tsQ 23 ?_); refine wpList_store_row rfl 23 (.tmp 2) (.tmp 19) rfl w.heap.size (kb.map bv).toArray rfl rfl 23 _ hZ (infoK32 Hkl.out) (sizeK Hkl.out) (one_bvA _) ?_))
   exact bodyPost_ret (results_cell_row rfl _ _ w.heap.size 23 _ (0, 0) _ rfl (hZ.row kb) Tryz.underlying23 rfl (infoK32 Hkl.out)) rfl ⟨rfl, below_setRow hB (Nat.le_refl _) _⟩
theorem NewB.from {w w1 w' : World} {A : Option Addr} {n c : Nat} {xs : List UInt8} (h : NewB w1 w' A n c xs) (hb : w.heap.size ≤ w1.heap.size) : NewB w w' A n c xs :=
 ⟨h.1, h.2.1, h.2.2.1, fun ad had => ⟨Nat.le_trans hb (h.2.2.2 ad had).1, (h.2.2.2 ad had).2⟩⟩
theorem OpenPost.from {w w1 w' : World} {k b : List UInt8} {ts : List (List UInt8)} {e : Ending} (h : OpenPost w1 k b ts e w') (hb : Below w.heap.size w w1) : OpenPost w k b ts e w' := by
 obtain ⟨h0, h⟩ := h
 refine ⟨c_call hb h0, ?_⟩
 rcases h with h | h | h | ⟨h1, h2, h3, h4, A, n, c, h5, h6⟩
 ·
  exact .inl h
 ·
  exact .inr (.inl h)
 ·
  exact .inr (.inr (.inl h))
 ·
  exact .inr (.inr (.inr ⟨h1, h2, h3, h4, A, n, c, h5, h6.from hb.size⟩))
theorem OpenPost.form {w w' : World} {k b : List UInt8} {ts : List (List UInt8)} {e : Ending} (h : OpenPost w k b ts e w') : ∃ v er, e = .returned (.tuple #[v, .int .i64 er]) := by
 obtain ⟨_, ⟨_, rfl⟩ | ⟨_, _, rfl⟩ | ⟨_, _, _, _, rfl⟩ | ⟨_, _, _, _, A, n, c, rfl, _⟩⟩ := h <;> exact ⟨_, _, rfl⟩
def UnboxPost (w : World) (s b : List UInt8) (ts : List (List UInt8)) (e : Ending) (w' : World) : Prop :=
 Below w.heap.size w w' ∧ ((b.length < 32 ∧ e = .returned (.tuple #[.slice none 0 0, .int .i64 2])) ∨
  (32 ≤ b.length ∧ unBoth s b = zeroKey ∧ e = .returned (.tuple #[.slice none 0 0, .int .i64 1])) ∨
  (32 ≤ b.length ∧ unBoth s b ≠ zeroKey ∧ OpenPost w (unKey s b) (b.drop 32) ts e w'))
set_option maxRecDepth 100000 in
set_option maxHeartbeats 1000000 in
theorem RKUnbox_any (s b : List UInt8) (A : Option Addr) (m c : Nat) (At : Option Addr) (mt ct : Nat) (vs : List Value) (ts : List (List UInt8)) (w : World) (hs : s.length = 32) (hmc : m ≤ c) (hr : Rd w w.heap.size A m (b.map bv)) (hm63 : c ≤ 9223372036854775807)
  (hmt : mt ≤ 1048576) (htx : GoodT ts → (txs ts).length ≤ 536870912) (hv : Rd w w.heap.size At mt vs) (ht : Txs w w.heap.size vs ts) (hT : KTab w) :
  Calls Tryz.prog 13 #[.agg (keyC s), .slice A m c, .slice At mt ct] w (UnboxPost w s b ts) := by
 have hM0 := (Ms.nil w).box 23 (keyC s)
 have Hss := Lib.hid (sizeKey hs)
 have Hsl := Lib.hid hs
 have Hbl := Lib.hid (show b.length = m by simpa using hr.len)
 have Hpost := Lib.hid (show ∀ e w', Below w.heap.size w w' → ((b.length < 32 ∧ e = .returned (.tuple #[.slice none 0 0, .int .i64 2])) ∨
  (32 ≤ b.length ∧ unBoth s b = zeroKey ∧ e = .returned (.tuple #[.slice none 0 0, .int .i64 1])) ∨
  (32 ≤ b.length ∧ unBoth s b ≠ zeroKey ∧ OpenPost w (unKey s b) (b.drop 32) ts e w')) → UnboxPost w s b ts e w' from fun _ _ h1 h2 => ⟨h1, h2⟩)
 generalize UnboxPost w s b ts = PO at *
 clear hs
 go_enter Tryz.func13, Tryz.ntmps13
 by_cases h32 : m < 32
 ·
  have h32' : (m : Int) < 32 := by omega
  go_wp2_with fail
  (first | refine Hpost.out _ _ ?_ ?_ | refine bodyPost_ret (results_tmp2 rfl _ _ _) rfl (Hpost.out _ _ ?_ ?_))
  ·
   exact hM0.old
  ·
   exact (.inl ⟨by rw [Hbl.out]; exact h32, rfl⟩)
 have h32' : ¬ (m : Int) < 32 := by omega
 have H32 := Lib.hid (show 32 ≤ m by omega)
 have hky := fun wx (hb : Below w.heap.size w wx) => KeyM_any A m c b wx (by omega) (d_rd hr hb)
 have hol : (b.take 32).length = 32 := by rw [List.length_take, Hbl.out]; omega
 have Hso := Lib.hid (sizeKey hol)
 have Hoo := Lib.hid (one_keyF (b.take 32))
 have Hzo := Lib.hid (zkS (l := (b.take 32)) (by rw [hol]))
 have hbase := fun wx => RBase_p s wx Hsl.out
 obtain ⟨x, er, hxl, hrel, hsh⟩ : ∃ (x : List UInt8) (er : Int), x.length = 32 ∧ ((unBoth s b = zeroKey ∧ er = 1) ∨ (unBoth s b ≠ zeroKey ∧ er = 0 ∧ x = unKey s b)) ∧
   ∀ wx, KTab wx → Calls Tryz.prog 15 #[.agg (keyC s), .agg (keyC (b.take 32)), .agg (keyC (b.take 32)), .agg (keyC (mltK s nineL))] wx fun e w' => e = .returned (.tuple #[.agg (keyC x), .int .i64 er]) ∧ Below wx.heap.size wx w' := by
  by_cases hz : unBoth s b = zeroKey
  ·
   exact ⟨zeroKey, 1, rfl, .inl ⟨hz, rfl⟩, fun wx hk => (RShared_any s (b.take 32) (b.take 32) (mltK s nineL) wx Hsl.out hol hol (mltK_len _ _) hk).mono fun e w' h => h.no hz⟩
  ·
   exact ⟨unKey s b, 0, twoU_len _ _ _, .inr ⟨hz, rfl, rfl⟩, fun wx hk => (RShared_any s (b.take 32) (b.take 32) (mltK s nineL) wx Hsl.out hol hol (mltK_len _ _) hk).mono fun e w' h => h.yes hz⟩
 have Hsx := Lib.hid (sizeKey hxl)
 have Hox := Lib.hid (one_keyF x)
 have Hzx := Lib.hid (zkS (l := x) (by rw [hxl]))
 have Hxl := Lib.hid hxl
 have Hrel := Lib.hid hrel
 clear hol hxl hrel
 generalize b.take 32 = o at *
 generalize mltK s nineL = pt at *
 go_wp2_with fail
 refine (hky _ hM0.old).mono ?_
 rintro e w1 ⟨rfl, hb1⟩
 have hP1 := (hM0.call hb1).put 23 #[.int .u8 0, .int .u8 0, .int .u8 0, .int .u8 0, .int .u8 0, .int .u8 0, .int .u8 0, .int .u8 0, .int .u8 0, .int .u8 0, .int .u8 0, .int .u8 0, .int .u8 0, .int .u8 0, .int .u8 0, .int .u8 0, .int .u8 0, .int .u8 0, .int .u8 0, .int .u8 0, .int .u8 0, .int .u8 0, .int .u8 0, .int .u8 0, .int .u8 0, .int .u8 0, .int .u8 0, .int .u8 0, .int .u8 0, .int .u8 0, .int .u8 0, .int .u8 0] (keyC o)
 clear hM0 hb1 hky
 go_upto_region 4 with ((with_reducible refine tsQ 23 ?_); refine srQ 23 (.tmp 8) (.tmp 15) (w1.heap.size) (keyC o) _ (RowC.new _ _ _) Hso.out Hzo.out Hoo.out ?_)
 try simp only [Act.put]
 refine wp_gen (fun wx => Ms w wx [(w1.heap.size, 23, keyC o), (w.heap.size, 23, keyC s)]) hP1 ?_
 clear hP1
 rintro v1 hM
 generalize w1.heap.size = g8 at *
 have hT1 := hT.below hM.old
 go_cut [9, 10] (fun p q wx => ∃ g : Nat, p = .pointer (some ⟨g, 0, none⟩) ∧ q = .int .i64 er ∧ Ms w wx [(g, 23, keyC x), (g8, 23, keyC o), (w.heap.size, 23, keyC s)])
 case first =>
  have hun := Tryz.underlying23
  have hkeep : ∀ wx : World, Below v1.heap.size v1 wx → wx.rangeAt g8 0 (keyC o).toList ∧ wx.rangeAt w.heap.size 0 (keyC s).toList := fun wx hb => ⟨((hM.get 0 rfl).call hb).range, ((hM.get 1 rfl).call hb).range⟩
  have hso : (Tryz.prog.info? 23).map (·.size) = some (keyC o).toList.length := by simpa using Hso.out
  have hss : (Tryz.prog.info? 23).map (·.size) = some (keyC s).toList.length := by simpa using Hss.out
  have hD := hM.drew
  refine beginT (fun wx => wx.rangeAt g8 0 (keyC o).toList ∧ wx.rangeAt w.heap.size 0 (keyC s).toList) 11 (by kernel_rfl) ?_
  have hS := hkeep _ (c_drew (c_refl _))
  refine ldQ 0 (some 17) 23 (.tmp 3) w.heap.size 0 (keyC s).toList (fun wx hSw => hSw.2) hun hss (fun _ _ _ h => h) hS ?_
  simp only [Act.put, sA, sZ, sS, Array.toArray_toList]
  refine ldQ 1 (some 18) 23 (.tmp 8) g8 0 (keyC o).toList (fun wx hSw => hSw.1) hun hso (fun _ _ _ h => h) hS ?_
  simp only [Act.put, sA, sZ, sS, Array.toArray_toList]
  refine ldQ 2 (some 19) 23 (.tmp 8) g8 0 (keyC o).toList (fun wx hSw => hSw.1) hun hso (fun _ _ _ h => h) hS ?_
  simp only [Act.put, sA, sZ, sS, Array.toArray_toList]
  refine ldQ 3 (some 20) 23 (.tmp 3) w.heap.size 0 (keyC s).toList (fun wx hSw => hSw.2) hun hss (fun _ _ _ h => h) hS ?_
  simp only [Act.put, sA, sZ, sS, Array.toArray_toList]
  refine rd2 4 9 (fun K hK => ?_) fun K hK => ?_
  ·
   go_simp
   refine (hbase _).mono ?_
   rintro e x1 ⟨rfl, hx1⟩
   refine kp hK hkeep ?_
   clear hK K
   have hN1 := hD.call hx1
   refine rd2 5 9 (fun K hK => ?_) fun K hK => ?_
   ·
    go_simp
    refine (hsh _ (hT.below (hN1).old)).mono ?_
    rintro e x2 ⟨rfl, hx2⟩
    refine kp hK hkeep ?_
    clear hK K
    have hN2 := hN1.call hx2
    have hS9 := hkeep x2 bl
    refine tk 6 (some 16) (.tuple #[.agg (keyC x), .int .i64 er]) (fun _ _ _ h => h) hS9 ?_
    simp only [Act.put, sA, sZ, sS]
    refine tk 7 (some 23) (.agg (keyC x)) (fun _ _ _ h => h) hS9 ?_
    simp only [Act.put, sA, sZ, sS]
    refine tk 8 (some 24) (.int .i64 er) (fun _ _ _ h => h) hS9 ?_
    simp only [Act.put, sA, sZ, sS]
    refine on1 9 fun K hK => ?_
    go_simp
    refine kp hK hkeep ?_
    clear hK K
    have hnx := fun p hp => Nat.ne_of_lt ((hN2.rows p hp).lt)
    have hgx := hN2.old.size
    have hN3 := hN2.box 23 #[.int .u8 0, .int .u8 0, .int .u8 0, .int .u8 0, .int .u8 0, .int .u8 0, .int .u8 0, .int .u8 0, .int .u8 0, .int .u8 0, .int .u8 0, .int .u8 0, .int .u8 0, .int .u8 0, .int .u8 0, .int .u8 0, .int .u8 0, .int .u8 0, .int .u8 0, .int .u8 0, .int .u8 0, .int .u8 0, .int .u8 0, .int .u8 0, .int .u8 0, .int .u8 0, .int .u8 0, .int .u8 0, .int .u8 0, .int .u8 0, .int .u8 0, .int .u8 0]
    have hset := Ms.set hN3 hgx hnx (keyC x)
    refine on1 10 fun K hK => ?_
    refine step_store_row rfl 23 (.tmp 9) (.tmp 23) rfl (x2.heap.size) (keyC x) rfl rfl 23 _ (hN3.get 0 rfl) Hsx.out Hzx.out Hox.out ?_
    refine hK.out _ _ (fun _ => ⟨(hset.get 1 rfl).range, (hset.get 2 rfl).range⟩) ?_
    clear hK K
    refine on1 11 fun K hK => ?_
    go_simp
    refine hK.out _ _ (fun h => absurd rfl h) ?_
    clear hK K
    refine doneT (by kernel_rfl) ?_ _
    go_wp2_with fail
    go_meet
    exact ⟨_, rfl, rfl, hset⟩
   ·
    go_simp
    refine kp hK hkeep ?_
    clear hK K
    have hnx := fun p hp => Nat.ne_of_lt ((hN1.rows p hp).lt)
    have hgx := hN1.old.size
    have hN2 := hN1.box 23 #[.int .u8 0, .int .u8 0, .int .u8 0, .int .u8 0, .int .u8 0, .int .u8 0, .int .u8 0, .int .u8 0, .int .u8 0, .int .u8 0, .int .u8 0, .int .u8 0, .int .u8 0, .int .u8 0, .int .u8 0, .int .u8 0, .int .u8 0, .int .u8 0, .int .u8 0, .int .u8 0, .int .u8 0, .int .u8 0, .int .u8 0, .int .u8 0, .int .u8 0, .int .u8 0, .int .u8 0, .int .u8 0, .int .u8 0, .int .u8 0, .int .u8 0, .int .u8 0]
    refine on1 5 fun K hK => ?_
    go_simp
    refine (hsh _ (hT.below (hN2).old)).mono ?_
    rintro e x3 ⟨rfl, hx3⟩
    refine kp hK hkeep ?_
    clear hK K
    have hN3 := hN2.call hx3
    have hS9 := hkeep x3 bl
    refine tk 6 (some 16) (.tuple #[.agg (keyC x), .int .i64 er]) (fun _ _ _ h => h) hS9 ?_
    simp only [Act.put, sA, sZ, sS]
    refine tk 7 (some 23) (.agg (keyC x)) (fun _ _ _ h => h) hS9 ?_
    simp only [Act.put, sA, sZ, sS]
    refine tk 8 (some 24) (.int .i64 er) (fun _ _ _ h => h) hS9 ?_
    simp only [Act.put, sA, sZ, sS]
    have hset := Ms.set hN3 hgx hnx (keyC x)
    refine on1 10 fun K hK => ?_
    refine step_store_row rfl 23 (.tmp 9) (.tmp 23) rfl (x1.heap.size) (keyC x) rfl rfl 23 _ (hN3.get 0 rfl) Hsx.out Hzx.out Hox.out ?_
    refine hK.out _ _ (fun _ => ⟨(hset.get 1 rfl).range, (hset.get 2 rfl).range⟩) ?_
    clear hK K
    refine on1 11 fun K hK => ?_
    go_simp
    refine hK.out _ _ (fun h => absurd rfl h) ?_
    clear hK K
    refine doneT (by kernel_rfl) ?_ _
    go_wp2_with fail
    go_meet
    exact ⟨_, rfl, rfl, hset⟩
  ·
   go_simp
   refine kp hK hkeep ?_
   clear hK K
   have hnx := fun p hp => Nat.ne_of_lt ((hD.rows p hp).lt)
   have hgx := hD.old.size
   have hN1 := hD.box 23 #[.int .u8 0, .int .u8 0, .int .u8 0, .int .u8 0, .int .u8 0, .int .u8 0, .int .u8 0, .int .u8 0, .int .u8 0, .int .u8 0, .int .u8 0, .int .u8 0, .int .u8 0, .int .u8 0, .int .u8 0, .int .u8 0, .int .u8 0, .int .u8 0, .int .u8 0, .int .u8 0, .int .u8 0, .int .u8 0, .int .u8 0, .int .u8 0, .int .u8 0, .int .u8 0, .int .u8 0, .int .u8 0, .int .u8 0, .int .u8 0, .int .u8 0, .int .u8 0]
   refine on1 4 fun K hK => ?_
   go_simp
   refine (hbase _).mono ?_
   rintro e x2 ⟨rfl, hx2⟩
   refine kp hK hkeep ?_
   clear hK K
   have hN2 := hN1.call hx2
   refine on1 5 fun K hK => ?_
   go_simp
   refine (hsh _ (hT.below (hN2).old)).mono ?_
   rintro e x3 ⟨rfl, hx3⟩
   refine kp hK hkeep ?_
   clear hK K
   have hN3 := hN2.call hx3
   have hS9 := hkeep x3 bl
   refine tk 6 (some 16) (.tuple #[.agg (keyC x), .int .i64 er]) (fun _ _ _ h => h) hS9 ?_
   simp only [Act.put, sA, sZ, sS]
   refine tk 7 (some 23) (.agg (keyC x)) (fun _ _ _ h => h) hS9 ?_
   simp only [Act.put, sA, sZ, sS]
   refine tk 8 (some 24) (.int .i64 er) (fun _ _ _ h => h) hS9 ?_
   simp only [Act.put, sA, sZ, sS]
   have hset := Ms.set hN3 hgx hnx (keyC x)
   refine on1 10 fun K hK => ?_
   refine step_store_row rfl 23 (.tmp 9) (.tmp 23) rfl (v1.drew.heap.size) (keyC x) rfl rfl 23 _ (hN3.get 0 rfl) Hsx.out Hzx.out Hox.out ?_
   refine hK.out _ _ (fun _ => ⟨(hset.get 1 rfl).range, (hset.get 2 rfl).range⟩) ?_
   clear hK K
   refine on1 11 fun K hK => ?_
   go_simp
   refine hK.out _ _ (fun h => absurd rfl h) ?_
   clear hK K
   refine doneT (by kernel_rfl) ?_ _
   go_wp2_with fail
   go_meet
   exact ⟨_, rfl, rfl, hset⟩
 case rest =>
  obtain ⟨g9, rfl, rfl, hM4⟩ := hcut
  clear hM hsh hbase
  rcases Hrel.out with ⟨hz, rfl⟩ | ⟨hz, rfl, hx⟩
  ·
   go_wp2_with fail
   (first | refine Hpost.out _ _ ?_ ?_ | refine bodyPost_ret (results_tmp2 rfl _ _ _) rfl (Hpost.out _ _ ?_ ?_))
   ·
    exact hM4.old
   ·
    exact (.inr (.inl ⟨by rw [Hbl.out]; exact H32.out, hz, rfl⟩))
  have Hx := Lib.hid hx
  clear hx
  have hBc := hM4.old
  have h32c := H32.out
  have hun := Tryz.underlying23
  have hsx : (Tryz.prog.info? 23).map (·.size) = some (keyC x).toList.length := by simpa using Hsx.out
  have k32 : (32 : Int) ≤ (m : Int) := by omega
  have k33 : (32 : Int) ≤ (c : Int) := by omega
  have k34 : (m : Int) ≤ (c : Int) := by omega
  by_cases hc : c = 32
  ·
   have hkeep : ∀ wx : World, Below wc.heap.size wc wx → wx.rangeAt g9 0 (keyC x).toList := fun wx hb => ((hM4.get 0 rfl).call hb).range
   have hm32 : m = 32 := by have := H32.out; omega
   subst hc hm32
   have hd : b.drop 32 = [] := List.drop_of_length_le (by rw [Hbl.out]; omega)
   have hrd : Rd w w.heap.size A 0 ((b.drop 32).map bv) := by rw [hd]; exact Rd.zero _ _ _
   clear hd
   have hopn := fun wx (hb : Below wc.heap.size wc wx) => ROpen_any x (b.drop 32) A 0 0 At mt ct vs ts wx Hxl.out (by omega) (d_rd hrd (c_call hBc hb)) (by omega) hmt htx (d_rd hv (c_call hBc hb)) (d_txs ht (c_call hBc hb)) (hT.below (c_call hBc hb))
   rw [show (x.map bv).toArray = keyC x from rfl] at hopn
   have Hopn := Lib.hid hopn
   clear hopn hrd
   go_wp2_with fail
   refine beginT (fun wx => wx.rangeAt g9 0 (keyC x).toList) 9 (by kernel_rfl) ?_
   have hS := hkeep _ (c_drew (c_refl _))
   refine ldQ 0 (some 28) 23 (.tmp 9) g9 0 (keyC x).toList (fun wx hSw => hSw) hun hsx (fun _ _ _ h => h) hS ?_
   simp only [Act.put, sA, sZ, sS, Array.toArray_toList]
   refine tk 1 (some 29) (.slice A 32 32) (fun _ _ _ h => h) hS ?_
   simp only [Act.put, sA, sZ, sS]
   refine tk 2 (some 30) (.slice A 0 0) (fun _ _ _ h => h) hS ?_
   simp only [Act.put, sA, sZ, sS]
   refine tk 3 (some 31) (.slice At mt ct) (fun _ _ _ h => h) hS ?_
   simp only [Act.put, sA, sZ, sS]
   refine on1 4 fun K hK => ?_
   go_simp
   refine (Hopn.out _ bl).mono ?_
   intro e x1 hP
   obtain ⟨v, er2, rfl⟩ := hP.form
   have hx1 := hP.1
   refine kp hK hkeep ?_
   clear hK K
   have hS9 := hkeep x1 bl
   have hE : Below wc.heap.size wc x1 := bl
   refine tk 5 (some 33) v (fun _ _ _ h => h) hS9 ?_
   simp only [Act.put, sA, sZ, sS]
   refine tk 6 (some 34) (.int .i64 er2) (fun _ _ _ h => h) hS9 ?_
   simp only [Act.put, sA, sZ, sS]
   refine on1 7 fun K hK => ?_
   go_simp
   refine hK.out _ _ (fun _ => hS9) ?_
   clear hK K
   refine on1 8 fun K hK => ?_
   go_simp
   refine hK.out _ _ (fun _ => hS9) ?_
   clear hK K
   refine doneT (by kernel_rfl) ?_ _
   have hP2 : OpenPost w x (b.drop 32) ts (.returned (.tuple #[v, .int .i64 er2])) x1 := hP.from (c_drew hBc)
   rw [Hx.out] at hP2
   have HP2 := Lib.hid hP2
   clear hP hP2
   go_wp2_with fail
   (first | refine Hpost.out _ _ ?_ ?_ | refine bodyPost_ret (results_tmp2 rfl _ _ _) rfl (Hpost.out _ _ ?_ ?_))
   ·
    exact c_call hBc hE
   ·
    exact .inr (.inr ⟨by rw [Hbl.out]; exact H32.out, hz, HP2.out⟩)
  ·
   have hkeep : ∀ wx : World, Below wc.heap.size wc wx → wx.rangeAt g9 0 (keyC x).toList := fun wx hb => ((hM4.get 0 rfl).call hb).range
   have hrd := hr.cut (show 32 ≤ m from H32.out) hmc
   rw [← List.map_drop, if_neg hc] at hrd
   have hopn := fun wx (hb : Below wc.heap.size wc wx) => ROpen_any x (b.drop 32) (A.map (·.add 32)) (m - 32) (c - 32) At mt ct vs ts wx Hxl.out (by omega) (d_rd hrd (c_call hBc hb)) (by omega) hmt htx (d_rd hv (c_call hBc hb)) (d_txs ht (c_call hBc hb)) (hT.below (c_call hBc hb))
   rw [show (x.map bv).toArray = keyC x from rfl] at hopn
   have Hopn := Lib.hid hopn
   clear hopn hrd
   go_wp2_with fail
   refine beginT (fun wx => wx.rangeAt g9 0 (keyC x).toList) 9 (by kernel_rfl) ?_
   have hS := hkeep _ (c_drew (c_refl _))
   refine ldQ 0 (some 28) 23 (.tmp 9) g9 0 (keyC x).toList (fun wx hSw => hSw) hun hsx (fun _ _ _ h => h) hS ?_
   simp only [Act.put, sA, sZ, sS, Array.toArray_toList]
   refine tk 1 (some 29) (.slice A m c) (fun _ _ _ h => h) hS ?_
   simp only [Act.put, sA, sZ, sS]
   refine tk 2 (some 30) (.slice (A.map (·.add 32)) (m - 32) (c - 32)) (fun _ _ _ h => h) hS ?_
   simp only [Act.put, sA, sZ, sS]
   refine tk 3 (some 31) (.slice At mt ct) (fun _ _ _ h => h) hS ?_
   simp only [Act.put, sA, sZ, sS]
   refine on1 4 fun K hK => ?_
   go_simp
   refine (Hopn.out _ bl).mono ?_
   intro e x1 hP
   obtain ⟨v, er2, rfl⟩ := hP.form
   have hx1 := hP.1
   refine kp hK hkeep ?_
   clear hK K
   have hS9 := hkeep x1 bl
   have hE : Below wc.heap.size wc x1 := bl
   refine tk 5 (some 33) v (fun _ _ _ h => h) hS9 ?_
   simp only [Act.put, sA, sZ, sS]
   refine tk 6 (some 34) (.int .i64 er2) (fun _ _ _ h => h) hS9 ?_
   simp only [Act.put, sA, sZ, sS]
   refine on1 7 fun K hK => ?_
   go_simp
   refine hK.out _ _ (fun _ => hS9) ?_
   clear hK K
   refine on1 8 fun K hK => ?_
   go_simp
   refine hK.out _ _ (fun _ => hS9) ?_
   clear hK K
   refine doneT (by kernel_rfl) ?_ _
   have hP2 : OpenPost w x (b.drop 32) ts (.returned (.tuple #[v, .int .i64 er2])) x1 := hP.from (c_drew hBc)
   rw [Hx.out] at hP2
   have HP2 := Lib.hid hP2
   clear hP hP2
   go_wp2_with fail
   (first | refine Hpost.out _ _ ?_ ?_ | refine bodyPost_ret (results_tmp2 rfl _ _ _) rfl (Hpost.out _ _ ?_ ?_))
   ·
    exact c_call hBc hE
   ·
    exact .inr (.inr ⟨by rw [Hbl.out]; exact H32.out, hz, HP2.out⟩)
noncomputable def sealE (b : List UInt8) (ts : List (List UInt8)) : Int := by
 classical exact if b.length ≤ 1048576 ∧ GoodT ts then 0 else 4
noncomputable def sealX (k b : List UInt8) (ts : List (List UInt8)) : List UInt8 := by
 classical exact if b.length ≤ 1048576 ∧ GoodT ts then sealU k b ts else []
noncomputable def openE (k b : List UInt8) (ts : List (List UInt8)) : Int := by
 classical exact if b.length < 16 then 2 else if ¬ (b.length ≤ 1048592 ∧ GoodT ts) then 4 else if ¬ soundU k b ts then 5 else 0
noncomputable def openX (k b : List UInt8) (ts : List (List UInt8)) : List UInt8 := by
 classical exact if b.length < 16 then [] else if ¬ (b.length ≤ 1048592 ∧ GoodT ts) then [] else if ¬ soundU k b ts then [] else openU k b
theorem NewB.none_ {w w' : World} (hb : Below w.heap.size w w') : NewB w w' none 0 0 [] := ⟨Rd.zero _ _ _, Nat.le_refl _, by simp [maxLen], fun _ h => by cases h⟩
theorem SealPost.get {w w' : World} {k b : List UInt8} {ts : List (List UInt8)} {e : Ending} (h : SealPost w k b ts e w') :
  ∃ A n c, e = .returned (.tuple #[.slice A n c, .int .i64 (sealE b ts)]) ∧ NewB w w' A n c (sealX k b ts) ∧ Below w.heap.size w w' := by
 classical
 by_cases hg : b.length ≤ 1048576 ∧ GoodT ts
 ·
  obtain ⟨A, c, h1, h2, h3⟩ := h.yes hg.1 hg.2
  exact ⟨A, _, c, by rw [h1, sealE, if_pos hg], by rw [sealX, if_pos hg]; exact h2, h3⟩
 ·
  obtain ⟨h1, h2⟩ := h.no hg
  exact ⟨none, 0, 0, by rw [h1, sealE, if_neg hg], by rw [sealX, if_neg hg]; exact NewB.none_ h2, h2⟩
theorem OpenPost.get {w w' : World} {k b : List UInt8} {ts : List (List UInt8)} {e : Ending} (h : OpenPost w k b ts e w') :
  ∃ A n c, e = .returned (.tuple #[.slice A n c, .int .i64 (openE k b ts)]) ∧ NewB w w' A n c (openX k b ts) ∧ Below w.heap.size w w' := by
 classical
 by_cases h0 : b.length < 16
 ·
  obtain ⟨h1, h2⟩ := h.short h0
  exact ⟨none, 0, 0, by rw [h1, openE, if_pos h0], by rw [openX, if_pos h0]; exact NewB.none_ h2, h2⟩
 ·
  by_cases hg : b.length ≤ 1048592 ∧ GoodT ts
  ·
   by_cases hs : soundU k b ts
   ·
    obtain ⟨A, c, h1, h2, h3⟩ := h.yes (by omega) hg.1 hg.2 hs
    exact ⟨A, _, c, by rw [h1, openE, if_neg h0, if_neg (not_not_intro hg), if_neg (not_not_intro hs)], by rw [openX, if_neg h0, if_neg (not_not_intro hg), if_neg (not_not_intro hs)]; exact h2, h3⟩
   ·
    obtain ⟨h1, h2⟩ := h.bad (by omega) hg.1 hg.2 hs
    exact ⟨none, 0, 0, by rw [h1, openE, if_neg h0, if_neg (not_not_intro hg), if_pos hs], by rw [openX, if_neg h0, if_neg (not_not_intro hg), if_pos hs]; exact NewB.none_ h2, h2⟩
  ·
   obtain ⟨h1, h2⟩ := h.long (by omega) hg
   exact ⟨none, 0, 0, by rw [h1, openE, if_neg h0, if_pos hg], by rw [openX, if_neg h0, if_pos hg]; exact NewB.none_ h2, h2⟩
end Go.Proofs.YtbiijdboolpaeaaGreatDoor
