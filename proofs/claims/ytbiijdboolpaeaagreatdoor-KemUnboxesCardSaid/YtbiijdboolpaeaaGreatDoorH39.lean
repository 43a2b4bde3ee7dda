import Derived.Test.YtbiijdboolpaeaaGreatDoorH37
import Derived.Test.YtbiijdboolpaeaaGreatDoorH38
import Derived.Test.YtbiijdboolpaeaaGreatDoorH29
set_option linter.unusedVariables false
namespace Go.Proofs.YtbiijdboolpaeaaGreatDoor
open Go.RowKit
def PKP : Prop := ∀ (k : List UInt8) (w : World), k.length = 32 → CTab w → Calls Tryz.prog 7 #[.agg (keyC k)] w fun e w' => e = .returned (.tuple #[.agg (keyC (secretU k)), .agg (keyC (pointU k))]) ∧ Below w.heap.size w w'
def PKS : Prop := ∀ (a b m t : List UInt8) (w : World), a.length = 32 → b.length = 32 → m.length = 32 → t.length = 32 → CTab w → Calls Tryz.prog 14 #[.agg (keyC a), .agg (keyC b), .agg (keyC m), .agg (keyC t)] w (SharedPost w a b m t)
def PKB : Prop := ∀ (p sd b : List UInt8) (A : Option Addr) (m c : Nat) (At : Option Addr) (mt ct : Nat) (vs : List Value) (ts : List (List UInt8)) (w : World), p.length = 32 → sd.length = 32 → m ≤ c → c ≤ maxLen → Rd w w.heap.size A m (b.map bv) → mt ≤ ct → ct ≤ maxLen → mt ≤ 200 → fewSum ts ≤ 140000 → Rd w w.heap.size At mt vs → Txs w w.heap.size vs ts → CTab w →
 Calls Tryz.prog 9 #[.agg (keyC p), .agg (keyC sd), .slice A m c, .slice At mt ct] w (BoxPost w p sd b ts)
def PKU : Prop := ∀ (s b : List UInt8) (A : Option Addr) (m c : Nat) (At : Option Addr) (mt ct : Nat) (vs : List Value) (ts : List (List UInt8)) (w : World), s.length = 32 → m ≤ c → c ≤ maxLen → Rd w w.heap.size A m (b.map bv) → mt ≤ ct → ct ≤ maxLen → mt ≤ 200 → fewSum ts ≤ 140000 → Rd w w.heap.size At mt vs → Txs w w.heap.size vs ts → CTab w →
 Calls Tryz.prog 12 #[.agg (keyC s), .slice A m c, .slice At mt ct] w (UnboxPost w s b ts)
theorem txs_lenK (ts : List (List UInt8)) : (txs ts).length = ts.flatten.length + 2 * ts.length := by
 induction ts with
 | nil => rfl
 | cons t r ih => rw [txs_cons]; simp only [List.length_append, List.flatten_cons, List.length_cons, be_length, ih]; omega
theorem few_txsK {ts : List (List UInt8)} {mt : Nat} (hl : ts.length = mt) (hm : mt ≤ 200) (hf : fewSum ts ≤ 140000) : GoodT ts → (txs ts).length ≤ 536870912 := by
 intro hg
 have h := fewSum_good ts (fun t ht => by
  obtain ⟨i, hi⟩ := List.getElem?_of_mem ht
  have := hg i t hi
  omega)
 rw [txs_lenK]
 omega
theorem BoxPost.yes {w w' : World} {p s b : List UInt8} {ts : List (List UInt8)} {e : Ending} (h : BoxPost w p s b ts e w') (hz : boxBoth p s ≠ zeroKey) (hl : b.length ≤ 1048576) (hg : GoodT ts) :
  ∃ A c, e = .returned (.tuple #[.slice A (b.length + 48) c, .int .i64 0]) ∧ NewB w w' A (b.length + 48) c (kboxU p s b ts) ∧ Below w.heap.size w w' := by
 obtain ⟨hb, ⟨h1, _⟩ | ⟨_, h1, _⟩ | ⟨_, _, _, A, n, c, rfl, hn⟩⟩ := h
 ·
  exact absurd h1 hz
 ·
  exact absurd ⟨hl, hg⟩ h1
 ·
  have hl2 : n = b.length + 48 := by
   have := hn.1.len
   rw [List.length_map, kboxU_len] at this
   omega
  subst hl2
  exact ⟨A, c, rfl, hn, hb⟩
noncomputable def boxE (p s b : List UInt8) (ts : List (List UInt8)) : Int := by
 classical exact if boxBoth p s = zeroKey then 1 else if ¬ (b.length ≤ 1048576 ∧ GoodT ts) then 4 else 0
noncomputable def boxX (p s b : List UInt8) (ts : List (List UInt8)) : List UInt8 := by
 classical exact if boxBoth p s = zeroKey then [] else if ¬ (b.length ≤ 1048576 ∧ GoodT ts) then [] else kboxU p s b ts
theorem BoxPost.get {w w' : World} {p s b : List UInt8} {ts : List (List UInt8)} {e : Ending} (h : BoxPost w p s b ts e w') :
  ∃ A n c, e = .returned (.tuple #[.slice A n c, .int .i64 (boxE p s b ts)]) ∧ NewB w w' A n c (boxX p s b ts) ∧ Below w.heap.size w w' := by
 classical
 obtain ⟨hb, ⟨h1, h2⟩ | ⟨h1, h2, h3⟩ | ⟨h1, h2, h3, A, n, c, h4, h5⟩⟩ := h
 ·
  exact ⟨none, 0, 0, by rw [h2, boxE, if_pos h1], by rw [boxX, if_pos h1]; exact NewB.none_ hb, hb⟩
 ·
  exact ⟨none, 0, 0, by rw [h3, boxE, if_neg h1, if_pos h2], by rw [boxX, if_neg h1, if_pos h2]; exact NewB.none_ hb, hb⟩
 ·
  exact ⟨A, n, c, by rw [h4, boxE, if_neg h1, if_neg (not_not_intro ⟨h2, h3⟩)], by rw [boxX, if_neg h1, if_neg (not_not_intro ⟨h2, h3⟩)]; exact h5, hb⟩
noncomputable def unE (s b : List UInt8) (ts : List (List UInt8)) : Int := by
 classical exact if b.length < 32 then 2 else if unBoth s b = zeroKey then 1 else openE (unKey s b) (b.drop 32) ts
noncomputable def unX (s b : List UInt8) (ts : List (List UInt8)) : List UInt8 := by
 classical exact if b.length < 32 then [] else if unBoth s b = zeroKey then [] else openX (unKey s b) (b.drop 32) ts
theorem UnboxPost.get {w w' : World} {s b : List UInt8} {ts : List (List UInt8)} {e : Ending} (h : UnboxPost w s b ts e w') :
  ∃ A n c, e = .returned (.tuple #[.slice A n c, .int .i64 (unE s b ts)]) ∧ NewB w w' A n c (unX s b ts) ∧ Below w.heap.size w w' := by
 classical
 obtain ⟨hb, ⟨h1, h2⟩ | ⟨h1, h2, h3⟩ | ⟨h1, h2, h3⟩⟩ := h
 ·
  exact ⟨none, 0, 0, by rw [h2, unE, if_pos h1], by rw [unX, if_pos h1]; exact NewB.none_ hb, hb⟩
 ·
  exact ⟨none, 0, 0, by rw [h3, unE, if_neg (by omega), if_pos h2], by rw [unX, if_neg (by omega), if_pos h2]; exact NewB.none_ hb, hb⟩
 ·
  obtain ⟨A, n, c, h4, h5, h6⟩ := h3.get
  exact ⟨A, n, c, by rw [h4, unE, if_neg (by omega), if_neg h2], by rw [unX, if_neg (by omega), if_neg h2]; exact h5, h6⟩
noncomputable def shE (s o : List UInt8) : Int := by
 classical exact if mltK s o = zeroKey then 1 else 0
noncomputable def shX (s o m t : List UInt8) : List UInt8 := by
 classical exact if mltK s o = zeroKey then zeroKey else twoU (mltK s o) m t
theorem shX_len (s o m t : List UInt8) : (shX s o m t).length = 32 := by
 unfold shX
 split
 ·
  rfl
 ·
  exact twoU_len _ _ _
theorem SharedPost.get {w w' : World} {s o m t : List UInt8} {e : Ending} (h : SharedPost w s o m t e w') :
  e = .returned (.tuple #[.agg (keyC (shX s o m t)), .int .i64 (shE s o)]) ∧ Below w.heap.size w w' := by
 classical
 by_cases hz : mltK s o = zeroKey
 ·
  obtain ⟨h1, h2⟩ := h.no hz
  exact ⟨by rw [h1, shX, shE, if_pos hz, if_pos hz], h2⟩
 ·
  obtain ⟨h1, h2⟩ := h.yes hz
  exact ⟨by rw [h1, shX, shE, if_neg hz, if_neg hz], h2⟩
set_option maxRecDepth 100000 in
theorem live_both : boxBoth (pointU (1 :: List.replicate 31 0)) (2 :: List.replicate 31 0) ≠ zeroKey := by decide +kernel
set_option maxRecDepth 100000 in
set_option maxHeartbeats 2000000 in
theorem live08 (hP : PKP) (hB : PKB) (w : World) (hT : CTab w) :
  Calls Tryz.prog 5 #[] w fun e w' => e = .returned (.bool true) ∧ Below w.heap.size w w' := by
 have hp1 := hP (1 :: List.replicate 31 0) w rfl hT
 have Hlb := Lib.hid live_both
 have hsl := secretU_len (1 :: List.replicate 31 0)
 have hpl := pointU_len (1 :: List.replicate 31 0)
 have Hpl := Lib.hid hpl
 have Hs1 := Lib.hid (sizeKey hsl)
 have Ho1 := Lib.hid (one_keyF (secretU (1 :: List.replicate 31 0)))
 have Hz1 := Lib.hid (zkS (l := (secretU (1 :: List.replicate 31 0))) (by rw [hsl]))
 have Hs2 := Lib.hid (sizeKey hpl)
 have Ho2 := Lib.hid (one_keyF (pointU (1 :: List.replicate 31 0)))
 have Hz2 := Lib.hid (zkS (l := (pointU (1 :: List.replicate 31 0))) (by rw [hpl]))
 rw [show keyC (1 :: List.replicate 31 0) = #[.int .u8 1, .int .u8 0, .int .u8 0, .int .u8 0, .int .u8 0, .int .u8 0, .int .u8 0, .int .u8 0, .int .u8 0, .int .u8 0, .int .u8 0, .int .u8 0, .int .u8 0, .int .u8 0, .int .u8 0, .int .u8 0, .int .u8 0, .int .u8 0, .int .u8 0, .int .u8 0, .int .u8 0, .int .u8 0, .int .u8 0, .int .u8 0, .int .u8 0, .int .u8 0, .int .u8 0, .int .u8 0, .int .u8 0, .int .u8 0, .int .u8 0, .int .u8 0] from rfl] at hp1
 clear hsl hpl
 generalize pointU (1 :: List.replicate 31 0) = pt at *
 generalize secretU (1 :: List.replicate 31 0) = sc at *
 go_enter Tryz.func5, Tryz.ntmps5
 go_wp2_with fail
 refine hp1.mono ?_
 rintro e w1 ⟨rfl, hb1⟩
 have hM1 := (Ms.nil w).call hb1
 have hB2 := (hM1.box 23 #[.int .u8 0, .int .u8 0, .int .u8 0, .int .u8 0, .int .u8 0, .int .u8 0, .int .u8 0, .int .u8 0, .int .u8 0, .int .u8 0, .int .u8 0, .int .u8 0, .int .u8 0, .int .u8 0, .int .u8 0, .int .u8 0, .int .u8 0, .int .u8 0, .int .u8 0, .int .u8 0, .int .u8 0, .int .u8 0, .int .u8 0, .int .u8 0, .int .u8 0, .int .u8 0, .int .u8 0, .int .u8 0, .int .u8 0, .int .u8 0, .int .u8 0, .int .u8 0]).box 23 #[.int .u8 0, .int .u8 0, .int .u8 0, .int .u8 0, .int .u8 0, .int .u8 0, .int .u8 0, .int .u8 0, .int .u8 0, .int .u8 0, .int .u8 0, .int .u8 0, .int .u8 0, .int .u8 0, .int .u8 0, .int .u8 0, .int .u8 0, .int .u8 0, .int .u8 0, .int .u8 0, .int .u8 0, .int .u8 0, .int .u8 0, .int .u8 0, .int .u8 0, .int .u8 0, .int .u8 0, .int .u8 0, .int .u8 0, .int .u8 0, .int .u8 0, .int .u8 0]
 have hg1 := hM1.old.size
 simp only [World.size_alloc] at hB2
 have hM3 := Ms.set2 (ds := (keyC sc)) (ds' := (keyC pt)) hB2.swap hg1 (by omega) (by omega) (fun p hp => by cases hp) (fun p hp => by cases hp)
 clear hp1 hM1
 go_upto_region 2 with (first
  | ((with_reducible refine tsQ 23 ?_); refine srQ 23 (.tmp 1) (.tmp 8) (w1.heap.size) (keyC sc) _ (hB2.get 1 rfl) Hs1.out Hz1.out Ho1.out ?_)
  | ((with_reducible refine tsQ 23 ?_); refine srQ 23 (.tmp 2) (.tmp 9) (w1.heap.size + 1) (keyC pt) _ ((hB2.get 0 rfl).rowFar (by omega) _) Hs2.out Hz2.out Ho2.out ?_))
 try simp only [Act.put]
 have hTx := hT.below hM3.old
 generalize (((w1.alloc (.cells #[.int .u8 0, .int .u8 0, .int .u8 0, .int .u8 0, .int .u8 0, .int .u8 0, .int .u8 0, .int .u8 0, .int .u8 0, .int .u8 0, .int .u8 0, .int .u8 0, .int .u8 0, .int .u8 0, .int .u8 0, .int .u8 0, .int .u8 0, .int .u8 0, .int .u8 0, .int .u8 0, .int .u8 0, .int .u8 0, .int .u8 0, .int .u8 0, .int .u8 0, .int .u8 0, .int .u8 0, .int .u8 0, .int .u8 0, .int .u8 0, .int .u8 0, .int .u8 0] 23)).alloc (.cells #[.int .u8 0, .int .u8 0, .int .u8 0, .int .u8 0, .int .u8 0, .int .u8 0, .int .u8 0, .int .u8 0, .int .u8 0, .int .u8 0, .int .u8 0, .int .u8 0, .int .u8 0, .int .u8 0, .int .u8 0, .int .u8 0, .int .u8 0, .int .u8 0, .int .u8 0, .int .u8 0, .int .u8 0, .int .u8 0, .int .u8 0, .int .u8 0, .int .u8 0, .int .u8 0, .int .u8 0, .int .u8 0, .int .u8 0, .int .u8 0, .int .u8 0, .int .u8 0] 23)).setRow w1.heap.size (keyC sc)).setRow (w1.heap.size + 1) (keyC pt) = w4 at *
 have f1 : Rd (w4.alloc (.cells #[.int .u8 104, .int .u8 101, .int .u8 108, .int .u8 108, .int .u8 111] 5 (5, 6))) (w4.alloc (.cells #[.int .u8 104, .int .u8 101, .int .u8 108, .int .u8 108, .int .u8 111] 5 (5, 6))).heap.size (some ⟨w4.heap.size, 0, none⟩) 5 (([104, 101, 108, 108, 111] : List UInt8).map bv) := Rd.mkFr _ _ _ _ rfl (by simp) rfl rfl
 have f2 : Below w4.heap.size w4 (w4.alloc (.cells #[.int .u8 104, .int .u8 101, .int .u8 108, .int .u8 108, .int .u8 111] 5 (5, 6))) := d_al _ _
 have K0 := Lib.hid (Go.Joins.run_convert_bytes_const_at (P := Tryz.prog) w4 24 5 #[.int .u8 104, .int .u8 101, .int .u8 108, .int .u8 108, .int .u8 111] 5 5 w4.heap.size rfl Tryz.underlying24 Tryz.underlying5)
 go_wp2_with ((with_reducible refine tdQ 11 ?_); refine lcQ 23 (.tmp 2) (w1.heap.size + 1) (keyC pt) (hM3.get 1 rfl) Tryz.underlying23 Hs2.out ?_)
 rw [K0.out]
 clear K0
 generalize w4.alloc (.cells #[.int .u8 104, .int .u8 101, .int .u8 108, .int .u8 108, .int .u8 111] 5 (5, 6)) = wa at *
 have hcall := hB pt (2 :: List.replicate 31 0) [104, 101, 108, 108, 111] (some ⟨w4.heap.size, 0, none⟩) 5 5 none 0 0 [] [] wa Hpl.out rfl (Nat.le_refl _) (by simp [maxLen]) f1 (Nat.le_refl _) (by simp [maxLen]) (by omega) (by simp [fewSum]) (Rd.zero _ _ _) (Txs.nil _ _) (hTx.below f2)
 rw [show keyC (2 :: List.replicate 31 0) = #[.int .u8 2, .int .u8 0, .int .u8 0, .int .u8 0, .int .u8 0, .int .u8 0, .int .u8 0, .int .u8 0, .int .u8 0, .int .u8 0, .int .u8 0, .int .u8 0, .int .u8 0, .int .u8 0, .int .u8 0, .int .u8 0, .int .u8 0, .int .u8 0, .int .u8 0, .int .u8 0, .int .u8 0, .int .u8 0, .int .u8 0, .int .u8 0, .int .u8 0, .int .u8 0, .int .u8 0, .int .u8 0, .int .u8 0, .int .u8 0, .int .u8 0, .int .u8 0] from rfl] at hcall
 go_wp2_with fail
 refine hcall.mono ?_
 intro e w5 hQ
 obtain ⟨A5, c5, rfl, hn5, hb5⟩ := hQ.yes Hlb.out (by simp) (fun i t h => by simp at h)
 have hB5 := c_call (c_call hM3.old f2) hb5
 clear hcall hQ hn5 f1 f2 hb5
 go_wp2_with fail
 go_ret
 exact ⟨rfl, hB5⟩
set_option maxRecDepth 100000 in
set_option maxHeartbeats 4000000 in
theorem walkH_KemBoxes (hP : PKP) (hS : PKS) (hB : PKB) (hU : PKU) (p sd b : List UInt8) (A : Option Addr) (m c : Nat) (At : Option Addr) (mt ct : Nat) (vs : List Value) (ts : List (List UInt8)) (w : World) (hp : p.length = 32) (hs : sd.length = 32)
  (hmc : m ≤ c) (hcm : c ≤ maxLen) (hr : Rd w w.heap.size A m (b.map bv)) (hmt : mt ≤ ct) (hct : ct ≤ maxLen) (hm24 : mt * 24 ≤ 140737488355328) (hv : Rd w w.heap.size At mt vs) (ht : Txs w w.heap.size vs ts) (hK : KTab w) (hT : CTab w) :
  Calls Tryz.prog 3 #[.agg (keyC p), .agg (keyC sd), .slice A m c, .slice At mt ct] w fun e w' => e = .returned (.bool true) ∧ Below w.heap.size w w' := by
 have hM0 := ((Ms.nil w).box 23 (keyC p)).box 23 (keyC sd)
 simp only [World.size_alloc] at hM0
 have Hsp := Lib.hid (sizeKey hp)
 have Hss := Lib.hid (sizeKey hs)
 have Hp := Lib.hid hp
 have Hs := Lib.hid hs
 have Hbl := Lib.hid (show b.length = m by simpa using hr.len)
 have hsl := secretU_len sd
 have hnl := pointU_len sd
 have Hsc := Lib.hid (sizeKey hsl)
 have Hoc := Lib.hid (one_keyF (secretU sd))
 have Hzc := Lib.hid (zkS (l := (secretU sd)) (by rw [hsl]))
 have Hsn := Lib.hid (sizeKey hnl)
 have Hon := Lib.hid (one_keyF (pointU sd))
 have Hzn := Lib.hid (zkS (l := (pointU sd)) (by rw [hnl]))
 have hq1 := fun wx => eql_keyF wx (secretU sd) (secretU sd) hsl hsl
 have hq2 := fun wx => eql_keyF wx (pointU sd) (pointU sd) hnl hnl
 rw [show (secretU sd == secretU sd) = true by simp] at hq1
 rw [show (pointU sd == pointU sd) = true by simp] at hq2
 have hp1 := fun wx (h : CTab wx) => hP sd wx hs h
 have hp2 := fun wx (h : KTab wx) => RKPair_any sd wx hs h
 have Hq1 := Lib.hid hq1
 have Hq2 := Lib.hid hq2
 have Hp1 := Lib.hid hp1
 have Hp2 := Lib.hid hp2
 clear hp hs hsl hnl hq1 hq2 hp1 hp2
 generalize secretU sd = sec at *
 generalize pointU sd = pt at *
 go_enter Tryz.func3, Tryz.ntmps3
 go_wp2_with fail
 refine (live08 hP hB _ (hT.below hM0.old)).mono ?_
 rintro e w2 ⟨rfl, hb2⟩
 have hM2 := hM0.call hb2
 have hB2 := hM2.old
 clear hb2 hM0
 by_cases h1 : m ≤ 300
 rotate_left
 ·
  have h1' : (300 : Int) < (m : Int) := by omega
  go_wp2_with fail
  go_ret
  exact ⟨rfl, hB2⟩
 have h1' : ¬ (300 : Int) < (m : Int) := by omega
 go_upto_region 6 with (go_at_call 6; refine (FewAll_any At mt ct vs ts _ _ (by omega) (d_rd hv hB2) (d_txs ht hB2)).mono ?_; rintro e wf ⟨bf, rfl, hbf0, rfl⟩; have hbf := Lib.hid hbf0; clear hbf0; cases bf)
 ·
  go_wp2_with fail
  go_ret
  exact ⟨rfl, hB2⟩
 obtain ⟨hm, hfs⟩ := hbf.out (by first | rfl | trivial)
 have Hfs := Lib.hid hfs
 have htl : ts.length = mt := by rw [← ht.1]; exact hv.len
 have Htx := Lib.hid (few_txsK htl hm hfs)
 clear hbf hfs htl
 go_wp2_with ((with_reducible refine tdQ 31 ?_); refine lcQ 23 (.tmp 5) (w.heap.size + 1) (keyC sd) (hM2.get 0 rfl) Tryz.underlying23 Hss.out ?_)
 refine (Hp1.out _ (hT.below hB2)).mono ?_
 rintro e w3 ⟨rfl, hb3⟩
 have hM3 := hM2.call hb3
 clear hM2 hB2 hb3
 have hX3 := (hM3.box 23 #[.int .u8 0, .int .u8 0, .int .u8 0, .int .u8 0, .int .u8 0, .int .u8 0, .int .u8 0, .int .u8 0, .int .u8 0, .int .u8 0, .int .u8 0, .int .u8 0, .int .u8 0, .int .u8 0, .int .u8 0, .int .u8 0, .int .u8 0, .int .u8 0, .int .u8 0, .int .u8 0, .int .u8 0, .int .u8 0, .int .u8 0, .int .u8 0, .int .u8 0, .int .u8 0, .int .u8 0, .int .u8 0, .int .u8 0, .int .u8 0, .int .u8 0, .int .u8 0]).box 23 #[.int .u8 0, .int .u8 0, .int .u8 0, .int .u8 0, .int .u8 0, .int .u8 0, .int .u8 0, .int .u8 0, .int .u8 0, .int .u8 0, .int .u8 0, .int .u8 0, .int .u8 0, .int .u8 0, .int .u8 0, .int .u8 0, .int .u8 0, .int .u8 0, .int .u8 0, .int .u8 0, .int .u8 0, .int .u8 0, .int .u8 0, .int .u8 0, .int .u8 0, .int .u8 0, .int .u8 0, .int .u8 0, .int .u8 0, .int .u8 0, .int .u8 0, .int .u8 0]
 have hg3 := hM3.old.size
 have hn3 := fun p hp => Nat.ne_of_lt ((hM3.rows p hp).lt)
 have hnn3 := fun p hp => Nat.ne_of_lt (((hM3.box 23 #[.int .u8 0, .int .u8 0, .int .u8 0, .int .u8 0, .int .u8 0, .int .u8 0, .int .u8 0, .int .u8 0, .int .u8 0, .int .u8 0, .int .u8 0, .int .u8 0, .int .u8 0, .int .u8 0, .int .u8 0, .int .u8 0, .int .u8 0, .int .u8 0, .int .u8 0, .int .u8 0, .int .u8 0, .int .u8 0, .int .u8 0, .int .u8 0, .int .u8 0, .int .u8 0, .int .u8 0, .int .u8 0, .int .u8 0, .int .u8 0, .int .u8 0, .int .u8 0]).rows p hp).lt)
 simp only [World.size_alloc] at hX3 hnn3
 have hM4 := Ms.set2 (ds := (keyC sec)) (ds' := (keyC pt)) hX3.swap hg3 (by omega) (by omega) hn3 (fun p hp => hnn3 p (List.mem_cons_of_mem _ hp))
 clear hn3 hnn3 hg3
 go_wp2_with (first
  | ((with_reducible refine tsQ 23 ?_); refine srQ 23 (.tmp 10) (.tmp 33) (w3.heap.size) (keyC sec) _ (hX3.get 1 rfl) Hsc.out Hzc.out Hoc.out ?_)
  | ((with_reducible refine tsQ 23 ?_); refine srQ 23 (.tmp 11) (.tmp 34) (w3.heap.size + 1) (keyC pt) _ ((hX3.get 0 rfl).rowFar (by omega) _) Hsn.out Hzn.out Hon.out ?_)
  | ((with_reducible refine tdQ 36 ?_); refine lcQ 23 (.tmp 5) (w.heap.size + 1) (keyC sd) (hM4.get 2 rfl) Tryz.underlying23 Hss.out ?_))
 refine (Hp2.out _ (hK.below hM4.old)).mono ?_
 rintro e w4 ⟨rfl, hb4⟩
 have hM5 := hM4.call hb4
 clear hM3 hM4 hX3 hb4
 have hX5 := (hM5.box 23 #[.int .u8 0, .int .u8 0, .int .u8 0, .int .u8 0, .int .u8 0, .int .u8 0, .int .u8 0, .int .u8 0, .int .u8 0, .int .u8 0, .int .u8 0, .int .u8 0, .int .u8 0, .int .u8 0, .int .u8 0, .int .u8 0, .int .u8 0, .int .u8 0, .int .u8 0, .int .u8 0, .int .u8 0, .int .u8 0, .int .u8 0, .int .u8 0, .int .u8 0, .int .u8 0, .int .u8 0, .int .u8 0, .int .u8 0, .int .u8 0, .int .u8 0, .int .u8 0]).box 23 #[.int .u8 0, .int .u8 0, .int .u8 0, .int .u8 0, .int .u8 0, .int .u8 0, .int .u8 0, .int .u8 0, .int .u8 0, .int .u8 0, .int .u8 0, .int .u8 0, .int .u8 0, .int .u8 0, .int .u8 0, .int .u8 0, .int .u8 0, .int .u8 0, .int .u8 0, .int .u8 0, .int .u8 0, .int .u8 0, .int .u8 0, .int .u8 0, .int .u8 0, .int .u8 0, .int .u8 0, .int .u8 0, .int .u8 0, .int .u8 0, .int .u8 0, .int .u8 0]
 have hg5 := hM5.old.size
 have hn5 := fun p hp => Nat.ne_of_lt ((hM5.rows p hp).lt)
 have hnn5 := fun p hp => Nat.ne_of_lt (((hM5.box 23 #[.int .u8 0, .int .u8 0, .int .u8 0, .int .u8 0, .int .u8 0, .int .u8 0, .int .u8 0, .int .u8 0, .int .u8 0, .int .u8 0, .int .u8 0, .int .u8 0, .int .u8 0, .int .u8 0, .int .u8 0, .int .u8 0, .int .u8 0, .int .u8 0, .int .u8 0, .int .u8 0, .int .u8 0, .int .u8 0, .int .u8 0, .int .u8 0, .int .u8 0, .int .u8 0, .int .u8 0, .int .u8 0, .int .u8 0, .int .u8 0, .int .u8 0, .int .u8 0]).rows p hp).lt)
 simp only [World.size_alloc] at hX5 hnn5
 have hM6 := Ms.set2 (ds := (keyC sec)) (ds' := (keyC pt)) hX5.swap hg5 (by omega) (by omega) hn5 (fun p hp => hnn5 p (List.mem_cons_of_mem _ hp))
 clear hn5 hnn5 hg5
 have Hwb := Lib.hid (hB p sd b A m c At mt ct vs ts _ Hp.out Hs.out hmc hcm (d_rd hr hM6.old) hmt hct hm Hfs.out (d_rd hv hM6.old) (d_txs ht hM6.old) (hT.below hM6.old))
 go_wp2_with (first
  | ((with_reducible refine tsQ 23 ?_); refine srQ 23 (.tmp 12) (.tmp 38) (w4.heap.size) (keyC sec) _ (hX5.get 1 rfl) Hsc.out Hzc.out Hoc.out ?_)
  | ((with_reducible refine tsQ 23 ?_); refine srQ 23 (.tmp 13) (.tmp 39) (w4.heap.size + 1) (keyC pt) _ ((hX5.get 0 rfl).rowFar (by omega) _) Hsn.out Hzn.out Hon.out ?_)
  | ((with_reducible refine tdQ 41 ?_); refine lcQ 23 (.tmp 4) (w.heap.size) (keyC p) (hM6.get 5 rfl) Tryz.underlying23 Hsp.out ?_)
  | ((with_reducible refine tdQ 42 ?_); refine lcQ 23 (.tmp 5) (w.heap.size + 1) (keyC sd) (hM6.get 4 rfl) Tryz.underlying23 Hss.out ?_))
 refine Hwb.out.mono ?_
 intro e w5 hQ
 obtain ⟨A5, n5, c5, rfl, hn5, hb5⟩ := hQ.get
 have hM7 := hM6.call hb5
 clear hM5 hM6 hX5 hb5 hQ Hwb
 have Hwr := Lib.hid (RKBox_any p sd b A m c At mt ct vs ts _ Hp.out Hs.out (d_rd hr hM7.old) (by omega) (by omega) Htx.out (d_rd hv hM7.old) (d_txs ht hM7.old) (hK.below hM7.old))
 go_wp2_with (first
  | ((with_reducible refine tdQ 49 ?_); refine lcQ 23 (.tmp 4) (w.heap.size) (keyC p) (hM7.get 5 rfl) Tryz.underlying23 Hsp.out ?_)
  | ((with_reducible refine tdQ 50 ?_); refine lcQ 23 (.tmp 5) (w.heap.size + 1) (keyC sd) (hM7.get 4 rfl) Tryz.underlying23 Hss.out ?_))
 refine Hwr.out.mono ?_
 intro e w6 hQ
 obtain ⟨A6, n6, c6, rfl, hn6, hb6⟩ := hQ.get
 have hM8 := hM7.call hb6
 have hsm := Same_any A5 A6 n5 c5 n6 c6 (boxX p sd b ts) (boxX p sd b ts) w6 w6.heap.size w6.heap.size (d_rd hn5.1 hb6) hn6.1
 rw [sameB_refl] at hsm
 have Hsm := Lib.hid hsm
 clear hM7 hb6 hQ hn5 hn6 hsm Hwr
 generalize boxX p sd b ts = X at *
 generalize boxE p sd b ts = er at *
 have hq1 := Hq1.out
 have hq2 := Hq2.out
 go_wp2_with (first
  | ((with_reducible refine tdQ 58 ?_); refine lcQ 23 (.tmp 10) (w3.heap.size) (keyC sec) (hM8.get 2 rfl) Tryz.underlying23 Hsc.out ?_)
  | ((with_reducible refine tdQ 59 ?_); refine lcQ 23 (.tmp 12) (w4.heap.size) (keyC sec) (hM8.get 0 rfl) Tryz.underlying23 Hsc.out ?_)
  | ((with_reducible refine tdQ 63 ?_); refine lcQ 23 (.tmp 11) (w3.heap.size + 1) (keyC pt) (hM8.get 3 rfl) Tryz.underlying23 Hsn.out ?_)
  | ((with_reducible refine tdQ 64 ?_); refine lcQ 23 (.tmp 13) (w4.heap.size + 1) (keyC pt) (hM8.get 1 rfl) Tryz.underlying23 Hsn.out ?_)
  | (go_at_call 11; refine Hsm.out.mono ?_; rintro e wz ⟨rfl, rfl⟩))
 go_ret
 exact ⟨rfl, hM8.old⟩
set_option maxRecDepth 100000 in
set_option maxHeartbeats 4000000 in
theorem walkH_KemUnboxes (hP : PKP) (hS : PKS) (hB : PKB) (hU : PKU) (s b : List UInt8) (A : Option Addr) (m c : Nat) (At : Option Addr) (mt ct : Nat) (vs : List Value) (ts : List (List UInt8)) (o mi th : List UInt8) (w : World) (hs : s.length = 32)
  (hmc : m ≤ c) (hcm : c ≤ maxLen) (hr : Rd w w.heap.size A m (b.map bv)) (hmt : mt ≤ ct) (hct : ct ≤ maxLen) (hm24 : mt * 24 ≤ 140737488355328) (hv : Rd w w.heap.size At mt vs) (ht : Txs w w.heap.size vs ts) (ho : o.length = 32) (hmi : mi.length = 32) (hth : th.length = 32) (hK : KTab w) (hT : CTab w) :
  Calls Tryz.prog 4 #[.agg (keyC s), .slice A m c, .slice At mt ct, .agg (keyC o), .agg (keyC mi), .agg (keyC th)] w fun e w' => e = .returned (.bool true) ∧ Below w.heap.size w w' := by
 have hM0 := ((((Ms.nil w).box 23 (keyC s)).box 23 (keyC o)).box 23 (keyC mi)).box 23 (keyC th)
 simp only [World.size_alloc] at hM0
 have Hss := Lib.hid (sizeKey hs)
 have Hso := Lib.hid (sizeKey ho)
 have Hsm := Lib.hid (sizeKey hmi)
 have Hst := Lib.hid (sizeKey hth)
 have Hs := Lib.hid hs
 have Ho := Lib.hid ho
 have Hm := Lib.hid hmi
 have Ht := Lib.hid hth
 have Hbl := Lib.hid (show b.length = m by simpa using hr.len)
 have hxl := shX_len s o mi th
 have Hsx := Lib.hid (sizeKey hxl)
 have Hox := Lib.hid (one_keyF (shX s o mi th))
 have Hzx := Lib.hid (zkS (l := (shX s o mi th)) (by rw [hxl]))
 have hq1 := fun wx => eql_keyF wx (shX s o mi th) (shX s o mi th) hxl hxl
 rw [show (shX s o mi th == shX s o mi th) = true by simp] at hq1
 have Hq1 := Lib.hid hq1
 have Hsh1 := Lib.hid (show ∀ wx, CTab wx → Calls Tryz.prog 14 #[.agg (keyC s), .agg (keyC o), .agg (keyC mi), .agg (keyC th)] wx fun e w' => e = .returned (.tuple #[.agg (keyC (shX s o mi th)), .int .i64 (shE s o)]) ∧ Below wx.heap.size wx w' from fun wx h => (hS s o mi th wx hs ho hmi hth h).mono fun _ _ h => h.get)
 have Hsh2 := Lib.hid (show ∀ wx, KTab wx → Calls Tryz.prog 15 #[.agg (keyC s), .agg (keyC o), .agg (keyC mi), .agg (keyC th)] wx fun e w' => e = .returned (.tuple #[.agg (keyC (shX s o mi th)), .int .i64 (shE s o)]) ∧ Below wx.heap.size wx w' from fun wx h => (RShared_any s o mi th wx hs ho hmi hth h).mono fun _ _ h => h.get)
 clear hs ho hmi hth hxl hq1
 generalize shX s o mi th = x at *
 generalize shE s o = es at *
 go_enter Tryz.func4, Tryz.ntmps4
 go_wp2_with fail
 refine (live08 hP hB _ (hT.below hM0.old)).mono ?_
 rintro e w2 ⟨rfl, hb2⟩
 have hM2 := hM0.call hb2
 have hB2 := hM2.old
 clear hb2 hM0
 by_cases h1 : m ≤ 400
 rotate_left
 ·
  have h1' : (400 : Int) < (m : Int) := by omega
  go_wp2_with fail
  go_ret
  exact ⟨rfl, hB2⟩
 have h1' : ¬ (400 : Int) < (m : Int) := by omega
 go_upto_region 6 with (go_at_call 6; refine (FewAll_any At mt ct vs ts _ _ (by omega) (d_rd hv hB2) (d_txs ht hB2)).mono ?_; rintro e wf ⟨bf, rfl, hbf0, rfl⟩; have hbf := Lib.hid hbf0; clear hbf0; cases bf)
 ·
  go_wp2_with fail
  go_ret
  exact ⟨rfl, hB2⟩
 obtain ⟨hm, hfs⟩ := hbf.out (by first | rfl | trivial)
 have Hfs := Lib.hid hfs
 have htl : ts.length = mt := by rw [← ht.1]; exact hv.len
 have Htx := Lib.hid (few_txsK htl hm hfs)
 have hcn : c ≤ 9223372036854775807 := by simp [maxLen] at hcm; omega
 clear hbf hfs htl
 go_wp2_with ((with_reducible refine tdQ 35 ?_); refine lcQ 23 (.tmp 6) (w.heap.size) (keyC s) (hM2.get 3 rfl) Tryz.underlying23 Hss.out ?_)
 refine (hU s b A m c At mt ct vs ts _ Hs.out hmc hcm (d_rd hr hM2.old) hmt hct hm Hfs.out (d_rd hv hM2.old) (d_txs ht hM2.old) (hT.below hM2.old)).mono ?_
 intro e w3 hQ
 obtain ⟨A3, n3, c3, rfl, hn3, hb3⟩ := hQ.get
 have hM3 := hM2.call hb3
 clear hM2 hB2 hb3 hQ
 go_wp2_with ((with_reducible refine tdQ 42 ?_); refine lcQ 23 (.tmp 6) (w.heap.size) (keyC s) (hM3.get 3 rfl) Tryz.underlying23 Hss.out ?_)
 refine (RKUnbox_any s b A m c At mt ct vs ts _ Hs.out hmc (d_rd hr hM3.old) hcn (by omega) Htx.out (d_rd hv hM3.old) (d_txs ht hM3.old) (hK.below hM3.old)).mono ?_
 intro e w4 hQ
 obtain ⟨A4, n4, c4, rfl, hn4, hb4⟩ := hQ.get
 have hM4 := hM3.call hb4
 have hx4 := d_rd hn3.1 hb4
 have hy4 := hn4.1
 have Hsam := Lib.hid (fun wx (h1 : Rd wx wx.heap.size A3 n3 ((unX s b ts).map bv)) (h2 : Rd wx wx.heap.size A4 n4 ((unX s b ts).map bv)) => Same_any A3 A4 n3 c3 n4 c4 (unX s b ts) (unX s b ts) wx wx.heap.size wx.heap.size h1 h2)
 clear hM3 hb4 hQ hn3 hn4
 generalize unX s b ts = X at *
 generalize unE s b ts = er at *
 go_wp2_with (first
  | ((with_reducible refine tdQ 49 ?_); refine lcQ 23 (.tmp 6) (w.heap.size) (keyC s) (hM4.get 3 rfl) Tryz.underlying23 Hss.out ?_)
  | ((with_reducible refine tdQ 50 ?_); refine lcQ 23 (.tmp 9) (w.heap.size + 1) (keyC o) (hM4.get 2 rfl) Tryz.underlying23 Hso.out ?_)
  | ((with_reducible refine tdQ 51 ?_); refine lcQ 23 (.tmp 10) (w.heap.size + 1 + 1) (keyC mi) (hM4.get 1 rfl) Tryz.underlying23 Hsm.out ?_)
  | ((with_reducible refine tdQ 52 ?_); refine lcQ 23 (.tmp 11) (w.heap.size + 1 + 1 + 1) (keyC th) (hM4.get 0 rfl) Tryz.underlying23 Hst.out ?_))
 refine (Hsh1.out _ (hT.below hM4.old)).mono ?_
 rintro e w5 ⟨rfl, hb5⟩
 have hM5 := (hM4.call hb5).put 23 #[.int .u8 0, .int .u8 0, .int .u8 0, .int .u8 0, .int .u8 0, .int .u8 0, .int .u8 0, .int .u8 0, .int .u8 0, .int .u8 0, .int .u8 0, .int .u8 0, .int .u8 0, .int .u8 0, .int .u8 0, .int .u8 0, .int .u8 0, .int .u8 0, .int .u8 0, .int .u8 0, .int .u8 0, .int .u8 0, .int .u8 0, .int .u8 0, .int .u8 0, .int .u8 0, .int .u8 0, .int .u8 0, .int .u8 0, .int .u8 0, .int .u8 0, .int .u8 0] (keyC x)
 have hE5 : Below w4.heap.size w4 ((w5.alloc (.cells #[.int .u8 0, .int .u8 0, .int .u8 0, .int .u8 0, .int .u8 0, .int .u8 0, .int .u8 0, .int .u8 0, .int .u8 0, .int .u8 0, .int .u8 0, .int .u8 0, .int .u8 0, .int .u8 0, .int .u8 0, .int .u8 0, .int .u8 0, .int .u8 0, .int .u8 0, .int .u8 0, .int .u8 0, .int .u8 0, .int .u8 0, .int .u8 0, .int .u8 0, .int .u8 0, .int .u8 0, .int .u8 0, .int .u8 0, .int .u8 0, .int .u8 0, .int .u8 0] 23)).setRow w5.heap.size (keyC x)) := below_setRow (c_alloc hb5 _) hb5.size _
 have hx5 := d_rd hx4 hE5
 have hy5 := d_rd hy4 hE5
 clear hM4 hb5 hx4 hy4 hE5
 have Hc2 := Lib.hid (Hsh2.out _ (hK.below hM5.old))
 go_wp2_with (first
  | ((with_reducible refine tsQ 23 ?_); refine srQ 23 (.tmp 18) (.tmp 54) (w5.heap.size) (keyC x) _ (RowC.new _ _ _) Hsx.out Hzx.out Hox.out ?_)
  | ((with_reducible refine tdQ 57 ?_); refine lcQ 23 (.tmp 6) (w.heap.size) (keyC s) (hM5.get 4 rfl) Tryz.underlying23 Hss.out ?_)
  | ((with_reducible refine tdQ 58 ?_); refine lcQ 23 (.tmp 9) (w.heap.size + 1) (keyC o) (hM5.get 3 rfl) Tryz.underlying23 Hso.out ?_)
  | ((with_reducible refine tdQ 59 ?_); refine lcQ 23 (.tmp 10) (w.heap.size + 1 + 1) (keyC mi) (hM5.get 2 rfl) Tryz.underlying23 Hsm.out ?_)
  | ((with_reducible refine tdQ 60 ?_); refine lcQ 23 (.tmp 11) (w.heap.size + 1 + 1 + 1) (keyC th) (hM5.get 1 rfl) Tryz.underlying23 Hst.out ?_))
 refine Hc2.out.mono ?_
 rintro e w6 ⟨rfl, hb6⟩
 have hM6 := (hM5.call hb6).put 23 #[.int .u8 0, .int .u8 0, .int .u8 0, .int .u8 0, .int .u8 0, .int .u8 0, .int .u8 0, .int .u8 0, .int .u8 0, .int .u8 0, .int .u8 0, .int .u8 0, .int .u8 0, .int .u8 0, .int .u8 0, .int .u8 0, .int .u8 0, .int .u8 0, .int .u8 0, .int .u8 0, .int .u8 0, .int .u8 0, .int .u8 0, .int .u8 0, .int .u8 0, .int .u8 0, .int .u8 0, .int .u8 0, .int .u8 0, .int .u8 0, .int .u8 0, .int .u8 0] (keyC x)
 have hE6 := below_setRow (c_alloc hb6 (.cells #[.int .u8 0, .int .u8 0, .int .u8 0, .int .u8 0, .int .u8 0, .int .u8 0, .int .u8 0, .int .u8 0, .int .u8 0, .int .u8 0, .int .u8 0, .int .u8 0, .int .u8 0, .int .u8 0, .int .u8 0, .int .u8 0, .int .u8 0, .int .u8 0, .int .u8 0, .int .u8 0, .int .u8 0, .int .u8 0, .int .u8 0, .int .u8 0, .int .u8 0, .int .u8 0, .int .u8 0, .int .u8 0, .int .u8 0, .int .u8 0, .int .u8 0, .int .u8 0] 23)) hb6.size (keyC x)
 have hx6 := d_rd hx5 hE6
 have hy6 := d_rd hy5 hE6
 have hsm := Hsam.out _ hx6 hy6
 rw [sameB_refl] at hsm
 have Hsm := Lib.hid hsm
 clear hM5 hb6 hx5 hy5 hE6 hx6 hy6 hsm Hsam Hc2
 have hq1 := Hq1.out
 go_wp2_with (first
  | ((with_reducible refine tsQ 23 ?_); refine srQ 23 (.tmp 20) (.tmp 62) (w6.heap.size) (keyC x) _ (RowC.new _ _ _) Hsx.out Hzx.out Hox.out ?_)
  | ((with_reducible refine tdQ 76 ?_); refine lcQ 23 (.tmp 18) (w5.heap.size) (keyC x) (hM6.get 1 rfl) Tryz.underlying23 Hsx.out ?_)
  | ((with_reducible refine tdQ 77 ?_); refine lcQ 23 (.tmp 20) (w6.heap.size) (keyC x) (hM6.get 0 rfl) Tryz.underlying23 Hsx.out ?_)
  | (go_at_call 11; refine Hsm.out.mono ?_; rintro e wz ⟨rfl, rfl⟩))
 go_ret
 exact ⟨rfl, hM6.old⟩
end Go.Proofs.YtbiijdboolpaeaaGreatDoor
