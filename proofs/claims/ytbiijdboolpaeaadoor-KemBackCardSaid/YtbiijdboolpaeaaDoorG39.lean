import Derived.Test.YtbiijdboolpaeaaDoorG37
import Derived.Test.YtbiijdboolpaeaaDoorG38
import Derived.Test.YtbiijdboolpaeaaDoorG29
import Derived.Test.YtbiijdboolpaeaaDoorG04
set_option linter.unusedVariables false
namespace Go.Proofs.YtbiijdboolpaeaaDoor
open Go.RowKit
def PKP : Prop := ∀ (k : List UInt8) (w : World), k.length = 32 → CTab w → Calls Tryd.prog 8 #[.agg (keyC k)] w fun e w' => e = .returned (.tuple #[.agg (keyC (secretU k)), .agg (keyC (pointU k))]) ∧ Below w.heap.size w w'
def PKS : Prop := ∀ (a b m t : List UInt8) (w : World), a.length = 32 → b.length = 32 → m.length = 32 → t.length = 32 → CTab w → Calls Tryd.prog 12 #[.agg (keyC a), .agg (keyC b), .agg (keyC m), .agg (keyC t)] w (SharedPost w a b m t)
def PKB : Prop := ∀ (p sd b : List UInt8) (A : Option Addr) (m c : Nat) (At : Option Addr) (mt ct : Nat) (vs : List Value) (ts : List (List UInt8)) (w : World), p.length = 32 → sd.length = 32 → m ≤ c → c ≤ maxLen → Rd w w.heap.size A m (b.map bv) → mt ≤ ct → ct ≤ maxLen → mt ≤ 200 → fewSum ts ≤ 140000 → Rd w w.heap.size At mt vs → Txs w w.heap.size vs ts → CTab w →
 Calls Tryd.prog 9 #[.agg (keyC p), .agg (keyC sd), .slice A m c, .slice At mt ct] w (BoxPost w p sd b ts)
def PKU : Prop := ∀ (s b : List UInt8) (A : Option Addr) (m c : Nat) (At : Option Addr) (mt ct : Nat) (vs : List Value) (ts : List (List UInt8)) (w : World), s.length = 32 → m ≤ c → c ≤ maxLen → Rd w w.heap.size A m (b.map bv) → mt ≤ ct → ct ≤ maxLen → mt ≤ 200 → fewSum ts ≤ 140000 → Rd w w.heap.size At mt vs → Txs w w.heap.size vs ts → CTab w →
 Calls Tryd.prog 10 #[.agg (keyC s), .slice A m c, .slice At mt ct] w (UnboxPost w s b ts)
theorem BoxPost.yes {w w' : World} {p s b : List UInt8} {ts : List (List UInt8)} {e : Ending} (h : BoxPost w p s b ts e w') (hz : boxBoth p s ≠ zeroKey) (hl : b.length ≤ 1048576) (hg : GoodT ts) :
  ∃ A c, e = .returned (.tuple #[.slice A (b.length + 48) c, .int .i64 0]) ∧ NewB w w' A (b.length + 48) c (kboxU p s b ts) ∧ Below w.heap.size w w' := by
 obtain ⟨hb, ⟨h1, _⟩ | ⟨_, h1, _⟩ | ⟨_, _, _, A, n, c, rfl, hn⟩⟩ := h
 ·
  exact absurd h1 hz
 ·
  exact absurd ⟨hl, hg⟩ h1
 ·
  have hl2 : n = b.length + 48 := by
   have := hn.1.len
   rw [List.length_map, kboxU_len] at this
   omega
  subst hl2
  exact ⟨A, c, rfl, hn, hb⟩
noncomputable def boxE (p s b : List UInt8) (ts : List (List UInt8)) : Int := by
 classical exact if boxBoth p s = zeroKey then 1 else if ¬ (b.length ≤ 1048576 ∧ GoodT ts) then 4 else 0
noncomputable def boxX (p s b : List UInt8) (ts : List (List UInt8)) : List UInt8 := by
 classical exact if boxBoth p s = zeroKey then [] else if ¬ (b.length ≤ 1048576 ∧ GoodT ts) then [] else kboxU p s b ts
theorem BoxPost.get {w w' : World} {p s b : List UInt8} {ts : List (List UInt8)} {e : Ending} (h : BoxPost w p s b ts e w') :
  ∃ A n c, e = .returned (.tuple #[.slice A n c, .int .i64 (boxE p s b ts)]) ∧ NewB w w' A n c (boxX p s b ts) ∧ Below w.heap.size w w' := by
 classical
 obtain ⟨hb, ⟨h1, h2⟩ | ⟨h1, h2, h3⟩ | ⟨h1, h2, h3, A, n, c, h4, h5⟩⟩ := h
 ·
  exact ⟨none, 0, 0, by rw [h2, boxE, if_pos h1], by rw [boxX, if_pos h1]; exact NewB.none_ hb, hb⟩
 ·
  exact ⟨none, 0, 0, by rw [h3, boxE, if_neg h1, if_pos h2], by rw [boxX, if_neg h1, if_pos h2]; exact NewB.none_ hb, hb⟩
 ·
  exact ⟨A, n, c, by rw [h4, boxE, if_neg h1, if_neg (not_not_intro ⟨h2, h3⟩)], by rw [boxX, if_neg h1, if_neg (not_not_intro ⟨h2, h3⟩)]; exact h5, hb⟩
noncomputable def unE (s b : List UInt8) (ts : List (List UInt8)) : Int := by
 classical exact if b.length < 32 then 2 else if unBoth s b = zeroKey then 1 else openE (unKey s b) (b.drop 32) ts
noncomputable def unX (s b : List UInt8) (ts : List (List UInt8)) : List UInt8 := by
 classical exact if b.length < 32 then [] else if unBoth s b = zeroKey then [] else openX (unKey s b) (b.drop 32) ts
theorem UnboxPost.get {w w' : World} {s b : List UInt8} {ts : List (List UInt8)} {e : Ending} (h : UnboxPost w s b ts e w') :
  ∃ A n c, e = .returned (.tuple #[.slice A n c, .int .i64 (unE s b ts)]) ∧ NewB w w' A n c (unX s b ts) ∧ Below w.heap.size w w' := by
 classical
 obtain ⟨hb, ⟨h1, h2⟩ | ⟨h1, h2, h3⟩ | ⟨h1, h2, h3⟩⟩ := h
 ·
  exact ⟨none, 0, 0, by rw [h2, unE, if_pos h1], by rw [unX, if_pos h1]; exact NewB.none_ hb, hb⟩
 ·
  exact ⟨none, 0, 0, by rw [h3, unE, if_neg (by omega), if_pos h2], by rw [unX, if_neg (by omega), if_pos h2]; exact NewB.none_ hb, hb⟩
 ·
  obtain ⟨A, n, c, h4, h5, h6⟩ := h3.get
  exact ⟨A, n, c, by rw [h4, unE, if_neg (by omega), if_neg h2], by rw [unX, if_neg (by omega), if_neg h2]; exact h5, h6⟩
noncomputable def shE (s o : List UInt8) : Int := by
 classical exact if mltK s o = zeroKey then 1 else 0
noncomputable def shX (s o m t : List UInt8) : List UInt8 := by
 classical exact if mltK s o = zeroKey then zeroKey else twoU (mltK s o) m t
theorem shX_len (s o m t : List UInt8) : (shX s o m t).length = 32 := by
 unfold shX
 split
 ·
  rfl
 ·
  exact twoU_len _ _ _
theorem SharedPost.get {w w' : World} {s o m t : List UInt8} {e : Ending} (h : SharedPost w s o m t e w') :
  e = .returned (.tuple #[.agg (keyC (shX s o m t)), .int .i64 (shE s o)]) ∧ Below w.heap.size w w' := by
 classical
 by_cases hz : mltK s o = zeroKey
 ·
  obtain ⟨h1, h2⟩ := h.no hz
  exact ⟨by rw [h1, shX, shE, if_pos hz, if_pos hz], h2⟩
 ·
  obtain ⟨h1, h2⟩ := h.yes hz
  exact ⟨by rw [h1, shX, shE, if_neg hz, if_neg hz], h2⟩
set_option maxRecDepth 100000 in
theorem live_both : boxBoth (pointU (1 :: List.replicate 31 0)) (2 :: List.replicate 31 0) ≠ zeroKey := by decide +kernel
set_option maxRecDepth 100000 in
set_option maxHeartbeats 2000000 in
theorem live08 (hP : PKP) (hB : PKB) (w : World) (hT : CTab w) :
  Calls Tryd.prog 6 #[] w fun e w' => e = .returned (.bool true) ∧ Below w.heap.size w w' := by
 have hp1 := hP (1 :: List.replicate 31 0) w rfl hT
 have Hlb := Lib.hid live_both
 have hsl := secretU_len (1 :: List.replicate 31 0)
 have hpl := pointU_len (1 :: List.replicate 31 0)
 have Hpl := Lib.hid hpl
 have Hs1 := Lib.hid (sizeKey hsl)
 have Ho1 := Lib.hid (one_keyF (secretU (1 :: List.replicate 31 0)))
 have Hz1 := Lib.hid (zkS (l := (secretU (1 :: List.replicate 31 0))) (by rw [hsl]))
 have Hs2 := Lib.hid (sizeKey hpl)
 have Ho2 := Lib.hid (one_keyF (pointU (1 :: List.replicate 31 0)))
 have Hz2 := Lib.hid (zkS (l := (pointU (1 :: List.replicate 31 0))) (by rw [hpl]))
 rw [show keyC (1 :: List.replicate 31 0) = #[.int .u8 1, .int .u8 0, .int .u8 0, .int .u8 0, .int .u8 0, .int .u8 0, .int .u8 0, .int .u8 0, .int .u8 0, .int .u8 0, .int .u8 0, .int .u8 0, .int .u8 0, .int .u8 0, .int .u8 0, .int .u8 0, .int .u8 0, .int .u8 0, .int .u8 0, .int .u8 0, .int .u8 0, .int .u8 0, .int .u8 0, .int .u8 0, .int .u8 0, .int .u8 0, .int .u8 0, .int .u8 0, .int .u8 0, .int .u8 0, .int .u8 0, .int .u8 0] from rfl] at hp1
 clear hsl hpl
 generalize pointU (1 :: List.replicate 31 0) = pt at *
 generalize secretU (1 :: List.replicate 31 0) = sc at *
 go_enter Tryd.func6, Tryd.ntmps6
 go_wp2_with fail
 refine hp1.mono ?_
 rintro e w1 ⟨rfl, hb1⟩
 have hM1 := (Ms.nil w).call hb1
 have hB2 := (hM1.box 23 #[.int .u8 0, .int .u8 0, .int .u8 0, .int .u8 0, .int .u8 0, .int .u8 0, .int .u8 0, .int .u8 0, .int .u8 0, .int .u8 0, .int .u8 0, .int .u8 0, .int .u8 0, .int .u8 0, .int .u8 0, .int .u8 0, .int .u8 0, .int .u8 0, .int .u8 0, .int .u8 0, .int .u8 0, .int .u8 0, .int .u8 0, .int .u8 0, .int .u8 0, .int .u8 0, .int .u8 0, .int .u8 0, .int .u8 0, .int .u8 0, .int .u8 0, .int .u8 0]).box 23 #[.int .u8 0, .int .u8 0, .int .u8 0, .int .u8 0, .int .u8 0, .int .u8 0, .int .u8 0, .int .u8 0, .int .u8 0, .int .u8 0, .int .u8 0, .int .u8 0, .int .u8 0, .int .u8 0, .int .u8 0, .int .u8 0, .int .u8 0, .int .u8 0, .int .u8 0, .int .u8 0, .int .u8 0, .int .u8 0, .int .u8 0, .int .u8 0, .int .u8 0, .int .u8 0, .int .u8 0, .int .u8 0, .int .u8 0, .int .u8 0, .int .u8 0, .int .u8 0]
 have hg1 := hM1.old.size
 simp only [World.size_alloc] at hB2
 have hM3 := Ms.set2 (ds := (keyC sc)) (ds' := (keyC pt)) hB2.swap hg1 (by omega) (by omega) (fun p hp => by cases hp) (fun p hp => by cases hp)
 clear hp1 hM1
 go_upto_region 2 with (first
  | ((with_reducible refine tsQ 23 ?_); refine srQ 23 (.tmp 1) (.tmp 8) (w1.heap.size) (keyC sc) _ (hB2.get 1 rfl) Hs1.out Hz1.out Ho1.out ?_)
  | ((with_reducible refine tsQ 23 ?_); refine srQ 23 (.tmp 2) (.tmp 9) (w1.heap.size + 1) (keyC pt) _ ((hB2.get 0 rfl).rowFar (by omega) _) Hs2.out Hz2.out Ho2.out ?_))
 try simp only [Act.put]
 have hTx := hT.below hM3.old
 generalize (((w1.alloc (.cells #[.int .u8 0, .int .u8 0, .int .u8 0, .int .u8 0, .int .u8 0, .int .u8 0, .int .u8 0, .int .u8 0, .int .u8 0, .int .u8 0, .int .u8 0, .int .u8 0, .int .u8 0, .int .u8 0, .int .u8 0, .int .u8 0, .int .u8 0, .int .u8 0, .int .u8 0, .int .u8 0, .int .u8 0, .int .u8 0, .int .u8 0, .int .u8 0, .int .u8 0, .int .u8 0, .int .u8 0, .int .u8 0, .int .u8 0, .int .u8 0, .int .u8 0, .int .u8 0] 23)).alloc (.cells #[.int .u8 0, .int .u8 0, .int .u8 0, .int .u8 0, .int .u8 0, .int .u8 0, .int .u8 0, .int .u8 0, .int .u8 0, .int .u8 0, .int .u8 0, .int .u8 0, .int .u8 0, .int .u8 0, .int .u8 0, .int .u8 0, .int .u8 0, .int .u8 0, .int .u8 0, .int .u8 0, .int .u8 0, .int .u8 0, .int .u8 0, .int .u8 0, .int .u8 0, .int .u8 0, .int .u8 0, .int .u8 0, .int .u8 0, .int .u8 0, .int .u8 0, .int .u8 0] 23)).setRow w1.heap.size (keyC sc)).setRow (w1.heap.size + 1) (keyC pt) = w4 at *
 have f1 : Rd (w4.alloc (.cells #[.int .u8 104, .int .u8 101, .int .u8 108, .int .u8 108, .int .u8 111] 5 (5, 6))) (w4.alloc (.cells #[.int .u8 104, .int .u8 101, .int .u8 108, .int .u8 108, .int .u8 111] 5 (5, 6))).heap.size (some ⟨w4.heap.size, 0, none⟩) 5 (([104, 101, 108, 108, 111] : List UInt8).map bv) := Rd.mkFr _ _ _ _ rfl (by simp) rfl rfl
 have f2 : Below w4.heap.size w4 (w4.alloc (.cells #[.int .u8 104, .int .u8 101, .int .u8 108, .int .u8 108, .int .u8 111] 5 (5, 6))) := d_al _ _
 have K0 := Lib.hid (Go.Joins.run_convert_bytes_const_at (P := Tryd.prog) w4 24 5 #[.int .u8 104, .int .u8 101, .int .u8 108, .int .u8 108, .int .u8 111] 5 5 w4.heap.size rfl Tryd.underlying24 Tryd.underlying5)
 go_wp2_with ((with_reducible refine tdQ 11 ?_); refine lcQ 23 (.tmp 2) (w1.heap.size + 1) (keyC pt) (hM3.get 1 rfl) Tryd.underlying23 Hs2.out ?_)
 rw [K0.out]
 clear K0
 generalize w4.alloc (.cells #[.int .u8 104, .int .u8 101, .int .u8 108, .int .u8 108, .int .u8 111] 5 (5, 6)) = wa at *
 have hcall := hB pt (2 :: List.replicate 31 0) [104, 101, 108, 108, 111] (some ⟨w4.heap.size, 0, none⟩) 5 5 none 0 0 [] [] wa Hpl.out rfl (Nat.le_refl _) (by simp [maxLen]) f1 (Nat.le_refl _) (by simp [maxLen]) (by omega) (by simp [fewSum]) (Rd.zero _ _ _) (Txs.nil _ _) (hTx.below f2)
 rw [show keyC (2 :: List.replicate 31 0) = #[.int .u8 2, .int .u8 0, .int .u8 0, .int .u8 0, .int .u8 0, .int .u8 0, .int .u8 0, .int .u8 0, .int .u8 0, .int .u8 0, .int .u8 0, .int .u8 0, .int .u8 0, .int .u8 0, .int .u8 0, .int .u8 0, .int .u8 0, .int .u8 0, .int .u8 0, .int .u8 0, .int .u8 0, .int .u8 0, .int .u8 0, .int .u8 0, .int .u8 0, .int .u8 0, .int .u8 0, .int .u8 0, .int .u8 0, .int .u8 0, .int .u8 0, .int .u8 0] from rfl] at hcall
 go_wp2_with fail
 refine hcall.mono ?_
 intro e w5 hQ
 obtain ⟨A5, c5, rfl, hn5, hb5⟩ := hQ.yes Hlb.out (by simp) (fun i t h => by simp at h)
 have hB5 := c_call (c_call hM3.old f2) hb5
 clear hcall hQ hn5 f1 f2 hb5
 go_wp2_with fail
 go_ret
 exact ⟨rfl, hB5⟩
set_option maxRecDepth 100000 in
set_option maxHeartbeats 4000000 in
theorem UnboxPost.back {w w' : World} {sd o b : List UInt8} {ts : List (List UInt8)} {e : Ending} (h : UnboxPost w (secretU sd) (kboxU (pointU sd) o b ts) ts e w') (hz : boxBoth (pointU sd) o ≠ zeroKey) (hl : b.length ≤ 1048576) (hg : GoodT ts) :
  ∃ A c, e = .returned (.tuple #[.slice A b.length c, .int .i64 0]) ∧ NewB w w' A b.length c b ∧ Below w.heap.size w w' := by
 obtain ⟨hb, ⟨h1, _⟩ | ⟨_, h1, _⟩ | ⟨_, _, h1⟩⟩ := h
 ·
  rw [kboxU_len] at h1
  omega
 ·
  rw [unBoth_box] at h1
  exact absurd h1 hz
 ·
  rw [unKey_box, kboxU_drop] at h1
  obtain ⟨A, c, he, hn, hb'⟩ := h1.yes (by rw [sealU_len]; omega) (by rw [sealU_len]; omega) hg (sealU_sound _ _ _)
  rw [open_seal] at hn
  rw [sealU_len, Nat.add_sub_cancel] at hn he
  exact ⟨A, c, he, hn, hb'⟩
theorem BoxPost.any {w w' : World} {p s b : List UInt8} {ts : List (List UInt8)} {e : Ending} (h : BoxPost w p s b ts e w') :
  Below w.heap.size w w' ∧ (e = .returned (.tuple #[.slice none 0 0, .int .i64 1]) ∨ e = .returned (.tuple #[.slice none 0 0, .int .i64 4]) ∨
   (∃ A c, e = .returned (.tuple #[.slice A (b.length + 48) c, .int .i64 0]) ∧ NewB w w' A (b.length + 48) c (kboxU p s b ts) ∧ boxBoth p s ≠ zeroKey ∧ GoodT ts)) := by
 have h0 := h
 obtain ⟨hb, ⟨h1, h2⟩ | ⟨h1, h2, h3⟩ | ⟨h1, h2, h3, _⟩⟩ := h
 ·
  exact ⟨hb, .inl h2⟩
 ·
  exact ⟨hb, .inr (.inl h3)⟩
 ·
  obtain ⟨A, c, he, hn, _⟩ := h0.yes h1 h2 h3
  exact ⟨hb, .inr (.inr ⟨A, c, he, hn, h1, h3⟩)⟩
set_option maxRecDepth 100000 in
set_option maxHeartbeats 4000000 in
theorem walkH_KemBack (hP : PKP) (hB : PKB) (hU : PKU) (sd o b : List UInt8) (A : Option Addr) (m c : Nat) (At : Option Addr) (mt ct : Nat) (vs : List Value) (ts : List (List UInt8)) (w : World) (hs : sd.length = 32) (ho : o.length = 32)
  (hmc : m ≤ c) (hcm : c ≤ maxLen) (hr : Rd w w.heap.size A m (b.map bv)) (hmt : mt ≤ ct) (hct : ct ≤ maxLen) (hm24 : mt * 24 ≤ 140737488355328) (hv : Rd w w.heap.size At mt vs) (ht : Txs w w.heap.size vs ts) (hT : CTab w) :
  Calls Tryd.prog 3 #[.agg (keyC sd), .agg (keyC o), .slice A m c, .slice At mt ct] w fun e w' => e = .returned (.bool true) ∧ Below w.heap.size w w' := by
 have hM0 := ((Ms.nil w).box 23 (keyC sd)).box 23 (keyC o)
 simp only [World.size_alloc] at hM0
 have Hss := Lib.hid (sizeKey hs)
 have Hso := Lib.hid (sizeKey ho)
 have Hbl := Lib.hid (show b.length = m by simpa using hr.len)
 have hsl := secretU_len sd
 have hnl := pointU_len sd
 have Hsc := Lib.hid (sizeKey hsl)
 have Hoc := Lib.hid (one_keyF (secretU sd))
 have Hzc := Lib.hid (zkS (l := (secretU sd)) (by rw [hsl]))
 have Hsn := Lib.hid (sizeKey hnl)
 have Hon := Lib.hid (one_keyF (pointU sd))
 have Hzn := Lib.hid (zkS (l := (pointU sd)) (by rw [hnl]))
 have Hp1 := Lib.hid (fun wx (h : CTab wx) => hP sd wx hs h)
 have Hbx := Lib.hid (fun (hm : mt ≤ 200) (hf : fewSum ts ≤ 140000) wx (hb : Below w.heap.size w wx) => (hB (pointU sd) o b A m c At mt ct vs ts wx hnl ho hmc hcm (d_rd hr hb) hmt hct hm hf (d_rd hv hb) (d_txs ht hb) (hT.below hb)).mono fun _ _ h => h.any)
 have Hun := Lib.hid (fun (hm : mt ≤ 200) (hf : fewSum ts ≤ 140000) (h1 : m ≤ 1000) (hz : boxBoth (pointU sd) o ≠ zeroKey) (hg : GoodT ts) wx (hb : Below w.heap.size w wx) A5 c5 (hmc5 : m + 48 ≤ c5) (hcm5 : c5 ≤ maxLen) (hr5 : Rd wx wx.heap.size A5 (m + 48) ((kboxU (pointU sd) o b ts).map bv)) =>
  (hU (secretU sd) (kboxU (pointU sd) o b ts) A5 (m + 48) c5 At mt ct vs ts wx hsl hmc5 hcm5 hr5 hmt hct hm hf (d_rd hv hb) (d_txs ht hb) (hT.below hb)).mono fun _ _ h => h.back hz (by rw [Hbl.out]; omega) hg)
 rw [Hbl.out] at Hbx Hun
 clear hs ho hsl hnl
 generalize (boxBoth (pointU sd) o ≠ zeroKey) = Z at *
 generalize kboxU (pointU sd) o b ts = X at *
 generalize secretU sd = sec at *
 generalize pointU sd = pt at *
 go_enter Tryd.func3, Tryd.ntmps3
 go_wp2_with fail
 refine (live08 hP hB _ (hT.below hM0.old)).mono ?_
 rintro e w2 ⟨rfl, hb2⟩
 have hM2 := hM0.call hb2
 have hB2 := hM2.old
 clear hb2 hM0
 by_cases h1 : m ≤ 1000
 rotate_left
 ·
  have h1' : (1000 : Int) < (m : Int) := by omega
  go_wp2_with fail
  go_ret
  exact ⟨rfl, hB2⟩
 have h1' : ¬ (1000 : Int) < (m : Int) := by omega
 go_upto_region 6 with (go_at_call 7; refine (FewAll_any At mt ct vs ts _ _ (by omega) (d_rd hv hB2) (d_txs ht hB2)).mono ?_; rintro e wf ⟨bf, rfl, hbf0, rfl⟩; have hbf := Lib.hid hbf0; clear hbf0; cases bf)
 ·
  go_wp2_with fail
  go_ret
  exact ⟨rfl, hB2⟩
 obtain ⟨hm, hfs⟩ := hbf.out (by first | rfl | trivial)
 have Hfs := Lib.hid hfs
 clear hbf hfs
 go_wp2_with ((with_reducible refine tdQ 29 ?_); refine lcQ 23 (.tmp 4) (w.heap.size) (keyC sd) (hM2.get 1 rfl) Tryd.underlying23 Hss.out ?_)
 refine (Hp1.out _ (hT.below hB2)).mono ?_
 rintro e w3 ⟨rfl, hb3⟩
 have hM3 := hM2.call hb3
 clear hM2 hB2 hb3
 have hX3 := (hM3.box 23 #[.int .u8 0, .int .u8 0, .int .u8 0, .int .u8 0, .int .u8 0, .int .u8 0, .int .u8 0, .int .u8 0, .int .u8 0, .int .u8 0, .int .u8 0, .int .u8 0, .int .u8 0, .int .u8 0, .int .u8 0, .int .u8 0, .int .u8 0, .int .u8 0, .int .u8 0, .int .u8 0, .int .u8 0, .int .u8 0, .int .u8 0, .int .u8 0, .int .u8 0, .int .u8 0, .int .u8 0, .int .u8 0, .int .u8 0, .int .u8 0, .int .u8 0, .int .u8 0]).box 23 #[.int .u8 0, .int .u8 0, .int .u8 0, .int .u8 0, .int .u8 0, .int .u8 0, .int .u8 0, .int .u8 0, .int .u8 0, .int .u8 0, .int .u8 0, .int .u8 0, .int .u8 0, .int .u8 0, .int .u8 0, .int .u8 0, .int .u8 0, .int .u8 0, .int .u8 0, .int .u8 0, .int .u8 0, .int .u8 0, .int .u8 0, .int .u8 0, .int .u8 0, .int .u8 0, .int .u8 0, .int .u8 0, .int .u8 0, .int .u8 0, .int .u8 0, .int .u8 0]
 have hg3 := hM3.old.size
 have hn3 := fun p hp => Nat.ne_of_lt ((hM3.rows p hp).lt)
 have hnn3 := fun p hp => Nat.ne_of_lt (((hM3.box 23 #[.int .u8 0, .int .u8 0, .int .u8 0, .int .u8 0, .int .u8 0, .int .u8 0, .int .u8 0, .int .u8 0, .int .u8 0, .int .u8 0, .int .u8 0, .int .u8 0, .int .u8 0, .int .u8 0, .int .u8 0, .int .u8 0, .int .u8 0, .int .u8 0, .int .u8 0, .int .u8 0, .int .u8 0, .int .u8 0, .int .u8 0, .int .u8 0, .int .u8 0, .int .u8 0, .int .u8 0, .int .u8 0, .int .u8 0, .int .u8 0, .int .u8 0, .int .u8 0]).rows p hp).lt)
 simp only [World.size_alloc] at hX3 hnn3
 have hM4 := Ms.set2 (ds := (keyC sec)) (ds' := (keyC pt)) hX3.swap hg3 (by omega) (by omega) hn3 (fun p hp => hnn3 p (List.mem_cons_of_mem _ hp))
 clear hn3 hnn3 hg3
 have Hwb := Lib.hid (Hbx.out hm Hfs.out _ hM4.old)
 go_wp2_with (first
  | ((with_reducible refine tsQ 23 ?_); refine srQ 23 (.tmp 10) (.tmp 31) (w3.heap.size) (keyC sec) _ (hX3.get 1 rfl) Hsc.out Hzc.out Hoc.out ?_)
  | ((with_reducible refine tsQ 23 ?_); refine srQ 23 (.tmp 11) (.tmp 32) (w3.heap.size + 1) (keyC pt) _ ((hX3.get 0 rfl).rowFar (by omega) _) Hsn.out Hzn.out Hon.out ?_)
  | ((with_reducible refine tdQ 34 ?_); refine lcQ 23 (.tmp 11) (w3.heap.size + 1) (keyC pt) (hM4.get 1 rfl) Tryd.underlying23 Hsn.out ?_)
  | ((with_reducible refine tdQ 35 ?_); refine lcQ 23 (.tmp 5) (w.heap.size + 1) (keyC o) (hM4.get 2 rfl) Tryd.underlying23 Hso.out ?_))
 refine Hwb.out.mono ?_
 rintro e w5 ⟨hb5, rfl | rfl | ⟨A5, c5, rfl, hn5, hz, hg⟩⟩
 ·
  have hM5 := hM4.call hb5
  clear Hwb hM3 hM4 hX3 hb5
  go_wp2_with fail
  go_ret
  exact ⟨rfl, hM5.old⟩
 ·
  have hM5 := hM4.call hb5
  clear Hwb hM3 hM4 hX3 hb5
  go_wp2_with fail
  go_ret
  exact ⟨rfl, hM5.old⟩
 have hM5 := hM4.call hb5
 have Hwu := Lib.hid (Hun.out hm Hfs.out h1 hz hg _ hM5.old A5 c5 hn5.2.1 hn5.2.2.1 hn5.1)
 clear Hwb hM3 hM4 hX3 hb5 hn5 hz hg
 go_wp2_with ((with_reducible refine tdQ 66 ?_); refine lcQ 23 (.tmp 10) (w3.heap.size) (keyC sec) (hM5.get 0 rfl) Tryd.underlying23 Hsc.out ?_)
 refine Hwu.out.mono ?_
 rintro e w6 ⟨A6, c6, rfl, hn6, hb6⟩
 have hM6 := hM5.call hb6
 have hsm := Same_any A6 A m c6 m c b b w6 w6.heap.size w6.heap.size hn6.1 (d_rd hr hM6.old)
 rw [sameB_refl] at hsm
 have Hsm := Lib.hid hsm
 have hmm : ((m + 48 : Nat) : Int) = (m : Int) + 32 + 16 := by omega
 clear Hwu hM5 hb6 hn6 hsm
 go_wp2_with (go_at_call 11; refine Hsm.out.mono ?_; rintro e wz ⟨rfl, rfl⟩)
 go_ret
 exact ⟨rfl, hM6.old⟩
def PBK : Prop := ∀ (k : List UInt8) (w : World), k.length = 32 → Calls Tryd.prog 13 #[.agg (keyC k)] w fun e w' => e = .returned (.agg (keyC (mltK k nineL))) ∧ Below w.heap.size w w'
set_option maxRecDepth 100000 in
set_option maxHeartbeats 4000000 in
theorem walkH_KemMeets (hP : PKP) (hS : PKS) (hB : PKB) (hC : PBK) (a b : List UInt8) (w : World) (ha : a.length = 32) (hb : b.length = 32) (hT : CTab w) :
  Calls Tryd.prog 4 #[.agg (keyC a), .agg (keyC b)] w fun e w' => e = .returned (.bool true) ∧ Below w.heap.size w w' := by
 have hM0 := ((Ms.nil w).box 23 (keyC a)).box 23 (keyC b)
 simp only [World.size_alloc] at hM0
 have hl := fun wx (h : CTab wx) => live08 hP hB wx h
 have Hsa := Lib.hid (sizeKey ha)
 have Hsb := Lib.hid (sizeKey hb)
 have Hp1 := Lib.hid (fun wx (h : CTab wx) => hP a wx ha h)
 have Hp2 := Lib.hid (fun wx (h : CTab wx) => hP b wx hb h)
 have c1 := fun wx => hC (secretU a) wx (secretU_len a)
 have c2 := fun wx => hC (secretU b) wx (secretU_len b)
 rw [show mltK (secretU a) nineL = pointU a from rfl] at c1
 rw [show mltK (secretU b) nineL = pointU b from rfl] at c2
 have Hsh1 := Lib.hid (show ∀ wx, CTab wx → Calls Tryd.prog 12 #[.agg (keyC (secretU a)), .agg (keyC (pointU b)), .agg (keyC (pointU a)), .agg (keyC (pointU b))] wx fun e w' => e = .returned (.tuple #[.agg (keyC (shX (secretU a) (pointU b) (pointU a) (pointU b))), .int .i64 (shE (secretU a) (pointU b))]) ∧ Below wx.heap.size wx w' from fun wx h => (hS _ _ _ _ wx (secretU_len a) (pointU_len b) (pointU_len a) (pointU_len b) h).mono fun _ _ h => h.get)
 have Hsh2 := Lib.hid (show ∀ wx, CTab wx → Calls Tryd.prog 12 #[.agg (keyC (secretU b)), .agg (keyC (pointU a)), .agg (keyC (pointU a)), .agg (keyC (pointU b))] wx fun e w' => e = .returned (.tuple #[.agg (keyC (shX (secretU b) (pointU a) (pointU a) (pointU b))), .int .i64 (shE (secretU b) (pointU a))]) ∧ Below wx.heap.size wx w' from fun wx h => (hS _ _ _ _ wx (secretU_len b) (pointU_len a) (pointU_len a) (pointU_len b) h).mono fun _ _ h => h.get)
 rw [show shX (secretU b) (pointU a) (pointU a) (pointU b) = shX (secretU a) (pointU b) (pointU a) (pointU b) by unfold shX; rw [meet_both a b], show shE (secretU b) (pointU a) = shE (secretU a) (pointU b) by unfold shE; rw [meet_both a b]] at Hsh2
 have Hsp := Lib.hid (sizeKey (l := pointU a) (pointU_len a))
 have Hop := Lib.hid (one_keyF (pointU a))
 have Hzp := Lib.hid (zkS (l := (pointU a)) (by rw [pointU_len]))
 have Hsx := Lib.hid (sizeKey (l := secretU a) (secretU_len a))
 have Hox := Lib.hid (one_keyF (secretU a))
 have Hzx := Lib.hid (zkS (l := (secretU a)) (by rw [secretU_len]))
 have Hsq := Lib.hid (sizeKey (l := pointU b) (pointU_len b))
 have Hoq := Lib.hid (one_keyF (pointU b))
 have Hzq := Lib.hid (zkS (l := (pointU b)) (by rw [pointU_len]))
 have Hsy := Lib.hid (sizeKey (l := secretU b) (secretU_len b))
 have Hoy := Lib.hid (one_keyF (secretU b))
 have Hzy := Lib.hid (zkS (l := (secretU b)) (by rw [secretU_len]))
 have Hsk := Lib.hid (sizeKey (l := shX (secretU a) (pointU b) (pointU a) (pointU b)) (shX_len _ _ _ _))
 have Hok := Lib.hid (one_keyF (shX (secretU a) (pointU b) (pointU a) (pointU b)))
 have Hzk := Lib.hid (zkS (l := (shX (secretU a) (pointU b) (pointU a) (pointU b))) (by rw [shX_len]))
 have ek := fun wx => eql_keyF wx (shX (secretU a) (pointU b) (pointU a) (pointU b)) (shX (secretU a) (pointU b) (pointU a) (pointU b)) (shX_len _ _ _ _) (shX_len _ _ _ _)
 have ep := fun wx => eql_keyF wx (pointU a) (pointU a) (pointU_len a) (pointU_len a)
 have eq := fun wx => eql_keyF wx (pointU b) (pointU b) (pointU_len b) (pointU_len b)
 simp only [beq_self_eq_true] at ek ep eq
 clear hP hS hB hC ha hb
 generalize shX (secretU a) (pointU b) (pointU a) (pointU b) = k at *
 generalize shE (secretU a) (pointU b) = er at *
 generalize pointU a = p at *
 generalize secretU a = x at *
 generalize pointU b = q at *
 generalize secretU b = y at *
 obtain ⟨lp, hlp⟩ : ∃ l : List Value, l.toArray = keyC p := ⟨_, Array.toArray_toList⟩
 simp only [← hlp] at *
 clear hlp
 obtain ⟨lx, hlx⟩ : ∃ l : List Value, l.toArray = keyC x := ⟨_, Array.toArray_toList⟩
 simp only [← hlx] at *
 clear hlx
 obtain ⟨lq, hlq⟩ : ∃ l : List Value, l.toArray = keyC q := ⟨_, Array.toArray_toList⟩
 simp only [← hlq] at *
 clear hlq
 obtain ⟨ly, hly⟩ : ∃ l : List Value, l.toArray = keyC y := ⟨_, Array.toArray_toList⟩
 simp only [← hly] at *
 clear hly
 obtain ⟨lk, hlk⟩ : ∃ l : List Value, l.toArray = keyC k := ⟨_, Array.toArray_toList⟩
 simp only [← hlk] at *
 clear hlk
 go_enter Tryd.func4, Tryd.ntmps4
 go_wp2_with fail
 refine (hl _ (hT.below hM0.old)).mono ?_
 rintro e w2 ⟨rfl, hb2⟩
 have hM2 := hM0.call hb2
 clear hb2 hM0 hl
 go_wp2_with ((with_reducible refine tdQ 18 ?_); refine lcQ 23 (.tmp 2) (w.heap.size) (keyC a) (hM2.get 1 rfl) Tryd.underlying23 Hsa.out ?_)
 refine (Hp1.out _ (hT.below hM2.old)).mono ?_
 rintro e w3 ⟨rfl, hb3⟩
 have hM3 := hM2.call hb3
 clear hM2 hb3
 have hX3 := (hM3.box 23 #[.int .u8 0, .int .u8 0, .int .u8 0, .int .u8 0, .int .u8 0, .int .u8 0, .int .u8 0, .int .u8 0, .int .u8 0, .int .u8 0, .int .u8 0, .int .u8 0, .int .u8 0, .int .u8 0, .int .u8 0, .int .u8 0, .int .u8 0, .int .u8 0, .int .u8 0, .int .u8 0, .int .u8 0, .int .u8 0, .int .u8 0, .int .u8 0, .int .u8 0, .int .u8 0, .int .u8 0, .int .u8 0, .int .u8 0, .int .u8 0, .int .u8 0, .int .u8 0]).box 23 #[.int .u8 0, .int .u8 0, .int .u8 0, .int .u8 0, .int .u8 0, .int .u8 0, .int .u8 0, .int .u8 0, .int .u8 0, .int .u8 0, .int .u8 0, .int .u8 0, .int .u8 0, .int .u8 0, .int .u8 0, .int .u8 0, .int .u8 0, .int .u8 0, .int .u8 0, .int .u8 0, .int .u8 0, .int .u8 0, .int .u8 0, .int .u8 0, .int .u8 0, .int .u8 0, .int .u8 0, .int .u8 0, .int .u8 0, .int .u8 0, .int .u8 0, .int .u8 0]
 have hg3 := hM3.old.size
 have hn3 := fun p hp => Nat.ne_of_lt ((hM3.rows p hp).lt)
 have hnn3 := fun p hp => Nat.ne_of_lt (((hM3.box 23 #[.int .u8 0, .int .u8 0, .int .u8 0, .int .u8 0, .int .u8 0, .int .u8 0, .int .u8 0, .int .u8 0, .int .u8 0, .int .u8 0, .int .u8 0, .int .u8 0, .int .u8 0, .int .u8 0, .int .u8 0, .int .u8 0, .int .u8 0, .int .u8 0, .int .u8 0, .int .u8 0, .int .u8 0, .int .u8 0, .int .u8 0, .int .u8 0, .int .u8 0, .int .u8 0, .int .u8 0, .int .u8 0, .int .u8 0, .int .u8 0, .int .u8 0, .int .u8 0]).rows p hp).lt)
 simp only [World.size_alloc] at hX3 hnn3
 have hM4 := Ms.set2 (ds := lx.toArray) (ds' := lp.toArray) hX3.swap hg3 (by omega) (by omega) hn3 (fun p hp => hnn3 p (List.mem_cons_of_mem _ hp))
 clear hn3 hnn3 hg3
 have Hc2 := Lib.hid (Hp2.out _ (hT.below hM4.old))
 go_wp2_with (first
  | ((with_reducible refine tsQ 23 ?_); refine srQ 23 (.tmp 6) (.tmp 20) (w3.heap.size) lx.toArray _ (hX3.get 1 rfl) Hsx.out Hzx.out Hox.out ?_)
  | ((with_reducible refine tsQ 23 ?_); refine srQ 23 (.tmp 7) (.tmp 21) (w3.heap.size + 1) lp.toArray _ ((hX3.get 0 rfl).rowFar (by omega) _) Hsp.out Hzp.out Hop.out ?_)
  | ((with_reducible refine tdQ 23 ?_); refine lcQ 23 (.tmp 3) (w.heap.size + 1) (keyC b) (hM4.get 2 rfl) Tryd.underlying23 Hsb.out ?_))
 refine Hc2.out.mono ?_
 rintro e w4 ⟨rfl, hb4⟩
 have hM5 := hM4.call hb4
 clear hM3 hM4 hX3 hb4 Hc2
 have hX5 := (hM5.box 23 #[.int .u8 0, .int .u8 0, .int .u8 0, .int .u8 0, .int .u8 0, .int .u8 0, .int .u8 0, .int .u8 0, .int .u8 0, .int .u8 0, .int .u8 0, .int .u8 0, .int .u8 0, .int .u8 0, .int .u8 0, .int .u8 0, .int .u8 0, .int .u8 0, .int .u8 0, .int .u8 0, .int .u8 0, .int .u8 0, .int .u8 0, .int .u8 0, .int .u8 0, .int .u8 0, .int .u8 0, .int .u8 0, .int .u8 0, .int .u8 0, .int .u8 0, .int .u8 0]).box 23 #[.int .u8 0, .int .u8 0, .int .u8 0, .int .u8 0, .int .u8 0, .int .u8 0, .int .u8 0, .int .u8 0, .int .u8 0, .int .u8 0, .int .u8 0, .int .u8 0, .int .u8 0, .int .u8 0, .int .u8 0, .int .u8 0, .int .u8 0, .int .u8 0, .int .u8 0, .int .u8 0, .int .u8 0, .int .u8 0, .int .u8 0, .int .u8 0, .int .u8 0, .int .u8 0, .int .u8 0, .int .u8 0, .int .u8 0, .int .u8 0, .int .u8 0, .int .u8 0]
 have hg5 := hM5.old.size
 have hn5 := fun p hp => Nat.ne_of_lt ((hM5.rows p hp).lt)
 have hnn5 := fun p hp => Nat.ne_of_lt (((hM5.box 23 #[.int .u8 0, .int .u8 0, .int .u8 0, .int .u8 0, .int .u8 0, .int .u8 0, .int .u8 0, .int .u8 0, .int .u8 0, .int .u8 0, .int .u8 0, .int .u8 0, .int .u8 0, .int .u8 0, .int .u8 0, .int .u8 0, .int .u8 0, .int .u8 0, .int .u8 0, .int .u8 0, .int .u8 0, .int .u8 0, .int .u8 0, .int .u8 0, .int .u8 0, .int .u8 0, .int .u8 0, .int .u8 0, .int .u8 0, .int .u8 0, .int .u8 0, .int .u8 0]).rows p hp).lt)
 simp only [World.size_alloc] at hX5 hnn5
 have hM6 := Ms.set2 (ds := ly.toArray) (ds' := lq.toArray) hX5.swap hg5 (by omega) (by omega) hn5 (fun p hp => hnn5 p (List.mem_cons_of_mem _ hp))
 clear hn5 hnn5 hg5
 have Hc3 := Lib.hid (Hsh1.out _ (hT.below hM6.old))
 go_wp2_with (first
  | ((with_reducible refine tsQ 23 ?_); refine srQ 23 (.tmp 8) (.tmp 25) (w4.heap.size) ly.toArray _ (hX5.get 1 rfl) Hsy.out Hzy.out Hoy.out ?_)
  | ((with_reducible refine tsQ 23 ?_); refine srQ 23 (.tmp 9) (.tmp 26) (w4.heap.size + 1) lq.toArray _ ((hX5.get 0 rfl).rowFar (by omega) _) Hsq.out Hzq.out Hoq.out ?_)
  | ((with_reducible refine tdQ 28 ?_); refine lcQ 23 (.tmp 6) (w3.heap.size) lx.toArray (hM6.get 2 rfl) Tryd.underlying23 Hsx.out ?_)
  | ((with_reducible refine tdQ 29 ?_); refine lcQ 23 (.tmp 9) (w4.heap.size + 1) lq.toArray (hM6.get 1 rfl) Tryd.underlying23 Hsq.out ?_)
  | ((with_reducible refine tdQ 30 ?_); refine lcQ 23 (.tmp 7) (w3.heap.size + 1) lp.toArray (hM6.get 3 rfl) Tryd.underlying23 Hsp.out ?_)
  | ((with_reducible refine tdQ 31 ?_); refine lcQ 23 (.tmp 9) (w4.heap.size + 1) lq.toArray (hM6.get 1 rfl) Tryd.underlying23 Hsq.out ?_))
 refine Hc3.out.mono ?_
 rintro e w5 ⟨rfl, hb5⟩
 have hM7 := (hM6.call hb5).put 23 #[.int .u8 0, .int .u8 0, .int .u8 0, .int .u8 0, .int .u8 0, .int .u8 0, .int .u8 0, .int .u8 0, .int .u8 0, .int .u8 0, .int .u8 0, .int .u8 0, .int .u8 0, .int .u8 0, .int .u8 0, .int .u8 0, .int .u8 0, .int .u8 0, .int .u8 0, .int .u8 0, .int .u8 0, .int .u8 0, .int .u8 0, .int .u8 0, .int .u8 0, .int .u8 0, .int .u8 0, .int .u8 0, .int .u8 0, .int .u8 0, .int .u8 0, .int .u8 0] lk.toArray
 clear hM5 hM6 hX5 hb5 Hc3
 have Hc4 := Lib.hid (Hsh2.out _ (hT.below hM7.old))
 go_wp2_with (first
  | ((with_reducible refine tsQ 23 ?_); refine srQ 23 (.tmp 10) (.tmp 33) (w5.heap.size) lk.toArray _ (RowC.new _ _ _) Hsk.out Hzk.out Hok.out ?_)
  | ((with_reducible refine tdQ 36 ?_); refine lcQ 23 (.tmp 8) (w4.heap.size) ly.toArray (hM7.get 1 rfl) Tryd.underlying23 Hsy.out ?_)
  | ((with_reducible refine tdQ 37 ?_); refine lcQ 23 (.tmp 7) (w3.heap.size + 1) lp.toArray (hM7.get 4 rfl) Tryd.underlying23 Hsp.out ?_)
  | ((with_reducible refine tdQ 38 ?_); refine lcQ 23 (.tmp 7) (w3.heap.size + 1) lp.toArray (hM7.get 4 rfl) Tryd.underlying23 Hsp.out ?_)
  | ((with_reducible refine tdQ 39 ?_); refine lcQ 23 (.tmp 9) (w4.heap.size + 1) lq.toArray (hM7.get 2 rfl) Tryd.underlying23 Hsq.out ?_))
 refine Hc4.out.mono ?_
 rintro e w6 ⟨rfl, hb6⟩
 have hM8 := (hM7.call hb6).put 23 #[.int .u8 0, .int .u8 0, .int .u8 0, .int .u8 0, .int .u8 0, .int .u8 0, .int .u8 0, .int .u8 0, .int .u8 0, .int .u8 0, .int .u8 0, .int .u8 0, .int .u8 0, .int .u8 0, .int .u8 0, .int .u8 0, .int .u8 0, .int .u8 0, .int .u8 0, .int .u8 0, .int .u8 0, .int .u8 0, .int .u8 0, .int .u8 0, .int .u8 0, .int .u8 0, .int .u8 0, .int .u8 0, .int .u8 0, .int .u8 0, .int .u8 0, .int .u8 0] lk.toArray
 clear hM7 hb6 Hc4
 go_wp2_with ((with_reducible refine tsQ 23 ?_); refine srQ 23 (.tmp 12) (.tmp 41) (w6.heap.size) lk.toArray _ (RowC.new _ _ _) Hsk.out Hzk.out Hok.out ?_)
 generalize ((w6.alloc (.cells #[.int .u8 0, .int .u8 0, .int .u8 0, .int .u8 0, .int .u8 0, .int .u8 0, .int .u8 0, .int .u8 0, .int .u8 0, .int .u8 0, .int .u8 0, .int .u8 0, .int .u8 0, .int .u8 0, .int .u8 0, .int .u8 0, .int .u8 0, .int .u8 0, .int .u8 0, .int .u8 0, .int .u8 0, .int .u8 0, .int .u8 0, .int .u8 0, .int .u8 0, .int .u8 0, .int .u8 0, .int .u8 0, .int .u8 0, .int .u8 0, .int .u8 0, .int .u8 0] 23)).setRow w6.heap.size lk.toArray) = w7 at *
 have hkeep : ∀ wx : World, Below w7.heap.size w7 wx → wx.rangeAt (w5.heap.size) 0 lk ∧ wx.rangeAt (w6.heap.size) 0 lk ∧ wx.rangeAt (w3.heap.size + 1) 0 lp ∧ wx.rangeAt (w3.heap.size) 0 lx ∧ wx.rangeAt (w4.heap.size + 1) 0 lq ∧ wx.rangeAt (w4.heap.size) 0 ly := fun wx hb => ⟨((hM8.get 1 rfl).call hb).range, ((hM8.get 0 rfl).call hb).range, ((hM8.get 5 rfl).call hb).range, ((hM8.get 4 rfl).call hb).range, ((hM8.get 3 rfl).call hb).range, ((hM8.get 2 rfl).call hb).range⟩
 have hu := Tryd.underlying23
 have hik := Hsk.out
 have hip := Hsp.out
 have hix := Hsx.out
 have hiq := Hsq.out
 have hiy := Hsy.out
 simp only [List.size_toArray] at hik hip hix hiq hiy
 refine beginT (fun wx => wx.rangeAt (w5.heap.size) 0 lk ∧ wx.rangeAt (w6.heap.size) 0 lk ∧ wx.rangeAt (w3.heap.size + 1) 0 lp ∧ wx.rangeAt (w3.heap.size) 0 lx ∧ wx.rangeAt (w4.heap.size + 1) 0 lq ∧ wx.rangeAt (w4.heap.size) 0 ly) 23 (by kernel_rfl) ?_
 have hS := hkeep _ (c_drew (c_refl _))
 refine tk 0 (some 43) (.bool true) (fun _ _ _ h => h) hS ?_
 simp only [Act.put, sA, sZ, sS]
 refine tk 1 (some 44) (.bool true) (fun _ _ _ h => h) hS ?_
 simp only [Act.put, sA, sZ, sS]
 refine ldQ 2 (some 45) 23 (.tmp 10) (w5.heap.size) 0 lk (fun wx hSw => hSw.1) hu hik (fun _ _ _ h => h) hS ?_
 simp only [Act.put, sA, sZ, sS]
 refine ldQ 3 (some 46) 23 (.tmp 12) (w6.heap.size) 0 lk (fun wx hSw => hSw.2.1) hu hik (fun _ _ _ h => h) hS ?_
 simp only [Act.put, sA, sZ, sS]
 refine tk 4 (some 47) (.bool true) (fun _ _ _ h => h) hS ?_
 simp only [Act.put, sA, sZ, sS]
 refine tk 5 (some 48) (.bool true) (fun _ _ _ h => h) hS ?_
 simp only [Act.put, sA, sZ, sS]
 refine tk 6 (some 49) (.bool true) (fun _ _ _ h => h) hS ?_
 simp only [Act.put, sA, sZ, sS]
 refine tk 7 (some 50) (.int .i64 er) (fun _ _ _ h => h) hS ?_
 simp only [Act.put, sA, sZ, sS]
 refine tk 8 (some 51) (.int .i64 er) (fun _ _ _ h => h) hS ?_
 simp only [Act.put, sA, sZ, sS]
 refine tk 9 (some 52) (.bool true) (fun _ _ _ h => h) hS ?_
 simp only [Act.put, sA, sZ, sS]
 refine tk 10 (some 53) (.bool true) (fun _ _ _ h => h) hS ?_
 simp only [Act.put, sA, sZ, sS]
 refine tk 11 (some 54) (.bool true) (fun _ _ _ h => h) hS ?_
 simp only [Act.put, sA, sZ, sS]
 refine ldQ 12 (some 55) 23 (.tmp 7) (w3.heap.size + 1) 0 lp (fun wx hSw => hSw.2.2.1) hu hip (fun _ _ _ h => h) hS ?_
 simp only [Act.put, sA, sZ, sS]
 refine ldQ 13 (some 56) 23 (.tmp 6) (w3.heap.size) 0 lx (fun wx hSw => hSw.2.2.2.1) hu hix (fun _ _ _ h => h) hS ?_
 simp only [Act.put, sA, sZ, sS]
 refine on1 14 fun K hK => ?_
 go_simp
 refine (c1 _).mono ?_
 rintro e x1 ⟨rfl, hx1⟩
 refine kp hK hkeep ?_
 clear hK K
 have hS1 := hkeep x1 bl
 refine tk 15 (some 58) (.bool true) (fun _ _ _ h => h) hS1 ?_
 simp only [Act.put, sA, sZ, sS]
 refine tk 16 (some 59) (.bool true) (fun _ _ _ h => h) hS1 ?_
 simp only [Act.put, sA, sZ, sS]
 refine tk 17 (some 60) (.bool true) (fun _ _ _ h => h) hS1 ?_
 simp only [Act.put, sA, sZ, sS]
 refine ldQ 18 (some 61) 23 (.tmp 9) (w4.heap.size + 1) 0 lq (fun wx hSw => hSw.2.2.2.2.1) hu hiq (fun _ _ _ h => h) hS1 ?_
 simp only [Act.put, sA, sZ, sS]
 refine ldQ 19 (some 62) 23 (.tmp 8) (w4.heap.size) 0 ly (fun wx hSw => hSw.2.2.2.2.2) hu hiy (fun _ _ _ h => h) hS1 ?_
 simp only [Act.put, sA, sZ, sS]
 refine on1 20 fun K hK => ?_
 go_simp
 refine (c2 _).mono ?_
 rintro e x2 ⟨rfl, hx2⟩
 refine kp hK hkeep ?_
 clear hK K
 have hS2 := hkeep x2 bl
 refine tk 21 (some 64) (.bool true) (fun _ _ _ h => h) hS2 ?_
 simp only [Act.put, sA, sZ, sS]
 refine tk 22 (some 65) (.bool true) (fun _ _ _ h => h) hS2 ?_
 simp only [Act.put, sA, sZ, sS]
 refine on1 23 fun K hK => ?_
 go_simp
 refine hK.out _ _ (fun h => absurd rfl h) ?_
 clear hK K
 refine doneT (by kernel_rfl) ?_ _
 have hE : Below w7.heap.size w7 x2 := bl
 go_wp2_with fail
 go_ret
 exact ⟨rfl, (hM8.call hE).old⟩
theorem good_nilK : GoodT [] := fun i t h => by simp at h
theorem BoxPost.none {w w' : World} {p s b : List UInt8} {e : Ending} (h : BoxPost w p s b [] e w') (hl : b.length ≤ 1048576) :
  Below w.heap.size w w' ∧ (e = .returned (.tuple #[.slice Option.none 0 0, .int .i64 1]) ∨
   (∃ A c, e = .returned (.tuple #[.slice A (b.length + 48) c, .int .i64 0]) ∧ NewB w w' A (b.length + 48) c (kboxU p s b []))) := by
 have h0 := h
 obtain ⟨hb, ⟨h1, h2⟩ | ⟨h1, h2, h3⟩ | ⟨h1, h2, h3, _⟩⟩ := h
 ·
  exact ⟨hb, .inl h2⟩
 ·
  exact absurd ⟨hl, good_nilK⟩ h2
 ·
  obtain ⟨A, c, he, hn, _⟩ := h0.yes h1 h2 h3
  exact ⟨hb, .inr ⟨A, c, he, hn⟩⟩
set_option maxRecDepth 100000 in
set_option maxHeartbeats 4000000 in
theorem walkH_KemSeeds (hP : PKP) (hB : PKB) (p q sd a b : List UInt8) (A : Option Addr) (m c : Nat) (A' : Option Addr) (m' c' : Nat) (w : World) (hp : p.length = 32) (hq : q.length = 32) (hs : sd.length = 32)
  (hmc : m ≤ c) (hcm : c ≤ maxLen) (hr : Rd w w.heap.size A m (a.map bv)) (hmc' : m' ≤ c') (hcm' : c' ≤ maxLen) (hr' : Rd w w.heap.size A' m' (b.map bv)) (hT : CTab w) :
  Calls Tryd.prog 5 #[.agg (keyC p), .agg (keyC q), .agg (keyC sd), .slice A m c, .slice A' m' c'] w fun e w' => e = .returned (.bool true) ∧ Below w.heap.size w w' := by
 have hM0 := (((Ms.nil w).box 23 (keyC p)).box 23 (keyC q)).box 23 (keyC sd)
 simp only [World.size_alloc] at hM0
 have Hsp := Lib.hid (sizeKey hp)
 have Hsq := Lib.hid (sizeKey hq)
 have Hss := Lib.hid (sizeKey hs)
 have Hal := Lib.hid (show a.length = m by simpa using hr.len)
 have Hbl := Lib.hid (show b.length = m' by simpa using hr'.len)
 have Hb1 := Lib.hid (fun (h1 : m ≤ 500) wx (hb : Below w.heap.size w wx) => (hB p sd a A m c none 0 0 [] [] wx hp hs hmc hcm (d_rd hr hb) (Nat.le_refl _) (by simp [maxLen]) (by omega) (by simp [fewSum]) (Rd.zero _ _ _) (Txs.nil _ _) (hT.below hb)).mono fun _ _ h => h.none (by rw [Hal.out]; omega))
 have Hb2 := Lib.hid (fun (h1 : m' ≤ 500) wx (hb : Below w.heap.size w wx) => (hB q sd b A' m' c' none 0 0 [] [] wx hq hs hmc' hcm' (d_rd hr' hb) (Nat.le_refl _) (by simp [maxLen]) (by omega) (by simp [fewSum]) (Rd.zero _ _ _) (Txs.nil _ _) (hT.below hb)).mono fun _ _ h => h.none (by rw [Hbl.out]; omega))
 have Ht1 := Lib.hid (kboxU_take p sd a [])
 have Ht2 := Lib.hid (kboxU_take q sd b [])
 rw [Hal.out] at Hb1
 rw [Hbl.out] at Hb2
 clear hp hq hs hr hr' hmc hcm hmc' hcm'
 generalize kboxU p sd a [] = X1 at *
 generalize kboxU q sd b [] = X2 at *
 generalize pointU (ownU sd) = Z at *
 go_enter Tryd.func5, Tryd.ntmps5
 go_wp2_with fail
 refine (live08 hP hB _ (hT.below hM0.old)).mono ?_
 rintro e w2 ⟨rfl, hb2⟩
 have hM2 := hM0.call hb2
 have hB2 := hM2.old
 clear hb2 hM0
 by_cases h1 : m ≤ 500
 rotate_left
 ·
  have h1' : (500 : Int) < (m : Int) := by omega
  go_wp2_with fail
  go_ret
  exact ⟨rfl, hB2⟩
 have h1' : ¬ (500 : Int) < (m : Int) := by omega
 by_cases h2 : m' ≤ 500
 rotate_left
 ·
  have h2' : (500 : Int) < (m' : Int) := by omega
  go_wp2_with fail
  go_ret
  exact ⟨rfl, hB2⟩
 have h2' : ¬ (500 : Int) < (m' : Int) := by omega
 go_wp2_with (first
  | ((with_reducible refine tdQ 29 ?_); refine lcQ 23 (.tmp 5) (w.heap.size) (keyC p) (hM2.get 2 rfl) Tryd.underlying23 Hsp.out ?_)
  | ((with_reducible refine tdQ 30 ?_); refine lcQ 23 (.tmp 7) (w.heap.size + 1 + 1) (keyC sd) (hM2.get 0 rfl) Tryd.underlying23 Hss.out ?_))
 refine (Hb1.out h1 _ hM2.old).mono ?_
 rintro e w3 ⟨hb3, rfl | ⟨A3, c3, rfl, hn3⟩⟩
 ·
  have hM3 := hM2.call hb3
  clear hM2 hB2 hb3
  go_wp2_with (first
   | ((with_reducible refine tdQ 36 ?_); refine lcQ 23 (.tmp 6) (w.heap.size + 1) (keyC q) (hM3.get 1 rfl) Tryd.underlying23 Hsq.out ?_)
   | ((with_reducible refine tdQ 37 ?_); refine lcQ 23 (.tmp 7) (w.heap.size + 1 + 1) (keyC sd) (hM3.get 0 rfl) Tryd.underlying23 Hss.out ?_))
  refine (Hb2.out h2 _ hM3.old).mono ?_
  rintro e w4 ⟨hb4, rfl | ⟨A4, c4, rfl, hn4⟩⟩
  ·
   have hM4 := hM3.call hb4
   go_wp2_with fail
   go_ret
   exact ⟨rfl, hM4.old⟩
  ·
   have hM4 := hM3.call hb4
   go_wp2_with fail
   go_ret
   exact ⟨rfl, hM4.old⟩
 have hM3 := hM2.call hb3
 clear hM2 hB2 hb3
 go_wp2_with (first
  | ((with_reducible refine tdQ 36 ?_); refine lcQ 23 (.tmp 6) (w.heap.size + 1) (keyC q) (hM3.get 1 rfl) Tryd.underlying23 Hsq.out ?_)
  | ((with_reducible refine tdQ 37 ?_); refine lcQ 23 (.tmp 7) (w.heap.size + 1 + 1) (keyC sd) (hM3.get 0 rfl) Tryd.underlying23 Hss.out ?_))
 refine (Hb2.out h2 _ hM3.old).mono ?_
 rintro e w4 ⟨hb4, rfl | ⟨A4, c4, rfl, hn4⟩⟩
 ·
  have hM4 := hM3.call hb4
  go_wp2_with fail
  go_ret
  exact ⟨rfl, hM4.old⟩
 have hM4 := hM3.call hb4
 have hB4 := hM4.old
 have hx := (d_rd hn3.1 hb4).take (show 32 ≤ m + 48 by omega)
 have hy := hn4.1.take (show 32 ≤ m' + 48 by omega)
 rw [← List.map_take] at hx hy
 rw [Ht1.out] at hx
 rw [Ht2.out] at hy
 have k1 : (32 : Int) ≤ (c3 : Int) := by have := hn3.2.1; omega
 have k2 : (32 : Int) ≤ (c4 : Int) := by have := hn4.2.1; omega
 clear hn3 hn4 hb4 hM3 hM4
 generalize hmx : m + 48 = mx at *
 generalize hqx : m' + 48 = qx at *
 have g1 : ((mx : Int) == (m : Int) + 48) = true := by simp; omega
 have g2 : ((qx : Int) == (m' : Int) + 48) = true := by simp; omega
 have g5 : IntKind.i64.wrap ((m : Int) + 48) = (m : Int) + 48 := by rw [IntKind.wrap_i64]; omega
 have g6 : IntKind.i64.wrap ((m' : Int) + 48) = (m' : Int) + 48 := by rw [IntKind.wrap_i64]; omega
 have Hmx := Lib.hid hmx
 have Hqx := Lib.hid hqx
 clear hmx hqx
 have hsm := fun wx (h1 : Rd wx wx.heap.size A3 32 (Z.map bv)) (h2 : Rd wx wx.heap.size A4 32 (Z.map bv)) => Same_any A3 A4 32 c3 32 c4 Z Z wx wx.heap.size wx.heap.size h1 h2
 rw [sameB_refl] at hsm
 have Hsm := Lib.hid hsm
 clear hsm
 go_wp2_with fail
 have hkeep1 : ∀ wx : World, Below w4.heap.size w4 wx → True := fun _ _ => trivial
 refine beginT (fun _ => True) 25 (by kernel_rfl) ?_
 have hS := hkeep1 _ (c_drew (c_refl _))
 refine tk 0 (some 65) (.bool true) (fun _ _ _ h => h) hS ?_
 simp only [Act.put, sA, sZ, sS]
 refine tk 1 (some 66) (.bool true) (fun _ _ _ h => h) hS ?_
 simp only [Act.put, sA, sZ, sS]
 refine tk 2 (some 67) (.slice A3 mx c3) (fun _ _ _ h => h) hS ?_
 simp only [Act.put, sA, sZ, sS]
 refine tk 3 (some 68) (.int .i64 (mx : Int)) (fun _ _ _ h => h) hS ?_
 simp only [Act.put, sA, sZ, sS]
 refine tk 4 (some 69) (.slice A m c) (fun _ _ _ h => h) hS ?_
 simp only [Act.put, sA, sZ, sS]
 refine tk 5 (some 70) (.int .i64 (m : Int)) (fun _ _ _ h => h) hS ?_
 simp only [Act.put, sA, sZ, sS]
 refine tk 6 (some 71) (.int .i64 ((m : Int) + 48)) (fun _ _ _ h => h) hS ?_
 simp only [Act.put, sA, sZ, sS]
 refine tk 7 (some 72) (.bool true) (fun _ _ _ h => h) hS ?_
 simp only [Act.put, sA, sZ, sS]
 refine tk 8 (some 73) (.bool true) (fun _ _ _ h => h) hS ?_
 simp only [Act.put, sA, sZ, sS]
 refine tk 9 (some 74) (.bool true) (fun _ _ _ h => h) hS ?_
 simp only [Act.put, sA, sZ, sS]
 refine tk 10 (some 75) (.slice A4 qx c4) (fun _ _ _ h => h) hS ?_
 simp only [Act.put, sA, sZ, sS]
 refine tk 11 (some 76) (.int .i64 (qx : Int)) (fun _ _ _ h => h) hS ?_
 simp only [Act.put, sA, sZ, sS]
 refine tk 12 (some 77) (.slice A' m' c') (fun _ _ _ h => h) hS ?_
 simp only [Act.put, sA, sZ, sS]
 refine tk 13 (some 78) (.int .i64 (m' : Int)) (fun _ _ _ h => h) hS ?_
 simp only [Act.put, sA, sZ, sS]
 refine tk 14 (some 79) (.int .i64 ((m' : Int) + 48)) (fun _ _ _ h => h) hS ?_
 simp only [Act.put, sA, sZ, sS]
 refine tk 15 (some 80) (.bool true) (fun _ _ _ h => h) hS ?_
 simp only [Act.put, sA, sZ, sS]
 refine tk 16 (some 81) (.bool true) (fun _ _ _ h => h) hS ?_
 simp only [Act.put, sA, sZ, sS]
 refine tk 17 (some 82) (.bool true) (fun _ _ _ h => h) hS ?_
 simp only [Act.put, sA, sZ, sS]
 refine tk 18 (some 83) (.slice A3 mx c3) (fun _ _ _ h => h) hS ?_
 simp only [Act.put, sA, sZ, sS]
 refine tk 19 (some 84) (.slice A3 32 c3) (fun _ _ _ h => h) hS ?_
 simp only [Act.put, sA, sZ, sS]
 refine tk 20 (some 85) (.slice A4 qx c4) (fun _ _ _ h => h) hS ?_
 simp only [Act.put, sA, sZ, sS]
 refine tk 21 (some 86) (.slice A4 32 c4) (fun _ _ _ h => h) hS ?_
 simp only [Act.put, sA, sZ, sS]
 refine on1 22 fun K hK => ?_
 go_simp
 refine (Hsm.out _ hx.drew hy.drew).mono ?_
 rintro e wz ⟨rfl, rfl⟩
 refine kp hK hkeep1 ?_
 clear hK K
 refine tk 23 (some 88) (.bool true) (fun _ _ _ h => h) hS ?_
 simp only [Act.put, sA, sZ, sS]
 refine on1 24 fun K hK => ?_
 go_simp
 refine hK.out _ _ (fun _ => trivial) ?_
 clear hK K
 refine doneT (by kernel_rfl) ?_ _
 go_wp2_with fail
 go_ret
 exact ⟨rfl, c_drew hB4⟩
end Go.Proofs.YtbiijdboolpaeaaDoor
