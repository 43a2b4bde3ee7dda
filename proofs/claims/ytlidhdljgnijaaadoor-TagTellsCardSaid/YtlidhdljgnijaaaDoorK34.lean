import Derived.Test.YtlidhdljgnijaaaDoorK22
import Derived.Test.YtlidhdljgnijaaaDoorK33
import Derived.Test.YtlidhdljgnijaaaDoorK27
/-
  WHAT THE PROGRAM'S FUNCTIONS OF LAYER 13 ARE ASKED TO DO; the laws' own 'live'.
-/
set_option linter.unusedVariables false
namespace Go.Proofs.YtlidhdljgnijaaaDoor
open Go.RowKit

def HGC : Prop := ∀ (kind : Int) (Ai : Option Addr) (ni ci : Nat) (Al : Option Addr) (nl cl : Nat) (ids : List Int) (ll : List (List Int)) (Ap : Option Addr) (np cp : Nat) (ps : List UInt8) (w : World), TgR w w.heap.size Ai ni ci Al nl cl ids ll Ap np cp ps → fewT ids ll = true →
  Calls Tryd.prog 21 #[.agg (tgV kind Ai ni ci Al nl cl Ap np cp)] w fun e w' => e = .returned (.int .i64 (chkG kind ids ll np ps)) ∧ Below w.heap.size w w'
def HGS : Prop := ∀ (kind : Int) (Ai : Option Addr) (ni ci : Nat) (Al : Option Addr) (nl cl : Nat) (ids : List Int) (ll : List (List Int)) (Ap : Option Addr) (np cp : Nat) (ps : List UInt8) (w : World), TgR w w.heap.size Ai ni ci Al nl cl ids ll Ap np cp ps → fewT ids ll = true → CTab w →
  Calls Tryd.prog 11 #[.agg (tgV kind Ai ni ci Al nl cl Ap np cp)] w (SumsPost w (okG kind ids ll np ps) np (sumsT kind ids ll ps np))
def HGU : Prop := ∀ (kind : Int) (Ai : Option Addr) (ni ci : Nat) (Al : Option Addr) (nl cl : Nat) (ids : List Int) (ll : List (List Int)) (Ap : Option Addr) (np cp : Nat) (ps : List UInt8) (w : World), TgR w w.heap.size Ai ni ci Al nl cl ids ll Ap np cp ps → fewT ids ll = true → CTab w →
  Calls Tryd.prog 13 #[.agg (tgV kind Ai ni ci Al nl cl Ap np cp)] w fun e w' => e = .returned (.tuple #[.agg (keyC (sumG kind ids ll np ps)), .int .i64 (chkG kind ids ll np ps)]) ∧ Below w.heap.size w w'
def HGL : Prop := ∀ (kind : Int) (Ai : Option Addr) (ni ci : Nat) (Al : Option Addr) (nl cl : Nat) (ids : List Int) (ll : List (List Int)) (Ap : Option Addr) (np cp : Nat) (ps : List UInt8) (id : Int) (w : World), TgR w w.heap.size Ai ni ci Al nl cl ids ll Ap np cp ps → fewT ids ll = true →
  Calls Tryd.prog 15 #[.agg (tgV kind Ai ni ci Al nl cl Ap np cp), .int .i64 id] w fun e w' => e = .returned (.tuple #[.int .i64 (leafG kind ids ll np ps id), .int .i64 (leafE kind ids ll np ps id)]) ∧ Below w.heap.size w w'
def HGW : Prop := ∀ (kind : Int) (Ai : Option Addr) (ni ci : Nat) (Al : Option Addr) (nl cl : Nat) (ids : List Int) (ll : List (List Int)) (Ap : Option Addr) (np cp : Nat) (ps : List UInt8) (w : World), TgR w w.heap.size Ai ni ci Al nl cl ids ll Ap np cp ps → fewT ids ll = true →
  Calls Tryd.prog 17 #[.agg (tgV kind Ai ni ci Al nl cl Ap np cp)] w (WritePost w (okG kind ids ll np ps) (writeT kind ids ll ps))
def HGM : Prop := ∀ (kind : Int) (Ai : Option Addr) (ni ci : Nat) (Al : Option Addr) (nl cl : Nat) (ids : List Int) (ll : List (List Int)) (Ap : Option Addr) (np cp : Nat) (ps : List UInt8) (kind' : Int) (Ai' : Option Addr) (ni' ci' : Nat) (Al' : Option Addr) (nl' cl' : Nat) (ids' : List Int) (ll' : List (List Int)) (Ap' : Option Addr) (np' cp' : Nat) (ps' : List UInt8) (w : World),
  TgR w w.heap.size Ai ni ci Al nl cl ids ll Ap np cp ps → TgR w w.heap.size Ai' ni' ci' Al' nl' cl' ids' ll' Ap' np' cp' ps' → np ≤ 1000000 → np' ≤ 1000000 → fewT ids ll = true → fewT ids' ll' = true →
  Calls Tryd.prog 23 #[.agg (tgV kind Ai ni ci Al nl cl Ap np cp), .agg (tgV kind' Ai' ni' ci' Al' nl' cl' Ap' np' cp')] w fun e w' => e = .returned (.bool (sameG kind ids ll ps kind' ids' ll' ps')) ∧ Below w.heap.size w w'

def liveP : List UInt8 := 1 :: List.replicate 31 0
theorem live_ok : okG 1 [7] [] 1 liveP = true := by rfl

set_option maxRecDepth 100000 in
set_option maxHeartbeats 8000000 in
theorem live13 (hC : HGC) (hS : HGS) (hU : HGU) (w : World) (hT : CTab w) : Calls Tryd.prog 8 #[] w fun e w' => e = .returned (.bool true) ∧ Below w.heap.size w w' := by
  go_enter Tryd.func8, Tryd.ntmps8
  go_upto_region 2 with fail
  try simp only [Act.put]
  have hal0 := d_al w (.cells #[.int .i64 7] 3)
  have hal1 := d_al (w.alloc (.cells #[.int .i64 7] 3)) (.cells (keyC liveP) 36)
  have hal2 := d_al ((w.alloc (.cells #[.int .i64 7] 3)).alloc (.cells (keyC liveP) 36)) (.cells (tgV 1 (some ⟨w.heap.size, 0, none⟩) 1 1 none 0 0 (some ⟨w.heap.size + 1, 0, none⟩) 1 1) 28)
  have hz1 : (w.alloc (.cells #[.int .i64 7] 3)).heap.size = w.heap.size + 1 := by simp
  have hz2 : ((w.alloc (.cells #[.int .i64 7] 3)).alloc (.cells (keyC liveP) 36)).heap.size = w.heap.size + 1 + 1 := by simp
  have hrI := ((Rd.mk_ w 3 #[.int .i64 7] (b := w.heap.size) (B := w.heap.size + 1) (n := 1) (l := [7].map iv) rfl (by omega) rfl rfl).below (hal1.mono (Nat.le_of_eq hz1.symm))).below (hal2.mono (by omega))
  have hrK := (RowC.new (w.alloc (.cells #[.int .i64 7] 3)) 36 (keyC liveP)).alloc (.cells (tgV 1 (some ⟨w.heap.size, 0, none⟩) 1 1 none 0 0 (some ⟨w.heap.size + 1, 0, none⟩) 1 1) 28)
  have hrT := RowC.new ((w.alloc (.cells #[.int .i64 7] 3)).alloc (.cells (keyC liveP) 36)) 28 (tgV 1 (some ⟨w.heap.size, 0, none⟩) 1 1 none 0 0 (some ⟨w.heap.size + 1, 0, none⟩) 1 1)
  rw [hz2] at hrT
  rw [hz1] at hrK
  have hold := c_call (c_call hal0 hal1) hal2
  refine wp_gen (fun wx => Below w.heap.size w wx ∧ RowC wx (w.heap.size + 1 + 1) 28 (tgV 1 (some ⟨w.heap.size, 0, none⟩) 1 1 none 0 0 (some ⟨w.heap.size + 1, 0, none⟩) 1 1) ∧ TgR wx (w.heap.size + 1 + 1) (some ⟨w.heap.size, 0, none⟩) 1 1 none 0 0 [7] [] (some ⟨w.heap.size + 1, 0, none⟩) 1 1 liveP) ⟨hold, hrT, ⟨⟨rfl, rfl, by omega, by omega, by simp [maxLen], by simp [maxLen], hrI.more (by omega), [], Rd.zero _ _ _, Lvs.nil _ _⟩, ⟨⟨by rfl, fun _ => ⟨w.heap.size + 1, 0, rfl, by omega, fun q u hu => by
    rw [Nat.zero_add]
    exact hrK.cell (by simpa [keyC] using hu)⟩⟩, by omega, by simp [maxLen]⟩⟩⟩ ?_
  clear hal0 hal1 hal2 hz1 hz2 hrI hrK hrT hold
  obtain ⟨g, hg⟩ : ∃ g, g = w.heap.size := ⟨_, rfl⟩
  rw [← hg]
  have Hg := Lib.hid hg
  clear hg
  rintro w1 ⟨hb1, hr1, hT1⟩
  have hb1 : Below w.heap.size w w1 := by rw [← Hg.out]; exact hb1
  have hlt1 := hr1.lt
  have hss := hS 1 _ _ _ _ _ _ _ _ _ _ _ _ w1 (hT1.more (Nat.le_of_lt hlt1)) rfl (hT.below hb1)
  rw [live_ok] at hss
  go_wp2_with ((with_reducible show wpList _ _ _ (⟨some 12, _, _, _, _, _⟩ :: _) _ _); refine wpList_loadC (by kernel_rfl) 28 (.tmp 1) rfl (g + 1 + 1) rfl 28 (tgV 1 (some ⟨g, 0, none⟩) 1 1 none 0 0 (some ⟨g + 1, 0, none⟩) 1 1) _ hr1 Tryd.underlying28 rfl tgInfo2 ?_)
  refine hss.mono ?_
  rintro e w2 ⟨hb2, ⟨h, _⟩ | ⟨_, A, c, he, hown⟩⟩
  · cases h
  subst he
  have hb02 := hb1.trans (hb2.mono hb1.size)
  have hr2 := hr1.call hb2
  have hT2 := hT1.below (hb2.mono (Nat.le_of_lt hlt1))
  have hlt2 := hr2.lt
  have hus := hU 1 _ _ _ _ _ _ _ _ _ _ _ _ w2 (hT2.more (Nat.le_of_lt hlt2)) rfl (hT.below hb02)
  rw [show chkG 1 [7] [] 1 liveP = 0 by rw [chkG, live_ok]; rfl] at hus
  clear hss
  go_wp2_with ((with_reducible show wpList _ _ _ (⟨some 17, _, _, _, _, _⟩ :: _) _ _); refine wpList_loadC (by kernel_rfl) 28 (.tmp 1) rfl (g + 1 + 1) rfl 28 (tgV 1 (some ⟨g, 0, none⟩) 1 1 none 0 0 (some ⟨g + 1, 0, none⟩) 1 1) _ hr2 Tryd.underlying28 rfl tgInfo2 ?_)
  refine hus.mono ?_
  rintro e w3 ⟨he, hb3⟩
  subst he
  have hsg : sumG 1 [7] [] 1 liveP = keyI (sumsT 1 [7] [] liveP 1) 0 := by rw [sumG, live_ok]; rfl
  have hkr := (KyR.of_own hown).below hb3
  have hsl := sumsT_len live_ok
  obtain ⟨b, o, rfl, hbb, hrk⟩ := hkr.range (show 0 < 1 by omega)
  have hkl := keyI_len hsl (show 0 < 1 by omega)
  rw [hsg]
  generalize keyI (sumsT 1 [7] [] liveP 1) 0 = k at *
  have hb03 := hb02.trans (hb3.mono hb02.size)
  have hr3 := hr2.call hb3
  have hT3 := hT2.below (hb3.mono (Nat.le_of_lt hlt2))
  have hsa := sizeKey hkl
  have hone := one_keyF k
  have hput := (Ms.nil w3).put 36 (keyC zeroK) (keyC k)
  rw [keyC_zero] at hput
  clear hus hown hkr hsl hsg
  go_upto_region 4 with ((with_reducible show wpList _ _ _ (⟨none, Op.store 36 _ _, _, _, _, _⟩ :: _) _ _); refine wpList_store_row rfl 36 (.tmp 4) (.tmp 19) rfl w3.heap.size (keyC k) rfl rfl 36 _ (RowC.new _ _ _) hsa (by rw [keyC_size, hkl]; rfl) hone ?_)
  try simp only [Act.put]
  obtain ⟨gk, hgk⟩ : ∃ q, q = w3.heap.size := ⟨_, rfl⟩
  rw [← hgk] at hput ⊢
  refine wp_gen (fun wx => Ms w3 wx [(gk, 36, keyC k)]) hput ?_
  clear hput hgk hone
  rintro w4 hM4
  have hb04 := hb03.trans (hM4.old.mono hb03.size)
  have hr4 := hr3.call hM4.old
  have hT4 := hT3.below (hM4.old.mono (Nat.le_of_lt hr3.lt))
  have hrk4 := rangeW hrk (Nat.lt_of_lt_of_le hbb hb3.size) hM4.old
  rw [show o + 0 * 32 = o by omega] at hrk4
  have hbb4 : b < w4.heap.size := Nat.lt_of_lt_of_le (Nat.lt_of_lt_of_le hbb hb3.size) hM4.old.size
  have hkr4 := hM4.get 0 rfl
  have hq := fun wx : World => eql_keyK wx k k hkl hkl
  rw [beq_self_eq_true] at hq
  have hsk := sizeKeyL hkl
  have hkeep : ∀ wx : World, Below w4.heap.size w4 wx → (wx.rangeAt b o (keyC k).toList ∧ wx.rangeAt gk 0 (keyC k).toList) ∧ wx.rangeAt (g + 1 + 1) 0 (tgV 1 (some ⟨g, 0, none⟩) 1 1 none 0 0 (some ⟨g + 1, 0, none⟩) 1 1).toList := fun wx hbx => ⟨⟨rangeW hrk4 hbb4 hbx, (hkr4.call hbx).range⟩, (hr4.call hbx).range⟩
  have hcs := fun wx (hbx : Below w4.heap.size w4 wx) => hC 1 _ _ _ _ _ _ _ _ _ _ _ _ wx ((hT4.below (hbx.mono (Nat.le_of_lt hr4.lt))).more (Nat.le_trans (Nat.le_of_lt hr4.lt) hbx.size)) rfl
  rw [show chkG 1 [7] [] 1 liveP = 0 by rw [chkG, live_ok]; rfl] at hcs
  have hun := Tryd.underlying36
  have hunT := Tryd.underlying28
  have hiT : (Tryd.prog.info? 28).map (·.size) = some (tgV 1 (some ⟨g, 0, none⟩) 1 1 none 0 0 (some ⟨g + 1, 0, none⟩) 1 1).toList.length := by kernel_rfl
  clear hM4 hr3 hT3 hrk hr1 hT1 hr2 hT2 hb1 hb2 hb3 hb02 hb03 hlt1 hlt2
  refine beginT (fun wx : World => (wx.rangeAt b o (keyC k).toList ∧ wx.rangeAt gk 0 (keyC k).toList) ∧ wx.rangeAt (g + 1 + 1) 0 (tgV 1 (some ⟨g, 0, none⟩) 1 1 none 0 0 (some ⟨g + 1, 0, none⟩) 1 1).toList) 24 (by kernel_rfl) ?_
  have hS0 := hkeep _ (c_drew (c_refl _))
  refine takeD 0 (some 21) (.int .i64 0) rfl rfl (by kernel_rfl) (by kernel_rfl) (by kernel_rfl) (by kernel_rfl) (fun _ _ _ h => h) (Or.inl ⟨by kernel_rfl, fun wx hSw => by go_simp⟩) hS0 ?_
  try simp only [Act.put, List.setIfInBounds_toArray, List.set_cons_zero, List.set_cons_succ]
  refine takeD 1 (some 22) (.bool true) rfl rfl (by kernel_rfl) (by kernel_rfl) (by kernel_rfl) (by kernel_rfl) (fun _ _ _ h => h) (Or.inl ⟨by kernel_rfl, fun wx hSw => by go_simp⟩) hS0 ?_
  try simp only [Act.put, List.setIfInBounds_toArray, List.set_cons_zero, List.set_cons_succ]
  refine takeD 2 (some 23) (.bool true) rfl rfl (by kernel_rfl) (by kernel_rfl) (by kernel_rfl) (by kernel_rfl) (fun _ _ _ h => h) (Or.inl ⟨by kernel_rfl, fun wx hSw => by go_simp⟩) hS0 ?_
  try simp only [Act.put, List.setIfInBounds_toArray, List.set_cons_zero, List.set_cons_succ]
  refine takeD 3 (some 24) (.int .i64 0) rfl rfl (by kernel_rfl) (by kernel_rfl) (by kernel_rfl) (by kernel_rfl) (fun _ _ _ h => h) (Or.inl ⟨by kernel_rfl, fun wx hSw => by go_simp⟩) hS0 ?_
  try simp only [Act.put, List.setIfInBounds_toArray, List.set_cons_zero, List.set_cons_succ]
  refine takeD 4 (some 25) (.bool true) rfl rfl (by kernel_rfl) (by kernel_rfl) (by kernel_rfl) (by kernel_rfl) (fun _ _ _ h => h) (Or.inl ⟨by kernel_rfl, fun wx hSw => by go_simp⟩) hS0 ?_
  try simp only [Act.put, List.setIfInBounds_toArray, List.set_cons_zero, List.set_cons_succ]
  refine takeD 5 (some 26) (.bool true) rfl rfl (by kernel_rfl) (by kernel_rfl) (by kernel_rfl) (by kernel_rfl) (fun _ _ _ h => h) (Or.inl ⟨by kernel_rfl, fun wx hSw => by go_simp⟩) hS0 ?_
  try simp only [Act.put, List.setIfInBounds_toArray, List.set_cons_zero, List.set_cons_succ]
  refine takeD 6 (some 27) (.bool true) rfl rfl (by kernel_rfl) (by kernel_rfl) (by kernel_rfl) (by kernel_rfl) (fun _ _ _ h => h) (Or.inl ⟨by kernel_rfl, fun wx hSw => by go_simp⟩) hS0 ?_
  try simp only [Act.put, List.setIfInBounds_toArray, List.set_cons_zero, List.set_cons_succ]
  refine takeD 7 (some 28) (.slice (some ⟨b, o, none⟩) 1 c) rfl rfl (by kernel_rfl) (by kernel_rfl) (by kernel_rfl) (by kernel_rfl) (fun _ _ _ h => h) (Or.inl ⟨by kernel_rfl, fun wx hSw => by go_simp⟩) hS0 ?_
  try simp only [Act.put, List.setIfInBounds_toArray, List.set_cons_zero, List.set_cons_succ]
  refine takeD 8 (some 29) (.int .i64 1) rfl rfl (by kernel_rfl) (by kernel_rfl) (by kernel_rfl) (by kernel_rfl) (fun _ _ _ h => h) (Or.inl ⟨by kernel_rfl, fun wx hSw => by go_simp⟩) hS0 ?_
  try simp only [Act.put, List.setIfInBounds_toArray, List.set_cons_zero, List.set_cons_succ]
  refine takeD 9 (some 30) (.bool true) rfl rfl (by kernel_rfl) (by kernel_rfl) (by kernel_rfl) (by kernel_rfl) (fun _ _ _ h => h) (Or.inl ⟨by kernel_rfl, fun wx hSw => by go_simp⟩) hS0 ?_
  try simp only [Act.put, List.setIfInBounds_toArray, List.set_cons_zero, List.set_cons_succ]
  refine takeD 10 (some 31) (.bool true) rfl rfl (by kernel_rfl) (by kernel_rfl) (by kernel_rfl) (by kernel_rfl) (fun _ _ _ h => h) (Or.inl ⟨by kernel_rfl, fun wx hSw => by go_simp⟩) hS0 ?_
  try simp only [Act.put, List.setIfInBounds_toArray, List.set_cons_zero, List.set_cons_succ]
  refine takeD 11 (some 32) (.bool true) rfl rfl (by kernel_rfl) (by kernel_rfl) (by kernel_rfl) (by kernel_rfl) (fun _ _ _ h => h) (Or.inl ⟨by kernel_rfl, fun wx hSw => by go_simp⟩) hS0 ?_
  try simp only [Act.put, List.setIfInBounds_toArray, List.set_cons_zero, List.set_cons_succ]
  refine takeD 12 (some 33) (.slice (some ⟨b, o, none⟩) 1 c) rfl rfl (by kernel_rfl) (by kernel_rfl) (by kernel_rfl) (by kernel_rfl) (fun _ _ _ h => h) (Or.inl ⟨by kernel_rfl, fun wx hSw => by go_simp⟩) hS0 ?_
  try simp only [Act.put, List.setIfInBounds_toArray, List.set_cons_zero, List.set_cons_succ]
  refine takeD 13 (some 34) (.pointer (some ⟨b, o, none⟩)) rfl rfl (by kernel_rfl) (by kernel_rfl) (by kernel_rfl) (by kernel_rfl) (fun _ _ _ h => h) (Or.inl ⟨by kernel_rfl, fun wx hSw => by go_simp⟩) hS0 ?_
  try simp only [Act.put, List.setIfInBounds_toArray, List.set_cons_zero, List.set_cons_succ]
  refine loadT 14 (some 35) 36 (.tmp 34) b o (keyC k).toList rfl rfl (by kernel_rfl) (by kernel_rfl) (by kernel_rfl) (by kernel_rfl) rfl (by kernel_rfl) rfl (fun wx hSw => hSw.1.1) hun rfl hsk (fun _ _ _ h => h) hS0 ?_
  try simp only [Act.put, List.setIfInBounds_toArray, List.set_cons_zero, List.set_cons_succ, Array.toArray_toList]
  refine loadT 15 (some 36) 36 (.tmp 4) gk 0 (keyC k).toList rfl rfl (by kernel_rfl) (by kernel_rfl) (by kernel_rfl) (by kernel_rfl) rfl (by kernel_rfl) rfl (fun wx hSw => hSw.1.2) hun rfl hsk (fun _ _ _ h => h) hS0 ?_
  try simp only [Act.put, List.setIfInBounds_toArray, List.set_cons_zero, List.set_cons_succ, Array.toArray_toList]
  refine takeD 16 (some 37) (.bool true) rfl rfl (by kernel_rfl) (by kernel_rfl) (by kernel_rfl) (by kernel_rfl) (fun _ _ _ h => h) (Or.inl ⟨by kernel_rfl, fun wx hSw => by go_simp⟩) hS0 ?_
  try simp only [Act.put, List.setIfInBounds_toArray, List.set_cons_zero, List.set_cons_succ]
  refine takeD 17 (some 38) (.bool true) rfl rfl (by kernel_rfl) (by kernel_rfl) (by kernel_rfl) (by kernel_rfl) (fun _ _ _ h => h) (Or.inl ⟨by kernel_rfl, fun wx hSw => by go_simp⟩) hS0 ?_
  try simp only [Act.put, List.setIfInBounds_toArray, List.set_cons_zero, List.set_cons_succ]
  refine takeD 18 (some 39) (.bool true) rfl rfl (by kernel_rfl) (by kernel_rfl) (by kernel_rfl) (by kernel_rfl) (fun _ _ _ h => h) (Or.inl ⟨by kernel_rfl, fun wx hSw => by go_simp⟩) hS0 ?_
  try simp only [Act.put, List.setIfInBounds_toArray, List.set_cons_zero, List.set_cons_succ]
  refine loadT 19 (some 40) 28 (.tmp 1) (g + 1 + 1) 0 (tgV 1 (some ⟨g, 0, none⟩) 1 1 none 0 0 (some ⟨g + 1, 0, none⟩) 1 1).toList rfl rfl (by kernel_rfl) (by kernel_rfl) (by kernel_rfl) (by kernel_rfl) rfl (by kernel_rfl) rfl (fun wx hSw => hSw.2) hunT rfl hiT (fun _ _ _ h => h) hS0 ?_
  try simp only [Act.put, List.setIfInBounds_toArray, List.set_cons_zero, List.set_cons_succ, Array.toArray_toList]
  have hdr : Below w4.heap.size w4 w4.drew := c_drew (c_refl _)
  have hcd := hcs _ hdr
  generalize w4.drew = wd at *
  refine oneT 20 (by kernel_rfl) rfl (fun K2 hK2 => ?_)
  go_simp
  refine hcd.mono ?_
  rintro e w5 ⟨he, hb5⟩
  subst he
  have hS5 := hkeep _ (c_call hdr hb5)
  refine hK2.out _ _ (fun _ => hS5) ?_
  clear hK2 K2
  try simp only [Act.put, List.setIfInBounds_toArray, List.set_cons_zero, List.set_cons_succ, Array.toArray_toList]
  refine takeD 21 (some 42) (.bool true) rfl rfl (by kernel_rfl) (by kernel_rfl) (by kernel_rfl) (by kernel_rfl) (fun _ _ _ h => h) (Or.inl ⟨by kernel_rfl, fun wx hSw => by go_simp⟩) hS5 ?_
  try simp only [Act.put, List.setIfInBounds_toArray, List.set_cons_zero, List.set_cons_succ]
  refine takeD 22 (some 43) (.bool true) rfl rfl (by kernel_rfl) (by kernel_rfl) (by kernel_rfl) (by kernel_rfl) (fun _ _ _ h => h) (Or.inl ⟨by kernel_rfl, fun wx hSw => by go_simp⟩) hS5 ?_
  try simp only [Act.put, List.setIfInBounds_toArray, List.set_cons_zero, List.set_cons_succ]
  refine takeD 23 (some 0) (.bool true) rfl rfl (by kernel_rfl) (by kernel_rfl) (by kernel_rfl) (by kernel_rfl) (fun _ _ _ h => h) (Or.inl ⟨by kernel_rfl, fun wx hSw => by go_simp⟩) hS5 ?_
  try simp only [Act.put, List.setIfInBounds_toArray, List.set_cons_zero]
  refine doneT (by kernel_rfl) ?_ _
  have hfin := (hb04.trans (hdr.mono hb04.size)).trans (hb5.mono (Nat.le_trans hb04.size hdr.size))
  clear hkeep hcs hS5 hcd
  go_wp2_with fail
  go_ret
  exact ⟨rfl, hfin⟩

end Go.Proofs.YtlidhdljgnijaaaDoor

/-
  THE WALK of coterielaw13.TagTells over what the program's functions are asked to do. Printed by gen_tagtells.py.
-/
set_option linter.unusedVariables false
namespace Go.Proofs.YtlidhdljgnijaaaDoor
open Go.RowKit

def okN (b : Bool) (n : Nat) : Nat := if b = true then n else 0
def okL (b : Bool) (l : List UInt8) : List UInt8 := if b = true then l else []
/-- what sums are told, or none -/
theorem SumsPost.gen {w w' : World} {kind : Int} {ids : List Int} {ll : List (List Int)} {np : Nat} {ps : List UInt8} {e : Ending} (h : SumsPost w (okG kind ids ll np ps) np (sumsT kind ids ll ps np) e w') :
    Below w.heap.size w w' ∧ ∃ A c, e = .returned (.tuple #[.slice A (okN (okG kind ids ll np ps) np) c, .int .i64 (chkG kind ids ll np ps)]) ∧ KyR w' w'.heap.size A (okN (okG kind ids ll np ps) np) c (okL (okG kind ids ll np ps) (sumsT kind ids ll ps np)) := by
  obtain ⟨hb, ⟨h1, h2⟩ | ⟨h1, A, c, h2, h3⟩⟩ := h
  · refine ⟨hb, none, 0, ?_, ?_⟩
    · rw [h2, chkG, h1]; rfl
    · rw [h1]
      exact ⟨Rd.zero _ _ _, Nat.le_refl _, by simp [maxLen]⟩
  · refine ⟨hb, A, c, ?_, ?_⟩
    · rw [h2, chkG, h1]; rfl
    · rw [h1]
      exact KyR.of_own h3
theorem WritePost.gen {w w' : World} {kind : Int} {ids : List Int} {ll : List (List Int)} {np : Nat} {ps l : List UInt8} {e : Ending} (h : WritePost w (okG kind ids ll np ps) l e w') :
    Below w.heap.size w w' ∧ ∃ A c, e = .returned (.tuple #[.slice A (okN (okG kind ids ll np ps) l.length) c, .int .i64 (chkG kind ids ll np ps)]) ∧ (okN (okG kind ids ll np ps) l.length) ≤ c ∧ Rd w' w'.heap.size A (okN (okG kind ids ll np ps) l.length) ((okL (okG kind ids ll np ps) l).map bv) := by
  obtain ⟨hb, ⟨h1, h2⟩ | ⟨h1, A, n, c, h2, h3⟩⟩ := h
  · refine ⟨hb, none, 0, ?_, ?_, ?_⟩
    · rw [h2, chkG, h1]; rfl
    · rw [h1]; exact Nat.le_refl _
    · rw [h1]
      exact Rd.zero _ _ _
  · obtain ⟨A', c', e', hc, hl⟩ := own_form h3
    rw [List.length_map] at hl
    injection e' with _ _ e'
    subst e' hl
    refine ⟨hb, A, c, ?_, ?_, ?_⟩
    · rw [h2, chkG, h1]; rfl
    · rw [h1]; exact hc
    · rw [h1]; exact Rd.of_own h3

set_option maxRecDepth 100000 in
set_option maxHeartbeats 16000000 in
theorem walkH_TagTells (hC : HGC) (hS : HGS) (hU : HGU) (hL : HGL) (hW : HGW) (hM : HGM) (kind : Int) (Ai : Option Addr) (ni ci : Nat) (Al : Option Addr) (nl cl : Nat) (ids : List Int) (ll : List (List Int)) (Ap : Option Addr) (np cp : Nat) (ps : List UInt8)
    (kind' : Int) (Ai' : Option Addr) (ni' ci' : Nat) (Al' : Option Addr) (nl' cl' : Nat) (ids' : List Int) (ll' : List (List Int)) (Ap' : Option Addr) (np' cp' : Nat) (ps' : List UInt8) (id : Int) (w : World)
    (h : TgR w w.heap.size Ai ni ci Al nl cl ids ll Ap np cp ps) (h' : TgR w w.heap.size Ai' ni' ci' Al' nl' cl' ids' ll' Ap' np' cp' ps') (hK : KTab w) (hT : CTab w) :
    Calls Tryd.prog 3 #[.agg (tgV kind Ai ni ci Al nl cl Ap np cp), .agg (tgV kind' Ai' ni' ci' Al' nl' cl' Ap' np' cp'), .int .i64 id] w fun e w' => e = .returned (.bool true) ∧ Below w.heap.size w w' := by
  have hM0 := ((Ms.nil w).box 28 (tgV kind Ai ni ci Al nl cl Ap np cp)).box 28 (tgV kind' Ai' ni' ci' Al' nl' cl' Ap' np' cp')
  simp only [World.size_alloc] at hM0
  go_enter Tryd.func3, Tryd.ntmps3
  go_upto_region 1 with fail
  try simp only [Act.put]
  obtain ⟨g, hg⟩ : ∃ g, g = w.heap.size := ⟨_, rfl⟩
  rw [← hg] at hM0 ⊢
  refine wp_gen (fun wx => Ms w wx [(g + 1, 28, (tgV kind' Ai' ni' ci' Al' nl' cl' Ap' np' cp')), (g, 28, (tgV kind Ai ni ci Al nl cl Ap np cp))]) hM0 ?_
  have Hg := Lib.hid hg
  clear hM0 hg
  rintro w0 hM0
  have hT0 := hT.below hM0.old
  go_wp2_with fail
  refine (live13 hC hS hU _ hT0).mono ?_
  rintro e w1 ⟨he, hb1⟩
  subst he
  have hM1 := hM0.call hb1
  clear hM0 hb1 hT0
  have hr1 := hM1.get 1 rfl
  have hr1' := hM1.get 0 rfl
  have hf1 := RFew13 kind Ai ni ci Al nl cl ids ll Ap np cp ps w1 ((h.below hM1.old).more hM1.old.size)
  go_wp2_with ((with_reducible show wpList _ _ _ (⟨some 26, _, _, _, _, _⟩ :: _) _ _); refine wpList_loadC (by kernel_rfl) 28 (.tmp 3) rfl g rfl 28 (tgV kind Ai ni ci Al nl cl Ap np cp) _ hr1 Tryd.underlying28 rfl tgInfo2 ?_)
  refine hf1.mono ?_
  rintro e w2 ⟨he, hb2⟩
  subst he
  have hM2 := hM1.call hb2
  clear hM1 hb2 hr1 hr1' hf1
  by_cases hfw : fewG ids ll np = true
  rotate_left
  · rw [Bool.eq_false_iff.2 hfw]
    have hold := hM2.old
    clear hM2
    go_wp2_with fail
    go_ret
    exact ⟨rfl, hold⟩
  rw [hfw]
  have hr2' := hM2.get 0 rfl
  have hf2 := RFew13 kind' Ai' ni' ci' Al' nl' cl' ids' ll' Ap' np' cp' ps' w2 ((h'.below hM2.old).more hM2.old.size)
  go_wp2_with ((with_reducible show wpList _ _ _ (⟨some 30, _, _, _, _, _⟩ :: _) _ _); refine wpList_loadC (by kernel_rfl) 28 (.tmp 4) rfl (g + 1) rfl 28 (tgV kind' Ai' ni' ci' Al' nl' cl' Ap' np' cp') _ hr2' Tryd.underlying28 rfl tgInfo2 ?_)
  refine hf2.mono ?_
  rintro e w3 ⟨he, hb3⟩
  subst he
  have hM3 := hM2.call hb3
  clear hM2 hb3 hr2' hf2
  by_cases hfw' : fewG ids' ll' np' = true
  rotate_left
  · rw [Bool.eq_false_iff.2 hfw']
    have hold := hM3.old
    clear hM3
    go_wp2_with fail
    go_ret
    exact ⟨rfl, hold⟩
  rw [hfw']
  rw [fewG, Bool.and_eq_true, Bool.and_eq_true, decide_eq_true_eq, decide_eq_true_eq] at hfw hfw'
  obtain ⟨hf, _, hnp⟩ := hfw
  obtain ⟨hf', _, hnp'⟩ := hfw'
  have HB := Lib.hid (fun wx (hb : Below w.heap.size w wx) => (h.below hb).more hb.size)
  have HB' := Lib.hid (fun wx (hb : Below w.heap.size w wx) => (h'.below hb).more hb.size)
  clear h h'
  have hcl := RCopy13 kind Ai ni ci Al nl cl ids ll Ap np cp ps w3 (HB.out w3 hM3.old) hf (by omega)
  have hrx := hM3.get 1 rfl
  go_wp2_with ((with_reducible show wpList _ _ _ (⟨some 35, _, _, _, _, _⟩ :: _) _ _); refine wpList_loadC (by kernel_rfl) 28 (.tmp 3) rfl g rfl 28 (tgV kind Ai ni ci Al nl cl Ap np cp) _ hrx Tryd.underlying28 rfl tgInfo2 ?_)
  refine hcl.mono ?_
  rintro e w4 ⟨hb4, Aw, nw, cw, Bw, mw, dw, Pw, ew, he, hshw, hownw, _⟩
  subst he
  have hM4 := hM3.call hb4
  have hkyw := KyR.of_own hownw
  clear hM3 hb4 hcl hrx
  have hputw := hM4.put 28 #[.int .i64 0, .slice none 0 0, .slice none 0 0, .slice none 0 0] (tgV kind Aw nw cw Bw mw dw Pw np ew)
  have hTw : TgR w4 w4.heap.size Aw nw cw Bw mw dw ids ll Pw np ew ps := ⟨hshw, hkyw⟩
  clear hM4 hshw hownw hkyw
  go_upto_region 5 with ((with_reducible show wpList _ _ _ (⟨none, Op.store 28 _ _, _, _, _, _⟩ :: _) _ _); refine wpList_store_row rfl 28 (.tmp 8) (.tmp 36) rfl w4.heap.size (tgV kind Aw nw cw Bw mw dw Pw np ew) rfl rfl 28 _ (RowC.new _ _ _) tgInfo2 rfl (by simp [tgV, Value.oneCell']) ?_)
  try simp only [Act.put]
  obtain ⟨gw, hgw⟩ : ∃ q, q = w4.heap.size := ⟨_, rfl⟩
  have hB4 := below_setRow ((Below.refl w4.heap.size w4).alloc (Nat.le_refl _) (.cells #[.int .i64 0, .slice none 0 0, .slice none 0 0, .slice none 0 0] 28)) (Nat.le_refl _) (tgV kind Aw nw cw Bw mw dw Pw np ew)
  have hTw := hTw.below hB4
  rw [← hgw] at hputw hTw ⊢
  refine wp_gen (fun wx => Ms w wx [(gw, 28, (tgV kind Aw nw cw Bw mw dw Pw np ew)), (g + 1, 28, (tgV kind' Ai' ni' ci' Al' nl' cl' Ap' np' cp')), (g, 28, (tgV kind Ai ni ci Al nl cl Ap np cp))] ∧ TgR wx gw Aw nw cw Bw mw dw ids ll Pw np ew ps) ⟨hputw, hTw⟩ ?_
  clear hputw hTw hgw hB4
  rintro w5 ⟨hM5, hTw⟩
  have HTw := Lib.hid (fun wx (hb : Below w5.heap.size w5 wx) => (hTw.below (hb.mono (Nat.le_of_lt (hM5.get 0 rfl).lt))).more (Nat.le_trans (Nat.le_of_lt (hM5.get 0 rfl).lt) hb.size))
  have Hold := Lib.hid hM5.old
  clear hTw
  have hcl := hS kind Ai ni ci Al nl cl ids ll Ap np cp ps w5 (HB.out w5 hM5.old) hf (hT.below hM5.old)
  have hrx := hM5.get 2 rfl
  go_wp2_with ((with_reducible show wpList _ _ _ (⟨some 38, _, _, _, _, _⟩ :: _) _ _); refine wpList_loadC (by kernel_rfl) 28 (.tmp 3) rfl g rfl 28 (tgV kind Ai ni ci Al nl cl Ap np cp) _ hrx Tryd.underlying28 rfl tgInfo2 ?_)
  refine hcl.mono ?_
  rintro e w6 hp; obtain ⟨hb6, Aa, ca, he, hka⟩ := hp.gen
  subst he
  have hM6 := hM5.call hb6
  have h56 := hb6
  clear hM5 hb6 hcl hrx
  have hcl := RSums13 kind Ai ni ci Al nl cl ids ll Ap np cp ps w6 (HB.out w6 hM6.old) hf (hK.below hM6.old)
  have hrx := hM6.get 2 rfl
  go_wp2_with ((with_reducible show wpList _ _ _ (⟨some 43, _, _, _, _, _⟩ :: _) _ _); refine wpList_loadC (by kernel_rfl) 28 (.tmp 3) rfl g rfl 28 (tgV kind Ai ni ci Al nl cl Ap np cp) _ hrx Tryd.underlying28 rfl tgInfo2 ?_)
  refine hcl.mono ?_
  rintro e w7 hp; obtain ⟨hb7, Ab, cb, he, hkb⟩ := hp.gen
  subst he
  have hM7 := hM6.call hb7
  have hka := (hka.below hb7).more hb7.size
  have h57 := c_call h56 hb7
  clear hM6 hb7 hcl hrx
  have hkl0 : (sumG kind ids ll np ps).length = 32 := by
    rw [sumG]
    split
    · next hok => exact keyI_len (sumsT_len hok) (by have := okG_np hok; omega)
    · rfl
  have Hkl := Lib.hid hkl0
  have Hsa := Lib.hid (sizeKey hkl0)
  have Hone := Lib.hid (one_keyF (sumG kind ids ll np ps))
  clear hkl0
  have hcl := hU kind Ai ni ci Al nl cl ids ll Ap np cp ps w7 (HB.out w7 hM7.old) hf (hT.below hM7.old)
  have hrx := hM7.get 2 rfl
  go_wp2_with ((with_reducible show wpList _ _ _ (⟨some 48, _, _, _, _, _⟩ :: _) _ _); refine wpList_loadC (by kernel_rfl) 28 (.tmp 3) rfl g rfl 28 (tgV kind Ai ni ci Al nl cl Ap np cp) _ hrx Tryd.underlying28 rfl tgInfo2 ?_)
  refine hcl.mono ?_
  rintro e wz8 ⟨he, hbz8⟩
  subst he
  have hMz := hM7.call hbz8
  have hput := hMz.put 36 #[.int .u8 0, .int .u8 0, .int .u8 0, .int .u8 0, .int .u8 0, .int .u8 0, .int .u8 0, .int .u8 0, .int .u8 0, .int .u8 0, .int .u8 0, .int .u8 0, .int .u8 0, .int .u8 0, .int .u8 0, .int .u8 0, .int .u8 0, .int .u8 0, .int .u8 0, .int .u8 0, .int .u8 0, .int .u8 0, .int .u8 0, .int .u8 0, .int .u8 0, .int .u8 0, .int .u8 0, .int .u8 0, .int .u8 0, .int .u8 0, .int .u8 0, .int .u8 0] (keyC (sumG kind ids ll np ps))
  clear hM7 hcl hrx hMz
  go_upto_region 8 with ((with_reducible show wpList _ _ _ (⟨none, Op.store 36 _ _, _, _, _, _⟩ :: _) _ _); refine wpList_store_row rfl 36 (.tmp 13) (.tmp 50) rfl wz8.heap.size (keyC (sumG kind ids ll np ps)) rfl rfl 36 _ (RowC.new _ _ _) Hsa.out (by rw [keyC_size, Hkl.out]; rfl) Hone.out ?_)
  try simp only [Act.put]
  obtain ⟨gc, hgq⟩ : ∃ q, q = wz8.heap.size := ⟨_, rfl⟩
  have hBz := below_setRow ((Below.refl wz8.heap.size wz8).alloc (Nat.le_refl _) (.cells #[.int .u8 0, .int .u8 0, .int .u8 0, .int .u8 0, .int .u8 0, .int .u8 0, .int .u8 0, .int .u8 0, .int .u8 0, .int .u8 0, .int .u8 0, .int .u8 0, .int .u8 0, .int .u8 0, .int .u8 0, .int .u8 0, .int .u8 0, .int .u8 0, .int .u8 0, .int .u8 0, .int .u8 0, .int .u8 0, .int .u8 0, .int .u8 0, .int .u8 0, .int .u8 0, .int .u8 0, .int .u8 0, .int .u8 0, .int .u8 0, .int .u8 0, .int .u8 0] 36)) (Nat.le_refl _) (keyC (sumG kind ids ll np ps))
  have hcc := c_call h57 (c_call hbz8 hBz)
  have hka := (hka.below (c_call hbz8 hBz)).more (c_call hbz8 hBz).size
  have hkb := (hkb.below (c_call hbz8 hBz)).more (c_call hbz8 hBz).size
  rw [← hgq] at hput hcc hka hkb ⊢
  refine wp_gen (fun wx => Ms w wx [(gc, 36, keyC (sumG kind ids ll np ps)), (gw, 28, (tgV kind Aw nw cw Bw mw dw Pw np ew)), (g + 1, 28, (tgV kind' Ai' ni' ci' Al' nl' cl' Ap' np' cp')), (g, 28, (tgV kind Ai ni ci Al nl cl Ap np cp))] ∧ Below w5.heap.size w5 wx ∧ KyR wx wx.heap.size Aa (okN (okG kind ids ll np ps) np) ca (okL (okG kind ids ll np ps) (sumsT kind ids ll ps np)) ∧ KyR wx wx.heap.size Ab (okN (okG kind ids ll np ps) np) cb (okL (okG kind ids ll np ps) (sumsT kind ids ll ps np))) ⟨hput, hcc, hka, hkb⟩ ?_
  clear hput hcc hka hkb hgq hBz hbz8 h57
  rintro w8 ⟨hM8, h58, hka, hkb⟩
  have hcl := RSum13 kind Ai ni ci Al nl cl ids ll Ap np cp ps w8 (HB.out w8 hM8.old) hf (hK.below hM8.old)
  have hrx := hM8.get 3 rfl
  go_wp2_with ((with_reducible show wpList _ _ _ (⟨some 53, _, _, _, _, _⟩ :: _) _ _); refine wpList_loadC (by kernel_rfl) 28 (.tmp 3) rfl g rfl 28 (tgV kind Ai ni ci Al nl cl Ap np cp) _ hrx Tryd.underlying28 rfl tgInfo2 ?_)
  refine hcl.mono ?_
  rintro e wz9 ⟨he, hbz9⟩
  subst he
  have hMz := hM8.call hbz9
  have hput := hMz.put 36 #[.int .u8 0, .int .u8 0, .int .u8 0, .int .u8 0, .int .u8 0, .int .u8 0, .int .u8 0, .int .u8 0, .int .u8 0, .int .u8 0, .int .u8 0, .int .u8 0, .int .u8 0, .int .u8 0, .int .u8 0, .int .u8 0, .int .u8 0, .int .u8 0, .int .u8 0, .int .u8 0, .int .u8 0, .int .u8 0, .int .u8 0, .int .u8 0, .int .u8 0, .int .u8 0, .int .u8 0, .int .u8 0, .int .u8 0, .int .u8 0, .int .u8 0, .int .u8 0] (keyC (sumG kind ids ll np ps))
  clear hM8 hcl hrx hMz
  go_upto_region 9 with ((with_reducible show wpList _ _ _ (⟨none, Op.store 36 _ _, _, _, _, _⟩ :: _) _ _); refine wpList_store_row rfl 36 (.tmp 15) (.tmp 55) rfl wz9.heap.size (keyC (sumG kind ids ll np ps)) rfl rfl 36 _ (RowC.new _ _ _) Hsa.out (by rw [keyC_size, Hkl.out]; rfl) Hone.out ?_)
  try simp only [Act.put]
  obtain ⟨gd, hgq⟩ : ∃ q, q = wz9.heap.size := ⟨_, rfl⟩
  have hBz := below_setRow ((Below.refl wz9.heap.size wz9).alloc (Nat.le_refl _) (.cells #[.int .u8 0, .int .u8 0, .int .u8 0, .int .u8 0, .int .u8 0, .int .u8 0, .int .u8 0, .int .u8 0, .int .u8 0, .int .u8 0, .int .u8 0, .int .u8 0, .int .u8 0, .int .u8 0, .int .u8 0, .int .u8 0, .int .u8 0, .int .u8 0, .int .u8 0, .int .u8 0, .int .u8 0, .int .u8 0, .int .u8 0, .int .u8 0, .int .u8 0, .int .u8 0, .int .u8 0, .int .u8 0, .int .u8 0, .int .u8 0, .int .u8 0, .int .u8 0] 36)) (Nat.le_refl _) (keyC (sumG kind ids ll np ps))
  have hcc := c_call h58 (c_call hbz9 hBz)
  have hka := (hka.below (c_call hbz9 hBz)).more (c_call hbz9 hBz).size
  have hkb := (hkb.below (c_call hbz9 hBz)).more (c_call hbz9 hBz).size
  rw [← hgq] at hput hcc hka hkb ⊢
  refine wp_gen (fun wx => Ms w wx [(gd, 36, keyC (sumG kind ids ll np ps)), (gc, 36, keyC (sumG kind ids ll np ps)), (gw, 28, (tgV kind Aw nw cw Bw mw dw Pw np ew)), (g + 1, 28, (tgV kind' Ai' ni' ci' Al' nl' cl' Ap' np' cp')), (g, 28, (tgV kind Ai ni ci Al nl cl Ap np cp))] ∧ Below w5.heap.size w5 wx ∧ KyR wx wx.heap.size Aa (okN (okG kind ids ll np ps) np) ca (okL (okG kind ids ll np ps) (sumsT kind ids ll ps np)) ∧ KyR wx wx.heap.size Ab (okN (okG kind ids ll np ps) np) cb (okL (okG kind ids ll np ps) (sumsT kind ids ll ps np))) ⟨hput, hcc, hka, hkb⟩ ?_
  clear hput hcc hka hkb hgq hBz hbz9 h58
  rintro w9 ⟨hM9, h59, hka, hkb⟩
  have hcl := hL kind Ai ni ci Al nl cl ids ll Ap np cp ps id w9 (HB.out w9 hM9.old) hf
  have hrx := hM9.get 4 rfl
  go_wp2_with ((with_reducible show wpList _ _ _ (⟨some 58, _, _, _, _, _⟩ :: _) _ _); refine wpList_loadC (by kernel_rfl) 28 (.tmp 3) rfl g rfl 28 (tgV kind Ai ni ci Al nl cl Ap np cp) _ hrx Tryd.underlying28 rfl tgInfo2 ?_)
  refine hcl.mono ?_
  rintro e w10 ⟨he, hb10⟩
  subst he
  have hM10 := hM9.call hb10
  have hka := (hka.below hb10).more hb10.size
  have hkb := (hkb.below hb10).more hb10.size
  have h510 := c_call h59 hb10
  clear hM9 hb10 hcl hrx
  have hcl := RLeaf13 kind Ai ni ci Al nl cl ids ll Ap np cp ps id w10 (HB.out w10 hM10.old) hf
  have hrx := hM10.get 4 rfl
  go_wp2_with ((with_reducible show wpList _ _ _ (⟨some 64, _, _, _, _, _⟩ :: _) _ _); refine wpList_loadC (by kernel_rfl) 28 (.tmp 3) rfl g rfl 28 (tgV kind Ai ni ci Al nl cl Ap np cp) _ hrx Tryd.underlying28 rfl tgInfo2 ?_)
  refine hcl.mono ?_
  rintro e w11 ⟨he, hb11⟩
  subst he
  have hM11 := hM10.call hb11
  have hka := (hka.below hb11).more hb11.size
  have hkb := (hkb.below hb11).more hb11.size
  have h511 := c_call h510 hb11
  clear hM10 hb11 hcl hrx
  have hcl := hW kind Ai ni ci Al nl cl ids ll Ap np cp ps w11 (HB.out w11 hM11.old) hf
  have hrx := hM11.get 4 rfl
  go_wp2_with ((with_reducible show wpList _ _ _ (⟨some 70, _, _, _, _, _⟩ :: _) _ _); refine wpList_loadC (by kernel_rfl) 28 (.tmp 3) rfl g rfl 28 (tgV kind Ai ni ci Al nl cl Ap np cp) _ hrx Tryd.underlying28 rfl tgInfo2 ?_)
  refine hcl.mono ?_
  rintro e w12 hp; obtain ⟨hb12, Ap1, c1, he, hc1, hp1⟩ := hp.gen
  subst he
  have hM12 := hM11.call hb12
  have hka := (hka.below hb12).more hb12.size
  have hkb := (hkb.below hb12).more hb12.size
  have h512 := c_call h511 hb12
  clear hM11 hb12 hcl hrx
  have hcl := RWrite13 kind Ai ni ci Al nl cl ids ll Ap np cp ps w12 (HB.out w12 hM12.old) hf
  have hrx := hM12.get 4 rfl
  go_wp2_with ((with_reducible show wpList _ _ _ (⟨some 75, _, _, _, _, _⟩ :: _) _ _); refine wpList_loadC (by kernel_rfl) 28 (.tmp 3) rfl g rfl 28 (tgV kind Ai ni ci Al nl cl Ap np cp) _ hrx Tryd.underlying28 rfl tgInfo2 ?_)
  refine hcl.mono ?_
  rintro e w13 hp; obtain ⟨hb13, Ap2, c2, he, hc2, hp2⟩ := hp.gen
  subst he
  have hM13 := hM12.call hb13
  have hka := (hka.below hb13).more hb13.size
  have hkb := (hkb.below hb13).more hb13.size
  have h513 := c_call h512 hb13
  have hp1 := (hp1.below hb13).more hb13.size
  clear hM12 hb13 hcl hrx
  go_upto_region 13 with fail
  try simp only [Act.put]
  have hall := hM13.old
  have hnN : okN (okG kind ids ll np ps) np ≤ 1000000 := by rw [okN]; split <;> omega
  have hsame := fun wx (hb : Below w13.heap.size w13 wx) => RKSame Aa Ab (okN (okG kind ids ll np ps) np) ca (okN (okG kind ids ll np ps) np) cb (okL (okG kind ids ll np ps) (sumsT kind ids ll ps np)) (okL (okG kind ids ll np ps) (sumsT kind ids ll ps np)) wx hnN hnN ((hka.below hb).more hb.size) ((hkb.below hb).more hb.size)
  simp only [beq_self_eq_true] at hsame
  have hbytes : ∀ wx : World, Below w13.heap.size w13 wx → Calls Tryd.prog 20 #[.slice Ap1 (okN (okG kind ids ll np ps) (writeT kind ids ll ps).length) c1, .slice Ap2 (okN (okG kind ids ll np ps) (writeT kind ids ll ps).length) c2] wx fun e w' => e = .returned (.bool true) ∧ Below wx.heap.size wx w' := fun wx hb => by
    refine (Same_any Ap1 Ap2 _ c1 _ c2 (okL (okG kind ids ll np ps) (writeT kind ids ll ps)) (okL (okG kind ids ll np ps) (writeT kind ids ll ps)) wx _ _ (hp1.below hb) (hp2.below hb)).mono ?_
    rintro e w' ⟨he, hw⟩
    subst he hw
    exact ⟨by rw [sameB_refl], Below.refl _ _⟩
  have hchk := fun wx (hb : Below w13.heap.size w13 wx) => hC kind Ai ni ci Al nl cl ids ll Ap np cp ps wx (HB.out wx (hall.trans (hb.mono hall.size))) hf
  have hrck := fun wx (hb : Below w13.heap.size w13 wx) => RCheck13 kind Ai ni ci Al nl cl ids ll Ap np cp ps wx (HB.out wx (hall.trans (hb.mono hall.size))) hf
  have hsm := fun wx (hb : Below w13.heap.size w13 wx) => hM kind Ai ni ci Al nl cl ids ll Ap np cp ps kind' Ai' ni' ci' Al' nl' cl' ids' ll' Ap' np' cp' ps' wx (HB.out wx (hall.trans (hb.mono hall.size))) (HB'.out wx (hall.trans (hb.mono hall.size))) (by omega) (by omega) hf hf'
  have hrsm := fun wx (hb : Below w13.heap.size w13 wx) => RSame13 kind Ai ni ci Al nl cl ids ll Ap np cp ps kind' Ai' ni' ci' Al' nl' cl' ids' ll' Ap' np' cp' ps' wx (HB.out wx (hall.trans (hb.mono hall.size))) (HB'.out wx (hall.trans (hb.mono hall.size))) (by omega) (by omega)
  have hrsw := fun wx (hb : Below w13.heap.size w13 wx) => RSame13 kind Ai ni ci Al nl cl ids ll Ap np cp ps kind Aw nw cw Bw mw dw ids ll Pw np ew ps wx (HB.out wx (hall.trans (hb.mono hall.size))) (HTw.out wx (h513.trans (hb.mono h513.size))) (by omega) (by omega)
  rw [show sameG kind ids ll ps kind ids ll ps = true by rw [sameG]; simp] at hrsw
  have hkl := Hkl.out
  have hsk := sizeKeyL Hkl.out
  have hrows := And.intro (hM13.get 4 rfl) (And.intro (hM13.get 3 rfl) (And.intro (hM13.get 2 rfl) (And.intro (hM13.get 1 rfl) (hM13.get 0 rfl))))
  generalize chkG kind ids ll np ps = er at *
  generalize leafG kind ids ll np ps id = xv at *
  generalize leafE kind ids ll np ps id = xe at *
  generalize sameG kind ids ll ps kind' ids' ll' ps' = sm at *
  generalize okN (okG kind ids ll np ps) np = na at *
  generalize okN (okG kind ids ll np ps) (writeT kind ids ll ps).length = n1 at *
  generalize sumG kind ids ll np ps = k at *
  obtain ⟨r1, r2, r3, r4, r5⟩ := hrows
  have hq := fun wx : World => eql_keyK wx k k hkl hkl
  simp only [beq_self_eq_true] at hq
  have hkeep : ∀ wx : World, Below w13.heap.size w13 wx → wx.rangeAt g 0 (tgV kind Ai ni ci Al nl cl Ap np cp).toList ∧ wx.rangeAt (g + 1) 0 (tgV kind' Ai' ni' ci' Al' nl' cl' Ap' np' cp').toList ∧ wx.rangeAt gw 0 (tgV kind Aw nw cw Bw mw dw Pw np ew).toList ∧ wx.rangeAt gc 0 (keyC k).toList ∧ wx.rangeAt gd 0 (keyC k).toList := fun wx hb => ⟨(r1.call hb).range, (r2.call hb).range, (r3.call hb).range, (r4.call hb).range, (r5.call hb).range⟩
  have hun := Tryd.underlying36
  have hunT := Tryd.underlying28
  have hiT3 : (Tryd.prog.info? 28).map (·.size) = some (tgV kind Ai ni ci Al nl cl Ap np cp).toList.length := by kernel_rfl
  have hiT4 : (Tryd.prog.info? 28).map (·.size) = some (tgV kind' Ai' ni' ci' Al' nl' cl' Ap' np' cp').toList.length := by kernel_rfl
  have hiT8 : (Tryd.prog.info? 28).map (·.size) = some (tgV kind Aw nw cw Bw mw dw Pw np ew).toList.length := by kernel_rfl
  clear hka hkb hp1 hp2 hM13 HTw HB HB' h513 r1 r2 r3 r4 r5 hkl hC hS hU hL hW hM hK hT hc1 hc2 hnN
  refine beginT (fun wx : World => wx.rangeAt g 0 (tgV kind Ai ni ci Al nl cl Ap np cp).toList ∧ wx.rangeAt (g + 1) 0 (tgV kind' Ai' ni' ci' Al' nl' cl' Ap' np' cp').toList ∧ wx.rangeAt gw 0 (tgV kind Aw nw cw Bw mw dw Pw np ew).toList ∧ wx.rangeAt gc 0 (keyC k).toList ∧ wx.rangeAt gd 0 (keyC k).toList) 63 (by kernel_rfl) ?_
  have hdr : Below w13.heap.size w13 w13.drew := c_drew (c_refl _)
  have hS0 := hkeep _ hdr
  refine takeD 0 (some 79) (.bool true) rfl rfl (by kernel_rfl) (by kernel_rfl) (by kernel_rfl) (by kernel_rfl) (fun _ _ _ h => h) (Or.inl ⟨by kernel_rfl, fun wx hSw => by go_simp⟩) hS0 ?_
  try simp only [Act.put, List.setIfInBounds_toArray, List.set_cons_zero, List.set_cons_succ]
  refine takeD 1 (some 80) (.bool true) rfl rfl (by kernel_rfl) (by kernel_rfl) (by kernel_rfl) (by kernel_rfl) (fun _ _ _ h => h) (Or.inl ⟨by kernel_rfl, fun wx hSw => by go_simp⟩) hS0 ?_
  try simp only [Act.put, List.setIfInBounds_toArray, List.set_cons_zero, List.set_cons_succ]
  refine takeD 2 (some 81) (.slice Aa na ca) rfl rfl (by kernel_rfl) (by kernel_rfl) (by kernel_rfl) (by kernel_rfl) (fun _ _ _ h => h) (Or.inl ⟨by kernel_rfl, fun wx hSw => by go_simp⟩) hS0 ?_
  try simp only [Act.put, List.setIfInBounds_toArray, List.set_cons_zero, List.set_cons_succ]
  refine takeD 3 (some 82) (.slice Ab na cb) rfl rfl (by kernel_rfl) (by kernel_rfl) (by kernel_rfl) (by kernel_rfl) (fun _ _ _ h => h) (Or.inl ⟨by kernel_rfl, fun wx hSw => by go_simp⟩) hS0 ?_
  try simp only [Act.put, List.setIfInBounds_toArray, List.set_cons_zero, List.set_cons_succ]
  refine oneT 4 (by kernel_rfl) rfl (fun K2 hK2 => ?_)
  go_simp
  refine (hsame _ hdr).mono ?_
  rintro e wz1 ⟨he, hbz1⟩
  subst he
  have hdr := c_call hdr hbz1
  have hS0 := hkeep _ hdr
  refine hK2.out _ _ (fun _ => hS0) ?_
  clear hK2 K2
  try simp only [Act.put, List.setIfInBounds_toArray, List.set_cons_zero, List.set_cons_succ, Array.toArray_toList]
  refine takeD 5 (some 84) (.bool true) rfl rfl (by kernel_rfl) (by kernel_rfl) (by kernel_rfl) (by kernel_rfl) (fun _ _ _ h => h) (Or.inl ⟨by kernel_rfl, fun wx hSw => by go_simp⟩) hS0 ?_
  try simp only [Act.put, List.setIfInBounds_toArray, List.set_cons_zero, List.set_cons_succ]
  refine takeD 6 (some 85) (.bool true) rfl rfl (by kernel_rfl) (by kernel_rfl) (by kernel_rfl) (by kernel_rfl) (fun _ _ _ h => h) (Or.inl ⟨by kernel_rfl, fun wx hSw => by go_simp⟩) hS0 ?_
  try simp only [Act.put, List.setIfInBounds_toArray, List.set_cons_zero, List.set_cons_succ]
  refine takeD 7 (some 86) (.int .i64 er) rfl rfl (by kernel_rfl) (by kernel_rfl) (by kernel_rfl) (by kernel_rfl) (fun _ _ _ h => h) (Or.inl ⟨by kernel_rfl, fun wx hSw => by go_simp⟩) hS0 ?_
  try simp only [Act.put, List.setIfInBounds_toArray, List.set_cons_zero, List.set_cons_succ]
  refine takeD 8 (some 87) (.int .i64 er) rfl rfl (by kernel_rfl) (by kernel_rfl) (by kernel_rfl) (by kernel_rfl) (fun _ _ _ h => h) (Or.inl ⟨by kernel_rfl, fun wx hSw => by go_simp⟩) hS0 ?_
  try simp only [Act.put, List.setIfInBounds_toArray, List.set_cons_zero, List.set_cons_succ]
  refine takeD 9 (some 88) (.bool true) rfl rfl (by kernel_rfl) (by kernel_rfl) (by kernel_rfl) (by kernel_rfl) (fun _ _ _ h => h) (Or.inl ⟨by kernel_rfl, fun wx hSw => by go_simp⟩) hS0 ?_
  try simp only [Act.put, List.setIfInBounds_toArray, List.set_cons_zero, List.set_cons_succ]
  refine takeD 10 (some 89) (.bool true) rfl rfl (by kernel_rfl) (by kernel_rfl) (by kernel_rfl) (by kernel_rfl) (fun _ _ _ h => h) (Or.inl ⟨by kernel_rfl, fun wx hSw => by go_simp⟩) hS0 ?_
  try simp only [Act.put, List.setIfInBounds_toArray, List.set_cons_zero, List.set_cons_succ]
  refine takeD 11 (some 90) (.bool true) rfl rfl (by kernel_rfl) (by kernel_rfl) (by kernel_rfl) (by kernel_rfl) (fun _ _ _ h => h) (Or.inl ⟨by kernel_rfl, fun wx hSw => by go_simp⟩) hS0 ?_
  try simp only [Act.put, List.setIfInBounds_toArray, List.set_cons_zero, List.set_cons_succ]
  refine loadT 12 (some 91) 36 (.tmp 13) gc 0 (keyC k).toList rfl rfl (by kernel_rfl) (by kernel_rfl) (by kernel_rfl) (by kernel_rfl) rfl (by kernel_rfl) rfl (fun wx hSw => hSw.2.2.2.1) hun rfl hsk (fun _ _ _ h => h) hS0 ?_
  try simp only [Act.put, List.setIfInBounds_toArray, List.set_cons_zero, List.set_cons_succ, Array.toArray_toList]
  refine loadT 13 (some 92) 36 (.tmp 15) gd 0 (keyC k).toList rfl rfl (by kernel_rfl) (by kernel_rfl) (by kernel_rfl) (by kernel_rfl) rfl (by kernel_rfl) rfl (fun wx hSw => hSw.2.2.2.2) hun rfl hsk (fun _ _ _ h => h) hS0 ?_
  try simp only [Act.put, List.setIfInBounds_toArray, List.set_cons_zero, List.set_cons_succ, Array.toArray_toList]
  refine takeD 14 (some 93) (.bool true) rfl rfl (by kernel_rfl) (by kernel_rfl) (by kernel_rfl) (by kernel_rfl) (fun _ _ _ h => h) (Or.inl ⟨by kernel_rfl, fun wx hSw => by go_simp⟩) hS0 ?_
  try simp only [Act.put, List.setIfInBounds_toArray, List.set_cons_zero, List.set_cons_succ]
  refine takeD 15 (some 94) (.bool true) rfl rfl (by kernel_rfl) (by kernel_rfl) (by kernel_rfl) (by kernel_rfl) (fun _ _ _ h => h) (Or.inl ⟨by kernel_rfl, fun wx hSw => by go_simp⟩) hS0 ?_
  try simp only [Act.put, List.setIfInBounds_toArray, List.set_cons_zero, List.set_cons_succ]
  refine takeD 16 (some 95) (.bool true) rfl rfl (by kernel_rfl) (by kernel_rfl) (by kernel_rfl) (by kernel_rfl) (fun _ _ _ h => h) (Or.inl ⟨by kernel_rfl, fun wx hSw => by go_simp⟩) hS0 ?_
  try simp only [Act.put, List.setIfInBounds_toArray, List.set_cons_zero, List.set_cons_succ]
  refine takeD 17 (some 96) (.int .i64 er) rfl rfl (by kernel_rfl) (by kernel_rfl) (by kernel_rfl) (by kernel_rfl) (fun _ _ _ h => h) (Or.inl ⟨by kernel_rfl, fun wx hSw => by go_simp⟩) hS0 ?_
  try simp only [Act.put, List.setIfInBounds_toArray, List.set_cons_zero, List.set_cons_succ]
  refine takeD 18 (some 97) (.int .i64 er) rfl rfl (by kernel_rfl) (by kernel_rfl) (by kernel_rfl) (by kernel_rfl) (fun _ _ _ h => h) (Or.inl ⟨by kernel_rfl, fun wx hSw => by go_simp⟩) hS0 ?_
  try simp only [Act.put, List.setIfInBounds_toArray, List.set_cons_zero, List.set_cons_succ]
  refine takeD 19 (some 98) (.bool true) rfl rfl (by kernel_rfl) (by kernel_rfl) (by kernel_rfl) (by kernel_rfl) (fun _ _ _ h => h) (Or.inl ⟨by kernel_rfl, fun wx hSw => by go_simp⟩) hS0 ?_
  try simp only [Act.put, List.setIfInBounds_toArray, List.set_cons_zero, List.set_cons_succ]
  refine takeD 20 (some 99) (.bool true) rfl rfl (by kernel_rfl) (by kernel_rfl) (by kernel_rfl) (by kernel_rfl) (fun _ _ _ h => h) (Or.inl ⟨by kernel_rfl, fun wx hSw => by go_simp⟩) hS0 ?_
  try simp only [Act.put, List.setIfInBounds_toArray, List.set_cons_zero, List.set_cons_succ]
  refine takeD 21 (some 100) (.bool true) rfl rfl (by kernel_rfl) (by kernel_rfl) (by kernel_rfl) (by kernel_rfl) (fun _ _ _ h => h) (Or.inl ⟨by kernel_rfl, fun wx hSw => by go_simp⟩) hS0 ?_
  try simp only [Act.put, List.setIfInBounds_toArray, List.set_cons_zero, List.set_cons_succ]
  refine takeD 22 (some 101) (.int .i64 xv) rfl rfl (by kernel_rfl) (by kernel_rfl) (by kernel_rfl) (by kernel_rfl) (fun _ _ _ h => h) (Or.inl ⟨by kernel_rfl, fun wx hSw => by go_simp⟩) hS0 ?_
  try simp only [Act.put, List.setIfInBounds_toArray, List.set_cons_zero, List.set_cons_succ]
  refine takeD 23 (some 102) (.int .i64 xv) rfl rfl (by kernel_rfl) (by kernel_rfl) (by kernel_rfl) (by kernel_rfl) (fun _ _ _ h => h) (Or.inl ⟨by kernel_rfl, fun wx hSw => by go_simp⟩) hS0 ?_
  try simp only [Act.put, List.setIfInBounds_toArray, List.set_cons_zero, List.set_cons_succ]
  refine takeD 24 (some 103) (.bool true) rfl rfl (by kernel_rfl) (by kernel_rfl) (by kernel_rfl) (by kernel_rfl) (fun _ _ _ h => h) (Or.inl ⟨by kernel_rfl, fun wx hSw => by go_simp⟩) hS0 ?_
  try simp only [Act.put, List.setIfInBounds_toArray, List.set_cons_zero, List.set_cons_succ]
  refine takeD 25 (some 104) (.bool true) rfl rfl (by kernel_rfl) (by kernel_rfl) (by kernel_rfl) (by kernel_rfl) (fun _ _ _ h => h) (Or.inl ⟨by kernel_rfl, fun wx hSw => by go_simp⟩) hS0 ?_
  try simp only [Act.put, List.setIfInBounds_toArray, List.set_cons_zero, List.set_cons_succ]
  refine takeD 26 (some 105) (.bool true) rfl rfl (by kernel_rfl) (by kernel_rfl) (by kernel_rfl) (by kernel_rfl) (fun _ _ _ h => h) (Or.inl ⟨by kernel_rfl, fun wx hSw => by go_simp⟩) hS0 ?_
  try simp only [Act.put, List.setIfInBounds_toArray, List.set_cons_zero, List.set_cons_succ]
  refine takeD 27 (some 106) (.int .i64 xe) rfl rfl (by kernel_rfl) (by kernel_rfl) (by kernel_rfl) (by kernel_rfl) (fun _ _ _ h => h) (Or.inl ⟨by kernel_rfl, fun wx hSw => by go_simp⟩) hS0 ?_
  try simp only [Act.put, List.setIfInBounds_toArray, List.set_cons_zero, List.set_cons_succ]
  refine takeD 28 (some 107) (.int .i64 xe) rfl rfl (by kernel_rfl) (by kernel_rfl) (by kernel_rfl) (by kernel_rfl) (fun _ _ _ h => h) (Or.inl ⟨by kernel_rfl, fun wx hSw => by go_simp⟩) hS0 ?_
  try simp only [Act.put, List.setIfInBounds_toArray, List.set_cons_zero, List.set_cons_succ]
  refine takeD 29 (some 108) (.bool true) rfl rfl (by kernel_rfl) (by kernel_rfl) (by kernel_rfl) (by kernel_rfl) (fun _ _ _ h => h) (Or.inl ⟨by kernel_rfl, fun wx hSw => by go_simp⟩) hS0 ?_
  try simp only [Act.put, List.setIfInBounds_toArray, List.set_cons_zero, List.set_cons_succ]
  refine takeD 30 (some 109) (.bool true) rfl rfl (by kernel_rfl) (by kernel_rfl) (by kernel_rfl) (by kernel_rfl) (fun _ _ _ h => h) (Or.inl ⟨by kernel_rfl, fun wx hSw => by go_simp⟩) hS0 ?_
  try simp only [Act.put, List.setIfInBounds_toArray, List.set_cons_zero, List.set_cons_succ]
  refine takeD 31 (some 110) (.bool true) rfl rfl (by kernel_rfl) (by kernel_rfl) (by kernel_rfl) (by kernel_rfl) (fun _ _ _ h => h) (Or.inl ⟨by kernel_rfl, fun wx hSw => by go_simp⟩) hS0 ?_
  try simp only [Act.put, List.setIfInBounds_toArray, List.set_cons_zero, List.set_cons_succ]
  refine takeD 32 (some 111) (.slice Ap1 n1 c1) rfl rfl (by kernel_rfl) (by kernel_rfl) (by kernel_rfl) (by kernel_rfl) (fun _ _ _ h => h) (Or.inl ⟨by kernel_rfl, fun wx hSw => by go_simp⟩) hS0 ?_
  try simp only [Act.put, List.setIfInBounds_toArray, List.set_cons_zero, List.set_cons_succ]
  refine takeD 33 (some 112) (.slice Ap2 n1 c2) rfl rfl (by kernel_rfl) (by kernel_rfl) (by kernel_rfl) (by kernel_rfl) (fun _ _ _ h => h) (Or.inl ⟨by kernel_rfl, fun wx hSw => by go_simp⟩) hS0 ?_
  try simp only [Act.put, List.setIfInBounds_toArray, List.set_cons_zero, List.set_cons_succ]
  refine oneT 34 (by kernel_rfl) rfl (fun K2 hK2 => ?_)
  go_simp
  refine (hbytes _ hdr).mono ?_
  rintro e wz2 ⟨he, hbz2⟩
  subst he
  have hdr := c_call hdr hbz2
  have hS0 := hkeep _ hdr
  refine hK2.out _ _ (fun _ => hS0) ?_
  clear hK2 K2
  try simp only [Act.put, List.setIfInBounds_toArray, List.set_cons_zero, List.set_cons_succ, Array.toArray_toList]
  refine takeD 35 (some 114) (.bool true) rfl rfl (by kernel_rfl) (by kernel_rfl) (by kernel_rfl) (by kernel_rfl) (fun _ _ _ h => h) (Or.inl ⟨by kernel_rfl, fun wx hSw => by go_simp⟩) hS0 ?_
  try simp only [Act.put, List.setIfInBounds_toArray, List.set_cons_zero, List.set_cons_succ]
  refine takeD 36 (some 115) (.bool true) rfl rfl (by kernel_rfl) (by kernel_rfl) (by kernel_rfl) (by kernel_rfl) (fun _ _ _ h => h) (Or.inl ⟨by kernel_rfl, fun wx hSw => by go_simp⟩) hS0 ?_
  try simp only [Act.put, List.setIfInBounds_toArray, List.set_cons_zero, List.set_cons_succ]
  refine takeD 37 (some 116) (.int .i64 er) rfl rfl (by kernel_rfl) (by kernel_rfl) (by kernel_rfl) (by kernel_rfl) (fun _ _ _ h => h) (Or.inl ⟨by kernel_rfl, fun wx hSw => by go_simp⟩) hS0 ?_
  try simp only [Act.put, List.setIfInBounds_toArray, List.set_cons_zero, List.set_cons_succ]
  refine takeD 38 (some 117) (.int .i64 er) rfl rfl (by kernel_rfl) (by kernel_rfl) (by kernel_rfl) (by kernel_rfl) (fun _ _ _ h => h) (Or.inl ⟨by kernel_rfl, fun wx hSw => by go_simp⟩) hS0 ?_
  try simp only [Act.put, List.setIfInBounds_toArray, List.set_cons_zero, List.set_cons_succ]
  refine takeD 39 (some 118) (.bool true) rfl rfl (by kernel_rfl) (by kernel_rfl) (by kernel_rfl) (by kernel_rfl) (fun _ _ _ h => h) (Or.inl ⟨by kernel_rfl, fun wx hSw => by go_simp⟩) hS0 ?_
  try simp only [Act.put, List.setIfInBounds_toArray, List.set_cons_zero, List.set_cons_succ]
  refine takeD 40 (some 119) (.bool true) rfl rfl (by kernel_rfl) (by kernel_rfl) (by kernel_rfl) (by kernel_rfl) (fun _ _ _ h => h) (Or.inl ⟨by kernel_rfl, fun wx hSw => by go_simp⟩) hS0 ?_
  try simp only [Act.put, List.setIfInBounds_toArray, List.set_cons_zero, List.set_cons_succ]
  refine takeD 41 (some 120) (.bool true) rfl rfl (by kernel_rfl) (by kernel_rfl) (by kernel_rfl) (by kernel_rfl) (fun _ _ _ h => h) (Or.inl ⟨by kernel_rfl, fun wx hSw => by go_simp⟩) hS0 ?_
  try simp only [Act.put, List.setIfInBounds_toArray, List.set_cons_zero, List.set_cons_succ]
  refine loadT 42 (some 121) 28 (.tmp 3) g 0 (tgV kind Ai ni ci Al nl cl Ap np cp).toList rfl rfl (by kernel_rfl) (by kernel_rfl) (by kernel_rfl) (by kernel_rfl) rfl (by kernel_rfl) rfl (fun wx hSw => hSw.1) hunT rfl hiT3 (fun _ _ _ h => h) hS0 ?_
  try simp only [Act.put, List.setIfInBounds_toArray, List.set_cons_zero, List.set_cons_succ, Array.toArray_toList]
  refine loadT 44 (some 123) 28 (.tmp 3) g 0 (tgV kind Ai ni ci Al nl cl Ap np cp).toList rfl rfl (by kernel_rfl) (by kernel_rfl) (by kernel_rfl) (by kernel_rfl) rfl (by kernel_rfl) rfl (fun wx hSw => hSw.1) hunT rfl hiT3 (fun _ _ _ h => h) hS0 ?_
  try simp only [Act.put, List.setIfInBounds_toArray, List.set_cons_zero, List.set_cons_succ, Array.toArray_toList]
  refine oneT 43 (by kernel_rfl) rfl (fun K2 hK2 => ?_)
  go_simp
  refine (hchk _ hdr).mono ?_
  rintro e wz3 ⟨he, hbz3⟩
  subst he
  have hdr := c_call hdr hbz3
  have hS0 := hkeep _ hdr
  refine hK2.out _ _ (fun _ => hS0) ?_
  clear hK2 K2
  try simp only [Act.put, List.setIfInBounds_toArray, List.set_cons_zero, List.set_cons_succ, Array.toArray_toList]
  refine oneT 45 (by kernel_rfl) rfl (fun K2 hK2 => ?_)
  go_simp
  refine (hrck _ hdr).mono ?_
  rintro e wz4 ⟨he, hbz4⟩
  subst he
  have hdr := c_call hdr hbz4
  have hS0 := hkeep _ hdr
  refine hK2.out _ _ (fun _ => hS0) ?_
  clear hK2 K2
  try simp only [Act.put, List.setIfInBounds_toArray, List.set_cons_zero, List.set_cons_succ, Array.toArray_toList]
  refine takeD 46 (some 125) (.bool true) rfl rfl (by kernel_rfl) (by kernel_rfl) (by kernel_rfl) (by kernel_rfl) (fun _ _ _ h => h) (Or.inl ⟨by kernel_rfl, fun wx hSw => by go_simp⟩) hS0 ?_
  try simp only [Act.put, List.setIfInBounds_toArray, List.set_cons_zero, List.set_cons_succ]
  refine takeD 47 (some 126) (.bool true) rfl rfl (by kernel_rfl) (by kernel_rfl) (by kernel_rfl) (by kernel_rfl) (fun _ _ _ h => h) (Or.inl ⟨by kernel_rfl, fun wx hSw => by go_simp⟩) hS0 ?_
  try simp only [Act.put, List.setIfInBounds_toArray, List.set_cons_zero, List.set_cons_succ]
  refine takeD 48 (some 127) (.bool true) rfl rfl (by kernel_rfl) (by kernel_rfl) (by kernel_rfl) (by kernel_rfl) (fun _ _ _ h => h) (Or.inl ⟨by kernel_rfl, fun wx hSw => by go_simp⟩) hS0 ?_
  try simp only [Act.put, List.setIfInBounds_toArray, List.set_cons_zero, List.set_cons_succ]
  refine loadT 49 (some 128) 28 (.tmp 3) g 0 (tgV kind Ai ni ci Al nl cl Ap np cp).toList rfl rfl (by kernel_rfl) (by kernel_rfl) (by kernel_rfl) (by kernel_rfl) rfl (by kernel_rfl) rfl (fun wx hSw => hSw.1) hunT rfl hiT3 (fun _ _ _ h => h) hS0 ?_
  try simp only [Act.put, List.setIfInBounds_toArray, List.set_cons_zero, List.set_cons_succ, Array.toArray_toList]
  refine loadT 50 (some 129) 28 (.tmp 4) (g + 1) 0 (tgV kind' Ai' ni' ci' Al' nl' cl' Ap' np' cp').toList rfl rfl (by kernel_rfl) (by kernel_rfl) (by kernel_rfl) (by kernel_rfl) rfl (by kernel_rfl) rfl (fun wx hSw => hSw.2.1) hunT rfl hiT4 (fun _ _ _ h => h) hS0 ?_
  try simp only [Act.put, List.setIfInBounds_toArray, List.set_cons_zero, List.set_cons_succ, Array.toArray_toList]
  refine loadT 52 (some 131) 28 (.tmp 3) g 0 (tgV kind Ai ni ci Al nl cl Ap np cp).toList rfl rfl (by kernel_rfl) (by kernel_rfl) (by kernel_rfl) (by kernel_rfl) rfl (by kernel_rfl) rfl (fun wx hSw => hSw.1) hunT rfl hiT3 (fun _ _ _ h => h) hS0 ?_
  try simp only [Act.put, List.setIfInBounds_toArray, List.set_cons_zero, List.set_cons_succ, Array.toArray_toList]
  refine loadT 53 (some 132) 28 (.tmp 4) (g + 1) 0 (tgV kind' Ai' ni' ci' Al' nl' cl' Ap' np' cp').toList rfl rfl (by kernel_rfl) (by kernel_rfl) (by kernel_rfl) (by kernel_rfl) rfl (by kernel_rfl) rfl (fun wx hSw => hSw.2.1) hunT rfl hiT4 (fun _ _ _ h => h) hS0 ?_
  try simp only [Act.put, List.setIfInBounds_toArray, List.set_cons_zero, List.set_cons_succ, Array.toArray_toList]
  refine oneT 51 (by kernel_rfl) rfl (fun K2 hK2 => ?_)
  go_simp
  refine (hsm _ hdr).mono ?_
  rintro e wz5 ⟨he, hbz5⟩
  subst he
  have hdr := c_call hdr hbz5
  have hS0 := hkeep _ hdr
  refine hK2.out _ _ (fun _ => hS0) ?_
  clear hK2 K2
  try simp only [Act.put, List.setIfInBounds_toArray, List.set_cons_zero, List.set_cons_succ, Array.toArray_toList]
  refine oneT 54 (by kernel_rfl) rfl (fun K2 hK2 => ?_)
  go_simp
  refine (hrsm _ hdr).mono ?_
  rintro e wz6 ⟨he, hbz6⟩
  subst he
  have hdr := c_call hdr hbz6
  have hS0 := hkeep _ hdr
  refine hK2.out _ _ (fun _ => hS0) ?_
  clear hK2 K2
  try simp only [Act.put, List.setIfInBounds_toArray, List.set_cons_zero, List.set_cons_succ, Array.toArray_toList]
  refine takeD 55 (some 134) (.bool true) rfl rfl (by kernel_rfl) (by kernel_rfl) (by kernel_rfl) (by kernel_rfl) (fun _ _ _ h => h) (Or.inl ⟨by kernel_rfl, fun wx hSw => by go_simp⟩) hS0 ?_
  try simp only [Act.put, List.setIfInBounds_toArray, List.set_cons_zero, List.set_cons_succ]
  refine takeD 56 (some 135) (.bool true) rfl rfl (by kernel_rfl) (by kernel_rfl) (by kernel_rfl) (by kernel_rfl) (fun _ _ _ h => h) (Or.inl ⟨by kernel_rfl, fun wx hSw => by go_simp⟩) hS0 ?_
  try simp only [Act.put, List.setIfInBounds_toArray, List.set_cons_zero, List.set_cons_succ]
  refine takeD 57 (some 136) (.bool true) rfl rfl (by kernel_rfl) (by kernel_rfl) (by kernel_rfl) (by kernel_rfl) (fun _ _ _ h => h) (Or.inl ⟨by kernel_rfl, fun wx hSw => by go_simp⟩) hS0 ?_
  try simp only [Act.put, List.setIfInBounds_toArray, List.set_cons_zero, List.set_cons_succ]
  refine loadT 58 (some 137) 28 (.tmp 3) g 0 (tgV kind Ai ni ci Al nl cl Ap np cp).toList rfl rfl (by kernel_rfl) (by kernel_rfl) (by kernel_rfl) (by kernel_rfl) rfl (by kernel_rfl) rfl (fun wx hSw => hSw.1) hunT rfl hiT3 (fun _ _ _ h => h) hS0 ?_
  try simp only [Act.put, List.setIfInBounds_toArray, List.set_cons_zero, List.set_cons_succ, Array.toArray_toList]
  refine loadT 59 (some 138) 28 (.tmp 8) gw 0 (tgV kind Aw nw cw Bw mw dw Pw np ew).toList rfl rfl (by kernel_rfl) (by kernel_rfl) (by kernel_rfl) (by kernel_rfl) rfl (by kernel_rfl) rfl (fun wx hSw => hSw.2.2.1) hunT rfl hiT8 (fun _ _ _ h => h) hS0 ?_
  try simp only [Act.put, List.setIfInBounds_toArray, List.set_cons_zero, List.set_cons_succ, Array.toArray_toList]
  refine oneT 60 (by kernel_rfl) rfl (fun K2 hK2 => ?_)
  go_simp
  refine (hrsw _ hdr).mono ?_
  rintro e wz7 ⟨he, hbz7⟩
  subst he
  have hdr := c_call hdr hbz7
  have hS0 := hkeep _ hdr
  refine hK2.out _ _ (fun _ => hS0) ?_
  clear hK2 K2
  try simp only [Act.put, List.setIfInBounds_toArray, List.set_cons_zero, List.set_cons_succ, Array.toArray_toList]
  refine takeD 61 (some 140) (.bool true) rfl rfl (by kernel_rfl) (by kernel_rfl) (by kernel_rfl) (by kernel_rfl) (fun _ _ _ h => h) (Or.inl ⟨by kernel_rfl, fun wx hSw => by go_simp⟩) hS0 ?_
  try simp only [Act.put, List.setIfInBounds_toArray, List.set_cons_zero, List.set_cons_succ]
  refine takeD 62 (some 6) (.bool true) rfl rfl (by kernel_rfl) (by kernel_rfl) (by kernel_rfl) (by kernel_rfl) (fun _ _ _ h => h) (Or.inl ⟨by kernel_rfl, fun wx hSw => by go_simp⟩) hS0 ?_
  try simp only [Act.put, List.setIfInBounds_toArray, List.set_cons_zero, List.set_cons_succ]
  refine doneT (by kernel_rfl) ?_ _
  have hfin := hall.trans (hdr.mono hall.size)
  clear hkeep hS0 hsame hbytes hchk hrck hsm hrsm hrsw hq
  go_wp2_with fail
  go_ret
  exact ⟨rfl, hfin⟩

end Go.Proofs.YtlidhdljgnijaaaDoor

