import Derived.Test.YtlidhdljgnijaaaDoorN20
import Derived.Test.YtlidhdljgnijaaaDoorN22
import Derived.Test.YtlidhdljgnijaaaDoorN23
import Derived.Test.YtlidhdljgnijaaaDoorN29
import Derived.Test.YtlidhdljgnijaaaDoorN11
import Derived.Test.YtlidhdljgnijaaaDoorN12
import Derived.Test.YtlidhdljgnijaaaDoorN21
import Derived.Test.YtlidhdljgnijaaaDoorN15
import Derived.Lib.SlBytesConst
import Derived.Test.YtlidhdljgnijaaaDoorN13
import Derived.Deep.MidRow
import Derived.Test.YtlidhdljgnijaaaDoorN24
/-
  CONTRACT of coterieref13's Sums. Printed by gen_tagsums.py.
-/
set_option linter.unusedVariables false
namespace Go.Proofs.YtlidhdljgnijaaaDoor
open Go.RowKit

def SumsPost (w : World) (ok : Bool) (np : Nat) (l : List UInt8) (e : Ending) (w' : World) : Prop :=
  Below w.heap.size w w' ∧ ((ok = false ∧ e = .returned (.tuple #[.slice none 0 0, .int .i64 1])) ∨ (ok = true ∧ ∃ A c, e = .returned (.tuple #[.slice A np c, .int .i64 0]) ∧ w'.ownsRow w.heap.size 36 32 (.slice A np c) np (l.map bv)))

end Go.Proofs.YtlidhdljgnijaaaDoor

/-
  CONTRACTS of coterieref13's Sum and Copy.
-/
set_option linter.unusedVariables false
namespace Go.Proofs.YtlidhdljgnijaaaDoor
open Go.RowKit

/-- the tree's sum; why there is none -/
def sumG (kind : Int) (ids : List Int) (ll : List (List Int)) (np : Nat) (ps : List UInt8) : List UInt8 := if okG kind ids ll np ps = true then keyI (sumsT kind ids ll ps np) (np - 1) else zeroK
theorem okG_np {kind : Int} {ids : List Int} {ll : List (List Int)} {np : Nat} {ps : List UInt8} (h : okG kind ids ll np ps = true) : 0 < np := by
  rw [okG, Bool.and_eq_true, Bool.and_eq_true, Bool.and_eq_true, decide_eq_true_eq, decide_eq_true_eq] at h
  omega
theorem sumsT_len {kind : Int} {ids : List Int} {ll : List (List Int)} {np : Nat} {ps : List UInt8} (h : okG kind ids ll np ps = true) : (sumsT kind ids ll ps np).length = np * 32 := by
  have hm := okG_may h
  rw [okG, Bool.and_eq_true, Bool.and_eq_true, Bool.and_eq_true, decide_eq_true_eq, decide_eq_true_eq] at h
  have h2 := (nodesG_nf hm).1
  have h3 := h.2.2.1
  rw [h2, List.length_map] at h3
  exact sumsJ_len _ _ _ _ (by omega)

end Go.Proofs.YtlidhdljgnijaaaDoor

/-
  CONTRACT of coterieref13's Copy.
-/
set_option linter.unusedVariables false
namespace Go.Proofs.YtlidhdljgnijaaaDoor
open Go.RowKit

theorem own_lowK {w : World} {base base' size : Nat} {e : TypeId} {v : Value} {n : Nat} {xs : List Value} (h : w.ownsRow base' e size v n xs) (hb : base ≤ base') : w.ownsRow base e size v n xs := by
  obtain ⟨h1, h | ⟨g, cap, cur, e1, e2, r⟩⟩ := h
  · exact ⟨h1, .inl h⟩
  · exact ⟨h1, .inr ⟨g, cap, cur, e1, by omega, r⟩⟩
theorem grown_setRowK (w : World) (g : Nat) (cs : Array Value) : w.grownBy (w.setRow g cs) (some g) :=
  ⟨rfl, rfl, rfl, by simp [World.setRow], fun k _ hk => setRow_other w g k cs (fun e => hk (by rw [e]))⟩
end Go.Proofs.YtlidhdljgnijaaaDoor

/-
  WHAT THE PROGRAM'S FUNCTIONS OF LAYER 13 ARE ASKED TO DO; the laws' own 'live'.
-/
set_option linter.unusedVariables false
namespace Go.Proofs.YtlidhdljgnijaaaDoor
open Go.RowKit

def HGC : Prop := ∀ (kind : Int) (Ai : Option Addr) (ni ci : Nat) (Al : Option Addr) (nl cl : Nat) (ids : List Int) (ll : List (List Int)) (Ap : Option Addr) (np cp : Nat) (ps : List UInt8) (w : World), TgR w w.heap.size Ai ni ci Al nl cl ids ll Ap np cp ps → fewT ids ll = true →
  Calls Tryd.prog 21 #[.agg (tgV kind Ai ni ci Al nl cl Ap np cp)] w fun e w' => e = .returned (.int .i64 (chkG kind ids ll np ps)) ∧ Below w.heap.size w w'
def HGS : Prop := ∀ (kind : Int) (Ai : Option Addr) (ni ci : Nat) (Al : Option Addr) (nl cl : Nat) (ids : List Int) (ll : List (List Int)) (Ap : Option Addr) (np cp : Nat) (ps : List UInt8) (w : World), TgR w w.heap.size Ai ni ci Al nl cl ids ll Ap np cp ps → fewT ids ll = true → CTab w →
  Calls Tryd.prog 11 #[.agg (tgV kind Ai ni ci Al nl cl Ap np cp)] w (SumsPost w (okG kind ids ll np ps) np (sumsT kind ids ll ps np))
def HGU : Prop := ∀ (kind : Int) (Ai : Option Addr) (ni ci : Nat) (Al : Option Addr) (nl cl : Nat) (ids : List Int) (ll : List (List Int)) (Ap : Option Addr) (np cp : Nat) (ps : List UInt8) (w : World), TgR w w.heap.size Ai ni ci Al nl cl ids ll Ap np cp ps → fewT ids ll = true → CTab w →
  Calls Tryd.prog 13 #[.agg (tgV kind Ai ni ci Al nl cl Ap np cp)] w fun e w' => e = .returned (.tuple #[.agg (keyC (sumG kind ids ll np ps)), .int .i64 (chkG kind ids ll np ps)]) ∧ Below w.heap.size w w'
def HGL : Prop := ∀ (kind : Int) (Ai : Option Addr) (ni ci : Nat) (Al : Option Addr) (nl cl : Nat) (ids : List Int) (ll : List (List Int)) (Ap : Option Addr) (np cp : Nat) (ps : List UInt8) (id : Int) (w : World), TgR w w.heap.size Ai ni ci Al nl cl ids ll Ap np cp ps → fewT ids ll = true →
  Calls Tryd.prog 15 #[.agg (tgV kind Ai ni ci Al nl cl Ap np cp), .int .i64 id] w fun e w' => e = .returned (.tuple #[.int .i64 (leafG kind ids ll np ps id), .int .i64 (leafE kind ids ll np ps id)]) ∧ Below w.heap.size w w'
def HGW : Prop := ∀ (kind : Int) (Ai : Option Addr) (ni ci : Nat) (Al : Option Addr) (nl cl : Nat) (ids : List Int) (ll : List (List Int)) (Ap : Option Addr) (np cp : Nat) (ps : List UInt8) (w : World), TgR w w.heap.size Ai ni ci Al nl cl ids ll Ap np cp ps → fewT ids ll = true →
  Calls Tryd.prog 17 #[.agg (tgV kind Ai ni ci Al nl cl Ap np cp)] w (WritePost w (okG kind ids ll np ps) (writeT kind ids ll ps))
def liveP : List UInt8 := 1 :: List.replicate 31 0
theorem live_ok : okG 1 [7] [] 1 liveP = true := by rfl

set_option maxRecDepth 100000 in
set_option maxHeartbeats 8000000 in
theorem live13 (hC : HGC) (hS : HGS) (hU : HGU) (w : World) (hT : CTab w) : Calls Tryd.prog 8 #[] w fun e w' => e = .returned (.bool true) ∧ Below w.heap.size w w' := by
  go_enter Tryd.func8, Tryd.ntmps8
  go_upto_region 2 with fail
  try simp only [Act.put]
  have hal0 := d_al w (.cells #[.int .i64 7] 3)
  have hal1 := d_al (w.alloc (.cells #[.int .i64 7] 3)) (.cells (keyC liveP) 36)
  have hal2 := d_al ((w.alloc (.cells #[.int .i64 7] 3)).alloc (.cells (keyC liveP) 36)) (.cells (tgV 1 (some ⟨w.heap.size, 0, none⟩) 1 1 none 0 0 (some ⟨w.heap.size + 1, 0, none⟩) 1 1) 28)
  have hz1 : (w.alloc (.cells #[.int .i64 7] 3)).heap.size = w.heap.size + 1 := by simp
  have hz2 : ((w.alloc (.cells #[.int .i64 7] 3)).alloc (.cells (keyC liveP) 36)).heap.size = w.heap.size + 1 + 1 := by simp
  have hrI := ((Rd.mk_ w 3 #[.int .i64 7] (b := w.heap.size) (B := w.heap.size + 1) (n := 1) (l := [7].map iv) rfl (by omega) rfl rfl).below (hal1.mono (Nat.le_of_eq hz1.symm))).below (hal2.mono (by omega))
  have hrK := (RowC.new (w.alloc (.cells #[.int .i64 7] 3)) 36 (keyC liveP)).alloc (.cells (tgV 1 (some ⟨w.heap.size, 0, none⟩) 1 1 none 0 0 (some ⟨w.heap.size + 1, 0, none⟩) 1 1) 28)
  have hrT := RowC.new ((w.alloc (.cells #[.int .i64 7] 3)).alloc (.cells (keyC liveP) 36)) 28 (tgV 1 (some ⟨w.heap.size, 0, none⟩) 1 1 none 0 0 (some ⟨w.heap.size + 1, 0, none⟩) 1 1)
  rw [hz2] at hrT
  rw [hz1] at hrK
  have hold := c_call (c_call hal0 hal1) hal2
  refine wp_gen (fun wx => Below w.heap.size w wx ∧ RowC wx (w.heap.size + 1 + 1) 28 (tgV 1 (some ⟨w.heap.size, 0, none⟩) 1 1 none 0 0 (some ⟨w.heap.size + 1, 0, none⟩) 1 1) ∧ TgR wx (w.heap.size + 1 + 1) (some ⟨w.heap.size, 0, none⟩) 1 1 none 0 0 [7] [] (some ⟨w.heap.size + 1, 0, none⟩) 1 1 liveP) ⟨hold, hrT, ⟨⟨rfl, rfl, by omega, by omega, by simp [maxLen], by simp [maxLen], hrI.more (by omega), [], Rd.zero _ _ _, Lvs.nil _ _⟩, ⟨⟨by rfl, fun _ => ⟨w.heap.size + 1, 0, rfl, by omega, fun q u hu => by
    rw [Nat.zero_add]
    exact hrK.cell (by simpa [keyC] using hu)⟩⟩, by omega, by simp [maxLen]⟩⟩⟩ ?_
  clear hal0 hal1 hal2 hz1 hz2 hrI hrK hrT hold
  obtain ⟨g, hg⟩ : ∃ g, g = w.heap.size := ⟨_, rfl⟩
  rw [← hg]
  have Hg := Lib.hid hg
  clear hg
  rintro w1 ⟨hb1, hr1, hT1⟩
  have hb1 : Below w.heap.size w w1 := by rw [← Hg.out]; exact hb1
  have hlt1 := hr1.lt
  have hss := hS 1 _ _ _ _ _ _ _ _ _ _ _ _ w1 (hT1.more (Nat.le_of_lt hlt1)) rfl (hT.below hb1)
  rw [live_ok] at hss
  go_wp2_with ((with_reducible show wpList _ _ _ (⟨some 12, _, _, _, _, _⟩ :: _) _ _); refine wpList_loadC (by kernel_rfl) 28 (.tmp 1) rfl (g + 1 + 1) rfl 28 (tgV 1 (some ⟨g, 0, none⟩) 1 1 none 0 0 (some ⟨g + 1, 0, none⟩) 1 1) _ hr1 Tryd.underlying28 rfl tgInfo2 ?_)
  refine hss.mono ?_
  rintro e w2 ⟨hb2, ⟨h, _⟩ | ⟨_, A, c, he, hown⟩⟩
  · cases h
  subst he
  have hb02 := hb1.trans (hb2.mono hb1.size)
  have hr2 := hr1.call hb2
  have hT2 := hT1.below (hb2.mono (Nat.le_of_lt hlt1))
  have hlt2 := hr2.lt
  have hus := hU 1 _ _ _ _ _ _ _ _ _ _ _ _ w2 (hT2.more (Nat.le_of_lt hlt2)) rfl (hT.below hb02)
  rw [show chkG 1 [7] [] 1 liveP = 0 by rw [chkG, live_ok]; rfl] at hus
  clear hss
  go_wp2_with ((with_reducible show wpList _ _ _ (⟨some 17, _, _, _, _, _⟩ :: _) _ _); refine wpList_loadC (by kernel_rfl) 28 (.tmp 1) rfl (g + 1 + 1) rfl 28 (tgV 1 (some ⟨g, 0, none⟩) 1 1 none 0 0 (some ⟨g + 1, 0, none⟩) 1 1) _ hr2 Tryd.underlying28 rfl tgInfo2 ?_)
  refine hus.mono ?_
  rintro e w3 ⟨he, hb3⟩
  subst he
  have hsg : sumG 1 [7] [] 1 liveP = keyI (sumsT 1 [7] [] liveP 1) 0 := by rw [sumG, live_ok]; rfl
  have hkr := (KyR.of_own hown).below hb3
  have hsl := sumsT_len live_ok
  obtain ⟨b, o, rfl, hbb, hrk⟩ := hkr.range (show 0 < 1 by omega)
  have hkl := keyI_len hsl (show 0 < 1 by omega)
  rw [hsg]
  generalize keyI (sumsT 1 [7] [] liveP 1) 0 = k at *
  have hb03 := hb02.trans (hb3.mono hb02.size)
  have hr3 := hr2.call hb3
  have hT3 := hT2.below (hb3.mono (Nat.le_of_lt hlt2))
  have hsa := sizeKey hkl
  have hone := one_keyF k
  have hput := (Ms.nil w3).put 36 (keyC zeroK) (keyC k)
  rw [keyC_zero] at hput
  clear hus hown hkr hsl hsg
  go_upto_region 4 with ((with_reducible show wpList _ _ _ (⟨none, Op.store 36 _ _, _, _, _, _⟩ :: _) _ _); refine wpList_store_row rfl 36 (.tmp 4) (.tmp 19) rfl w3.heap.size (keyC k) rfl rfl 36 _ (RowC.new _ _ _) hsa (by rw [keyC_size, hkl]; rfl) hone ?_)
  try simp only [Act.put]
  obtain ⟨gk, hgk⟩ : ∃ q, q = w3.heap.size := ⟨_, rfl⟩
  rw [← hgk] at hput ⊢
  refine wp_gen (fun wx => Ms w3 wx [(gk, 36, keyC k)]) hput ?_
  clear hput hgk hone
  rintro w4 hM4
  have hb04 := hb03.trans (hM4.old.mono hb03.size)
  have hr4 := hr3.call hM4.old
  have hT4 := hT3.below (hM4.old.mono (Nat.le_of_lt hr3.lt))
  have hrk4 := rangeW hrk (Nat.lt_of_lt_of_le hbb hb3.size) hM4.old
  rw [show o + 0 * 32 = o by omega] at hrk4
  have hbb4 : b < w4.heap.size := Nat.lt_of_lt_of_le (Nat.lt_of_lt_of_le hbb hb3.size) hM4.old.size
  have hkr4 := hM4.get 0 rfl
  have hq := fun wx : World => eql_keyK wx k k hkl hkl
  rw [beq_self_eq_true] at hq
  have hsk := sizeKeyL hkl
  have hkeep : ∀ wx : World, Below w4.heap.size w4 wx → (wx.rangeAt b o (keyC k).toList ∧ wx.rangeAt gk 0 (keyC k).toList) ∧ wx.rangeAt (g + 1 + 1) 0 (tgV 1 (some ⟨g, 0, none⟩) 1 1 none 0 0 (some ⟨g + 1, 0, none⟩) 1 1).toList := fun wx hbx => ⟨⟨rangeW hrk4 hbb4 hbx, (hkr4.call hbx).range⟩, (hr4.call hbx).range⟩
  have hcs := fun wx (hbx : Below w4.heap.size w4 wx) => hC 1 _ _ _ _ _ _ _ _ _ _ _ _ wx ((hT4.below (hbx.mono (Nat.le_of_lt hr4.lt))).more (Nat.le_trans (Nat.le_of_lt hr4.lt) hbx.size)) rfl
  rw [show chkG 1 [7] [] 1 liveP = 0 by rw [chkG, live_ok]; rfl] at hcs
  have hun := Tryd.underlying36
  have hunT := Tryd.underlying28
  have hiT : (Tryd.prog.info? 28).map (·.size) = some (tgV 1 (some ⟨g, 0, none⟩) 1 1 none 0 0 (some ⟨g + 1, 0, none⟩) 1 1).toList.length := by kernel_rfl
  clear hM4 hr3 hT3 hrk hr1 hT1 hr2 hT2 hb1 hb2 hb3 hb02 hb03 hlt1 hlt2
  refine beginT (fun wx : World => (wx.rangeAt b o (keyC k).toList ∧ wx.rangeAt gk 0 (keyC k).toList) ∧ wx.rangeAt (g + 1 + 1) 0 (tgV 1 (some ⟨g, 0, none⟩) 1 1 none 0 0 (some ⟨g + 1, 0, none⟩) 1 1).toList) 24 (by kernel_rfl) ?_
  have hS0 := hkeep _ (c_drew (c_refl _))
  refine takeD 0 (some 21) (.int .i64 0) rfl rfl (by kernel_rfl) (by kernel_rfl) (by kernel_rfl) (by kernel_rfl) (fun _ _ _ h => h) (Or.inl ⟨by kernel_rfl, fun wx hSw => by go_simp⟩) hS0 ?_
  try simp only [Act.put, List.setIfInBounds_toArray, List.set_cons_zero, List.set_cons_succ]
  refine takeD 1 (some 22) (.bool true) rfl rfl (by kernel_rfl) (by kernel_rfl) (by kernel_rfl) (by kernel_rfl) (fun _ _ _ h => h) (Or.inl ⟨by kernel_rfl, fun wx hSw => by go_simp⟩) hS0 ?_
  try simp only [Act.put, List.setIfInBounds_toArray, List.set_cons_zero, List.set_cons_succ]
  refine takeD 2 (some 23) (.bool true) rfl rfl (by kernel_rfl) (by kernel_rfl) (by kernel_rfl) (by kernel_rfl) (fun _ _ _ h => h) (Or.inl ⟨by kernel_rfl, fun wx hSw => by go_simp⟩) hS0 ?_
  try simp only [Act.put, List.setIfInBounds_toArray, List.set_cons_zero, List.set_cons_succ]
  refine takeD 3 (some 24) (.int .i64 0) rfl rfl (by kernel_rfl) (by kernel_rfl) (by kernel_rfl) (by kernel_rfl) (fun _ _ _ h => h) (Or.inl ⟨by kernel_rfl, fun wx hSw => by go_simp⟩) hS0 ?_
  try simp only [Act.put, List.setIfInBounds_toArray, List.set_cons_zero, List.set_cons_succ]
  refine takeD 4 (some 25) (.bool true) rfl rfl (by kernel_rfl) (by kernel_rfl) (by kernel_rfl) (by kernel_rfl) (fun _ _ _ h => h) (Or.inl ⟨by kernel_rfl, fun wx hSw => by go_simp⟩) hS0 ?_
  try simp only [Act.put, List.setIfInBounds_toArray, List.set_cons_zero, List.set_cons_succ]
  refine takeD 5 (some 26) (.bool true) rfl rfl (by kernel_rfl) (by kernel_rfl) (by kernel_rfl) (by kernel_rfl) (fun _ _ _ h => h) (Or.inl ⟨by kernel_rfl, fun wx hSw => by go_simp⟩) hS0 ?_
  try simp only [Act.put, List.setIfInBounds_toArray, List.set_cons_zero, List.set_cons_succ]
  refine takeD 6 (some 27) (.bool true) rfl rfl (by kernel_rfl) (by kernel_rfl) (by kernel_rfl) (by kernel_rfl) (fun _ _ _ h => h) (Or.inl ⟨by kernel_rfl, fun wx hSw => by go_simp⟩) hS0 ?_
  try simp only [Act.put, List.setIfInBounds_toArray, List.set_cons_zero, List.set_cons_succ]
  refine takeD 7 (some 28) (.slice (some ⟨b, o, none⟩) 1 c) rfl rfl (by kernel_rfl) (by kernel_rfl) (by kernel_rfl) (by kernel_rfl) (fun _ _ _ h => h) (Or.inl ⟨by kernel_rfl, fun wx hSw => by go_simp⟩) hS0 ?_
  try simp only [Act.put, List.setIfInBounds_toArray, List.set_cons_zero, List.set_cons_succ]
  refine takeD 8 (some 29) (.int .i64 1) rfl rfl (by kernel_rfl) (by kernel_rfl) (by kernel_rfl) (by kernel_rfl) (fun _ _ _ h => h) (Or.inl ⟨by kernel_rfl, fun wx hSw => by go_simp⟩) hS0 ?_
  try simp only [Act.put, List.setIfInBounds_toArray, List.set_cons_zero, List.set_cons_succ]
  refine takeD 9 (some 30) (.bool true) rfl rfl (by kernel_rfl) (by kernel_rfl) (by kernel_rfl) (by kernel_rfl) (fun _ _ _ h => h) (Or.inl ⟨by kernel_rfl, fun wx hSw => by go_simp⟩) hS0 ?_
  try simp only [Act.put, List.setIfInBounds_toArray, List.set_cons_zero, List.set_cons_succ]
  refine takeD 10 (some 31) (.bool true) rfl rfl (by kernel_rfl) (by kernel_rfl) (by kernel_rfl) (by kernel_rfl) (fun _ _ _ h => h) (Or.inl ⟨by kernel_rfl, fun wx hSw => by go_simp⟩) hS0 ?_
  try simp only [Act.put, List.setIfInBounds_toArray, List.set_cons_zero, List.set_cons_succ]
  refine takeD 11 (some 32) (.bool true) rfl rfl (by kernel_rfl) (by kernel_rfl) (by kernel_rfl) (by kernel_rfl) (fun _ _ _ h => h) (Or.inl ⟨by kernel_rfl, fun wx hSw => by go_simp⟩) hS0 ?_
  try simp only [Act.put, List.setIfInBounds_toArray, List.set_cons_zero, List.set_cons_succ]
  refine takeD 12 (some 33) (.slice (some ⟨b, o, none⟩) 1 c) rfl rfl (by kernel_rfl) (by kernel_rfl) (by kernel_rfl) (by kernel_rfl) (fun _ _ _ h => h) (Or.inl ⟨by kernel_rfl, fun wx hSw => by go_simp⟩) hS0 ?_
  try simp only [Act.put, List.setIfInBounds_toArray, List.set_cons_zero, List.set_cons_succ]
  refine takeD 13 (some 34) (.pointer (some ⟨b, o, none⟩)) rfl rfl (by kernel_rfl) (by kernel_rfl) (by kernel_rfl) (by kernel_rfl) (fun _ _ _ h => h) (Or.inl ⟨by kernel_rfl, fun wx hSw => by go_simp⟩) hS0 ?_
  try simp only [Act.put, List.setIfInBounds_toArray, List.set_cons_zero, List.set_cons_succ]
  refine loadT 14 (some 35) 36 (.tmp 34) b o (keyC k).toList rfl rfl (by kernel_rfl) (by kernel_rfl) (by kernel_rfl) (by kernel_rfl) rfl (by kernel_rfl) rfl (fun wx hSw => hSw.1.1) hun rfl hsk (fun _ _ _ h => h) hS0 ?_
  try simp only [Act.put, List.setIfInBounds_toArray, List.set_cons_zero, List.set_cons_succ, Array.toArray_toList]
  refine loadT 15 (some 36) 36 (.tmp 4) gk 0 (keyC k).toList rfl rfl (by kernel_rfl) (by kernel_rfl) (by kernel_rfl) (by kernel_rfl) rfl (by kernel_rfl) rfl (fun wx hSw => hSw.1.2) hun rfl hsk (fun _ _ _ h => h) hS0 ?_
  try simp only [Act.put, List.setIfInBounds_toArray, List.set_cons_zero, List.set_cons_succ, Array.toArray_toList]
  refine takeD 16 (some 37) (.bool true) rfl rfl (by kernel_rfl) (by kernel_rfl) (by kernel_rfl) (by kernel_rfl) (fun _ _ _ h => h) (Or.inl ⟨by kernel_rfl, fun wx hSw => by go_simp⟩) hS0 ?_
  try simp only [Act.put, List.setIfInBounds_toArray, List.set_cons_zero, List.set_cons_succ]
  refine takeD 17 (some 38) (.bool true) rfl rfl (by kernel_rfl) (by kernel_rfl) (by kernel_rfl) (by kernel_rfl) (fun _ _ _ h => h) (Or.inl ⟨by kernel_rfl, fun wx hSw => by go_simp⟩) hS0 ?_
  try simp only [Act.put, List.setIfInBounds_toArray, List.set_cons_zero, List.set_cons_succ]
  refine takeD 18 (some 39) (.bool true) rfl rfl (by kernel_rfl) (by kernel_rfl) (by kernel_rfl) (by kernel_rfl) (fun _ _ _ h => h) (Or.inl ⟨by kernel_rfl, fun wx hSw => by go_simp⟩) hS0 ?_
  try simp only [Act.put, List.setIfInBounds_toArray, List.set_cons_zero, List.set_cons_succ]
  refine loadT 19 (some 40) 28 (.tmp 1) (g + 1 + 1) 0 (tgV 1 (some ⟨g, 0, none⟩) 1 1 none 0 0 (some ⟨g + 1, 0, none⟩) 1 1).toList rfl rfl (by kernel_rfl) (by kernel_rfl) (by kernel_rfl) (by kernel_rfl) rfl (by kernel_rfl) rfl (fun wx hSw => hSw.2) hunT rfl hiT (fun _ _ _ h => h) hS0 ?_
  try simp only [Act.put, List.setIfInBounds_toArray, List.set_cons_zero, List.set_cons_succ, Array.toArray_toList]
  have hdr : Below w4.heap.size w4 w4.drew := c_drew (c_refl _)
  have hcd := hcs _ hdr
  generalize w4.drew = wd at *
  refine oneT 20 (by kernel_rfl) rfl (fun K2 hK2 => ?_)
  go_simp
  refine hcd.mono ?_
  rintro e w5 ⟨he, hb5⟩
  subst he
  have hS5 := hkeep _ (c_call hdr hb5)
  refine hK2.out _ _ (fun _ => hS5) ?_
  clear hK2 K2
  try simp only [Act.put, List.setIfInBounds_toArray, List.set_cons_zero, List.set_cons_succ, Array.toArray_toList]
  refine takeD 21 (some 42) (.bool true) rfl rfl (by kernel_rfl) (by kernel_rfl) (by kernel_rfl) (by kernel_rfl) (fun _ _ _ h => h) (Or.inl ⟨by kernel_rfl, fun wx hSw => by go_simp⟩) hS5 ?_
  try simp only [Act.put, List.setIfInBounds_toArray, List.set_cons_zero, List.set_cons_succ]
  refine takeD 22 (some 43) (.bool true) rfl rfl (by kernel_rfl) (by kernel_rfl) (by kernel_rfl) (by kernel_rfl) (fun _ _ _ h => h) (Or.inl ⟨by kernel_rfl, fun wx hSw => by go_simp⟩) hS5 ?_
  try simp only [Act.put, List.setIfInBounds_toArray, List.set_cons_zero, List.set_cons_succ]
  refine takeD 23 (some 0) (.bool true) rfl rfl (by kernel_rfl) (by kernel_rfl) (by kernel_rfl) (by kernel_rfl) (fun _ _ _ h => h) (Or.inl ⟨by kernel_rfl, fun wx hSw => by go_simp⟩) hS5 ?_
  try simp only [Act.put, List.setIfInBounds_toArray, List.set_cons_zero]
  refine doneT (by kernel_rfl) ?_ _
  have hfin := (hb04.trans (hdr.mono hb04.size)).trans (hb5.mono (Nat.le_trans hb04.size hdr.size))
  clear hkeep hcs hS5 hcd
  go_wp2_with fail
  go_ret
  exact ⟨rfl, hfin⟩

end Go.Proofs.YtlidhdljgnijaaaDoor

