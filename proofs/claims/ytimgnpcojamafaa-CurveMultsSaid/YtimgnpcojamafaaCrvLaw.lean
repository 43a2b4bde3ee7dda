/-
  THE WALKS of layer 6's laws (coterielaw06), the program's Clamp, Mult and Base told by what they answer (hypotheses here).
-/
import Derived.Test.YtimgnpcojamafaaRefCrvC
import Derived.Test.YtimgnpcojamafaaFeLive
import Derived.Test.YtimgnpcojamafaaCrvBits
set_option linter.unusedVariables false
namespace Go.Proofs.Ytimgnpcojamafaa
open Go.RowKit

def PM : Prop := ∀ (k l : List UInt8) (w : World), k.length = 32 → l.length = 32 → Calls Try.prog 11 #[.agg (keyC k), .agg (keyC l)] w fun e w' => e = .returned (.agg (keyC (mltK k l))) ∧ Below w.heap.size w w'
def PC : Prop := ∀ (k : List UInt8) (w : World), k.length = 32 → Calls Try.prog 9 #[.agg (keyC k)] w fun e w' => e = .returned (.agg (keyC (clampL k))) ∧ Below w.heap.size w w'
def PB : Prop := ∀ (k : List UInt8) (w : World), k.length = 32 → Calls Try.prog 13 #[.agg (keyC k)] w fun e w' => e = .returned (.agg (keyC (mltK k nineL))) ∧ Below w.heap.size w w'

theorem mlt_none (l : List UInt8) : mltN l 0 = 0 := by
  have h : Crv.fi (mltN l 0) = Crv.fi 0 := by
    rw [mlt_field P25_gt0, Crv.fi_zero]
    exact Crv.mul_zero Crv.fld25 _ _
  rw [Crv.fi_eq, Nat.mod_eq_of_lt (mltN_lt _ _), Nat.zero_mod] at h
  exact h
theorem clamp_lit : keyC (clampL (keyB 0)) = #[.int .u8 0, .int .u8 0, .int .u8 0, .int .u8 0, .int .u8 0, .int .u8 0, .int .u8 0, .int .u8 0, .int .u8 0, .int .u8 0, .int .u8 0, .int .u8 0, .int .u8 0, .int .u8 0, .int .u8 0, .int .u8 0, .int .u8 0, .int .u8 0, .int .u8 0, .int .u8 0, .int .u8 0, .int .u8 0, .int .u8 0, .int .u8 0, .int .u8 0, .int .u8 0, .int .u8 0, .int .u8 0, .int .u8 0, .int .u8 0, .int .u8 0, .int .u8 64] := by kernel_rfl
theorem pnt_zero : pntN (keyB 0) = 0 := pnt_key P25_gt0

set_option maxRecDepth 100000 in
set_option maxHeartbeats 1000000 in
theorem live06 (hC : PC) (hM : PM) (w : World) : Calls Try.prog 8 #[] w fun e w' => e = .returned (.bool true) ∧ Below w.heap.size w w' := by
  obtain ⟨kk, hkk⟩ : ∃ kk, kk = keyC (clampL (keyB 0)) := ⟨_, rfl⟩
  obtain ⟨kz, hkz⟩ : ∃ kz, kz = keyC (keyB 0) := ⟨_, rfl⟩
  have c1 : ∀ wx, Calls Try.prog 9 #[.agg #[.int .u8 0, .int .u8 0, .int .u8 0, .int .u8 0, .int .u8 0, .int .u8 0, .int .u8 0, .int .u8 0, .int .u8 0, .int .u8 0, .int .u8 0, .int .u8 0, .int .u8 0, .int .u8 0, .int .u8 0, .int .u8 0, .int .u8 0, .int .u8 0, .int .u8 0, .int .u8 0, .int .u8 0, .int .u8 0, .int .u8 0, .int .u8 0, .int .u8 0, .int .u8 0, .int .u8 0, .int .u8 0, .int .u8 0, .int .u8 0, .int .u8 0, .int .u8 0]] wx fun e w' => e = .returned (.agg kk) ∧ Below wx.heap.size wx w' := fun wx => by
    rw [hkk, ← keyZ]
    exact hC (keyB 0) wx (keyB_len 0)
  have c2 : ∀ wx, Calls Try.prog 11 #[.agg kk, .agg #[.int .u8 0, .int .u8 0, .int .u8 0, .int .u8 0, .int .u8 0, .int .u8 0, .int .u8 0, .int .u8 0, .int .u8 0, .int .u8 0, .int .u8 0, .int .u8 0, .int .u8 0, .int .u8 0, .int .u8 0, .int .u8 0, .int .u8 0, .int .u8 0, .int .u8 0, .int .u8 0, .int .u8 0, .int .u8 0, .int .u8 0, .int .u8 0, .int .u8 0, .int .u8 0, .int .u8 0, .int .u8 0, .int .u8 0, .int .u8 0, .int .u8 0, .int .u8 0]] wx fun e w' => e = .returned (.agg kz) ∧ Below wx.heap.size wx w' := fun wx => by
    have h := hM (clampL (keyB 0)) (keyB 0) wx (clampL_len (keyB_len 0)) (keyB_len 0)
    rw [show mltK (clampL (keyB 0)) (keyB 0) = keyB 0 by rw [mltK, pnt_zero, mlt_none]] at h
    rw [hkk, hkz, ← keyZ]
    exact h
  have q1 : ∀ wx : World, (Op.equalIn 10000 23 (.agg kk) (.agg #[.int .u8 0, .int .u8 0, .int .u8 0, .int .u8 0, .int .u8 0, .int .u8 0, .int .u8 0, .int .u8 0, .int .u8 0, .int .u8 0, .int .u8 0, .int .u8 0, .int .u8 0, .int .u8 0, .int .u8 0, .int .u8 0, .int .u8 0, .int .u8 0, .int .u8 0, .int .u8 0, .int .u8 0, .int .u8 0, .int .u8 0, .int .u8 0, .int .u8 0, .int .u8 0, .int .u8 0, .int .u8 0, .int .u8 0, .int .u8 0, .int .u8 0, .int .u8 64])).run Try.prog wx = .ok true wx := fun wx => by
    have h := eql_keyF wx (clampL (keyB 0)) (clampL (keyB 0)) (clampL_len (keyB_len 0)) (clampL_len (keyB_len 0))
    rw [beq_self_eq_true] at h
    rw [hkk, ← clamp_lit]
    exact h
  have q2 : ∀ wx : World, (Op.equalIn 10000 23 (.agg kz) (.agg #[.int .u8 0, .int .u8 0, .int .u8 0, .int .u8 0, .int .u8 0, .int .u8 0, .int .u8 0, .int .u8 0, .int .u8 0, .int .u8 0, .int .u8 0, .int .u8 0, .int .u8 0, .int .u8 0, .int .u8 0, .int .u8 0, .int .u8 0, .int .u8 0, .int .u8 0, .int .u8 0, .int .u8 0, .int .u8 0, .int .u8 0, .int .u8 0, .int .u8 0, .int .u8 0, .int .u8 0, .int .u8 0, .int .u8 0, .int .u8 0, .int .u8 0, .int .u8 0])).run Try.prog wx = .ok true wx := fun wx => by
    have h := eql_keyF wx (keyB 0) (keyB 0) (keyB_len 0) (keyB_len 0)
    rw [beq_self_eq_true] at h
    rw [hkz, ← keyZ]
    exact h
  have Hs := Lib.hid (sizeKey (clampL_len (keyB_len 0)))
  have Ho := Lib.hid (one_keyF (clampL (keyB 0)))
  have Hz := Lib.hid (show (#[.int .u8 0, .int .u8 0, .int .u8 0, .int .u8 0, .int .u8 0, .int .u8 0, .int .u8 0, .int .u8 0, .int .u8 0, .int .u8 0, .int .u8 0, .int .u8 0, .int .u8 0, .int .u8 0, .int .u8 0, .int .u8 0, .int .u8 0, .int .u8 0, .int .u8 0, .int .u8 0, .int .u8 0, .int .u8 0, .int .u8 0, .int .u8 0, .int .u8 0, .int .u8 0, .int .u8 0, .int .u8 0, .int .u8 0, .int .u8 0, .int .u8 0, .int .u8 0] : Array Value).size = (keyC (clampL (keyB 0))).size by rw [← keyZ, keyC_size, keyC_size, clampL_len (keyB_len 0), keyB_len])
  rw [← hkk] at Hs Ho Hz
  clear hC hM hkk hkz
  go_enter Try.func8, Try.ntmps8
  go_wp2_with fail
  refine (c1 _).mono ?_
  rintro e w1 ⟨rfl, hb1⟩
  have hM1 := (((Ms.nil w).call hb1).put 23 #[.int .u8 0, .int .u8 0, .int .u8 0, .int .u8 0, .int .u8 0, .int .u8 0, .int .u8 0, .int .u8 0, .int .u8 0, .int .u8 0, .int .u8 0, .int .u8 0, .int .u8 0, .int .u8 0, .int .u8 0, .int .u8 0, .int .u8 0, .int .u8 0, .int .u8 0, .int .u8 0, .int .u8 0, .int .u8 0, .int .u8 0, .int .u8 0, .int .u8 0, .int .u8 0, .int .u8 0, .int .u8 0, .int .u8 0, .int .u8 0, .int .u8 0, .int .u8 0] kk)
  go_wp2_with (first
    | ((with_reducible show wpList _ _ _ (⟨none, Op.store 23 _ _, _, _, _, _⟩ :: _) _ _); refine wpList_store_row rfl 23 (.tmp 1) (.tmp 3) rfl (w1.heap.size) kk rfl rfl 23 _ (RowC.new _ _ _) Hs.out Hz.out Ho.out ?_)
    | ((with_reducible show wpList _ _ _ (⟨some 4, _, _, _, _, _⟩ :: _) _ _); refine wpList_loadC (by kernel_rfl) 23 (.tmp 1) rfl (w1.heap.size) rfl 23 kk _ (hM1.get 0 rfl) Try.underlying23 rfl Hs.out ?_)
    | ((with_reducible show wpList _ _ _ (⟨some 8, _, _, _, _, _⟩ :: _) _ _); refine wpList_loadC (by kernel_rfl) 23 (.tmp 1) rfl (w1.heap.size) rfl 23 kk _ (hM1.get 0 rfl) Try.underlying23 rfl Hs.out ?_))
  refine (c2 _).mono ?_
  rintro e w2 ⟨rfl, hb2⟩
  go_wp2_with fail
  go_ret
  exact ⟨rfl, (hM1.call hb2).old⟩


set_option maxRecDepth 1000000 in
set_option maxHeartbeats 4000000 in
theorem walkH_CurveTurns (hC : PC) (hM : PM) (a b u : List UInt8) (w : World) (ha : a.length = 32) (hb : b.length = 32) (hu : u.length = 32) :
    Calls Try.prog 6 #[.agg (keyC a), .agg (keyC b), .agg (keyC u)] w fun e w' => e = .returned (.bool true) ∧ Below w.heap.size w w' := by
  have hM0 := (((Ms.nil w).box 23 (keyC a)).box 23 (keyC b)).box 23 (keyC u)
  simp only [World.size_alloc] at hM0
  have hl := fun wx => live06 hC hM wx
  have c1 := fun wx => hM b u wx hb hu
  have c2 := fun wx => hM a (mltK b u) wx ha (mltK_len _ _)
  have c3 := fun wx => hM a u wx ha hu
  have c4 := fun wx => hM b (mltK a u) wx hb (mltK_len _ _)
  have q1 := fun wx => eql_keyF wx (mltK a (mltK b u)) (mltK a (mltK b u)) (mltK_len _ _) (mltK_len _ _)
  have Hsa := Lib.hid (sizeKey ha)
  have Hsb := Lib.hid (sizeKey hb)
  have Hsu := Lib.hid (sizeKey hu)
  clear hC hM
  rw [← mltK_turns ha hb] at c4
  simp only [beq_self_eq_true] at q1
  generalize keyC (mltK a (mltK b u)) = kk at *
  generalize keyC (mltK b u) = kb at *
  generalize keyC (mltK a u) = ka at *
  obtain ⟨la, hla⟩ : ∃ l : List Value, l.toArray = keyC a := ⟨_, Array.toArray_toList⟩
  simp only [← hla] at *
  clear hla
  obtain ⟨lb, hlb⟩ : ∃ l : List Value, l.toArray = keyC b := ⟨_, Array.toArray_toList⟩
  simp only [← hlb] at *
  clear hlb
  obtain ⟨lu, hlu⟩ : ∃ l : List Value, l.toArray = keyC u := ⟨_, Array.toArray_toList⟩
  simp only [← hlu] at *
  clear hlu
  go_enter Try.func6, Try.ntmps6
  go_wp2_with fail
  refine (hl _).mono ?_
  rintro e w1 ⟨rfl, hb1⟩
  have hM1 := hM0.call hb1
  clear hM0 hb1 hl
  go_wp2_with fail
  have hkeep : ∀ wx : World, Below w1.heap.size w1 wx → wx.rangeAt (w.heap.size) 0 la ∧ wx.rangeAt (w.heap.size + 1) 0 lb ∧ wx.rangeAt (w.heap.size + 1 + 1) 0 lu := fun wx hb => ⟨((hM1.get 2 rfl).call hb).range, ((hM1.get 1 rfl).call hb).range, ((hM1.get 0 rfl).call hb).range⟩
  have hu := Try.underlying23
  have hia := Hsa.out
  have hib := Hsb.out
  have hiu := Hsu.out
  simp only [List.size_toArray] at hia hib hiu
  refine beginT (fun wx => wx.rangeAt (w.heap.size) 0 la ∧ wx.rangeAt (w.heap.size + 1) 0 lb ∧ wx.rangeAt (w.heap.size + 1 + 1) 0 lu) 14 (by kernel_rfl) ?_
  have hS := hkeep _ (c_drew (c_refl _))
  refine takeD 0 (some 11) (.bool true) rfl rfl (by kernel_rfl) (by kernel_rfl) (by kernel_rfl) (by kernel_rfl) (fun _ _ _ h => h) (Or.inl ⟨by kernel_rfl, fun wx hSw => by go_simp⟩) hS ?_
  simp only [Act.put, List.setIfInBounds_toArray, List.set_cons_zero, List.set_cons_succ]
  refine takeD 1 (some 12) (.bool true) rfl rfl (by kernel_rfl) (by kernel_rfl) (by kernel_rfl) (by kernel_rfl) (fun _ _ _ h => h) (Or.inl ⟨by kernel_rfl, fun wx hSw => by go_simp⟩) hS ?_
  simp only [Act.put, List.setIfInBounds_toArray, List.set_cons_zero, List.set_cons_succ]
  refine loadT 2 (some 13) 23 (.tmp 3) (w.heap.size) 0 la rfl rfl (by kernel_rfl) (by kernel_rfl) (by kernel_rfl) (by kernel_rfl) rfl (by kernel_rfl) rfl (fun wx hSw => hSw.1) hu rfl hia (fun _ _ _ h => h) hS ?_
  simp only [Act.put, List.setIfInBounds_toArray, List.set_cons_zero, List.set_cons_succ]
  refine loadT 3 (some 14) 23 (.tmp 4) (w.heap.size + 1) 0 lb rfl rfl (by kernel_rfl) (by kernel_rfl) (by kernel_rfl) (by kernel_rfl) rfl (by kernel_rfl) rfl (fun wx hSw => hSw.2.1) hu rfl hib (fun _ _ _ h => h) hS ?_
  simp only [Act.put, List.setIfInBounds_toArray, List.set_cons_zero, List.set_cons_succ]
  refine loadT 4 (some 15) 23 (.tmp 5) (w.heap.size + 1 + 1) 0 lu rfl rfl (by kernel_rfl) (by kernel_rfl) (by kernel_rfl) (by kernel_rfl) rfl (by kernel_rfl) rfl (fun wx hSw => hSw.2.2) hu rfl hiu (fun _ _ _ h => h) hS ?_
  simp only [Act.put, List.setIfInBounds_toArray, List.set_cons_zero, List.set_cons_succ]
  refine loadT 7 (some 18) 23 (.tmp 4) (w.heap.size + 1) 0 lb rfl rfl (by kernel_rfl) (by kernel_rfl) (by kernel_rfl) (by kernel_rfl) rfl (by kernel_rfl) rfl (fun wx hSw => hSw.2.1) hu rfl hib (fun _ _ _ h => h) hS ?_
  simp only [Act.put, List.setIfInBounds_toArray, List.set_cons_zero, List.set_cons_succ]
  refine loadT 8 (some 19) 23 (.tmp 3) (w.heap.size) 0 la rfl rfl (by kernel_rfl) (by kernel_rfl) (by kernel_rfl) (by kernel_rfl) rfl (by kernel_rfl) rfl (fun wx hSw => hSw.1) hu rfl hia (fun _ _ _ h => h) hS ?_
  simp only [Act.put, List.setIfInBounds_toArray, List.set_cons_zero, List.set_cons_succ]
  refine loadT 9 (some 20) 23 (.tmp 5) (w.heap.size + 1 + 1) 0 lu rfl rfl (by kernel_rfl) (by kernel_rfl) (by kernel_rfl) (by kernel_rfl) rfl (by kernel_rfl) rfl (fun wx hSw => hSw.2.2) hu rfl hiu (fun _ _ _ h => h) hS ?_
  simp only [Act.put, List.setIfInBounds_toArray, List.set_cons_zero, List.set_cons_succ]
  refine oneT 5 (by kernel_rfl) rfl (fun K hK => ?_)
  go_simp
  refine (c1 _).mono ?_
  rintro e x1 ⟨rfl, hx1⟩
  refine hK.out _ _ (fun _ => hkeep _ (by (repeat (first | exact c_refl _ | refine c_drew ?_ | refine c_alloc ?_ _ | refine c_row ?_ (by first | omega | exact Nat.le_refl _) _ | refine c_call ?_ (by assumption))); first | done | fail "open")) ?_
  clear hK K
  refine oneT 6 (by kernel_rfl) rfl (fun K hK => ?_)
  go_simp
  refine (c2 _).mono ?_
  rintro e x2 ⟨rfl, hx2⟩
  refine hK.out _ _ (fun _ => hkeep _ (by (repeat (first | exact c_refl _ | refine c_drew ?_ | refine c_alloc ?_ _ | refine c_row ?_ (by first | omega | exact Nat.le_refl _) _ | refine c_call ?_ (by assumption))); first | done | fail "open")) ?_
  clear hK K
  refine oneT 10 (by kernel_rfl) rfl (fun K hK => ?_)
  go_simp
  refine (c3 _).mono ?_
  rintro e x3 ⟨rfl, hx3⟩
  refine hK.out _ _ (fun _ => hkeep _ (by (repeat (first | exact c_refl _ | refine c_drew ?_ | refine c_alloc ?_ _ | refine c_row ?_ (by first | omega | exact Nat.le_refl _) _ | refine c_call ?_ (by assumption))); first | done | fail "open")) ?_
  clear hK K
  refine oneT 11 (by kernel_rfl) rfl (fun K hK => ?_)
  go_simp
  refine (c4 _).mono ?_
  rintro e x4 ⟨rfl, hx4⟩
  refine hK.out _ _ (fun _ => hkeep _ (by (repeat (first | exact c_refl _ | refine c_drew ?_ | refine c_alloc ?_ _ | refine c_row ?_ (by first | omega | exact Nat.le_refl _) _ | refine c_call ?_ (by assumption))); first | done | fail "open")) ?_
  clear hK K
  have hS4 := hkeep x4 (by (repeat (first | exact c_refl _ | refine c_drew ?_ | refine c_alloc ?_ _ | refine c_row ?_ (by first | omega | exact Nat.le_refl _) _ | refine c_call ?_ (by assumption))); first | done | fail "open")
  refine takeD 12 (some 23) (.bool true) rfl rfl (by kernel_rfl) (by kernel_rfl) (by kernel_rfl) (by kernel_rfl) (fun _ _ _ h => h) (Or.inl ⟨by kernel_rfl, fun wx hSw => by go_simp⟩) hS4 ?_
  simp only [Act.put, List.setIfInBounds_toArray, List.set_cons_zero, List.set_cons_succ]
  refine takeD 13 (some 24) (.bool true) rfl rfl (by kernel_rfl) (by kernel_rfl) (by kernel_rfl) (by kernel_rfl) (fun _ _ _ h => h) (Or.inl ⟨by kernel_rfl, fun wx hSw => by go_simp⟩) hS4 ?_
  simp only [Act.put, List.setIfInBounds_toArray, List.set_cons_zero, List.set_cons_succ]
  refine oneT 14 (by kernel_rfl) rfl (fun K hK => ?_)
  go_simp
  refine hK.out _ _ (fun h => absurd rfl h) ?_
  clear hK K
  refine doneT (by kernel_rfl) ?_ _
  have hE : Below w1.heap.size w1 x4 := (by (repeat (first | exact c_refl _ | refine c_drew ?_ | refine c_alloc ?_ _ | refine c_row ?_ (by first | omega | exact Nat.le_refl _) _ | refine c_call ?_ (by assumption))); first | done | fail "open")
  go_wp2_with fail
  go_ret
  exact ⟨rfl, (hM1.call hE).old⟩

set_option maxRecDepth 1000000 in
set_option maxHeartbeats 4000000 in
theorem walkH_CurveMeets (hC : PC) (hM : PM) (hB : PB) (a b : List UInt8) (w : World) (ha : a.length = 32) (hb : b.length = 32) :
    Calls Try.prog 5 #[.agg (keyC a), .agg (keyC b)] w fun e w' => e = .returned (.bool true) ∧ Below w.heap.size w w' := by
  have hM0 := ((Ms.nil w).box 23 (keyC a)).box 23 (keyC b)
  simp only [World.size_alloc] at hM0
  have hl := fun wx => live06 hC hM wx
  have c1 := fun wx => hB b wx hb
  have c2 := fun wx => hM a (mltK b nineL) wx ha (mltK_len _ _)
  have c3 := fun wx => hB a wx ha
  have c4 := fun wx => hM b (mltK a nineL) wx hb (mltK_len _ _)
  have q1 := fun wx => eql_keyF wx (mltK a (mltK b nineL)) (mltK a (mltK b nineL)) (mltK_len _ _) (mltK_len _ _)
  have Hsa := Lib.hid (sizeKey ha)
  have Hsb := Lib.hid (sizeKey hb)
  clear hC hM hB
  rw [← mltK_turns ha hb] at c4
  simp only [beq_self_eq_true] at q1
  generalize keyC (mltK a (mltK b nineL)) = kk at *
  generalize keyC (mltK b nineL) = kb at *
  generalize keyC (mltK a nineL) = ka at *
  obtain ⟨la, hla⟩ : ∃ l : List Value, l.toArray = keyC a := ⟨_, Array.toArray_toList⟩
  simp only [← hla] at *
  clear hla
  obtain ⟨lb, hlb⟩ : ∃ l : List Value, l.toArray = keyC b := ⟨_, Array.toArray_toList⟩
  simp only [← hlb] at *
  clear hlb
  go_enter Try.func5, Try.ntmps5
  go_wp2_with fail
  refine (hl _).mono ?_
  rintro e w1 ⟨rfl, hb1⟩
  have hM1 := hM0.call hb1
  clear hM0 hb1 hl
  go_wp2_with fail
  have hkeep : ∀ wx : World, Below w1.heap.size w1 wx → wx.rangeAt (w.heap.size) 0 la ∧ wx.rangeAt (w.heap.size + 1) 0 lb := fun wx hb => ⟨((hM1.get 1 rfl).call hb).range, ((hM1.get 0 rfl).call hb).range⟩
  have hu := Try.underlying23
  have hia := Hsa.out
  have hib := Hsb.out
  simp only [List.size_toArray] at hia hib
  refine beginT (fun wx => wx.rangeAt (w.heap.size) 0 la ∧ wx.rangeAt (w.heap.size + 1) 0 lb) 12 (by kernel_rfl) ?_
  have hS := hkeep _ (c_drew (c_refl _))
  refine takeD 0 (some 9) (.bool true) rfl rfl (by kernel_rfl) (by kernel_rfl) (by kernel_rfl) (by kernel_rfl) (fun _ _ _ h => h) (Or.inl ⟨by kernel_rfl, fun wx hSw => by go_simp⟩) hS ?_
  simp only [Act.put, List.setIfInBounds_toArray, List.set_cons_zero, List.set_cons_succ]
  refine takeD 1 (some 10) (.bool true) rfl rfl (by kernel_rfl) (by kernel_rfl) (by kernel_rfl) (by kernel_rfl) (fun _ _ _ h => h) (Or.inl ⟨by kernel_rfl, fun wx hSw => by go_simp⟩) hS ?_
  simp only [Act.put, List.setIfInBounds_toArray, List.set_cons_zero, List.set_cons_succ]
  refine loadT 2 (some 11) 23 (.tmp 2) (w.heap.size) 0 la rfl rfl (by kernel_rfl) (by kernel_rfl) (by kernel_rfl) (by kernel_rfl) rfl (by kernel_rfl) rfl (fun wx hSw => hSw.1) hu rfl hia (fun _ _ _ h => h) hS ?_
  simp only [Act.put, List.setIfInBounds_toArray, List.set_cons_zero, List.set_cons_succ]
  refine loadT 3 (some 12) 23 (.tmp 3) (w.heap.size + 1) 0 lb rfl rfl (by kernel_rfl) (by kernel_rfl) (by kernel_rfl) (by kernel_rfl) rfl (by kernel_rfl) rfl (fun wx hSw => hSw.2) hu rfl hib (fun _ _ _ h => h) hS ?_
  simp only [Act.put, List.setIfInBounds_toArray, List.set_cons_zero, List.set_cons_succ]
  refine loadT 6 (some 15) 23 (.tmp 3) (w.heap.size + 1) 0 lb rfl rfl (by kernel_rfl) (by kernel_rfl) (by kernel_rfl) (by kernel_rfl) rfl (by kernel_rfl) rfl (fun wx hSw => hSw.2) hu rfl hib (fun _ _ _ h => h) hS ?_
  simp only [Act.put, List.setIfInBounds_toArray, List.set_cons_zero, List.set_cons_succ]
  refine loadT 7 (some 16) 23 (.tmp 2) (w.heap.size) 0 la rfl rfl (by kernel_rfl) (by kernel_rfl) (by kernel_rfl) (by kernel_rfl) rfl (by kernel_rfl) rfl (fun wx hSw => hSw.1) hu rfl hia (fun _ _ _ h => h) hS ?_
  simp only [Act.put, List.setIfInBounds_toArray, List.set_cons_zero, List.set_cons_succ]
  refine oneT 4 (by kernel_rfl) rfl (fun K hK => ?_)
  go_simp
  refine (c1 _).mono ?_
  rintro e x1 ⟨rfl, hx1⟩
  refine hK.out _ _ (fun _ => hkeep _ (by (repeat (first | exact c_refl _ | refine c_drew ?_ | refine c_alloc ?_ _ | refine c_row ?_ (by first | omega | exact Nat.le_refl _) _ | refine c_call ?_ (by assumption))); first | done | fail "open")) ?_
  clear hK K
  refine oneT 5 (by kernel_rfl) rfl (fun K hK => ?_)
  go_simp
  refine (c2 _).mono ?_
  rintro e x2 ⟨rfl, hx2⟩
  refine hK.out _ _ (fun _ => hkeep _ (by (repeat (first | exact c_refl _ | refine c_drew ?_ | refine c_alloc ?_ _ | refine c_row ?_ (by first | omega | exact Nat.le_refl _) _ | refine c_call ?_ (by assumption))); first | done | fail "open")) ?_
  clear hK K
  refine oneT 8 (by kernel_rfl) rfl (fun K hK => ?_)
  go_simp
  refine (c3 _).mono ?_
  rintro e x3 ⟨rfl, hx3⟩
  refine hK.out _ _ (fun _ => hkeep _ (by (repeat (first | exact c_refl _ | refine c_drew ?_ | refine c_alloc ?_ _ | refine c_row ?_ (by first | omega | exact Nat.le_refl _) _ | refine c_call ?_ (by assumption))); first | done | fail "open")) ?_
  clear hK K
  refine oneT 9 (by kernel_rfl) rfl (fun K hK => ?_)
  go_simp
  refine (c4 _).mono ?_
  rintro e x4 ⟨rfl, hx4⟩
  refine hK.out _ _ (fun _ => hkeep _ (by (repeat (first | exact c_refl _ | refine c_drew ?_ | refine c_alloc ?_ _ | refine c_row ?_ (by first | omega | exact Nat.le_refl _) _ | refine c_call ?_ (by assumption))); first | done | fail "open")) ?_
  clear hK K
  have hS4 := hkeep x4 (by (repeat (first | exact c_refl _ | refine c_drew ?_ | refine c_alloc ?_ _ | refine c_row ?_ (by first | omega | exact Nat.le_refl _) _ | refine c_call ?_ (by assumption))); first | done | fail "open")
  refine takeD 10 (some 19) (.bool true) rfl rfl (by kernel_rfl) (by kernel_rfl) (by kernel_rfl) (by kernel_rfl) (fun _ _ _ h => h) (Or.inl ⟨by kernel_rfl, fun wx hSw => by go_simp⟩) hS4 ?_
  simp only [Act.put, List.setIfInBounds_toArray, List.set_cons_zero, List.set_cons_succ]
  refine takeD 11 (some 20) (.bool true) rfl rfl (by kernel_rfl) (by kernel_rfl) (by kernel_rfl) (by kernel_rfl) (fun _ _ _ h => h) (Or.inl ⟨by kernel_rfl, fun wx hSw => by go_simp⟩) hS4 ?_
  simp only [Act.put, List.setIfInBounds_toArray, List.set_cons_zero, List.set_cons_succ]
  refine oneT 12 (by kernel_rfl) rfl (fun K hK => ?_)
  go_simp
  refine hK.out _ _ (fun h => absurd rfl h) ?_
  clear hK K
  refine doneT (by kernel_rfl) ?_ _
  have hE : Below w1.heap.size w1 x4 := (by (repeat (first | exact c_refl _ | refine c_drew ?_ | refine c_alloc ?_ _ | refine c_row ?_ (by first | omega | exact Nat.le_refl _) _ | refine c_call ?_ (by assumption))); first | done | fail "open")
  go_wp2_with fail
  go_ret
  exact ⟨rfl, (hM1.call hE).old⟩

set_option maxRecDepth 1000000 in
set_option maxHeartbeats 4000000 in
theorem walkH_CurveMults (hC : PC) (hM : PM) (k u : List UInt8) (w : World) (hk : k.length = 32) (hu : u.length = 32) :
    Calls Try.prog 3 #[.agg (keyC k), .agg (keyC u)] w fun e w' => e = .returned (.bool true) ∧ Below w.heap.size w w' := by
  have hM0 := ((Ms.nil w).box 23 (keyC k)).box 23 (keyC u)
  simp only [World.size_alloc] at hM0
  have hl := fun wx => live06 hC hM wx
  have c1 := fun wx => hC k wx hk
  have c2 := fun wx => RClamp_any k wx hk
  have c3 := fun wx => hM k u wx hk hu
  have c4 := fun wx => RMult_k k u wx hk hu
  have q1 := fun wx => eql_keyF wx (mltK k u) (mltK k u) (mltK_len _ _) (mltK_len _ _)
  have q2 := fun wx => eql_keyF wx (clampL k) (clampL k) (clampL_len hk) (clampL_len hk)
  have Hsk := Lib.hid (sizeKey hk)
  have Hsu := Lib.hid (sizeKey hu)
  clear hC hM
  simp only [beq_self_eq_true] at q1 q2
  generalize keyC (mltK k u) = kk at *
  generalize keyC (clampL k) = kc at *
  obtain ⟨lk, hlk⟩ : ∃ l : List Value, l.toArray = keyC k := ⟨_, Array.toArray_toList⟩
  simp only [← hlk] at *
  clear hlk
  obtain ⟨lu, hlu⟩ : ∃ l : List Value, l.toArray = keyC u := ⟨_, Array.toArray_toList⟩
  simp only [← hlu] at *
  clear hlu
  go_enter Try.func3, Try.ntmps3
  go_wp2_with fail
  refine (hl _).mono ?_
  rintro e w1 ⟨rfl, hb1⟩
  have hM1 := hM0.call hb1
  clear hM0 hb1 hl
  go_wp2_with fail
  have hkeep : ∀ wx : World, Below w1.heap.size w1 wx → wx.rangeAt (w.heap.size) 0 lk ∧ wx.rangeAt (w.heap.size + 1) 0 lu := fun wx hb => ⟨((hM1.get 1 rfl).call hb).range, ((hM1.get 0 rfl).call hb).range⟩
  have hu := Try.underlying23
  have hik := Hsk.out
  have hiu := Hsu.out
  simp only [List.size_toArray] at hik hiu
  refine beginT (fun wx => wx.rangeAt (w.heap.size) 0 lk ∧ wx.rangeAt (w.heap.size + 1) 0 lu) 17 (by kernel_rfl) ?_
  have hS := hkeep _ (c_drew (c_refl _))
  refine takeD 0 (some 9) (.bool true) rfl rfl (by kernel_rfl) (by kernel_rfl) (by kernel_rfl) (by kernel_rfl) (fun _ _ _ h => h) (Or.inl ⟨by kernel_rfl, fun wx hSw => by go_simp⟩) hS ?_
  simp only [Act.put, List.setIfInBounds_toArray, List.set_cons_zero, List.set_cons_succ]
  refine takeD 1 (some 10) (.bool true) rfl rfl (by kernel_rfl) (by kernel_rfl) (by kernel_rfl) (by kernel_rfl) (fun _ _ _ h => h) (Or.inl ⟨by kernel_rfl, fun wx hSw => by go_simp⟩) hS ?_
  simp only [Act.put, List.setIfInBounds_toArray, List.set_cons_zero, List.set_cons_succ]
  refine loadT 2 (some 11) 23 (.tmp 2) (w.heap.size) 0 lk rfl rfl (by kernel_rfl) (by kernel_rfl) (by kernel_rfl) (by kernel_rfl) rfl (by kernel_rfl) rfl (fun wx hSw => hSw.1) hu rfl hik (fun _ _ _ h => h) hS ?_
  simp only [Act.put, List.setIfInBounds_toArray, List.set_cons_zero, List.set_cons_succ]
  refine loadT 4 (some 13) 23 (.tmp 2) (w.heap.size) 0 lk rfl rfl (by kernel_rfl) (by kernel_rfl) (by kernel_rfl) (by kernel_rfl) rfl (by kernel_rfl) rfl (fun wx hSw => hSw.1) hu rfl hik (fun _ _ _ h => h) hS ?_
  simp only [Act.put, List.setIfInBounds_toArray, List.set_cons_zero, List.set_cons_succ]
  refine oneT 3 (by kernel_rfl) rfl (fun K hK => ?_)
  go_simp
  refine (c1 _).mono ?_
  rintro e x1 ⟨rfl, hx1⟩
  refine hK.out _ _ (fun _ => hkeep _ (by (repeat (first | exact c_refl _ | refine c_drew ?_ | refine c_alloc ?_ _ | refine c_row ?_ (by first | omega | exact Nat.le_refl _) _ | refine c_call ?_ (by assumption))); first | done | fail "open")) ?_
  clear hK K
  refine oneT 5 (by kernel_rfl) rfl (fun K hK => ?_)
  go_simp
  refine (c2 _).mono ?_
  rintro e x2 ⟨rfl, hx2⟩
  refine hK.out _ _ (fun _ => hkeep _ (by (repeat (first | exact c_refl _ | refine c_drew ?_ | refine c_alloc ?_ _ | refine c_row ?_ (by first | omega | exact Nat.le_refl _) _ | refine c_call ?_ (by assumption))); first | done | fail "open")) ?_
  clear hK K
  have hS2 := hkeep x2 (by (repeat (first | exact c_refl _ | refine c_drew ?_ | refine c_alloc ?_ _ | refine c_row ?_ (by first | omega | exact Nat.le_refl _) _ | refine c_call ?_ (by assumption))); first | done | fail "open")
  refine takeD 6 (some 15) (.bool true) rfl rfl (by kernel_rfl) (by kernel_rfl) (by kernel_rfl) (by kernel_rfl) (fun _ _ _ h => h) (Or.inl ⟨by kernel_rfl, fun wx hSw => by go_simp⟩) hS2 ?_
  simp only [Act.put, List.setIfInBounds_toArray, List.set_cons_zero, List.set_cons_succ]
  refine takeD 7 (some 16) (.bool true) rfl rfl (by kernel_rfl) (by kernel_rfl) (by kernel_rfl) (by kernel_rfl) (fun _ _ _ h => h) (Or.inl ⟨by kernel_rfl, fun wx hSw => by go_simp⟩) hS2 ?_
  simp only [Act.put, List.setIfInBounds_toArray, List.set_cons_zero, List.set_cons_succ]
  refine takeD 8 (some 17) (.bool true) rfl rfl (by kernel_rfl) (by kernel_rfl) (by kernel_rfl) (by kernel_rfl) (fun _ _ _ h => h) (Or.inl ⟨by kernel_rfl, fun wx hSw => by go_simp⟩) hS2 ?_
  simp only [Act.put, List.setIfInBounds_toArray, List.set_cons_zero, List.set_cons_succ]
  refine loadT 9 (some 18) 23 (.tmp 2) (w.heap.size) 0 lk rfl rfl (by kernel_rfl) (by kernel_rfl) (by kernel_rfl) (by kernel_rfl) rfl (by kernel_rfl) rfl (fun wx hSw => hSw.1) hu rfl hik (fun _ _ _ h => h) hS2 ?_
  simp only [Act.put, List.setIfInBounds_toArray, List.set_cons_zero, List.set_cons_succ]
  refine loadT 10 (some 19) 23 (.tmp 3) (w.heap.size + 1) 0 lu rfl rfl (by kernel_rfl) (by kernel_rfl) (by kernel_rfl) (by kernel_rfl) rfl (by kernel_rfl) rfl (fun wx hSw => hSw.2) hu rfl hiu (fun _ _ _ h => h) hS2 ?_
  simp only [Act.put, List.setIfInBounds_toArray, List.set_cons_zero, List.set_cons_succ]
  refine loadT 12 (some 21) 23 (.tmp 2) (w.heap.size) 0 lk rfl rfl (by kernel_rfl) (by kernel_rfl) (by kernel_rfl) (by kernel_rfl) rfl (by kernel_rfl) rfl (fun wx hSw => hSw.1) hu rfl hik (fun _ _ _ h => h) hS2 ?_
  simp only [Act.put, List.setIfInBounds_toArray, List.set_cons_zero, List.set_cons_succ]
  refine loadT 13 (some 22) 23 (.tmp 3) (w.heap.size + 1) 0 lu rfl rfl (by kernel_rfl) (by kernel_rfl) (by kernel_rfl) (by kernel_rfl) rfl (by kernel_rfl) rfl (fun wx hSw => hSw.2) hu rfl hiu (fun _ _ _ h => h) hS2 ?_
  simp only [Act.put, List.setIfInBounds_toArray, List.set_cons_zero, List.set_cons_succ]
  refine oneT 11 (by kernel_rfl) rfl (fun K hK => ?_)
  go_simp
  refine (c3 _).mono ?_
  rintro e x3 ⟨rfl, hx3⟩
  refine hK.out _ _ (fun _ => hkeep _ (by (repeat (first | exact c_refl _ | refine c_drew ?_ | refine c_alloc ?_ _ | refine c_row ?_ (by first | omega | exact Nat.le_refl _) _ | refine c_call ?_ (by assumption))); first | done | fail "open")) ?_
  clear hK K
  refine oneT 14 (by kernel_rfl) rfl (fun K hK => ?_)
  go_simp
  refine (c4 _).mono ?_
  rintro e x4 ⟨rfl, hx4⟩
  refine hK.out _ _ (fun _ => hkeep _ (by (repeat (first | exact c_refl _ | refine c_drew ?_ | refine c_alloc ?_ _ | refine c_row ?_ (by first | omega | exact Nat.le_refl _) _ | refine c_call ?_ (by assumption))); first | done | fail "open")) ?_
  clear hK K
  have hS4 := hkeep x4 (by (repeat (first | exact c_refl _ | refine c_drew ?_ | refine c_alloc ?_ _ | refine c_row ?_ (by first | omega | exact Nat.le_refl _) _ | refine c_call ?_ (by assumption))); first | done | fail "open")
  refine takeD 15 (some 24) (.bool true) rfl rfl (by kernel_rfl) (by kernel_rfl) (by kernel_rfl) (by kernel_rfl) (fun _ _ _ h => h) (Or.inl ⟨by kernel_rfl, fun wx hSw => by go_simp⟩) hS4 ?_
  simp only [Act.put, List.setIfInBounds_toArray, List.set_cons_zero, List.set_cons_succ]
  refine takeD 16 (some 25) (.bool true) rfl rfl (by kernel_rfl) (by kernel_rfl) (by kernel_rfl) (by kernel_rfl) (fun _ _ _ h => h) (Or.inl ⟨by kernel_rfl, fun wx hSw => by go_simp⟩) hS4 ?_
  simp only [Act.put, List.setIfInBounds_toArray, List.set_cons_zero, List.set_cons_succ]
  refine oneT 17 (by kernel_rfl) rfl (fun K hK => ?_)
  go_simp
  refine hK.out _ _ (fun h => absurd rfl h) ?_
  clear hK K
  refine doneT (by kernel_rfl) ?_ _
  have hE : Below w1.heap.size w1 x4 := (by (repeat (first | exact c_refl _ | refine c_drew ?_ | refine c_alloc ?_ _ | refine c_row ?_ (by first | omega | exact Nat.le_refl _) _ | refine c_call ?_ (by assumption))); first | done | fail "open")
  go_wp2_with fail
  go_ret
  exact ⟨rfl, (hM1.call hE).old⟩

set_option maxRecDepth 1000000 in
set_option maxHeartbeats 4000000 in
theorem walkH_CurveBase (hC : PC) (hM : PM) (hB : PB) (k : List UInt8) (w : World) (hk : k.length = 32) :
    Calls Try.prog 4 #[.agg (keyC k)] w fun e w' => e = .returned (.bool true) ∧ Below w.heap.size w w' := by
  have hM0 := (Ms.nil w).box 23 (keyC k)
  have hl := fun wx => live06 hC hM wx
  have c1 := fun wx => hB k wx hk
  have c2 := fun wx => RBase_any k wx hk
  have c3 := fun wx => hM k nineL wx hk rfl
  have q1 := fun wx => eql_keyF wx (mltK k nineL) (mltK k nineL) (mltK_len _ _) (mltK_len _ _)
  have Hsk := Lib.hid (sizeKey hk)
  clear hC hM hB
  rw [nine_lit] at c3
  simp only [beq_self_eq_true] at q1
  generalize keyC (mltK k nineL) = kk at *
  obtain ⟨lk, hlk⟩ : ∃ l : List Value, l.toArray = keyC k := ⟨_, Array.toArray_toList⟩
  simp only [← hlk] at *
  clear hlk
  go_enter Try.func4, Try.ntmps4
  go_wp2_with fail
  refine (hl _).mono ?_
  rintro e w1 ⟨rfl, hb1⟩
  have hM1 := hM0.call hb1
  clear hM0 hb1 hl
  go_wp2_with fail
  have hkeep : ∀ wx : World, Below w1.heap.size w1 wx → wx.rangeAt (w.heap.size) 0 lk := fun wx hb => ((hM1.get 0 rfl).call hb).range
  have hu := Try.underlying23
  have hik := Hsk.out
  simp only [List.size_toArray] at hik
  refine beginT (fun wx => wx.rangeAt (w.heap.size) 0 lk) 16 (by kernel_rfl) ?_
  have hS := hkeep _ (c_drew (c_refl _))
  refine takeD 0 (some 7) (.bool true) rfl rfl (by kernel_rfl) (by kernel_rfl) (by kernel_rfl) (by kernel_rfl) (fun _ _ _ h => h) (Or.inl ⟨by kernel_rfl, fun wx hSw => by go_simp⟩) hS ?_
  simp only [Act.put, List.setIfInBounds_toArray, List.set_cons_zero, List.set_cons_succ]
  refine takeD 1 (some 8) (.bool true) rfl rfl (by kernel_rfl) (by kernel_rfl) (by kernel_rfl) (by kernel_rfl) (fun _ _ _ h => h) (Or.inl ⟨by kernel_rfl, fun wx hSw => by go_simp⟩) hS ?_
  simp only [Act.put, List.setIfInBounds_toArray, List.set_cons_zero, List.set_cons_succ]
  refine loadT 2 (some 9) 23 (.tmp 1) (w.heap.size) 0 lk rfl rfl (by kernel_rfl) (by kernel_rfl) (by kernel_rfl) (by kernel_rfl) rfl (by kernel_rfl) rfl (fun wx hSw => hSw) hu rfl hik (fun _ _ _ h => h) hS ?_
  simp only [Act.put, List.setIfInBounds_toArray, List.set_cons_zero, List.set_cons_succ]
  refine loadT 4 (some 11) 23 (.tmp 1) (w.heap.size) 0 lk rfl rfl (by kernel_rfl) (by kernel_rfl) (by kernel_rfl) (by kernel_rfl) rfl (by kernel_rfl) rfl (fun wx hSw => hSw) hu rfl hik (fun _ _ _ h => h) hS ?_
  simp only [Act.put, List.setIfInBounds_toArray, List.set_cons_zero, List.set_cons_succ]
  refine oneT 3 (by kernel_rfl) rfl (fun K hK => ?_)
  go_simp
  refine (c1 _).mono ?_
  rintro e x1 ⟨rfl, hx1⟩
  refine hK.out _ _ (fun _ => hkeep _ (by (repeat (first | exact c_refl _ | refine c_drew ?_ | refine c_alloc ?_ _ | refine c_row ?_ (by first | omega | exact Nat.le_refl _) _ | refine c_call ?_ (by assumption))); first | done | fail "open")) ?_
  clear hK K
  refine oneT 5 (by kernel_rfl) rfl (fun K hK => ?_)
  go_simp
  refine (c2 _).mono ?_
  rintro e x2 ⟨rfl, hx2⟩
  refine hK.out _ _ (fun _ => hkeep _ (by (repeat (first | exact c_refl _ | refine c_drew ?_ | refine c_alloc ?_ _ | refine c_row ?_ (by first | omega | exact Nat.le_refl _) _ | refine c_call ?_ (by assumption))); first | done | fail "open")) ?_
  clear hK K
  have hS2 := hkeep x2 (by (repeat (first | exact c_refl _ | refine c_drew ?_ | refine c_alloc ?_ _ | refine c_row ?_ (by first | omega | exact Nat.le_refl _) _ | refine c_call ?_ (by assumption))); first | done | fail "open")
  refine takeD 6 (some 13) (.bool true) rfl rfl (by kernel_rfl) (by kernel_rfl) (by kernel_rfl) (by kernel_rfl) (fun _ _ _ h => h) (Or.inl ⟨by kernel_rfl, fun wx hSw => by go_simp⟩) hS2 ?_
  simp only [Act.put, List.setIfInBounds_toArray, List.set_cons_zero, List.set_cons_succ]
  refine takeD 7 (some 14) (.bool true) rfl rfl (by kernel_rfl) (by kernel_rfl) (by kernel_rfl) (by kernel_rfl) (fun _ _ _ h => h) (Or.inl ⟨by kernel_rfl, fun wx hSw => by go_simp⟩) hS2 ?_
  simp only [Act.put, List.setIfInBounds_toArray, List.set_cons_zero, List.set_cons_succ]
  refine takeD 8 (some 15) (.bool true) rfl rfl (by kernel_rfl) (by kernel_rfl) (by kernel_rfl) (by kernel_rfl) (fun _ _ _ h => h) (Or.inl ⟨by kernel_rfl, fun wx hSw => by go_simp⟩) hS2 ?_
  simp only [Act.put, List.setIfInBounds_toArray, List.set_cons_zero, List.set_cons_succ]
  refine loadT 9 (some 16) 23 (.tmp 1) (w.heap.size) 0 lk rfl rfl (by kernel_rfl) (by kernel_rfl) (by kernel_rfl) (by kernel_rfl) rfl (by kernel_rfl) rfl (fun wx hSw => hSw) hu rfl hik (fun _ _ _ h => h) hS2 ?_
  simp only [Act.put, List.setIfInBounds_toArray, List.set_cons_zero, List.set_cons_succ]
  refine loadT 11 (some 18) 23 (.tmp 1) (w.heap.size) 0 lk rfl rfl (by kernel_rfl) (by kernel_rfl) (by kernel_rfl) (by kernel_rfl) rfl (by kernel_rfl) rfl (fun wx hSw => hSw) hu rfl hik (fun _ _ _ h => h) hS2 ?_
  simp only [Act.put, List.setIfInBounds_toArray, List.set_cons_zero, List.set_cons_succ]
  refine takeD 12 (some 19) (.agg #[.int .u8 9, .int .u8 0, .int .u8 0, .int .u8 0, .int .u8 0, .int .u8 0, .int .u8 0, .int .u8 0, .int .u8 0, .int .u8 0, .int .u8 0, .int .u8 0, .int .u8 0, .int .u8 0, .int .u8 0, .int .u8 0, .int .u8 0, .int .u8 0, .int .u8 0, .int .u8 0, .int .u8 0, .int .u8 0, .int .u8 0, .int .u8 0, .int .u8 0, .int .u8 0, .int .u8 0, .int .u8 0, .int .u8 0, .int .u8 0, .int .u8 0, .int .u8 0]) rfl rfl (by kernel_rfl) (by kernel_rfl) (by kernel_rfl) (by kernel_rfl) (fun _ _ _ h => h) (Or.inl ⟨by kernel_rfl, fun wx hSw => by go_simp⟩) hS2 ?_
  simp only [Act.put, List.setIfInBounds_toArray, List.set_cons_zero, List.set_cons_succ]
  refine oneT 10 (by kernel_rfl) rfl (fun K hK => ?_)
  go_simp
  refine (c1 _).mono ?_
  rintro e x3 ⟨rfl, hx3⟩
  refine hK.out _ _ (fun _ => hkeep _ (by (repeat (first | exact c_refl _ | refine c_drew ?_ | refine c_alloc ?_ _ | refine c_row ?_ (by first | omega | exact Nat.le_refl _) _ | refine c_call ?_ (by assumption))); first | done | fail "open")) ?_
  clear hK K
  refine oneT 13 (by kernel_rfl) rfl (fun K hK => ?_)
  go_simp
  refine (c3 _).mono ?_
  rintro e x4 ⟨rfl, hx4⟩
  refine hK.out _ _ (fun _ => hkeep _ (by (repeat (first | exact c_refl _ | refine c_drew ?_ | refine c_alloc ?_ _ | refine c_row ?_ (by first | omega | exact Nat.le_refl _) _ | refine c_call ?_ (by assumption))); first | done | fail "open")) ?_
  clear hK K
  have hS4 := hkeep x4 (by (repeat (first | exact c_refl _ | refine c_drew ?_ | refine c_alloc ?_ _ | refine c_row ?_ (by first | omega | exact Nat.le_refl _) _ | refine c_call ?_ (by assumption))); first | done | fail "open")
  refine takeD 14 (some 21) (.bool true) rfl rfl (by kernel_rfl) (by kernel_rfl) (by kernel_rfl) (by kernel_rfl) (fun _ _ _ h => h) (Or.inl ⟨by kernel_rfl, fun wx hSw => by go_simp⟩) hS4 ?_
  simp only [Act.put, List.setIfInBounds_toArray, List.set_cons_zero, List.set_cons_succ]
  refine takeD 15 (some 22) (.bool true) rfl rfl (by kernel_rfl) (by kernel_rfl) (by kernel_rfl) (by kernel_rfl) (fun _ _ _ h => h) (Or.inl ⟨by kernel_rfl, fun wx hSw => by go_simp⟩) hS4 ?_
  simp only [Act.put, List.setIfInBounds_toArray, List.set_cons_zero, List.set_cons_succ]
  refine oneT 16 (by kernel_rfl) rfl (fun K hK => ?_)
  go_simp
  refine hK.out _ _ (fun h => absurd rfl h) ?_
  clear hK K
  refine doneT (by kernel_rfl) ?_ _
  have hE : Below w1.heap.size w1 x4 := (by (repeat (first | exact c_refl _ | refine c_drew ?_ | refine c_alloc ?_ _ | refine c_row ?_ (by first | omega | exact Nat.le_refl _) _ | refine c_call ?_ (by assumption))); first | done | fail "open")
  go_wp2_with fail
  go_ret
  exact ⟨rfl, (hM1.call hE).old⟩

set_option maxRecDepth 1000000 in
set_option maxHeartbeats 8000000 in
theorem walkH_CurveBits (hC : PC) (hM : PM) (k u : List UInt8) (w : World) (hk : k.length = 32) (hu : u.length = 32) :
    Calls Try.prog 7 #[.agg (keyC k), .agg (keyC u)] w fun e w' => e = .returned (.bool true) ∧ Below w.heap.size w w' := by
  have hM0 := ((Ms.nil w).box 23 (keyC k)).box 23 (keyC u)
  simp only [World.size_alloc] at hM0
  have hl := fun wx => live06 hC hM wx
  have c1 := fun wx => hC k wx hk
  have c2 := fun wx => hC (clampL k) wx (clampL_len hk)
  rw [clamp_twice hk] at c2
  have m1 := fun wx => hM k u wx hk hu
  have m2 := fun wx => hM (clampL k) u wx (clampL_len hk) hu
  rw [mltK_clamp hk] at m2
  have m3 := fun wx => hM k (topL u) wx hk (topL_len hu)
  rw [mltK_top hu] at m3
  have m4 := fun wx => hM k (onceL u) wx hk (keyB_len _)
  rw [mltK_once] at m4
  have f1 := fun wx => Of_any u wx hu
  have f2 := fun wx => Of_any (mltK k u) wx (mltK_len _ _)
  have b1 := fun wx => Bytes_ok (ofU u) wx (ofU_may u)
  have b2 := fun wx => Bytes_ok (ofU (mltK k u)) wx (ofU_may _)
  rw [show keyB (valF (ofU u) % P25) = onceL u from rfl] at b1
  rw [show keyB (valF (ofU (mltK k u)) % P25) = onceL (mltK k u) from rfl, once_mlt] at b2
  have q1 := fun wx => eql_keyF wx (clampL k) (clampL k) (clampL_len hk) (clampL_len hk)
  have q2 := fun wx => eql_keyF wx (mltK k u) (mltK k u) (mltK_len _ _) (mltK_len _ _)
  simp only [beq_self_eq_true] at q1 q2
  have Hsk := Lib.hid (sizeKey hk)
  have Hsu := Lib.hid (sizeKey hu)
  have Hsc := Lib.hid (sizeKey (clampL_len hk))
  have Hsp := Lib.hid (sizeKey (mltK_len k u))
  have Hsv := Lib.hid (sizeKey (topL_len hu))
  have Hso := Lib.hid (sizeKey (keyB_len (valF (ofU u) % P25)))
  rw [show keyB (valF (ofU u) % P25) = onceL u from rfl] at Hso
  have Hoc := Lib.hid (one_keyF (clampL k))
  have Hou := Lib.hid (one_keyF u)
  have Hop := Lib.hid (one_keyF (mltK k u))
  have Hoo := Lib.hid (one_keyF (onceL u))
  have Hzc := Lib.hid (show (#[.int .u8 0, .int .u8 0, .int .u8 0, .int .u8 0, .int .u8 0, .int .u8 0, .int .u8 0, .int .u8 0, .int .u8 0, .int .u8 0, .int .u8 0, .int .u8 0, .int .u8 0, .int .u8 0, .int .u8 0, .int .u8 0, .int .u8 0, .int .u8 0, .int .u8 0, .int .u8 0, .int .u8 0, .int .u8 0, .int .u8 0, .int .u8 0, .int .u8 0, .int .u8 0, .int .u8 0, .int .u8 0, .int .u8 0, .int .u8 0, .int .u8 0, .int .u8 0] : Array Value).size = (keyC (clampL k)).size by rw [← keyZ, keyC_size, keyC_size, clampL_len hk, keyB_len])
  have Hzu := Lib.hid (show (#[.int .u8 0, .int .u8 0, .int .u8 0, .int .u8 0, .int .u8 0, .int .u8 0, .int .u8 0, .int .u8 0, .int .u8 0, .int .u8 0, .int .u8 0, .int .u8 0, .int .u8 0, .int .u8 0, .int .u8 0, .int .u8 0, .int .u8 0, .int .u8 0, .int .u8 0, .int .u8 0, .int .u8 0, .int .u8 0, .int .u8 0, .int .u8 0, .int .u8 0, .int .u8 0, .int .u8 0, .int .u8 0, .int .u8 0, .int .u8 0, .int .u8 0, .int .u8 0] : Array Value).size = (keyC u).size by rw [← keyZ, keyC_size, keyC_size, hu, keyB_len])
  have Hzp := Lib.hid (show (#[.int .u8 0, .int .u8 0, .int .u8 0, .int .u8 0, .int .u8 0, .int .u8 0, .int .u8 0, .int .u8 0, .int .u8 0, .int .u8 0, .int .u8 0, .int .u8 0, .int .u8 0, .int .u8 0, .int .u8 0, .int .u8 0, .int .u8 0, .int .u8 0, .int .u8 0, .int .u8 0, .int .u8 0, .int .u8 0, .int .u8 0, .int .u8 0, .int .u8 0, .int .u8 0, .int .u8 0, .int .u8 0, .int .u8 0, .int .u8 0, .int .u8 0, .int .u8 0] : Array Value).size = (keyC (mltK k u)).size by rw [← keyZ, keyC_size, keyC_size, mltK_len, keyB_len])
  have Hzo := Lib.hid (show (#[.int .u8 0, .int .u8 0, .int .u8 0, .int .u8 0, .int .u8 0, .int .u8 0, .int .u8 0, .int .u8 0, .int .u8 0, .int .u8 0, .int .u8 0, .int .u8 0, .int .u8 0, .int .u8 0, .int .u8 0, .int .u8 0, .int .u8 0, .int .u8 0, .int .u8 0, .int .u8 0, .int .u8 0, .int .u8 0, .int .u8 0, .int .u8 0, .int .u8 0, .int .u8 0, .int .u8 0, .int .u8 0, .int .u8 0, .int .u8 0, .int .u8 0, .int .u8 0] : Array Value).size = (keyC (onceL u)).size by rw [← keyZ, keyC_size, keyC_size, onceL, keyB_len, keyB_len])
  have Hc0 := Lib.hid (show (keyC (clampL k))[0]? = some (.int .u8 ((byteK (clampL k) 0).toNat : Int)) from keyC_at (byteK_at (by rw [clampL_len hk]; omega)))
  have Hc31 := Lib.hid (show (keyC (clampL k))[31]? = some (.int .u8 ((byteK (clampL k) 31).toNat : Int)) from keyC_at (byteK_at (by rw [clampL_len hk]; omega)))
  have Hu31 := Lib.hid (show (keyC u)[31]? = some (.int .u8 ((byteK u 31).toNat : Int)) from keyC_at (byteK_at (by rw [hu]; omega)))
  have Htop := Lib.hid (show (keyC u).setIfInBounds 31 (.int .u8 ((byteK u 31 ^^^ 128).toNat : Int)) = keyC (topL u) by rw [keyC_set, topL])
  have hx128 := b_xor (byteK u 31) 128
  rw [show (((128 : UInt8).toNat : Nat) : Int) = 128 from rfl] at hx128
  have l0 := clamp_low hk
  have l1 := clamp_high hk
  have y0b : (byteK (clampL k) 31).toNat < 256 := (byteK (clampL k) 31).toBitVec.isLt
  have r0 : ((byteK (clampL k) 0).toNat : Int) % 8 = 0 := by omega
  have r0' : Int.tmod ((byteK (clampL k) 0).toNat : Int) 8 = 0 := by rw [Int.tmod_eq_emod_of_nonneg (by omega)]; exact r0
  have r2 : IntKind.u8.wrap 1 = 1 := by rw [IntKind.wrap_u8]; rfl
  have r1 : ((byteK (clampL k) 31).toNat : Int) / 64 = 1 := by omega
  have r1' : Int.tdiv ((byteK (clampL k) 31).toNat : Int) 64 = 1 := by rw [Int.tdiv_eq_ediv_of_nonneg (by omega)]; exact r1
  clear hC hM hk hu l0 l1 y0b
  generalize (byteK (clampL k) 0).toNat = y0 at *
  generalize (byteK (clampL k) 31).toNat = y1 at *
  generalize (byteK u 31 ^^^ 128).toNat = z1 at *
  generalize (byteK u 31).toNat = z0 at *
  generalize feC (ofU u) = fu at *
  generalize feC (ofU (mltK k u)) = fp at *
  generalize keyC (topL u) = cv at *
  generalize keyC (mltK k u) = cp at *
  generalize keyC (onceL u) = co at *
  generalize keyC (clampL k) = cc at *
  generalize keyC k = ck at *
  generalize keyC u = cu at *
  obtain ⟨lv, rfl⟩ : ∃ l : List Value, l.toArray = cv := ⟨_, Array.toArray_toList⟩
  obtain ⟨lp, rfl⟩ : ∃ l : List Value, l.toArray = cp := ⟨_, Array.toArray_toList⟩
  obtain ⟨lo, rfl⟩ : ∃ l : List Value, l.toArray = co := ⟨_, Array.toArray_toList⟩
  obtain ⟨lc, rfl⟩ : ∃ l : List Value, l.toArray = cc := ⟨_, Array.toArray_toList⟩
  obtain ⟨lk, rfl⟩ : ∃ l : List Value, l.toArray = ck := ⟨_, Array.toArray_toList⟩
  obtain ⟨lu, rfl⟩ : ∃ l : List Value, l.toArray = cu := ⟨_, Array.toArray_toList⟩
  go_enter Try.func7, Try.ntmps7
  go_wp2_with fail
  refine (hl _).mono ?_
  rintro e w1 ⟨rfl, hb1⟩
  have hM1 := hM0.call hb1
  clear hM0 hb1 hl
  go_wp2_with ((with_reducible show wpList _ _ _ (⟨some 16, _, _, _, _, _⟩ :: _) _ _); refine wpList_loadC (by kernel_rfl) 23 (.tmp 2) rfl (w.heap.size) rfl 23 lk.toArray _ (hM1.get 1 rfl) Try.underlying23 rfl Hsk.out ?_)
  refine (c1 _).mono ?_
  rintro e w2 ⟨rfl, hb2⟩
  have hM2 := hM1.call hb2
  clear hM1 hb2
  have hP2 := hM2.put 23 #[.int .u8 0, .int .u8 0, .int .u8 0, .int .u8 0, .int .u8 0, .int .u8 0, .int .u8 0, .int .u8 0, .int .u8 0, .int .u8 0, .int .u8 0, .int .u8 0, .int .u8 0, .int .u8 0, .int .u8 0, .int .u8 0, .int .u8 0, .int .u8 0, .int .u8 0, .int .u8 0, .int .u8 0, .int .u8 0, .int .u8 0, .int .u8 0, .int .u8 0, .int .u8 0, .int .u8 0, .int .u8 0, .int .u8 0, .int .u8 0, .int .u8 0, .int .u8 0] lc.toArray
  go_upto_region 5 with ((with_reducible show wpList _ _ _ (⟨none, Op.store 23 _ _, _, _, _, _⟩ :: _) _ _); refine wpList_store_row rfl 23 (.tmp 6) (.tmp 17) rfl (w2.heap.size) lc.toArray rfl rfl 23 _ (RowC.new _ _ _) Hsc.out Hzc.out Hoc.out ?_)
  refine wp_gen (fun wx => Ms w wx [(w2.heap.size, 23, lc.toArray), (w.heap.size + 1, 23, lu.toArray), (w.heap.size, 23, lk.toArray)]) hP2 ?_
  clear hP2
  rintro v2 hMv2
  generalize w2.heap.size = gC at *
  have hP3 := hMv2.put 23 #[.int .u8 0, .int .u8 0, .int .u8 0, .int .u8 0, .int .u8 0, .int .u8 0, .int .u8 0, .int .u8 0, .int .u8 0, .int .u8 0, .int .u8 0, .int .u8 0, .int .u8 0, .int .u8 0, .int .u8 0, .int .u8 0, .int .u8 0, .int .u8 0, .int .u8 0, .int .u8 0, .int .u8 0, .int .u8 0, .int .u8 0, .int .u8 0, .int .u8 0, .int .u8 0, .int .u8 0, .int .u8 0, .int .u8 0, .int .u8 0, .int .u8 0, .int .u8 0] lu.toArray
  go_upto_region 6 with (first
    | ((with_reducible show wpList _ _ _ (⟨some 18, _, _, _, _, _⟩ :: _) _ _); refine wpList_loadC (by kernel_rfl) 23 (.tmp 3) rfl (w.heap.size + 1) rfl 23 lu.toArray _ (hMv2.get 1 rfl) Try.underlying23 rfl Hsu.out ?_)
    | ((with_reducible show wpList _ _ _ (⟨none, Op.store 23 _ _, _, _, _, _⟩ :: _) _ _); refine wpList_store_row rfl 23 (.tmp 7) (.tmp 18) rfl (v2.heap.size) lu.toArray rfl rfl 23 _ (RowC.new _ _ _) Hsu.out Hzu.out Hou.out ?_))
  have hgv := hMv2.old.size
  have hnv := fun p hp => Nat.ne_of_lt ((hMv2.rows p hp).lt)
  refine wp_gen (fun wx => Ms w wx [(v2.heap.size, 23, lu.toArray), (gC, 23, lc.toArray), (w.heap.size + 1, 23, lu.toArray), (w.heap.size, 23, lk.toArray)]) hP3 ?_
  clear hP3
  rintro v3 hMv3
  generalize v2.heap.size = gV at *
  have hcv := (hMv3.get 0 rfl).cell Hu31.out
  have hfv := (hMv3.get 0 rfl).frozen 31
  have hM3 := hMv3.setCell hgv hnv 31 (.int .u8 (z1 : Int))
  rw [Htop.out] at hM3
  go_upto_region 7 with (fail)
  clear hcv hfv hgv hnv hMv3
  refine wp_gen (fun wx => Ms w wx [(gV, 23, lv.toArray), (gC, 23, lc.toArray), (w.heap.size + 1, 23, lu.toArray), (w.heap.size, 23, lk.toArray)]) hM3 ?_
  clear hM3
  rintro v4 hMv4
  go_wp2_with ((with_reducible show wpList _ _ _ (⟨some 24, _, _, _, _, _⟩ :: _) _ _); refine wpList_loadC (by kernel_rfl) 23 (.tmp 3) rfl (w.heap.size + 1) rfl 23 lu.toArray _ (hMv4.get 2 rfl) Try.underlying23 rfl Hsu.out ?_)
  refine (f1 _).mono ?_
  rintro e w5 ⟨rfl, hb5⟩
  have hM5 := hMv4.call hb5
  clear hMv4 hb5
  go_wp2_with fail
  refine (b1 _).mono ?_
  rintro e w6 ⟨rfl, hb6⟩
  have hM6 := hM5.call hb6
  clear hM5 hb6
  have hP6 := hM6.put 23 #[.int .u8 0, .int .u8 0, .int .u8 0, .int .u8 0, .int .u8 0, .int .u8 0, .int .u8 0, .int .u8 0, .int .u8 0, .int .u8 0, .int .u8 0, .int .u8 0, .int .u8 0, .int .u8 0, .int .u8 0, .int .u8 0, .int .u8 0, .int .u8 0, .int .u8 0, .int .u8 0, .int .u8 0, .int .u8 0, .int .u8 0, .int .u8 0, .int .u8 0, .int .u8 0, .int .u8 0, .int .u8 0, .int .u8 0, .int .u8 0, .int .u8 0, .int .u8 0] lo.toArray
  go_wp2_with (first
    | ((with_reducible show wpList _ _ _ (⟨none, Op.store 23 _ _, _, _, _, _⟩ :: _) _ _); refine wpList_store_row rfl 23 (.tmp 8) (.tmp 27) rfl (w6.heap.size) lo.toArray rfl rfl 23 _ (RowC.new _ _ _) Hso.out Hzo.out Hoo.out ?_)
    | ((with_reducible show wpList _ _ _ (⟨some 29, _, _, _, _, _⟩ :: _) _ _); refine wpList_loadC (by kernel_rfl) 23 (.tmp 2) rfl (w.heap.size) rfl 23 lk.toArray _ (hP6.get 4 rfl) Try.underlying23 rfl Hsk.out ?_)
    | ((with_reducible show wpList _ _ _ (⟨some 30, _, _, _, _, _⟩ :: _) _ _); refine wpList_loadC (by kernel_rfl) 23 (.tmp 3) rfl (w.heap.size + 1) rfl 23 lu.toArray _ (hP6.get 3 rfl) Try.underlying23 rfl Hsu.out ?_))
  refine (m1 _).mono ?_
  rintro e w7 ⟨rfl, hb7⟩
  have hM7 := hP6.call hb7
  clear hP6 hb7
  have hP7 := hM7.put 23 #[.int .u8 0, .int .u8 0, .int .u8 0, .int .u8 0, .int .u8 0, .int .u8 0, .int .u8 0, .int .u8 0, .int .u8 0, .int .u8 0, .int .u8 0, .int .u8 0, .int .u8 0, .int .u8 0, .int .u8 0, .int .u8 0, .int .u8 0, .int .u8 0, .int .u8 0, .int .u8 0, .int .u8 0, .int .u8 0, .int .u8 0, .int .u8 0, .int .u8 0, .int .u8 0, .int .u8 0, .int .u8 0, .int .u8 0, .int .u8 0, .int .u8 0, .int .u8 0] lp.toArray
  go_wp2_with (first
    | ((with_reducible show wpList _ _ _ (⟨none, Op.store 23 _ _, _, _, _, _⟩ :: _) _ _); refine wpList_store_row rfl 23 (.tmp 10) (.tmp 31) rfl (w7.heap.size) lp.toArray rfl rfl 23 _ (RowC.new _ _ _) Hsp.out Hzp.out Hop.out ?_)
    | ((with_reducible show wpList _ _ _ (⟨some 33, _, _, _, _, _⟩ :: _) _ _); refine wpList_loadC (by kernel_rfl) 23 (.tmp 10) rfl (w7.heap.size) rfl 23 lp.toArray _ (hP7.get 0 rfl) Try.underlying23 rfl Hsp.out ?_))
  refine (f2 _).mono ?_
  rintro e w8 ⟨rfl, hb8⟩
  have hM8 := hP7.call hb8
  clear hP7 hb8
  go_wp2_with fail
  refine (b2 _).mono ?_
  rintro e w9 ⟨rfl, hb9⟩
  have hM9 := hM8.call hb9
  clear hM8 hb9
  have hP9 := hM9.put 23 #[.int .u8 0, .int .u8 0, .int .u8 0, .int .u8 0, .int .u8 0, .int .u8 0, .int .u8 0, .int .u8 0, .int .u8 0, .int .u8 0, .int .u8 0, .int .u8 0, .int .u8 0, .int .u8 0, .int .u8 0, .int .u8 0, .int .u8 0, .int .u8 0, .int .u8 0, .int .u8 0, .int .u8 0, .int .u8 0, .int .u8 0, .int .u8 0, .int .u8 0, .int .u8 0, .int .u8 0, .int .u8 0, .int .u8 0, .int .u8 0, .int .u8 0, .int .u8 0] lp.toArray
  go_upto_region 10 with ((with_reducible show wpList _ _ _ (⟨none, Op.store 23 _ _, _, _, _, _⟩ :: _) _ _); refine wpList_store_row rfl 23 (.tmp 11) (.tmp 36) rfl (w9.heap.size) lp.toArray rfl rfl 23 _ (RowC.new _ _ _) Hsp.out Hzp.out Hop.out ?_)
  refine wp_gen (fun wx => Ms w wx [(w9.heap.size, 23, lp.toArray), (w7.heap.size, 23, lp.toArray), (w6.heap.size, 23, lo.toArray), (gV, 23, lv.toArray), (gC, 23, lc.toArray), (w.heap.size + 1, 23, lu.toArray), (w.heap.size, 23, lk.toArray)]) hP9 ?_
  clear hP9
  rintro v9 hMv9
  generalize w9.heap.size = gB at *
  generalize w7.heap.size = gP at *
  generalize w6.heap.size = gO at *
  have hkeep : ∀ wx : World, Below v9.heap.size v9 wx → wx.rangeAt (gB) 0 lp ∧ wx.rangeAt (gP) 0 lp ∧ wx.rangeAt (gO) 0 lo ∧ wx.rangeAt (gV) 0 lv ∧ wx.rangeAt (gC) 0 lc ∧ wx.rangeAt (w.heap.size + 1) 0 lu ∧ wx.rangeAt (w.heap.size) 0 lk ∧ wx.cell? ⟨gC, 0, none⟩ = some (.int .u8 (y0 : Int)) ∧ wx.cell? ⟨gC, 31, none⟩ = some (.int .u8 (y1 : Int)) := fun wx hb => ⟨((hMv9.get 0 rfl).call hb).range, ((hMv9.get 1 rfl).call hb).range, ((hMv9.get 2 rfl).call hb).range, ((hMv9.get 3 rfl).call hb).range, ((hMv9.get 4 rfl).call hb).range, ((hMv9.get 5 rfl).call hb).range, ((hMv9.get 6 rfl).call hb).range, ((hMv9.get 4 rfl).call hb).cell Hc0.out, ((hMv9.get 4 rfl).call hb).cell Hc31.out⟩
  have hu := Try.underlying23
  have hik := Hsk.out
  have hiu := Hsu.out
  have hic := Hsc.out
  have hip := Hsp.out
  have hiv := Hsv.out
  have hio := Hso.out
  simp only [List.size_toArray] at hik hiu hic hip hiv hio
  refine beginT (fun wx => wx.rangeAt (gB) 0 lp ∧ wx.rangeAt (gP) 0 lp ∧ wx.rangeAt (gO) 0 lo ∧ wx.rangeAt (gV) 0 lv ∧ wx.rangeAt (gC) 0 lc ∧ wx.rangeAt (w.heap.size + 1) 0 lu ∧ wx.rangeAt (w.heap.size) 0 lk ∧ wx.cell? ⟨gC, 0, none⟩ = some (.int .u8 (y0 : Int)) ∧ wx.cell? ⟨gC, 31, none⟩ = some (.int .u8 (y1 : Int))) 53 (by kernel_rfl) ?_
  have hS := hkeep _ (c_drew (c_refl _))
  refine takeD 0 (some 38) (.bool true) rfl rfl (by kernel_rfl) (by kernel_rfl) (by kernel_rfl) (by kernel_rfl) (fun _ _ _ h => h) (Or.inl ⟨by kernel_rfl, fun wx hSw => by go_simp⟩) hS ?_
  simp only [Act.put, List.setIfInBounds_toArray, List.set_cons_zero, List.set_cons_succ]
  refine takeD 1 (some 39) (.bool true) rfl rfl (by kernel_rfl) (by kernel_rfl) (by kernel_rfl) (by kernel_rfl) (fun _ _ _ h => h) (Or.inl ⟨by kernel_rfl, fun wx hSw => by go_simp⟩) hS ?_
  simp only [Act.put, List.setIfInBounds_toArray, List.set_cons_zero, List.set_cons_succ]
  refine loadT 2 (some 40) 23 (.tmp 6) (gC) 0 lc rfl rfl (by kernel_rfl) (by kernel_rfl) (by kernel_rfl) (by kernel_rfl) rfl (by kernel_rfl) rfl (fun wx hSw => hSw.2.2.2.2.1) hu rfl hic (fun _ _ _ h => h) hS ?_
  simp only [Act.put, List.setIfInBounds_toArray, List.set_cons_zero, List.set_cons_succ]
  refine loadT 4 (some 42) 23 (.tmp 6) (gC) 0 lc rfl rfl (by kernel_rfl) (by kernel_rfl) (by kernel_rfl) (by kernel_rfl) rfl (by kernel_rfl) rfl (fun wx hSw => hSw.2.2.2.2.1) hu rfl hic (fun _ _ _ h => h) hS ?_
  simp only [Act.put, List.setIfInBounds_toArray, List.set_cons_zero, List.set_cons_succ]
  refine oneT 3 (by kernel_rfl) rfl (fun K hK => ?_)
  go_simp
  refine (c2 _).mono ?_
  rintro e x1 ⟨rfl, hx1⟩
  refine hK.out _ _ (fun _ => hkeep _ (by (repeat (first | exact c_refl _ | refine c_drew ?_ | refine c_alloc ?_ _ | refine c_row ?_ (by first | omega | exact Nat.le_refl _) _ | refine c_call ?_ (by assumption))); first | done | fail "open")) ?_
  clear hK K
  have hS1 := hkeep x1 (by (repeat (first | exact c_refl _ | refine c_drew ?_ | refine c_alloc ?_ _ | refine c_row ?_ (by first | omega | exact Nat.le_refl _) _ | refine c_call ?_ (by assumption))); first | done | fail "open")
  refine takeD 5 (some 43) (.bool true) rfl rfl (by kernel_rfl) (by kernel_rfl) (by kernel_rfl) (by kernel_rfl) (fun _ _ _ h => h) (Or.inl ⟨by kernel_rfl, fun wx hSw => by go_simp⟩) hS1 ?_
  simp only [Act.put, List.setIfInBounds_toArray, List.set_cons_zero, List.set_cons_succ]
  refine takeD 6 (some 44) (.bool true) rfl rfl (by kernel_rfl) (by kernel_rfl) (by kernel_rfl) (by kernel_rfl) (fun _ _ _ h => h) (Or.inl ⟨by kernel_rfl, fun wx hSw => by go_simp⟩) hS1 ?_
  simp only [Act.put, List.setIfInBounds_toArray, List.set_cons_zero, List.set_cons_succ]
  refine takeD 7 (some 45) (.bool true) rfl rfl (by kernel_rfl) (by kernel_rfl) (by kernel_rfl) (by kernel_rfl) (fun _ _ _ h => h) (Or.inl ⟨by kernel_rfl, fun wx hSw => by go_simp⟩) hS1 ?_
  simp only [Act.put, List.setIfInBounds_toArray, List.set_cons_zero, List.set_cons_succ]
  refine takeD 8 (some 46) (.pointer (some ⟨gC, 0, none⟩)) rfl rfl (by kernel_rfl) (by kernel_rfl) (by kernel_rfl) (by kernel_rfl) (fun _ _ _ h => h) (Or.inl ⟨by kernel_rfl, fun wx hSw => by go_simp⟩) hS1 ?_
  simp only [Act.put, List.setIfInBounds_toArray, List.set_cons_zero, List.set_cons_succ]
  refine takeD 9 (some 47) (.int .u8 (y0 : Int)) rfl rfl (by kernel_rfl) (by kernel_rfl) (by kernel_rfl) (by kernel_rfl) (fun _ _ _ h => h) (Or.inl ⟨by kernel_rfl, fun wx hSw => by have h := hSw.2.2.2.2.2.2.2.1; go_simp⟩) hS1 ?_
  simp only [Act.put, List.setIfInBounds_toArray, List.set_cons_zero, List.set_cons_succ]
  refine takeD 10 (some 48) (.int .u8 0) rfl rfl (by kernel_rfl) (by kernel_rfl) (by kernel_rfl) (by kernel_rfl) (fun _ _ _ h => h) (Or.inl ⟨by kernel_rfl, fun wx hSw => by go_simp⟩) hS1 ?_
  simp only [Act.put, List.setIfInBounds_toArray, List.set_cons_zero, List.set_cons_succ]
  refine takeD 11 (some 49) (.bool true) rfl rfl (by kernel_rfl) (by kernel_rfl) (by kernel_rfl) (by kernel_rfl) (fun _ _ _ h => h) (Or.inl ⟨by kernel_rfl, fun wx hSw => by go_simp⟩) hS1 ?_
  simp only [Act.put, List.setIfInBounds_toArray, List.set_cons_zero, List.set_cons_succ]
  refine takeD 12 (some 50) (.bool true) rfl rfl (by kernel_rfl) (by kernel_rfl) (by kernel_rfl) (by kernel_rfl) (fun _ _ _ h => h) (Or.inl ⟨by kernel_rfl, fun wx hSw => by go_simp⟩) hS1 ?_
  simp only [Act.put, List.setIfInBounds_toArray, List.set_cons_zero, List.set_cons_succ]
  refine takeD 13 (some 51) (.bool true) rfl rfl (by kernel_rfl) (by kernel_rfl) (by kernel_rfl) (by kernel_rfl) (fun _ _ _ h => h) (Or.inl ⟨by kernel_rfl, fun wx hSw => by go_simp⟩) hS1 ?_
  simp only [Act.put, List.setIfInBounds_toArray, List.set_cons_zero, List.set_cons_succ]
  refine takeD 14 (some 52) (.pointer (some ⟨gC, 31, none⟩)) rfl rfl (by kernel_rfl) (by kernel_rfl) (by kernel_rfl) (by kernel_rfl) (fun _ _ _ h => h) (Or.inl ⟨by kernel_rfl, fun wx hSw => by go_simp⟩) hS1 ?_
  simp only [Act.put, List.setIfInBounds_toArray, List.set_cons_zero, List.set_cons_succ]
  refine takeD 15 (some 53) (.int .u8 (y1 : Int)) rfl rfl (by kernel_rfl) (by kernel_rfl) (by kernel_rfl) (by kernel_rfl) (fun _ _ _ h => h) (Or.inl ⟨by kernel_rfl, fun wx hSw => by have h := hSw.2.2.2.2.2.2.2.2; go_simp⟩) hS1 ?_
  simp only [Act.put, List.setIfInBounds_toArray, List.set_cons_zero, List.set_cons_succ]
  refine takeD 16 (some 54) (.int .u8 1) rfl rfl (by kernel_rfl) (by kernel_rfl) (by kernel_rfl) (by kernel_rfl) (fun _ _ _ h => h) (Or.inl ⟨by kernel_rfl, fun wx hSw => by go_simp⟩) hS1 ?_
  simp only [Act.put, List.setIfInBounds_toArray, List.set_cons_zero, List.set_cons_succ]
  refine takeD 17 (some 55) (.bool true) rfl rfl (by kernel_rfl) (by kernel_rfl) (by kernel_rfl) (by kernel_rfl) (fun _ _ _ h => h) (Or.inl ⟨by kernel_rfl, fun wx hSw => by go_simp⟩) hS1 ?_
  simp only [Act.put, List.setIfInBounds_toArray, List.set_cons_zero, List.set_cons_succ]
  refine takeD 18 (some 56) (.bool true) rfl rfl (by kernel_rfl) (by kernel_rfl) (by kernel_rfl) (by kernel_rfl) (fun _ _ _ h => h) (Or.inl ⟨by kernel_rfl, fun wx hSw => by go_simp⟩) hS1 ?_
  simp only [Act.put, List.setIfInBounds_toArray, List.set_cons_zero, List.set_cons_succ]
  refine takeD 19 (some 57) (.bool true) rfl rfl (by kernel_rfl) (by kernel_rfl) (by kernel_rfl) (by kernel_rfl) (fun _ _ _ h => h) (Or.inl ⟨by kernel_rfl, fun wx hSw => by go_simp⟩) hS1 ?_
  simp only [Act.put, List.setIfInBounds_toArray, List.set_cons_zero, List.set_cons_succ]
  refine loadT 20 (some 58) 23 (.tmp 10) (gP) 0 lp rfl rfl (by kernel_rfl) (by kernel_rfl) (by kernel_rfl) (by kernel_rfl) rfl (by kernel_rfl) rfl (fun wx hSw => hSw.2.1) hu rfl hip (fun _ _ _ h => h) hS1 ?_
  simp only [Act.put, List.setIfInBounds_toArray, List.set_cons_zero, List.set_cons_succ]
  refine loadT 21 (some 59) 23 (.tmp 6) (gC) 0 lc rfl rfl (by kernel_rfl) (by kernel_rfl) (by kernel_rfl) (by kernel_rfl) rfl (by kernel_rfl) rfl (fun wx hSw => hSw.2.2.2.2.1) hu rfl hic (fun _ _ _ h => h) hS1 ?_
  simp only [Act.put, List.setIfInBounds_toArray, List.set_cons_zero, List.set_cons_succ]
  refine loadT 22 (some 60) 23 (.tmp 3) (w.heap.size + 1) 0 lu rfl rfl (by kernel_rfl) (by kernel_rfl) (by kernel_rfl) (by kernel_rfl) rfl (by kernel_rfl) rfl (fun wx hSw => hSw.2.2.2.2.2.1) hu rfl hiu (fun _ _ _ h => h) hS1 ?_
  simp only [Act.put, List.setIfInBounds_toArray, List.set_cons_zero, List.set_cons_succ]
  refine oneT 23 (by kernel_rfl) rfl (fun K hK => ?_)
  go_simp
  refine (m2 _).mono ?_
  rintro e x2 ⟨rfl, hx2⟩
  refine hK.out _ _ (fun _ => hkeep _ (by (repeat (first | exact c_refl _ | refine c_drew ?_ | refine c_alloc ?_ _ | refine c_row ?_ (by first | omega | exact Nat.le_refl _) _ | refine c_call ?_ (by assumption))); first | done | fail "open")) ?_
  clear hK K
  have hS2 := hkeep x2 (by (repeat (first | exact c_refl _ | refine c_drew ?_ | refine c_alloc ?_ _ | refine c_row ?_ (by first | omega | exact Nat.le_refl _) _ | refine c_call ?_ (by assumption))); first | done | fail "open")
  refine takeD 24 (some 62) (.bool true) rfl rfl (by kernel_rfl) (by kernel_rfl) (by kernel_rfl) (by kernel_rfl) (fun _ _ _ h => h) (Or.inl ⟨by kernel_rfl, fun wx hSw => by go_simp⟩) hS2 ?_
  simp only [Act.put, List.setIfInBounds_toArray, List.set_cons_zero, List.set_cons_succ]
  refine takeD 25 (some 63) (.bool true) rfl rfl (by kernel_rfl) (by kernel_rfl) (by kernel_rfl) (by kernel_rfl) (fun _ _ _ h => h) (Or.inl ⟨by kernel_rfl, fun wx hSw => by go_simp⟩) hS2 ?_
  simp only [Act.put, List.setIfInBounds_toArray, List.set_cons_zero, List.set_cons_succ]
  refine takeD 26 (some 64) (.bool true) rfl rfl (by kernel_rfl) (by kernel_rfl) (by kernel_rfl) (by kernel_rfl) (fun _ _ _ h => h) (Or.inl ⟨by kernel_rfl, fun wx hSw => by go_simp⟩) hS2 ?_
  simp only [Act.put, List.setIfInBounds_toArray, List.set_cons_zero, List.set_cons_succ]
  refine loadT 27 (some 65) 23 (.tmp 10) (gP) 0 lp rfl rfl (by kernel_rfl) (by kernel_rfl) (by kernel_rfl) (by kernel_rfl) rfl (by kernel_rfl) rfl (fun wx hSw => hSw.2.1) hu rfl hip (fun _ _ _ h => h) hS2 ?_
  simp only [Act.put, List.setIfInBounds_toArray, List.set_cons_zero, List.set_cons_succ]
  refine loadT 28 (some 66) 23 (.tmp 2) (w.heap.size) 0 lk rfl rfl (by kernel_rfl) (by kernel_rfl) (by kernel_rfl) (by kernel_rfl) rfl (by kernel_rfl) rfl (fun wx hSw => hSw.2.2.2.2.2.2.1) hu rfl hik (fun _ _ _ h => h) hS2 ?_
  simp only [Act.put, List.setIfInBounds_toArray, List.set_cons_zero, List.set_cons_succ]
  refine loadT 29 (some 67) 23 (.tmp 7) (gV) 0 lv rfl rfl (by kernel_rfl) (by kernel_rfl) (by kernel_rfl) (by kernel_rfl) rfl (by kernel_rfl) rfl (fun wx hSw => hSw.2.2.2.1) hu rfl hiv (fun _ _ _ h => h) hS2 ?_
  simp only [Act.put, List.setIfInBounds_toArray, List.set_cons_zero, List.set_cons_succ]
  refine oneT 30 (by kernel_rfl) rfl (fun K hK => ?_)
  go_simp
  refine (m3 _).mono ?_
  rintro e x3 ⟨rfl, hx3⟩
  refine hK.out _ _ (fun _ => hkeep _ (by (repeat (first | exact c_refl _ | refine c_drew ?_ | refine c_alloc ?_ _ | refine c_row ?_ (by first | omega | exact Nat.le_refl _) _ | refine c_call ?_ (by assumption))); first | done | fail "open")) ?_
  clear hK K
  have hS3 := hkeep x3 (by (repeat (first | exact c_refl _ | refine c_drew ?_ | refine c_alloc ?_ _ | refine c_row ?_ (by first | omega | exact Nat.le_refl _) _ | refine c_call ?_ (by assumption))); first | done | fail "open")
  refine takeD 31 (some 69) (.bool true) rfl rfl (by kernel_rfl) (by kernel_rfl) (by kernel_rfl) (by kernel_rfl) (fun _ _ _ h => h) (Or.inl ⟨by kernel_rfl, fun wx hSw => by go_simp⟩) hS3 ?_
  simp only [Act.put, List.setIfInBounds_toArray, List.set_cons_zero, List.set_cons_succ]
  refine takeD 32 (some 70) (.bool true) rfl rfl (by kernel_rfl) (by kernel_rfl) (by kernel_rfl) (by kernel_rfl) (fun _ _ _ h => h) (Or.inl ⟨by kernel_rfl, fun wx hSw => by go_simp⟩) hS3 ?_
  simp only [Act.put, List.setIfInBounds_toArray, List.set_cons_zero, List.set_cons_succ]
  refine takeD 33 (some 71) (.bool true) rfl rfl (by kernel_rfl) (by kernel_rfl) (by kernel_rfl) (by kernel_rfl) (fun _ _ _ h => h) (Or.inl ⟨by kernel_rfl, fun wx hSw => by go_simp⟩) hS3 ?_
  simp only [Act.put, List.setIfInBounds_toArray, List.set_cons_zero, List.set_cons_succ]
  refine takeD 34 (some 72) (.int .i64 0) rfl rfl (by kernel_rfl) (by kernel_rfl) (by kernel_rfl) (by kernel_rfl) (fun _ _ _ h => h) (Or.inl ⟨by kernel_rfl, fun wx hSw => by go_simp⟩) hS3 ?_
  simp only [Act.put, List.setIfInBounds_toArray, List.set_cons_zero, List.set_cons_succ]
  refine takeD 35 (some 73) (.bool true) rfl rfl (by kernel_rfl) (by kernel_rfl) (by kernel_rfl) (by kernel_rfl) (fun _ _ _ h => h) (Or.inl ⟨by kernel_rfl, fun wx hSw => by go_simp⟩) hS3 ?_
  simp only [Act.put, List.setIfInBounds_toArray, List.set_cons_zero, List.set_cons_succ]
  refine takeD 36 (some 74) (.bool true) rfl rfl (by kernel_rfl) (by kernel_rfl) (by kernel_rfl) (by kernel_rfl) (fun _ _ _ h => h) (Or.inl ⟨by kernel_rfl, fun wx hSw => by go_simp⟩) hS3 ?_
  simp only [Act.put, List.setIfInBounds_toArray, List.set_cons_zero, List.set_cons_succ]
  refine takeD 37 (some 75) (.bool true) rfl rfl (by kernel_rfl) (by kernel_rfl) (by kernel_rfl) (by kernel_rfl) (fun _ _ _ h => h) (Or.inl ⟨by kernel_rfl, fun wx hSw => by go_simp⟩) hS3 ?_
  simp only [Act.put, List.setIfInBounds_toArray, List.set_cons_zero, List.set_cons_succ]
  refine loadT 38 (some 76) 23 (.tmp 10) (gP) 0 lp rfl rfl (by kernel_rfl) (by kernel_rfl) (by kernel_rfl) (by kernel_rfl) rfl (by kernel_rfl) rfl (fun wx hSw => hSw.2.1) hu rfl hip (fun _ _ _ h => h) hS3 ?_
  simp only [Act.put, List.setIfInBounds_toArray, List.set_cons_zero, List.set_cons_succ]
  refine loadT 39 (some 77) 23 (.tmp 2) (w.heap.size) 0 lk rfl rfl (by kernel_rfl) (by kernel_rfl) (by kernel_rfl) (by kernel_rfl) rfl (by kernel_rfl) rfl (fun wx hSw => hSw.2.2.2.2.2.2.1) hu rfl hik (fun _ _ _ h => h) hS3 ?_
  simp only [Act.put, List.setIfInBounds_toArray, List.set_cons_zero, List.set_cons_succ]
  refine loadT 40 (some 78) 23 (.tmp 8) (gO) 0 lo rfl rfl (by kernel_rfl) (by kernel_rfl) (by kernel_rfl) (by kernel_rfl) rfl (by kernel_rfl) rfl (fun wx hSw => hSw.2.2.1) hu rfl hio (fun _ _ _ h => h) hS3 ?_
  simp only [Act.put, List.setIfInBounds_toArray, List.set_cons_zero, List.set_cons_succ]
  refine oneT 41 (by kernel_rfl) rfl (fun K hK => ?_)
  go_simp
  refine (m4 _).mono ?_
  rintro e x4 ⟨rfl, hx4⟩
  refine hK.out _ _ (fun _ => hkeep _ (by (repeat (first | exact c_refl _ | refine c_drew ?_ | refine c_alloc ?_ _ | refine c_row ?_ (by first | omega | exact Nat.le_refl _) _ | refine c_call ?_ (by assumption))); first | done | fail "open")) ?_
  clear hK K
  have hS4 := hkeep x4 (by (repeat (first | exact c_refl _ | refine c_drew ?_ | refine c_alloc ?_ _ | refine c_row ?_ (by first | omega | exact Nat.le_refl _) _ | refine c_call ?_ (by assumption))); first | done | fail "open")
  refine takeD 42 (some 80) (.bool true) rfl rfl (by kernel_rfl) (by kernel_rfl) (by kernel_rfl) (by kernel_rfl) (fun _ _ _ h => h) (Or.inl ⟨by kernel_rfl, fun wx hSw => by go_simp⟩) hS4 ?_
  simp only [Act.put, List.setIfInBounds_toArray, List.set_cons_zero, List.set_cons_succ]
  refine takeD 43 (some 81) (.bool true) rfl rfl (by kernel_rfl) (by kernel_rfl) (by kernel_rfl) (by kernel_rfl) (fun _ _ _ h => h) (Or.inl ⟨by kernel_rfl, fun wx hSw => by go_simp⟩) hS4 ?_
  simp only [Act.put, List.setIfInBounds_toArray, List.set_cons_zero, List.set_cons_succ]
  refine takeD 44 (some 82) (.bool true) rfl rfl (by kernel_rfl) (by kernel_rfl) (by kernel_rfl) (by kernel_rfl) (fun _ _ _ h => h) (Or.inl ⟨by kernel_rfl, fun wx hSw => by go_simp⟩) hS4 ?_
  simp only [Act.put, List.setIfInBounds_toArray, List.set_cons_zero, List.set_cons_succ]
  refine takeD 45 (some 83) (.int .i64 0) rfl rfl (by kernel_rfl) (by kernel_rfl) (by kernel_rfl) (by kernel_rfl) (fun _ _ _ h => h) (Or.inl ⟨by kernel_rfl, fun wx hSw => by go_simp⟩) hS4 ?_
  simp only [Act.put, List.setIfInBounds_toArray, List.set_cons_zero, List.set_cons_succ]
  refine takeD 46 (some 84) (.bool true) rfl rfl (by kernel_rfl) (by kernel_rfl) (by kernel_rfl) (by kernel_rfl) (fun _ _ _ h => h) (Or.inl ⟨by kernel_rfl, fun wx hSw => by go_simp⟩) hS4 ?_
  simp only [Act.put, List.setIfInBounds_toArray, List.set_cons_zero, List.set_cons_succ]
  refine takeD 47 (some 85) (.bool true) rfl rfl (by kernel_rfl) (by kernel_rfl) (by kernel_rfl) (by kernel_rfl) (fun _ _ _ h => h) (Or.inl ⟨by kernel_rfl, fun wx hSw => by go_simp⟩) hS4 ?_
  simp only [Act.put, List.setIfInBounds_toArray, List.set_cons_zero, List.set_cons_succ]
  refine takeD 48 (some 86) (.bool true) rfl rfl (by kernel_rfl) (by kernel_rfl) (by kernel_rfl) (by kernel_rfl) (fun _ _ _ h => h) (Or.inl ⟨by kernel_rfl, fun wx hSw => by go_simp⟩) hS4 ?_
  simp only [Act.put, List.setIfInBounds_toArray, List.set_cons_zero, List.set_cons_succ]
  refine loadT 49 (some 87) 23 (.tmp 11) (gB) 0 lp rfl rfl (by kernel_rfl) (by kernel_rfl) (by kernel_rfl) (by kernel_rfl) rfl (by kernel_rfl) rfl (fun wx hSw => hSw.1) hu rfl hip (fun _ _ _ h => h) hS4 ?_
  simp only [Act.put, List.setIfInBounds_toArray, List.set_cons_zero, List.set_cons_succ]
  refine loadT 50 (some 88) 23 (.tmp 10) (gP) 0 lp rfl rfl (by kernel_rfl) (by kernel_rfl) (by kernel_rfl) (by kernel_rfl) rfl (by kernel_rfl) rfl (fun wx hSw => hSw.2.1) hu rfl hip (fun _ _ _ h => h) hS4 ?_
  simp only [Act.put, List.setIfInBounds_toArray, List.set_cons_zero, List.set_cons_succ]
  refine takeD 51 (some 89) (.bool true) rfl rfl (by kernel_rfl) (by kernel_rfl) (by kernel_rfl) (by kernel_rfl) (fun _ _ _ h => h) (Or.inl ⟨by kernel_rfl, fun wx hSw => by go_simp⟩) hS4 ?_
  simp only [Act.put, List.setIfInBounds_toArray, List.set_cons_zero, List.set_cons_succ]
  refine takeD 52 (some 90) (.bool true) rfl rfl (by kernel_rfl) (by kernel_rfl) (by kernel_rfl) (by kernel_rfl) (fun _ _ _ h => h) (Or.inl ⟨by kernel_rfl, fun wx hSw => by go_simp⟩) hS4 ?_
  simp only [Act.put, List.setIfInBounds_toArray, List.set_cons_zero, List.set_cons_succ]
  refine oneT 53 (by kernel_rfl) rfl (fun K hK => ?_)
  go_simp
  refine hK.out _ _ (fun h => absurd rfl h) ?_
  clear hK K
  refine doneT (by kernel_rfl) ?_ _
  have hE : Below v9.heap.size v9 x4 := (by (repeat (first | exact c_refl _ | refine c_drew ?_ | refine c_alloc ?_ _ | refine c_row ?_ (by first | omega | exact Nat.le_refl _) _ | refine c_call ?_ (by assumption))); first | done | fail "open")
  go_wp2_with fail
  go_ret
  exact ⟨rfl, (hMv9.call hE).old⟩

end Go.Proofs.Ytimgnpcojamafaa
