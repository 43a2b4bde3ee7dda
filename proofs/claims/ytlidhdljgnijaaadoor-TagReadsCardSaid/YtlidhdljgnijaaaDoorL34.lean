import Derived.Test.YtlidhdljgnijaaaDoorL19
import Derived.Test.YtlidhdljgnijaaaDoorL33
import Derived.Test.YtlidhdljgnijaaaDoorL11
import Derived.Test.YtlidhdljgnijaaaDoorL21
/-
  CONTRACT of coterieref13's (*reader).num. Printed by gen_tagnum.py.
-/
set_option linter.unusedVariables false
namespace Go.Proofs.YtlidhdljgnijaaaDoor
open Go.RowKit

/-- a reader's cells -/
def rdrC (Ab : Option Addr) (nb cb : Nat) (p : Nat) (sh : Bool) : Array Value := #[.slice Ab nb cb, .int .i64 (p : Int), .bool sh]
/-- a number read, and what is left -/
def numV (l : List UInt8) (p wd : Nat) : Nat := if p + wd ≤ l.length then val ((l.drop p).take wd) else 0
def numP (l : List UInt8) (p wd : Nat) (sh : Bool) : Nat := if p + wd ≤ l.length ∧ sh = false then p + wd else p
def numS (l : List UInt8) (p wd : Nat) (sh : Bool) : Bool := sh || decide (l.length < p + wd)
theorem numV_lt (l : List UInt8) (p : Nat) {wd : Nat} (h : wd ≤ 7) : numV l p wd < 72057594037927936 := by
  rw [numV]
  split
  · have h1 := val_lt ((l.drop p).take wd)
    have h2 : ((l.drop p).take wd).length ≤ 7 := by rw [List.length_take]; omega
    have h3 : 256 ^ ((l.drop p).take wd).length ≤ 256 ^ 7 := Nat.pow_le_pow_right (by omega) h2
    omega
  · omega
theorem grown_setCellK (w : World) (g i : Nat) (v : Value) : w.grownBy (w.setCell ⟨g, i, none⟩ v) (some g) :=
  ⟨rfl, rfl, rfl, by simp [World.setCell], fun k _ hk => Below.heap_setCell w ⟨g, i, none⟩ v k (fun e => hk (by rw [e]))⟩
theorem grownBy_trans {a b c : World} {row : Option Nat} (h : a.grownBy b row) (k : b.grownBy c row) : a.grownBy c row :=
  ⟨k.os.trans h.os, k.tape.trans h.tape, k.output.trans h.output, Nat.le_trans h.size k.size, fun q hq hn => by rw [k.block q (Nat.lt_of_lt_of_le hq h.size) hn, h.block q hq hn]⟩
set_option maxRecDepth 100000 in
set_option maxHeartbeats 4000000 in
theorem RNum13 (gr : Nat) (Ab : Option Addr) (nb cb : Nat) (l : List UInt8) (p wd : Nat) (sh : Bool) (w : World) (hb : Rd w gr Ab nb (l.map bv)) (hnc : nb ≤ cb) (hn : nb ≤ 1000000) (hp : p ≤ nb) (hwd : wd = 1 ∨ wd = 2 ∨ wd = 4) (hr : RowC w gr 88 (rdrC Ab nb cb p sh)) :
    Calls Tryd.prog 52 #[.pointer (some ⟨gr, 0, none⟩), .int .i64 (wd : Int)] w fun e w' => e = .returned (.int .i64 (numV l p wd : Int)) ∧ w.grownBy w' (some gr) ∧ RowC w' gr 88 (rdrC Ab nb cb (numP l p wd sh) (numS l p wd sh)) ∧ w'.heap.size = w.heap.size := by
  have hl : l.length = nb := by have := hb.len; rwa [List.length_map] at this
  have hkeep : ∀ wx : World, Below w.heap.size w wx → wx.cell? ⟨gr, 0, none⟩ = some (.slice Ab nb cb) ∧ wx.cell? ⟨gr, 1, none⟩ = some (.int .i64 (p : Int)) := fun wx hbx => ⟨(hr.call hbx).cell rfl, (hr.call hbx).cell rfl⟩
  have hdr : Below w.heap.size w w.drew := c_drew (c_refl _)
  have htn := refTakeNum_any Ab nb cb l (p : Int) (wd : Int) w.drew (by omega) hnc ((hb.below (hdr.mono (Nat.le_of_lt hr.lt))).more (Nat.le_of_lt (hr.call hdr).lt))
  have hok : p + wd ≤ l.length → tnV l (p : Int) (wd : Int) = numV l p wd ∧ tnN l.length (p : Int) (wd : Int) = ((p + wd : Nat) : Int) ∧ tnE l.length (p : Int) (wd : Int) = 0 := fun h => by
    have e : tnE l.length (p : Int) (wd : Int) = 0 := by rw [tnE, if_neg (by omega), if_neg (by omega)]
    refine ⟨?_, ?_, e⟩
    · rw [tnV, if_pos e, numV, if_pos h]
      simp
    · rw [tnN, if_pos e]; omega
  have hno : ¬ p + wd ≤ l.length → tnV l (p : Int) (wd : Int) = 0 ∧ tnN l.length (p : Int) (wd : Int) = 0 ∧ tnE l.length (p : Int) (wd : Int) = 2 := fun h => by
    have e : tnE l.length (p : Int) (wd : Int) = 2 := by rw [tnE, if_neg (by omega), if_pos (by omega)]
    refine ⟨?_, ?_, e⟩
    · rw [tnV, if_neg (by omega)]
    · rw [tnN, if_neg (by omega)]
  have Hok := Lib.hid hok
  have Hno := Lib.hid hno
  have Hl := Lib.hid hl
  have Hwd := Lib.hid hwd
  clear hok hno hl hb hwd
  have hrd := hr.drew
  go_enter Tryd.func52, Tryd.ntmps52
  go_upto_region 1 with fail
  try simp only [Act.put]
  refine beginT (fun wx => wx.cell? ⟨gr, 0, none⟩ = some (.slice Ab nb cb) ∧ wx.cell? ⟨gr, 1, none⟩ = some (.int .i64 (p : Int))) 17 (by kernel_rfl) ?_
  have hS := hkeep _ hdr
  refine takeD 0 (some 9) (.pointer (some ⟨gr, 0, none⟩)) rfl rfl (by kernel_rfl) (by kernel_rfl) (by kernel_rfl) (by kernel_rfl) (fun _ _ _ h => h) (Or.inl ⟨by kernel_rfl, fun wx hSw => by go_simp⟩) hS ?_
  try simp only [Act.put, List.setIfInBounds_toArray, List.set_cons_zero, List.set_cons_succ]
  refine takeD 1 (some 10) (.pointer (some ⟨gr, 0, none⟩)) rfl rfl (by kernel_rfl) (by kernel_rfl) (by kernel_rfl) (by kernel_rfl) (fun _ _ _ h => h) (Or.inl ⟨by kernel_rfl, fun wx hSw => by go_simp⟩) hS ?_
  try simp only [Act.put, List.setIfInBounds_toArray, List.set_cons_zero, List.set_cons_succ]
  refine takeD 2 (some 11) (.pointer (some ⟨gr, 0, none⟩)) rfl rfl (by kernel_rfl) (by kernel_rfl) (by kernel_rfl) (by kernel_rfl) (fun _ _ _ h => h) (Or.inl ⟨by kernel_rfl, fun wx hSw => by go_simp⟩) hS ?_
  try simp only [Act.put, List.setIfInBounds_toArray, List.set_cons_zero, List.set_cons_succ]
  refine takeD 3 (some 12) (.slice Ab nb cb) rfl rfl (by kernel_rfl) (by kernel_rfl) (by kernel_rfl) (by kernel_rfl) (fun _ _ _ h => h) (Or.inl ⟨by kernel_rfl, fun wx hSw => by go_simp⟩) hS ?_
  try simp only [Act.put, List.setIfInBounds_toArray, List.set_cons_zero, List.set_cons_succ]
  refine takeD 4 (some 13) (.pointer (some ⟨gr, 0, none⟩)) rfl rfl (by kernel_rfl) (by kernel_rfl) (by kernel_rfl) (by kernel_rfl) (fun _ _ _ h => h) (Or.inl ⟨by kernel_rfl, fun wx hSw => by go_simp⟩) hS ?_
  try simp only [Act.put, List.setIfInBounds_toArray, List.set_cons_zero, List.set_cons_succ]
  refine takeD 5 (some 14) (.pointer (some ⟨gr, 0, none⟩)) rfl rfl (by kernel_rfl) (by kernel_rfl) (by kernel_rfl) (by kernel_rfl) (fun _ _ _ h => h) (Or.inl ⟨by kernel_rfl, fun wx hSw => by go_simp⟩) hS ?_
  try simp only [Act.put, List.setIfInBounds_toArray, List.set_cons_zero, List.set_cons_succ]
  refine takeD 6 (some 15) (.pointer (some ⟨gr, 1, none⟩)) rfl rfl (by kernel_rfl) (by kernel_rfl) (by kernel_rfl) (by kernel_rfl) (fun _ _ _ h => h) (Or.inl ⟨by kernel_rfl, fun wx hSw => by go_simp⟩) hS ?_
  try simp only [Act.put, List.setIfInBounds_toArray, List.set_cons_zero, List.set_cons_succ]
  refine takeD 7 (some 16) (.int .i64 (p : Int)) rfl rfl (by kernel_rfl) (by kernel_rfl) (by kernel_rfl) (by kernel_rfl) (fun _ _ _ h => h) (Or.inl ⟨by kernel_rfl, fun wx hSw => by go_simp⟩) hS ?_
  try simp only [Act.put, List.setIfInBounds_toArray, List.set_cons_zero, List.set_cons_succ]
  refine takeD 8 (some 17) (.int .i64 (wd : Int)) rfl rfl (by kernel_rfl) (by kernel_rfl) (by kernel_rfl) (by kernel_rfl) (fun _ _ _ h => h) (Or.inl ⟨by kernel_rfl, fun wx hSw => by go_simp⟩) hS ?_
  try simp only [Act.put, List.setIfInBounds_toArray, List.set_cons_zero, List.set_cons_succ]
  unfold TakeNumPost at htn
  generalize tnV l (p : Int) (wd : Int) = tv at *
  generalize tnN l.length (p : Int) (wd : Int) = ta at *
  generalize tnE l.length (p : Int) (wd : Int) = te at *
  have hgd : w.grownBy w.drew (some gr) := ⟨rfl, rfl, rfl, Nat.le_refl _, fun _ _ _ => rfl⟩
  have hsz : w.drew.heap.size = w.heap.size := rfl
  generalize w.drew = wd0 at *
  refine oneT 9 (by kernel_rfl) rfl (fun K hK => ?_)
  go_simp
  refine htn.mono ?_
  rintro e w3 ⟨he, hw⟩
  subst he hw
  refine hK.out _ _ (fun _ => hS) ?_
  clear hK K htn
  try simp only [Act.put, List.setIfInBounds_toArray, List.set_cons_zero, List.set_cons_succ]
  refine takeD 10 (some 8) (.tuple #[.int .u64 (tv : Int), .int .i64 ta, .int .i64 te]) rfl rfl (by kernel_rfl) (by kernel_rfl) (by kernel_rfl) (by kernel_rfl) (fun _ _ _ h => h) (Or.inl ⟨by kernel_rfl, fun wx hSw => by go_simp⟩) hS ?_
  try simp only [Act.put, List.setIfInBounds_toArray, List.set_cons_zero, List.set_cons_succ]
  refine takeD 11 (some 19) (.int .u64 (tv : Int)) rfl rfl (by kernel_rfl) (by kernel_rfl) (by kernel_rfl) (by kernel_rfl) (fun _ _ _ h => h) (Or.inl ⟨by kernel_rfl, fun wx hSw => by go_simp⟩) hS ?_
  try simp only [Act.put, List.setIfInBounds_toArray, List.set_cons_zero, List.set_cons_succ]
  refine takeD 12 (some 20) (.int .i64 ta) rfl rfl (by kernel_rfl) (by kernel_rfl) (by kernel_rfl) (by kernel_rfl) (fun _ _ _ h => h) (Or.inl ⟨by kernel_rfl, fun wx hSw => by go_simp⟩) hS ?_
  try simp only [Act.put, List.setIfInBounds_toArray, List.set_cons_zero, List.set_cons_succ]
  refine takeD 13 (some 21) (.int .i64 te) rfl rfl (by kernel_rfl) (by kernel_rfl) (by kernel_rfl) (by kernel_rfl) (fun _ _ _ h => h) (Or.inl ⟨by kernel_rfl, fun wx hSw => by go_simp⟩) hS ?_
  try simp only [Act.put, List.setIfInBounds_toArray, List.set_cons_zero, List.set_cons_succ]
  refine takeD 14 (some 5) (.int .u64 (tv : Int)) rfl rfl (by kernel_rfl) (by kernel_rfl) (by kernel_rfl) (by kernel_rfl) (fun _ _ _ h => h) (Or.inl ⟨by kernel_rfl, fun wx hSw => by go_simp⟩) hS ?_
  try simp only [Act.put, List.setIfInBounds_toArray, List.set_cons_zero, List.set_cons_succ]
  refine takeD 15 (some 6) (.int .i64 ta) rfl rfl (by kernel_rfl) (by kernel_rfl) (by kernel_rfl) (by kernel_rfl) (fun _ _ _ h => h) (Or.inl ⟨by kernel_rfl, fun wx hSw => by go_simp⟩) hS ?_
  try simp only [Act.put, List.setIfInBounds_toArray, List.set_cons_zero, List.set_cons_succ]
  refine takeD 16 (some 7) (.int .i64 te) rfl rfl (by kernel_rfl) (by kernel_rfl) (by kernel_rfl) (by kernel_rfl) (fun _ _ _ h => h) (Or.inl ⟨by kernel_rfl, fun wx hSw => by go_simp⟩) hS ?_
  try simp only [Act.put, List.setIfInBounds_toArray, List.set_cons_zero, List.set_cons_succ]
  refine doneT (by kernel_rfl) ?_ _
  clear hS hkeep hdr
  have c0 := hrd.cell (i := 2) (v := .bool sh) rfl
  have f1 := hrd.frozen 1
  have f2 := hrd.frozen 2
  have c1 := hrd.cell (i := 1) (v := .int .i64 (p : Int)) rfl
  by_cases hin : p + wd ≤ l.length
  · obtain ⟨e1, e2, e3⟩ := Hok.out hin
    subst e1 e2 e3
    have hv := numV_lt l p (wd := wd) (by have := Hwd.out; omega)
    have HS := Lib.hid (show numS l p wd sh = sh ∧ (sh = false → numP l p wd sh = p + wd) ∧ (sh = true → numP l p wd sh = p) from ⟨by rw [numS, decide_eq_false (by omega), Bool.or_false], fun h => by rw [numP, if_pos ⟨hin, h⟩], fun h => by rw [numP, if_neg (by rw [h]; simp)]⟩)
    have zc : IntKind.i64.wrap ((numV l p wd : Nat) : Int) = ((numV l p wd : Nat) : Int) := by rw [IntKind.wrap_i64]; omega
    clear Hok Hno hr
    cases sh
    · have hg2 := grownBy_trans hgd (grown_setCellK wd0 gr 1 (.int .i64 ((p + wd : Nat) : Int)))
      have hr2 := hrd.set_ 1 (.int .i64 ((p + wd : Nat) : Int))
      have hsz2 : (wd0.setCell ⟨gr, 1, none⟩ (.int .i64 ((p + wd : Nat) : Int))).heap.size = w.heap.size := by simp [World.setCell, hsz]
      have HF := Lib.hid (And.intro hg2 (And.intro hr2 hsz2))
      clear hgd hsz hg2 hr2 hsz2 hrd
      go_wp2_with fail
      go_ret
      refine ⟨rfl, HF.out.1, ?_, HF.out.2.2⟩
      rw [HS.out.1, HS.out.2.1 trivial]
      exact HF.out.2.1
    · have HF := Lib.hid (And.intro hgd (And.intro hrd hsz))
      clear hgd hsz hrd
      go_wp2_with fail
      go_ret
      refine ⟨rfl, HF.out.1, ?_, HF.out.2.2⟩
      rw [HS.out.1, HS.out.2.2 trivial]
      exact HF.out.2.1
  · obtain ⟨e1, e2, e3⟩ := Hno.out hin
    subst e1 e2 e3
    have HS := Lib.hid (show numS l p wd sh = true ∧ numP l p wd sh = p ∧ numV l p wd = 0 from ⟨by rw [numS, decide_eq_true (by omega), Bool.or_true], by rw [numP, if_neg (fun h => hin h.1)], by rw [numV, if_neg hin]⟩)
    have hg2 := grownBy_trans hgd (grown_setCellK wd0 gr 2 (.bool true))
    have hr2 := hrd.set_ 2 (.bool true)
    have hsz2 : (wd0.setCell ⟨gr, 2, none⟩ (.bool true)).heap.size = w.heap.size := by simp [World.setCell, hsz]
    have HF := Lib.hid (And.intro hg2 (And.intro hr2 hsz2))
    clear Hok Hno hr hgd hsz hg2 hr2 hsz2 hrd
    go_wp2_with fail
    go_ret
    refine ⟨by rw [HS.out.2.2]; rfl, HF.out.1, ?_, HF.out.2.2⟩
    rw [HS.out.1, HS.out.2.1]
    exact HF.out.2.1

end Go.Proofs.YtlidhdljgnijaaaDoor

/-
  WHAT BYTES ARE AS A TREE (layer 13), as functions of lists.
-/
set_option linter.unusedVariables false
namespace Go.Proofs.YtlidhdljgnijaaaDoor
open Go.RowKit

/-- so many numbers of a width, as far as there are bytes -/
def numsL (l : List UInt8) (wd : Nat) : Nat → Nat → Bool → List Int × (Nat × Bool)
  | 0, p, sh => ([], p, sh)
  | n + 1, p, sh => if sh = true then ([], p, sh) else (((numV l p wd : Nat) : Int) :: (numsL l wd n (numP l p wd sh) (numS l p wd sh)).1, (numsL l wd n (numP l p wd sh) (numS l p wd sh)).2)
/-- so many levels -/
def lvsL (l : List UInt8) : Nat → Nat → Bool → List (List Int) × (Nat × Bool)
  | 0, p, sh => ([], p, sh)
  | n + 1, p, sh => if sh = true then ([], p, sh) else
    ((numsL l 1 (numV l p 2) (numP l p 2 sh) (numS l p 2 sh)).1 :: (lvsL l n (numsL l 1 (numV l p 2) (numP l p 2 sh) (numS l p 2 sh)).2.1 (numsL l 1 (numV l p 2) (numP l p 2 sh) (numS l p 2 sh)).2.2).1,
      (lvsL l n (numsL l 1 (numV l p 2) (numP l p 2 sh) (numS l p 2 sh)).2.1 (numsL l 1 (numV l p 2) (numP l p 2 sh) (numS l p 2 sh)).2.2).2)
/-- a tree's members, and its levels, and where they end -/
def idsR (l : List UInt8) (a : Nat) : List Int × (Nat × Bool) := numsL l 4 (numV l (numP l a 1 false) 2) (numP l (numP l a 1 false) 2 (numS l a 1 false)) (numS l (numP l a 1 false) 2 (numS l a 1 false))
def lvsR (l : List UInt8) (a : Nat) : List (List Int) × (Nat × Bool) := lvsL l (numV l (idsR l a).2.1 1) (numP l (idsR l a).2.1 1 (idsR l a).2.2) (numS l (idsR l a).2.1 1 (idsR l a).2.2)
def kindR (l : List UInt8) (a : Nat) : Int := ((numV l a 1 : Nat) : Int)
/-- how many nodes there are; the points -/
def manyR (l : List UInt8) (a : Nat) : Nat := (nodesI (kindR l a) (idsR l a).1 (lvsR l a).1).length
def ptsR (l : List UInt8) (a : Nat) : List UInt8 := (l.drop (lvsR l a).2.1).take (manyR l a * 32)
/-- why there is no tree -/
def readE (l : List UInt8) (d : Int) : Int :=
  if d < 0 ∨ (l.length : Int) < d then 1
  else if (lvsR l d.toNat).2.2 = true then 2
  else if mayB (kindR l d.toNat) (idsR l d.toNat).1 (lvsR l d.toNat).1 = false then 3
  else if l.length < (lvsR l d.toNat).2.1 + manyR l d.toNat * 32 then 2
  else if okG (kindR l d.toNat) (idsR l d.toNat).1 (lvsR l d.toNat).1 (manyR l d.toNat) (ptsR l d.toNat) = false then 3 else 0
def readN (l : List UInt8) (d : Int) : Int := ((lvsR l d.toNat).2.1 + manyR l d.toNat * 32 : Nat)
def ReadPost (w : World) (l : List UInt8) (d : Int) (e : Ending) (w' : World) : Prop :=
  Below w.heap.size w w' ∧ ((readE l d ≠ 0 ∧ e = .returned (.tuple #[.agg (tgV 0 none 0 0 none 0 0 none 0 0), .int .i64 0, .int .i64 (readE l d)])) ∨
    (readE l d = 0 ∧ ∃ Ai ni ci Al nl cl Ap cp, e = .returned (.tuple #[.agg (tgV (kindR l d.toNat) Ai ni ci Al nl cl Ap (manyR l d.toNat) cp), .int .i64 (readN l d), .int .i64 0]) ∧
      TgR w' w'.heap.size Ai ni ci Al nl cl (idsR l d.toNat).1 (lvsR l d.toNat).1 Ap (manyR l d.toNat) cp (ptsR l d.toNat)))
theorem numP_le {l : List UInt8} {p wd : Nat} {sh : Bool} (h : p ≤ l.length) : numP l p wd sh ≤ l.length := by
  rw [numP]
  split
  · next c => exact c.1
  · exact h
theorem numsL_le {l : List UInt8} (wd : Nat) : ∀ (n p : Nat) (sh : Bool), p ≤ l.length → (numsL l wd n p sh).2.1 ≤ l.length ∧ (numsL l wd n p sh).1.length ≤ n
  | 0, p, sh, h => ⟨h, by simp [numsL]⟩
  | n + 1, p, sh, h => by
    rw [numsL]
    split
    · exact ⟨h, by simp⟩
    · obtain ⟨h1, h2⟩ := numsL_le wd n (numP l p wd sh) (numS l p wd sh) (numP_le h)
      exact ⟨h1, by simp only [List.length_cons]; omega⟩

end Go.Proofs.YtlidhdljgnijaaaDoor

/-
  CONTRACT of the document's Nodes (coterieref11), for shapes that are not few.
-/
set_option linter.unusedVariables false
namespace Go.Proofs.YtlidhdljgnijaaaDoor
open Go.RowKit

set_option maxRecDepth 100000 in
set_option maxHeartbeats 4000000 in
theorem May_wide (kind : Int) (Ai : Option Addr) (ni ci : Nat) (Al : Option Addr) (nl cl : Nat) (ids : List Int) (ll : List (List Int)) (w : World) (h : ShR w w.heap.size Ai ni ci Al nl cl ids ll) (hf : ∀ l ∈ ll, l.length ≤ 1000000) :
    Calls Tryd.prog 61 #[.int .i64 kind, .agg (shV Ai ni ci Al nl cl)] w fun e w' => e = .returned (.bool (mayB kind ids ll)) ∧ Below w.heap.size w w' := by
  have hM := (Ms.nil w).box 25 (shV Ai ni ci Al nl cl)
  have hck := CheckT_any Ai ni ci Al nl cl ids ll _ ((h.below hM.old).more hM.old.size) hf
  have Hpost := Lib.hid (show ∀ b w', b = mayB kind ids ll → Below w.heap.size w w' → (fun e w' => e = Ending.returned (Value.bool (mayB kind ids ll)) ∧ Below w.heap.size w w') (.returned (.bool b)) w' from fun b w' h1 h2 => ⟨by rw [h1], h2⟩)
  generalize (fun e w' => e = Ending.returned (Value.bool (mayB kind ids ll)) ∧ Below w.heap.size w w') = PO at *
  have hold := hM.old
  by_cases h1 : kind = 1
  · subst h1
    go_enter Tryd.func61, Tryd.ntmps61
    go_wp2_with ((with_reducible show wpList _ _ _ (⟨some 12, _, _, _, _, _⟩ :: _) _ _); refine wpList_loadC (by kernel_rfl) 25 (.tmp 3) rfl w.heap.size rfl 25 (shV Ai ni ci Al nl cl) _ (hM.get 0 rfl) Tryd.underlying25 rfl shapeInfo2 ?_)
    refine hck.mono ?_
    rintro e w1 ⟨rfl, hb1⟩
    have hold1 := hM.call hb1
    have hfin := hold1.old
    obtain ⟨er, her⟩ : ∃ er, er = chkE ids ll := ⟨_, rfl⟩
    rw [← her]
    by_cases hc : er = 0
    · subst hc
      have Hc := Lib.hid (show true = mayB 1 ids ll by rw [mayB, chkE_iff.1 her.symm]; rfl)
      clear hck hM hb1 hold1 her
      go_wp2_with fail
      (first | exact Hpost.out _ _ Hc.out hfin | exact bodyPost_ret (results_tmp rfl _ _ _) rfl (Hpost.out _ _ Hc.out hfin))
    · have Hc := Lib.hid (show false = mayB 1 ids ll by
        have h2 : ¬ chkT ids ll = true := fun e => hc (by rw [her]; exact chkE_iff.2 e)
        rw [mayB, Bool.eq_false_iff.2 h2, Bool.and_false])
      have hcb : (er == 0) = false := by simpa using hc
      clear hck hM hb1 hold1 her
      go_wp2_with fail
      (first | exact Hpost.out _ _ Hc.out hfin | exact bodyPost_ret (results_tmp rfl _ _ _) rfl (Hpost.out _ _ Hc.out hfin))
  by_cases h2 : kind = 2
  · subst h2
    go_enter Tryd.func61, Tryd.ntmps61
    go_wp2_with ((with_reducible show wpList _ _ _ (⟨some 12, _, _, _, _, _⟩ :: _) _ _); refine wpList_loadC (by kernel_rfl) 25 (.tmp 3) rfl w.heap.size rfl 25 (shV Ai ni ci Al nl cl) _ (hM.get 0 rfl) Tryd.underlying25 rfl shapeInfo2 ?_)
    refine hck.mono ?_
    rintro e w1 ⟨rfl, hb1⟩
    have hold1 := hM.call hb1
    have hfin := hold1.old
    obtain ⟨er, her⟩ : ∃ er, er = chkE ids ll := ⟨_, rfl⟩
    rw [← her]
    by_cases hc : er = 0
    · subst hc
      have Hc := Lib.hid (show true = mayB 2 ids ll by rw [mayB, chkE_iff.1 her.symm]; rfl)
      clear hck hM hb1 hold1 her
      go_wp2_with fail
      (first | exact Hpost.out _ _ Hc.out hfin | exact bodyPost_ret (results_tmp rfl _ _ _) rfl (Hpost.out _ _ Hc.out hfin))
    · have Hc := Lib.hid (show false = mayB 2 ids ll by
        have h2 : ¬ chkT ids ll = true := fun e => hc (by rw [her]; exact chkE_iff.2 e)
        rw [mayB, Bool.eq_false_iff.2 h2, Bool.and_false])
      have hcb : (er == 0) = false := by simpa using hc
      clear hck hM hb1 hold1 her
      go_wp2_with fail
      (first | exact Hpost.out _ _ Hc.out hfin | exact bodyPost_ret (results_tmp rfl _ _ _) rfl (Hpost.out _ _ Hc.out hfin))
  have Hc := Lib.hid (show false = mayB kind ids ll by rw [mayB, decide_eq_false h1, decide_eq_false h2]; rfl)
  have hfin := hM.old
  clear hck hM
  go_enter Tryd.func61, Tryd.ntmps61
  go_wp2_with fail
  (first | exact Hpost.out _ _ Hc.out hfin | exact bodyPost_ret (results_tmp rfl _ _ _) rfl (Hpost.out _ _ Hc.out hfin))

set_option maxRecDepth 100000 in
set_option maxHeartbeats 4000000 in
theorem Nodes11_wide (kind : Int) (Ai : Option Addr) (ni ci : Nat) (Al : Option Addr) (nl cl : Nat) (ids : List Int) (ll : List (List Int)) (w : World) (h : ShR w w.heap.size Ai ni ci Al nl cl ids ll) (hf : ∀ l ∈ ll, l.length ≤ 1000000) :
    Calls Tryd.prog 37 #[.int .i64 kind, .agg (shV Ai ni ci Al nl cl)] w (NodesPost w kind ids ll) := by
  have Hni := Lib.hid h.hni
  have Hnl := Lib.hid h.hnl
  have hM := (Ms.nil w).box 25 (shV Ai ni ci Al nl cl)
  have hS1 := (h.below hM.old)
  have hmy := May_wide kind Ai ni ci Al nl cl ids ll _ (hS1.more hM.old.size) hf
  have Hpost := Lib.hid (show ∀ A n c er w', Below w.heap.size w w' → er = mayE kind ids ll → NdR w' w'.heap.size A n c (nodesI kind ids ll) → NodesPost w kind ids ll (.returned (.tuple #[.slice A n c, .int .i64 er])) w' from fun A n c er w' h1 h2 h3 => ⟨h1, A, n, c, by rw [h2], h3⟩)
  generalize NodesPost w kind ids ll = PO at *
  obtain ⟨mb, hmb⟩ : ∃ mb, mb = mayB kind ids ll := ⟨_, rfl⟩
  rw [← hmb] at hmy
  have Hmb := Lib.hid hmb
  have hb0 : w.heap.size ≤ w.heap.size := Nat.le_refl _
  clear hmb
  go_enter Tryd.func37, Tryd.ntmps37
  go_wp2_with ((with_reducible show wpList _ _ _ (⟨some 9, _, _, _, _, _⟩ :: _) _ _); refine wpList_loadC (by kernel_rfl) 25 (.tmp 3) rfl w.heap.size rfl 25 (shV Ai ni ci Al nl cl) _ (hM.get 0 rfl) Tryd.underlying25 rfl shapeInfo2 ?_)
  refine hmy.mono ?_
  rintro e w1 ⟨rfl, hb1⟩
  have hM1 := hM.call hb1
  have hS2 := hS1.below (hb1.mono hM.old.size)
  clear hM hb1 hmy hS1
  have hold := hM1.old
  cases mb with
  | false =>
    have Hc := Lib.hid (show (1 : Int) = mayE kind ids ll by rw [mayE, ← Hmb.out]; rfl)
    have Hn := Lib.hid (show nodesI kind ids ll = [] by rw [nodesI, ← Hmb.out]; rfl)
    have hz := NdR.zero w1 w1.heap.size
    rw [← Hn.out] at hz
    clear hM1
    go_wp2_with fail
    (first | exact Hpost.out _ _ _ _ _ hold Hc.out hz | exact bodyPost_ret (results_tmp2 rfl _ _ _) rfl (Hpost.out _ _ _ _ _ hold Hc.out hz))
  | true =>
    have Hc := Lib.hid (show (0 : Int) = mayE kind ids ll by rw [mayE, ← Hmb.out]; rfl)
    have hch : chkT ids ll = true := by
      have := Hmb.out
      rw [mayB] at this
      simp only [Bool.true_eq, Bool.and_eq_true] at this
      exact this.2
    obtain ⟨hn1000, _, hlo, hin⟩ := chkT_lv hch
    have hs := lvOK_sum _ _ hlo
    have hhi := lv_high hch
    have Hlen := Lib.hid (show (lvN ll).length = nl by rw [lvN, List.length_map]; exact Hnl.out)
    rw [← levI_lvN hin] at hS2
    have Hn := Lib.hid (show nodesI kind ids ll = (nodesU kind ids.length (lvN ll)).map RN.i by rw [nodesI, ← Hmb.out]; rfl)
    have k0 := (hM1.get 0 rfl).cell (i := 0) (v := .slice Ai ni ci) rfl
    have k1 := (hM1.get 0 rfl).cell (i := 1) (v := .slice Al nl cl) rfl
    by_cases h0 : ni = 0
    · have Hz := Lib.hid (show nodesI kind ids ll = [] by rw [Hn.out, nodesU, if_pos (by rw [Hni.out]; exact h0)]; rfl)
      have hz := NdR.zero w1 w1.heap.size
      rw [← Hz.out] at hz
      have h0i : (ni : Int) = 0 := by omega
      clear hS2
      go_wp2_with fail
      (first | exact Hpost.out _ _ _ _ _ hold Hc.out hz | exact bodyPost_ret (results_tmp2 rfl _ _ _) rfl (Hpost.out _ _ _ _ _ hold Hc.out hz))
    · have h0i : ¬ (ni : Int) = 0 := by omega
      have hpos : 0 < wideN ids.length (lvN ll) (lvN ll).length := wideN_pos hs (by rw [Hni.out]; omega) _ (Nat.le_refl _)
      have hts := treeOf_size (kind := kind) hs (Nat.le_refl _) hpos
      have hbl := Below_any w.heap.size kind Ai ni ci Al nl cl ids (lvN ll) ids.length hs hn1000 (by omega) (lvN ll).length 0 (Nat.le_refl _) hpos (.slice none 0 0) [] [] w1 hold.size hS2 (OwR.nil _ _) (by simp only [List.length_nil]; omega)
      have Hz := Lib.hid (show nodesI kind ids ll = ((treeOf kind (lvN ll) (lvN ll).length 0).flat 0 (-1)).map RN.i by rw [Hn.out, nodesU, if_neg (by rw [Hni.out]; exact h0)])
      rw [List.length_nil, Nat.zero_add] at hbl
      generalize treeOf kind (lvN ll) (lvN ll).length 0 = T at *
      rw [Hlen.out] at hbl
      have hbl' : Calls Tryd.prog 62 #[.int .i64 kind, .agg (shV Ai ni ci Al nl cl), .slice none 0 0, .int .i64 (nl : Nat), .int .i64 0] w1 (AddPost w.heap.size w1 (.slice none 0 0) [] [] (newV w1.heap.size) T (T.size - 1)) := hbl
      have hbox := hM1.get 0 rfl
      clear hbl hS2 hs hlo hin hch hhi hpos hts
      go_wp2_with ((with_reducible show wpList _ _ _ (⟨some 18, _, _, _, _, _⟩ :: _) _ _); refine wpList_loadC (by kernel_rfl) 25 (.tmp 3) rfl w.heap.size rfl 25 (shV Ai ni ci Al nl cl) _ hbox Tryd.underlying25 rfl shapeInfo2 ?_)
      refine hbl'.mono ?_
      rintro e w2 ⟨v2, us2, rfl, hr2, hg2, _, _⟩
      rw [List.nil_append, List.length_nil] at hr2
      obtain ⟨A2, c2, rfl, _, _⟩ := own_formT hr2.row
      have hnd := hr2.told
      rw [← Hz.out] at hnd
      have hold2 : Below w.heap.size w w2 := hold.grown hg2 hold.size (fun g hg => by simp [Value.ownBlock] at hg)
      clear hbl' hr2 hbox hM1
      go_wp2_with fail
      (first | exact Hpost.out _ _ _ _ _ hold2 Hc.out hnd | exact bodyPost_ret (results_tmp2 rfl _ _ _) rfl (Hpost.out _ _ _ _ _ hold2 Hc.out hnd))


end Go.Proofs.YtlidhdljgnijaaaDoor

