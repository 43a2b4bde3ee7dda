import Derived.Test.YtlidhdljgnijaaaDoorN02
import Derived.Test.YtlidhdljgnijaaaDoorN03
import Derived.BigRegion
import Derived.Laws.Rows
import Derived.Deep.MidRow
import Derived.Deep.WholeRow
import Derived.WalkSpells
import Derived.StillTailTactics
import Derived.Test.YtlidhdljgnijaaaDoorN01
/-
  ROWS IN MEMORY: blocks that hold arrays (their cells in one value), kept over calls and stores; a list of them that a walk carries along. Nothing of one layer.
-/
set_option linter.unusedVariables false
namespace Go.Proofs.YtlidhdljgnijaaaDoor
open Go.RowKit

/-- block g holds the cells cs -/
def RowC (w : World) (g : Nat) (t : TypeId) (cs : Array Value) : Prop := w.heap[g]? = some (.cells cs t (0, 0))

section
variable {w w' : World} {g : Nat} {t : TypeId} {cs : Array Value}
theorem RowC.at_ (h : RowC w g t cs) : w.heap[g]? = some (.cells cs t (0, 0)) := h
theorem RowC.lt (h : RowC w g t cs) : g < w.heap.size := by
  unfold RowC at h
  exact (Array.getElem?_eq_some_iff.1 h).1
theorem RowC.cell (h : RowC w g t cs) {i : Nat} {v : Value} (hv : cs[i]? = some v) : w.cell? ⟨g, i, none⟩ = some v := by
  unfold RowC at h
  rw [cell_of_row w g i _ t (0, 0) h]
  exact hv
theorem RowC.range (h : RowC w g t cs) : w.rangeAt g 0 cs.toList := fun j v hv => by
  rw [Nat.zero_add]
  exact h.cell (by simpa using hv)
theorem RowC.frozen (h : RowC w g t cs) (i : Nat) : w.frozen? ⟨g, i, none⟩ = false := frozen_of_row w g i _ t h
theorem RowC.new (w : World) (t : TypeId) (cs : Array Value) : RowC (w.alloc (.cells cs t)) w.heap.size t cs := heap_alloc_new w _
theorem RowC.mk_ (w : World) (t : TypeId) (cs : Array Value) {b : Nat} (hb : w.heap.size = b) : RowC (w.alloc (.cells cs t)) b t cs := by
  subst hb
  exact heap_alloc_new w _
theorem RowC.of (h : RowC w g t cs) (e : w'.heap[g]? = w.heap[g]?) : RowC w' g t cs := by unfold RowC at h ⊢; rw [e]; exact h
theorem RowC.drew (h : RowC w g t cs) : RowC w.drew g t cs := h.of rfl
theorem RowC.drewN (h : RowC w g t cs) (n : Nat) : RowC (w.drewN n) g t cs := h.of rfl
theorem RowC.alloc (h : RowC w g t cs) (o : Obj) : RowC (w.alloc o) g t cs := h.of (heap_alloc_old w o h.lt)
theorem RowC.below {B : Nat} (h : RowC w g t cs) (hb : Below B w w') (hg : g < B) : RowC w' g t cs := h.of (hb.block g hg)
theorem RowC.call (h : RowC w g t cs) (hb : Below w.heap.size w w') : RowC w' g t cs := h.below hb h.lt
theorem RowC.row (h : RowC w g t cs) (cs' : Array Value) : RowC (w.setRow g cs') g t cs' := setRow_heap w g _ _ t _ h
theorem RowC.rowFar {g' : Nat} (h : RowC w g t cs) (hne : g ≠ g') (cs' : Array Value) : RowC (w.setRow g' cs') g t cs := h.of (setRow_other w g' g cs' hne)
theorem RowC.far (h : RowC w g t cs) {p : Addr} (hp : g ≠ p.block) (u : Value) : RowC (w.setCell p u) g t cs := h.of (Below.heap_setCell w p u g hp)
theorem RowC.set_ (h : RowC w g t cs) (i : Nat) (v : Value) : RowC (w.setCell ⟨g, i, none⟩ v) g t (cs.setIfInBounds i v) := by
  unfold RowC at h ⊢
  simp only [World.setCell, Array.getElem?_modify, h, Option.map_some]
  simp
end

/-- the blocks of a walk that began in w0 -/
structure Ms (w0 w : World) (L : List (Nat × TypeId × Array Value)) : Prop where
  old : Below w0.heap.size w0 w
  rows : ∀ p ∈ L, RowC w p.1 p.2.1 p.2.2
section
variable {w0 w w' : World} {L : List (Nat × TypeId × Array Value)}
theorem Ms.nil (w : World) : Ms w w [] := ⟨Below.refl _ _, fun _ h => by cases h⟩
theorem Ms.call (h : Ms w0 w L) (hb : Below w.heap.size w w') : Ms w0 w' L := ⟨h.old.trans (hb.mono h.old.size), fun p hp => (h.rows p hp).call hb⟩
theorem below_drewN {B : Nat} {a w : World} (h : Below B a w) (n : Nat) : Below B a (w.drewN n) := h.trans ⟨rfl, rfl, rfl, Nat.le_refl _, fun _ _ => rfl⟩
theorem Ms.drewN (h : Ms w0 w L) (n : Nat) : Ms w0 (w.drewN n) L := ⟨below_drewN h.old n, fun p hp => (h.rows p hp).drewN n⟩
theorem Ms.drew (h : Ms w0 w L) : Ms w0 w.drew L := ⟨h.old.drew, fun p hp => (h.rows p hp).drew⟩
theorem Ms.box (h : Ms w0 w L) (t : TypeId) (cs : Array Value) : Ms w0 (w.alloc (.cells cs t)) ((w.heap.size, t, cs) :: L) :=
  ⟨h.old.alloc h.old.size _, fun p hp => by
    rcases List.mem_cons.1 hp with rfl | hp
    · exact RowC.new _ _ _
    · exact (h.rows p hp).alloc _⟩
theorem Ms.put (h : Ms w0 w L) (t : TypeId) (z cs : Array Value) : Ms w0 ((w.alloc (.cells z t)).setRow w.heap.size cs) ((w.heap.size, t, cs) :: L) :=
  ⟨below_setRow (h.old.alloc h.old.size _) h.old.size cs, fun p hp => by
    rcases List.mem_cons.1 hp with rfl | hp
    · exact (RowC.new _ _ _).row cs
    · exact ((h.rows p hp).alloc _).rowFar (Nat.ne_of_lt (h.rows p hp).lt) cs⟩
theorem Ms.get (h : Ms w0 w L) (i : Nat) {g : Nat} {t : TypeId} {cs : Array Value} (hi : L[i]? = some (g, t, cs)) : RowC w g t cs := h.rows _ (List.mem_of_getElem? hi)
end

/-- a whole row is read, whether guarded (and wanted) or not -/
theorem wpList_loadC {P : Program} {ops : Array Oper} {rest : List Oper} {o : Oper} {a : Act} {w : World} {Q : Exit → Act → World → Prop} (hgd : Region.wanted o (yielded ops a.tmps) = true) (ty : TypeId) (x : Operand) (ho : o.op = .load ty x)
    (g : Nat) (hx : a.eval x = .pointer (some ⟨g, 0, none⟩)) (t : TypeId) (cs : Array Value) (d : TypeDesc) (hg : RowC w g t cs)
    (hu : P.underlying ty = some d) (hd : (match d with | .struct _ | .array _ _ => true | _ => false) = true) (hi : (P.info? ty).map (·.size) = some cs.size)
    (h : wpList P ops Q rest (a.put o.dst (.agg cs)) w) : wpList P ops Q (o :: rest) a w := by
  refine wpList_step fun _ hK => ?_
  rw [if_pos hgd]
  exact wp_load_row ty x ho g hx t cs (0, 0) d hg hu hd hi (hK _ _ h)

/-- an array as result, and a number or bool beside -/
theorem results_cell_two {P : Program} {fn : Func} {p q : Tmp} {ty : TypeId} (h : fn.results = #[.cell p ty, .tmp q]) (tmps : Array Value) (w : World) (g : Nat) (t : TypeId) (cs : Array Value) (d : TypeDesc)
    (hp : tmps.getD p undef = .pointer (some ⟨g, 0, none⟩)) (hg : RowC w g t cs)
    (hu : P.underlying ty = some d) (hd : (match d with | .struct _ | .array _ _ => true | _ => false) = true) (hi : (P.info? ty).map (·.size) = some cs.size) :
    (results fn tmps).run P w = .ok (.tuple #[.agg cs, tmps.getD q undef]) w := by
  have hp' : tmps[p]?.getD undef = .pointer (some ⟨g, 0, none⟩) := by simpa using hp
  simp [results, h, hp', asAddr, run_loadVar_row w g t ty cs (0, 0) d hg hu hd hi]
section
variable {α : Type} (f g : Nat → α) {m j : Nat}
end

/-- a list of numbers as cells -/
def qC (l : List Nat) : Array Value := (l.map qv).toArray
theorem qC_set (l : List Nat) (i x : Nat) : (qC l).setIfInBounds i (.int .u64 (x : Int)) = qC (l.set i x) := by
  simp [qC, List.map_set, qv]
theorem RowC.setN {w : World} {g : Nat} {t : TypeId} {l : List Nat} (h : RowC w g t (qC l)) (i x : Nat) : RowC (w.setCell ⟨g, i, none⟩ (.int .u64 (x : Int))) g t (qC (l.set i x)) := by
  have := h.set_ i (.int .u64 (x : Int))
  rwa [qC_set] at this

end Go.Proofs.YtlidhdljgnijaaaDoor

/-
  TREES IN MEMORY: lists of numbers, lists of lists, and a tree's two parts as cells.
-/
set_option linter.unusedVariables false
namespace Go.Proofs.YtlidhdljgnijaaaDoor
open Go.RowKit

/-- a number as a cell -/
def iv (x : Int) : Value := .int .i64 x
theorem iv_def (x : Int) : iv x = .int .i64 x := rfl

/-- lists in a list: each head reads its list -/
def Lvs (w : World) (B : Nat) (vs : List Value) (ll : List (List Int)) : Prop :=
  vs.length = ll.length ∧ ∀ (i : Nat) (v : Value) (l : List Int), vs[i]? = some v → ll[i]? = some l → ∃ A c, v = .slice A l.length c ∧ l.length ≤ c ∧ c ≤ maxLen ∧ Rd w B A l.length (l.map iv)
theorem Lvs.below {w w' : World} {B : Nat} {vs : List Value} {ll : List (List Int)} (h : Lvs w B vs ll) (hb : Below B w w') : Lvs w' B vs ll :=
  ⟨h.1, fun i v l hv hl => by
    obtain ⟨A, c, e, hc, hm, hr⟩ := h.2 i v l hv hl
    exact ⟨A, c, e, hc, hm, hr.below hb⟩⟩
theorem Lvs.more {w : World} {B B' : Nat} {vs : List Value} {ll : List (List Int)} (h : Lvs w B vs ll) (hb : B ≤ B') : Lvs w B' vs ll :=
  ⟨h.1, fun i v l hv hl => by
    obtain ⟨A, c, e, hc, hm, hr⟩ := h.2 i v l hv hl
    exact ⟨A, c, e, hc, hm, hr.more hb⟩⟩
theorem Lvs.keep {w w' : World} {B B' : Nat} (hk : ∀ (A : Option Addr) (n : Nat) (xs : List Value), Rd w B A n xs → Rd w' B' A n xs) {vs : List Value} {ll : List (List Int)} (h : Lvs w B vs ll) : Lvs w' B' vs ll :=
  ⟨h.1, fun i v l hv hl => by
    obtain ⟨A, c, e, hc, hm, hr⟩ := h.2 i v l hv hl
    exact ⟨A, c, e, hc, hm, hk _ _ _ hr⟩⟩
theorem Lvs.nil (w : World) (B : Nat) : Lvs w B [] [] := ⟨rfl, fun i v l h => by simp at h⟩
theorem Lvs.get {w : World} {B : Nat} {vs : List Value} {ll : List (List Int)} (h : Lvs w B vs ll) {i : Nat} (hi : i < ll.length) :
    ∃ A c, vs[i]? = some (.slice A ll[i].length c) ∧ ll[i].length ≤ c ∧ c ≤ maxLen ∧ Rd w B A ll[i].length (ll[i].map iv) := by
  have hv : i < vs.length := by rw [h.1]; exact hi
  obtain ⟨A, c, e, hc, hm, hr⟩ := h.2 i vs[i] ll[i] (List.getElem?_eq_getElem hv) (List.getElem?_eq_getElem hi)
  exact ⟨A, c, by rw [List.getElem?_eq_getElem hv, e], hc, hm, hr⟩

/-- a tree's cells: its members, and its levels -/
structure ShR (w : World) (B : Nat) (Ai : Option Addr) (ni ci : Nat) (Al : Option Addr) (nl cl : Nat) (ids : List Int) (ll : List (List Int)) : Prop where
  hni : ids.length = ni
  hnl : ll.length = nl
  hci : ni ≤ ci
  hcl : nl ≤ cl
  hmi : ci ≤ maxLen
  hml : cl ≤ maxLen
  hids : Rd w B Ai ni (ids.map iv)
  lvs : ∃ vs, Rd w B Al nl vs ∧ Lvs w B vs ll
theorem ShR.below {w w' : World} {B : Nat} {Ai : Option Addr} {ni ci : Nat} {Al : Option Addr} {nl cl : Nat} {ids : List Int} {ll : List (List Int)} (h : ShR w B Ai ni ci Al nl cl ids ll) (hb : Below B w w') : ShR w' B Ai ni ci Al nl cl ids ll := by
  obtain ⟨vs, h1, h2⟩ := h.lvs
  exact ⟨h.hni, h.hnl, h.hci, h.hcl, h.hmi, h.hml, h.hids.below hb, vs, h1.below hb, h2.below hb⟩
theorem ShR.more {w : World} {B B' : Nat} {Ai : Option Addr} {ni ci : Nat} {Al : Option Addr} {nl cl : Nat} {ids : List Int} {ll : List (List Int)} (h : ShR w B Ai ni ci Al nl cl ids ll) (hb : B ≤ B') : ShR w B' Ai ni ci Al nl cl ids ll := by
  obtain ⟨vs, h1, h2⟩ := h.lvs
  exact ⟨h.hni, h.hnl, h.hci, h.hcl, h.hmi, h.hml, h.hids.more hb, vs, h1.more hb, h2.more hb⟩
/-- a tree as a value -/
def shV (Ai : Option Addr) (ni ci : Nat) (Al : Option Addr) (nl cl : Nat) : Array Value := #[.slice Ai ni ci, .slice Al nl cl]
theorem RowC.grownT {w w' : World} {g : Nat} {t : TypeId} {cs : Array Value} {row : Option Nat} (h : RowC w g t cs) (hg : w.grownBy w' row) (hne : ∀ k, row = some k → g ≠ k) : RowC w' g t cs :=
  h.of (hg.block g h.lt (fun e => hne g e.symm rfl))
/-- rows stay where an own row grows -/
theorem Ms.grownT {w0 w w' : World} {L : List (Nat × TypeId × Array Value)} {row : Option Nat} (h : Ms w0 w L) (hg : w.grownBy w' row) (hr : ∀ k, row = some k → w0.heap.size ≤ k) (hne : ∀ p ∈ L, ∀ k, row = some k → p.1 ≠ k) : Ms w0 w' L :=
  ⟨h.old.grown hg h.old.size hr, fun p hp => (h.rows p hp).grownT hg (hne p hp)⟩
theorem own_blockT {w : World} {base : Nat} {e : TypeId} {size : Nat} {v : Value} {n : Nat} {xs : List Value} (h : w.ownsRow base e size v n xs) : ∀ k, v.ownBlock = some k → base ≤ k := by
  intro k hk
  rcases h.2 with ⟨h1, _⟩ | ⟨g, cap, cur, h1, h2, _⟩
  · subst h1; cases hk
  · subst h1
    have : g = k := by simpa [Value.ownBlock] using hk
    omega
theorem own_ltT {w : World} {base : Nat} {e : TypeId} {size : Nat} {v : Value} {n : Nat} {xs : List Value} (h : w.ownsRow base e size v n xs) : ∀ g, v.ownBlock = some g → g < w.heap.size := by
  intro k hk
  rcases h.2 with ⟨h1, _⟩ | ⟨g, cap, cur, h1, h2, hc, _⟩
  · subst h1; cases hk
  · subst h1
    have : g = k := by simpa [Value.ownBlock] using hk
    subst this
    exact (Array.getElem?_eq_some_iff.1 hc).1
theorem own_cellT {w : World} {base : Nat} {e : TypeId} {size : Nat} {v : Value} {n : Nat} {xs : List Value} (h : w.ownsRow base e size v n xs) {p : Addr} (hp : ∀ g, v.ownBlock = some g → g ≠ p.block) (u : Value) : (w.setCell p u).ownsRow base e size v n xs := by
  refine ⟨h.1, ?_⟩
  rcases h.2 with hn | ⟨g, cap, cur, hv, hb, hc, rest⟩
  · exact .inl hn
  · exact .inr ⟨g, cap, cur, hv, hb, by rw [Below.heap_setCell w p u g (hp g (by rw [hv]; rfl))]; exact hc, rest⟩
theorem own_formT {w : World} {base : Nat} {e : TypeId} {size : Nat} {v : Value} {n : Nat} {xs : List Value} (h : w.ownsRow base e size v n xs) : ∃ A c, v = .slice A n c ∧ n ≤ c ∧ c ≤ maxLen := by
  rcases h.2 with ⟨rfl, rfl⟩ | ⟨g, cap, cur, rfl, _, _, hc, hm, _⟩
  · exact ⟨_, _, rfl, Nat.le_refl _, by simp [maxLen]⟩
  · exact ⟨_, _, rfl, hc, hm⟩

end Go.Proofs.YtlidhdljgnijaaaDoor

/-
  CONTRACTS of the document's SameInts and Find (coterieref10).
-/
set_option linter.unusedVariables false
namespace Go.Proofs.YtlidhdljgnijaaaDoor
open Go.RowKit

def fewT (ids : List Int) (ll : List (List Int)) : Bool := ll.all (fun l => decide (l.length ≤ 1100)) && (decide (ids.length ≤ 1100) && decide (ll.length ≤ 20))
theorem all_take {α : Type} (p : α → Bool) {l : List α} {j : Nat} {x : α} (h : (l.take j).all p = true) (hx : l[j]? = some x) (hp : p x = true) : (l.take (j + 1)).all p = true := by
  rw [List.take_add_one, hx, List.all_append, h]
  simp [hp]
theorem all_not {α : Type} (p : α → Bool) {l : List α} {j : Nat} {x : α} (hx : l[j]? = some x) (hp : p x = false) : l.all p = false := by
  rw [List.all_eq_false]
  exact ⟨x, List.mem_of_getElem? hx, by simp [hp]⟩
theorem FewT_any (Ai : Option Addr) (ni ci : Nat) (Al : Option Addr) (nl cl : Nat) (ids : List Int) (ll : List (List Int)) (w : World) (h : ShR w w.heap.size Ai ni ci Al nl cl ids ll) :
    Calls Tryd.prog 33 #[.agg (shV Ai ni ci Al nl cl)] w fun e w' => e = .returned (.bool (fewT ids ll)) ∧ Below w.heap.size w w' := by
  have Hni := Lib.hid h.hni
  have Hnl := Lib.hid h.hnl
  have hml := h.hml
  have hcl := h.hcl
  obtain ⟨vs, hv, hlv⟩ := h.lvs
  rw [maxLen] at hml
  rw [shV]
  go_enter Tryd.func33, Tryd.ntmps33
  go_wp2_with fail
  go_loopw [8] (fun i wr => ∃ j : Nat, j ≤ nl ∧ i = .int .i64 (j : Int) ∧ (ll.take j).all (fun l => decide (l.length ≤ 1100)) = true ∧ RowC wr w.heap.size 25 #[.slice Ai ni ci, .slice Al nl cl] ∧ Below w.heap.size w wr) (fun i _ => nl - (intOf i).toNat)
  case atStart => exact ⟨0, by omega, rfl, rfl, RowC.new _ _ _, (Below.refl _ _).alloc (Nat.le_refl _) _⟩
  case round =>
    obtain ⟨j, hj, rfl, ht, hR, hb⟩ := hrel
    by_cases hlt : j < nl
    · obtain ⟨A, c, hvj, hc, hm, hrj⟩ := hlv.get (show j < ll.length by rw [Hnl.out]; exact hlt)
      obtain ⟨g, o, rfl, hg, hcell⟩ := (hv.below hb).pos (by omega)
      have c1 := hcell j _ hvj
      have Hlj := Lib.hid (List.getElem?_eq_getElem (show j < ll.length by rw [Hnl.out]; exact hlt))
      clear hcell hvj hrj
      generalize ll[j]'(by rw [Hnl.out]; exact hlt) = l at *
      rw [maxLen] at hm
      by_cases hbig : l.length ≤ 1100
      · have hbig' : ¬ (1100 : Int) < (l.length : Int) := by omega
        have Ht := Lib.hid (all_take _ ht Hlj.out (decide_eq_true hbig))
        clear ht
        go_wp2_with fail
        go_roundw
        case rel => exact ⟨j + 1, by omega, by go_num, Ht.out, hR, hb⟩
        case measure => simp [intOf]; omega
      · have hbig' : (1100 : Int) < (l.length : Int) := by omega
        have Hf := Lib.hid (show fewT ids ll = false by rw [fewT, all_not _ Hlj.out (decide_eq_false hbig)]; rfl)
        clear ht
        go_wp2_with fail
        go_ret
        exact ⟨by rw [Hf.out]; rfl, hb⟩
    · obtain rfl : j = nl := by omega
      rw [List.take_of_length_le (by rw [Hnl.out]; exact Nat.le_refl _)] at ht
      have hc0 := hR.cell (i := 0) (v := .slice Ai ni ci) rfl
      have hc1 := hR.cell (i := 1) (v := .slice Al j cl) rfl
      by_cases hi : ni ≤ 1100
      · have e1 : (ni : Int) ≤ 1100 := by omega
        have Hf := Lib.hid (show fewT ids ll = decide ((j : Int) ≤ 20) by rw [fewT, ht, Hni.out, Hnl.out]; simp [hi]; omega)
        clear ht
        go_wp2_with fail
        go_ret
        exact ⟨by rw [Hf.out]; rfl, hb⟩
      · have e1 : ¬ (ni : Int) ≤ 1100 := by omega
        have Hf := Lib.hid (show fewT ids ll = false by rw [fewT, Hni.out, decide_eq_false hi]; simp)
        clear ht
        go_wp2_with fail
        go_ret
        exact ⟨by rw [Hf.out]; rfl, hb⟩

end Go.Proofs.YtlidhdljgnijaaaDoor

/-
  CONTRACTS of the document's Find, Same and Check (coterieref10).
-/
set_option linter.unusedVariables false
namespace Go.Proofs.YtlidhdljgnijaaaDoor
open Go.RowKit

theorem take_one {α : Type} {l : List α} {j : Nat} {x : α} (hx : l[j]? = some x) : l.take (j + 1) = l.take j ++ [x] := by
  rw [List.take_add_one, hx]; rfl

end Go.Proofs.YtlidhdljgnijaaaDoor

/-
  CONTRACT of the document's Check (coterieref10).
-/
set_option linter.unusedVariables false
namespace Go.Proofs.YtlidhdljgnijaaaDoor
open Go.RowKit

/-- a member at a place that may not be there -/
def badAt (ids : List Int) (i : Nat) : Bool := decide (ids.getD i 0 < 0) || decide (1048576 < ids.getD i 0) || (decide (0 < i) && decide (ids.getD i 0 ≤ ids.getD (i - 1) 0))
def okI (ids : List Int) : Bool := (List.range ids.length).all (fun i => !badAt ids i)
def in23 (l : List Int) : Bool := l.all (fun n => decide (n = 2) || decide (n = 3))
/-- levels over so many nodes may be -/
def chkL : Int → List (List Int) → Bool
  | many, [] => decide (many ≤ 1)
  | many, l :: ls => in23 l && (decide (l.sum = many) && decide (2 ≤ many)) && chkL l.length ls
def chkT (ids : List Int) (ll : List (List Int)) : Bool := decide (ids.length ≤ 1000) && okI ids && chkL ids.length ll
def chkE (ids : List Int) (ll : List (List Int)) : Int := if chkT ids ll then 0 else 1
theorem all_range_succ (p : Nat → Bool) (j : Nat) : (List.range (j + 1)).all p = ((List.range j).all p && p j) := by rw [List.range_succ, List.all_append]; simp
theorem all_range_not {p : Nat → Bool} {j n : Nat} (h : j < n) (hp : p j = false) : (List.range n).all p = false := by
  rw [List.all_eq_false]
  exact ⟨j, List.mem_range.2 h, by simp [hp]⟩
theorem in23_sum : ∀ (l : List Int), in23 l = true → 0 ≤ l.sum ∧ l.sum ≤ 3 * l.length
  | [], _ => by simp
  | x :: l, h => by
    simp only [in23, List.all_cons, Bool.and_eq_true, Bool.or_eq_true, decide_eq_true_eq] at h
    have := in23_sum l (by rw [in23]; exact h.2)
    simp only [List.sum_cons, List.length_cons]
    omega

end Go.Proofs.YtlidhdljgnijaaaDoor

/-
  CONTRACT of the document's Path (coterieref10).
-/
set_option linter.unusedVariables false
namespace Go.Proofs.YtlidhdljgnijaaaDoor
open Go.RowKit

def natL (l : List Int) : List Nat := l.map Int.toNat
def lvN (ll : List (List Int)) : List (List Nat) := ll.map natL
theorem in23_nat : ∀ (l : List Int), in23 l = true → two3 (natL l) ∧ (((natL l).sum : Nat) : Int) = l.sum ∧ ∀ k (hk : k < l.length), l[k] = ((natL l)[k]'(by rw [natL, List.length_map]; exact hk) : Nat)
  | [], _ => ⟨fun x hx => by simp [natL] at hx, rfl, fun k hk => by simp at hk⟩
  | x :: l, h => by
    simp only [in23, List.all_cons, Bool.and_eq_true, Bool.or_eq_true, decide_eq_true_eq] at h
    obtain ⟨h1, h2, h3⟩ := in23_nat l (by rw [in23]; exact h.2)
    refine ⟨fun y hy => ?_, ?_, fun k hk => ?_⟩
    · simp only [natL, List.map_cons, List.mem_cons] at hy
      rcases hy with rfl | hy
      · omega
      · exact h1 y hy
    · simp only [natL, List.map_cons, List.sum_cons] at h2 ⊢
      omega
    · cases k with
      | zero => simp only [natL, List.map_cons, List.getElem_cons_zero]; omega
      | succ k =>
        have := h3 k (by simpa using hk)
        simpa [natL] using this
theorem chkL_ok : ∀ (ll : List (List Int)) (many : Nat), chkL (many : Int) ll = true → lvOK many (lvN ll) ∧ ∀ l ∈ ll, in23 l = true
  | [], many, h => by
    simp only [chkL, decide_eq_true_eq] at h
    exact ⟨show many ≤ 1 by omega, fun l hl => by simp at hl⟩
  | l :: ll, many, h => by
    simp only [chkL, Bool.and_eq_true, decide_eq_true_eq] at h
    obtain ⟨⟨h1, h2, h3⟩, h4⟩ := h
    obtain ⟨n1, n2, _⟩ := in23_nat l h1
    obtain ⟨r1, r2⟩ := chkL_ok ll l.length h4
    refine ⟨⟨by omega, n1, by omega, ?_⟩, fun x hx => ?_⟩
    · rw [natL, List.length_map]; exact r1
    · rcases List.mem_cons.1 hx with rfl | hx
      · exact h1
      · exact r2 x hx
theorem chkT_lv {ids : List Int} {ll : List (List Int)} (h : chkT ids ll = true) : ids.length ≤ 1000 ∧ okI ids = true ∧ lvOK ids.length (lvN ll) ∧ ∀ l ∈ ll, in23 l = true := by
  rw [chkT, Bool.and_eq_true, Bool.and_eq_true, decide_eq_true_eq] at h
  obtain ⟨r1, r2⟩ := chkL_ok ll ids.length h.2
  exact ⟨h.1.1, h.1.2, r1, r2⟩
theorem okI_at {ids : List Int} (h : okI ids = true) {i : Nat} (hi : i < ids.length) : 0 ≤ ids[i] ∧ ids[i] ≤ 1048576 ∧ (0 < i → ids.getD (i - 1) 0 < ids[i]) := by
  rw [okI, List.all_eq_true] at h
  have := h i (List.mem_range.2 hi)
  have e : ids.getD i 0 = ids[i] := by rw [List.getD_eq_getElem?_getD, List.getElem?_eq_getElem hi]; rfl
  rw [badAt, e] at this
  simp only [Bool.not_eq_true', Bool.or_eq_false_iff, Bool.and_eq_false_iff, decide_eq_false_iff_not] at this
  exact ⟨by omega, by omega, fun h0 => by omega⟩
/-- members rise -/
theorem okI_rise : ∀ (ids : List Int), okI ids = true → ids.Pairwise (· < ·) := by
  intro ids h
  rw [List.pairwise_iff_getElem]
  have H : ∀ (d i : Nat) (hi : i + d + 1 < ids.length), ids[i] < ids[i + d + 1] := by
    intro d
    induction d with
    | zero =>
      intro i hi
      have := (okI_at h hi).2.2 (by omega)
      rw [show i + 0 + 1 - 1 = i by omega, List.getD_eq_getElem?_getD, List.getElem?_eq_getElem (by omega)] at this
      exact this
    | succ d ih =>
      intro i hi
      have h1 := ih i (by omega)
      have h2 := (okI_at h hi).2.2 (by omega)
      rw [show i + (d + 1) + 1 - 1 = i + d + 1 by omega, List.getD_eq_getElem?_getD, List.getElem?_eq_getElem (by omega)] at h2
      exact Int.lt_trans h1 h2
  intro i j hi hj hij
  have := H (j - i - 1) i (by omega)
  simpa [show i + (j - i - 1) + 1 = j by omega] using this
theorem rise_bel : ∀ (ids : List Int) (id : Int), ids.Pairwise (· < ·) → isT ids id = true → ∃ h : belT ids id < ids.length, ids[belT ids id] = id
  | [], id, _, h => by simp [isT] at h
  | x :: l, id, hp, h => by
    rw [List.pairwise_cons] at hp
    by_cases hx : x < id
    · have e : belT (x :: l) id = belT l id + 1 := by simp [belT, hx]
      have h' : isT l id = true := by
        simp only [isT, List.any_cons, Bool.or_eq_true, beq_iff_eq] at h ⊢
        rcases h with h | h
        · omega
        · exact h
      obtain ⟨h1, h2⟩ := rise_bel l id hp.2 h'
      refine ⟨by rw [e, List.length_cons]; omega, ?_⟩
      simp only [e, List.getElem_cons_succ]
      exact h2
    · have hz : belT l id = 0 := by
        rw [belT, List.countP_eq_zero]
        intro y hy
        have := hp.1 y hy
        simp; omega
      have e : belT (x :: l) id = 0 := by
        rw [belT, List.countP_cons]
        rw [belT] at hz
        simp [hz, hx]
      have hxi : x = id := by
        simp only [isT, List.any_cons, Bool.or_eq_true, beq_iff_eq, List.any_eq_true] at h
        rcases h with h | ⟨y, hy, h⟩
        · exact h
        · have := hp.1 y hy
          omega
      exact ⟨by rw [e]; simp, by simp only [e, List.getElem_cons_zero]; exact hxi⟩

theorem intInfo : (Tryd.prog.info? 3).map (fun i => (i.zero, i.size, i.bytes)) = some (some (.int .i64 0), 1, 8) := by kernel_rfl
theorem one_iv (l : List Int) : ∀ u ∈ l.map iv, u.oneCell' = true := by
  intro u hu
  obtain ⟨x, _, rfl⟩ := List.mem_map.1 hu
  rfl
end Go.Proofs.YtlidhdljgnijaaaDoor

/-
  CONTRACTS of the program's small functions (tree): mayBe, members, covers, grouped, Check, Find, groupOf, neighbour.
-/
set_option linter.unusedVariables false
namespace Go.Proofs.YtlidhdljgnijaaaDoor
open Go.RowKit

def mayT (x : Int) : Bool := decide (0 ≤ x) && decide (x ≤ 1048576)
theorem PMayBe_any (x : Int) (w : World) : Calls Tryd.prog 82 #[.int .i64 x] w fun e w' => e = .returned (.bool (mayT x)) ∧ w' = w := by
  go_enter Tryd.func82, Tryd.ntmps82
  by_cases h0 : 0 ≤ x
  · go_wp2_with fail
    go_ret
    exact ⟨by rw [mayT, decide_eq_true h0]; rfl, rfl⟩
  · go_wp2_with fail
    go_ret
    exact ⟨by rw [mayT, decide_eq_false (show ¬ 0 ≤ x by omega)]; rfl, rfl⟩

theorem badAt_may {ids : List Int} {j : Nat} {x : Int} (h : ids.getD j 0 = x) : badAt ids j = (!mayT x || (decide (0 < j) && decide (x ≤ ids.getD (j - 1) 0))) := by
  rw [badAt, h, mayT]
  by_cases h0 : x < 0
  · rw [decide_eq_true h0, decide_eq_false (show ¬ 0 ≤ x by omega)]; rfl
  · rw [decide_eq_false h0, decide_eq_true (show 0 ≤ x by omega)]
    by_cases h1 : 1048576 < x
    · rw [decide_eq_true h1, decide_eq_false (show ¬ x ≤ 1048576 by omega)]; rfl
    · rw [decide_eq_false h1, decide_eq_true (show x ≤ 1048576 by omega)]; rfl

set_option maxHeartbeats 1000000 in
theorem PMembers_any (A : Option Addr) (n c : Nat) (ids : List Int) (w : World) (hc : n ≤ c) (hm : c ≤ maxLen) (h : Rd w w.heap.size A n (ids.map iv)) :
    Calls Tryd.prog 53 #[.slice A n c] w fun e w' => e = .returned (.bool (decide (ids.length ≤ 1000) && okI ids)) ∧ w' = w := by
  have Hni := Lib.hid (show ids.length = n by simpa using h.len)
  rw [maxLen] at hm
  go_enter Tryd.func53, Tryd.ntmps53
  by_cases h1000 : n ≤ 1000
  rotate_left
  · have hg : (1000 : Int) < (n : Int) := by omega
    have He := Lib.hid (show (decide (ids.length ≤ 1000) && okI ids) = false by rw [Hni.out, decide_eq_false h1000]; rfl)
    go_wp2_with fail
    go_ret
    exact ⟨by rw [He.out]; rfl, rfl⟩
  have hg : ¬ (1000 : Int) < (n : Int) := by omega
  have Hall := Lib.hid (show (decide (ids.length ≤ 1000) && okI ids) = okI ids by rw [Hni.out, decide_eq_true h1000]; rfl)
  go_wp2_with fail
  go_loopw [10] (fun i wr => ∃ j : Nat, j ≤ n ∧ i = .int .i64 (j : Int) ∧ (List.range j).all (fun i => !badAt ids i) = true ∧ wr = w) (fun i _ => n - (intOf i).toNat)
  case atStart => exact ⟨0, by omega, rfl, rfl, rfl⟩
  case round =>
    obtain ⟨j, hj, rfl, ht, rfl⟩ := hrel
    by_cases hlt : j < n
    · obtain ⟨x, hx⟩ : ∃ x, ids[j]? = some x := ⟨_, List.getElem?_eq_getElem (by rw [Hni.out]; exact hlt)⟩
      obtain ⟨g, o, rfl, hgl, hcell⟩ := h.pos (by omega)
      have c1 := hcell j (iv x) (by rw [List.getElem?_map, hx]; rfl)
      rw [iv_def] at c1
      have hxd : ids.getD j 0 = x := by rw [List.getD_eq_getElem?_getD, hx]; rfl
      have Hbj := Lib.hid (badAt_may hxd)
      have Hnot := Lib.hid (show badAt ids j = true → (decide (ids.length ≤ 1000) && okI ids) = false from fun hb => by
        rw [Hall.out, okI, all_range_not (show j < ids.length by rw [Hni.out]; exact hlt) (by rw [hb]; rfl)])
      have Hyes := Lib.hid (show badAt ids j = false → (List.range (j + 1)).all (fun i => !badAt ids i) = true from fun hb => by rw [all_range_succ, ht, hb]; rfl)
      clear ht hx hxd
      by_cases hx0 : mayT x = true
      rotate_left
      · have hx1 : mayT x = false := by simpa using hx0
        have He := Lib.hid (Hnot.out (by rw [Hbj.out, hx1]; rfl))
        clear hcell hx0
        go_wp2_with fail
        refine (PMayBe_any x _).mono ?_
        rintro e w1 ⟨rfl, rfl⟩
        rw [hx1]
        clear hx1
        go_wp2_with fail
        go_ret
        exact ⟨by rw [He.out]; rfl, rfl⟩
      by_cases hj0 : 0 < j
      rotate_left
      · have Ht := Lib.hid (Hyes.out (by rw [Hbj.out, hx0, decide_eq_false hj0]; rfl))
        have hj0' : ¬ (0 : Int) < (j : Int) := by omega
        clear hcell hj0
        go_wp2_with fail
        refine (PMayBe_any x _).mono ?_
        rintro e w1 ⟨rfl, rfl⟩
        rw [hx0]
        clear hx0
        go_wp2_with fail
        go_roundw
        case rel => exact ⟨j + 1, by omega, by go_num, Ht.out, trivial⟩
        case measure => simp [intOf]; omega
      obtain ⟨y, hy⟩ : ∃ y, ids[j - 1]? = some y := ⟨_, List.getElem?_eq_getElem (by rw [Hni.out]; omega)⟩
      have c2 := hcell (j - 1) (iv y) (by rw [List.getElem?_map, hy]; rfl)
      rw [iv_def] at c2
      have hyd : ids.getD (j - 1) 0 = y := by rw [List.getD_eq_getElem?_getD, hy]; rfl
      rw [hyd] at Hbj
      have hj0' : (0 : Int) < (j : Int) := by omega
      have q0 : IntKind.i64.wrap ((j : Int) - 1) = (j : Int) - 1 := by rw [IntKind.wrap_i64]; omega
      have q1 : ((j : Int) - 1).toNat = j - 1 := by omega
      have q2 : (0 : Int) ≤ (j : Int) - 1 := by omega
      have q3 : (j : Int) - 1 < (n : Int) := by omega
      clear hcell hy hyd
      by_cases hxy : x ≤ y
      · have He := Lib.hid (Hnot.out (by rw [Hbj.out, decide_eq_true hj0, decide_eq_true hxy]; simp))
        clear hj0
        go_wp2_with fail
        refine (PMayBe_any x _).mono ?_
        rintro e w1 ⟨rfl, rfl⟩
        rw [hx0]
        clear hx0
        go_wp2_with fail
        go_ret
        exact ⟨by rw [He.out]; rfl, rfl⟩
      · have Ht := Lib.hid (Hyes.out (by rw [Hbj.out, hx0, decide_eq_true hj0, decide_eq_false hxy]; rfl))
        clear hj0
        go_wp2_with fail
        refine (PMayBe_any x _).mono ?_
        rintro e w1 ⟨rfl, rfl⟩
        rw [hx0]
        clear hx0
        go_wp2_with fail
        go_roundw
        case rel => exact ⟨j + 1, by omega, by go_num, Ht.out, trivial⟩
        case measure => simp [intOf]; omega
    · obtain rfl : j = n := by omega
      have He := Lib.hid (show (decide (ids.length ≤ 1000) && okI ids) = true by rw [Hall.out, okI, Hni.out, ht])
      clear ht
      go_wp2_with fail
      go_ret
      exact ⟨by rw [He.out]; rfl, rfl⟩

set_option maxHeartbeats 1000000 in
theorem PCovers_any (A : Option Addr) (n c : Nat) (l : List Int) (many : Int) (w : World) (hc : n ≤ c) (hm : c ≤ maxLen) (hl : n ≤ 1000000) (h0 : 0 ≤ many) (h1 : many ≤ 1000000) (h : Rd w w.heap.size A n (l.map iv)) :
    Calls Tryd.prog 83 #[.slice A n c, .int .i64 many] w fun e w' => e = .returned (.bool (in23 l && decide (l.sum = many))) ∧ w' = w := by
  have Hni := Lib.hid (show l.length = n by simpa using h.len)
  rw [maxLen] at hm
  go_enter Tryd.func83, Tryd.ntmps83
  go_wp2_with fail
  go_loopw [1, 9] (fun s i wr => ∃ k : Nat, k ≤ n ∧ i = .int .i64 (k : Int) ∧ s = .int .i64 (many - (l.take k).sum) ∧ in23 (l.take k) = true ∧ wr = w) (fun _ i _ => n - (intOf i).toNat)
  case atStart => exact ⟨0, by omega, rfl, by simp, rfl, rfl⟩
  case round =>
    obtain ⟨k, hk, rfl, rfl, hin, rfl⟩ := hrel
    have hsum := in23_sum _ hin
    rw [List.length_take] at hsum
    by_cases hlt : k < n
    · obtain ⟨x, hx⟩ : ∃ x, l[k]? = some x := ⟨_, List.getElem?_eq_getElem (by rw [Hni.out]; exact hlt)⟩
      obtain ⟨g, o, rfl, hgl, hcell⟩ := h.pos (by omega)
      have c1 := hcell k (iv x) (by rw [List.getElem?_map, hx]; rfl)
      rw [iv_def] at c1
      have Ht := Lib.hid (take_one hx)
      have Hnot := Lib.hid (show ¬ (x = 2 ∨ x = 3) → (in23 l && decide (l.sum = many)) = false from fun hne => by
        rw [show in23 l = false from all_not _ hx (by simp only [Bool.or_eq_false_iff, decide_eq_false_iff_not]; omega)]; rfl)
      have hs0 : (0 : Int) ≤ (l.take k).sum ∧ (l.take k).sum ≤ 3000000 := by omega
      have Hin := Lib.hid hin
      clear hin hsum hcell hx
      by_cases h2 : x = 2
      · subst h2
        have hw : IntKind.i64.wrap (many - (l.take k).sum - 2) = many - (l.take k).sum - 2 := by rw [IntKind.wrap_i64]; omega
        have Hs2 := Lib.hid (show (l.take (k + 1)).sum = (l.take k).sum + 2 by rw [Ht.out, List.sum_append]; simp)
        have Hi2 := Lib.hid (show in23 (l.take (k + 1)) = true by rw [Ht.out, in23, List.all_append, ← in23, Hin.out]; rfl)
        generalize (l.take k).sum = sm at *
        go_wp2_with fail
        go_roundw
        case rel => exact ⟨k + 1, by omega, by go_num, by rw [Hs2.out]; congr 1; omega, Hi2.out, trivial⟩
        case measure => simp [intOf]; omega
      by_cases h3 : x = 3
      · subst h3
        have hw : IntKind.i64.wrap (many - (l.take k).sum - 3) = many - (l.take k).sum - 3 := by rw [IntKind.wrap_i64]; omega
        have Hs2 := Lib.hid (show (l.take (k + 1)).sum = (l.take k).sum + 3 by rw [Ht.out, List.sum_append]; simp)
        have Hi2 := Lib.hid (show in23 (l.take (k + 1)) = true by rw [Ht.out, in23, List.all_append, ← in23, Hin.out]; rfl)
        generalize (l.take k).sum = sm at *
        go_wp2_with fail
        go_roundw
        case rel => exact ⟨k + 1, by omega, by go_num, by rw [Hs2.out]; congr 1; omega, Hi2.out, trivial⟩
        case measure => simp [intOf]; omega
      have He := Lib.hid (Hnot.out (by omega))
      have q2 : (x != 2) = true := by rw [bne_iff_ne]; exact h2
      have q3 : (x != 3) = true := by rw [bne_iff_ne]; exact h3
      clear h2 h3
      go_wp2_with fail
      go_ret
      exact ⟨by rw [He.out]; rfl, rfl⟩
    · obtain rfl : k = n := by omega
      rw [List.take_of_length_le (by rw [Hni.out]; exact Nat.le_refl _)] at hin hsum ⊢
      have Hs := Lib.hid (show (in23 l && decide (l.sum = many)) = ((many - l.sum) == 0) by
        rw [hin, Bool.true_and, Bool.eq_iff_iff, decide_eq_true_eq, beq_iff_eq]; omega)
      clear hin hsum
      go_wp2_with fail
      go_ret
      exact ⟨by rw [Hs.out]; rfl, rfl⟩

theorem cov_two {l : List Int} {many : Int} (h1 : 1 ≤ many) (hi : in23 l = true) (hs : l.sum = many) : 2 ≤ many ∧ 1 ≤ (l.length : Int) := by
  match l, hi, hs with
  | [], _, hs => simp at hs; omega
  | x :: l, hi, hs =>
    simp only [in23, List.all_cons, Bool.and_eq_true, Bool.or_eq_true, decide_eq_true_eq] at hi
    have := (in23_sum l (by rw [in23]; exact hi.2)).1
    simp only [List.sum_cons] at hs
    simp only [List.length_cons]
    omega

set_option maxHeartbeats 1000000 in
theorem PGrouped_any (Al : Option Addr) (nl cl : Nat) (vs : List Value) (ll : List (List Int)) (many : Int) (w : World) (hcl : nl ≤ cl) (hml : cl ≤ maxLen) (h0 : 0 ≤ many) (h1 : many ≤ 1000000) (hf : ∀ l ∈ ll, l.length ≤ 1000000)
    (hnl : ll.length = nl) (hv : Rd w w.heap.size Al nl vs) (hlv : Lvs w w.heap.size vs ll) :
    Calls Tryd.prog 54 #[.slice Al nl cl, .int .i64 many] w fun e w' => e = .returned (.bool (chkL many ll)) ∧ w' = w := by
  have Hnl := Lib.hid hnl
  rw [maxLen] at hml
  clear hnl
  go_enter Tryd.func54, Tryd.ntmps54
  by_cases h2 : many < 2
  · have He := Lib.hid (show chkL many ll = ((nl : Int) == 0) by
      match ll, Hnl.out with
      | [], hn =>
        have : nl = 0 := by rw [← hn]; rfl
        subst this
        rw [chkL, decide_eq_true (show many ≤ 1 by omega)]; rfl
      | l :: ls, hn =>
        have : ¬ nl = 0 := by rw [← hn]; simp
        rw [chkL, decide_eq_false (show ¬ 2 ≤ many by omega), Bool.and_false, Bool.and_false, Bool.false_and]
        symm
        rw [beq_eq_false_iff_ne]
        omega)
    go_wp2_with fail
    go_ret
    exact ⟨by rw [He.out]; rfl, rfl⟩
  go_wp2_with fail
  go_loopw [1, 14] (fun m i wr => ∃ (q : Nat) (mq : Int), q ≤ nl ∧ i = .int .i64 (q : Int) ∧ m = .int .i64 mq ∧ 1 ≤ mq ∧ mq ≤ 1000000 ∧ chkL many ll = chkL mq (ll.drop q) ∧ wr = w) (fun _ i _ => nl - (intOf i).toNat)
  case atStart => exact ⟨0, many, by omega, rfl, rfl, by omega, h1, rfl, rfl⟩
  case round =>
    clear h0 h1 h2
    obtain ⟨q, mq, hq, rfl, rfl, hm1, hmb, hch, rfl⟩ := hrel
    by_cases hlt : q < nl
    · have hql : q < ll.length := by rw [Hnl.out]; exact hlt
      obtain ⟨A, c, hvj, hc, hm, hrj⟩ := hlv.get hql
      obtain ⟨g, o, rfl, hgl, hcell⟩ := hv.pos (by omega)
      have c1 := hcell q _ hvj
      have Hd := Lib.hid (show ll.drop q = ll[q] :: ll.drop (q + 1) from List.drop_eq_getElem_cons hql)
      have hlm := hf _ (List.getElem_mem hql)
      clear hcell hvj
      generalize ll[q] = l at *
      have Hch := Lib.hid (show chkL many ll = (in23 l && (decide (l.sum = mq) && decide (2 ≤ mq)) && chkL l.length (ll.drop (q + 1))) by rw [hch, Hd.out]; rfl)
      have Hcov := Lib.hid (fun hi hs => cov_two (l := l) hm1 hi hs)
      clear hch
      go_wp2_with fail
      refine (PCovers_any A l.length c l mq _ hc hm hlm (by omega) hmb hrj).mono ?_
      rintro e w1 ⟨rfl, rfl⟩
      by_cases hk : (in23 l && decide (l.sum = mq)) = true
      · rw [hk]
        rw [Bool.and_eq_true, decide_eq_true_eq] at hk
        obtain ⟨k2, k3⟩ := Hcov.out hk.1 hk.2
        have Ht := Lib.hid (show chkL many ll = chkL l.length (ll.drop (q + 1)) by rw [Hch.out, hk.1, decide_eq_true hk.2, decide_eq_true k2]; rfl)
        clear hk k2
        go_wp2_with fail
        go_roundw
        case rel => exact ⟨q + 1, l.length, by omega, by go_num, rfl, k3, by omega, Ht.out, trivial⟩
        case measure => simp [intOf]; omega
      · have hkf : (in23 l && decide (l.sum = mq)) = false := by simpa using hk
        have He := Lib.hid (show chkL many ll = false by rw [Hch.out, ← Bool.and_assoc, hkf]; rfl)
        rw [hkf]
        clear hk hkf
        go_wp2_with fail
        go_ret
        exact ⟨by rw [He.out]; rfl, rfl⟩
    · obtain rfl : q = nl := by omega
      rw [List.drop_of_length_le (by rw [Hnl.out]; exact Nat.le_refl _)] at hch
      have He := Lib.hid (show chkL many ll = (mq == 1) by
        rw [hch, chkL, Bool.eq_iff_iff, decide_eq_true_eq, beq_iff_eq]; omega)
      clear hch
      go_wp2_with fail
      go_ret
      exact ⟨by rw [He.out]; rfl, rfl⟩

end Go.Proofs.YtlidhdljgnijaaaDoor

/-
  CONTRACTS of the program's Check, Find, groupOf, neighbour (tree).
-/
set_option linter.unusedVariables false
namespace Go.Proofs.YtlidhdljgnijaaaDoor
open Go.RowKit

theorem PFind_any (Ai : Option Addr) (ni ci : Nat) (Al : Option Addr) (nl cl : Nat) (ids : List Int) (id : Int) (w : World) (hni : ids.length = ni) (hci : ni ≤ ci) (hmi : ci ≤ maxLen) (h : Rd w w.heap.size Ai ni (ids.map iv)) :
    Calls Tryd.prog 39 #[.agg (shV Ai ni ci Al nl cl), .int .i64 id] w fun e w' => e = .returned (.tuple #[.int .i64 (belT ids id : Int), .bool (isT ids id)]) ∧ Below w.heap.size w w' := by
  have Hni := Lib.hid hni
  rw [maxLen] at hmi
  clear hni
  rw [shV]
  go_enter Tryd.func39, Tryd.ntmps39
  go_wp2_with fail
  go_loopw [6, 7, 13] (fun b t i wr => ∃ j : Nat, j ≤ ni ∧ i = .int .i64 (j : Int) ∧ b = .int .i64 (belT (ids.take j) id : Int) ∧ t = .bool (isT (ids.take j) id) ∧ Below w.heap.size w wr) (fun _ _ i _ => ni - (intOf i).toNat)
  case atStart => exact ⟨0, by omega, rfl, rfl, rfl, (Below.refl _ _).alloc (Nat.le_refl _) _⟩
  case round =>
    obtain ⟨j, hj, rfl, rfl, rfl, hb⟩ := hrel
    by_cases hlt : j < ni
    · obtain ⟨x, hx⟩ : ∃ x, ids[j]? = some x := ⟨_, List.getElem?_eq_getElem (by rw [Hni.out]; exact hlt)⟩
      obtain ⟨g, o, rfl, hg, hcell⟩ := (h.below hb).pos (by omega)
      have c1 := hcell j (iv x) (by rw [List.getElem?_map, hx]; rfl)
      rw [iv_def] at c1
      have hbl : belT (ids.take j) id ≤ j := Nat.le_trans List.countP_le_length (by rw [List.length_take]; omega)
      have Hb := Lib.hid (show belT (ids.take (j + 1)) id = belT (ids.take j) id + if x < id then 1 else 0 by
        rw [take_one hx, belT, List.countP_append]; simp [belT])
      have Ht := Lib.hid (show isT (ids.take (j + 1)) id = (isT (ids.take j) id || (x == id)) by
        rw [take_one hx, isT, List.any_append]; simp [isT])
      clear hcell hx
      generalize belT (ids.take j) id = bj at *
      generalize isT (ids.take j) id = tj at *
      have hw1 : IntKind.i64.wrap ((bj : Int) + 1) = (bj : Int) + 1 := by rw [IntKind.wrap_i64]; omega
      by_cases hxi : x < id
      · rw [if_pos hxi] at Hb
        cases tj
        · go_wp2_with fail
          go_roundw
          case rel => exact ⟨j + 1, by omega, by go_num, by rw [Hb.out]; rfl, by rw [Ht.out]; rfl, hb⟩
          case measure => simp [intOf]; omega
        · go_wp2_with fail
          go_roundw
          case rel => exact ⟨j + 1, by omega, by go_num, by rw [Hb.out]; rfl, by rw [Ht.out]; rfl, hb⟩
          case measure => simp [intOf]; omega
      · rw [if_neg hxi] at Hb
        cases tj
        · go_wp2_with fail
          go_roundw
          case rel => exact ⟨j + 1, by omega, by go_num, by rw [Hb.out]; rfl, by rw [Ht.out]; rfl, hb⟩
          case measure => simp [intOf]; omega
        · go_wp2_with fail
          go_roundw
          case rel => exact ⟨j + 1, by omega, by go_num, by rw [Hb.out]; rfl, by rw [Ht.out]; rfl, hb⟩
          case measure => simp [intOf]; omega
    · obtain rfl : j = ni := by omega
      rw [List.take_of_length_le (by rw [Hni.out]; exact Nat.le_refl _)]
      go_wp2_with fail
      exact bodyPost_ret (results_tmp2 rfl _ _ _) rfl ⟨rfl, hb⟩


theorem PCheck_any (Ai : Option Addr) (ni ci : Nat) (Al : Option Addr) (nl cl : Nat) (ids : List Int) (ll : List (List Int)) (w : World) (h : ShR w w.heap.size Ai ni ci Al nl cl ids ll) (hf : ∀ l ∈ ll, l.length ≤ 1000000) (hi6 : ni ≤ 1000000) :
    Calls Tryd.prog 28 #[.agg (shV Ai ni ci Al nl cl)] w fun e w' => e = .returned (.int .i64 (chkE ids ll)) ∧ Below w.heap.size w w' := by
  have Hni := Lib.hid h.hni
  have hM := (Ms.nil w).box 25 #[.slice Ai ni ci, .slice Al nl cl]
  have hmem := PMembers_any Ai ni ci ids (w.alloc (.cells #[.slice Ai ni ci, .slice Al nl cl] 25)) h.hci h.hmi ((h.hids.below hM.old).more hM.old.size)
  obtain ⟨vs, hv, hlv⟩ := h.lvs
  have hgr := PGrouped_any Al nl cl vs ll (ni : Int) (w.alloc (.cells #[.slice Ai ni ci, .slice Al nl cl] 25)) h.hcl h.hml (by omega) (by omega) hf h.hnl ((hv.below hM.old).more hM.old.size) ((hlv.below hM.old).more hM.old.size)
  have Hk := Lib.hid (show chkT ids ll = ((decide (ids.length ≤ 1000) && okI ids) && chkL (ni : Int) ll) by rw [chkT, h.hni])
  clear h
  rw [shV]
  go_enter Tryd.func28, Tryd.ntmps28
  go_wp2_with fail
  refine hmem.mono ?_
  rintro e w1 ⟨rfl, rfl⟩
  by_cases h1 : (decide (ids.length ≤ 1000) && okI ids) = true
  rotate_left
  · have h1f : (decide (ids.length ≤ 1000) && okI ids) = false := by simpa using h1
    have He := Lib.hid (show chkE ids ll = 1 by rw [chkE, Hk.out, h1f]; rfl)
    rw [h1f]
    clear h1 h1f
    go_wp2_with fail
    go_ret
    exact ⟨by rw [He.out]; rfl, hM.old⟩
  have Hk2 := Lib.hid (show chkE ids ll = if chkL (ni : Int) ll then 0 else 1 by rw [chkE, Hk.out, h1]; rfl)
  rw [h1]
  clear h1
  go_wp2_with fail
  refine hgr.mono ?_
  rintro e w1 ⟨rfl, rfl⟩
  cases hb : chkL (ni : Int) ll
  · have He := Lib.hid (show chkE ids ll = 1 by rw [Hk2.out, hb]; rfl)
    clear hb
    go_wp2_with fail
    go_ret
    exact ⟨by rw [He.out]; rfl, hM.old⟩
  · have He := Lib.hid (show chkE ids ll = 0 by rw [Hk2.out, hb]; rfl)
    clear hb
    go_wp2_with fail
    go_ret
    exact ⟨by rw [He.out]; rfl, hM.old⟩

end Go.Proofs.YtlidhdljgnijaaaDoor

/-
  CONTRACTS of slices.BinarySearch over rising numbers, and of the program's refused (tree).
-/
set_option linter.unusedVariables false
namespace Go.Proofs.YtlidhdljgnijaaaDoor
open Go.RowKit

end Go.Proofs.YtlidhdljgnijaaaDoor

