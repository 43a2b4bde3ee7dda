import Derived.Test.YtbickllpledlbaaG39
import Derived.Test.YtbickllpledlbaaG30
import Derived.RangeFuncBox
import Derived.Shelf.Abstract
import Derived.Shelf.RegionOpen
import Derived.WalkKit
import Derived.OwnWalkIn
import Derived.TacticsInMore
import Derived.LoopNIn
import Derived.LoopIn
import Derived.Test.YtbickllpledlbaaG32
import Derived.Test.YtbickllpledlbaaG35
import Derived.Test.YtbickllpledlbaaG33
import Derived.Test.YtbickllpledlbaaG36
import Derived.Test.YtbickllpledlbaaG38
/-
  CONTRACTS of slices.Backward over nodes, and of the iterator that it hands back: node after node from the last one on, for every loop body that keeps the box and the row that the iterator reads.
-/
set_option linter.unusedVariables false
namespace Go.Proofs.Ytbickllpledlbaa
open Go.RowKit Go.Shelf

attribute [local go_sem] Oper.semAt_some

/-- two blocks lie as they lay -/
def KpB (bS g : Nat) (W W' : World) : Prop := W'.heap[bS]? = W.heap[bS]? ∧ W'.heap[g]? = W.heap[g]?
theorem KpB.trans {bS g : Nat} {A B C : World} (h : KpB bS g A B) (k : KpB bS g B C) : KpB bS g A C := ⟨k.1.trans h.1, k.2.trans h.2⟩
theorem KpB.putObj {bS g B : Nat} (h1 : bS < B) (h2 : g < B) (W : World) (l : Nat) (o o' : Obj) (hl : B ≤ l) : KpB bS g W (W.putObj l o') := by
  unfold KpB World.putObj
  constructor
  · exact Array.getElem?_setIfInBounds_ne (by omega)
  · exact Array.getElem?_setIfInBounds_ne (by omega)
theorem take_finB {m j : Nat} (h : j < m) : (List.finRange m).take (j + 1) = (List.finRange m).take j ++ [⟨j, h⟩] := by
  rw [List.take_succ_eq_append_getElem (by simpa using h)]
  simp
theorem take_fin_lenB {m j : Nat} (h : j ≤ m) : ((List.finRange m).take j).length = j := by simp; omega
/-- the cells of the node at a place -/
def cellsAt (ns : List RI) (us : List Value) (i : Nat) : List Value := match ns[i]?, us[i]? with
  | some x, some u => riC x u
  | _, _ => []
/-- what the iterator hands over at its j-th turn -/
def backV (ns : List RI) (us : List Value) (k j : Nat) : Array Value := #[.int .i64 ((k - 1 - j : Nat) : Int), .agg (cellsAt ns us (k - 1 - j)).toArray]

set_option maxRecDepth 100000 in
set_option maxHeartbeats 2000000 in
theorem backward1_in (n : Nat) (hn : 1 ≤ n) (l bS g o k c : Nat) (ns : List RI) (us : List Value) (hk : k ≤ 100000) (hkc : k ≤ c) (hns : ns.length = k) (hus : us.length = k) (A : Option Addr) (hA : 0 < k → A = some ⟨g, o, none⟩) (J Jx : List (Fin k) → World → Prop)
    (W : World) (hJ : AbidesFrom W.heap.size J)
    (hY : ∀ pre (x : Fin k) W, J pre W → pre.length < k → YieldAt Fence.wide (n - 1) Try.prog l (backV ns us k x.1) W fun e W' =>
      (e = .returned (.bool true) ∧ J (pre ++ [x]) W' ∧ KpB bS g W W') ∨ (e = .returned (.bool false) ∧ Jx (pre ++ [x]) W'))
    (hS : W.cell? ⟨bS, 0, none⟩ = some (.slice A k c)) (hR : 0 < k → W.rangeAt g o (cellsI ns us)) (h0 : J [] W) :
    CallsIn Fence.wide n Try.prog 44 #[.func (.yield l) #[] #[], .pointer (some ⟨bS, 0, none⟩)] W fun e W' => (∃ v, e = .returned v) ∧
      ((∃ ys, ys = List.finRange k ∧ J ys W') ∨ (∃ pre, True ∧ Jx pre W')) := by
  have z0 : IntKind.i64.wrap ((k : Int) - 1) = (k : Int) - 1 := by rw [IntKind.wrap_i64]; omega
  refine callsIn_of_wp Try.func44 rfl trivial ?_ rfl
  simp only [Try.ntmps44, List.size_toArray, List.length_cons, List.length_nil, Nat.reduceAdd, Nat.reduceSub, Array.replicate_succ, Array.replicate_zero, List.push_toArray, List.append_toArray, List.nil_append, List.cons_append]
  gi_wp2
  gi_loopw [3] (fun i wr => ∃ j q : Nat, q + j = k ∧ i = .int .i64 ((q : Int) - 1) ∧ J ((List.finRange k).take j) wr ∧ KpB bS g W wr)
    (fun i _ => (intOf i + 1).toNat)
  case atStart => exact ⟨0, k, by omega, rfl, h0, rfl, rfl⟩
  case round =>
    obtain ⟨j, q, hq, rfl, hJs, hnx⟩ := hrel
    have hSr : wr.cell? ⟨bS, 0, none⟩ = some (.slice A k c) := (World.cell?_of_block hnx.1).trans hS
    by_cases hlt : 0 < q
    · obtain ⟨p, rfl⟩ : ∃ p, q = p + 1 := ⟨q - 1, by omega⟩
      have hjk : j < k := by omega
      obtain rfl := hA (by omega)
      have hpk : p < k := by omega
      have hx : ns[p]? = some ns[p] := List.getElem?_eq_getElem (by omega)
      have hu : us[p]? = some us[p] := List.getElem?_eq_getElem (by omega)
      have hcc : ∀ t v, t < 7 → (riC ns[p] us[p])[t]? = some v → wr.cell? ⟨g, o + p * 7 + t, none⟩ = some v := fun t v ht hv => by
        rw [World.cell?_of_block (a := ⟨g, o + p * 7 + t, none⟩) hnx.2, Nat.add_assoc]
        exact hR (by omega) (p * 7 + t) v (by rw [cellsI_at ns us p t _ _ (by omega) hx hu ht]; exact hv)
      obtain ⟨fn, tmps, assign, body, hy, hR'⟩ := hY _ ⟨j, hjk⟩ wr hJs (by rw [take_fin_lenB (by omega)]; exact hjk)
      have ecell : cellsAt ns us (k - 1 - j) = riC ns[p] us[p] := by rw [show k - 1 - j = p by omega, cellsAt, hx, hu]
      simp only [backV, ecell] at hy
      rw [show k - 1 - j = p by omega] at hy
      generalize ns[p] = x at *
      generalize us[p] = u at *
      have d0 := hcc 0 _ (by omega) rfl
      have d1 := hcc 1 _ (by omega) rfl
      have d2 := hcc 2 _ (by omega) rfl
      have d3 := hcc 3 _ (by omega) rfl
      have d4 := hcc 4 _ (by omega) rfl
      have d5 := hcc 5 _ (by omega) rfl
      have d6 := hcc 6 _ (by omega) rfl
      rw [Nat.add_zero] at d0
      simp only [riC] at hy
      have z1 : (((p + 1 : Nat) : Int) - 1) = (p : Int) := by omega
      rw [z1]
      have z2 : (0 : Int) ≤ (p : Int) := by omega
      have z3 : (p : Int) < (k : Int) := by omega
      have z4 : IntKind.i64.wrap ((p : Int) - 1) = (p : Int) - 1 := by rw [IntKind.wrap_i64]; omega
      clear hcc hx hu ecell z1
      gi_wp2
      refine hR'.mono ?_
      rintro e W3 (⟨rfl, hJ3, hk3⟩ | ⟨rfl, hJx3⟩)
      · clear hY hR' hy d0 d1 d2 d3 d4 d5 d6
        gi_wp2
        go_roundw
        case rel => exact ⟨j + 1, p, by omega, rfl, by rw [take_finB hjk]; exact hJ3, hnx.trans hk3⟩
        case measure => simp only [intOf]; omega
      · clear hY hR' hy d0 d1 d2 d3 d4 d5 d6
        gi_wp2
        refine bodyPost_ret (results_none rfl _ _ _) rfl ?_
        exact ⟨⟨_, rfl⟩, .inr ⟨_, trivial, hJx3⟩⟩
    · obtain rfl : q = 0 := by omega
      have hjn : j = k := by omega
      rw [List.take_of_length_le (by simp [hjn])] at hJs
      gi_wp2
      go_end0
      exact ⟨⟨_, rfl⟩, .inl ⟨_, rfl, hJs⟩⟩

theorem Backward_any (A : Option Addr) (k c : Nat) (w : World) :
    Calls Try.prog 31 #[.slice A k c] w fun e w' =>
      e = .returned (.func (.func 44) #[] #[.pointer (some ⟨w.heap.size, 0, none⟩)]) ∧ w' = w.alloc (.cells #[.slice A k c] 28) := by
  have hmf : ∀ (fn : Fn) (first cap : Array Value) (w : World), (Instr.makeFunc fn first cap).run Try.prog w = .ok (.func fn first cap) w := fun _ _ _ _ => rfl
  go_enter Try.func31, Try.ntmps31
  go_wp2_with fail
  go_ret
  exact ⟨rfl, rfl⟩
/-- the iterator hands its caller node after node, for every loop body that keeps its two blocks -/
theorem backward_stops (n : Nat) (hn : 1 ≤ n) (bS g o k c : Nat) (ns : List RI) (us : List Value) (hk : k ≤ 100000) (hkc : k ≤ c) (hns : ns.length = k) (hus : us.length = k) (A : Option Addr) (hA : 0 < k → A = some ⟨g, o, none⟩) (w : World) (hbS : bS < w.heap.size) (hg : 0 < k → g < w.heap.size)
    (hS : w.cell? ⟨bS, 0, none⟩ = some (.slice A k c)) (hR : 0 < k → w.rangeAt g o (cellsI ns us)) :
    SeqStopsK Fence.wide n Try.prog 44 #[.pointer (some ⟨bS, 0, none⟩)] (fun x : Fin k => backV ns us k x.1) (KpB bS g) (fun ys => ys = List.finRange k) (fun _ => True) k w :=
  fun l J Jx W hW hJ _ hY h0 => backward1_in n hn l bS g o k c ns us hk hkc hns hus A hA J Jx W hJ hY ((hW.cell (p := ⟨bS, 0, none⟩) hbS).trans hS) (fun h j v hv => (hW.cell (p := ⟨g, o + j, none⟩) (hg h)).trans (hR h j v hv)) h0

end Go.Proofs.Ytbickllpledlbaa

/-
  CONTRACT of the program's red.High. Printed by gen_redhigh.py.
-/
set_option linter.unusedVariables false
namespace Go.Proofs.Ytbickllpledlbaa
open Go.RowKit Go.Shelf

attribute [local go_sem] Oper.semAt_some

/-- what lies behind a piece of code, told of its frame -/
theorem cutR {F : Fence} {n : Nat} {P : Program} {c : Code} {Q : Exit → Act → World → Prop} {a : Act} {W : World} (R : Act → Act → World → Prop) (h1 : c.wpIn F n P (fun e a' w' => e = .normal ∧ R a a' w') a W) (h2 : ∀ a' w', R a a' w' → Q .normal a' w') : c.wpIn F n P Q a W :=
  Go.wpIn_mono h1 (fun e a' w' h => by obtain ⟨rfl, hr⟩ := h; exact h2 a' w' hr)
/-- how many nodes are above each node that is told -/
theorem deps_top {kind : Int} {ids : List Int} {ll : List (List Int)} (hm : mayB kind ids ll = true) : ∃ D : List Nat, D.length = (nodesI kind ids ll).length ∧ highI kind ids ll = (maxL D : Nat) ∧
    ∀ (i : Nat) (x : RI), (nodesI kind ids ll)[i]? = some x → (x.up = -1 ∧ D.getD i 0 = 0) ∨ ∃ u : Nat, x.up = (u : Int) ∧ i < u ∧ u < (nodesI kind ids ll).length ∧ D.getD i 0 = D.getD u 0 + 1 := by
  rcases Nat.eq_zero_or_pos ids.length with h0 | h0
  · have hn : nodesI kind ids ll = [] := by simp [nodesI, nodesU, h0]
    have hi : ids = [] := List.eq_nil_of_length_eq_zero h0
    refine ⟨[], by rw [hn]; rfl, ?_, fun i x hx => by rw [hn] at hx; simp at hx⟩
    rw [highI, if_pos hm, hi]
    rfl
  · have hT := top_facts hm h0
    generalize treeOf kind (lvN ll) (lvN ll).length 0 = T at *
    have hlen : (nodesI kind ids ll).length = T.size := by rw [hT.nodes, List.length_map, RT.flat_len]
    refine ⟨T.deps 0, by rw [hlen, RT.deps_len], by rw [high_top hT hm, RT.deps_max, Nat.zero_add], fun i x hx => ?_⟩
    have hi : i < T.size := by rw [← hlen]; exact (List.getElem?_eq_some_iff.1 hx).1
    rw [hT.nodes, List.getElem?_map] at hx
    obtain ⟨y, hy, rfl⟩ := Option.map_eq_some_iff.1 hx
    obtain ⟨z, hz, hd⟩ := RT.deep T 0 0 (-1) i hi
    rw [hy] at hz
    have hz := Option.some.inj hz
    subst hz
    rcases hd with ⟨h1, h2⟩ | ⟨u, e, h1, h2, h3, h4, h5⟩
    · refine .inl ⟨h2, ?_⟩
      have := RT.deps_last T 0
      rw [show T.size - 1 = i by omega] at this
      exact getD_at this
    · refine .inr ⟨u, ?_, h2, by rw [hlen]; exact h3, ?_⟩
      · show y.up = _
        rw [h1, Nat.zero_add]
      · rw [getD_at h4, getD_at h5]
theorem deps_small {D : List Nat} {ns : List RI} (hl : D.length = ns.length) (h : ∀ (i : Nat) (x : RI), ns[i]? = some x → (x.up = -1 ∧ D.getD i 0 = 0) ∨ ∃ u : Nat, x.up = (u : Int) ∧ i < u ∧ u < ns.length ∧ D.getD i 0 = D.getD u 0 + 1) : ∀ i, D.getD i 0 ≤ D.length := by
  have key : ∀ k i, D.length - i ≤ k → D.getD i 0 ≤ D.length - i := by
    intro k
    induction k with
    | zero =>
      intro i hi
      rw [List.getD_eq_getElem?_getD, List.getElem?_eq_none (by omega)]
      simp
    | succ k ih =>
      intro i hi
      rcases Nat.lt_or_ge i D.length with hlt | hge
      · rcases h i _ (List.getElem?_eq_getElem (show i < ns.length by omega)) with ⟨_, e⟩ | ⟨u, _, h1, h2, e⟩
        · omega
        · have := ih u (by omega)
          omega
      · rw [List.getD_eq_getElem?_getD, List.getElem?_eq_none hge]
        simp
  intro i
  have := key _ i (Nat.le_refl _)
  omega
theorem finRange_valB (m : Nat) : (List.finRange m).map Fin.val = List.range m := by
  apply List.ext_getElem (by simp)
  intro i h1 h2
  simp
theorem maxL_drop {D : List Nat} {k : Nat} (h : k < D.length) : maxL (D.drop k) = max (D.getD k 0) (maxL (D.drop (k + 1))) := by
  rw [List.drop_eq_getElem_cons h, maxL, getD_at (List.getElem?_eq_getElem h)]
def abvC (m : Nat) (v : Nat → Int) : Array Value := ((List.range m).map fun k => Value.int .i64 (v k)).toArray
theorem abvC_at {m j : Nat} (v : Nat → Int) (h : j < m) : (abvC m v)[j]? = some (.int .i64 (v j)) := by simp [abvC, h]
theorem abvC_set {m : Nat} (v : Nat → Int) (k : Nat) (x : Int) : (abvC m v).setIfInBounds k (.int .i64 x) = abvC m (fun j => if j = k then x else v j) := by
  apply Array.ext
  · simp [abvC]
  · intro i h1 h2
    simp only [abvC, List.setIfInBounds_toArray, List.getElem_toArray, List.getElem_set, List.getElem_map, List.getElem_range]
    by_cases h : k = i
    · subst h; simp
    · rw [if_neg h, if_neg (fun e => h e.symm)]
theorem abv_made (m : Nat) : madeCells #[Value.int .i64 0] m = abvC m (fun _ => 0) := by
  apply Array.ext'
  rw [toList_madeCells_one, abvC]
  apply List.ext_getElem
  · simp
  · intro i h1 h2
    simp
/-- what stands between two rounds -/
structure HS (bM bA gA B0 n0 m : Nat) (D : List Nat) (w : World) (pre : List (Fin m)) (W : World) : Prop where
  av : ∃ (v : Nat → Int) (mo : Int), RowC W gA 3 (abvC m v) ∧ RowC W bM 3 #[.int .i64 mo] ∧ (pre.map Fin.val = List.range pre.length → (∀ k, k < m → v k = if m - pre.length ≤ k then ((D.getD k 0 : Nat) : Int) else 0) ∧ mo = (maxL (D.drop (m - pre.length)) : Nat))
  rA : RowC W bA 22 #[.slice (some ⟨gA, 0, none⟩) m m]
  size : n0 ≤ W.heap.size
  bel : Below B0 w W
theorem row_turn {W W' : World} {g : Nat} {t : TypeId} {cs : Array Value} {row : Option Nat} (h : RowC W g t cs) (hg : W.grownBy W' row) (hr : ∀ r, row = some r → ∃ o : Obj, W.heap[r]? = some o ∧ o.isCells = false) : RowC W' g t cs :=
  h.of (hg.block g h.lt fun e => by
    obtain ⟨o, ho, hc⟩ := hr g e.symm
    rw [h.at_] at ho
    cases ho
    cases hc)
theorem HS.turn {bM bA gA B0 n0 m : Nat} {D : List Nat} {w : World} {pre : List (Fin m)} {W W' : World} {row : Option Nat} (h : HS bM bA gA B0 n0 m D w pre W) (hB : B0 ≤ n0)
    (hg : W.grownBy W' row) (hr : ∀ r, row = some r → n0 ≤ r ∧ ∃ o : Obj, W.heap[r]? = some o ∧ o.isCells = false) : HS bM bA gA B0 n0 m D w pre W' := by
  obtain ⟨v, mo, h1, h2, h3⟩ := h.av
  have hs := h.size
  exact ⟨⟨v, mo, row_turn h1 hg (fun r e => (hr r e).2), row_turn h2 hg (fun r e => (hr r e).2), h3⟩, row_turn h.rA hg (fun r e => (hr r e).2), Nat.le_trans hs hg.size, h.bel.grown hg (by omega) (fun r e => by have := (hr r e).1; omega)⟩
/-- what the loop's variables are -/
def HA (n0 : Nat) (ns : List RI) (us : List Value) (m : Nat) (a : Act) (x : Fin m) (a' : Act) (W : World) : Prop :=
  ∃ bn, n0 ≤ bn ∧ a' = { tmps := (((a.tmps.setIfInBounds 26 (.int .i64 ((m - 1 - x.1 : Nat) : Int))).setIfInBounds 27 (.agg (cellsAt ns us (m - 1 - x.1)).toArray)).setIfInBounds 10 (.int .i64 ((m - 1 - x.1 : Nat) : Int))).setIfInBounds 11 (.pointer (some ⟨bn, 0, none⟩)), defers := [] } ∧
    RowC W bn 42 (cellsAt ns us (m - 1 - x.1)).toArray

/-- a range over an iterator whose loop variables lie in a box of their own, in a plain walk -/
theorem rangeB {P : Program} {α : Type} {go : Operand} {ps : Array Tmp} {assign body : Code} {Q : Exit → Act → World → Prop} {a : Act} {w : World} (n : Nat) (h1 : 1 ≤ n) {gf : Nat} {lb : Array Value} (hg : a.eval go = .func (.func gf) #[] lb) (eg : ∀ args w, (callFunc gf args).run P w = .ok (.enter gf args) w)
    {encs : α → Array Value} {Kp : World → World → Prop} {S Sp : List α → Prop} {N : Nat} (hseq : SeqStopsK Fence.wide (n - 1) P gf lb encs Kp S Sp N w)
    (hKt : ∀ {A B C : World}, Kp A B → Kp B C → Kp A C) (hKb : ∀ (W : World) (l : Nat) (o o' : Obj), w.heap.size ≤ l → W.heap[l]? = some o → o.isCells = false → o.isWalk = false → Kp W (W.putObj l o')) (hps : ∀ x, (encs x).size = ps.size)
    (I : List α → World → Prop) (hI : OwnFrom w.heap.size I) (h0 : I [] w) (Ax : Act → α → Act → World → Prop) (hAx : ∀ x a', OwnFrom w.heap.size (fun (_ : Unit) W => Ax a x a' W))
    (hassign : ∀ (l : Nat) (pre : List α) (x : α) (W : World) (K : Act → World → Prop), I pre W → (∀ a' W', KeepsFrom w.heap.size W W' → Kp W W' → I pre W' → Ax a x a' W' → K a' W') →
      assign.wpIn (Fence.wide.inRound l) (n - 1 - 1) P (Exit.then K (fun _ _ _ => False)) { tmps := (ps.zip (encs x)).foldl (fun t (p, v) => t.setIfInBounds p v) a.tmps, defers := [] } W)
    (hbody : ∀ (l : Nat) (pre : List α) (x : α) (a' : Act) (W : World), I pre W → Ax a x a' W → pre.length < N → body.wpIn (Fence.wide.inRound l) (n - 1 - 1) P (ownPostG w.heap.size Kp I (fun _ _ _ => False) (pre ++ [x]) W) a' W)
    (hdone : ∀ (D : Nat) (xs : List α) (W : World), w.heap.size ≤ D → S xs → I xs W → W.heap[D]? = some (.deferred (some [])) → Q .normal { a with defers := { target := .collected D, args := #[] } :: a.defers } W) :
    (Code.rangeFunc go ps assign body).wp P Q a w :=
  (wpIn_wide (n := n)).1 (wpIn_rangeFunc_ownH rfl h1 hg trivial eg hseq (fun h k => hKt h k) hKb (Below.refl _ _) hps I (fun _ _ _ => False) hI (fun _ _ _ _ _ h _ _ => h) h0 (fun x a' W => Ax a x a' W) hAx hassign (fun l pre x a' W _ _ h2 h3 h4 => hbody l pre x a' W h2 h3 h4) hdone (fun _ _ _ _ _ _ h _ => h.elim))

set_option maxRecDepth 100000 in
set_option maxHeartbeats 4000000 in
theorem HighOk_any (kind : Int) (Ai : Option Addr) (ni ci : Nat) (Al : Option Addr) (nl cl : Nat) (ids : List Int) (ll : List (List Int)) (w : World) (h : ShR w w.heap.size Ai ni ci Al nl cl ids ll) (hf : fewT ids ll = true) (hmb : mayB kind ids ll = true) :
    Calls Try.prog 17 #[.int .i64 kind, .agg (shV Ai ni ci Al nl cl)] w (HighPost w kind ids ll) := by
  have hM := (Ms.nil w).box 25 (shV Ai ni ci Al nl cl)
  have hS1 := h.below hM.old
  have hnd := PNodes_any kind Ai ni ci Al nl cl ids ll _ (hS1.more hM.old.size) hf
  have Hpost := Lib.hid (show ∀ hi er w', Below w.heap.size w w' → er = mayE kind ids ll → hi = highI kind ids ll → HighPost w kind ids ll (.returned (.tuple #[.int .i64 hi, .int .i64 er])) w' from fun hi er w' h1 h2 h3 => ⟨h1, by rw [h2, h3]⟩)
  generalize HighPost w kind ids ll = PO at *
  have hme : mayE kind ids ll = 0 := by rw [mayE, hmb]; rfl
  obtain ⟨D, hD1, hD2, hD3⟩ := deps_top hmb
  have hDs := deps_small hD1 hD3
  have hl2 := nodesU_len kind ids ll
  have Hme := Lib.hid hme
  have HD2 := Lib.hid hD2
  clear hD2 hme h
  refine (callsIn_wide (n := 5)).1 ?_
  refine callsIn_of_wp_marks Try.func17 rfl trivial ?_ rfl
  simp only [Try.ntmps17, List.size_toArray, List.length_cons, List.length_nil, Nat.reduceAdd, Nat.reduceSub, Array.replicate_succ, Array.replicate_zero, List.push_toArray, List.append_toArray, List.nil_append, List.cons_append]
  refine wpIn_wide.2 ?_
  go_wp2_with ((with_reducible show wpList _ _ _ (⟨some 14, _, _, _, _, _⟩ :: _) _ _); refine wpList_loadC (by kernel_rfl) 25 (.tmp 3) rfl w.heap.size rfl 25 (shV Ai ni ci Al nl cl) _ (hM.get 0 rfl) Try.underlying25 rfl shapeInfo2 ?_)
  refine hnd.mono ?_
  rintro e w1 ⟨hb1, A, m, c, rfl, hN⟩
  rw [Hme.out]
  have hold1 := (hM.call hb1).old
  generalize nodesI kind ids ll = ns at *
  obtain ⟨us, hus, hRd, hkid⟩ := hN.told
  have Hkid := Lib.hid (show ∀ (k : Nat) (x : RI) (u : Value), ns[k]? = some x → us[k]? = some u → ∃ Au kl cu, u = .slice Au kl cu from fun k x u h1 h2 => by
    obtain ⟨Au, cu, e, _⟩ := hkid k x u h1 h2
    exact ⟨Au, _, cu, e⟩)
  clear hkid
  have hnm := hN.len
  have hcap := hN.cap
  unfold maxLen at hcap
  have hm2 : m ≤ 2000 := by omega
  obtain ⟨i1, hi1, hy0, hy1, hy2⟩ := info_parts intInfo
  have hmk := run_make (P := Try.prog) (w1.alloc (.cells #[.int .i64 0] 3)) 22 3 i1 (.int .i64 0) Try.underlying22 hi1 hy0 .i64 .i64 (m : Int) (m : Int) (by omega) (by omega) (by rw [hy2]; omega) (by omega)
  rw [show ((m : Int)).toNat = m by omega, hy1, Nat.mul_one, show (Value.int .i64 0).cells = #[Value.int .i64 0] from rfl, abv_made] at hmk
  simp only [World.size_alloc] at hmk
  have Hmk := Lib.hid hmk
  clear hmk hnd hM hS1 hb1 hN
  go_upto_region 6 with (at_make; refine wpList_makeT (by kernel_rfl) _ _ 22 rfl _ _ rfl rfl Hmk.out ?_)
  try simp only [Act.put]
  have hM2 := (((Ms.nil w1).box 3 #[.int .i64 0]).box 3 (abvC m fun _ => 0)).box 22 #[.slice (some ⟨w1.heap.size + 1, 0, none⟩) m m]
  simp only [World.size_alloc] at hM2
  obtain ⟨bM, hbM⟩ : ∃ bM, bM = w1.heap.size := ⟨_, rfl⟩
  obtain ⟨gA, hgA⟩ : ∃ gA, gA = w1.heap.size + 1 := ⟨_, rfl⟩
  obtain ⟨bA, hbA⟩ : ∃ bA, bA = w1.heap.size + 1 + 1 := ⟨_, rfl⟩
  rw [← hbA, ← hgA, ← hbM] at hM2 ⊢
  have Hlt := Lib.hid (show w1.heap.size = bM ∧ gA = bM + 1 ∧ bA = bM + 2 ∧ w.heap.size ≤ bM by have := hold1.size; omega)
  clear hbM hgA hbA Hmk
  refine wp_gen (fun wx => Ms w1 wx [(bA, 22, #[.slice (some ⟨gA, 0, none⟩) m m]), (gA, 3, abvC m fun _ => 0), (bM, 3, #[.int .i64 0])]) hM2 ?_
  clear hM2
  rintro w2 hM2
  have hbk := Backward_any A m c w2
  go_wp2_with (go_at_call 31; refine hbk.mono ?_; rintro e w3 ⟨rfl, rfl⟩)
  have hM3 := hM2.box 28 #[.slice A m c]
  obtain ⟨bS, hbS⟩ : ∃ bS, bS = w2.heap.size := ⟨_, rfl⟩
  rw [← hbS] at hM3 ⊢
  have HbS := Lib.hid hbS
  clear hbS
  generalize w2.alloc (.cells #[.slice A m c] 28) = w3 at *
  have hRd3 := hRd.below hM3.old
  have hpos : ∃ g o, (0 < m → A = some ⟨g, o, none⟩) ∧ (0 < m → g < w1.heap.size) ∧ (0 < m → w3.rangeAt g o (cellsI ns us)) ∧ g < w1.heap.size + 1 ∧ g ≤ w1.heap.size := by
    rcases Nat.eq_zero_or_pos m with h0 | h0
    · exact ⟨0, 0, fun h => absurd h (by omega), fun h => absurd h (by omega), fun h => absurd h (by omega), by omega, by omega⟩
    · obtain ⟨g, o, e, hg, hc⟩ := hRd3.pos (by omega)
      exact ⟨g, o, fun _ => e, fun _ => hg, fun _ => hc, by omega, by omega⟩
  obtain ⟨g, o, hA, hg1, hrg, _, hg2⟩ := hpos
  have hrS := hM3.get 0 rfl
  have hrA := hM3.get 1 rfl
  have hrG := hM3.get 2 rfl
  have hrM := hM3.get 3 rfl
  have hlts : bM < gA ∧ gA < bA ∧ w.heap.size ≤ bM ∧ w1.heap.size ≤ bM := by have := Hlt.out; omega
  have hbSl := hrS.lt
  have hbAl := hrA.lt
  have hgAl := hrG.lt
  have hbMl := hrM.lt
  have hgl : 0 < m → g < w3.heap.size := fun h => by have := hg1 h; have := hM3.old.size; omega
  have hgl3 : g < w3.heap.size := by omega
  have hold3 : Below w.heap.size w w3 := hold1.trans (hM3.old.mono hold1.size)
  have hbS2 : bS ≠ bM ∧ bS ≠ gA ∧ bS ≠ bA := ⟨ty_apart hrS hrM (by decide), ty_apart hrS hrG (by decide), ty_apart hrS hrA (by decide)⟩
  have hI0 : HS bM bA gA w.heap.size w3.heap.size m D w [] w3 := ⟨⟨fun _ => 0, 0, hrG, hrM, fun _ => ⟨fun k hk => by rw [if_neg (by simp only [List.length_nil]; omega)], by rw [List.length_nil, Nat.sub_zero, show m = D.length by omega, List.drop_length]; rfl⟩⟩, hrA, Nat.le_refl _, hold3⟩
  have hgg : 0 < m → g ≠ bM ∧ g ≠ gA ∧ g ≠ bA := fun h0 => by have := hg1 h0; omega
  clear hRd hRd3 hM2 hM3 hbk
  refine rangeB 5 (by decide) (gf := 44) (lb := #[.pointer (some ⟨bS, 0, none⟩)]) rfl (enters_of Try.func44 (by kernel_rfl) rfl) (encs := fun x : Fin m => backV ns us m x.1) (Kp := KpB bS g) (S := fun ys => ys = List.finRange m) (Sp := fun _ => True) (N := m)
    ?seq (fun h k => h.trans k) (fun W l o o' hl _ _ _ => KpB.putObj (B := w3.heap.size) hbSl hgl3 W l o o' hl) (fun _ => rfl)
    (HS bM bA gA w.heap.size w3.heap.size m D w) (fun s W W' row hs hg hr => hs.turn hold3.size hg hr) hI0 (HA w3.heap.size ns us m) ?ax ?assign ?body ?done
  case seq => exact backward_stops 4 (by decide) bS g o m c ns us (by omega) hcap.1 hnm hus A hA w3 hbSl hgl (hrS.cell (i := 0) rfl) hrg
  case ax =>
    rintro x a' s W W' row ⟨bn, h1, h2, h3⟩ hg hr
    exact ⟨bn, h1, h2, row_turn h3 hg (fun r e => (hr r e).2)⟩
  case assign =>
    intro l pre x W K hI hK
    have e : ∀ t : Array Value, (#[26, 27].zip (backV ns us m x.1)).foldl (fun t (p, v) => t.setIfInBounds p v) t = (t.setIfInBounds 26 (.int .i64 ((m - 1 - x.1 : Nat) : Int))).setIfInBounds 27 (.agg (cellsAt ns us (m - 1 - x.1)).toArray) := fun t => by simp [backV]
    rw [e]
    have hx := x.2
    have hq : m - 1 - x.1 < m := by omega
    have hy := List.getElem?_eq_getElem (l := ns) (show m - 1 - x.1 < ns.length by omega)
    have hu := List.getElem?_eq_getElem (l := us) (show m - 1 - x.1 < us.length by omega)
    have ec : cellsAt ns us (m - 1 - x.1) = riC ns[m - 1 - x.1] us[m - 1 - x.1] := by rw [cellsAt, hy, hu]
    have HK := Lib.hid (fun a' W' h1 h2 h3 h4 => hK a' W' h1 h2 h3 h4)
    simp only [HA, ec, riC] at HK
    simp only [ec, riC, List.setIfInBounds_toArray, List.set_cons_zero, List.set_cons_succ] at HK ⊢
    obtain ⟨Au, kl, cu, hue⟩ := Hkid.out _ _ _ hy hu
    rw [hue] at HK ⊢
    clear hK e hy hu ec hue
    generalize ns[m - 1 - x.1] = y at *
    generalize m - 1 - x.1 = q at *
    gi_wp2
    have hal := d_al W (.cells #[.int .i64 y.lev, .int .i64 y.at_, .bool y.red, .int .i64 y.fr, .int .i64 y.to_, .slice Au kl cu, .int .i64 y.up] 42)
    refine HK.out _ _ ⟨hal.size, fun k ob _ hk _ => by rw [hal.block k (Array.getElem?_eq_some_iff.1 hk).1]; exact hk⟩ ⟨hal.block _ (by have := hI.size; omega), hal.block _ (by have := hI.size; omega)⟩ (hI.turn hold3.size (World.grownBy_alloc W _ none) (fun r e => by cases e)) ⟨W.heap.size, hI.size, rfl, RowC.new _ _ _⟩
  case body =>
    intro l pre x a' W hI hA' hlen
    obtain ⟨bn, hbn0, rfl, hbx⟩ := hA'
    have hx := x.2
    have hq : m - 1 - x.1 < m := by omega
    have hy := List.getElem?_eq_getElem (l := ns) (show m - 1 - x.1 < ns.length by omega)
    have hu := List.getElem?_eq_getElem (l := us) (show m - 1 - x.1 < us.length by omega)
    have ec : cellsAt ns us (m - 1 - x.1) = riC ns[m - 1 - x.1] us[m - 1 - x.1] := by rw [cellsAt, hy, hu]
    obtain ⟨Au, kl, cu, hue⟩ := Hkid.out _ _ _ hy hu
    simp only [ec, riC, List.setIfInBounds_toArray, List.set_cons_zero, List.set_cons_succ] at hbx ⊢
    rw [hue] at hbx ⊢
    have hqx : m - 1 - x.1 + x.1 + 1 = m := by omega
    have hdq := hD3 _ _ hy
    clear hy hu ec hue
    generalize ns[m - 1 - x.1] = y at *
    generalize m - 1 - x.1 = q at *
    have hgg' := hgg (by omega)
    have hsz := hI.size
    have hrA' := hI.rA
    have hbel := hI.bel
    obtain ⟨v, mo, hrv, hrm, hcond⟩ := hI.av
    have kU := hbx.cell (i := 6) (v := .int .i64 y.up) rfl
    have kA := hrA'.cell (i := 0) (v := .slice (some ⟨gA, 0, none⟩) m m) rfl
    have zq0 : (0 : Int) ≤ (q : Int) := by omega
    have zq : (q : Int) < (m : Int) := by omega
    have fin : ∀ (W1 : World) (v1 : Nat → Int) (e : Int), RowC W1 gA 3 (abvC m v1) → RowC W1 bM 3 #[.int .i64 mo] → RowC W1 bA 22 #[.slice (some ⟨gA, 0, none⟩) m m] → Below w.heap.size w W1 → KeepsFrom w3.heap.size W W1 → KpB bS g W W1 → v1 q = e →
        (pre.map Fin.val = List.range pre.length → x.1 = pre.length → (∀ k, k < m → v1 k = if q ≤ k then ((D.getD k 0 : Nat) : Int) else 0) ∧ e = ((D.getD q 0 : Nat) : Int)) →
        KeepsFrom w3.heap.size W (W1.drew.setCell ⟨bM, 0, none⟩ (.int .i64 (max mo e))) ∧ KpB bS g W (W1.drew.setCell ⟨bM, 0, none⟩ (.int .i64 (max mo e))) ∧ HS bM bA gA w.heap.size w3.heap.size m D w (pre ++ [x]) (W1.drew.setCell ⟨bM, 0, none⟩ (.int .i64 (max mo e))) := by
      intro W1 v1 e r1 r2 r3 hb hkf hkp hve hcv
      have hne : ∀ y, y ≠ bM → (W1.drew.setCell ⟨bM, 0, none⟩ (.int .i64 (max mo e))).heap[y]? = W1.heap[y]? := fun y hy => Below.heap_setCell W1.drew ⟨bM, 0, none⟩ _ y hy
      refine ⟨⟨by rw [World.size_setCell]; exact hkf.size, fun k ob hk1 hk2 hk3 => ?_⟩, ⟨(hne _ (by omega)).trans hkp.1, (hne _ (by omega)).trans hkp.2⟩, ⟨⟨v1, max mo e, r1.of (hne _ (by omega)), r2.drew.set_ 0 _, fun hord => ?_⟩, r3.of (hne _ (by omega)), by rw [World.size_setCell]; exact Nat.le_trans hsz hkf.size, hb.drew.setCell (p := ⟨bM, 0, none⟩) (by show _ ≤ bM; omega) _⟩⟩
      · rw [hne _ (by omega)]
        exact hkf.same k ob hk1 hk2 hk3
      · rw [List.length_append, List.length_singleton] at hord ⊢
        rw [List.map_append, List.range_succ] at hord
        have h' := List.append_inj' hord rfl
        have hxv : x.1 = pre.length := by simpa using h'.2
        obtain ⟨c1, c2⟩ := hcv h'.1 hxv
        obtain ⟨_, c4⟩ := hcond h'.1
        rw [show m - (pre.length + 1) = q by omega]
        refine ⟨c1, ?_⟩
        rw [maxL_drop (show q < D.length by omega), c4, c2, show m - pre.length = q + 1 by omega]
        omega
    generalize y.up = yu at *
    rcases hdq with ⟨rfl, hd0⟩ | ⟨u, rfl, hqu, hum, hdu⟩
    · have hfinal := fin W v (v q) hrv hrm hrA' hbel (KeepsFrom.refl _ _) ⟨rfl, rfl⟩ rfl (fun h1 h2 => by
        obtain ⟨c1, _⟩ := hcond h1
        have e0 : v q = 0 := by rw [c1 q hq, if_neg (by omega)]
        refine ⟨fun k hk => ?_, by rw [e0, hd0]; rfl⟩
        by_cases hkq : k = q
        · subst hkq
          rw [e0, if_pos (Nat.le_refl _), hd0]
          rfl
        · rw [c1 k hk]
          by_cases h3 : q ≤ k
          · rw [if_pos (by omega), if_pos h3]
          · rw [if_neg (by omega), if_neg h3])
      have kM := hrm.cell (i := 0) (v := .int .i64 mo) rfl
      have kQ := hrv.cell (abvC_at v hq)
      have fM : W.drew.frozen? ⟨bM, 0, none⟩ = false := hrm.drew.frozen 0
      have hcut := hrm
      generalize v q = e at *
      generalize hW1 : W = W1 at *
      clear hW1 fin hcond hI
      gi_wp2
      refine cutR (fun a0 a' w' => a' = ((((((a0.put (some 40) (.int .i64 mo)).put (some 41) (.slice (some ⟨gA, 0, none⟩) m m)).put (some 42) (.int .i64 (q : Int))).put (some 43) (.pointer (some ⟨gA, q, none⟩))).put (some 44) (.int .i64 (e))).put (some 45) (.int .i64 (max mo (e)))) ∧ w' = (W1).drew.setCell ⟨bM, 0, none⟩ (.int .i64 (max mo (e)))) ?region1 ?behind1
      case region1 =>
        refine beginR (fun wx => wx.cell? ⟨bM, 0, none⟩ = some (.int .i64 mo) ∧ wx.cell? ⟨bA, 0, none⟩ = some (.slice (some ⟨gA, 0, none⟩) m m) ∧ wx.cell? ⟨gA, q, none⟩ = some (.int .i64 (e))) 6 (by kernel_rfl) (by kernel_rfl) (fun _ _ h => by cases h.1) ?_
        have hS := And.intro (show (W1).drew.cell? ⟨bM, 0, none⟩ = some (.int .i64 mo) from kM) (And.intro (show (W1).drew.cell? ⟨bA, 0, none⟩ = some (.slice (some ⟨gA, 0, none⟩) m m) from kA) (show (W1).drew.cell? ⟨gA, q, none⟩ = some (.int .i64 (e)) from kQ))
        refine takeD 0 (some 40) (.int .i64 mo) rfl rfl (by kernel_rfl) (by kernel_rfl) (by kernel_rfl) (by kernel_rfl) (fun _ _ _ h => by cases h.1) (Or.inl ⟨by kernel_rfl, fun wx hSw => by have h := hSw.1; go_simp⟩) hS ?_
        simp only [Act.put, List.setIfInBounds_toArray, List.set_cons_zero, List.set_cons_succ]
        refine takeD 1 (some 41) (.slice (some ⟨gA, 0, none⟩) m m) rfl rfl (by kernel_rfl) (by kernel_rfl) (by kernel_rfl) (by kernel_rfl) (fun _ _ _ h => by cases h.1) (Or.inl ⟨by kernel_rfl, fun wx hSw => by have h := hSw.2.1; go_simp⟩) hS ?_
        simp only [Act.put, List.setIfInBounds_toArray, List.set_cons_zero, List.set_cons_succ]
        refine takeD 2 (some 42) (.int .i64 (q : Int)) rfl rfl (by kernel_rfl) (by kernel_rfl) (by kernel_rfl) (by kernel_rfl) (fun _ _ _ h => by cases h.1) (Or.inl ⟨by kernel_rfl, fun wx hSw => by go_simp⟩) hS ?_
        simp only [Act.put, List.setIfInBounds_toArray, List.set_cons_zero, List.set_cons_succ]
        refine takeD 3 (some 43) (.pointer (some ⟨gA, q, none⟩)) rfl rfl (by kernel_rfl) (by kernel_rfl) (by kernel_rfl) (by kernel_rfl) (fun _ _ _ h => by cases h.1) (Or.inl ⟨by kernel_rfl, fun wx hSw => by go_simp⟩) hS ?_
        simp only [Act.put, List.setIfInBounds_toArray, List.set_cons_zero, List.set_cons_succ]
        refine takeD 4 (some 44) (.int .i64 (e)) rfl rfl (by kernel_rfl) (by kernel_rfl) (by kernel_rfl) (by kernel_rfl) (fun _ _ _ h => by cases h.1) (Or.inl ⟨by kernel_rfl, fun wx hSw => by have h := hSw.2.2; go_simp⟩) hS ?_
        simp only [Act.put, List.setIfInBounds_toArray, List.set_cons_zero, List.set_cons_succ]
        refine takeD 5 (some 45) (.int .i64 (max mo (e))) rfl rfl (by kernel_rfl) (by kernel_rfl) (by kernel_rfl) (by kernel_rfl) (fun _ _ _ h => by cases h.1) (Or.inl ⟨by kernel_rfl, fun wx hSw => by go_simp⟩) hS ?_
        simp only [Act.put, List.setIfInBounds_toArray, List.set_cons_zero, List.set_cons_succ]
        refine oneT 6 (by kernel_rfl) rfl (fun K hK => ?_)
        have hS1 := hS.1
        go_simp
        refine hK.out _ _ (fun h => absurd rfl h) ?_
        clear hK K
        refine doneT (by kernel_rfl) ?_ _
        exact ⟨rfl, rfl, rfl⟩
      rintro a' w' ⟨rfl, rfl⟩
      simp only [Act.put, List.setIfInBounds_toArray, List.set_cons_zero, List.set_cons_succ]
      clear hcut
      gi_wp2
      exact hfinal
    · have kV := hrv.cell (abvC_at v (show u < m by omega))
      have zu0 : (0 : Int) ≤ (u : Int) := by omega
      have zu : (u : Int) < (m : Int) := by omega
      have zu1 : ((u : Int) != -1) = true := by simp only [bne_iff_ne, ne_eq]; omega
      have hkq := hrv.cell (abvC_at v hq)
      have fQ : W.drew.frozen? ⟨gA, q, none⟩ = false := hrv.drew.frozen q
      have hne : ∀ y, y ≠ gA → (W.drew.setCell ⟨gA, q, none⟩ (.int .i64 (IntKind.i64.wrap (v u + 1)))).heap[y]? = W.heap[y]? := fun y hy => Below.heap_setCell W.drew ⟨gA, q, none⟩ _ y hy
      have r1 : RowC (W.drew.setCell ⟨gA, q, none⟩ (.int .i64 (IntKind.i64.wrap (v u + 1)))) gA 3 (abvC m (fun j => if j = q then IntKind.i64.wrap (v u + 1) else v j)) := by
        rw [← abvC_set]
        exact hrv.drew.set_ q _
      have r2 := hrm.of (hne bM (by omega))
      have r3 := hrA'.of (hne bA (by omega))
      have hfinal := fin _ _ (IntKind.i64.wrap (v u + 1)) r1 r2 r3 (hbel.drew.setCell (p := ⟨gA, q, none⟩) (by show _ ≤ gA; omega) _) ⟨by rw [World.size_setCell]; exact Nat.le_refl _, fun k ob hk1 hk2 hk3 => by rw [hne _ (by omega)]; exact hk2⟩ ⟨hne _ (by omega), hne _ (by omega)⟩ (if_pos rfl) (fun h1 h2 => by
        obtain ⟨c1, _⟩ := hcond h1
        have e0 : v u = ((D.getD u 0 : Nat) : Int) := by rw [c1 u (by omega), if_pos (by omega)]
        have e1 : IntKind.i64.wrap (v u + 1) = ((D.getD q 0 : Nat) : Int) := by
          have := hDs u
          rw [e0, IntKind.wrap_i64, hdu]
          omega
        refine ⟨fun k hk => ?_, e1⟩
        by_cases hkq : k = q
        · subst hkq
          rw [if_pos rfl, e1, if_pos (Nat.le_refl _)]
        · rw [if_neg hkq, c1 k hk]
          by_cases h3 : q ≤ k
          · rw [if_pos (by omega), if_pos h3]
          · rw [if_neg (by omega), if_neg h3])
      clear fin hcond hI
      gi_wp2
      refine cutR (fun a0 a' w' => a' = (((((((((a0.put (some 31) (.slice (some ⟨gA, 0, none⟩) m m)).put (some 32) (.int .i64 (q : Int))).put (some 33) (.slice (some ⟨gA, 0, none⟩) m m)).put (some 34) (.pointer (some ⟨bn, 6, none⟩))).put (some 35) (.int .i64 (u : Int))).put (some 36) (.pointer (some ⟨gA, u, none⟩))).put (some 37) (.int .i64 (v u))).put (some 38) (.int .i64 (IntKind.i64.wrap (v u + 1)))).put (some 39) (.pointer (some ⟨gA, q, none⟩))) ∧ w' = W.drew.setCell ⟨gA, q, none⟩ (.int .i64 (IntKind.i64.wrap (v u + 1)))) ?region0 ?behind0
      case region0 =>
        refine beginR (fun wx => wx.cell? ⟨bA, 0, none⟩ = some (.slice (some ⟨gA, 0, none⟩) m m) ∧ wx.cell? ⟨bn, 6, none⟩ = some (.int .i64 (u : Int)) ∧ wx.cell? ⟨gA, u, none⟩ = some (.int .i64 (v u))) 9 (by kernel_rfl) (by kernel_rfl) (fun _ _ h => by cases h.1) ?_
        have hS := And.intro (show W.drew.cell? ⟨bA, 0, none⟩ = some (.slice (some ⟨gA, 0, none⟩) m m) from kA) (And.intro (show W.drew.cell? ⟨bn, 6, none⟩ = some (.int .i64 (u : Int)) from kU) (show W.drew.cell? ⟨gA, u, none⟩ = some (.int .i64 (v u)) from kV))
        refine takeD 0 (some 31) (.slice (some ⟨gA, 0, none⟩) m m) rfl rfl (by kernel_rfl) (by kernel_rfl) (by kernel_rfl) (by kernel_rfl) (fun _ _ _ h => by cases h.1) (Or.inl ⟨by kernel_rfl, fun wx hSw => by have h := hSw.1; go_simp⟩) hS ?_
        simp only [Act.put, List.setIfInBounds_toArray, List.set_cons_zero, List.set_cons_succ]
        refine takeD 1 (some 32) (.int .i64 (q : Int)) rfl rfl (by kernel_rfl) (by kernel_rfl) (by kernel_rfl) (by kernel_rfl) (fun _ _ _ h => by cases h.1) (Or.inl ⟨by kernel_rfl, fun wx hSw => by go_simp⟩) hS ?_
        simp only [Act.put, List.setIfInBounds_toArray, List.set_cons_zero, List.set_cons_succ]
        refine takeD 2 (some 33) (.slice (some ⟨gA, 0, none⟩) m m) rfl rfl (by kernel_rfl) (by kernel_rfl) (by kernel_rfl) (by kernel_rfl) (fun _ _ _ h => by cases h.1) (Or.inl ⟨by kernel_rfl, fun wx hSw => by have h := hSw.1; go_simp⟩) hS ?_
        simp only [Act.put, List.setIfInBounds_toArray, List.set_cons_zero, List.set_cons_succ]
        refine takeD 3 (some 34) (.pointer (some ⟨bn, 6, none⟩)) rfl rfl (by kernel_rfl) (by kernel_rfl) (by kernel_rfl) (by kernel_rfl) (fun _ _ _ h => by cases h.1) (Or.inl ⟨by kernel_rfl, fun wx hSw => by go_simp⟩) hS ?_
        simp only [Act.put, List.setIfInBounds_toArray, List.set_cons_zero, List.set_cons_succ]
        refine takeD 4 (some 35) (.int .i64 (u : Int)) rfl rfl (by kernel_rfl) (by kernel_rfl) (by kernel_rfl) (by kernel_rfl) (fun _ _ _ h => by cases h.1) (Or.inl ⟨by kernel_rfl, fun wx hSw => by have h := hSw.2.1; go_simp⟩) hS ?_
        simp only [Act.put, List.setIfInBounds_toArray, List.set_cons_zero, List.set_cons_succ]
        refine takeD 5 (some 36) (.pointer (some ⟨gA, u, none⟩)) rfl rfl (by kernel_rfl) (by kernel_rfl) (by kernel_rfl) (by kernel_rfl) (fun _ _ _ h => by cases h.1) (Or.inl ⟨by kernel_rfl, fun wx hSw => by go_simp⟩) hS ?_
        simp only [Act.put, List.setIfInBounds_toArray, List.set_cons_zero, List.set_cons_succ]
        refine takeD 6 (some 37) (.int .i64 (v u)) rfl rfl (by kernel_rfl) (by kernel_rfl) (by kernel_rfl) (by kernel_rfl) (fun _ _ _ h => by cases h.1) (Or.inl ⟨by kernel_rfl, fun wx hSw => by have h := hSw.2.2; go_simp⟩) hS ?_
        simp only [Act.put, List.setIfInBounds_toArray, List.set_cons_zero, List.set_cons_succ]
        refine takeD 7 (some 38) (.int .i64 (IntKind.i64.wrap (v u + 1))) rfl rfl (by kernel_rfl) (by kernel_rfl) (by kernel_rfl) (by kernel_rfl) (fun _ _ _ h => by cases h.1) (Or.inl ⟨by kernel_rfl, fun wx hSw => by go_simp⟩) hS ?_
        simp only [Act.put, List.setIfInBounds_toArray, List.set_cons_zero, List.set_cons_succ]
        refine takeD 8 (some 39) (.pointer (some ⟨gA, q, none⟩)) rfl rfl (by kernel_rfl) (by kernel_rfl) (by kernel_rfl) (by kernel_rfl) (fun _ _ _ h => by cases h.1) (Or.inl ⟨by kernel_rfl, fun wx hSw => by go_simp⟩) hS ?_
        simp only [Act.put, List.setIfInBounds_toArray, List.set_cons_zero, List.set_cons_succ]
        refine oneT 9 (by kernel_rfl) rfl (fun K hK => ?_)
        go_simp
        refine hK.out _ _ (fun h => absurd rfl h) ?_
        clear hK K
        refine doneT (by kernel_rfl) ?_ _
        exact ⟨rfl, rfl, rfl⟩
      rintro a' w' ⟨rfl, rfl⟩
      simp only [Act.put, List.setIfInBounds_toArray, List.set_cons_zero, List.set_cons_succ]
      have kM := r2.cell (i := 0) (v := .int .i64 mo) rfl
      have kA' := r3.cell (i := 0) (v := .slice (some ⟨gA, 0, none⟩) m m) rfl
      have kQ := r1.cell (abvC_at _ hq)
      simp only [if_true] at kQ
      clear kA kU kV hkq
      have kA := kA'
      have hcut := kA'
      have fM : (W.drew.setCell ⟨gA, q, none⟩ (.int .i64 (IntKind.i64.wrap (v u + 1)))).drew.frozen? ⟨bM, 0, none⟩ = false := r2.drew.frozen 0
      clear hne r1 r2 r3
      generalize IntKind.i64.wrap (v u + 1) = e at *
      generalize W.drew.setCell ⟨gA, q, none⟩ (.int .i64 e) = W1 at *
      gi_wp2
      refine cutR (fun a0 a' w' => a' = ((((((a0.put (some 40) (.int .i64 mo)).put (some 41) (.slice (some ⟨gA, 0, none⟩) m m)).put (some 42) (.int .i64 (q : Int))).put (some 43) (.pointer (some ⟨gA, q, none⟩))).put (some 44) (.int .i64 (e))).put (some 45) (.int .i64 (max mo (e)))) ∧ w' = (W1).drew.setCell ⟨bM, 0, none⟩ (.int .i64 (max mo (e)))) ?region ?behind
      case region =>
        refine beginR (fun wx => wx.cell? ⟨bM, 0, none⟩ = some (.int .i64 mo) ∧ wx.cell? ⟨bA, 0, none⟩ = some (.slice (some ⟨gA, 0, none⟩) m m) ∧ wx.cell? ⟨gA, q, none⟩ = some (.int .i64 (e))) 6 (by kernel_rfl) (by kernel_rfl) (fun _ _ h => by cases h.1) ?_
        have hS := And.intro (show (W1).drew.cell? ⟨bM, 0, none⟩ = some (.int .i64 mo) from kM) (And.intro (show (W1).drew.cell? ⟨bA, 0, none⟩ = some (.slice (some ⟨gA, 0, none⟩) m m) from kA) (show (W1).drew.cell? ⟨gA, q, none⟩ = some (.int .i64 (e)) from kQ))
        refine takeD 0 (some 40) (.int .i64 mo) rfl rfl (by kernel_rfl) (by kernel_rfl) (by kernel_rfl) (by kernel_rfl) (fun _ _ _ h => by cases h.1) (Or.inl ⟨by kernel_rfl, fun wx hSw => by have h := hSw.1; go_simp⟩) hS ?_
        simp only [Act.put, List.setIfInBounds_toArray, List.set_cons_zero, List.set_cons_succ]
        refine takeD 1 (some 41) (.slice (some ⟨gA, 0, none⟩) m m) rfl rfl (by kernel_rfl) (by kernel_rfl) (by kernel_rfl) (by kernel_rfl) (fun _ _ _ h => by cases h.1) (Or.inl ⟨by kernel_rfl, fun wx hSw => by have h := hSw.2.1; go_simp⟩) hS ?_
        simp only [Act.put, List.setIfInBounds_toArray, List.set_cons_zero, List.set_cons_succ]
        refine takeD 2 (some 42) (.int .i64 (q : Int)) rfl rfl (by kernel_rfl) (by kernel_rfl) (by kernel_rfl) (by kernel_rfl) (fun _ _ _ h => by cases h.1) (Or.inl ⟨by kernel_rfl, fun wx hSw => by go_simp⟩) hS ?_
        simp only [Act.put, List.setIfInBounds_toArray, List.set_cons_zero, List.set_cons_succ]
        refine takeD 3 (some 43) (.pointer (some ⟨gA, q, none⟩)) rfl rfl (by kernel_rfl) (by kernel_rfl) (by kernel_rfl) (by kernel_rfl) (fun _ _ _ h => by cases h.1) (Or.inl ⟨by kernel_rfl, fun wx hSw => by go_simp⟩) hS ?_
        simp only [Act.put, List.setIfInBounds_toArray, List.set_cons_zero, List.set_cons_succ]
        refine takeD 4 (some 44) (.int .i64 (e)) rfl rfl (by kernel_rfl) (by kernel_rfl) (by kernel_rfl) (by kernel_rfl) (fun _ _ _ h => by cases h.1) (Or.inl ⟨by kernel_rfl, fun wx hSw => by have h := hSw.2.2; go_simp⟩) hS ?_
        simp only [Act.put, List.setIfInBounds_toArray, List.set_cons_zero, List.set_cons_succ]
        refine takeD 5 (some 45) (.int .i64 (max mo (e))) rfl rfl (by kernel_rfl) (by kernel_rfl) (by kernel_rfl) (by kernel_rfl) (fun _ _ _ h => by cases h.1) (Or.inl ⟨by kernel_rfl, fun wx hSw => by go_simp⟩) hS ?_
        simp only [Act.put, List.setIfInBounds_toArray, List.set_cons_zero, List.set_cons_succ]
        refine oneT 6 (by kernel_rfl) rfl (fun K hK => ?_)
        have hS1 := hS.1
        go_simp
        refine hK.out _ _ (fun h => absurd rfl h) ?_
        clear hK K
        refine doneT (by kernel_rfl) ?_ _
        exact ⟨rfl, rfl, rfl⟩
      rintro a' w' ⟨rfl, rfl⟩
      simp only [Act.put, List.setIfInBounds_toArray, List.set_cons_zero, List.set_cons_succ]
      clear hcut
      gi_wp2
      exact hfinal
  case done =>
    rintro Dd xs W hD' rfl hst hK
    obtain ⟨v, mo, hrv, hrm, hcond⟩ := hst.av
    have kM := hrm.cell (i := 0) (v := .int .i64 mo) rfl
    have hbel := hst.bel
    obtain ⟨_, hmo⟩ := hcond (by rw [List.length_finRange]; exact finRange_valB m)
    rw [List.length_finRange, Nat.sub_self, List.drop_zero] at hmo
    go_wp2
    refine ⟨by simp, .inl ⟨_, _, rfl, run_takeDeferred hK, ?_⟩⟩
    refine ⟨_, results_tmp2 rfl _ _ _, ?_⟩
    exact Hpost.out _ _ _ (hbel.trans (belowK_b (w := w) (Nat.le_refl _) W Dd _ _ (by have := hold3.size; omega) hK rfl rfl)) Hme.out.symm (by rw [HD2.out])

set_option maxRecDepth 100000 in
theorem PHigh_any (kind : Int) (Ai : Option Addr) (ni ci : Nat) (Al : Option Addr) (nl cl : Nat) (ids : List Int) (ll : List (List Int)) (w : World) (h : ShR w w.heap.size Ai ni ci Al nl cl ids ll) (hf : fewT ids ll = true) :
    Calls Try.prog 17 #[.int .i64 kind, .agg (shV Ai ni ci Al nl cl)] w (HighPost w kind ids ll) := by
  cases hmb : mayB kind ids ll with
  | true => exact HighOk_any kind Ai ni ci Al nl cl ids ll w h hf hmb
  | false =>
    have hM := (Ms.nil w).box 25 (shV Ai ni ci Al nl cl)
    have hnd := PNodes_any kind Ai ni ci Al nl cl ids ll _ ((h.below hM.old).more hM.old.size) hf
    have hold := hM.old
    have hme : mayE kind ids ll = 1 := by rw [mayE, hmb]; rfl
    have hhi : highI kind ids ll = 0 := by rw [highI, hmb]; rfl
    go_enter Try.func17, Try.ntmps17
    go_wp2_with ((with_reducible show wpList _ _ _ (⟨some 14, _, _, _, _, _⟩ :: _) _ _); refine wpList_loadC (by kernel_rfl) 25 (.tmp 3) rfl w.heap.size rfl 25 (shV Ai ni ci Al nl cl) _ (hM.get 0 rfl) Try.underlying25 rfl shapeInfo2 ?_)
    refine hnd.mono ?_
    rintro e w1 ⟨hb1, A, m, c, rfl, _⟩
    rw [hme]
    have hold1 := hold.trans (hb1.mono hold.size)
    have Hme := Lib.hid hme
    have Hhi := Lib.hid hhi
    clear hnd hM hme hhi
    go_wp2_with fail
    refine bodyPost_ret (results_tmp2 rfl _ _ _) rfl ?_
    exact ⟨hold1, by rw [Hhi.out, Hme.out]; rfl⟩

end Go.Proofs.Ytbickllpledlbaa

/-
  THE WALK of RedTells (coterielaw11). Printed by gen_redlaws.py.
-/
set_option linter.unusedVariables false
namespace Go.Proofs.Ytbickllpledlbaa
open Go.RowKit

theorem d_nd {w w' : World} {A : Option Addr} {n c : Nat} {ns : List RI} (h : NdR w w.heap.size A n c ns) (hb : Below w.heap.size w w') : NdR w' w'.heap.size A n c ns := (h.below hb).more hb.size
theorem sameU_refl (a : List RI) : sameU a a = true := sameU_iff.2 rfl

set_option maxRecDepth 100000 in
set_option maxHeartbeats 16000000 in
theorem walk_RedTells (kind : Int) (Ai : Option Addr) (ni ci : Nat) (Al : Option Addr) (nl cl : Nat) (ids : List Int) (ll : List (List Int)) (id : Int) (w : World) (h : ShR w w.heap.size Ai ni ci Al nl cl ids ll) :
    Calls Try.prog 3 #[.int .i64 kind, .agg (shV Ai ni ci Al nl cl), .int .i64 id] w fun e w' => e = .returned (.bool true) ∧ Below w.heap.size w w' := by
  have hM0 := (Ms.nil w).box 25 (shV Ai ni ci Al nl cl)
  have sh := fun wx (hb : Below w.heap.size w wx) => (h.below hb).more hb.size
  have hf1 := fun wx hb => FewT_any Ai ni ci Al nl cl ids ll wx (sh wx hb)
  have c1 := fun (hf : fewT ids ll = true) wx hb => PNodes_any kind Ai ni ci Al nl cl ids ll wx (sh wx hb) hf
  have c2 := fun (hf : fewT ids ll = true) wx hb => Nodes11_any kind Ai ni ci Al nl cl ids ll wx (sh wx hb) hf
  have c3 := fun (hf : fewT ids ll = true) wx hb => PPath_any11 kind Ai ni ci Al nl cl ids ll id wx (sh wx hb) hf
  have c4 := fun (hf : fewT ids ll = true) wx hb => Path11_any kind Ai ni ci Al nl cl ids ll id wx (sh wx hb) hf
  have c5 := fun (hf : fewT ids ll = true) wx hb => PBeside_any kind Ai ni ci Al nl cl ids ll id wx (sh wx hb) hf
  have c6 := fun (hf : fewT ids ll = true) wx hb => Beside_any kind Ai ni ci Al nl cl ids ll id wx (sh wx hb) hf
  have c7 := fun (hf : fewT ids ll = true) wx hb => PHigh_any kind Ai ni ci Al nl cl ids ll wx (sh wx hb) hf
  have c8 := fun (hf : fewT ids ll = true) wx hb => High_any kind Ai ni ci Al nl cl ids ll wx (sh wx hb) hf
  have hk : kidV (pathI kind ids ll id) = (castL (pathI kind ids ll id)).map iv := (castL_iv _).symm
  generalize hNS : nodesI kind ids ll = NS at *
  generalize hme : mayE kind ids ll = me at *
  have p1 := fun w e w' (hp : NodesPost w kind ids ll e w') => (show Below w.heap.size w w' ∧ ∃ A n c, e = .returned (.tuple #[.slice A n c, .int .i64 me]) ∧ NdR w' w'.heap.size A n c NS by rw [← hNS, ← hme]; exact hp)
  have p2 := fun w e w' (hp : Path11Post w kind ids ll id e w') => (show Below w.heap.size w w' ∧ ∃ A n c, e = .returned (.tuple #[.slice A n c, .int .i64 (pathE kind ids ll id)]) ∧ n ≤ c ∧ c ≤ maxLen ∧ Rd w' w'.heap.size A n ((castL (pathI kind ids ll id)).map iv) by rw [← hk]; exact hp)
  have p3 := fun w e w' (hp : BesPost w kind ids ll id e w') => (show Below w.heap.size w w' ∧ ∃ A n c, e = .returned (.tuple #[.slice A n c, .int .i64 (pathE kind ids ll id)]) ∧ n ≤ c ∧ c ≤ maxLen ∧ Rd w' w'.heap.size A n ((besI kind ids ll id).map iv) from hp)
  have p4 := fun w e w' (hp : HighPost w kind ids ll e w') => (show Below w.heap.size w w' ∧ e = .returned (.tuple #[.int .i64 (highI kind ids ll), .int .i64 me]) by rw [← hme]; exact hp)
  generalize pathE kind ids ll id = pe at *
  generalize castL (pathI kind ids ll id) = pl at *
  generalize besI kind ids ll id = bl at *
  generalize highI kind ids ll = hi at *
  generalize NodesPost = PN at *
  generalize Path11Post = PP at *
  generalize BesPost = PB at *
  generalize HighPost = PH at *
  clear sh h hk hNS hme
  go_enter Try.func3, Try.ntmps3
  go_wp2_with fail
  refine (live11 _).mono ?_
  rintro e w1 ⟨rfl, hb1⟩
  have hM1 := hM0.call hb1
  clear hM0 hb1
  go_wp2_with ((with_reducible show wpList _ _ _ (⟨some 25, _, _, _, _, _⟩ :: _) _ _); refine wpList_loadC (by kernel_rfl) 25 (.tmp 4) rfl w.heap.size rfl 25 (shV Ai ni ci Al nl cl) _ (hM1.get 0 rfl) Try.underlying25 rfl shapeInfo2 ?_)
  refine (hf1 _ hM1.old).mono ?_
  rintro e w2 ⟨rfl, hb2⟩
  have hM2 := hM1.call hb2
  have k0 := (hM2.get 0 rfl).cell (i := 0) (v := .slice Ai ni ci) rfl
  clear hM1 hb2
  have hret := hM2.old
  by_cases hfw : fewT ids ll = true
  rotate_left
  · have hff : fewT ids ll = false := by simpa using hfw
    rw [hff]
    clear hM2
    go_wp2_with fail
    go_ret
    exact ⟨rfl, hret⟩
  rw [hfw]
  by_cases hn : 120 < ni ∧ ni ≤ 1000
  · have hn1 : (120 : Int) < (ni : Int) := by omega
    have hn2 : (ni : Int) ≤ 1000 := by omega
    clear hM2
    go_wp2_with fail
    go_ret
    exact ⟨rfl, hret⟩
  have d1 := c1 hfw
  have d2 := c2 hfw
  have d3 := c3 hfw
  have d4 := c4 hfw
  have d5 := c5 hfw
  have d6 := c6 hfw
  have d7 := c7 hfw
  have d8 := c8 hfw
  have HM2 := Lib.hid hM2
  go_upto_region 4 with fail
  all_goals try simp only [Act.put]
  all_goals
    have hM2 := HM2.out
    go_wp2_with ((with_reducible show wpList _ _ _ (⟨some 43, _, _, _, _, _⟩ :: _) _ _); refine wpList_loadC (by kernel_rfl) 25 (.tmp 4) rfl w.heap.size rfl 25 (shV Ai ni ci Al nl cl) _ (hM2.get 0 rfl) Try.underlying25 rfl shapeInfo2 ?_)
    refine (d1 _ hM2.old).mono ?_
    intro e w3 hp
    obtain ⟨hb, A1, n1, c1, rfl, r1⟩ := p1 _ _ _ hp
    have hM3 := hM2.call hb
    clear hM2 hb hp d1
    go_wp2_with ((with_reducible show wpList _ _ _ (⟨some 49, _, _, _, _, _⟩ :: _) _ _); refine wpList_loadC (by kernel_rfl) 25 (.tmp 4) rfl w.heap.size rfl 25 (shV Ai ni ci Al nl cl) _ (hM3.get 0 rfl) Try.underlying25 rfl shapeInfo2 ?_)
    refine (d2 _ hM3.old).mono ?_
    intro e w4 hp
    obtain ⟨hb, A2, n2, c2, rfl, r2⟩ := p1 _ _ _ hp
    have hM4 := hM3.call hb
    replace r1 := d_nd r1 hb
    clear hM3 hb hp d2
    go_wp2_with ((with_reducible show wpList _ _ _ (⟨some 55, _, _, _, _, _⟩ :: _) _ _); refine wpList_loadC (by kernel_rfl) 25 (.tmp 4) rfl w.heap.size rfl 25 (shV Ai ni ci Al nl cl) _ (hM4.get 0 rfl) Try.underlying25 rfl shapeInfo2 ?_)
    refine (d3 _ hM4.old).mono ?_
    intro e w5 hp
    obtain ⟨hb, A3, n3, c3, rfl, x3, y3, r3⟩ := p2 _ _ _ hp
    have hM5 := hM4.call hb
    replace r1 := d_nd r1 hb
    replace r2 := d_nd r2 hb
    clear hM4 hb hp d3
    go_wp2_with ((with_reducible show wpList _ _ _ (⟨some 62, _, _, _, _, _⟩ :: _) _ _); refine wpList_loadC (by kernel_rfl) 25 (.tmp 4) rfl w.heap.size rfl 25 (shV Ai ni ci Al nl cl) _ (hM5.get 0 rfl) Try.underlying25 rfl shapeInfo2 ?_)
    refine (d4 _ hM5.old).mono ?_
    intro e w6 hp
    obtain ⟨hb, A4, n4, c4, rfl, x4, y4, r4⟩ := p2 _ _ _ hp
    have hM6 := hM5.call hb
    replace r1 := d_nd r1 hb
    replace r2 := d_nd r2 hb
    replace r3 := d_rd r3 hb
    clear hM5 hb hp d4
    go_wp2_with ((with_reducible show wpList _ _ _ (⟨some 69, _, _, _, _, _⟩ :: _) _ _); refine wpList_loadC (by kernel_rfl) 25 (.tmp 4) rfl w.heap.size rfl 25 (shV Ai ni ci Al nl cl) _ (hM6.get 0 rfl) Try.underlying25 rfl shapeInfo2 ?_)
    refine (d5 _ hM6.old).mono ?_
    intro e w7 hp
    obtain ⟨hb, A5, n5, c5, rfl, x5, y5, r5⟩ := p3 _ _ _ hp
    have hM7 := hM6.call hb
    replace r1 := d_nd r1 hb
    replace r2 := d_nd r2 hb
    replace r3 := d_rd r3 hb
    replace r4 := d_rd r4 hb
    clear hM6 hb hp d5
    go_wp2_with ((with_reducible show wpList _ _ _ (⟨some 76, _, _, _, _, _⟩ :: _) _ _); refine wpList_loadC (by kernel_rfl) 25 (.tmp 4) rfl w.heap.size rfl 25 (shV Ai ni ci Al nl cl) _ (hM7.get 0 rfl) Try.underlying25 rfl shapeInfo2 ?_)
    refine (d6 _ hM7.old).mono ?_
    intro e w8 hp
    obtain ⟨hb, A6, n6, c6, rfl, x6, y6, r6⟩ := p3 _ _ _ hp
    have hM8 := hM7.call hb
    replace r1 := d_nd r1 hb
    replace r2 := d_nd r2 hb
    replace r3 := d_rd r3 hb
    replace r4 := d_rd r4 hb
    replace r5 := d_rd r5 hb
    clear hM7 hb hp d6
    go_wp2_with ((with_reducible show wpList _ _ _ (⟨some 83, _, _, _, _, _⟩ :: _) _ _); refine wpList_loadC (by kernel_rfl) 25 (.tmp 4) rfl w.heap.size rfl 25 (shV Ai ni ci Al nl cl) _ (hM8.get 0 rfl) Try.underlying25 rfl shapeInfo2 ?_)
    refine (d7 _ hM8.old).mono ?_
    intro e w9 hp
    obtain ⟨hb, rfl⟩ := p4 _ _ _ hp
    have hM9 := hM8.call hb
    replace r1 := d_nd r1 hb
    replace r2 := d_nd r2 hb
    replace r3 := d_rd r3 hb
    replace r4 := d_rd r4 hb
    replace r5 := d_rd r5 hb
    replace r6 := d_rd r6 hb
    clear hM8 hb hp d7
    go_wp2_with ((with_reducible show wpList _ _ _ (⟨some 89, _, _, _, _, _⟩ :: _) _ _); refine wpList_loadC (by kernel_rfl) 25 (.tmp 4) rfl w.heap.size rfl 25 (shV Ai ni ci Al nl cl) _ (hM9.get 0 rfl) Try.underlying25 rfl shapeInfo2 ?_)
    refine (d8 _ hM9.old).mono ?_
    intro e w10 hp
    obtain ⟨hb, rfl⟩ := p4 _ _ _ hp
    have hM10 := hM9.call hb
    replace r1 := d_nd r1 hb
    replace r2 := d_nd r2 hb
    replace r3 := d_rd r3 hb
    replace r4 := d_rd r4 hb
    replace r5 := d_rd r5 hb
    replace r6 := d_rd r6 hb
    clear hM9 hb hp d8
    have hold := hM10.old
    have s1 := Same11_any A1 A2 n1 c1 n2 c2 NS NS _ r1 r2
    rw [sameU_refl] at s1
    clear hM10
    go_wp2_with fail
    refine s1.mono ?_
    rintro e w11 ⟨rfl, hb⟩
    replace r1 := d_nd r1 hb
    replace r2 := d_nd r2 hb
    replace r3 := d_rd r3 hb
    replace r4 := d_rd r4 hb
    replace r5 := d_rd r5 hb
    replace r6 := d_rd r6 hb
    have hold1 := hold.trans (hb.mono hold.size)
    have s2 := SameInts_any A3 A4 n3 c3 n4 c4 pl pl _ (by omega) r3 r4
    rw [beq_self_eq_true] at s2
    clear s1 hb hold
    go_wp2_with fail
    refine s2.mono ?_
    rintro e w12 ⟨rfl, hb⟩
    replace r1 := d_nd r1 hb
    replace r2 := d_nd r2 hb
    replace r3 := d_rd r3 hb
    replace r4 := d_rd r4 hb
    replace r5 := d_rd r5 hb
    replace r6 := d_rd r6 hb
    have hold2 := hold1.trans (hb.mono hold1.size)
    have s3 := SameInts_any A5 A6 n5 c5 n6 c6 bl bl _ (by omega) r5 r6
    rw [beq_self_eq_true] at s3
    clear s2 hb hold1
    go_wp2_with fail
    refine s3.mono ?_
    rintro e w13 ⟨rfl, hb⟩
    replace r1 := d_nd r1 hb
    replace r2 := d_nd r2 hb
    replace r3 := d_rd r3 hb
    replace r4 := d_rd r4 hb
    replace r5 := d_rd r5 hb
    replace r6 := d_rd r6 hb
    have hold3 := hold2.trans (hb.mono hold2.size)
    have s4 := PSame_any11 A1 A2 n1 c1 n2 c2 NS NS _ r1 r2
    rw [sameU_refl] at s4
    clear s3 hb hold2
    go_wp2_with fail
    refine s4.mono ?_
    rintro e w14 ⟨rfl, hb⟩
    have hold4 := hold3.trans (hb.mono hold3.size)
    clear s4
    go_wp2_with fail
    go_ret
    exact ⟨rfl, hold4⟩

end Go.Proofs.Ytbickllpledlbaa

