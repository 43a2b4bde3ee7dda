import Derived.Test.YtlidhdljgnijaaaDoorN35
import Derived.Test.YtlidhdljgnijaaaDoorN15
import Derived.Test.YtlidhdljgnijaaaDoorN21
import Derived.Deep.RegionHeld3
import Derived.Test.YtlidhdljgnijaaaDoorN22
import Derived.Test.YtlidhdljgnijaaaDoorN20
import Derived.Test.YtlidhdljgnijaaaDoorN04
/-
  WHAT THE CLOSURE OF THE PROGRAM's red.told CARRIES: its boxes, the counts of each level, the nodes told so far; how the counts go on; steps that keep it.
-/
set_option linter.unusedVariables false
namespace Go.Proofs.YtlidhdljgnijaaaDoor
open Go.RowKit

/-- how many groups of level j stand ahead of what is below group a of level k -/
def downS (lv : List (List Nat)) : Nat → Nat → Nat → Nat
  | 0, a, _ => a
  | k + 1, a, j => if j = k + 1 then a else downS lv k (startT (lv.getD k []) a) j
def stepF (lv : List (List Nat)) (k a : Nat) (f : Nat → Nat) : Nat → Nat := fun j => if j ≤ k then downS lv k a j else f j
def updF (f : Nat → Nat) (k x : Nat) : Nat → Nat := fun j => if j = k then x else f j
theorem downS_top (lv : List (List Nat)) (k a : Nat) : downS lv k a k = a := by cases k <;> simp [downS]
theorem stepF_top (lv : List (List Nat)) (k a : Nat) (f : Nat → Nat) : stepF lv k a f k = a := by rw [stepF, if_pos (Nat.le_refl _), downS_top]
theorem stepF_zero (lv : List (List Nat)) (a : Nat) (f : Nat → Nat) : updF (stepF lv 0 a f) 0 (a + 1) = stepF lv 0 (a + 1) f := by
  funext j
  simp only [updF, stepF, downS]
  by_cases h : j = 0
  · subst h; simp
  · rw [if_neg h, if_neg (by omega), if_neg (by omega)]
theorem stepF_in (lv : List (List Nat)) (k a : Nat) (f : Nat → Nat) : updF (stepF lv (k + 1) a f) (k + 1) (a + 1) = stepF lv k (startT (lv.getD k []) a) (stepF lv (k + 1) (a + 1) f) := by
  funext j
  simp only [updF, stepF, downS]
  by_cases h : j = k + 1
  · subst h
    rw [if_pos rfl, if_neg (by omega), if_pos (by omega), if_pos rfl]
  · rw [if_neg h]
    by_cases h2 : j ≤ k
    · rw [if_pos (by omega), if_neg h, if_pos h2]
    · rw [if_neg (by omega), if_neg h2, if_neg (by omega)]
theorem stepF_out (lv : List (List Nat)) (k a : Nat) (f : Nat → Nat) : stepF lv k (startT (lv.getD k []) (a + 1)) (stepF lv (k + 1) (a + 1) f) = stepF lv (k + 1) (a + 1) f := by
  funext j
  simp only [stepF, downS]
  by_cases h2 : j ≤ k
  · rw [if_pos h2, if_pos (by omega), if_neg (by omega)]
  · rw [if_neg h2]
/-- the cells of the counts -/
def cntC (m : Nat) (f : Nat → Nat) : Array Value := ((List.range m).map fun j => Value.int .i64 (f j : Nat)).toArray
theorem cntC_at {m j : Nat} (f : Nat → Nat) (h : j < m) : (cntC m f)[j]? = some (.int .i64 (f j : Nat)) := by simp [cntC, h]
theorem cntC_set {m : Nat} (f : Nat → Nat) (k x : Nat) : (cntC m f).setIfInBounds k (.int .i64 (x : Nat)) = cntC m (updF f k x) := by
  apply Array.ext
  · simp [cntC]
  · intro i h1 h2
    simp only [cntC, updF, List.setIfInBounds_toArray, List.getElem_toArray, List.getElem_set, List.getElem_map, List.getElem_range]
    by_cases h : k = i
    · subst h; simp
    · rw [if_neg h, if_neg (fun e => h e.symm)]

/-- the closure -/
def cloV (bN bO bT bS bK : Nat) : Value := .func (.func 94) #[] #[.pointer (some ⟨bN, 0, none⟩), .pointer (some ⟨bO, 0, none⟩), .pointer (some ⟨bT, 0, none⟩), .pointer (some ⟨bS, 0, none⟩), .pointer (some ⟨bK, 0, none⟩)]
/-- what it carries: vb lies in the box of the nodes, v are the nodes -/
structure TS (base b0 bN gN bO bT bS bK : Nat) (kind : Int) (sv : Array Value) (m : Nat) (w0 w : World) (f : Nat → Nat) (vb v : Value) (ns : List RN) (us : List Value) : Prop where
  old : Below base w0 w
  lo : base ≤ gN ∧ base ≤ bO
  lt : gN < b0 ∧ bO < b0 ∧ base ≤ b0 ∧ b0 ≤ w.heap.size
  ne : gN ≠ bK
  rN : RowC w bN 22 #[.slice (some ⟨gN, 0, none⟩) m m]
  rG : RowC w gN 3 (cntC m f)
  rO : RowC w bO 64 #[vb]
  rT : RowC w bT 89 #[cloV bN bO bT bS bK]
  rS : RowC w bS 25 sv
  rK : RowC w bK 3 #[.int .i64 kind]
  nd : OwR base w v ns us
  hu : ∀ u ∈ us, ∀ y, u.ownBlock = some y → b0 ≤ y
/-- what a call may have changed: the counts, the nodes' box, the nodes' row, what is new -/
structure MV (gN bO : Nat) (v : Value) (w : World) (v' : Value) (w' : World) : Prop where
  sz : w.heap.size ≤ w'.heap.size
  own : v'.ownBlock = v.ownBlock ∨ ∃ y, v'.ownBlock = some y ∧ w.heap.size ≤ y
  keep : ∀ g, g < w.heap.size → g ≠ gN → g ≠ bO → v.ownBlock ≠ some g → w'.heap[g]? = w.heap[g]?
theorem MV.refl (gN bO : Nat) (v : Value) (w : World) : MV gN bO v w v w := ⟨Nat.le_refl _, .inl rfl, fun _ _ _ _ _ => rfl⟩
theorem MV.trans {gN bO : Nat} {v v' v'' : Value} {w w' w'' : World} (h : MV gN bO v w v' w') (k : MV gN bO v' w' v'' w'') : MV gN bO v w v'' w'' := by
  refine ⟨Nat.le_trans h.sz k.sz, ?_, fun g h1 h2 h3 h4 => ?_⟩
  · rcases k.own with e | ⟨y, e, hy⟩
    · rw [e]; exact h.own
    · exact .inr ⟨y, e, Nat.le_trans h.sz hy⟩
  · have h5 : v'.ownBlock ≠ some g := by
      rcases h.own with e | ⟨y, e, hy⟩
      · rw [e]; exact h4
      · rw [e]; intro e2; injection e2 with e2; omega
    rw [k.keep g (by have := h.sz; omega) h2 h3 h5, h.keep g h1 h2 h3 h4]
theorem MV.quiet {gN bO : Nat} {v : Value} {w w' : World} (hb : Below w.heap.size w w') : MV gN bO v w v w' := ⟨hb.size, .inl rfl, fun g h1 _ _ _ => hb.block g h1⟩
theorem MV.box {gN bO : Nat} {v v' : Value} {w w' : World} (h : MV gN bO v w v' w') {g : Nat} {t : TypeId} {cs : Array Value} (hr : RowC w g t cs) (h2 : g ≠ gN) (h3 : g ≠ bO) (h4 : v.ownBlock ≠ some g) : RowC w' g t cs ∧ v'.ownBlock ≠ some g := by
  refine ⟨hr.of (h.keep g hr.lt h2 h3 h4), ?_⟩
  rcases h.own with e | ⟨y, e, hy⟩
  · rw [e]; exact h4
  · rw [e]; intro e2; injection e2 with e2; have := hr.lt; omega
theorem ty_apart {w : World} {g g' : Nat} {t t' : TypeId} {cs cs' : Array Value} (h : RowC w g t cs) (h' : RowC w g' t' cs') (hne : t ≠ t') : g ≠ g' := fun e => by
  subst e
  exact hne (ty_neT h h')
section
variable {base b0 bN gN bO bT bS bK m : Nat} {kind : Int} {sv : Array Value} {w0 w w' : World} {f : Nat → Nat} {vb v : Value} {ns : List RN} {us : List Value}
theorem TS.quiet (h : TS base b0 bN gN bO bT bS bK kind sv m w0 w f vb v ns us) (hb : Below w.heap.size w w') : TS base b0 bN gN bO bT bS bK kind sv m w0 w' f vb v ns us :=
  ⟨h.old.trans (hb.mono (by have := h.lt; omega)), h.lo, ⟨h.lt.1, h.lt.2.1, h.lt.2.2.1, Nat.le_trans h.lt.2.2.2 hb.size⟩, h.ne, h.rN.call hb, h.rG.call hb, h.rO.call hb, h.rT.call hb, h.rS.call hb, h.rK.call hb, h.nd.quiet hb, h.hu⟩
/-- the nodes' row turns -/
theorem TS.turn (h : TS base b0 bN gN bO bT bS bK kind sv m w0 w f vb v ns us) (hg : w.grownBy w' v.ownBlock) {v' : Value} {ns' : List RN} {us' : List Value} (hn : OwR base w' v' ns' us') (hu : ∀ u ∈ us', u ∈ us ∨ ∀ y, u.ownBlock = some y → b0 ≤ y) : TS base b0 bN gN bO bT bS bK kind sv m w0 w' f vb v' ns' us' := by
  have hty : ∀ {g : Nat} {t : TypeId} {cs : Array Value}, RowC w g t cs → t ≠ 68 → RowC w' g t cs := fun hr ht => hr.grownT hg fun k hk e => by
    subst e
    obtain ⟨cs', hr'⟩ := own_tyT h.nd.row hk
    exact ht (ty_neT hr hr')
  refine ⟨h.old.grown hg (by have := h.lt; omega) (own_blockT h.nd.row), h.lo, ⟨h.lt.1, h.lt.2.1, h.lt.2.2.1, Nat.le_trans h.lt.2.2.2 hg.size⟩, h.ne, hty h.rN (by decide), hty h.rG (by decide), hty h.rO (by decide), hty h.rT (by decide), hty h.rS (by decide), hty h.rK (by decide), hn, fun u hu' => ?_⟩
  rcases hu u hu' with h1 | h1
  · exact h.hu u h1
  · exact h1
theorem TS.apart (h : TS base b0 bN gN bO bT bS bK kind sv m w0 w f vb v ns us) {g : Nat} {t : TypeId} {cs : Array Value} (hr : RowC w g t cs) (ht : t ≠ 68) : v.ownBlock = none ∨ v.ownBlock ≠ some g := by
  cases e : v.ownBlock with
  | none => exact .inl rfl
  | some y =>
    refine .inr fun e2 => ?_
    injection e2 with e2
    subst e2
    obtain ⟨cs', hr'⟩ := own_tyT h.nd.row e
    exact ht (ty_neT hr hr')
theorem TS.apartU (h : TS base b0 bN gN bO bT bS bK kind sv m w0 w f vb v ns us) {g : Nat} (hg : g < b0) : ∀ u ∈ us, u.ownBlock = none ∨ u.ownBlock ≠ some g := fun u hu => by
  cases e : u.ownBlock with
  | none => exact .inl rfl
  | some y =>
    refine .inr fun e2 => ?_
    injection e2 with e2
    have := h.hu u hu y e
    omega
/-- the nodes' box is written -/
theorem TS.store (h : TS base b0 bN gN bO bT bS bK kind sv m w0 w f vb v ns us) (x : Value) : TS base b0 bN gN bO bT bS bK kind sv m w0 (w.setCell ⟨bO, 0, none⟩ x) f x v ns us := by
  have hg := grown_setCell w bO 0 x
  have hne : ∀ {g : Nat} {t : TypeId} {cs : Array Value}, RowC w g t cs → t ≠ 64 → RowC (w.setCell ⟨bO, 0, none⟩ x) g t cs := fun hr ht => hr.far (ty_apart hr h.rO ht) x
  exact ⟨h.old.grown hg (by have := h.lt; omega) (fun g e => by injection e with e; have := h.lo; omega), h.lo, ⟨h.lt.1, h.lt.2.1, h.lt.2.2.1, Nat.le_trans h.lt.2.2.2 hg.size⟩, h.ne, hne h.rN (by decide), hne h.rG (by decide), h.rO.set_ 0 x, hne h.rT (by decide), hne h.rS (by decide), hne h.rK (by decide),
    h.nd.kept hg (h.apart h.rO (by decide)) (h.apartU h.lt.2.1), h.hu⟩
/-- a count is written -/
theorem TS.count (h : TS base b0 bN gN bO bT bS bK kind sv m w0 w f vb v ns us) (k x : Nat) : TS base b0 bN gN bO bT bS bK kind sv m w0 (w.setCell ⟨gN, k, none⟩ (.int .i64 (x : Nat))) (updF f k x) vb v ns us := by
  have hg := grown_setCell w gN k (.int .i64 (x : Nat))
  have hne : ∀ {g : Nat} {t : TypeId} {cs : Array Value}, RowC w g t cs → t ≠ 3 → RowC (w.setCell ⟨gN, k, none⟩ (.int .i64 (x : Nat))) g t cs := fun hr ht => hr.far (ty_apart hr h.rG ht) _
  refine ⟨h.old.grown hg (by have := h.lt; omega) (fun g e => by injection e with e; have := h.lo; omega), h.lo, ⟨h.lt.1, h.lt.2.1, h.lt.2.2.1, Nat.le_trans h.lt.2.2.2 hg.size⟩, h.ne, hne h.rN (by decide), ?_, hne h.rO (by decide), hne h.rT (by decide), hne h.rS (by decide), h.rK.far (p := ⟨gN, k, none⟩) (fun e => h.ne e.symm) _,
    h.nd.kept hg (h.apart h.rG (by decide)) (h.apartU h.lt.1), h.hu⟩
  rw [← cntC_set]
  exact h.rG.set_ k _
theorem MV.store {x : Value} : MV gN bO v w v (w.setCell ⟨bO, 0, none⟩ x) := by
  have hg := grown_setCell w bO 0 x
  exact ⟨hg.size, .inl rfl, fun g h1 h2 h3 h4 => Below.heap_setCell w ⟨bO, 0, none⟩ x g h3⟩
theorem MV.count {k : Nat} {x : Value} : MV gN bO v w v (w.setCell ⟨gN, k, none⟩ x) := by
  have hg := grown_setCell w gN k x
  exact ⟨hg.size, .inl rfl, fun g h1 h2 h3 h4 => Below.heap_setCell w ⟨gN, k, none⟩ x g h2⟩
/-- a node more, over trees that are told -/
theorem TS.addT {ns0 : List RN} {Ts : List RT} (h : TS base b0 bN gN bO bT bS bK kind sv m w0 w f vb v (ns0 ++ flats Ts ns0.length) us) (lev a : Nat) (red : Bool) (hT : (∃ l r, Ts = [l, r]) ∨ (red = false ∧ ∃ l x r, Ts = [l, x, r])) (hn : ns0.length + sizes Ts ≤ 100000) :
    Calls Tryd.prog 95 #[v, .agg (ndZ lev a red), .slice (some ⟨w.heap.size, 0, none⟩) Ts.length Ts.length] (w.alloc (.cells (kidV (ends Ts ns0.length)).toArray 3)) fun e w' => ∃ v' us', e = .returned v' ∧
      TS base b0 bN gN bO bT bS bK kind sv m w0 w' f vb v' (ns0 ++ (joinT lev a red Ts).flat ns0.length (-1)) us' ∧ MV gN bO v w v' w' := by
  have hal := d_al w (.cells (kidV (ends Ts ns0.length)).toArray 3)
  have h1 := h.quiet hal
  have hl3 : Ts.length ≤ 3 := by rcases hT with ⟨_, _, e⟩ | ⟨_, _, _, _, e⟩ <;> rw [e] <;> simp
  have hk : (w.alloc (.cells (kidV (ends Ts ns0.length)).toArray 3)).ownsRow base 3 1 (.slice (some ⟨w.heap.size, 0, none⟩) Ts.length Ts.length) Ts.length (kidV (ends Ts ns0.length)) := by
    refine own_ofT (RowC.new w _ _) (by have := h.lt; omega) (Nat.le_refl _) (by simp only [maxLen]; omega) (by simp [kidV, ends_len]) ?_
    rw [List.take_of_length_le (by simp [kidV, ends_len])]
  refine (PAddT_any base v ns0 us lev a red w.heap.size Ts.length Ts _ hT (by have := h1.lt; omega) h1.nd hk hn).mono ?_
  rintro e w' ⟨v', us', rfl, q1, q2, q3, q4⟩
  have hs : (w.alloc (.cells (kidV (ends Ts ns0.length)).toArray 3)).heap.size = w.heap.size + 1 := by simp
  refine ⟨v', us', rfl, h1.turn q2 q1 (fun u hu => ?_), (MV.quiet hal).trans ⟨q2.size, q3, fun g h1 h2 h3 h4 => q2.block g h1 (fun e => h4 e.symm)⟩⟩
  rcases q4 u hu with h5 | h5
  · exact .inl h5
  · refine .inr fun y hy => ?_
    rw [h5] at hy
    have hy2 : w.heap.size = y := Option.some.inj hy
    have := h.lt
    omega
theorem TS.addT' {ns0 : List RN} {Ts : List RT} (h : TS base b0 bN gN bO bT bS bK kind sv m w0 w f vb v (ns0 ++ flats Ts ns0.length) us) (lev a : Nat) (red : Bool) (hT : (∃ l r, Ts = [l, r]) ∨ (red = false ∧ ∃ l x r, Ts = [l, x, r])) (hn : ns0.length + sizes Ts ≤ 100000)
    (nv : Array Value) (hnv : nv = ndZ lev a red) (kc : Array Value) (hkc : kc = (kidV (ends Ts ns0.length)).toArray) (c : Nat) (hc : c = Ts.length) :
    Calls Tryd.prog 95 #[v, .agg nv, .slice (some ⟨w.heap.size, 0, none⟩) c c] (w.alloc (.cells kc 3)) fun e w' => ∃ v' us', e = .returned v' ∧
      TS base b0 bN gN bO bT bS bK kind sv m w0 w' f vb v' (ns0 ++ (joinT lev a red Ts).flat ns0.length (-1)) us' ∧ MV gN bO v w v' w' := by
  subst hnv hkc hc
  exact h.addT lev a red hT hn
theorem TS.addLeaf (h : TS base b0 bN gN bO bT bS bK kind sv m w0 w f vb v ns us) {a : Nat} (ha : a ≤ 100000) (hn : ns.length + 1 ≤ 100000) :
    Calls Tryd.prog 95 #[v, .agg #[.int .i64 0, .int .i64 (a : Nat), .bool false, .int .i64 (a : Nat), .int .i64 ((a : Int) + 1), .slice none 0 0, .int .i64 0], .slice none 0 0] w fun e w' => ∃ v' us', e = .returned v' ∧
      TS base b0 bN gN bO bT bS bK kind sv m w0 w' f vb v' (ns ++ (RT.leaf a).flat ns.length (-1)) us' ∧ MV gN bO v w v' w' := by
  refine (PAddLeaf_any base a v ns us w ha (by have := h.lt; omega) h.nd hn).mono ?_
  rintro e w' ⟨v', us', rfl, q1, q2, q3, q4⟩
  refine ⟨v', us', rfl, h.turn q2 q1 (fun u hu => ?_), ⟨q2.size, q3, fun g h1 h2 h3 h4 => q2.block g h1 (fun e => h4 e.symm)⟩⟩
  rcases q4 u hu with h5 | h5
  · exact .inl h5
  · exact .inr fun y hy => by rw [h5] at hy; simp [Value.ownBlock] at hy
theorem TS.form (h : TS base b0 bN gN bO bT bS bK kind sv m w0 w f vb v ns us) : ∃ A c, v = .slice A ns.length c := by
  obtain ⟨A, c, e, _, _⟩ := own_formT h.nd.row
  exact ⟨A, c, e⟩
end

end Go.Proofs.YtlidhdljgnijaaaDoor

/-
  CONTRACT of the closure of the program's red.told at a leaf.
-/
set_option linter.unusedVariables false
namespace Go.Proofs.YtlidhdljgnijaaaDoor
open Go.RowKit

def TellPost (base b0 bN gN bO bT bS bK : Nat) (kind : Int) (sv : Array Value) (m : Nat) (w0 w : World) (f : Nat → Nat) (v : Value) (ns : List RN) (T : RT) (q : Nat) (e : Ending) (w' : World) : Prop :=
  ∃ v' us', e = .returned (.int .i64 (q : Int)) ∧ TS base b0 bN gN bO bT bS bK kind sv m w0 w' f v' v' (ns ++ T.flat ns.length (-1)) us' ∧ MV gN bO v w v' w'

set_option maxRecDepth 100000 in
set_option maxHeartbeats 4000000 in
theorem PTellLeaf_any (base b0 bN gN bO bT bS bK : Nat) (kind : Int) (sv : Array Value) (m : Nat) (w0 w : World) (lv : List (List Nat)) (a : Nat) (f : Nat → Nat) (v : Value) (ns : List RN) (us : List Value) (hm : 0 < m) (hmm : m ≤ 2000) (ha : a < 100000) (hn : ns.length + 1 ≤ 100000)
    (h : TS base b0 bN gN bO bT bS bK kind sv m w0 w (stepF lv 0 a f) v v ns us) :
    Calls Tryd.prog 94 #[.int .i64 0, .pointer (some ⟨bN, 0, none⟩), .pointer (some ⟨bO, 0, none⟩), .pointer (some ⟨bT, 0, none⟩), .pointer (some ⟨bS, 0, none⟩), .pointer (some ⟨bK, 0, none⟩)] w
      (TellPost base b0 bN gN bO bT bS bK kind sv m w0 w (stepF lv 0 (a + 1) f) v ns (.leaf a) ns.length) := by
  have Hpost := Lib.hid (show ∀ v' us' w' n, TS base b0 bN gN bO bT bS bK kind sv m w0 w' (stepF lv 0 (a + 1) f) v' v' (ns ++ (RT.leaf a).flat ns.length (-1)) us' → MV gN bO v w v' w' → n = ((ns.length : Nat) : Int) → TellPost base b0 bN gN bO bT bS bK kind sv m w0 w (stepF lv 0 (a + 1) f) v ns (.leaf a) ns.length (.returned (.int .i64 n)) w' from fun v' us' w' n q1 q2 e => ⟨v', us', by rw [e], q1, q2⟩)
  generalize TellPost base b0 bN gN bO bT bS bK kind sv m w0 w (stepF lv 0 (a + 1) f) v ns (.leaf a) ns.length = PO at *
  have h1 := h.count 0 (a + 1)
  rw [stepF_zero] at h1
  have hlen : (ns ++ (RT.leaf a).flat ns.length (-1)).length = ns.length + 1 := by rw [List.length_append, RT.flat_len, RT.size]
  have hm1 : MV gN bO v w v (w.setCell ⟨gN, 0, none⟩ (.int .i64 ((a + 1 : Nat) : Int))) := MV.count
  have c1 := h.rN.cell (i := 0) (v := .slice (some ⟨gN, 0, none⟩) m m) rfl
  have c2 := h.rG.cell (cntC_at _ hm)
  rw [stepF_top] at c2
  have f2 := h.rG.frozen 0
  have c3 := h.rO.cell (i := 0) (v := v) rfl
  have z0 : (0 : Int) < (m : Int) := by omega
  have z1 : IntKind.i64.wrap ((a : Int) + 1) = (a : Int) + 1 := by rw [IntKind.wrap_i64]; omega
  have hm0 : ¬ m = 0 := by omega
  clear h
  go_enter Tryd.func94, Tryd.ntmps94
  go_upto_region 3 with fail
  try simp only [Act.put]
  refine wp_gen (fun wx => TS base b0 bN gN bO bT bS bK kind sv m w0 wx (stepF lv 0 (a + 1) f) v v ns us ∧ MV gN bO v w v wx) ⟨h1, hm1⟩ ?_
  clear h1 hm1 c1 c2 f2 c3 z0
  rintro w1 ⟨h1, hm1⟩
  have c3 := h1.rO.cell (i := 0) (v := v) rfl
  have had := h1.addLeaf (a := a) (by omega) hn
  go_wp2_with fail
  refine had.mono ?_
  rintro e w2 ⟨v2, us2, rfl, h2, hm2⟩
  have c4 := h2.rO.cell (i := 0) (v := v) rfl
  have f4 := h2.rO.frozen 0
  obtain ⟨A2, d2, hv2⟩ := h2.form
  rw [hlen] at hv2
  subst hv2
  have h3 := h2.store (.slice A2 (ns.length + 1) d2)
  have hm3 := (hm1.trans hm2).trans (MV.store (gN := gN) (w := w2) (bO := bO) (v := .slice A2 (ns.length + 1) d2) (x := .slice A2 (ns.length + 1) d2))
  have c5 := h3.rO.cell (i := 0) (v := .slice A2 (ns.length + 1) d2) rfl
  have zn : IntKind.i64.wrap (((ns.length + 1 : Nat) : Int) - 1) = (ns.length : Int) := by rw [IntKind.wrap_i64]; omega
  have zn2 : IntKind.i64.wrap ((ns.length : Int) + 1 - 1) = (ns.length : Int) := by rw [IntKind.wrap_i64]; omega
  clear had h1 hm1 c3 h2 hm2
  go_wp2_with fail
  (first | exact Hpost.out _ _ _ _ h3 hm3 rfl | exact bodyPost_ret (results_tmp rfl _ _ _) rfl (Hpost.out _ _ _ _ h3 hm3 rfl))

end Go.Proofs.YtlidhdljgnijaaaDoor

/-
  CONTRACT of the closure of the program's red.told at a level above the leaves, by those below. Printed by gen_redpd.py.
-/
set_option linter.unusedVariables false
namespace Go.Proofs.YtlidhdljgnijaaaDoor
open Go.RowKit

theorem flats_two (ns : List RN) (A B : RT) : (ns ++ A.flat ns.length (-1)) ++ B.flat (ns ++ A.flat ns.length (-1)).length (-1) = ns ++ flats [A, B] ns.length := by
  rw [List.length_append, RT.flat_len]
  simp [flats, List.append_assoc]
theorem flats_three (ns : List RN) (A B C : RT) : (ns ++ flats [A, B] ns.length) ++ C.flat (ns ++ flats [A, B] ns.length).length (-1) = ns ++ flats [A, B, C] ns.length := by
  rw [List.length_append, flats_len]
  simp [flats, sizes, List.append_assoc, Nat.add_assoc]

set_option maxRecDepth 100000 in
set_option maxHeartbeats 4000000 in
theorem PTellStep_any (base b0 bN gN bO bT bS bK : Nat) (kind : Int) (hk12 : kind = 1 ∨ kind = 2) (Ai : Option Addr) (ni ci : Nat) (Al : Option Addr) (nl cl : Nat) (ids : List Int) (lv : List (List Nat)) (L k a m : Nat) (hL : L = k + 1) (l : List Nat) (hl : lv[k]? = some l) (h23 : two3 l) (ha : a < l.length) (hsum : l.sum ≤ 1000) (hlen : l.length ≤ 1000) (hk : k ≤ 1000) (hkm : k + 1 < m) (hmm : m ≤ 2000) (w0 : World)
    (hS0 : ShR w0 base Ai ni ci Al nl cl ids (levI lv))
    (IH : ∀ b, b < l.sum → ∀ (f : Nat → Nat) (v : Value) (ns : List RN) (us : List Value) (w : World) (q : Nat), TS base b0 bN gN bO bT bS bK kind (shV Ai ni ci Al nl cl) m w0 w (stepF lv k b f) v v ns us → q + 1 = ns.length + (treeOf kind lv k b).size → q < 100000 →
      Calls Tryd.prog 94 #[.int .i64 (k : Nat), .pointer (some ⟨bN, 0, none⟩), .pointer (some ⟨bO, 0, none⟩), .pointer (some ⟨bT, 0, none⟩), .pointer (some ⟨bS, 0, none⟩), .pointer (some ⟨bK, 0, none⟩)] w (TellPost base b0 bN gN bO bT bS bK kind (shV Ai ni ci Al nl cl) m w0 w (stepF lv k (b + 1) f) v ns (treeOf kind lv k b) q))
    (f : Nat → Nat) (v : Value) (ns : List RN) (us : List Value) (w : World) (q : Nat) (h : TS base b0 bN gN bO bT bS bK kind (shV Ai ni ci Al nl cl) m w0 w (stepF lv (k + 1) a f) v v ns us) (hq : q + 1 = ns.length + (treeOf kind lv (k + 1) a).size) (hqq : q < 100000) :
    Calls Tryd.prog 94 #[.int .i64 (L : Nat), .pointer (some ⟨bN, 0, none⟩), .pointer (some ⟨bO, 0, none⟩), .pointer (some ⟨bT, 0, none⟩), .pointer (some ⟨bS, 0, none⟩), .pointer (some ⟨bK, 0, none⟩)] w (TellPost base b0 bN gN bO bT bS bK kind (shV Ai ni ci Al nl cl) m w0 w (stepF lv (k + 1) (a + 1) f) v ns (treeOf kind lv (k + 1) a) q) := by
  have hll : k < (levI lv).length := by rw [levI_lenX]; exact (List.getElem?_eq_some_iff.1 hl).1
  have hlk : (levI lv)[k] = castL l := by have := levI_get hl; rw [List.getElem?_eq_getElem hll] at this; exact Option.some.inj this
  have hkn : k < nl := by rw [← hS0.hnl]; exact hll
  have hcl := hS0.hcl
  have hml := hS0.hml
  obtain ⟨vs, hv, hlv⟩ := hS0.lvs
  obtain ⟨A0, c0, hv0, hc0, hm0, hr0⟩ := hlv.get hll
  rw [hlk, castL_len] at hv0 hc0 hr0
  have hm23 := two3_get h23 ha
  have hsa := startT_succ l ha
  have hca : ((castL l).map iv)[a]? = some (.int .i64 ((l[a] : Nat) : Int)) := by rw [castL, List.getElem?_map, List.getElem?_map, List.getElem?_eq_getElem ha]; rfl
  have hle := startT_le l (a + 1)
  have hg : lv.getD k [] = l := getD_at hl
  have hx : l.getD a 0 = l[a] := getD_at (List.getElem?_eq_getElem ha)
  have hTT := treeOf.eq_2 kind lv a k
  rw [hg, hx] at hTT
  obtain ⟨T, hT⟩ : ∃ T, T = treeOf kind lv (k + 1) a := ⟨_, rfl⟩
  rw [← hT] at hq hTT ⊢
  obtain ⟨st, hst⟩ : ∃ st, st = startT l a := ⟨_, rfl⟩
  have hgo : startT (lv.getD k []) (a + 1) = st + l[a] := by rw [hg, hst, hsa]
  have Hout := Lib.hid (stepF_out lv k a f)
  rw [hgo] at Hout
  have h1 := h.count (k + 1) (a + 1)
  rw [stepF_in, hg, ← hst] at h1
  rw [← hst] at hTT hsa
  rw [hsa] at hle
  have hm1 : MV gN bO v w v (w.setCell ⟨gN, k + 1, none⟩ (.int .i64 ((a + 1 : Nat) : Int))) := MV.count
  obtain ⟨T0, hT0⟩ : ∃ T0, T0 = treeOf kind lv k st := ⟨_, rfl⟩
  obtain ⟨T1, hT1⟩ : ∃ T1, T1 = treeOf kind lv k (st + 1) := ⟨_, rfl⟩
  obtain ⟨T2, hT2⟩ : ∃ T2, T2 = treeOf kind lv k (st + 2) := ⟨_, rfl⟩
  obtain ⟨g, hgg⟩ : ∃ g, g = stepF lv (k + 1) (a + 1) f := ⟨_, rfl⟩
  rw [← hT0, ← hT1, ← hT2] at hTT
  rw [← hgg] at h1 Hout ⊢
  obtain ⟨n2, hn2⟩ : ∃ n2, n2 = l[a] := ⟨_, rfl⟩
  rw [← hn2] at hTT hm23 hle hca Hout
  have hsz : T0.size + T1.size + 1 ≤ T.size := by
    rcases hm23 with e | e
    · rw [hTT, if_neg (by omega)]; simp [RT.size]
    · rw [hTT, if_pos e]
      split <;> simp only [RT.size] <;> omega
  have hst1000 : st + n2 ≤ l.sum := hle
  have IH0 := IH st (by omega)
  have IH1 := IH (st + 1) (by omega)
  have HIH2 := Lib.hid (fun (h3 : n2 = 3) => IH (st + 2) (by omega))
  rw [← hT0] at IH0
  rw [← hT1] at IH1
  rw [← hT2] at HIH2
  have p0' := T0.size_pos
  have p1' := T1.size_pos
  obtain ⟨p0, hp0⟩ : ∃ p0, p0 + 1 = ns.length + T0.size := ⟨ns.length + T0.size - 1, by omega⟩
  obtain ⟨p1, hp1⟩ : ∃ p1, p1 + 1 = ns.length + T0.size + T1.size := ⟨ns.length + T0.size + T1.size - 1, by omega⟩
  have c1 := h.rN.cell (i := 0) (v := .slice (some ⟨gN, 0, none⟩) m m) rfl
  have c2 := h.rG.cell (cntC_at _ hkm)
  rw [stepF_top] at c2
  have f2 := h.rG.frozen (k + 1)
  have z0 : ((k + 1 : Nat) : Int) < (m : Int) := by omega
  have z0' : (k : Int) + 1 < (m : Int) := by omega
  have z1 : IntKind.i64.wrap ((a : Int) + 1) = (a : Int) + 1 := by rw [IntKind.wrap_i64]; omega
  have zm : ¬ m = 0 := by omega
  have Hpost := Lib.hid (show ∀ v' us' w' F T' n, F = g → T' = T → n = (q : Int) → TS base b0 bN gN bO bT bS bK kind (shV Ai ni ci Al nl cl) m w0 w' F v' v' (ns ++ T'.flat ns.length (-1)) us' → MV gN bO v w v' w' → TellPost base b0 bN gN bO bT bS bK kind (shV Ai ni ci Al nl cl) m w0 w g v ns T q (.returned (.int .i64 n)) w' from fun v' us' w' F T' n e1 e2 e3 q1 q2 => ⟨v', us', by rw [e3], by rw [← e1, ← e2]; exact q1, q2⟩)
  generalize TellPost base b0 bN gN bO bT bS bK kind (shV Ai ni ci Al nl cl) m w0 w g v ns T q = PO at *
  have HTT := Lib.hid hTT
  have HT := Lib.hid hT
  have Hhv := Lib.hid hv
  have Hhr0 := Lib.hid hr0
  have Hca := Lib.hid hca
  have hf1 := h.form
  obtain ⟨Av, dv, rfl⟩ := hf1
  subst hL
  clear h IH hT hTT hT0 hT1 hT2 hS0 hlv hl h23 hst hgo hgg hn2 hlk hll hg hx hsa hv hr0 hca
  have zk : ¬ ((k + 1 : Nat) : Int) = 0 := by omega
  have zk' : ¬ (k : Int) + 1 = 0 := by omega
  have zk0 : (((k + 1 : Nat) : Int) == 0) = false := by simp only [beq_eq_false_iff_ne]; exact zk
  have zk2 : IntKind.i64.wrap (((k + 1 : Nat) : Int) - 1) = (k : Int) := by rw [IntKind.wrap_i64]; omega
  have zk3 : IntKind.i64.wrap ((k : Int) + 1 - 1) = (k : Int) := by rw [IntKind.wrap_i64]; omega
  have zk5 : IntKind.i64.wrap (k : Int) = (k : Int) := by rw [IntKind.wrap_i64]; omega
  go_enter Tryd.func94, Tryd.ntmps94
  go_upto_region 3 with fail
  try simp only [Act.put]
  refine wp_gen (fun wx => TS base b0 bN gN bO bT bS bK kind (shV Ai ni ci Al nl cl) m w0 wx (stepF lv k st g) (.slice Av ns.length dv) (.slice Av ns.length dv) ns us ∧ MV gN bO (.slice Av ns.length dv) w (.slice Av ns.length dv) wx) ⟨h1, hm1⟩ ?_
  clear h1 hm1 c1 c2 f2 z0 z0' z1
  rintro w1 ⟨h1, hm1⟩
  go_upto_region 6 with fail
  try simp only [Act.put]
  have hb2 : Below w1.heap.size w1 ((w1.alloc (.cells zN 68)).setRow w1.heap.size (ndZ (k + 1) a false)) := below_setRow ((Below.refl w1.heap.size w1).alloc (Nat.le_refl _) (.cells zN 68)) (Nat.le_refl _) (ndZ (k + 1) a false)
  have h2 := h1.quiet hb2
  have hm2 := hm1.trans (MV.quiet (gN := gN) (bO := bO) (v := .slice Av ns.length dv) hb2)
  have hbx : RowC ((w1.alloc (.cells zN 68)).setRow w1.heap.size (ndZ (k + 1) a false)) w1.heap.size 68 (ndZ (k + 1) a false) := (RowC.new w1 68 zN).row _
  have hbv : (Value.slice Av ns.length dv).ownBlock ≠ some w1.heap.size := fun e => by have := own_ltT h1.nd.row _ e; omega
  obtain ⟨bn, hbn⟩ : ∃ bn, bn = w1.heap.size := ⟨_, rfl⟩
  have hbn0 : b0 ≤ bn := by have := h1.lt; omega
  have hlt1 := h1.lt
  have hbnN : bn ≠ gN := by omega
  have hbnO : bn ≠ bO := by omega
  go_upto_region 7 with ((with_reducible show wpList _ _ _ (⟨none, Op.store 68 _ _, _, _, _, _⟩ :: _) _ _); refine wpList_store_row rfl 68 (.tmp 9) (.tmp 39) rfl w1.heap.size (ndZ (k + 1) a false) rfl rfl 68 zN (RowC.new _ _ _) rnInfo2 rfl (by simp [ndZ, Value.oneCell']) ?_)
  try simp only [Act.put]
  rw [← hbn] at hbx hbv h2 hm2 ⊢
  refine wp_gen (fun wx => TS base b0 bN gN bO bT bS bK kind (shV Ai ni ci Al nl cl) m w0 wx (stepF lv k st g) (.slice Av ns.length dv) (.slice Av ns.length dv) ns us ∧ MV gN bO (.slice Av ns.length dv) w (.slice Av ns.length dv) wx ∧ RowC wx bn 68 (ndZ (k + 1) a false)) ⟨h2, hm2, hbx⟩ ?_
  clear h1 hm1 h2 hm2 hbx hb2 hbn hlt1
  rintro w2 ⟨h2, hm2, hbx2⟩
  have hbd := c_drew (c_refl w2)
  have h2d := h2.quiet hbd
  have hmd := hm2.trans (MV.quiet (gN := gN) (bO := bO) (v := .slice Av ns.length dv) hbd)
  have hbd2 := hbx2.drew
  have hc0 := IH0 g _ ns us w2.drew p0 h2d hp0 (by omega)
  have cT2 := h2.rT.cell (i := 0) (v := cloV bN bO bT bS bK) rfl
  have cT2d := h2d.rT.cell (i := 0) (v := cloV bN bO bT bS bK) rfl
  simp only [cloV] at cT2 cT2d
  clear h2 hm2 hbx2 IH0
  go_region_held3 (fun wx : World => wx.cell? ⟨bT, 0, none⟩ = some (.func (.func 94) #[] #[.pointer (some ⟨bN, 0, none⟩), .pointer (some ⟨bO, 0, none⟩), .pointer (some ⟨bT, 0, none⟩), .pointer (some ⟨bS, 0, none⟩), .pointer (some ⟨bK, 0, none⟩)]))
    (first | exact cT2d | exact cT2 | exact cT4 | exact cT3)
    (first
      | (go_at_call 94; (with_reducible refine hc0.mono ?_); rintro e w3 ⟨v3, us3, rfl, h3, hm3⟩; have cT3 := h3.rT.cell (i := 0) (v := cloV bN bO bT bS bK) rfl; have hbx3 := hm3.box hbd2 hbnN hbnO hbv; have hc1 := IH1 g _ _ us3 w3 p1 h3 (hp1.trans (by rw [List.length_append, RT.flat_len])) (by omega))
      | (go_at_call 94; (with_reducible refine hc1.mono ?_); rintro e w4 ⟨v4, us4, rfl, h4, hm4⟩; have cT4 := h4.rT.cell (i := 0) (v := cloV bN bO bT bS bK) rfl; have hbx4 := hm4.box hbx3.1 hbnN hbnO hbx3.2))
  go_upto_region 12 with fail
  try simp only [Act.put]
  rw [flats_two] at h4
  rw [show st + 1 + 1 = st + 2 from rfl] at h4
  have hme := hmd.trans (hm3.trans hm4)
  obtain ⟨hbx, hbv4⟩ := hbx4
  obtain ⟨b, o, rfl, hbb, hcell⟩ := (Hhv.out.below h4.old).pos (by omega)
  have d0 := hcell k _ hv0
  obtain ⟨b', o', rfl, hbb', hcell'⟩ := (Hhr0.out.below h4.old).pos (by omega)
  have d1 := hcell' a _ Hca.out
  have k1 := h4.rS.cell (i := 1) (v := .slice (some ⟨b, o, none⟩) nl cl) rfl
  have zk6 : (k : Int) < (nl : Int) := by omega
  have za : (a : Int) < (l.length : Int) := by omega
  clear h2d hmd hbd2 hbd h3 hm3 hbx3 hm4 cT2 cT2d cT3 cT4 hc0 hc1 hcell hcell' hv0 Hhv Hhr0 Hca
  replace hp0 := hp0.symm
  replace hp1 := hp1.symm
  rcases hm23 with rfl | rfl
  · have hTe : joinT (k + 1) a false [T0, T1] = T := by rw [HTT.out, if_neg (by decide)]; rfl
    rw [HTT.out, if_neg (by decide)] at hq
    simp only [RT.size] at hq
    replace hq := hq.symm
    have zq : IntKind.i64.wrap (((q + 1 : Nat) : Int) - 1) = (q : Int) := by rw [IntKind.wrap_i64]; omega
    have zq2 : IntKind.i64.wrap ((q : Int) + 1 - 1) = (q : Int) := by rw [IntKind.wrap_i64]; omega
    have had1 := h4.addT' (k + 1) a false (Ts := [T0, T1]) (.inl ⟨_, _, rfl⟩) (by simp only [sizes]; omega) (ndZ (k + 1) a false) rfl #[.int .i64 (p0 : Nat), .int .i64 (p1 : Nat)] (by
      rw [show ends [T0, T1] ns.length = [p0, p1] by
        simp only [ends, List.cons.injEq, and_true]
        omega]
      rfl) 2 rfl
    have cO1 := h4.rO.cell (i := 0) (v := v4) rfl
    go_wp2_with ((with_reducible show wpList _ _ _ (⟨some 81, _, _, _, _, _⟩ :: _) _ _); refine wpList_loadC (by kernel_rfl) 68 (.tmp 9) rfl bn rfl 68 (ndZ (k + 1) a false) _ hbx Tryd.underlying68 rfl rnInfo2 ?_)
    refine had1.mono ?_
    rintro e wa1 ⟨va1, ua1, rfl, ha1, hma1⟩
    obtain ⟨Aa1, da1, hva1⟩ := ha1.form
    rw [show (ns ++ (joinT (k + 1) a false [T0, T1]).flat ns.length (-1)).length = q + 1 by rw [List.length_append, RT.flat_len]; simp only [joinT, RT.size]; omega] at hva1
    subst hva1
    have cP1 := ha1.rO.cell (i := 0) (v := v4) rfl
    have fP1 := ha1.rO.frozen 0
    have hb1 := ha1.store (.slice Aa1 (q + 1) da1)
    have hmb1 := hma1.trans (MV.store (gN := gN) (w := wa1) (bO := bO) (v := .slice Aa1 (q + 1) da1) (x := .slice Aa1 (q + 1) da1))
    have cQ1 := hb1.rO.cell (i := 0) (v := .slice Aa1 (q + 1) da1) rfl
    clear had1 cO1
    clear h4 ha1 k1 d0 d1
    go_wp2_with fail
    (first | exact Hpost.out _ _ _ _ _ _ Hout.out hTe rfl hb1 (hme.trans hmb1) | exact bodyPost_ret (results_tmp rfl _ _ _) rfl (Hpost.out _ _ _ _ _ _ Hout.out hTe rfl hb1 (hme.trans hmb1)))
  · have hIH2 := HIH2.out rfl
    have p2' := T2.size_pos
    rcases hk12 with rfl | rfl
    · have hTe : joinT (k + 1) a false [T0, T1, T2] = T := by rw [HTT.out, if_pos rfl, if_neg (by decide)]; rfl
      rw [HTT.out, if_pos rfl, if_neg (by decide)] at hq
      simp only [RT.size] at hq
      replace hq := hq.symm
      have zq : IntKind.i64.wrap (((q + 1 : Nat) : Int) - 1) = (q : Int) := by rw [IntKind.wrap_i64]; omega
      have zq2 : IntKind.i64.wrap ((q : Int) + 1 - 1) = (q : Int) := by rw [IntKind.wrap_i64]; omega
      obtain ⟨p2, hp2⟩ : ∃ p2, ns.length + T0.size + T1.size + T2.size = p2 + 1 := ⟨ns.length + T0.size + T1.size + T2.size - 1, by omega⟩
      have cK := h4.rK.cell (i := 0) (v := .int .i64 1) rfl
      have cT := h4.rT.cell (i := 0) (v := cloV bN bO bT bS bK) rfl
      simp only [cloV] at cT
      have hc2 := hIH2 g _ _ us4 w4 p2 h4 (by rw [List.length_append, flats_len]; simp only [sizes]; omega) (by omega)
      go_wp2_with fail
      refine hc2.mono ?_
      rintro e w5 ⟨v5, us5, rfl, h5, hm5⟩
      rw [flats_three] at h5
      have hbx5 := hm5.box hbx hbnN hbnO hbv4
      clear h4 k1 d0 d1 cK cT hc2
      have had1 := h5.addT' (k + 1) a false (Ts := [T0, T1, T2]) (.inr ⟨rfl, _, _, _, rfl⟩) (by simp only [sizes]; omega) (ndZ (k + 1) a false) rfl #[.int .i64 (p0 : Nat), .int .i64 (p1 : Nat), .int .i64 (p2 : Nat)] (by
        rw [show ends [T0, T1, T2] ns.length = [p0, p1, p2] by
          simp only [ends, List.cons.injEq, and_true]
          omega]
        rfl) 3 rfl
      have cO1 := h5.rO.cell (i := 0) (v := v5) rfl
      go_wp2_with ((with_reducible show wpList _ _ _ (⟨some 94, _, _, _, _, _⟩ :: _) _ _); refine wpList_loadC (by kernel_rfl) 68 (.tmp 9) rfl bn rfl 68 (ndZ (k + 1) a false) _ hbx5.1 Tryd.underlying68 rfl rnInfo2 ?_)
      refine had1.mono ?_
      rintro e wa1 ⟨va1, ua1, rfl, ha1, hma1⟩
      obtain ⟨Aa1, da1, hva1⟩ := ha1.form
      rw [show (ns ++ (joinT (k + 1) a false [T0, T1, T2]).flat ns.length (-1)).length = q + 1 by rw [List.length_append, RT.flat_len]; simp only [joinT, RT.size]; omega] at hva1
      subst hva1
      have cP1 := ha1.rO.cell (i := 0) (v := v5) rfl
      have fP1 := ha1.rO.frozen 0
      have hb1 := ha1.store (.slice Aa1 (q + 1) da1)
      have hmb1 := hma1.trans (MV.store (gN := gN) (w := wa1) (bO := bO) (v := .slice Aa1 (q + 1) da1) (x := .slice Aa1 (q + 1) da1))
      have cQ1 := hb1.rO.cell (i := 0) (v := .slice Aa1 (q + 1) da1) rfl
      clear had1 cO1
      clear h5 ha1
      go_wp2_with fail
      (first | exact Hpost.out _ _ _ _ _ _ Hout.out hTe rfl hb1 ((hme.trans hm5).trans hmb1) | exact bodyPost_ret (results_tmp rfl _ _ _) rfl (Hpost.out _ _ _ _ _ _ Hout.out hTe rfl hb1 ((hme.trans hm5).trans hmb1)))
    · have hTe : joinT (k + 1) a false [(RT.two (k + 1) a true T0 T1), T2] = T := by rw [HTT.out, if_pos rfl, if_pos rfl]; rfl
      rw [HTT.out, if_pos rfl, if_pos rfl] at hq
      simp only [RT.size] at hq
      replace hq := hq.symm
      have zq : IntKind.i64.wrap (((q + 1 : Nat) : Int) - 1) = (q : Int) := by rw [IntKind.wrap_i64]; omega
      have zq2 : IntKind.i64.wrap ((q : Int) + 1 - 1) = (q : Int) := by rw [IntKind.wrap_i64]; omega
      have zp : IntKind.i64.wrap (((p1 + 1 + 1 : Nat) : Int) - 1) = ((p1 + 1 : Nat) : Int) := by rw [IntKind.wrap_i64]; omega
      have zp2 : IntKind.i64.wrap ((p1 : Int) + 1 + 1 - 1) = ((p1 + 1 : Nat) : Int) := by rw [IntKind.wrap_i64]; omega
      have zp3 : IntKind.i64.wrap ((p1 : Int) + 1) = ((p1 + 1 : Nat) : Int) := by rw [IntKind.wrap_i64]; omega
      obtain ⟨p2, hp2⟩ : ∃ p2, ns.length + T0.size + T1.size + 1 + T2.size = p2 + 1 := ⟨ns.length + T0.size + T1.size + 1 + T2.size - 1, by omega⟩
      have cK := h4.rK.cell (i := 0) (v := .int .i64 2) rfl
      have had1 := h4.addT' (k + 1) a true (Ts := [T0, T1]) (.inl ⟨_, _, rfl⟩) (by simp only [sizes]; omega) #[.int .i64 ((k : Int) + 1), .int .i64 (a : Nat), .bool true, .int .i64 0, .int .i64 0, .slice none 0 0, .int .i64 0] rfl #[.int .i64 (p0 : Nat), .int .i64 (p1 : Nat)] (by
        rw [show ends [T0, T1] ns.length = [p0, p1] by
          simp only [ends, List.cons.injEq, and_true]
          omega]
        rfl) 2 rfl
      have cO1 := h4.rO.cell (i := 0) (v := v4) rfl
      go_wp2_with fail
      refine had1.mono ?_
      rintro e wa1 ⟨va1, ua1, rfl, ha1, hma1⟩
      obtain ⟨Aa1, da1, hva1⟩ := ha1.form
      rw [show (ns ++ (joinT (k + 1) a true [T0, T1]).flat ns.length (-1)).length = p1 + 1 + 1 by rw [List.length_append, RT.flat_len]; simp only [joinT, RT.size]; omega] at hva1
      subst hva1
      have cP1 := ha1.rO.cell (i := 0) (v := v4) rfl
      have fP1 := ha1.rO.frozen 0
      have hb1 := ha1.store (.slice Aa1 (p1 + 1 + 1) da1)
      have hmb1 := hma1.trans (MV.store (gN := gN) (w := wa1) (bO := bO) (v := .slice Aa1 (p1 + 1 + 1) da1) (x := .slice Aa1 (p1 + 1 + 1) da1))
      have cQ1 := hb1.rO.cell (i := 0) (v := .slice Aa1 (p1 + 1 + 1) da1) rfl
      clear had1 cO1
      have hbx5 := hmb1.box hbx hbnN hbnO hbv4
      have cT := hb1.rT.cell (i := 0) (v := cloV bN bO bT bS bK) rfl
      simp only [cloV] at cT
      have cT' := ha1.rT.cell (i := 0) (v := cloV bN bO bT bS bK) rfl
      simp only [cloV] at cT'
      have hc2 := hIH2 g _ _ ua1 _ p2 hb1 (by rw [List.length_append, RT.flat_len]; simp only [joinT, RT.size]; omega) (by omega)
      clear h4 k1 d0 d1 cK
      go_wp2_with fail
      refine hc2.mono ?_
      rintro e w5 ⟨v5, us5, rfl, h5, hm5⟩
      rw [flats_two, show joinT (k + 1) a true [T0, T1] = (RT.two (k + 1) a true T0 T1) from rfl] at h5
      have hbx6 := hm5.box hbx5.1 hbnN hbnO hbx5.2
      clear hb1 ha1 cT cT' hc2 cP1 fP1 cQ1
      have had2 := h5.addT' (k + 1) a false (Ts := [(RT.two (k + 1) a true T0 T1), T2]) (.inl ⟨_, _, rfl⟩) (by simp only [sizes, RT.size]; omega) (ndZ (k + 1) a false) rfl #[.int .i64 ((p1 + 1) : Nat), .int .i64 (p2 : Nat)] (by
        rw [show ends [(RT.two (k + 1) a true T0 T1), T2] ns.length = [(p1 + 1), p2] by
          simp only [ends, RT.size, List.cons.injEq, and_true]
          omega]
        rfl) 2 rfl
      have cO2 := h5.rO.cell (i := 0) (v := v5) rfl
      go_wp2_with ((with_reducible show wpList _ _ _ (⟨some 64, _, _, _, _, _⟩ :: _) _ _); refine wpList_loadC (by kernel_rfl) 68 (.tmp 9) rfl bn rfl 68 (ndZ (k + 1) a false) _ hbx6.1 Tryd.underlying68 rfl rnInfo2 ?_)
      refine had2.mono ?_
      rintro e wa2 ⟨va2, ua2, rfl, ha2, hma2⟩
      obtain ⟨Aa2, da2, hva2⟩ := ha2.form
      rw [show (ns ++ (joinT (k + 1) a false [(RT.two (k + 1) a true T0 T1), T2]).flat ns.length (-1)).length = q + 1 by rw [List.length_append, RT.flat_len]; simp only [joinT, RT.size]; omega] at hva2
      subst hva2
      have cP2 := ha2.rO.cell (i := 0) (v := v5) rfl
      have fP2 := ha2.rO.frozen 0
      have hb2 := ha2.store (.slice Aa2 (q + 1) da2)
      have hmb2 := hma2.trans (MV.store (gN := gN) (w := wa2) (bO := bO) (v := .slice Aa2 (q + 1) da2) (x := .slice Aa2 (q + 1) da2))
      have cQ2 := hb2.rO.cell (i := 0) (v := .slice Aa2 (q + 1) da2) rfl
      clear had2 cO2
      clear h5 ha2
      go_wp2_with fail
      (first | exact Hpost.out _ _ _ _ _ _ Hout.out hTe rfl hb2 (((hme.trans hmb1).trans hm5).trans hmb2) | exact bodyPost_ret (results_tmp rfl _ _ _) rfl (Hpost.out _ _ _ _ _ _ Hout.out hTe rfl hb2 (((hme.trans hmb1).trans hm5).trans hmb2)))

end Go.Proofs.YtlidhdljgnijaaaDoor

/-
  CONTRACTS of the program's red.told (its closure at every level) and Nodes.
-/
set_option linter.unusedVariables false
namespace Go.Proofs.YtlidhdljgnijaaaDoor
open Go.RowKit

theorem PTell_any (base b0 bN gN bO bT bS bK : Nat) (kind : Int) (hk12 : kind = 1 ∨ kind = 2) (Ai : Option Addr) (ni ci : Nat) (Al : Option Addr) (nl cl : Nat) (ids : List Int) (lv : List (List Nat)) (many : Nat) (hs : lvSum many lv) (hmany : many ≤ 1000) (hlv : lv.length ≤ 1000) (w0 : World)
    (hS0 : ShR w0 base Ai ni ci Al nl cl ids (levI lv)) : ∀ (k a : Nat), k ≤ lv.length → a < wideN many lv k →
    ∀ (f : Nat → Nat) (v : Value) (ns : List RN) (us : List Value) (w : World) (q : Nat), TS base b0 bN gN bO bT bS bK kind (shV Ai ni ci Al nl cl) (lv.length + 1) w0 w (stepF lv k a f) v v ns us → q + 1 = ns.length + (treeOf kind lv k a).size → q < 100000 →
      Calls Tryd.prog 94 #[.int .i64 (k : Nat), .pointer (some ⟨bN, 0, none⟩), .pointer (some ⟨bO, 0, none⟩), .pointer (some ⟨bT, 0, none⟩), .pointer (some ⟨bS, 0, none⟩), .pointer (some ⟨bK, 0, none⟩)] w
        (TellPost base b0 bN gN bO bT bS bK kind (shV Ai ni ci Al nl cl) (lv.length + 1) w0 w (stepF lv k (a + 1) f) v ns (treeOf kind lv k a) q)
  | 0, a, _, ha, f, v, ns, us, w, q, h, hq, hqq => by
    have ha' : a < many := ha
    have hq' : q = ns.length := by simpa [treeOf, RT.size] using hq
    subst hq'
    exact PTellLeaf_any base b0 bN gN bO bT bS bK kind _ _ w0 w lv a f v ns us (by omega) (by omega) (by omega) (by omega) h
  | k + 1, a, hk, ha, f, v, ns, us, w, q, h, hq, hqq => by
    have hl : lv[k]? = some lv[k] := List.getElem?_eq_getElem (by omega)
    have hsum := wideN_sum hs hl
    have hw := wideN_le hs k (by omega)
    have hw1 := wideN_le hs (k + 1) hk
    have hal : a < lv[k].length := by rw [wideN, getD_at hl] at ha; exact ha
    have hle := len_sum (hs k _ hl).1
    exact PTellStep_any base b0 bN gN bO bT bS bK kind hk12 Ai ni ci Al nl cl ids lv (k + 1) k a (lv.length + 1) rfl lv[k] hl (hs k _ hl).1 hal (by omega) (by omega) (by omega) (by omega) (by omega) w0 hS0
      (fun b hb' f v ns us w q h1 h2 h3 => PTell_any base b0 bN gN bO bT bS bK kind hk12 Ai ni ci Al nl cl ids lv many hs hmany hlv w0 hS0 k b (by omega) (by omega) f v ns us w q h1 h2 h3) f v ns us w q h hq hqq

theorem cnt_made (n : Nat) (f : Nat → Nat) (hf : ∀ j, j < n → f j = 0) : madeCells #[Value.int .i64 0] n = cntC n f := by
  apply Array.ext'
  rw [toList_madeCells_one, cntC]
  apply List.ext_getElem
  · simp
  · intro i h1 h2
    simp at h1
    simp [hf i h1]
theorem downS_zero (lv : List (List Nat)) : ∀ k j, downS lv k 0 j = 0
  | 0, j => rfl
  | k + 1, j => by
    rw [downS, startT_zero, downS_zero lv k j]
    split <;> rfl
theorem stepF_none (lv : List (List Nat)) (k j : Nat) (h : j < k + 1) : stepF lv k 0 (fun _ => 0) j = 0 := by
  rw [stepF]
  split
  · exact downS_zero lv k j
  · rfl

set_option maxRecDepth 100000 in
set_option maxHeartbeats 4000000 in
theorem PTold_any (kind : Int) (hk12 : kind = 1 ∨ kind = 2) (Ai : Option Addr) (ni ci : Nat) (Al : Option Addr) (nl cl : Nat) (ids : List Int) (lv : List (List Nat)) (w : World) (h : ShR w w.heap.size Ai ni ci Al nl cl ids (levI lv)) (hs : lvSum ids.length lv) (hmany : ids.length ≤ 1000) (hpos : 0 < ids.length) (hlv : lv.length ≤ 1000) :
    Calls Tryd.prog 79 #[.int .i64 kind, .agg (shV Ai ni ci Al nl cl)] w fun e w' => Below w.heap.size w w' ∧ ∃ A n c, e = .returned (.slice A n c) ∧ NdR w' w'.heap.size A n c (((treeOf kind lv lv.length 0).flat 0 (-1)).map RN.i) := by
  have hw := wideN_pos hs hpos _ (Nat.le_refl _)
  have hts := treeOf_size (kind := kind) hs (Nat.le_refl _) hw
  obtain ⟨NS, hNS⟩ : ∃ NS, NS = (treeOf kind lv lv.length 0).flat 0 (-1) := ⟨_, rfl⟩
  rw [← hNS]
  have HNS := Lib.hid hNS
  clear hNS
  have Hni := Lib.hid h.hni
  have hnl : lv.length = nl := by have := h.hnl; rwa [levI_lenX] at this
  have hci := h.hci
  have hcl := h.hcl
  have hmi := h.hmi
  have hml := h.hml
  have hM := ((Ms.nil w).box 3 #[.int .i64 kind]).box 25 (shV Ai ni ci Al nl cl)
  simp only [World.size_alloc] at hM
  have Hpost := Lib.hid (show ∀ A n c w', Below w.heap.size w w' → NdR w' w'.heap.size A n c (NS.map RN.i) → (fun e w' => Below w.heap.size w w' ∧ ∃ A n c, e = Ending.returned (.slice A n c) ∧ NdR w' w'.heap.size A n c (NS.map RN.i)) (.returned (.slice A n c)) w' from fun A n c w' h1 h2 => ⟨h1, A, n, c, rfl, h2⟩)
  generalize (fun e w' => Below w.heap.size w w' ∧ ∃ A n c, e = Ending.returned (.slice A n c) ∧ NdR w' w'.heap.size A n c (NS.map RN.i)) = PO at *
  have hn1000 : ni ≤ 1000 := by rw [← Hni.out]; exact hmany
  have hmf : ∀ (fn : Fn) (first cap : Array Value) (w : World), (Instr.makeFunc fn first cap).run Tryd.prog w = .ok (.func fn first cap) w := fun _ _ _ _ => rfl
  have hsf : ∀ (a : Addr) (fn : Fn) (first cap : Array Value) (w : World), (store a (.func fn first cap)).run Tryd.prog w = stored Tryd.prog w a (.func fn first cap) .plain := fun a fn first cap w => run_store Tryd.prog w a _ .plain rfl
  obtain ⟨i0, hi0, hz0, hz1, hz2⟩ := info_parts nodeInfoR
  obtain ⟨i1, hi1, hy0, hy1, hy2⟩ := info_parts intInfo
  obtain ⟨bK, hbK⟩ : ∃ bK, bK = w.heap.size := ⟨_, rfl⟩
  obtain ⟨bS, hbS⟩ : ∃ bS, bS = w.heap.size + 1 := ⟨_, rfl⟩
  go_enter Tryd.func79, Tryd.ntmps79
  go_upto_region 1 with fail
  try simp only [Act.put]
  rw [← hbS, ← hbK] at hM ⊢
  have HbS := Lib.hid hbS
  have HbK := Lib.hid hbK
  clear hbS hbK
  refine wp_gen (fun wx => Ms w wx [(bS, 25, shV Ai ni ci Al nl cl), (bK, 3, #[.int .i64 kind])]) hM ?_
  clear hM
  rintro w1 hM1
  have k0 := (hM1.get 0 rfl).cell (i := 0) (v := .slice Ai ni ci) rfl
  have z0 : IntKind.i64.wrap (2 * (ni : Int)) = 2 * (ni : Int) := by rw [IntKind.wrap_i64]; omega
  go_upto_region 2 with (at_make; refine wpList_make_own _ rfl _ _ 64 rfl w.heap.size 68 i0 _ 7 Tryd.underlying64 hi0 hz0 hz1 _ _ _ (2 * ni) rfl rfl (by simp) (by rw [hz2]; omega) (by simp only [maxLen]; omega) hM1.old.size ?_; intro w2 hown hgr)
  try simp only [Act.put]
  have hM2 := (hM1.call ((Below.refl _ _).grown hgr (Nat.le_refl _) (by simp))).box 64 #[.slice (some ⟨w1.heap.size, 0, none⟩) 0 (2 * ni)]
  have hown2 := own_below hown (d_al w2 (.cells #[.slice (some ⟨w1.heap.size, 0, none⟩) 0 (2 * ni)] 64))
  obtain ⟨bO, hbO⟩ : ∃ bO, bO = w2.heap.size := ⟨_, rfl⟩
  rw [← hbO] at hM2 ⊢
  have hbO1 : w.heap.size ≤ bO := by rw [hbO]; have := hM1.old.size; have := hgr.size; omega
  refine wp_gen (fun wx => Ms w wx [(bO, 64, #[.slice (some ⟨w1.heap.size, 0, none⟩) 0 (2 * ni)]), (bS, 25, shV Ai ni ci Al nl cl), (bK, 3, #[.int .i64 kind])] ∧ wx.ownsRow w.heap.size 68 7 (.slice (some ⟨w1.heap.size, 0, none⟩) 0 (2 * ni)) 0 []) ⟨hM2, hown2⟩ ?_
  clear hM1 hM2 hown hown2 hgr k0 z0 hbO
  rintro w3 ⟨hM3, hown3⟩
  generalize (.slice (some ⟨w1.heap.size, 0, none⟩) 0 (2 * ni) : Value) = vO at *
  have k1 := (hM3.get 1 rfl).cell (i := 1) (v := .slice Al nl cl) rfl
  have z1 : IntKind.i64.wrap ((nl : Int) + 1) = (nl : Int) + 1 := by rw [IntKind.wrap_i64]; omega
  have hmk := run_make (P := Tryd.prog) w3 22 3 i1 (.int .i64 0) Tryd.underlying22 hi1 hy0 .i64 .i64 ((nl : Int) + 1) ((nl : Int) + 1) (by omega) (by omega) (by rw [hy2]; omega) (by omega)
  rw [show ((nl : Int) + 1).toNat = nl + 1 by omega, hy1, Nat.mul_one, show (Value.int .i64 0).cells = #[Value.int .i64 0] from rfl, cnt_made (nl + 1) (stepF lv nl 0 (fun _ => 0)) (fun j hj => stepF_none lv nl j hj)] at hmk
  have Hmk := Lib.hid hmk
  clear hmk
  have hM4 := (hM3.box 3 (cntC (nl + 1) (stepF lv nl 0 fun _ => 0))).box 22 #[.slice (some ⟨w3.heap.size, 0, none⟩) (nl + 1) (nl + 1)]
  have hal := (d_al w3 (.cells (cntC (nl + 1) (stepF lv nl 0 fun _ => 0)) 3))
  have hal2 := d_al (w3.alloc (.cells (cntC (nl + 1) (stepF lv nl 0 fun _ => 0)) 3)) (.cells #[.slice (some ⟨w3.heap.size, 0, none⟩) (nl + 1) (nl + 1)] 22)
  have hown4 := own_below (own_below hown3 hal) hal2
  simp only [World.size_alloc] at hM4
  go_upto_region 3 with (at_make; refine wpList_makeT (by kernel_rfl) _ _ 22 rfl _ _ rfl rfl Hmk.out ?_)
  try simp only [Act.put]
  obtain ⟨gN, hgN⟩ : ∃ gN, gN = w3.heap.size := ⟨_, rfl⟩
  obtain ⟨bN, hbN⟩ : ∃ bN, bN = w3.heap.size + 1 := ⟨_, rfl⟩
  rw [← hbN, ← hgN] at hM4
  rw [← hgN] at hown4
  rw [← hbN, ← hgN]
  have hgN0 : w.heap.size ≤ gN := by rw [hgN]; exact hM3.old.size
  have hbKg : ¬ gN = bK := by have := (hM3.get 2 rfl).lt; omega
  refine wp_gen (fun wx => Ms w wx [(bN, 22, #[.slice (some ⟨gN, 0, none⟩) (nl + 1) (nl + 1)]), (gN, 3, cntC (nl + 1) (stepF lv nl 0 fun _ => 0)), (bO, 64, #[vO]), (bS, 25, shV Ai ni ci Al nl cl), (bK, 3, #[.int .i64 kind])] ∧ wx.ownsRow w.heap.size 68 7 vO 0 []) ⟨hM4, hown4⟩ ?_
  clear hM3 hown3 hal hal2 hM4 hown4 Hmk z1 k1 hbN hgN
  rintro w4 ⟨hM4, hown4⟩
  go_upto_region 4 with fail
  try simp only [Act.put]
  have hM5 := hM4.box 89 #[.nilFunc]
  have hown5 := own_below hown4 (d_al w4 (.cells #[.nilFunc] 89))
  obtain ⟨bT, hbT⟩ : ∃ bT, bT = w4.heap.size := ⟨_, rfl⟩
  have hbT0 : w.heap.size ≤ bT := by rw [hbT]; exact hM4.old.size
  rw [← hbT] at hM5 ⊢
  refine wp_gen (fun wx => Ms w wx [(bT, 89, #[.nilFunc]), (bN, 22, #[.slice (some ⟨gN, 0, none⟩) (nl + 1) (nl + 1)]), (gN, 3, cntC (nl + 1) (stepF lv nl 0 fun _ => 0)), (bO, 64, #[vO]), (bS, 25, shV Ai ni ci Al nl cl), (bK, 3, #[.int .i64 kind])] ∧ wx.ownsRow w.heap.size 68 7 vO 0 []) ⟨hM5, hown5⟩ ?_
  clear hM4 hown4 hM5 hown5 hbT
  rintro w5 ⟨hM5, hown5⟩
  have cT := (hM5.get 0 rfl).cell (i := 0) (v := .nilFunc) rfl
  have fT := (hM5.get 0 rfl).frozen 0
  have hrT := hM5.get 0 rfl
  have hrN := hM5.get 1 rfl
  have hrG := hM5.get 2 rfl
  have hrO := hM5.get 3 rfl
  have hrS := hM5.get 4 rfl
  have hrK := hM5.get 5 rfl
  have hT5 : TS w.heap.size w5.heap.size bN gN bO bT bS bK kind (shV Ai ni ci Al nl cl) (lv.length + 1) w (w5.setCell ⟨bT, 0, none⟩ (cloV bN bO bT bS bK)) (stepF lv lv.length 0 fun _ => 0) vO vO [] [] := by
    have hg := grown_setCell w5 bT 0 (cloV bN bO bT bS bK)
    have hne : ∀ {g : Nat} {t : TypeId} {cs : Array Value}, RowC w5 g t cs → t ≠ 89 → RowC (w5.setCell ⟨bT, 0, none⟩ (cloV bN bO bT bS bK)) g t cs := fun hr ht => hr.far (ty_apart hr hrT ht) _
    rw [hnl]
    refine ⟨hM5.old.grown hg hM5.old.size (fun g e => by injection e with e; omega), ⟨hgN0, hbO1⟩, ⟨hrG.lt, hrO.lt, hM5.old.size, hg.size⟩, hbKg, hne hrN (by decide), hne hrG (by decide), hne hrO (by decide), hrT.set_ 0 _, hne hrS (by decide), hne hrK (by decide), ⟨rfl, ?_, fun k x u hk => by simp at hk⟩, fun u hu => by simp at hu⟩
    refine hown5.kept hg ?_
    cases e : vO.ownBlock with
    | none => exact .inl rfl
    | some y =>
      refine .inr fun e2 => ?_
      injection e2 with e2
      subst e2
      obtain ⟨cs', hr'⟩ := own_tyT hown5 e
      exact absurd (ty_neT hrT hr') (by decide)
  simp only [cloV] at hT5
  have k1 := hrS.cell (i := 1) (v := .slice Al nl cl) rfl
  have k1' := hT5.rS.cell (i := 1) (v := .slice Al nl cl) rfl
  have cT5 := hT5.rT.cell (i := 0) (v := cloV bN bO bT bS bK) rfl
  simp only [cloV] at cT5
  go_upto_region 5 with fail
  try simp only [Act.put]
  refine wp_gen (fun wx => TS w.heap.size w5.heap.size bN gN bO bT bS bK kind (shV Ai ni ci Al nl cl) (lv.length + 1) w wx (stepF lv lv.length 0 fun _ => 0) vO vO [] []) hT5 ?_
  clear cT fT hrT hrN hrG hrO hrS hrK k1 k1' cT5 hT5 hM5 hown5
  rintro w6 hT6
  have k1 := hT6.rS.cell (i := 1) (v := .slice Al nl cl) rfl
  have cT6 := hT6.rT.cell (i := 0) (v := cloV bN bO bT bS bK) rfl
  simp only [cloV] at cT6
  have ht := PTell_any w.heap.size w5.heap.size bN gN bO bT bS bK kind hk12 Ai ni ci Al nl cl ids lv ids.length hs hmany hlv w h lv.length 0 (Nat.le_refl _) hw _ _ _ _ w6 ((treeOf kind lv lv.length 0).size - 1) hT6 (by have := (treeOf kind lv lv.length 0).size_pos; rw [List.length_nil]; omega) (by omega)
  rw [hnl] at ht
  go_wp2_with fail
  refine ht.mono ?_
  rintro e w7 ⟨v7, us7, rfl, hT7, _⟩
  rw [List.nil_append, List.length_nil, show (treeOf kind lv nl 0).flat 0 (-1) = NS by rw [HNS.out, hnl]] at hT7
  obtain ⟨A7, c7, hv7, _, _⟩ := own_formT hT7.nd.row
  have hnd := hT7.nd
  have hold := hT7.old
  have cO := hT7.rO.cell (i := 0) (v := v7) rfl
  subst hv7
  have htold := hnd.told
  clear ht hT6 hT7 hnd k1 cT6
  go_wp2_with fail
  (first | exact Hpost.out _ _ _ _ hold htold | exact bodyPost_ret (results_tmp rfl _ _ _) rfl (Hpost.out _ _ _ _ hold htold))

end Go.Proofs.YtlidhdljgnijaaaDoor

/-
  CONTRACT of the program's red.Nodes.
-/
set_option linter.unusedVariables false
namespace Go.Proofs.YtlidhdljgnijaaaDoor
open Go.RowKit

set_option maxRecDepth 100000 in
set_option maxHeartbeats 4000000 in
theorem PNodes_any (kind : Int) (Ai : Option Addr) (ni ci : Nat) (Al : Option Addr) (nl cl : Nat) (ids : List Int) (ll : List (List Int)) (w : World) (h : ShR w w.heap.size Ai ni ci Al nl cl ids ll) (hf : fewT ids ll = true) :
    Calls Tryd.prog 50 #[.int .i64 kind, .agg (shV Ai ni ci Al nl cl)] w (NodesPost w kind ids ll) := by
  have Hni := Lib.hid h.hni
  have Hnl := Lib.hid h.hnl
  have hM := (Ms.nil w).box 25 (shV Ai ni ci Al nl cl)
  have hS1 := (h.below hM.old)
  have hni6 : ni ≤ 1000000 := by have := (few_len hf).2.1; have := h.hni; omega
  have hck := PCheck_any Ai ni ci Al nl cl ids ll _ (hS1.more hM.old.size) (few_million hf) hni6
  have Hpost := Lib.hid (show ∀ A n c er w', Below w.heap.size w w' → er = mayE kind ids ll → NdR w' w'.heap.size A n c (nodesI kind ids ll) → NodesPost w kind ids ll (.returned (.tuple #[.slice A n c, .int .i64 er])) w' from fun A n c er w' h1 h2 h3 => ⟨h1, A, n, c, by rw [h2], h3⟩)
  generalize NodesPost w kind ids ll = PO at *
  by_cases hk : kind = 1 ∨ kind = 2
  · have hkB : (decide (kind = 1) || decide (kind = 2)) = true := by rcases hk with e | e <;> simp [e]
    have Hmb := Lib.hid (show mayB kind ids ll = chkT ids ll by rw [mayB, hkB, Bool.true_and])
    obtain ⟨er, her⟩ : ∃ er, er = chkE ids ll := ⟨_, rfl⟩
    rw [← her] at hck
    have Her := Lib.hid her
    clear her
    have hfinish : ∀ w1, Below (w.heap.size + 1) (w.alloc (.cells (shV Ai ni ci Al nl cl) 25)) w1 → Below w.heap.size (w.alloc (.cells (shV Ai ni ci Al nl cl) 25)) w1 := fun w1 h => h.mono (by omega)
    have hchk : er = 0 ∨ er = 1 := by
      have := Her.out
      rw [chkE] at this
      split at this <;> omega
    have Htold := Lib.hid (fun (h0 : er = 0) (hn0 : ¬ ni = 0) (w1 : World) (hS2 : ShR w1 w1.heap.size Ai ni ci Al nl cl ids ll) => by
      have hch : chkT ids ll = true := chkE_iff.1 (Her.out.symm.trans h0)
      obtain ⟨hn1000, _, hlo, hin⟩ := chkT_lv hch
      have hs := lvOK_sum _ _ hlo
      have hhi := lv_high hch
      have hlen : (lvN ll).length = nl := by rw [lvN, List.length_map]; exact Hnl.out
      rw [← levI_lvN hin] at hS2
      exact PTold_any kind hk Ai ni ci Al nl cl ids (lvN ll) w1 hS2 hs hn1000 (by rw [Hni.out]; omega) (by omega))
    have Hnd := Lib.hid (show er = 0 → ¬ ni = 0 → nodesI kind ids ll = ((treeOf kind (lvN ll) (lvN ll).length 0).flat 0 (-1)).map RN.i from fun h0 hn0 => by
      rw [nodesI, Hmb.out, if_pos (chkE_iff.1 (Her.out.symm.trans h0)), nodesU, if_neg (by rw [Hni.out]; exact hn0)])
    have Hn0 := Lib.hid (show ni = 0 → nodesI kind ids ll = [] from fun hn0 => by
      have h0 : ids.length = 0 := by rw [Hni.out]; exact hn0
      simp [nodesI, nodesU, h0])
    have Hn1 := Lib.hid (show er = 1 → nodesI kind ids ll = [] from fun h1 => by
      have h2 : ¬ chkT ids ll = true := fun e => by
        have := chkE_iff.2 e
        have := Her.out
        omega
      rw [nodesI, Hmb.out, if_neg h2])
    have Hmay := Lib.hid (show er = mayE kind ids ll by
      have := Her.out
      rw [chkE] at this
      rw [mayE, Hmb.out, this])
    generalize (((treeOf kind (lvN ll) (lvN ll).length 0).flat 0 (-1)).map RN.i) = NS at *
    clear hkB hfinish
    rcases hk with rfl | rfl
    all_goals
      have hold := hM.old
      go_enter Tryd.func50, Tryd.ntmps50
      go_upto_region 3 with fail
      go_wp2_with ((with_reducible show wpList _ _ _ (⟨some 13, _, _, _, _, _⟩ :: _) _ _); refine wpList_loadC (by kernel_rfl) 25 (.tmp 3) rfl w.heap.size rfl 25 (shV Ai ni ci Al nl cl) _ (hM.get 0 rfl) Tryd.underlying25 rfl shapeInfo2 ?_)
      refine hck.mono ?_
      rintro e w1 ⟨rfl, hb1⟩
      have hM1 := hM.call hb1
      have hold1 := hM1.old
      have hS2 := hS1.below (hb1.mono hM.old.size)
      clear hck hM hS1 h hb1 hold
      rcases hchk with h1 | h1
      rotate_left
      · subst h1
        have Hz := Lib.hid (Hn1.out rfl)
        have hz := NdR.zero w1 w1.heap.size
        rw [← Hz.out] at hz
        clear hM1 hS2
        go_wp2_with fail
        (first | exact Hpost.out _ _ _ _ _ hold1 Hmay.out hz | exact bodyPost_ret (results_tmp2 rfl _ _ _) rfl (Hpost.out _ _ _ _ _ hold1 Hmay.out hz))
      · subst h1
        have k0 := (hM1.get 0 rfl).cell (i := 0) (v := .slice Ai ni ci) rfl
        by_cases hn0 : ni = 0
        · have Hz := Lib.hid (Hn0.out hn0)
          have hz := NdR.zero w1 w1.heap.size
          rw [← Hz.out] at hz
          have hn0i : (ni : Int) = 0 := by omega
          clear hM1 hS2
          go_wp2_with fail
          (first | exact Hpost.out _ _ _ _ _ hold1 Hmay.out hz | exact bodyPost_ret (results_tmp2 rfl _ _ _) rfl (Hpost.out _ _ _ _ _ hold1 Hmay.out hz))
        · have hn0i : ¬ (ni : Int) = 0 := by omega
          have hto := Htold.out rfl hn0 w1 (hS2.more hold1.size)
          have hbx := hM1.get 0 rfl
          clear hS2 hM1
          go_wp2_with ((with_reducible show wpList _ _ _ (⟨some 23, _, _, _, _, _⟩ :: _) _ _); refine wpList_loadC (by kernel_rfl) 25 (.tmp 3) rfl w.heap.size rfl 25 (shV Ai ni ci Al nl cl) _ hbx Tryd.underlying25 rfl shapeInfo2 ?_)
          refine hto.mono ?_
          rintro e w2 ⟨hb2, A2, n2, c2, rfl, hnd⟩
          have hold2 := hold1.trans (hb2.mono hold1.size)
          rw [← Hnd.out (by first | rfl | trivial) (by first | exact hn0 | trivial)] at hnd
          clear hto hbx k0
          go_wp2_with fail
          (first | exact Hpost.out _ _ _ _ _ hold2 Hmay.out hnd | exact bodyPost_ret (results_tmp2 rfl _ _ _) rfl (Hpost.out _ _ _ _ _ hold2 Hmay.out hnd))
  · have hk1 : ¬ kind = 1 := fun e => hk (.inl e)
    have hk2 : ¬ kind = 2 := fun e => hk (.inr e)
    have hkB : (decide (kind = 1) || decide (kind = 2)) = false := by simp [hk1, hk2]
    have Hc := Lib.hid (show (1 : Int) = mayE kind ids ll by rw [mayE, mayB, hkB]; rfl)
    have Hz := Lib.hid (show nodesI kind ids ll = [] by rw [nodesI, mayB, hkB]; rfl)
    have hn1 : (kind != 1) = true := by simpa using hk1
    have hn2 : (kind != 2) = true := by simpa using hk2
    have hkk : (kind != 1 && kind != 2) = true := by simp [hk1, hk2]
    have hz := NdR.zero (w.alloc (.cells (shV Ai ni ci Al nl cl) 25)) (w.alloc (.cells (shV Ai ni ci Al nl cl) 25)).heap.size
    rw [← Hz.out] at hz
    have hold := hM.old
    clear hck hM hS1 h hk
    go_enter Tryd.func50, Tryd.ntmps50
    go_wp2_with fail
    (first | exact Hpost.out _ _ _ _ _ hold Hc.out hz | exact bodyPost_ret (results_tmp2 rfl _ _ _) rfl (Hpost.out _ _ _ _ _ hold Hc.out hz))

end Go.Proofs.YtlidhdljgnijaaaDoor

