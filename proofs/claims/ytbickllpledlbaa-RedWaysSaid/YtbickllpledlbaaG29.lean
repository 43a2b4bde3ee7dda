import Derived.Test.YtbickllpledlbaaG27
import Derived.Test.YtbickllpledlbaaG28
/-
  WHAT THE CLOSURE OF THE PROGRAM's red.told CARRIES: its boxes, the counts of each level, the nodes told so far; how the counts go on; steps that keep it.
-/
set_option linter.unusedVariables false
namespace Go.Proofs.Ytbickllpledlbaa
open Go.RowKit

/-- how many groups of level j stand ahead of what is below group a of level k -/
def downS (lv : List (List Nat)) : Nat → Nat → Nat → Nat
  | 0, a, _ => a
  | k + 1, a, j => if j = k + 1 then a else downS lv k (startT (lv.getD k []) a) j
def stepF (lv : List (List Nat)) (k a : Nat) (f : Nat → Nat) : Nat → Nat := fun j => if j ≤ k then downS lv k a j else f j
def updF (f : Nat → Nat) (k x : Nat) : Nat → Nat := fun j => if j = k then x else f j
theorem downS_top (lv : List (List Nat)) (k a : Nat) : downS lv k a k = a := by cases k <;> simp [downS]
theorem stepF_top (lv : List (List Nat)) (k a : Nat) (f : Nat → Nat) : stepF lv k a f k = a := by rw [stepF, if_pos (Nat.le_refl _), downS_top]
theorem stepF_step (lv : List (List Nat)) (k x y : Nat) (f : Nat → Nat) : stepF lv k x (stepF lv k y f) = stepF lv k x f := by
  funext j
  simp only [stepF]
  split <;> rfl
theorem stepF_zero (lv : List (List Nat)) (a : Nat) (f : Nat → Nat) : updF (stepF lv 0 a f) 0 (a + 1) = stepF lv 0 (a + 1) f := by
  funext j
  simp only [updF, stepF, downS]
  by_cases h : j = 0
  · subst h; simp
  · rw [if_neg h, if_neg (by omega), if_neg (by omega)]
theorem stepF_in (lv : List (List Nat)) (k a : Nat) (f : Nat → Nat) : updF (stepF lv (k + 1) a f) (k + 1) (a + 1) = stepF lv k (startT (lv.getD k []) a) (stepF lv (k + 1) (a + 1) f) := by
  funext j
  simp only [updF, stepF, downS]
  by_cases h : j = k + 1
  · subst h
    rw [if_pos rfl, if_neg (by omega), if_pos (by omega), if_pos rfl]
  · rw [if_neg h]
    by_cases h2 : j ≤ k
    · rw [if_pos (by omega), if_neg h, if_pos h2]
    · rw [if_neg (by omega), if_neg h2, if_neg (by omega)]
theorem stepF_out (lv : List (List Nat)) (k a : Nat) (f : Nat → Nat) : stepF lv k (startT (lv.getD k []) (a + 1)) (stepF lv (k + 1) (a + 1) f) = stepF lv (k + 1) (a + 1) f := by
  funext j
  simp only [stepF, downS]
  by_cases h2 : j ≤ k
  · rw [if_pos h2, if_pos (by omega), if_neg (by omega)]
  · rw [if_neg h2]
/-- the cells of the counts -/
def cntC (m : Nat) (f : Nat → Nat) : Array Value := ((List.range m).map fun j => Value.int .i64 (f j : Nat)).toArray
theorem cntC_size (m : Nat) (f : Nat → Nat) : (cntC m f).size = m := by simp [cntC]
theorem cntC_at {m j : Nat} (f : Nat → Nat) (h : j < m) : (cntC m f)[j]? = some (.int .i64 (f j : Nat)) := by simp [cntC, h]
theorem cntC_set {m : Nat} (f : Nat → Nat) (k x : Nat) : (cntC m f).setIfInBounds k (.int .i64 (x : Nat)) = cntC m (updF f k x) := by
  apply Array.ext
  · simp [cntC]
  · intro i h1 h2
    simp only [cntC, updF, List.setIfInBounds_toArray, List.getElem_toArray, List.getElem_set, List.getElem_map, List.getElem_range]
    by_cases h : k = i
    · subst h; simp
    · rw [if_neg h, if_neg (fun e => h e.symm)]

/-- the closure -/
def cloV (bN bO bT bS bK : Nat) : Value := .func (.func 39) #[] #[.pointer (some ⟨bN, 0, none⟩), .pointer (some ⟨bO, 0, none⟩), .pointer (some ⟨bT, 0, none⟩), .pointer (some ⟨bS, 0, none⟩), .pointer (some ⟨bK, 0, none⟩)]
/-- what it carries: vb lies in the box of the nodes, v are the nodes -/
structure TS (base b0 bN gN bO bT bS bK : Nat) (kind : Int) (sv : Array Value) (m : Nat) (w0 w : World) (f : Nat → Nat) (vb v : Value) (ns : List RN) (us : List Value) : Prop where
  old : Below base w0 w
  lo : base ≤ gN ∧ base ≤ bO
  lt : gN < b0 ∧ bO < b0 ∧ base ≤ b0 ∧ b0 ≤ w.heap.size
  ne : gN ≠ bK
  rN : RowC w bN 22 #[.slice (some ⟨gN, 0, none⟩) m m]
  rG : RowC w gN 3 (cntC m f)
  rO : RowC w bO 28 #[vb]
  rT : RowC w bT 64 #[cloV bN bO bT bS bK]
  rS : RowC w bS 25 sv
  rK : RowC w bK 3 #[.int .i64 kind]
  nd : OwR base w v ns us
  hu : ∀ u ∈ us, ∀ y, u.ownBlock = some y → b0 ≤ y
/-- what a call may have changed: the counts, the nodes' box, the nodes' row, what is new -/
structure MV (gN bO : Nat) (v : Value) (w : World) (v' : Value) (w' : World) : Prop where
  sz : w.heap.size ≤ w'.heap.size
  own : v'.ownBlock = v.ownBlock ∨ ∃ y, v'.ownBlock = some y ∧ w.heap.size ≤ y
  keep : ∀ g, g < w.heap.size → g ≠ gN → g ≠ bO → v.ownBlock ≠ some g → w'.heap[g]? = w.heap[g]?
theorem MV.refl (gN bO : Nat) (v : Value) (w : World) : MV gN bO v w v w := ⟨Nat.le_refl _, .inl rfl, fun _ _ _ _ _ => rfl⟩
theorem MV.trans {gN bO : Nat} {v v' v'' : Value} {w w' w'' : World} (h : MV gN bO v w v' w') (k : MV gN bO v' w' v'' w'') : MV gN bO v w v'' w'' := by
  refine ⟨Nat.le_trans h.sz k.sz, ?_, fun g h1 h2 h3 h4 => ?_⟩
  · rcases k.own with e | ⟨y, e, hy⟩
    · rw [e]; exact h.own
    · exact .inr ⟨y, e, Nat.le_trans h.sz hy⟩
  · have h5 : v'.ownBlock ≠ some g := by
      rcases h.own with e | ⟨y, e, hy⟩
      · rw [e]; exact h4
      · rw [e]; intro e2; injection e2 with e2; omega
    rw [k.keep g (by have := h.sz; omega) h2 h3 h5, h.keep g h1 h2 h3 h4]
theorem MV.quiet {gN bO : Nat} {v : Value} {w w' : World} (hb : Below w.heap.size w w') : MV gN bO v w v w' := ⟨hb.size, .inl rfl, fun g h1 _ _ _ => hb.block g h1⟩
theorem MV.box {gN bO : Nat} {v v' : Value} {w w' : World} (h : MV gN bO v w v' w') {g : Nat} {t : TypeId} {cs : Array Value} (hr : RowC w g t cs) (h2 : g ≠ gN) (h3 : g ≠ bO) (h4 : v.ownBlock ≠ some g) : RowC w' g t cs ∧ v'.ownBlock ≠ some g := by
  refine ⟨hr.of (h.keep g hr.lt h2 h3 h4), ?_⟩
  rcases h.own with e | ⟨y, e, hy⟩
  · rw [e]; exact h4
  · rw [e]; intro e2; injection e2 with e2; have := hr.lt; omega
theorem ty_apart {w : World} {g g' : Nat} {t t' : TypeId} {cs cs' : Array Value} (h : RowC w g t cs) (h' : RowC w g' t' cs') (hne : t ≠ t') : g ≠ g' := fun e => by
  subst e
  exact hne (ty_neT h h')
section
variable {base b0 bN gN bO bT bS bK m : Nat} {kind : Int} {sv : Array Value} {w0 w w' : World} {f : Nat → Nat} {vb v : Value} {ns : List RN} {us : List Value}
theorem TS.quiet (h : TS base b0 bN gN bO bT bS bK kind sv m w0 w f vb v ns us) (hb : Below w.heap.size w w') : TS base b0 bN gN bO bT bS bK kind sv m w0 w' f vb v ns us :=
  ⟨h.old.trans (hb.mono (by have := h.lt; omega)), h.lo, ⟨h.lt.1, h.lt.2.1, h.lt.2.2.1, Nat.le_trans h.lt.2.2.2 hb.size⟩, h.ne, h.rN.call hb, h.rG.call hb, h.rO.call hb, h.rT.call hb, h.rS.call hb, h.rK.call hb, h.nd.quiet hb, h.hu⟩
/-- the nodes' row turns -/
theorem TS.turn (h : TS base b0 bN gN bO bT bS bK kind sv m w0 w f vb v ns us) (hg : w.grownBy w' v.ownBlock) {v' : Value} {ns' : List RN} {us' : List Value} (hn : OwR base w' v' ns' us') (hu : ∀ u ∈ us', u ∈ us ∨ ∀ y, u.ownBlock = some y → b0 ≤ y) : TS base b0 bN gN bO bT bS bK kind sv m w0 w' f vb v' ns' us' := by
  have hty : ∀ {g : Nat} {t : TypeId} {cs : Array Value}, RowC w g t cs → t ≠ 42 → RowC w' g t cs := fun hr ht => hr.grownT hg fun k hk e => by
    subst e
    obtain ⟨cs', hr'⟩ := own_tyT h.nd.row hk
    exact ht (ty_neT hr hr')
  refine ⟨h.old.grown hg (by have := h.lt; omega) (own_blockT h.nd.row), h.lo, ⟨h.lt.1, h.lt.2.1, h.lt.2.2.1, Nat.le_trans h.lt.2.2.2 hg.size⟩, h.ne, hty h.rN (by decide), hty h.rG (by decide), hty h.rO (by decide), hty h.rT (by decide), hty h.rS (by decide), hty h.rK (by decide), hn, fun u hu' => ?_⟩
  rcases hu u hu' with h1 | h1
  · exact h.hu u h1
  · exact h1
theorem TS.apart (h : TS base b0 bN gN bO bT bS bK kind sv m w0 w f vb v ns us) {g : Nat} {t : TypeId} {cs : Array Value} (hr : RowC w g t cs) (ht : t ≠ 42) : v.ownBlock = none ∨ v.ownBlock ≠ some g := by
  cases e : v.ownBlock with
  | none => exact .inl rfl
  | some y =>
    refine .inr fun e2 => ?_
    injection e2 with e2
    subst e2
    obtain ⟨cs', hr'⟩ := own_tyT h.nd.row e
    exact ht (ty_neT hr hr')
theorem TS.apartU (h : TS base b0 bN gN bO bT bS bK kind sv m w0 w f vb v ns us) {g : Nat} (hg : g < b0) : ∀ u ∈ us, u.ownBlock = none ∨ u.ownBlock ≠ some g := fun u hu => by
  cases e : u.ownBlock with
  | none => exact .inl rfl
  | some y =>
    refine .inr fun e2 => ?_
    injection e2 with e2
    have := h.hu u hu y e
    omega
/-- the nodes' box is written -/
theorem TS.store (h : TS base b0 bN gN bO bT bS bK kind sv m w0 w f vb v ns us) (x : Value) : TS base b0 bN gN bO bT bS bK kind sv m w0 (w.setCell ⟨bO, 0, none⟩ x) f x v ns us := by
  have hg := grown_setCell w bO 0 x
  have hne : ∀ {g : Nat} {t : TypeId} {cs : Array Value}, RowC w g t cs → t ≠ 28 → RowC (w.setCell ⟨bO, 0, none⟩ x) g t cs := fun hr ht => hr.far (ty_apart hr h.rO ht) x
  exact ⟨h.old.grown hg (by have := h.lt; omega) (fun g e => by injection e with e; have := h.lo; omega), h.lo, ⟨h.lt.1, h.lt.2.1, h.lt.2.2.1, Nat.le_trans h.lt.2.2.2 hg.size⟩, h.ne, hne h.rN (by decide), hne h.rG (by decide), h.rO.set_ 0 x, hne h.rT (by decide), hne h.rS (by decide), hne h.rK (by decide),
    h.nd.kept hg (h.apart h.rO (by decide)) (h.apartU h.lt.2.1), h.hu⟩
/-- a count is written -/
theorem TS.count (h : TS base b0 bN gN bO bT bS bK kind sv m w0 w f vb v ns us) (k x : Nat) : TS base b0 bN gN bO bT bS bK kind sv m w0 (w.setCell ⟨gN, k, none⟩ (.int .i64 (x : Nat))) (updF f k x) vb v ns us := by
  have hg := grown_setCell w gN k (.int .i64 (x : Nat))
  have hne : ∀ {g : Nat} {t : TypeId} {cs : Array Value}, RowC w g t cs → t ≠ 3 → RowC (w.setCell ⟨gN, k, none⟩ (.int .i64 (x : Nat))) g t cs := fun hr ht => hr.far (ty_apart hr h.rG ht) _
  refine ⟨h.old.grown hg (by have := h.lt; omega) (fun g e => by injection e with e; have := h.lo; omega), h.lo, ⟨h.lt.1, h.lt.2.1, h.lt.2.2.1, Nat.le_trans h.lt.2.2.2 hg.size⟩, h.ne, hne h.rN (by decide), ?_, hne h.rO (by decide), hne h.rT (by decide), hne h.rS (by decide), h.rK.far (p := ⟨gN, k, none⟩) (fun e => h.ne e.symm) _,
    h.nd.kept hg (h.apart h.rG (by decide)) (h.apartU h.lt.1), h.hu⟩
  rw [← cntC_set]
  exact h.rG.set_ k _
theorem MV.store {x : Value} : MV gN bO v w v (w.setCell ⟨bO, 0, none⟩ x) := by
  have hg := grown_setCell w bO 0 x
  exact ⟨hg.size, .inl rfl, fun g h1 h2 h3 h4 => Below.heap_setCell w ⟨bO, 0, none⟩ x g h3⟩
theorem MV.count {k : Nat} {x : Value} : MV gN bO v w v (w.setCell ⟨gN, k, none⟩ x) := by
  have hg := grown_setCell w gN k x
  exact ⟨hg.size, .inl rfl, fun g h1 h2 h3 h4 => Below.heap_setCell w ⟨gN, k, none⟩ x g h2⟩
/-- a node more, over trees that are told -/
theorem TS.addT {ns0 : List RN} {Ts : List RT} (h : TS base b0 bN gN bO bT bS bK kind sv m w0 w f vb v (ns0 ++ flats Ts ns0.length) us) (lev a : Nat) (red : Bool) (hT : (∃ l r, Ts = [l, r]) ∨ (red = false ∧ ∃ l x r, Ts = [l, x, r])) (hn : ns0.length + sizes Ts ≤ 100000) :
    Calls Try.prog 40 #[v, .agg (ndZ lev a red), .slice (some ⟨w.heap.size, 0, none⟩) Ts.length Ts.length] (w.alloc (.cells (kidV (ends Ts ns0.length)).toArray 3)) fun e w' => ∃ v' us', e = .returned v' ∧
      TS base b0 bN gN bO bT bS bK kind sv m w0 w' f vb v' (ns0 ++ (joinT lev a red Ts).flat ns0.length (-1)) us' ∧ MV gN bO v w v' w' := by
  have hal := d_al w (.cells (kidV (ends Ts ns0.length)).toArray 3)
  have h1 := h.quiet hal
  have hl3 : Ts.length ≤ 3 := by rcases hT with ⟨_, _, e⟩ | ⟨_, _, _, _, e⟩ <;> rw [e] <;> simp
  have hk : (w.alloc (.cells (kidV (ends Ts ns0.length)).toArray 3)).ownsRow base 3 1 (.slice (some ⟨w.heap.size, 0, none⟩) Ts.length Ts.length) Ts.length (kidV (ends Ts ns0.length)) := by
    refine own_ofT (RowC.new w _ _) (by have := h.lt; omega) (Nat.le_refl _) (by simp only [maxLen]; omega) (by simp [kidV, ends_len]) ?_
    rw [List.take_of_length_le (by simp [kidV, ends_len])]
  refine (PAddT_any base v ns0 us lev a red w.heap.size Ts.length Ts _ hT (by have := h1.lt; omega) h1.nd hk hn).mono ?_
  rintro e w' ⟨v', us', rfl, q1, q2, q3, q4⟩
  have hs : (w.alloc (.cells (kidV (ends Ts ns0.length)).toArray 3)).heap.size = w.heap.size + 1 := by simp
  refine ⟨v', us', rfl, h1.turn q2 q1 (fun u hu => ?_), (MV.quiet hal).trans ⟨q2.size, q3, fun g h1 h2 h3 h4 => q2.block g h1 (fun e => h4 e.symm)⟩⟩
  rcases q4 u hu with h5 | h5
  · exact .inl h5
  · refine .inr fun y hy => ?_
    rw [h5] at hy
    have hy2 : w.heap.size = y := Option.some.inj hy
    have := h.lt
    omega
theorem TS.addT' {ns0 : List RN} {Ts : List RT} (h : TS base b0 bN gN bO bT bS bK kind sv m w0 w f vb v (ns0 ++ flats Ts ns0.length) us) (lev a : Nat) (red : Bool) (hT : (∃ l r, Ts = [l, r]) ∨ (red = false ∧ ∃ l x r, Ts = [l, x, r])) (hn : ns0.length + sizes Ts ≤ 100000)
    (nv : Array Value) (hnv : nv = ndZ lev a red) (kc : Array Value) (hkc : kc = (kidV (ends Ts ns0.length)).toArray) (c : Nat) (hc : c = Ts.length) :
    Calls Try.prog 40 #[v, .agg nv, .slice (some ⟨w.heap.size, 0, none⟩) c c] (w.alloc (.cells kc 3)) fun e w' => ∃ v' us', e = .returned v' ∧
      TS base b0 bN gN bO bT bS bK kind sv m w0 w' f vb v' (ns0 ++ (joinT lev a red Ts).flat ns0.length (-1)) us' ∧ MV gN bO v w v' w' := by
  subst hnv hkc hc
  exact h.addT lev a red hT hn
theorem TS.addLeaf (h : TS base b0 bN gN bO bT bS bK kind sv m w0 w f vb v ns us) {a : Nat} (ha : a ≤ 100000) (hn : ns.length + 1 ≤ 100000) :
    Calls Try.prog 40 #[v, .agg #[.int .i64 0, .int .i64 (a : Nat), .bool false, .int .i64 (a : Nat), .int .i64 ((a : Int) + 1), .slice none 0 0, .int .i64 0], .slice none 0 0] w fun e w' => ∃ v' us', e = .returned v' ∧
      TS base b0 bN gN bO bT bS bK kind sv m w0 w' f vb v' (ns ++ (RT.leaf a).flat ns.length (-1)) us' ∧ MV gN bO v w v' w' := by
  refine (PAddLeaf_any base a v ns us w ha (by have := h.lt; omega) h.nd hn).mono ?_
  rintro e w' ⟨v', us', rfl, q1, q2, q3, q4⟩
  refine ⟨v', us', rfl, h.turn q2 q1 (fun u hu => ?_), ⟨q2.size, q3, fun g h1 h2 h3 h4 => q2.block g h1 (fun e => h4 e.symm)⟩⟩
  rcases q4 u hu with h5 | h5
  · exact .inl h5
  · exact .inr fun y hy => by rw [h5] at hy; simp [Value.ownBlock] at hy
theorem TS.form (h : TS base b0 bN gN bO bT bS bK kind sv m w0 w f vb v ns us) : ∃ A c, v = .slice A ns.length c := by
  obtain ⟨A, c, e, _, _⟩ := own_formT h.nd.row
  exact ⟨A, c, e⟩
end

end Go.Proofs.Ytbickllpledlbaa

/-
  CONTRACT of the closure of the program's red.told at a leaf.
-/
set_option linter.unusedVariables false
namespace Go.Proofs.Ytbickllpledlbaa
open Go.RowKit

def TellPost (base b0 bN gN bO bT bS bK : Nat) (kind : Int) (sv : Array Value) (m : Nat) (w0 w : World) (f : Nat → Nat) (v : Value) (ns : List RN) (T : RT) (q : Nat) (e : Ending) (w' : World) : Prop :=
  ∃ v' us', e = .returned (.int .i64 (q : Int)) ∧ TS base b0 bN gN bO bT bS bK kind sv m w0 w' f v' v' (ns ++ T.flat ns.length (-1)) us' ∧ MV gN bO v w v' w'

set_option maxRecDepth 100000 in
set_option maxHeartbeats 4000000 in
theorem PTellLeaf_any (base b0 bN gN bO bT bS bK : Nat) (kind : Int) (sv : Array Value) (m : Nat) (w0 w : World) (lv : List (List Nat)) (a : Nat) (f : Nat → Nat) (v : Value) (ns : List RN) (us : List Value) (hm : 0 < m) (hmm : m ≤ 2000) (ha : a < 100000) (hn : ns.length + 1 ≤ 100000)
    (h : TS base b0 bN gN bO bT bS bK kind sv m w0 w (stepF lv 0 a f) v v ns us) :
    Calls Try.prog 39 #[.int .i64 0, .pointer (some ⟨bN, 0, none⟩), .pointer (some ⟨bO, 0, none⟩), .pointer (some ⟨bT, 0, none⟩), .pointer (some ⟨bS, 0, none⟩), .pointer (some ⟨bK, 0, none⟩)] w
      (TellPost base b0 bN gN bO bT bS bK kind sv m w0 w (stepF lv 0 (a + 1) f) v ns (.leaf a) ns.length) := by
  have Hpost := Lib.hid (show ∀ v' us' w' n, TS base b0 bN gN bO bT bS bK kind sv m w0 w' (stepF lv 0 (a + 1) f) v' v' (ns ++ (RT.leaf a).flat ns.length (-1)) us' → MV gN bO v w v' w' → n = ((ns.length : Nat) : Int) → TellPost base b0 bN gN bO bT bS bK kind sv m w0 w (stepF lv 0 (a + 1) f) v ns (.leaf a) ns.length (.returned (.int .i64 n)) w' from fun v' us' w' n q1 q2 e => ⟨v', us', by rw [e], q1, q2⟩)
  generalize TellPost base b0 bN gN bO bT bS bK kind sv m w0 w (stepF lv 0 (a + 1) f) v ns (.leaf a) ns.length = PO at *
  have h1 := h.count 0 (a + 1)
  rw [stepF_zero] at h1
  have hlen : (ns ++ (RT.leaf a).flat ns.length (-1)).length = ns.length + 1 := by rw [List.length_append, RT.flat_len, RT.size]
  have hm1 : MV gN bO v w v (w.setCell ⟨gN, 0, none⟩ (.int .i64 ((a + 1 : Nat) : Int))) := MV.count
  have c1 := h.rN.cell (i := 0) (v := .slice (some ⟨gN, 0, none⟩) m m) rfl
  have c2 := h.rG.cell (cntC_at _ hm)
  rw [stepF_top] at c2
  have f2 := h.rG.frozen 0
  have c3 := h.rO.cell (i := 0) (v := v) rfl
  have z0 : (0 : Int) < (m : Int) := by omega
  have z1 : IntKind.i64.wrap ((a : Int) + 1) = (a : Int) + 1 := by rw [IntKind.wrap_i64]; omega
  have hm0 : ¬ m = 0 := by omega
  clear h
  go_enter Try.func39, Try.ntmps39
  go_upto_region 3 with fail
  try simp only [Act.put]
  refine wp_gen (fun wx => TS base b0 bN gN bO bT bS bK kind sv m w0 wx (stepF lv 0 (a + 1) f) v v ns us ∧ MV gN bO v w v wx) ⟨h1, hm1⟩ ?_
  clear h1 hm1 c1 c2 f2 c3 z0
  rintro w1 ⟨h1, hm1⟩
  have c3 := h1.rO.cell (i := 0) (v := v) rfl
  have had := h1.addLeaf (a := a) (by omega) hn
  go_wp2_with fail
  refine had.mono ?_
  rintro e w2 ⟨v2, us2, rfl, h2, hm2⟩
  have c4 := h2.rO.cell (i := 0) (v := v) rfl
  have f4 := h2.rO.frozen 0
  obtain ⟨A2, d2, hv2⟩ := h2.form
  rw [hlen] at hv2
  subst hv2
  have h3 := h2.store (.slice A2 (ns.length + 1) d2)
  have hm3 := (hm1.trans hm2).trans (MV.store (gN := gN) (w := w2) (bO := bO) (v := .slice A2 (ns.length + 1) d2) (x := .slice A2 (ns.length + 1) d2))
  have c5 := h3.rO.cell (i := 0) (v := .slice A2 (ns.length + 1) d2) rfl
  have zn : IntKind.i64.wrap (((ns.length + 1 : Nat) : Int) - 1) = (ns.length : Int) := by rw [IntKind.wrap_i64]; omega
  have zn2 : IntKind.i64.wrap ((ns.length : Int) + 1 - 1) = (ns.length : Int) := by rw [IntKind.wrap_i64]; omega
  clear had h1 hm1 c3 h2 hm2
  go_wp2_with fail
  (first | exact Hpost.out _ _ _ _ h3 hm3 rfl | exact bodyPost_ret (results_tmp rfl _ _ _) rfl (Hpost.out _ _ _ _ h3 hm3 rfl))

end Go.Proofs.Ytbickllpledlbaa

/-
  CONTRACTS of the document's may and Nodes (coterieref11).
-/
set_option linter.unusedVariables false
namespace Go.Proofs.Ytbickllpledlbaa
open Go.RowKit

def mayB (kind : Int) (ids : List Int) (ll : List (List Int)) : Bool := (decide (kind = 1) || decide (kind = 2)) && chkT ids ll
def nodesI (kind : Int) (ids : List Int) (ll : List (List Int)) : List RI := if mayB kind ids ll = true then (nodesU kind ids.length (lvN ll)).map RN.i else []
def mayE (kind : Int) (ids : List Int) (ll : List (List Int)) : Int := if mayB kind ids ll = true then 0 else 1
def NodesPost (w : World) (kind : Int) (ids : List Int) (ll : List (List Int)) (e : Ending) (w' : World) : Prop :=
  Below w.heap.size w w' ∧ ∃ A n c, e = .returned (.tuple #[.slice A n c, .int .i64 (mayE kind ids ll)]) ∧ NdR w' w'.heap.size A n c (nodesI kind ids ll)
theorem chkE_iff {ids : List Int} {ll : List (List Int)} : chkE ids ll = 0 ↔ chkT ids ll = true := by
  rw [chkE]
  split <;> simp_all

set_option maxRecDepth 100000 in
set_option maxHeartbeats 4000000 in
theorem May_any (kind : Int) (Ai : Option Addr) (ni ci : Nat) (Al : Option Addr) (nl cl : Nat) (ids : List Int) (ll : List (List Int)) (w : World) (h : ShR w w.heap.size Ai ni ci Al nl cl ids ll) (hf : fewT ids ll = true) :
    Calls Try.prog 27 #[.int .i64 kind, .agg (shV Ai ni ci Al nl cl)] w fun e w' => e = .returned (.bool (mayB kind ids ll)) ∧ Below w.heap.size w w' := by
  have hM := (Ms.nil w).box 25 (shV Ai ni ci Al nl cl)
  have hck := CheckT_any Ai ni ci Al nl cl ids ll _ ((h.below hM.old).more hM.old.size) (few_million hf)
  have Hpost := Lib.hid (show ∀ b w', b = mayB kind ids ll → Below w.heap.size w w' → (fun e w' => e = Ending.returned (Value.bool (mayB kind ids ll)) ∧ Below w.heap.size w w') (.returned (.bool b)) w' from fun b w' h1 h2 => ⟨by rw [h1], h2⟩)
  generalize (fun e w' => e = Ending.returned (Value.bool (mayB kind ids ll)) ∧ Below w.heap.size w w') = PO at *
  have hold := hM.old
  by_cases h1 : kind = 1
  · subst h1
    go_enter Try.func27, Try.ntmps27
    go_wp2_with ((with_reducible show wpList _ _ _ (⟨some 12, _, _, _, _, _⟩ :: _) _ _); refine wpList_loadC (by kernel_rfl) 25 (.tmp 3) rfl w.heap.size rfl 25 (shV Ai ni ci Al nl cl) _ (hM.get 0 rfl) Try.underlying25 rfl shapeInfo2 ?_)
    refine hck.mono ?_
    rintro e w1 ⟨rfl, hb1⟩
    have hold1 := hM.call hb1
    have hfin := hold1.old
    obtain ⟨er, her⟩ : ∃ er, er = chkE ids ll := ⟨_, rfl⟩
    rw [← her]
    by_cases hc : er = 0
    · subst hc
      have Hc := Lib.hid (show true = mayB 1 ids ll by rw [mayB, chkE_iff.1 her.symm]; rfl)
      clear hck hM hb1 hold1 her
      go_wp2_with fail
      (first | exact Hpost.out _ _ Hc.out hfin | exact bodyPost_ret (results_tmp rfl _ _ _) rfl (Hpost.out _ _ Hc.out hfin))
    · have Hc := Lib.hid (show false = mayB 1 ids ll by
        have h2 : ¬ chkT ids ll = true := fun e => hc (by rw [her]; exact chkE_iff.2 e)
        rw [mayB, Bool.eq_false_iff.2 h2, Bool.and_false])
      have hcb : (er == 0) = false := by simpa using hc
      clear hck hM hb1 hold1 her
      go_wp2_with fail
      (first | exact Hpost.out _ _ Hc.out hfin | exact bodyPost_ret (results_tmp rfl _ _ _) rfl (Hpost.out _ _ Hc.out hfin))
  by_cases h2 : kind = 2
  · subst h2
    go_enter Try.func27, Try.ntmps27
    go_wp2_with ((with_reducible show wpList _ _ _ (⟨some 12, _, _, _, _, _⟩ :: _) _ _); refine wpList_loadC (by kernel_rfl) 25 (.tmp 3) rfl w.heap.size rfl 25 (shV Ai ni ci Al nl cl) _ (hM.get 0 rfl) Try.underlying25 rfl shapeInfo2 ?_)
    refine hck.mono ?_
    rintro e w1 ⟨rfl, hb1⟩
    have hold1 := hM.call hb1
    have hfin := hold1.old
    obtain ⟨er, her⟩ : ∃ er, er = chkE ids ll := ⟨_, rfl⟩
    rw [← her]
    by_cases hc : er = 0
    · subst hc
      have Hc := Lib.hid (show true = mayB 2 ids ll by rw [mayB, chkE_iff.1 her.symm]; rfl)
      clear hck hM hb1 hold1 her
      go_wp2_with fail
      (first | exact Hpost.out _ _ Hc.out hfin | exact bodyPost_ret (results_tmp rfl _ _ _) rfl (Hpost.out _ _ Hc.out hfin))
    · have Hc := Lib.hid (show false = mayB 2 ids ll by
        have h2 : ¬ chkT ids ll = true := fun e => hc (by rw [her]; exact chkE_iff.2 e)
        rw [mayB, Bool.eq_false_iff.2 h2, Bool.and_false])
      have hcb : (er == 0) = false := by simpa using hc
      clear hck hM hb1 hold1 her
      go_wp2_with fail
      (first | exact Hpost.out _ _ Hc.out hfin | exact bodyPost_ret (results_tmp rfl _ _ _) rfl (Hpost.out _ _ Hc.out hfin))
  have Hc := Lib.hid (show false = mayB kind ids ll by rw [mayB, decide_eq_false h1, decide_eq_false h2]; rfl)
  have hfin := hM.old
  clear hck hM
  go_enter Try.func27, Try.ntmps27
  go_wp2_with fail
  (first | exact Hpost.out _ _ Hc.out hfin | exact bodyPost_ret (results_tmp rfl _ _ _) rfl (Hpost.out _ _ Hc.out hfin))

end Go.Proofs.Ytbickllpledlbaa

/-
  CONTRACT of the document's Nodes (coterieref11).
-/
set_option linter.unusedVariables false
namespace Go.Proofs.Ytbickllpledlbaa
open Go.RowKit

set_option maxRecDepth 100000 in
set_option maxHeartbeats 4000000 in
theorem Nodes11_any (kind : Int) (Ai : Option Addr) (ni ci : Nat) (Al : Option Addr) (nl cl : Nat) (ids : List Int) (ll : List (List Int)) (w : World) (h : ShR w w.heap.size Ai ni ci Al nl cl ids ll) (hf : fewT ids ll = true) :
    Calls Try.prog 12 #[.int .i64 kind, .agg (shV Ai ni ci Al nl cl)] w (NodesPost w kind ids ll) := by
  have Hni := Lib.hid h.hni
  have Hnl := Lib.hid h.hnl
  have hM := (Ms.nil w).box 25 (shV Ai ni ci Al nl cl)
  have hS1 := (h.below hM.old)
  have hmy := May_any kind Ai ni ci Al nl cl ids ll _ (hS1.more hM.old.size) hf
  have Hpost := Lib.hid (show ∀ A n c er w', Below w.heap.size w w' → er = mayE kind ids ll → NdR w' w'.heap.size A n c (nodesI kind ids ll) → NodesPost w kind ids ll (.returned (.tuple #[.slice A n c, .int .i64 er])) w' from fun A n c er w' h1 h2 h3 => ⟨h1, A, n, c, by rw [h2], h3⟩)
  generalize NodesPost w kind ids ll = PO at *
  obtain ⟨mb, hmb⟩ : ∃ mb, mb = mayB kind ids ll := ⟨_, rfl⟩
  rw [← hmb] at hmy
  have Hmb := Lib.hid hmb
  have hb0 : w.heap.size ≤ w.heap.size := Nat.le_refl _
  clear hmb
  go_enter Try.func12, Try.ntmps12
  go_wp2_with ((with_reducible show wpList _ _ _ (⟨some 9, _, _, _, _, _⟩ :: _) _ _); refine wpList_loadC (by kernel_rfl) 25 (.tmp 3) rfl w.heap.size rfl 25 (shV Ai ni ci Al nl cl) _ (hM.get 0 rfl) Try.underlying25 rfl shapeInfo2 ?_)
  refine hmy.mono ?_
  rintro e w1 ⟨rfl, hb1⟩
  have hM1 := hM.call hb1
  have hS2 := hS1.below (hb1.mono hM.old.size)
  clear hM hb1 hmy hS1
  have hold := hM1.old
  cases mb with
  | false =>
    have Hc := Lib.hid (show (1 : Int) = mayE kind ids ll by rw [mayE, ← Hmb.out]; rfl)
    have Hn := Lib.hid (show nodesI kind ids ll = [] by rw [nodesI, ← Hmb.out]; rfl)
    have hz := NdR.zero w1 w1.heap.size
    rw [← Hn.out] at hz
    clear hM1
    go_wp2_with fail
    (first | exact Hpost.out _ _ _ _ _ hold Hc.out hz | exact bodyPost_ret (results_tmp2 rfl _ _ _) rfl (Hpost.out _ _ _ _ _ hold Hc.out hz))
  | true =>
    have Hc := Lib.hid (show (0 : Int) = mayE kind ids ll by rw [mayE, ← Hmb.out]; rfl)
    have hch : chkT ids ll = true := by
      have := Hmb.out
      rw [mayB] at this
      simp only [Bool.true_eq, Bool.and_eq_true] at this
      exact this.2
    obtain ⟨hn1000, _, hlo, hin⟩ := chkT_lv hch
    have hs := lvOK_sum _ _ hlo
    have hhi := lv_high hch
    have Hlen := Lib.hid (show (lvN ll).length = nl by rw [lvN, List.length_map]; exact Hnl.out)
    rw [← levI_lvN hin] at hS2
    have Hn := Lib.hid (show nodesI kind ids ll = (nodesU kind ids.length (lvN ll)).map RN.i by rw [nodesI, ← Hmb.out]; rfl)
    have k0 := (hM1.get 0 rfl).cell (i := 0) (v := .slice Ai ni ci) rfl
    have k1 := (hM1.get 0 rfl).cell (i := 1) (v := .slice Al nl cl) rfl
    by_cases h0 : ni = 0
    · have Hz := Lib.hid (show nodesI kind ids ll = [] by rw [Hn.out, nodesU, if_pos (by rw [Hni.out]; exact h0)]; rfl)
      have hz := NdR.zero w1 w1.heap.size
      rw [← Hz.out] at hz
      have h0i : (ni : Int) = 0 := by omega
      clear hS2
      go_wp2_with fail
      (first | exact Hpost.out _ _ _ _ _ hold Hc.out hz | exact bodyPost_ret (results_tmp2 rfl _ _ _) rfl (Hpost.out _ _ _ _ _ hold Hc.out hz))
    · have h0i : ¬ (ni : Int) = 0 := by omega
      have hpos : 0 < wideN ids.length (lvN ll) (lvN ll).length := wideN_pos hs (by rw [Hni.out]; omega) _ (Nat.le_refl _)
      have hts := treeOf_size (kind := kind) hs (Nat.le_refl _) hpos
      have hbl := Below_any w.heap.size kind Ai ni ci Al nl cl ids (lvN ll) ids.length hs hn1000 (by omega) (lvN ll).length 0 (Nat.le_refl _) hpos (.slice none 0 0) [] [] w1 hold.size hS2 (OwR.nil _ _) (by simp only [List.length_nil]; omega)
      have Hz := Lib.hid (show nodesI kind ids ll = ((treeOf kind (lvN ll) (lvN ll).length 0).flat 0 (-1)).map RN.i by rw [Hn.out, nodesU, if_neg (by rw [Hni.out]; exact h0)])
      rw [List.length_nil, Nat.zero_add] at hbl
      generalize treeOf kind (lvN ll) (lvN ll).length 0 = T at *
      rw [Hlen.out] at hbl
      have hbl' : Calls Try.prog 28 #[.int .i64 kind, .agg (shV Ai ni ci Al nl cl), .slice none 0 0, .int .i64 (nl : Nat), .int .i64 0] w1 (AddPost w.heap.size w1 (.slice none 0 0) [] [] (newV w1.heap.size) T (T.size - 1)) := hbl
      have hbox := hM1.get 0 rfl
      clear hbl hS2 hs hlo hin hch hhi hpos hts
      go_wp2_with ((with_reducible show wpList _ _ _ (⟨some 18, _, _, _, _, _⟩ :: _) _ _); refine wpList_loadC (by kernel_rfl) 25 (.tmp 3) rfl w.heap.size rfl 25 (shV Ai ni ci Al nl cl) _ hbox Try.underlying25 rfl shapeInfo2 ?_)
      refine hbl'.mono ?_
      rintro e w2 ⟨v2, us2, rfl, hr2, hg2, _, _⟩
      rw [List.nil_append, List.length_nil] at hr2
      obtain ⟨A2, c2, rfl, _, _⟩ := own_formT hr2.row
      have hnd := hr2.told
      rw [← Hz.out] at hnd
      have hold2 : Below w.heap.size w w2 := hold.grown hg2 hold.size (fun g hg => by simp [Value.ownBlock] at hg)
      clear hbl' hr2 hbox hM1
      go_wp2_with fail
      (first | exact Hpost.out _ _ _ _ _ hold2 Hc.out hnd | exact bodyPost_ret (results_tmp2 rfl _ _ _) rfl (Hpost.out _ _ _ _ _ hold2 Hc.out hnd))

end Go.Proofs.Ytbickllpledlbaa

