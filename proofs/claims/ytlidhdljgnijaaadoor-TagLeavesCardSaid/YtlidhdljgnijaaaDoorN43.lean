import Derived.Test.YtlidhdljgnijaaaDoorN41
import Derived.Test.YtlidhdljgnijaaaDoorN42
import Derived.Test.YtlidhdljgnijaaaDoorN32
import Derived.Test.YtlidhdljgnijaaaDoorN31
import Derived.Test.YtlidhdljgnijaaaDoorN09
import Derived.Test.YtlidhdljgnijaaaDoorN13
import Derived.Test.YtlidhdljgnijaaaDoorN21
/-
  CONTRACT of the program's tag.takeList.
-/
set_option linter.unusedVariables false
namespace Go.Proofs.YtlidhdljgnijaaaDoor
open Go.RowKit Go.Shelf

attribute [local go_sem] Oper.semAt_some

/-- number i of a width, from place p on -/
def valI (l : List UInt8) (wd p i : Nat) : Int := ((val ((l.drop (p + wd * i)).take wd) : Nat) : Int)
def valsI (l : List UInt8) (wd p n : Nat) : List Int := (List.range n).map (valI l wd p)
theorem numV_ok {l : List UInt8} {p wd : Nat} (h : p + wd ≤ l.length) : numV l p wd = val ((l.drop p).take wd) := by rw [numV, if_pos h]
theorem numsL_ok (l : List UInt8) (wd : Nat) : ∀ (n p : Nat), p + wd * n ≤ l.length → numsL l wd n p false = (valsI l wd p n, (p + wd * n, false))
  | 0, p, _ => by rw [numsL, valsI]; simp
  | n + 1, p, h => by
    have h1 : p + wd ≤ l.length := by rw [Nat.mul_succ] at h; omega
    have e1 : numP l p wd false = p + wd := by rw [numP, if_pos ⟨h1, rfl⟩]
    have e2 : numS l p wd false = false := by rw [numS, Bool.false_or]; exact decide_eq_false (by omega)
    rw [numsL, if_neg (by simp), e1, e2, numsL_ok l wd n (p + wd) (by rw [Nat.mul_succ] at h; omega), numV_ok h1]
    refine Prod.ext ?_ (Prod.ext ?_ rfl)
    · show _ :: _ = _
      rw [valsI, valsI, List.range_succ_eq_map, List.map_cons, List.map_map]
      congr 1
      · apply List.map_congr_left
        intro i _
        simp only [Function.comp, valI]
        rw [show p + wd + wd * i = p + wd * (i + 1) by rw [Nat.mul_succ]; omega]
    · show p + wd + wd * n = p + wd * (n + 1)
      rw [Nat.mul_succ]
      omega
theorem numsL_true (l : List UInt8) (wd n p : Nat) : numsL l wd n p true = ([], (p, true)) := by
  cases n <;> rfl
theorem numsL_short (l : List UInt8) (wd : Nat) : ∀ (n p : Nat), p ≤ l.length → l.length < p + wd * n → (numsL l wd n p false).2.2 = true
  | 0, p, h0, h => by omega
  | n + 1, p, h0, h => by
    rw [numsL, if_neg (by simp)]
    by_cases h1 : p + wd ≤ l.length
    · have e1 : numP l p wd false = p + wd := by rw [numP, if_pos ⟨h1, rfl⟩]
      have e2 : numS l p wd false = false := by rw [numS, Bool.false_or]; exact decide_eq_false (by omega)
      rw [e1, e2]
      exact numsL_short l wd n (p + wd) h1 (by rw [Nat.mul_succ] at h; omega)
    · have e2 : numS l p wd false = true := by rw [numS, Bool.false_or]; exact decide_eq_true (by omega)
      rw [e2, numsL_true]

/-- too short for a list -/
def tlBad (l : List UInt8) (p mw wd : Nat) : Prop := l.length < p + mw ∨ l.length < p + mw + wd * numV l p mw
def TakeListPost (w : World) (l : List UInt8) (p mw wd : Nat) (e : Ending) (w' : World) : Prop :=
  Below w.heap.size w w' ∧ ((tlBad l p mw wd ∧ e = .returned (.tuple #[.slice none 0 0, .int .i64 0, .int .i64 2])) ∨
    (¬ tlBad l p mw wd ∧ ∃ A c, e = .returned (.tuple #[.slice A (numV l p mw) c, .int .i64 ((p + mw + wd * numV l p mw : Nat) : Int), .int .i64 0]) ∧ w'.ownsRow w.heap.size 3 1 (.slice A (numV l p mw) c) (numV l p mw) ((valsI l wd (p + mw) (numV l p mw)).map iv)))

theorem loadVar_one {P : Program} {ty : TypeId} {d : TypeDesc} {w : World} {a : Addr} {v : Value} (hu : P.underlying ty = some d) (hd : (match d with | .struct _ | .array _ _ => true | _ => false) = false) (hc : w.cell? a = some v) : (loadVar ty a).run P w = .ok v w := by
  have hagg : (isAgg ty).run P w = .ok false w := by
    unfold isAgg
    rw [Sem.run_bind, run_underlying hu w]
    cases d <;> simp_all
  unfold loadVar
  rw [Sem.run_bind, hagg]
  simp [hc]
theorem results_c3 {P : Program} {fn : Func} {p q r : Tmp} {ty ty' ty'' : TypeId} (h : fn.results = #[.cell p ty, .cell q ty', .cell r ty'']) (tmps : Array Value) (w : World) (g g' g'' : Nat) (v v' v'' : Value)
    (hp : tmps.getD p undef = .pointer (some ⟨g, 0, none⟩)) (hq : tmps.getD q undef = .pointer (some ⟨g', 0, none⟩)) (hr : tmps.getD r undef = .pointer (some ⟨g'', 0, none⟩))
    (h1 : (loadVar ty ⟨g, 0, none⟩).run P w = .ok v w) (h2 : (loadVar ty' ⟨g', 0, none⟩).run P w = .ok v' w) (h3 : (loadVar ty'' ⟨g'', 0, none⟩).run P w = .ok v'' w) :
    (results fn tmps).run P w = .ok (.tuple #[v, v', v'']) w := by
  have hp' : tmps[p]?.getD undef = .pointer (some ⟨g, 0, none⟩) := by simpa using hp
  have hq' : tmps[q]?.getD undef = .pointer (some ⟨g', 0, none⟩) := by simpa using hq
  have hr' : tmps[r]?.getD undef = .pointer (some ⟨g'', 0, none⟩) := by simpa using hr
  simp [results, h, hp', hq', hr', asAddr, h1, h2, h3]

set_option maxRecDepth 100000 in
set_option maxHeartbeats 2000000 in
theorem TakeList_bad (Ab : Option Addr) (nb cb : Nat) (l : List UInt8) (p mw wd : Nat) (w : World) (hr : Rd w w.heap.size Ab nb (l.map bv)) (hnc : nb ≤ cb) (hn : nb ≤ 1000000) (hp : p ≤ nb) (hm1 : 1 ≤ mw) (hm2 : mw ≤ 2) (hw1 : 1 ≤ wd) (hw2 : wd ≤ 4) (hbad : tlBad l p mw wd) :
    Calls Tryd.prog 78 #[.slice Ab nb cb, .int .i64 (p : Int), .int .i64 (mw : Int), .int .i64 (wd : Int)] w fun e w' => e = .returned (.tuple #[.slice none 0 0, .int .i64 0, .int .i64 2]) ∧ Below w.heap.size w w' := by
  have hl : l.length = nb := by have := hr.len; rwa [List.length_map] at this
  have Hl := Lib.hid hl
  have hM := ((((Ms.nil w).box 3 #[.int .i64 (wd : Int)]).box 22 #[.slice none 0 0]).box 3 #[.int .i64 0]).box 32 #[.int .i64 0]
  simp only [World.size_alloc] at hM
  have htn := fun wx (hb : Below w.heap.size w wx) => TakeNum_any Ab nb cb l (p : Int) (mw : Int) wx (by omega) hnc ((hr.below hb).more hb.size)
  go_enter Tryd.func78, Tryd.ntmps78
  go_upto_region 1 with fail
  try simp only [Act.put]
  obtain ⟨g, hg⟩ : ∃ g, g = w.heap.size := ⟨_, rfl⟩
  rw [← hg] at hM ⊢
  refine wp_gen (fun wx => Ms w wx [(g + 1 + 1 + 1, 32, #[.int .i64 0]), (g + 1 + 1, 3, #[.int .i64 0]), (g + 1, 22, #[.slice none 0 0]), (g, 3, #[.int .i64 (wd : Int)])]) hM ?_
  have hwg : w.heap.size ≤ g := by omega
  clear hM hg
  rintro w0 hM0
  have hq := htn _ hM0.old
  clear htn
  have hset : ∀ (wx : World), Ms w wx [(g + 1 + 1 + 1, 32, #[.int .i64 0]), (g + 1 + 1, 3, #[.int .i64 0]), (g + 1, 22, #[.slice none 0 0]), (g, 3, #[.int .i64 (wd : Int)])] →
      ∃ wy, wy = ((wx.setCell ⟨g + 1, 0, none⟩ (.slice none 0 0)).setCell ⟨g + 1 + 1, 0, none⟩ (.int .i64 0)).setCell ⟨g + 1 + 1 + 1, 0, none⟩ (.int .i64 2) ∧ Below w.heap.size w wy ∧ wy.cell? ⟨g + 1, 0, none⟩ = some (.slice none 0 0) ∧ wy.cell? ⟨g + 1 + 1, 0, none⟩ = some (.int .i64 0) ∧ wy.cell? ⟨g + 1 + 1 + 1, 0, none⟩ = some (.int .i64 2) := fun wx hM => by
    have r1 := ((hM.get 2 rfl).set_ 0 (.slice none 0 0))
    have r2 := (((hM.get 1 rfl).far (p := ⟨g + 1, 0, none⟩) (show g + 1 + 1 ≠ g + 1 by omega) (.slice none 0 0)).set_ 0 (.int .i64 0))
    have r3 := ((((hM.get 0 rfl).far (p := ⟨g + 1, 0, none⟩) (show g + 1 + 1 + 1 ≠ g + 1 by omega) (.slice none 0 0)).far (p := ⟨g + 1 + 1, 0, none⟩) (show g + 1 + 1 + 1 ≠ g + 1 + 1 by omega) (.int .i64 0)).set_ 0 (.int .i64 2))
    have r1' := (r1.far (p := ⟨g + 1 + 1, 0, none⟩) (show g + 1 ≠ g + 1 + 1 by omega) (.int .i64 0)).far (p := ⟨g + 1 + 1 + 1, 0, none⟩) (show g + 1 ≠ g + 1 + 1 + 1 by omega) (.int .i64 2)
    have r2' := r2.far (p := ⟨g + 1 + 1 + 1, 0, none⟩) (show g + 1 + 1 ≠ g + 1 + 1 + 1 by omega) (.int .i64 2)
    exact ⟨_, rfl, ((hM.old.setCell (p := ⟨g + 1, 0, none⟩) (by show _ ≤ g + 1; omega) _).setCell (p := ⟨g + 1 + 1, 0, none⟩) (by show _ ≤ g + 1 + 1; omega) _).setCell (p := ⟨g + 1 + 1 + 1, 0, none⟩) (by show _ ≤ g + 1 + 1 + 1; omega) _, r1'.cell rfl, r2'.cell rfl, r3.cell rfl⟩
  obtain ⟨wy, hwy, hbel, k1, k2, k3⟩ := hset _ hM0
  have c1 := (hM0.get 2 rfl).cell (i := 0) rfl
  have f1 := (hM0.get 2 rfl).frozen 0
  have c2 := (hM0.get 1 rfl).cell (i := 0) rfl
  have f2 := (hM0.get 1 rfl).frozen 0
  have c3 := (hM0.get 0 rfl).cell (i := 0) rfl
  have f3 := (hM0.get 0 rfl).frozen 0
  have c0 := (hM0.get 3 rfl).cell (i := 0) rfl
  have Hwy := Lib.hid hwy
  clear hset hM0 hwy
  by_cases hsh : l.length < p + mw
  · have he : tnE l.length (p : Int) (mw : Int) = 2 := by
      rw [tnE, if_neg (by omega), if_pos (by omega)]
    have hv : tnV l (p : Int) (mw : Int) = 0 := by rw [tnV, he, if_neg (by decide)]
    have hn2 : tnN l.length (p : Int) (mw : Int) = 0 := by rw [tnN, he, if_neg (by decide)]
    clear hbad hsh hl
    go_wp2_with fail
    refine hq.mono ?_
    rintro e w1 ⟨he', hw⟩
    subst hw
    rw [he, hv, hn2] at he'
    subst he'
    clear hq
    go_wp2_with fail
    refine bodyPost_ret (results_c3 rfl _ _ (g + 1) (g + 1 + 1) (g + 1 + 1 + 1) (.slice none 0 0) (.int .i64 0) (.int .i64 2) rfl rfl rfl (loadVar_one Tryd.underlying22 rfl ?_) (loadVar_one Tryd.underlying3 rfl ?_) (loadVar_one Tryd.underlying32 rfl ?_)) rfl ⟨rfl, ?_⟩
    · rw [← Hwy.out]; exact k1
    · rw [← Hwy.out]; exact k2
    · rw [← Hwy.out]; exact k3
    · rw [← Hwy.out]; exact hbel
  · have he : tnE l.length (p : Int) (mw : Int) = 0 := by
      rw [tnE, if_neg (by omega), if_neg (by omega)]
    have hv : tnV l (p : Int) (mw : Int) = numV l p mw := by
      rw [tnV, if_pos he, numV, if_pos (by omega)]
      simp
    have hn2 : tnN l.length (p : Int) (mw : Int) = ((p + mw : Nat) : Int) := by rw [tnN, if_pos he]; simp
    have hlong : nb < p + mw + wd * numV l p mw := by
      rcases hbad with h | h
      · exact absurd h hsh
      · omega
    have hvl : numV l p mw < 65536 := by
      have h1 := numV_lt4 l p (wd := mw) (by omega)
      have h2 : 256 ^ mw ≤ 256 ^ 2 := Nat.pow_le_pow_right (by omega) hm2
      omega
    clear hbad hsh hl
    generalize numV l p mw = m at *
    obtain ⟨q, hq'⟩ : ∃ q, q = p + mw := ⟨_, rfl⟩
    rw [← hq'] at hn2 hlong
    have hqb : q ≤ 1000010 := by omega
    clear hq'
    go_wp2_with fail
    refine hq.mono ?_
    rintro e w1 ⟨he', hw⟩
    subst hw
    rw [he, hv, hn2] at he'
    subst he'
    clear hq
    obtain ⟨t, ht⟩ : ∃ t, t = wd * m := ⟨_, rfl⟩
    have htb : t ≤ 262144 := by
      rw [ht]
      calc wd * m ≤ 4 * m := Nat.mul_le_mul_right _ hw2
        _ ≤ 262144 := by omega
    rw [← ht] at hlong
    have z1 : IntKind.i64.wrap (m : Int) = (m : Int) := by rw [IntKind.wrap_i64]; omega
    have z2 : IntKind.i64.wrap ((m : Int) * (wd : Int)) = (t : Int) := by
      rw [show (m : Int) * (wd : Int) = ((wd * m : Nat) : Int) by rw [Int.natCast_mul, Int.mul_comm], ← ht, IntKind.wrap_i64]
      omega
    have z3 : IntKind.i64.wrap ((q : Int) + (t : Int)) = ((q + t : Nat) : Int) := by rw [IntKind.wrap_i64]; omega
    have z4 : (nb : Int) < ((q + t : Nat) : Int) := by omega
    clear ht
    generalize q + t = r at *
    go_wp2_with fail
    refine bodyPost_ret (results_c3 rfl _ _ (g + 1) (g + 1 + 1) (g + 1 + 1 + 1) (.slice none 0 0) (.int .i64 0) (.int .i64 2) rfl rfl rfl (loadVar_one Tryd.underlying22 rfl ?_) (loadVar_one Tryd.underlying3 rfl ?_) (loadVar_one Tryd.underlying32 rfl ?_)) rfl ⟨rfl, ?_⟩
    · rw [← Hwy.out]; exact k1
    · rw [← Hwy.out]; exact k2
    · rw [← Hwy.out]; exact k3
    · rw [← Hwy.out]; exact hbel

end Go.Proofs.YtlidhdljgnijaaaDoor

/-
  CONTRACT of the program's tag.takeList, where there is room: the range over the pieces.
-/
set_option linter.unusedVariables false
namespace Go.Proofs.YtlidhdljgnijaaaDoor
open Go.RowKit Go.Shelf

attribute [local go_sem] Oper.semAt_some

/-- what stands between two rounds -/
structure TkS (l : List UInt8) (wd q m g gL n0 : Nat) (w : World) (pre : List (Fin m)) (W : World) : Prop where
  out : ∃ A c, W.heap[gL]? = some (.cells #[.slice A pre.length c] 22 (0, 0)) ∧ W.ownsRow (g + 4) 3 1 (.slice A pre.length c) pre.length ((pre.map (fun x => valI l wd q x.1)).map iv) ∧ ∀ z, (Value.slice A pre.length c).ownBlock = some z → z < gL ∨ n0 ≤ z
  wdb : W.heap[g]? = some (.cells #[.int .i64 (wd : Int)] 3 (0, 0))
  r1 : W.heap[g + 1]? = some (.cells #[.slice none 0 0] 22 (0, 0))
  r2 : W.heap[g + 1 + 1]? = some (.cells #[.int .i64 0] 3 (0, 0))
  r3 : W.heap[g + 1 + 1 + 1]? = some (.cells #[.int .i64 0] 32 (0, 0))
  size : n0 ≤ W.heap.size
  bel : Below w.heap.size w W
theorem TkS.turn {l : List UInt8} {wd q m g gL n0 : Nat} {w : World} {pre : List (Fin m)} {W W' : World} {row : Option Nat} (h : TkS l wd q m g gL n0 w pre W) (hg : W.grownBy W' row) (hr : ∀ r, row = some r → n0 ≤ r ∧ ∃ o : Obj, W.heap[r]? = some o ∧ o.isCells = false) (h1 : g + 4 ≤ n0) (h2 : gL < n0) (h3 : w.heap.size ≤ g) : TkS l wd q m g gL n0 w pre W' := by
  have hs := h.size
  have hk : ∀ x, x < n0 → W'.heap[x]? = W.heap[x]? := fun x hx => hg.block x (by omega) (fun e => by have := (hr x e.symm).1; omega)
  obtain ⟨A, c, hb, ho, hz⟩ := h.out
  exact ⟨⟨A, c, (hk _ h2).trans hb, own_turnQ ho hg (fun r e => (hr r e).2), hz⟩, (hk _ (by omega)).trans h.wdb, (hk _ (by omega)).trans h.r1, (hk _ (by omega)).trans h.r2, (hk _ (by omega)).trans h.r3, Nat.le_trans hs hg.size,
    h.bel.grown hg (by omega) (fun r e => by have := (hr r e).1; omega)⟩

theorem KpQ.putObj {bS bN B : Nat} (h1 : bS < B) (h2 : bN < B) (W : World) (l : Nat) (o o' : Obj) (hl : B ≤ l) : KpQ bS bN W (W.putObj l o') := by
  unfold KpQ World.putObj
  constructor
  · exact Array.getElem?_setIfInBounds_ne (by omega)
  · exact Array.getElem?_setIfInBounds_ne (by omega)
theorem cutP {P : Program} {c : Code} {Q : Exit → Act → World → Prop} {a : Act} {w : World} (R : Act → Act → World → Prop) (h1 : c.wp P (fun e a' w' => e = .normal ∧ R a a' w') a w) (h2 : ∀ a' w', R a a' w' → Q .normal a' w') : c.wp P Q a w :=
  Go.wp_mono h1 (fun e a' w' h => by obtain ⟨rfl, hr⟩ := h; exact h2 a' w' hr)
set_option maxRecDepth 100000 in
set_option maxHeartbeats 4000000 in
theorem TakeList_ok (Ab : Option Addr) (nb cb : Nat) (l : List UInt8) (p mw wd : Nat) (w : World) (hr : Rd w w.heap.size Ab nb (l.map bv)) (hnc : nb ≤ cb) (hcm : cb ≤ maxLen) (hn : nb ≤ 1000000) (hp : p ≤ nb) (hm1 : 1 ≤ mw) (hm2 : mw ≤ 2) (hw1 : 1 ≤ wd) (hw2 : wd ≤ 4) (hok : ¬ tlBad l p mw wd) :
    Calls Tryd.prog 78 #[.slice Ab nb cb, .int .i64 (p : Int), .int .i64 (mw : Int), .int .i64 (wd : Int)] w fun e w' => ∃ A c, e = .returned (.tuple #[.slice A (numV l p mw) c, .int .i64 ((p + mw + wd * numV l p mw : Nat) : Int), .int .i64 0]) ∧ w'.ownsRow w.heap.size 3 1 (.slice A (numV l p mw) c) (numV l p mw) ((valsI l wd (p + mw) (numV l p mw)).map iv) ∧ Below w.heap.size w w' := by
  obtain ⟨i0, hi0, hz0, hz1, hz2⟩ := info_parts intInfo
  have hl : l.length = nb := by have := hr.len; rwa [List.length_map] at this
  have Hl := Lib.hid hl
  have hok1 : p + mw ≤ nb := by rw [tlBad] at hok; omega
  have hok2 : p + mw + wd * numV l p mw ≤ nb := by rw [tlBad] at hok; omega
  have hM := ((((Ms.nil w).box 3 #[.int .i64 (wd : Int)]).box 22 #[.slice none 0 0]).box 3 #[.int .i64 0]).box 32 #[.int .i64 0]
  simp only [World.size_alloc] at hM
  have hq0 := fun wx (hb : Below w.heap.size w wx) => TakeNum_any Ab nb cb l (p : Int) (mw : Int) wx (by omega) hnc ((hr.below hb).more hb.size)
  have he : tnE l.length (p : Int) (mw : Int) = 0 := by rw [tnE, if_neg (by omega), if_neg (by omega)]
  have hv : tnV l (p : Int) (mw : Int) = numV l p mw := by
    rw [tnV, if_pos he, numV, if_pos (by omega)]
    simp
  have hn2 : tnN l.length (p : Int) (mw : Int) = ((p + mw : Nat) : Int) := by rw [tnN, if_pos he]; simp
  have hvl : numV l p mw < 65536 := by
    have h1 := numV_lt4 l p (wd := mw) (by omega)
    have h2 : 256 ^ mw ≤ 256 ^ 2 := Nat.pow_le_pow_right (by omega) hm2
    omega
  have hq := fun wx (hb : Below w.heap.size w wx) => (show Calls Tryd.prog 48 #[.slice Ab nb cb, .int .i64 (p : Int), .int .i64 (mw : Int)] wx fun e w' => e = .returned (.tuple #[.int .u64 (numV l p mw : Int), .int .i64 ((p + mw : Nat) : Int), .int .i64 0]) ∧ wx = w' from (hq0 wx hb).mono fun e w' h => by
    obtain ⟨h1, h2⟩ := h
    rw [hv, hn2, he] at h1
    exact ⟨h1, h2⟩)
  obtain ⟨ba, o, rfl, hba, hcell⟩ := hr.pos (by omega)
  have hrp : ∀ (W : World), Below w.heap.size w W → ∀ i, p + mw + wd * i + wd ≤ nb → Rd W W.heap.size (some ⟨ba, o + (p + mw) + wd * i, none⟩) wd (((l.drop (p + mw + wd * i)).take wd).map bv) := fun W hb i hi => ⟨by rw [List.length_map, List.length_take, List.length_drop]; omega, fun _ => ⟨ba, _, rfl, Nat.lt_of_lt_of_le hba hb.size, fun z u hu => by
    rw [List.getElem?_map, List.getElem?_take] at hu
    split at hu
    · rw [List.getElem?_drop, ← List.getElem?_map] at hu
      rw [World.cell?_of_block (hb.block ba hba), show o + (p + mw) + wd * i + z = o + (p + mw + wd * i + z) by omega]
      exact hcell _ _ hu
    · cases hu⟩⟩
  clear hq0 he hv hn2 hok hr hcell
  generalize hmv : numV l p mw = m at *
  obtain ⟨q, hqe⟩ : ∃ q, q = p + mw := ⟨_, rfl⟩
  rw [← hqe] at hok1 hok2 hq hrp ⊢
  obtain ⟨t, ht⟩ : ∃ t, t = wd * m := ⟨_, rfl⟩
  rw [← ht] at hok2 ⊢
  have Ht := Lib.hid ht
  have hq1 : 1 ≤ q := by omega
  have htb : t ≤ 262144 := by
    rw [ht]
    calc wd * m ≤ 4 * m := Nat.mul_le_mul_right _ hw2
      _ ≤ 262144 := by omega
  have z1 : IntKind.i64.wrap (m : Int) = (m : Int) := by rw [IntKind.wrap_i64]; omega
  have z2 : IntKind.i64.wrap ((m : Int) * (wd : Int)) = (t : Int) := by
    rw [show (m : Int) * (wd : Int) = ((wd * m : Nat) : Int) by rw [Int.natCast_mul, Int.mul_comm], ← ht, IntKind.wrap_i64]
    omega
  obtain ⟨r, hre⟩ : ∃ r, r = q + t := ⟨_, rfl⟩
  rw [← hre] at hok2 ⊢
  have z3 : IntKind.i64.wrap ((q : Int) + (t : Int)) = (r : Int) := by rw [IntKind.wrap_i64]; omega
  have z4 : ¬ (nb : Int) < (r : Int) := by omega
  have Hr := Lib.hid hre
  have hrq : r - q = t := by omega
  have hqr : q ≤ r := by omega
  clear hmv hqe ht hre hl
  refine (callsIn_wide (n := 5)).1 ?_
  refine callsIn_of_wp_marks Tryd.func78 rfl trivial ?_ rfl
  simp only [Tryd.ntmps78, List.size_toArray, List.length_cons, List.length_nil, Nat.reduceAdd, Nat.reduceSub, Array.replicate_succ, Array.replicate_zero, List.push_toArray, List.append_toArray, List.nil_append, List.cons_append]
  refine wpIn_wide.2 ?_
  go_upto_region 1 with fail
  try simp only [Act.put]
  obtain ⟨g, hg⟩ : ∃ g, g = w.heap.size := ⟨_, rfl⟩
  rw [← hg] at hM ⊢
  refine wp_gen (fun wx => Ms w wx [(g + 1 + 1 + 1, 32, #[.int .i64 0]), (g + 1 + 1, 3, #[.int .i64 0]), (g + 1, 22, #[.slice none 0 0]), (g, 3, #[.int .i64 (wd : Int)])]) hM ?_
  have hwg : w.heap.size ≤ g := by omega
  have Hg := Lib.hid hg
  clear hM hg
  rintro w0 hM0
  go_wp2_with fail
  refine (hq _ hM0.old).mono ?_
  rintro e w1 ⟨he', hw⟩
  subst hw
  subst he'
  clear hq
  have hw0 := (hM0.get 0 rfl).lt
  have c0 := (hM0.get 3 rfl).cell (i := 0) rfl
  go_upto_region 8 with (at_make; refine wpList_make_own _ rfl _ _ 22 rfl (g + 4) 3 i0 _ 1 Tryd.underlying22 hi0 hz0 hz1 _ _ _ m rfl rfl (by simp) (by rw [hz2]; omega) (by simp only [maxLen]; omega) (by omega) ?_; intro w2 hown2 hgr2)
  try simp only [Act.put]
  have hb2 : Below w0.heap.size w0 w2 := (Below.refl _ _).grown hgr2 (Nat.le_refl _) (by simp)
  have hM2 := hM0.call hb2
  obtain ⟨gL, hgL⟩ : ∃ gL, gL = w2.heap.size := ⟨_, rfl⟩
  have hM3 := hM2.call (d_al w2 (.cells #[.slice (some ⟨w0.heap.size, 0, none⟩) 0 m] 22))
  have hown3 := own_below hown2 (d_al w2 (.cells #[.slice (some ⟨w0.heap.size, 0, none⟩) 0 m] 22))
  have hrL : RowC (w2.alloc (.cells #[.slice (some ⟨w0.heap.size, 0, none⟩) 0 m] 22)) gL 22 #[.slice (some ⟨w0.heap.size, 0, none⟩) 0 m] := RowC.mk_ _ _ _ hgL.symm
  have hz3 : (w2.alloc (.cells #[.slice (some ⟨w0.heap.size, 0, none⟩) 0 m] 22)).heap.size = gL + 1 := by rw [World.size_alloc, hgL]
  have hgm : g + 4 ≤ w0.heap.size := by omega
  have hgl : w0.heap.size < gL := by
    have := (hown2.lt w0.heap.size rfl).2
    omega
  rw [← hgL]
  generalize w0.heap.size = gM at *
  refine wp_gen (fun wx => (wx.heap.size = gL + 1 ∧ wx.ownsRow (g + 4) 3 1 (.slice (some ⟨gM, 0, none⟩) 0 m) 0 [] ∧ RowC wx gL 22 #[.slice (some ⟨gM, 0, none⟩) 0 m]) ∧ Ms w wx [(g + 1 + 1 + 1, 32, #[.int .i64 0]), (g + 1 + 1, 3, #[.int .i64 0]), (g + 1, 22, #[.slice none 0 0]), (g, 3, #[.int .i64 (wd : Int)])]) ⟨⟨hz3, hown3, hrL⟩, hM3⟩ ?_
  clear hM3 hown3 hrL hz3 hM2 hb2 hgr2 hown2 hgL hM0 hw0 c0
  clear w2
  rintro w3 ⟨⟨hz3, hown3, hrL⟩, hM3⟩
  have hcase : ∃ A3 : Option Addr, (cb = q ∧ r = q ∧ t = 0 ∧ A3 = some ⟨ba, o, none⟩) ∨ (¬ cb = q ∧ A3 = some ⟨ba, o + q, none⟩) := by
    by_cases h : cb = q
    · exact ⟨_, .inl ⟨h, by omega, by omega, rfl⟩⟩
    · exact ⟨_, .inr ⟨h, rfl⟩⟩
  obtain ⟨A3, hcase⟩ := hcase
  have hA3 : 0 < wd * m → A3 = some ⟨ba, o + q, none⟩ := fun h0 => by
    rcases hcase with ⟨h1, h3, h4, h2⟩ | ⟨h1, h2⟩
    · have := Ht.out; omega
    · exact h2
  have HA3 := Lib.hid hA3
  clear hA3
  have i1 : (0 : Int) ≤ (q : Int) := by omega
  have i2 : (q : Int) ≤ (r : Int) := by omega
  have i3 : (r : Int) ≤ (cb : Int) := by omega
  have hkeep : ∀ wx : World, Below w3.heap.size w3 wx → wx.cell? ⟨g, 0, none⟩ = some (.int .i64 (wd : Int)) := fun wx hb => ((hM3.get 3 rfl).call hb).cell rfl
  rename_i K0 hK0
  refine cutP (fun a0 a' w' => a' = (((((a0.put (some 42) (.slice (some ⟨ba, o, none⟩) nb cb)).put (some 43) (.int .i64 (q : Int))).put (some 44) (.int .i64 (r : Int))).put (some 45) (.slice A3 t (cb - q))).put (some 46) (.int .i64 (wd : Int))).put (some 47) (.func (.func 80) #[] #[.pointer (some ⟨gL + 1, 0, none⟩), .pointer (some ⟨gL + 2, 0, none⟩)]) ∧
    (w'.heap.size = gL + 3 ∧ w'.ownsRow (g + 4) 3 1 (.slice (some ⟨gM, 0, none⟩) 0 m) 0 [] ∧ RowC w' gL 22 #[.slice (some ⟨gM, 0, none⟩) 0 m]) ∧ Ms w w' [(gL + 2, 3, #[.int .i64 (wd : Int)]), (gL + 1, 41, #[.slice A3 t (cb - q)]), (g + 1 + 1 + 1, 32, #[.int .i64 0]), (g + 1 + 1, 3, #[.int .i64 0]), (g + 1, 22, #[.slice none 0 0]), (g, 3, #[.int .i64 (wd : Int)])]) ?region ?behind
  case region =>
    refine beginT (fun wx : World => wx.cell? ⟨g, 0, none⟩ = some (.int .i64 (wd : Int))) 6 (by kernel_rfl) ?_
    have hdr : Below w3.heap.size w3 w3.drew := c_drew (c_refl _)
    have hS := hkeep _ hdr
    refine takeD 0 (some 42) (.slice (some ⟨ba, o, none⟩) nb cb) rfl rfl (by kernel_rfl) (by kernel_rfl) (by kernel_rfl) (by kernel_rfl) (fun _ _ _ h => by cases h.1) (Or.inl ⟨by kernel_rfl, fun wx hSw => by go_simp⟩) hS ?_
    try simp only [Act.put, List.setIfInBounds_toArray, List.set_cons_zero, List.set_cons_succ]
    refine takeD 1 (some 43) (.int .i64 (q : Int)) rfl rfl (by kernel_rfl) (by kernel_rfl) (by kernel_rfl) (by kernel_rfl) (fun _ _ _ h => by cases h.1) (Or.inl ⟨by kernel_rfl, fun wx hSw => by go_simp⟩) hS ?_
    try simp only [Act.put, List.setIfInBounds_toArray, List.set_cons_zero, List.set_cons_succ]
    refine takeD 2 (some 44) (.int .i64 (r : Int)) rfl rfl (by kernel_rfl) (by kernel_rfl) (by kernel_rfl) (by kernel_rfl) (fun _ _ _ h => by cases h.1) (Or.inl ⟨by kernel_rfl, fun wx hSw => by go_simp⟩) hS ?_
    try simp only [Act.put, List.setIfInBounds_toArray, List.set_cons_zero, List.set_cons_succ]
    refine takeD 3 (some 45) (.slice A3 t (cb - q)) rfl rfl (by kernel_rfl) (by kernel_rfl) (by kernel_rfl) (by kernel_rfl) (fun _ _ _ h => by cases h.1) (Or.inl ⟨by kernel_rfl, fun wx hSw => by
        rcases hcase with ⟨h1, h3, h4, h2⟩ | ⟨h1, h2⟩
        · subst h2
          subst h3
          subst h4
          have h5 : cb - r = 0 := by omega
          go_simp
        · subst h2
          go_simp⟩) hS ?_
    try simp only [Act.put, List.setIfInBounds_toArray, List.set_cons_zero, List.set_cons_succ]
    refine takeD 4 (some 46) (.int .i64 (wd : Int)) rfl rfl (by kernel_rfl) (by kernel_rfl) (by kernel_rfl) (by kernel_rfl) (fun _ _ _ h => by cases h.1) (Or.inl ⟨by kernel_rfl, fun wx hSw => by have h := hSw; go_simp⟩) hS ?_
    try simp only [Act.put, List.setIfInBounds_toArray, List.set_cons_zero, List.set_cons_succ]
    have hM4 := hM3.call hdr
    have hown4 := own_below hown3 hdr
    have hrL4 := hrL.call hdr
    have hz4 : w3.drew.heap.size = gL + 1 := hz3
    clear hS hkeep hdr hM3 hown3 hrL hz3
    generalize w3.drew = w4 at *
    have hck := ChunkQ_any A3 t (cb - q) wd w4 hw1
    have hM5 := (hM4.box 41 #[.slice A3 t (cb - q)]).box 3 #[.int .i64 (wd : Int)]
    have hal5 := (d_al w4 (.cells #[.slice A3 t (cb - q)] 41)).trans ((d_al (w4.alloc (.cells #[.slice A3 t (cb - q)] 41)) (.cells #[.int .i64 (wd : Int)] 3)).mono (by simp))
    have hown5 := own_below hown4 hal5
    have hrL5 := hrL4.call hal5
    have hz5 : ((w4.alloc (.cells #[.slice A3 t (cb - q)] 41)).alloc (.cells #[.int .i64 (wd : Int)] 3)).heap.size = gL + 3 := by simp only [World.size_alloc]; omega
    simp only [World.size_alloc, hz4] at hM5
    rw [hz4] at hck
    refine oneT 5 (by kernel_rfl) rfl (fun K2 hK2 => ?_)
    go_simp
    refine hck.mono ?_
    rintro e w5 ⟨he5, hw5⟩
    subst he5
    rw [← hw5] at hM5 hown5 hrL5 hz5
    refine hK2.out _ _ (fun _ => (hM5.get 5 rfl).cell rfl) ?_
    clear hK2 K2 hck hM4 hown4 hrL4 hz4 hal5 hw5
    clear w4
    try simp only [Act.put, List.setIfInBounds_toArray, List.set_cons_zero, List.set_cons_succ]
    refine doneT (by kernel_rfl) ?_ _
    exact ⟨rfl, rfl, ⟨hz5, hown5, hrL5⟩, hM5⟩
  case behind =>
    rintro a' w5 ⟨rfl, ⟨hz5, hown5, hrL5⟩, hM5⟩
    try simp only [Act.put, List.setIfInBounds_toArray, List.set_cons_zero, List.set_cons_succ]
    refine hK0 _ _ ?_
    clear hK0 hM3 hown3 hrL hz3
    have hSt : TkS l wd q m g gL (gL + 3) w [] w5 :=
      ⟨⟨_, _, hrL5, hown5, fun z hz => by
        have hgz : gM = z := by simpa [Value.ownBlock] using hz
        exact .inl (by omega)⟩, hM5.get 5 rfl, hM5.get 4 rfl, hM5.get 3 rfl, hM5.get 2 rfl, Nat.le_of_eq hz5.symm, hM5.old⟩
    have Hz5 := Lib.hid hz5
    have hbS := (hM5.get 1 rfl).cell (i := 0) rfl
    have hbN := (hM5.get 0 rfl).cell (i := 0) rfl
    clear hrL5 hown5 hM5
    go_wp2_with fail
    refine rangeQ 5 (by decide) (d := 15) (gf := 80) (lb := #[.pointer (some ⟨gL + 1, 0, none⟩), .pointer (some ⟨gL + 2, 0, none⟩)]) rfl (enters_of Tryd.func80 (by kernel_rfl) rfl)
      (v := fun x : Fin m => chunkQ ba (o + q) wd x.1) (Kp := KpQ (gL + 1) (gL + 2)) (S := fun ys => ys = List.finRange m) (Sp := fun _ => True) (N := m) ?seq (fun h k => h.trans k) (fun W l o o' hl _ _ _ => KpQ.putObj (B := w5.heap.size) (by have := Hz5.out; omega) (by have := Hz5.out; omega) W l o o' hl)
      (TkS l wd q m g gL (gL + 3) w) (fun s W W' row hs hg hr => hs.turn hg (fun r e => ⟨by have := (hr r e).1; have := Hz5.out; omega, (hr r e).2⟩) (by omega) (by omega) hwg) hSt ?assign ?body ?done
    case seq =>
      have hz6 := Hz5.out
      exact chunkQ_stops 4 (by decide) (gL + 1) (gL + 2) ba (o + q) wd m (cb - q) hw1 (by omega) (by rw [← Ht.out]; omega) (by rw [← Ht.out]; omega) A3 HA3.out w5 (by omega) (by omega) (by rw [← Ht.out]; exact hbS) hbN
    case assign =>
      intro l x W K hK
      gi_wp2
      exact hK
    case body =>
      rintro lr pre x W hst hlen
      refine wpIn_block ?_
      refine wpIn_seq ?_
      obtain ⟨A, c, hbox, hown, hoz⟩ := hst.out
      have hx := x.2
      have hsz := hst.size
      have hwdb := oneQ hst.wdb
      have hbel := hst.bel
      have hqx : q + wd * x.1 + wd ≤ nb := by
        have h1 : wd * (x.1 + 1) ≤ wd * m := Nat.mul_le_mul_left _ hx
        rw [Nat.mul_succ] at h1
        have := Ht.out
        omega
      have hrx := hrp W hbel x.1 hqx
      have Hvx := Lib.hid (show valI l wd q x.1 = ((val ((l.drop (q + wd * x.1)).take wd) : Nat) : Int) from rfl)
      have hpl : ((l.drop (q + wd * x.1)).take wd).length = wd := by
        rw [List.length_take, List.length_drop, Hl.out]
        omega
      have hv4 : val ((l.drop (q + wd * x.1)).take wd) < 4294967296 := by
        have h1 := val_lt ((l.drop (q + wd * x.1)).take wd)
        rw [hpl] at h1
        have h2 : 256 ^ wd ≤ 256 ^ 4 := Nat.pow_le_pow_right (by omega) hw2
        omega
      simp only [chunkQ]
      generalize (l.drop (q + wd * x.1)).take wd = pc at *
      generalize o + q + wd * x.1 = ox at *
      have htk := TakeNum_any (some ⟨ba, ox, none⟩) wd wd pc 0 (wd : Int) W (by omega) (Nat.le_refl _) hrx
      have he0 : tnE pc.length (0 : Int) (wd : Int) = 0 := by rw [tnE, hpl, if_neg (by omega), if_neg (by omega)]
      have hv0 : tnV pc (0 : Int) (wd : Int) = val pc := by
        rw [tnV, if_pos he0]
        simp only [Int.toNat_zero, List.drop_zero, Int.toNat_natCast]
        rw [List.take_of_length_le (by omega)]
      have hn0 : tnN pc.length (0 : Int) (wd : Int) = (wd : Int) := by rw [tnN, if_pos he0]; omega
      generalize val pc = vp at *
      try simp only [List.setIfInBounds_toArray, List.set_cons_zero, List.set_cons_succ]
      refine cutQ (fun a0 a' w' => a' = (((((((((a0.put (some 50) (.slice (some ⟨ba, ox, none⟩) wd wd)).put (some 51) (.int .i64 (wd : Int))).put (some 52) (.tuple #[.int .u64 (vp : Int), .int .i64 (wd : Int), .int .i64 0])).put (some 49) (.tuple #[.int .u64 (vp : Int), .int .i64 (wd : Int), .int .i64 0])).put (some 53) (.int .u64 (vp : Int))).put (some 54) (.int .i64 (wd : Int))).put (some 55) (.int .i64 0)).put (some 16) (.int .u64 (vp : Int))).put (some 17) (.int .i64 (wd : Int))).put (some 18) (.int .i64 0) ∧ w' = W) ?region ?behind
      case region =>
        refine regionR (by kernel_rfl) (fun _ _ h => by cases h.1) ?_
        go_wp2_with fail
        refine htk.mono ?_
        rintro e W2 ⟨he2, hW2⟩
        rw [he0, hv0, hn0] at he2
        subst he2
        subst hW2
        go_wp2_with fail
      case behind =>
        rintro a' w6 ⟨rfl, rfl⟩
        try simp only [Act.put, List.setIfInBounds_toArray, List.set_cons_zero, List.set_cons_succ]
        have Hwx := Lib.hid (show w6.heap.size + 1 = (w6.alloc (.cells #[.int .i64 (vp : Int)] 3)).heap.size by simp)
        clear htk hrx hcase he0 hn0 hv0
        have z5 : IntKind.i64.wrap (vp : Int) = (vp : Int) := by rw [IntKind.wrap_i64]; omega
        have cL := oneQ hbox
        have hal := d_al w6 (.cells #[.int .i64 (vp : Int)] 3)
        have hown7 := own_below hown hal
        have hbox7 := RowC.alloc (show RowC w6 gL 22 #[.slice A pre.length c] from hbox) (.cells #[.int .i64 (vp : Int)] 3)
        have hlenF : pre.length < m := hlen
        have c7 := hbox7.cell (i := 0) rfl
        refine wpIn_seq (wpIn_seq ?_)
        refine regionR (by kernel_rfl) (fun _ _ h => h) ?_
        go_wp2_with fail
        refine wpIn_cond (t := false) rfl ?_
        refine wpIn_skip ?_
        refine cutQ (fun a0 a' w' => ∃ A8 c8 w8, w' = w8.setCell ⟨gL, 0, none⟩ (.slice A8 (pre.length + 1) c8) ∧ w8.ownsRow (g + 4) 3 1 (.slice A8 (pre.length + 1) c8) (pre.length + 1) ((pre.map (fun x => valI l wd q x.1)).map iv ++ [.int .i64 (vp : Int)]) ∧ (w6.alloc (.cells #[.int .i64 (vp : Int)] 3)).grownBy w8 (Value.slice A pre.length c).ownBlock ∧ ((Value.slice A8 (pre.length + 1) c8).ownBlock = (Value.slice A pre.length c).ownBlock ∨ (Value.slice A8 (pre.length + 1) c8).ownBlock = some (w6.heap.size + 1))) ?region2 ?behind2
        case region2 =>
          refine regionR (by kernel_rfl) (fun _ _ h => by cases h.1) ?_
          go_wp2_with (at_builtin; refine wpList_append_rd _ rfl (.tmp 59) (.tmp 62) _ rfl (g + 4) 3 i0 _ 8 Tryd.underlying22 hi0 hz0 hz1 hz2 rfl (.slice A pre.length c) pre.length _ rfl hown7 (w6.heap.size + 1) (some ⟨w6.heap.size, 0, none⟩) 1 1 [.int .i64 (vp : Int)] rfl (Rd.mk_ _ _ _ rfl (by omega) rfl rfl) (one_iv [(vp : Int)]) (by simp only [maxLen]; omega) (by omega) (by rw [← Hwx.out]; omega) ?_; intro v8 w8 hown8 hgr8 hat8; obtain ⟨A8, c8, rfl, _, _⟩ := own_form hown8; have hbox8 : RowC w8 gL 22 #[.slice A pre.length c] := hbox7.of (hgr8.block gL hbox7.lt (fun e => by have := hoz gL e.symm; omega)); have c8' := hbox8.cell (i := 0) rfl; have f8' := hbox8.frozen 0)
          rw [← Hwx.out] at hat8
          exact ⟨A8, c8, w8, rfl, by simpa using hown8, hgr8, hat8⟩
        case behind2 =>
          rintro a' w9 ⟨A8, c8, w8, rfl, hown8, hgr8, hat8⟩
          have hbox8 : RowC w8 gL 22 #[.slice A pre.length c] := hbox7.of (hgr8.block gL hbox7.lt (fun e => by have := hoz gL e.symm; omega))
          have hk : ∀ y, y < w6.heap.size → y ≠ gL → (Value.slice A pre.length c).ownBlock ≠ some y → (w8.setCell ⟨gL, 0, none⟩ (.slice A8 (pre.length + 1) c8)).heap[y]? = w6.heap[y]? := fun y hy h1 h2 =>
            (Below.heap_setCell w8 ⟨gL, 0, none⟩ _ y h1).trans ((hgr8.block y (by simp; omega) (fun e => h2 e.symm)).trans (heap_alloc_old w6 _ hy))
          have hob : ∀ z, (Value.slice A pre.length c).ownBlock = some z → g + 4 ≤ z ∧ z < w6.heap.size := fun z hz => hown.lt z hz
          have hs8 : w6.heap.size + 1 ≤ w8.heap.size := by rw [Hwx.out]; exact hgr8.size
          have hz8 : ∀ z, (Value.slice A8 (pre.length + 1) c8).ownBlock = some z → z < gL ∨ gL + 3 ≤ z := fun z hz => by
            rcases hat8 with h | h
            · exact hoz z (by rw [← h]; exact hz)
            · rw [h] at hz
              injection hz with hz
              omega
          have hlow : ∀ y, y < gL + 3 → y ≠ gL → (y < g + 4 ∨ gL < y) → (w8.setCell ⟨gL, 0, none⟩ (.slice A8 (pre.length + 1) c8)).heap[y]? = w6.heap[y]? := fun y h1 h2 h3 => hk y (by omega) h2 (fun e => by
            have h4 := hob y e
            have h5 := hoz y e
            omega)
          have hown9 := own_cellT (p := ⟨gL, 0, none⟩) hown8 (fun z hz => by
            show z ≠ gL
            have := hz8 z hz
            omega) (.slice A8 (pre.length + 1) c8)
          refine ⟨⟨by rw [World.size_setCell]; omega, fun y ob hy ho => ?_⟩, ⟨hlow _ (by omega) (by omega) (by omega), hlow _ (by omega) (by omega) (by omega)⟩, ?_⟩
          · have hyl := (Array.getElem?_eq_some_iff.1 hy).1
            rw [hk y hyl (fun e => by subst e; rw [hbox] at hy; cases hy; cases ho) (fun e => by
              rcases hown.2 with ⟨h0, _⟩ | ⟨gg, cap, cur, hv, _, hgg, _⟩
              · rw [h0] at e; cases e
              · rw [hv] at e
                obtain rfl : gg = y := by simpa [Value.ownBlock] using e
                rw [hgg] at hy
                cases hy
                cases ho)]
            exact hy
          · refine ⟨⟨A8, c8, by rw [List.length_append, List.length_singleton]; exact hbox8.set_ 0 _, ?_, fun z hz => hz8 z (by rw [List.length_append, List.length_singleton] at hz; exact hz)⟩, (hlow _ (by omega) (by omega) (by omega)).trans hst.wdb, (hlow _ (by omega) (by omega) (by omega)).trans hst.r1, (hlow _ (by omega) (by omega) (by omega)).trans hst.r2, (hlow _ (by omega) (by omega) (by omega)).trans hst.r3, by rw [World.size_setCell]; omega, ?_⟩
            · rw [List.length_append, List.length_singleton, List.map_append, List.map_append, List.map_cons, List.map_nil, Hvx.out]
              exact hown9
            · exact ((hbel.alloc hbel.size _).grown hgr8 (Nat.le_trans hbel.size hal.size) (fun z hz => by have := hob z hz; omega)).setCell (p := ⟨gL, 0, none⟩) (by show _ ≤ gL; omega) _
    case done =>
      rintro D ys W hD rfl hst hK
      obtain ⟨A, c, hbox, hown, hoz⟩ := hst.out
      rw [List.length_finRange] at hbox hown hoz
      have hDg : gL + 3 ≤ D := by have := Hz5.out; omega
      have cL := oneQ hbox
      have k1 := oneQ hst.r1
      have k2 := oneQ hst.r2
      have k3 := oneQ hst.r3
      have f1 := freeQ hst.r1
      have f2 := freeQ hst.r2
      have f3 := freeQ hst.r3
      go_wp2_with fail
      have hvals : (List.finRange m).map (fun x => valI l wd q x.1) = valsI l wd q m := by
        rw [valsI, ← finRange_valQ, List.map_map]
        rfl
      rw [hvals] at hown
      have q1 := (show RowC W (g + 1) 22 #[.slice none 0 0] from hst.r1).set_ 0 (.slice A m c)
      have q2 := (((show RowC W (g + 1 + 1) 3 #[.int .i64 0] from hst.r2).far (p := ⟨g + 1, 0, none⟩) (show g + 1 + 1 ≠ g + 1 by omega) (.slice A m c)).set_ 0 (.int .i64 (r : Int)))
      have q3 := ((((show RowC W (g + 1 + 1 + 1) 32 #[.int .i64 0] from hst.r3).far (p := ⟨g + 1, 0, none⟩) (show g + 1 + 1 + 1 ≠ g + 1 by omega) (.slice A m c)).far (p := ⟨g + 1 + 1, 0, none⟩) (show g + 1 + 1 + 1 ≠ g + 1 + 1 by omega) (.int .i64 (r : Int))).set_ 0 (.int .i64 0))
      have q1' := (q1.far (p := ⟨g + 1 + 1, 0, none⟩) (show g + 1 ≠ g + 1 + 1 by omega) (.int .i64 (r : Int))).far (p := ⟨g + 1 + 1 + 1, 0, none⟩) (show g + 1 ≠ g + 1 + 1 + 1 by omega) (.int .i64 0)
      have q2' := q2.far (p := ⟨g + 1 + 1 + 1, 0, none⟩) (show g + 1 + 1 ≠ g + 1 + 1 + 1 by omega) (.int .i64 0)
      have hK3 : (((W.setCell ⟨g + 1, 0, none⟩ (.slice A m c)).setCell ⟨g + 1 + 1, 0, none⟩ (.int .i64 (r : Int))).setCell ⟨g + 1 + 1 + 1, 0, none⟩ (.int .i64 0)).heap[D]? = some (.deferred (some [])) :=
        (Below.heap_setCell _ ⟨g + 1 + 1 + 1, 0, none⟩ _ D (show D ≠ g + 1 + 1 + 1 by omega)).trans ((Below.heap_setCell _ ⟨g + 1 + 1, 0, none⟩ _ D (show D ≠ g + 1 + 1 by omega)).trans ((Below.heap_setCell W ⟨g + 1, 0, none⟩ _ D (show D ≠ g + 1 by omega)).trans hK))
      have hob : ∀ z, (Value.slice A m c).ownBlock = some z → g + 4 ≤ z := fun z hz => (hown.lt z hz).1
      have hown3 := own_cellT (p := ⟨g + 1 + 1 + 1, 0, none⟩) (own_cellT (p := ⟨g + 1 + 1, 0, none⟩) (own_cellT (p := ⟨g + 1, 0, none⟩) hown (fun z hz => by have := hob z hz; show z ≠ g + 1; omega) (.slice A m c)) (fun z hz => by have := hob z hz; show z ≠ g + 1 + 1; omega) (.int .i64 (r : Int))) (fun z hz => by have := hob z hz; show z ≠ g + 1 + 1 + 1; omega) (.int .i64 0)
      have hbel3 := ((hst.bel.setCell (p := ⟨g + 1, 0, none⟩) (by show _ ≤ g + 1; omega) (.slice A m c)).setCell (p := ⟨g + 1 + 1, 0, none⟩) (by show _ ≤ g + 1 + 1; omega) (.int .i64 (r : Int))).setCell (p := ⟨g + 1 + 1 + 1, 0, none⟩) (by show _ ≤ g + 1 + 1 + 1; omega) (.int .i64 0)
      generalize (((W.setCell ⟨g + 1, 0, none⟩ (.slice A m c)).setCell ⟨g + 1 + 1, 0, none⟩ (.int .i64 (r : Int))).setCell ⟨g + 1 + 1 + 1, 0, none⟩ (.int .i64 0)) = W3 at *
      have hput : ∀ y ob, y < gL → (W3.putObj D ob).heap[y]? = W3.heap[y]? := fun y ob hy => by
        unfold World.putObj
        exact Array.getElem?_setIfInBounds_ne (by omega)
      refine ⟨by simp, .inl ⟨_, _, rfl, run_takeDeferred hK3, ?_⟩⟩
      refine ⟨_, results_c3 rfl _ _ (g + 1) (g + 1 + 1) (g + 1 + 1 + 1) (.slice A m c) (.int .i64 (r : Int)) (.int .i64 0) rfl rfl rfl (loadVar_one Tryd.underlying22 rfl ?_) (loadVar_one Tryd.underlying3 rfl ?_) (loadVar_one Tryd.underlying32 rfl ?_), A, c, rfl, own_lower (ownsRow_putObj hown3 _ hK3 rfl) (by omega), hbel3.trans (belowK_b (w := w) (Nat.le_refl _) W3 D _ _ (by omega) hK3 rfl rfl)⟩
      · exact (World.cell?_of_block (hput (g + 1) _ (by omega))).trans (q1'.cell rfl)
      · exact (World.cell?_of_block (hput (g + 1 + 1) _ (by omega))).trans (q2'.cell rfl)
      · exact (World.cell?_of_block (hput (g + 1 + 1 + 1) _ (by omega))).trans (q3.cell rfl)

end Go.Proofs.YtlidhdljgnijaaaDoor

/-
  CONTRACT of the program's tag.takeShape.
-/
set_option linter.unusedVariables false
namespace Go.Proofs.YtlidhdljgnijaaaDoor
open Go.RowKit

theorem PTakeList (Ab : Option Addr) (nb cb : Nat) (l : List UInt8) (p mw wd : Nat) (w : World) (hr : Rd w w.heap.size Ab nb (l.map bv)) (hnc : nb ≤ cb) (hcm : cb ≤ maxLen) (hn : nb ≤ 1000000) (hp : p ≤ nb) (hm1 : 1 ≤ mw) (hm2 : mw ≤ 2) (hw1 : 1 ≤ wd) (hw2 : wd ≤ 4) :
    Calls Tryd.prog 78 #[.slice Ab nb cb, .int .i64 (p : Int), .int .i64 (mw : Int), .int .i64 (wd : Int)] w (TakeListPost w l p mw wd) := by
  by_cases hb : tlBad l p mw wd
  · exact (TakeList_bad Ab nb cb l p mw wd w hr hnc hn hp hm1 hm2 hw1 hw2 hb).mono fun e w' h => ⟨h.2, .inl ⟨hb, h.1⟩⟩
  · exact (TakeList_ok Ab nb cb l p mw wd w hr hnc hcm hn hp hm1 hm2 hw1 hw2 hb).mono fun e w' ⟨A, c, h1, h2, h3⟩ => ⟨h3, .inr ⟨hb, A, c, h1, h2⟩⟩
theorem tl_bad {l : List UInt8} {p mw wd : Nat} (hp : p ≤ l.length) (h : tlBad l p mw wd) : (numsL l wd (numV l p mw) (numP l p mw false) (numS l p mw false)).2.2 = true := by
  by_cases h1 : l.length < p + mw
  · have e2 : numS l p mw false = true := by rw [numS, Bool.false_or]; exact decide_eq_true h1
    rw [e2, numsL_true]
  · have e1 : numP l p mw false = p + mw := by rw [numP, if_pos ⟨by omega, rfl⟩]
    have e2 : numS l p mw false = false := by rw [numS, Bool.false_or]; exact decide_eq_false h1
    rw [e1, e2]
    rcases h with h | h
    · exact absurd h h1
    · exact numsL_short l wd _ _ (by omega) h
theorem tl_ok {l : List UInt8} {p mw wd : Nat} (h : ¬ tlBad l p mw wd) : numsL l wd (numV l p mw) (numP l p mw false) (numS l p mw false) = (valsI l wd (p + mw) (numV l p mw), (p + mw + wd * numV l p mw, false)) ∧ p + mw + wd * numV l p mw ≤ l.length := by
  rw [tlBad] at h
  have h1 : p + mw ≤ l.length := by omega
  have e1 : numP l p mw false = p + mw := by rw [numP, if_pos ⟨h1, rfl⟩]
  have e2 : numS l p mw false = false := by rw [numS, Bool.false_or]; exact decide_eq_false (by omega)
  rw [e1, e2]
  exact ⟨numsL_ok l wd _ _ (by omega), by omega⟩
theorem lvsL_true (l : List UInt8) (n p : Nat) : lvsL l n p true = ([], (p, true)) := by cases n <;> rfl
theorem lvsL_bad {l : List UInt8} {n q : Nat} (hq : q ≤ l.length) (h : tlBad l q 2 1) : (lvsL l (n + 1) q false).2.2 = true := by
  rw [lvsL, if_neg (by simp)]
  have h1 := tl_bad hq h
  show (lvsL l n _ _).2.2 = true
  rw [h1, lvsL_true]
theorem lvsL_ok {l : List UInt8} {n q : Nat} (h : ¬ tlBad l q 2 1) : lvsL l (n + 1) q false = (valsI l 1 (q + 2) (numV l q 2) :: (lvsL l n (q + 2 + 1 * numV l q 2) false).1, (lvsL l n (q + 2 + 1 * numV l q 2) false).2) := by
  rw [lvsL, if_neg (by simp), (tl_ok h).1]
theorem valsI_len (l : List UInt8) (wd p n : Nat) : (valsI l wd p n).length = n := by simp [valsI]
/-- members and levels from a place on, and where they end -/
def idsQ (l : List UInt8) (p : Nat) : List Int × (Nat × Bool) := numsL l 4 (numV l p 2) (numP l p 2 false) (numS l p 2 false)
def lvsQ (l : List UInt8) (p : Nat) : List (List Int) × (Nat × Bool) := lvsL l (numV l (idsQ l p).2.1 1) (numP l (idsQ l p).2.1 1 (idsQ l p).2.2) (numS l (idsQ l p).2.1 1 (idsQ l p).2.2)
def TakeShapePost (w : World) (l : List UInt8) (p : Nat) (e : Ending) (w' : World) : Prop :=
  Below w.heap.size w w' ∧ (((lvsQ l p).2.2 = true ∧ e = .returned (.tuple #[.agg (shV none 0 0 none 0 0), .int .i64 0, .int .i64 2])) ∨
    ((lvsQ l p).2.2 = false ∧ ∃ Ai ni ci Al nl cl, e = .returned (.tuple #[.agg (shV Ai ni ci Al nl cl), .int .i64 ((lvsQ l p).2.1 : Int), .int .i64 0]) ∧ ShN w.heap.size w' w'.heap.size Ai ni ci Al nl cl (idsQ l p).1 (lvsQ l p).1))

set_option maxRecDepth 100000 in
set_option maxHeartbeats 8000000 in
theorem PTakeShape (Ab : Option Addr) (nb cb : Nat) (l : List UInt8) (p : Nat) (w : World) (hr : Rd w w.heap.size Ab nb (l.map bv)) (hnc : nb ≤ cb) (hcm : cb ≤ maxLen) (hn : nb ≤ 1000000) (hp : p ≤ nb) :
    Calls Tryd.prog 49 #[.slice Ab nb cb, .int .i64 (p : Int)] w (TakeShapePost w l p) := by
  obtain ⟨i1, hi1, hy0, hy1, hy2⟩ := info_parts listInfo
  have hl : l.length = nb := by have := hr.len; rwa [List.length_map] at this
  have Hl := Lib.hid hl
  have hM := (Ms.nil w).box 25 (shV none 0 0 none 0 0)
  have htl := fun wx (hb : Below w.heap.size w wx) q (hq : q ≤ nb) (mw wd : Nat) h1 h2 h3 h4 => PTakeList Ab nb cb l q mw wd wx ((hr.below hb).more hb.size) hnc hcm hn hq h1 h2 h3 h4
  have htn := fun wx (hb : Below w.heap.size w wx) (q : Nat) => TakeNum_any Ab nb cb l (q : Int) 1 wx (by omega) hnc ((hr.below hb).more hb.size)
  have Hbad := Lib.hid (show ∀ w', (lvsQ l p).2.2 = true → Below w.heap.size w w' → TakeShapePost w l p (.returned (.tuple #[.agg (shV none 0 0 none 0 0), .int .i64 0, .int .i64 2])) w' from fun w' h1 h2 => ⟨h2, .inl ⟨h1, rfl⟩⟩)
  have Hgood := Lib.hid (show ∀ w' Ai ni ci Al nl cl, (lvsQ l p).2.2 = false → Below w.heap.size w w' → ShN w.heap.size w' w'.heap.size Ai ni ci Al nl cl (idsQ l p).1 (lvsQ l p).1 → TakeShapePost w l p (.returned (.tuple #[.agg (shV Ai ni ci Al nl cl), .int .i64 ((lvsQ l p).2.1 : Int), .int .i64 0])) w' from fun w' Ai ni ci Al nl cl h1 h2 h3 => ⟨h2, .inr ⟨h1, _, _, _, _, _, _, rfl, h3⟩⟩)
  generalize TakeShapePost w l p = PO at *
  clear hr
  go_enter Tryd.func49, Tryd.ntmps49
  go_upto_region 1 with fail
  try simp only [Act.put]
  obtain ⟨g, hg⟩ : ∃ g, g = w.heap.size := ⟨_, rfl⟩
  rw [← hg] at hM ⊢
  refine wp_gen (fun wx => Ms w wx [(g, 25, shV none 0 0 none 0 0)]) hM ?_
  have hwg : w.heap.size ≤ g := by omega
  clear hM hg
  rintro w0 hM0
  have hw0 := (hM0.get 0 rfl).lt
  go_wp2_with fail
  refine (htl w0 hM0.old p hp 2 4 (by omega) (by omega) (by omega) (by omega)).mono ?_
  rintro e w1 ⟨hb1, ⟨hbad, rfl⟩ | ⟨hok, A, c, rfl, hownI⟩⟩
  · have hM1 := hM0.call hb1
    have HE := Lib.hid (show (lvsQ l p).2.2 = true by
      have h1 : (idsQ l p).2.2 = true := tl_bad (by rw [hl]; exact hp) hbad
      rw [lvsQ, h1, show numS l (idsQ l p).2.1 1 true = true from rfl, lvsL_true])
    have hrow := hM1.get 0 rfl
    have hb := below_setRow hM1.old hwg (shV none 0 0 none 0 0)
    clear hM0 hM1 hb1 hbad htl htn
    go_wp2_with ((with_reducible show wpList _ _ _ (⟨none, Op.store 25 _ _, _, _, _, _⟩ :: _) _ _); refine wpList_store_row rfl 25 (.tmp 4) _ rfl g (shV none 0 0 none 0 0) rfl rfl 25 _ hrow shapeInfo2 rfl (by simp [shV, Value.oneCell']) ?_)
    refine bodyPost_ret (results_c2 rfl _ _ g 25 (shV none 0 0 none 0 0) _ rfl (hrow.row _) Tryd.underlying25 rfl shapeInfo2) rfl ?_
    exact Hbad.out _ HE.out hb
  obtain ⟨hids, hp2⟩ := tl_ok hok
  rw [hl] at hp2
  have Hids := Lib.hid (show idsQ l p = (valsI l 4 (p + 2) (numV l p 2), (p + 2 + 4 * numV l p 2, false)) from hids)
  have hil := valsI_len l 4 (p + 2) (numV l p 2)
  have hn0 : numV l p 2 < 65536 := numV_lt4 l p (wd := 2) (by omega)
  generalize valsI l 4 (p + 2) (numV l p 2) = ids at *
  obtain ⟨q, hq⟩ : ∃ q, q = p + 2 + 4 * numV l p 2 := ⟨_, rfl⟩
  rw [← hq] at Hids hp2 ⊢
  generalize numV l p 2 = n0 at *
  have Hil := Lib.hid hil
  have hM1 := hM0.call hb1
  have ho1 := own_lower hownI (show g + 1 ≤ w0.heap.size by omega)
  clear hids hq hok hM0 hb1 hownI hil hp
  obtain ⟨A0, c0, ea, hcA, hcM⟩ := own_formT ho1
  injection ea with e1 e2 e3
  subst e3
  clear e1 e2 A0
  have HC := Lib.hid (And.intro hcA hcM)
  clear hcA hcM
  have hq1 := htn w1 hM1.old q
  by_cases hsh : nb < q + 1
  · have he : tnE l.length (q : Int) 1 = 2 := by rw [tnE, if_neg (by omega), if_pos (by omega)]
    have hv : tnV l (q : Int) 1 = 0 := by rw [tnV, he, if_neg (by decide)]
    have hn2 : tnN l.length (q : Int) 1 = 0 := by rw [tnN, he, if_neg (by decide)]
    have HE := Lib.hid (show (lvsQ l p).2.2 = true by
      rw [lvsQ, Hids.out, show numS l q 1 false = true by rw [numS, Bool.false_or]; exact decide_eq_true (by rw [hl]; exact hsh), lvsL_true])
    have hrow := hM1.get 0 rfl
    have hb := below_setRow hM1.old hwg (shV none 0 0 none 0 0)
    clear hM1 htl htn ho1 hl
    go_wp2_with fail
    refine hq1.mono ?_
    rintro e w2 ⟨he', hw⟩
    subst hw
    rw [he, hv, hn2] at he'
    subst he'
    clear hq1
    go_wp2_with ((with_reducible show wpList _ _ _ (⟨none, Op.store 25 _ _, _, _, _, _⟩ :: _) _ _); refine wpList_store_row rfl 25 (.tmp 4) _ rfl g (shV none 0 0 none 0 0) rfl rfl 25 _ hrow shapeInfo2 rfl (by simp [shV, Value.oneCell']) ?_)
    refine bodyPost_ret (results_c2 rfl _ _ g 25 (shV none 0 0 none 0 0) _ rfl (hrow.row _) Tryd.underlying25 rfl shapeInfo2) rfl ?_
    exact Hbad.out _ HE.out hb
  have he : tnE l.length (q : Int) 1 = 0 := by rw [tnE, if_neg (by omega), if_neg (by omega)]
  have hv : tnV l (q : Int) 1 = numV l q 1 := by
    rw [tnV, if_pos he, numV, if_pos (by omega)]
    simp
  have hn2 : tnN l.length (q : Int) 1 = ((q + 1 : Nat) : Int) := by rw [tnN, if_pos he]; simp
  have HQ := Lib.hid (show lvsQ l p = lvsL l (numV l q 1) (q + 1) false by
    rw [lvsQ, Hids.out, show numS l q 1 false = false by rw [numS, Bool.false_or]; exact decide_eq_false (by rw [hl]; exact hsh), show numP l q 1 false = q + 1 by rw [numP, if_pos ⟨by omega, rfl⟩]])
  have hn1 : numV l q 1 < 256 := numV_lt4 l q (wd := 1) (by omega)
  have hq2 : q + 1 ≤ nb := by omega
  have HEnd := Lib.hid (show ∀ k q2, q2 ≤ nb → tlBad l q2 2 1 → (lvsL l (k + 1) q2 false).2.2 = true from fun k q2 h1 h2 => lvsL_bad (by rw [hl]; exact h1) h2)
  clear hsh hl hp2
  generalize numV l q 1 = n1 at *
  obtain ⟨q0, hq0⟩ : ∃ q0, q0 = q + 1 := ⟨_, rfl⟩
  rw [← hq0] at hn2 HQ hq2
  clear hq0
  go_wp2_with fail
  refine hq1.mono ?_
  rintro e w2 ⟨he', hw⟩
  subst hw
  rw [he, hv, hn2] at he'
  subst he'
  clear hq1 he hv hn2
  have hMb := hM1.box 25 (shV A n0 c none 0 0)
  have hal := d_al w1 (.cells (shV A n0 c none 0 0) 25)
  have ho2 := own_below ho1 hal
  obtain ⟨gs, hgs⟩ : ∃ gs, gs = w1.heap.size := ⟨_, rfl⟩
  have hz2 : (w1.alloc (.cells (shV A n0 c none 0 0) 25)).heap.size = gs + 1 := by rw [World.size_alloc, hgs]
  have hgg : g < gs := by have := (hM1.get 0 rfl).lt; omega
  have hold := (own_ltT ho1)
  rw [← hgs] at hMb hold
  have hNI := NewA.of_own ho2 (lo := g + 1) (Nat.le_refl _)
  have hrI : Rd (w1.alloc (.cells (shV A n0 c none 0 0) 25)) gs A n0 (ids.map iv) := by
    have := (Rd.of_own ho1).below hal
    rwa [← hgs] at this
  go_upto_region 8 with fail
  try simp only [Act.put]
  rw [← hgs]
  refine wp_gen (fun wx => (gs + 1 ≤ wx.heap.size ∧ Rd wx gs A n0 (ids.map iv)) ∧ Ms w wx [(gs, 25, shV A n0 c none 0 0), (g, 25, shV none 0 0 none 0 0)]) ⟨⟨Nat.le_of_eq hz2.symm, hrI⟩, hMb⟩ ?_
  have HNI := Lib.hid hNI
  clear hMb hal ho2 hz2 hrI hgs hM1 ho1 hold hNI
  clear w1
  rintro w3 ⟨⟨hz3, hrI3⟩, hM3⟩
  have HQ3 := Lib.hid (show lvsQ l p = ([] ++ (lvsL l n1 q0 false).1, (lvsL l n1 q0 false).2) by rw [HQ.out, List.nil_append])
  clear HQ
  go_wp2_with fail
  go_loopw [1, 39] (fun v1 v39 wr => ∃ (k q : Nat) (ls : List (List Int)) (Al : Option Addr) (cl : Nat) (us : List Value), v39 = .int .u64 (ls.length : Int) ∧ v1 = .int .i64 (q : Int) ∧ ls.length + k = n1 ∧ q ≤ nb ∧ Hid (lvsQ l p = (ls ++ (lvsL l k q false).1, (lvsL l k q false).2)) ∧ gs + 1 ≤ wr.heap.size ∧ (wr.ownsRow (gs + 1) 22 1 (.slice Al ls.length cl) ls.length us ∧ Lvs wr wr.heap.size us ls ∧ LvD (gs + 1) wr.heap.size (Value.slice Al ls.length cl).ownBlock us ∧ Rd wr gs A n0 (ids.map iv)) ∧ Ms w wr [(gs, 25, shV A n0 c Al ls.length cl), (g, 25, shV none 0 0 none 0 0)]) (fun _ v39 _ => n1 - (intOf v39).toNat)
  case atStart => exact ⟨n1, q0, [], none, 0, [], rfl, rfl, by simp, hq2, HQ3, hz3, ⟨World.ownsRow_nil _ _ _ _, Lvs.nil _ _, (fun v hv => by cases hv), hrI3⟩, hM3⟩
  case round =>
    clear hM3 hrI3 hz3 HQ3 hq2
    clear w3
    obtain ⟨k, q, ls, Al, cl, us, rfl, rfl, hk, hqn, HQ, hB, ⟨hown, hls, hld, hrI⟩, hM⟩ := hrel
    by_cases hkn : ls.length < n1
    · obtain ⟨k, rfl⟩ : ∃ k', k = k' + 1 := ⟨k - 1, by omega⟩
      have zj : (ls.length : Int) < (n1 : Int) := by omega
      have Hk := Lib.hid hk
      clear hk hkn
      have hq3 := htl wr hM.old q hqn 2 1 (by omega) (by omega) (by omega) (by omega)
      go_wp2_with fail
      refine hq3.mono ?_
      rintro e w5 ⟨hb5, ⟨hbad, rfl⟩ | ⟨hok, A2, c2, rfl, hown2⟩⟩
      · have HE := Lib.hid (show (lvsQ l p).2.2 = true by rw [HQ.out]; exact HEnd.out k q hqn hbad)
        have hM5 := hM.call hb5
        have hrow := hM5.get 1 rfl
        have hb := below_setRow hM5.old hwg (shV none 0 0 none 0 0)
        clear hM hM5 hb5 hbad htl htn hq3 hown hls hld hrI
        go_wp2_with ((with_reducible show wpList _ _ _ (⟨none, Op.store 25 _ _, _, _, _, _⟩ :: _) _ _); refine wpList_store_row rfl 25 (.tmp 4) _ rfl g (shV none 0 0 none 0 0) rfl rfl 25 _ hrow shapeInfo2 rfl (by simp [shV, Value.oneCell']) ?_)
        refine bodyPost_ret (results_c2 rfl _ _ g 25 (shV none 0 0 none 0 0) _ rfl (hrow.row _) Tryd.underlying25 rfl shapeInfo2) rfl ?_
        exact Hbad.out _ HE.out hb
      have hM6 := hM.call hb5
      have hown6 := own_below hown hb5
      have hls6 := (hls.below hb5).more hb5.size
      have hld6 : LvD (gs + 1) w5.heap.size (Value.slice Al ls.length cl).ownBlock us := fun v hv A n c e ad had => by
        have h1 := hld v hv A n c e ad had
        have := hb5.size
        exact ⟨h1.1, by omega, h1.2.2⟩
      have hrI6 := hrI.below (hb5.mono (by omega))
      have hgeA : ∀ z, (Value.slice Al ls.length cl).ownBlock = some z → gs + 1 ≤ z ∧ z < wr.heap.size := fun z hz => hown.lt z hz
      have HQ2 := Lib.hid (show lvsQ l p = ((ls ++ [valsI l 1 (q + 2) (numV l q 2)]) ++ (lvsL l k (q + 2 + 1 * numV l q 2) false).1, (lvsL l k (q + 2 + 1 * numV l q 2) false).2) by
        rw [HQ.out, lvsL_ok hok]
        simp)
      have hq5 := (tl_ok hok).2
      rw [Hl.out] at hq5
      have hyl := valsI_len l 1 (q + 2) (numV l q 2)
      have hn6 : numV l q 2 < 65536 := numV_lt4 l q (wd := 2) (by omega)
      generalize valsI l 1 (q + 2) (numV l q 2) = ys at *
      obtain ⟨q5, hq5e⟩ : ∃ q5, q5 = q + 2 + 1 * numV l q 2 := ⟨_, rfl⟩
      rw [← hq5e] at HQ2 hq5 ⊢
      have hr2 : Rd w5 w5.heap.size A2 ys.length (ys.map iv) := by
        have := Rd.of_own hown2
        rwa [← hyl] at this
      have hA2 : ∀ ad, A2 = some ad → wr.heap.size ≤ ad.block ∧ ad.block < w5.heap.size := fun ad had => by subst had; exact ⟨own_blockT hown2 ad.block rfl, own_ltT hown2 ad.block rfl⟩
      obtain ⟨A0, c0, ea, hc2, hm2⟩ := own_formT hown2
      injection ea with e1 e2 e3
      subst e3
      clear e1 e2 A0
      rw [← hyl] at hc2
      have hszO := hb5.size
      have hyl2 := hyl
      generalize numV l q 2 = ny at *
      clear hq5e
      subst hyl2
      have k2 := (hM6.get 0 rfl).cell (i := 1) (v := .slice Al ls.length cl) rfl
      have hone : ∀ u ∈ [Value.slice A2 ys.length c2], u.oneCell' = true := by intro u hu; simp at hu; subst hu; rfl
      have hw5 := d_al w5 (.cells #[.slice A2 ys.length c2] 22)
      have hown7 := own_below hown6 hw5
      have Hyl := Lib.hid hyl
      have hl9 : ls.length ≤ 256 := by omega
      clear hyl hM hown hls hld hrI hq3 hok hown2
      go_upto_region 14 with (at_builtin; refine wpList_append_rd _ rfl (.tmp 53) (.tmp 55) _ rfl (gs + 1) 22 i1 _ 24 Tryd.underlying23 hi1 hy0 hy1 hy2 rfl (.slice Al ls.length cl) ls.length us rfl hown7 (w5.heap.size + 1) (some ⟨w5.heap.size, 0, none⟩) 1 1 [.slice A2 ys.length c2] rfl (Rd.mk_ _ _ _ rfl (by omega) rfl rfl) hone (by simp only [maxLen]; omega) (by omega) (by simp; omega) ?_; intro v9 w9 hown9 hgr9 hat9; obtain ⟨A9, c9, rfl, _, _⟩ := own_formT hown9; have hM9 := (hM6.call hw5).grownT hgr9 (fun q hq => by have := (hgeA q hq).1; omega) (fun p hp q hq => by have := (hgeA q hq).1; simp only [List.mem_cons, List.not_mem_nil, or_false] at hp; rcases hp with rfl | rfl <;> simp <;> omega); have k9 := (hM9.get 0 rfl).cell (i := 1) (v := .slice Al ls.length cl) rfl; have f9 := (hM9.get 0 rfl).frozen 1)
      try simp only [Act.put]
      have hs9 : w5.heap.size + 1 ≤ w9.heap.size := by have := hgr9.size; simpa using this
      have hkp : ∀ v ∈ us, ∀ A n c xs, v = .slice A n c → Rd w5 w5.heap.size A n xs → Rd w9 w9.heap.size A n xs := fun v hv A n c xs e hr => ((hr.below hw5).grownD hgr9 (by simp) (fun ad had => (hld6 v hv A n c e ad had).2.2)).more (by omega)
      have hls9 := (hls6.keepD hkp).snoc hc2 hm2 (((hr2.below hw5).grownD hgr9 (by simp) (fun ad had e9 => by have h1 := (hA2 ad had).1; have h2 := (hgeA _ e9).2; omega)).more (by omega))
      have hrI9 := (hrI6.below (hw5.mono (by omega))).grown hgr9 (by simp; omega) (fun q hq => by have := (hgeA q hq).1; omega)
      have hld9 : LvD (gs + 1) w9.heap.size (Value.slice A9 (ls.length + 1) c9).ownBlock (us ++ [.slice A2 ys.length c2]) := fun v hv A n c e ad had => by
        have key : gs + 1 ≤ ad.block ∧ ad.block < w5.heap.size ∧ (Value.slice Al ls.length cl).ownBlock ≠ some ad.block := by
          rcases List.mem_append.1 hv with hv | hv
          · have h1 := hld6 v hv A n c e ad had
            exact ⟨h1.1, by omega, h1.2.2⟩
          · have h1 : v = .slice A2 ys.length c2 := by simpa using hv
            rw [h1] at e
            injection e with e1
            have h2 := hA2 ad (e1.trans had)
            exact ⟨by omega, h2.2, fun e9 => by have := (hgeA _ e9).2; omega⟩
        refine ⟨key.1, by omega, fun e9 => ?_⟩
        rcases hat9 with h1 | h1
        · exact key.2.2 (h1.symm.trans e9)
        · rw [e9] at h1; injection h1 with h1; simp at h1; omega
      have hM10 := hM9.setCell (by omega) (fun p hp => by simp only [List.mem_cons, List.not_mem_nil, or_false] at hp; rcases hp with rfl; simp; omega) 1 (.slice A9 (ls.length + 1) c9)
      rw [show (shV A n0 c Al ls.length cl).setIfInBounds 1 (.slice A9 (ls.length + 1) c9) = shV A n0 c A9 (ls.length + 1) c9 from rfl] at hM10
      have hown10 := own_cellT (p := ⟨gs, 1, none⟩) hown9 (fun q hq => by have := own_blockT hown9 q hq; show q ≠ gs; omega) (.slice A9 (ls.length + 1) c9)
      have hz10 : (w9.setCell ⟨gs, 1, none⟩ (.slice A9 (ls.length + 1) c9)).heap.size = w9.heap.size := by simp
      have hls10 := hls9.keepD (w' := w9.setCell ⟨gs, 1, none⟩ (.slice A9 (ls.length + 1) c9)) (B' := w9.heap.size) (fun v hv A n c xs e hr => hr.setCellN (lo := gs + 1) (by omega) _ (hld9.new v hv A n c e))
      have hrI10 := hrI9.setCell (p := ⟨gs, 1, none⟩) (Nat.le_refl _) (.slice A9 (ls.length + 1) c9)
      have hB10 : gs + 1 ≤ (w9.setCell ⟨gs, 1, none⟩ (.slice A9 (ls.length + 1) c9)).heap.size := by rw [hz10]; omega
      rw [← hz10] at hls10
      have hld10 := hld9
      rw [← hz10] at hld10
      obtain ⟨ls', hlsx⟩ : ∃ ls', ls' = ls ++ [ys] := ⟨_, rfl⟩
      have hlen9 : ls'.length = ls.length + 1 := by rw [hlsx]; simp
      rw [← hlsx] at hls10 HQ2
      have Hkx := Lib.hid (show ls'.length + k = n1 ∧ ls'.length = ls.length + 1 from ⟨by have := Hk.out; omega, hlen9⟩)
      have HF := Lib.hid (And.intro hown10 (And.intro hls10 (And.intro hld10 hrI10)))
      have HM10 := Lib.hid hM10
      have HB10 := Lib.hid hB10
      clear hlsx hlen9 hown10 hls10 hld10 hrI10 hM10 hB10 hz10 hld9 hls9 hrI9 hkp hown9 hgr9 hat9 hM9 hM6 hown7 hown6 hls6 hrI6 hr2 hA2 hgeA hw5 k2 hld6 hb5 k9 f9
      go_wp2_with fail
      go_roundw
      case rel => exact ⟨k, q5, ls', A9, c9, us ++ [.slice A2 ys.length c2], by rw [Hkx.out.2]; go_num, rfl, Hkx.out.1, hq5, HQ2, HB10.out, by rw [Hkx.out.2]; exact HF.out, by rw [Hkx.out.2]; exact HM10.out⟩
      case measure => simp [intOf]; omega
    · have hk0 : k = 0 := by omega
      have hln : ls.length = n1 := by omega
      subst hk0
      subst hln
      have HQ2 := Lib.hid (show lvsQ l p = (ls, (q, false)) by rw [HQ.out, lvsL, List.append_nil])
      have hSN : ShN (g + 1) wr wr.heap.size A n0 c Al ls.length cl ids ls := by
        obtain ⟨Ao, co, ea, hcl, hcm2⟩ := own_formT hown
        injection ea with e1 e2 e3
        subst e3
        have hszr := hM.old.size
        exact ⟨⟨Hil.out, rfl, HC.out.1, hcl, HC.out.2, hcm2, hrI.more (by omega), us, Rd.of_own hown, hls⟩, HNI.out, NewA.of_own hown (by omega), us, Rd.of_own hown, hls, fun v hv A n c e => (hld.new v hv A n c e).mono (by omega)⟩
      have hSN2 := hSN.box (g := g) (by omega) (shV A n0 c Al ls.length cl)
      have hzf : (wr.setRow g (shV A n0 c Al ls.length cl)).heap.size = wr.heap.size := by simp [World.setRow]
      have HFin := Lib.hid (show PO (.returned (.tuple #[.agg (shV A n0 c Al ls.length cl), .int .i64 (q : Int), .int .i64 0])) (wr.setRow g (shV A n0 c Al ls.length cl)) by
        have h1 := Hgood.out (wr.setRow g (shV A n0 c Al ls.length cl)) A n0 c Al ls.length cl (by rw [HQ2.out]) (below_setRow hM.old hwg _) (by
          rw [HQ2.out, Hids.out, hzf]
          exact hSN2.mono (by omega))
        rw [HQ2.out] at h1
        exact h1)
      have hrs := hM.get 0 rfl
      have hrg := hM.get 1 rfl
      clear hown hls hld hrI hM hSN hSN2 hzf HQ htl htn hk
      go_wp2_with (first
        | ((with_reducible show wpList _ _ _ (⟨some 60, _, _, _, _, _⟩ :: _) _ _); refine wpList_loadC (by kernel_rfl) 25 (.tmp 10) rfl gs rfl 25 (shV A n0 c Al ls.length cl) _ hrs Tryd.underlying25 rfl shapeInfo2 ?_)
        | ((with_reducible show wpList _ _ _ (⟨none, Op.store 25 _ _, _, _, _, _⟩ :: _) _ _); refine wpList_store_row rfl 25 (.tmp 4) (.tmp 60) rfl g (shV A n0 c Al ls.length cl) rfl rfl 25 _ hrg shapeInfo2 rfl (by simp [shV, Value.oneCell']) ?_))
      refine bodyPost_ret (results_c2 rfl _ _ g 25 (shV A n0 c Al ls.length cl) _ rfl (hrg.row _) Tryd.underlying25 rfl shapeInfo2) rfl ?_
      exact HFin.out

end Go.Proofs.YtlidhdljgnijaaaDoor

