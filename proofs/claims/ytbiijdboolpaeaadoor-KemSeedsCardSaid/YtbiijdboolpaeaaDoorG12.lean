import Derived.Test.YtbiijdboolpaeaaDoorG08
import Derived.Test.YtbiijdboolpaeaaDoorG10
import Derived.Test.YtbiijdboolpaeaaDoorG11
import Derived.Test.YtbiijdboolpaeaaDoorG05
import Derived.Test.YtbiijdboolpaeaaDoorG06
set_option linter.unusedVariables false
namespace Go.Proofs.YtbiijdboolpaeaaDoor
open Go.RowKit Go.Shelf
attribute [local go_sem] Oper.semAt_some
theorem finRange_val (m : Nat) : (List.finRange m).map Fin.val = List.range m := by
 apply List.ext_getElem (by simp)
 intro i h1 h2
 simp
def ctrU (k n : List UInt8) (f : Nat) (b : List UInt8) : List UInt8 := ctrTo k n f b (nbs b.length)
def xorPart (ys : List UInt8) (p : Nat) (s : List UInt8) (j : Nat) : List UInt8 := (List.range ys.length).map fun i => if p ≤ i ∧ i < p + j then at0 ys i ^^^ at0 s (i - p) else at0 ys i
theorem xorPart_len (ys : List UInt8) (p : Nat) (s : List UInt8) (j : Nat) : (xorPart ys p s j).length = ys.length := by simp [xorPart]
theorem xorPart_zero (ys : List UInt8) (p : Nat) (s : List UInt8) : xorPart ys p s 0 = ys := by
 unfold xorPart
 rw [show (fun i => if p ≤ i ∧ i < p + 0 then at0 ys i ^^^ at0 s (i - p) else at0 ys i) = at0 ys from funext fun i => if_neg (by omega)]
 exact map_at0 rfl
theorem xorPart_at (ys : List UInt8) (p : Nat) (s : List UInt8) {j i : Nat} (hi : i < ys.length) : (xorPart ys p s j)[i]? = some (if p ≤ i ∧ i < p + j then at0 ys i ^^^ at0 s (i - p) else at0 ys i) := by simp [xorPart, hi]
theorem xorPart_succ (ys : List UInt8) (p : Nat) (s : List UInt8) (j : Nat) : xorPart ys p s (j + 1) = (xorPart ys p s j).set (p + j) (at0 ys (p + j) ^^^ at0 s j) := by
 apply List.ext_getElem (by simp [xorPart])
 intro i h1 h2
 rw [List.getElem_set]
 simp only [xorPart, List.getElem_map, List.getElem_range]
 by_cases h : p + j = i
 ·
  subst h
  rw [if_pos (by omega), if_pos rfl, Nat.add_sub_cancel_left]
 ·
  rw [if_neg h]
  by_cases h3 : p ≤ i ∧ i < p + j
  ·
   rw [if_pos h3, if_pos (by omega)]
  ·
   rw [if_neg h3, if_neg (by omega)]
theorem xorPart_all (ys : List UInt8) (p : Nat) (s : List UInt8) (m : Nat) (hm : ys.length ≤ p + m ∨ m = 16) (h16 : m ≤ 16) : xorPart ys p s m = xorAt ys p s := by
 unfold xorPart xorAt
 apply List.map_congr_left
 intro i hi
 have hi' : i < ys.length := by simpa using hi
 by_cases h : p ≤ i ∧ i < p + 16
 ·
  rw [if_pos h, if_pos (by omega)]
 ·
  rw [if_neg h, if_neg (by omega)]
def Far (g : Nat) (w w' : World) : Prop := w.heap.size ≤ w'.heap.size ∧ ∀ k, k < w.heap.size → k ≠ g → w'.heap[k]? = w.heap[k]?
theorem Far.refl (g : Nat) (w : World) : Far g w w := ⟨Nat.le_refl _, fun _ _ _ => rfl⟩
theorem Far.set {g : Nat} {a w : World} (h : Far g a w) (i : Nat) (u : Value) : Far g a (w.setCell ⟨g, i, none⟩ u) :=
 ⟨by rw [World.size_setCell]; exact h.1, fun k hk hne => (Below.heap_setCell w ⟨g, i, none⟩ u k hne).trans (h.2 k hk hne)⟩
structure St (k n b : List UInt8) (f m : Nat) (A : Option Addr) (c gN g bC bF n0 B0 : Nat) (w : World) (pre : List (Fin (nbs m))) (W : World) : Prop where
 out : ∃ ys : List UInt8, ys.length = m ∧ W.ownsRow B0 5 1 (.slice A m c) m (ys.map bv) ∧ (pre.map Fin.val = List.range pre.length → ys = ctrTo k n f b pre.length)
 nonce : ArrB W gN 71 n
 cip : CipAt W g (keysU k)
 cell : W.heap[bC]? = some (.cells #[.pointer (some ⟨g, 0, none⟩)] 93 (0, 0))
 count : W.heap[bF]? = some (.cells #[.int .u32 (((f + pre.length) % 4294967296 : Nat) : Int)] 72 (0, 0))
 size : n0 ≤ W.heap.size
 bel : Below B0 w W
theorem one_cell {W : World} {b : Nat} {v : Value} {t : TypeId} (h : W.heap[b]? = some (.cells #[v] t (0, 0))) : W.cell? ⟨b, 0, none⟩ = some v := by rw [cell_of_row W b 0 _ t (0, 0) h]; rfl
theorem one_free {W : World} {b : Nat} {v : Value} {t : TypeId} (h : W.heap[b]? = some (.cells #[v] t (0, 0))) : W.frozen? ⟨b, 0, none⟩ = false := frozen_of_row W b 0 _ t h
theorem one_set {W : World} {b : Nat} {v : Value} {t : TypeId} (h : W.heap[b]? = some (.cells #[v] t (0, 0))) (u : Value) : (W.setCell ⟨b, 0, none⟩ u).heap[b]? = some (.cells #[u] t (0, 0)) := by
 simp only [World.setCell, Array.getElem?_modify, h, Option.map_some]
 simp
theorem own_turn {W W' : World} {base : Nat} {e : TypeId} {size : Nat} {v : Value} {k : Nat} {xs : List Value} {row : Option Nat} (h : W.ownsRow base e size v k xs) (hg : W.grownBy W' row) (hr : ∀ r, row = some r → ∃ o : Obj, W.heap[r]? = some o ∧ o.isCells = false) : W'.ownsRow base e size v k xs := by
 refine h.kept hg ?_
 rcases h.2 with ⟨rfl, _⟩ | ⟨g, cap, cur, rfl, _, hgb, _⟩
 ·
  exact .inl rfl
 ·
  refine .inr fun e' => ?_
  obtain ⟨o, ho, hc⟩ := hr g (by simpa [Value.ownBlock] using e'.symm)
  rw [hgb] at ho; cases ho; cases hc
theorem own_below_ {w w' : World} {base : Nat} {e : TypeId} {size : Nat} {v : Value} {n : Nat} {xs : List Value} (h : w.ownsRow base e size v n xs) (hb : Below w.heap.size w w') : w'.ownsRow base e size v n xs :=
 own_far h hb.size fun x hx => hb.block x (by
  rcases h.2 with ⟨h0, _⟩ | ⟨g, cap, cur, hv, _, hg, _⟩
  ·
   rw [h0] at hx; cases hx
  ·
   rw [hv] at hx; cases hx; exact (Array.getElem?_eq_some_iff.1 hg).1)
theorem St.turn {k n b : List UInt8} {f m : Nat} {A : Option Addr} {c gN g bC bF n0 B0 : Nat} {w : World} {pre : List (Fin (nbs m))} {W W' : World} {row : Option Nat} (h : St k n b f m A c gN g bC bF n0 B0 w pre W)
  (hg : W.grownBy W' row) (hr : ∀ r, row = some r → n0 ≤ r ∧ ∃ o : Obj, W.heap[r]? = some o ∧ o.isCells = false) (h1 : gN < n0) (h2 : g < n0) (h3 : bC < n0) (h4 : bF < n0) (h5 : B0 ≤ n0) : St k n b f m A c gN g bC bF n0 B0 w pre W' := by
 have hs := h.size
 have hk : ∀ x, x < n0 → W'.heap[x]? = W.heap[x]? := fun x hx => hg.block x (by omega) (fun e => by have := (hr x e.symm).1; omega)
 obtain ⟨ys, hy, ho, hp⟩ := h.out
 exact ⟨⟨ys, hy, own_turn ho hg (fun r e => (hr r e).2), hp⟩, h.nonce.of (hk _ h1), ArrB.of h.cip (hk _ h2), (hk _ h3).trans h.cell, (hk _ h4).trans h.count, Nat.le_trans hs hg.size,
  h.bel.grown hg (by omega) (fun r e => by have := (hr r e).1; omega)⟩
theorem rangeF {P : Program} {α : Type} {go : Operand} {p d : Tmp} {assign body : Code} {Q : Exit → Act → World → Prop} {a : Act} {w : World} (n : Nat) (h1 : 1 ≤ n) {gf : Nat} {lb : Array Value} (hg : a.eval go = .func (.func gf) #[] lb) (eg : ∀ args w, (callFunc gf args).run P w = .ok (.enter gf args) w)
  {v : α → Value} {Kp : World → World → Prop} {S Sp : List α → Prop} {N : Nat} (hseq : SeqStopsK Fence.wide (n - 1) P gf lb (fun x => #[v x]) Kp S Sp N w)
  (hKt : ∀ {A B C : World}, Kp A B → Kp B C → Kp A C) (hKb : ∀ (W : World) (l : Nat) (o o' : Obj), w.heap.size ≤ l → W.heap[l]? = some o → o.isCells = false → o.isWalk = false → Kp W (W.putObj l o'))
  (I : List α → World → Prop) (hI : OwnFrom w.heap.size I) (h0 : I [] w)
  (hassign : ∀ (l : Nat) (x : α) (W : World) (K : Act → World → Prop), K { tmps := (a.tmps.setIfInBounds p (v x)).setIfInBounds d (v x), defers := [] } W →
   assign.wpIn (Fence.wide.inRound l) (n - 1 - 1) P (Exit.then K (fun _ _ _ => False)) { tmps := a.tmps.setIfInBounds p (v x), defers := [] } W)
  (hbody : ∀ (l : Nat) (pre : List α) (x : α) (W : World), I pre W → pre.length < N → body.wpIn (Fence.wide.inRound l) (n - 1 - 1) P (ownPostK Kp I (fun _ _ _ => False) (pre ++ [x]) W) { tmps := (a.tmps.setIfInBounds p (v x)).setIfInBounds d (v x), defers := [] } W)
  (hdone : ∀ (D : Nat) (xs : List α) (W : World), w.heap.size ≤ D → S xs → I xs W → W.heap[D]? = some (.deferred (some [])) → Q .normal { a with defers := { target := .collected D, args := #[] } :: a.defers } W) :
  (Code.rangeFunc go #[p] assign body).wp P Q a w := by
 refine (wpIn_wide (n := n)).1 (wpIn_rangeFunc_ownF rfl h1 hg trivial eg hseq hKt hKb (Below.refl _ _) (fun _ => rfl) I (fun _ _ _ => False) hI (fun _ _ _ _ _ h _ _ => h) h0 (fun x => { tmps := (a.tmps.setIfInBounds p (v x)).setIfInBounds d (v x), defers := [] }) ?_ hbody hdone (fun _ _ _ _ _ _ h _ => h.elim))
 intro l x W K hK
 have e : (#[p].zip #[v x]).foldl (fun t (p, v) => t.setIfInBounds p v) a.tmps = a.tmps.setIfInBounds p (v x) := by simp
 rw [e]
 exact hassign l x W K hK
theorem heap4 (w : World) (a b c d : Obj) : ((((w.alloc a).alloc b).alloc c).alloc d).heap[w.heap.size]? = some a ∧ ((((w.alloc a).alloc b).alloc c).alloc d).heap[w.heap.size + 1]? = some b ∧
  ((((w.alloc a).alloc b).alloc c).alloc d).heap[w.heap.size + 1 + 1]? = some c ∧ ((((w.alloc a).alloc b).alloc c).alloc d).heap[w.heap.size + 1 + 1 + 1]? = some d ∧ ((((w.alloc a).alloc b).alloc c).alloc d).heap.size = w.heap.size + 1 + 1 + 1 + 1 := by
 have n1 := heap_alloc_new (w.alloc a) b
 have n2 := heap_alloc_new ((w.alloc a).alloc b) c
 have n3 := heap_alloc_new (((w.alloc a).alloc b).alloc c) d
 simp only [World.size_alloc] at n1 n2 n3
 refine ⟨?_, ?_, ?_, n3, by simp⟩
 ·
  rw [heap_alloc_old _ _ (by simp <;> omega), heap_alloc_old _ _ (by simp <;> omega), heap_alloc_old _ _ (by simp)]
  exact heap_alloc_new w a
 ·
  rw [heap_alloc_old _ _ (by simp <;> omega), heap_alloc_old _ _ (by simp)]
  exact n1
 ·
  rw [heap_alloc_old _ _ (by simp)]
  exact n2
theorem cutR {F : Fence} {n : Nat} {P : Program} {c : Code} {Q : Exit → Act → World → Prop} {a : Act} {W : World} (R : Act → Act → World → Prop) (h1 : c.wpIn F n P (fun e a' w' => e = .normal ∧ R a a' w') a W) (h2 : ∀ a' w', R a a' w' → Q .normal a' w') : c.wpIn F n P Q a W :=
 Go.wpIn_mono h1 (fun e a' w' h => by obtain ⟨rfl, hr⟩ := h; exact h2 a' w' hr)
theorem nonceB (n : List UInt8) (h : n.length = 12) : (Tryd.prog.info? 71).map (·.size) = some (n.map bv).length := by rw [info12]; simp [h]
set_option maxRecDepth 100000 in
set_option maxHeartbeats 2000000 in
theorem Ctr_ok (k n b : List UInt8) (f m c : Nat) (A : Option Addr) (w : World) (hk : k.length = 16) (hn : n.length = 12) (hf : f < 4294967296) (hr : Rd w w.heap.size A m (b.map bv)) (hm : m ≤ 1048576) (hfit : f + nbs m ≤ 4294967296) :
  Calls Tryd.prog 40 #[.agg (k.map bv).toArray, .agg (n.map bv).toArray, .int .u32 (f : Int), .slice A m c] w fun e w' =>
   ∃ A' c', e = .returned (.tuple #[.slice A' m c', .int .i64 0]) ∧ w'.ownsRow w.heap.size 5 1 (.slice A' m c') m ((ctrU k n f b).map bv) ∧ Below w.heap.size w w' := by
 have Hn := Lib.hid hn
 have Hk := Lib.hid hk
 have hbl : b.length = m := by have := hr.len; simpa using this
 have f0 : (0 : Int) ≤ (f : Int) := by omega
 have m0 : (0 : Int) ≤ (m : Int) := by omega
 have m1 : (m : Int) ≤ 1048576 := by omega
 have Hnb := Lib.hid (show nbs m = (m + 15) / 16 from rfl)
 have q1 : ((m : Int) + 16 - 1) / 16 = ((nbs m : Nat) : Int) := by unfold nbs; omega
 have q2 : ((m : Int) + 16 - 1).tdiv 16 = ((nbs m : Nat) : Int) := by rw [Int.tdiv_eq_ediv_of_nonneg (by omega)]; unfold nbs; omega
 have q3 : (f : Int) + ((nbs m : Nat) : Int) ≤ 4294967296 := by omega
 have hnb : nbs m ≤ 65536 := by unfold nbs; omega
 refine (callsIn_wide (n := 5)).1 ?_
 refine callsIn_of_wp_marks Tryd.func40 rfl trivial ?_ rfl
 simp only [Tryd.ntmps40, List.size_toArray, List.length_cons, List.length_nil, Nat.reduceAdd, Nat.reduceSub, Array.replicate_succ, Array.replicate_zero, List.push_toArray, List.append_toArray, List.nil_append, List.cons_append]
 refine wpIn_wide.2 ?_
 go_wp2_with fail
 refine (Clone_any A m c b _ (by omega) (c_rd hr (c_alloc (c_alloc (c_refl w) _) _))).mono ?_
 rintro e w1 ⟨A', c', rfl, hown, hb1⟩
 have gK := ((ArrB.mk_ w 69 _ k rfl rfl).alloc (.cells (n.map bv).toArray 71)).below hb1 (by simp <;> omega)
 have gN := (ArrB.mk_ (b := w.heap.size + 1) (w.alloc (.cells (k.map bv).toArray 69)) 71 _ n (by simp) rfl).below hb1 (by simp <;> omega)
 have hB1 := ((((Below.refl w.heap.size w).alloc (Nat.le_refl _) (.cells (k.map bv).toArray 69)).alloc (al0 _ _) (.cells (n.map bv).toArray 71)).trans (hb1.mono (by simp <;> omega)))
 have hs1 : w.heap.size + 2 ≤ w1.heap.size := by simpa using hb1.size
 obtain ⟨gO, hO⟩ : ∃ gO, 0 < m → A' = some ⟨gO, 0, none⟩ ∧ w.heap.size + 1 + 1 ≤ gO ∧ gO < w1.heap.size := by
  by_cases h : 0 < m
  ·
   obtain ⟨g, cap, hv, hg1, hg2⟩ := hown.form h
   injection hv with hv1
   exact ⟨g, fun _ => ⟨hv1, by simpa using hg1, hg2⟩⟩
  ·
   exact ⟨0, fun h' => absurd h' h⟩
 have hmc : m ≤ c' := by
  obtain ⟨_, c0, e, h, _⟩ := own_form hown
  injection e with _ _ e3
  rw [e3]
  exact h
 have Hib := Lib.hid (size16 Hk.out)
 have hown1 : w1.ownsRow w.heap.size 5 1 (.slice A' m c') m (b.map bv) := own_base hown (by simp <;> omega)
 clear hb1 hown hr
 go_wp2_with (first
  | ((with_reducible refine tdQ 33 ?_); refine wpList_load_row rfl 69 (.tmp 4) rfl w.heap.size rfl 69 (k.map bv).toArray (0, 0) _ gK Tryd.underlying69 rfl Hib.out ?_)
  | (go_at_call 59; refine (newCipher_any k _ Hk.out).mono ?_; rintro e w2 ⟨g, rfl, hg1, hcip, hb2⟩)
  | (go_at_call 60; refine (Chunk_any A' m c' _).mono ?_; rintro e w3 ⟨rfl, rfl⟩))
 obtain ⟨o0, o1, o2, o3, hs3⟩ := heap4 w2 (.cells #[.pointer (some ⟨g, 0, none⟩)] 93) (.cells #[.int .u32 (f : Int)] 72) (.cells #[.slice A' m c'] 24) (.cells #[.int .i64 16] 3)
 have hb3 : Below w1.heap.size w1 ((((w2.alloc (.cells #[.pointer (some ⟨g, 0, none⟩)] 93)).alloc (.cells #[.int .u32 (f : Int)] 72)).alloc (.cells #[.slice A' m c'] 24)).alloc (.cells #[.int .i64 16] 3)) := c_alloc (c_alloc (c_alloc (c_alloc hb2 _) _) _) _
 have hgl : g < w2.heap.size := ArrB.lt hcip
 have hcip3 : CipAt ((((w2.alloc (.cells #[.pointer (some ⟨g, 0, none⟩)] 93)).alloc (.cells #[.int .u32 (f : Int)] 72)).alloc (.cells #[.slice A' m c'] 24)).alloc (.cells #[.int .i64 16] 3)) g (keysU k) := (((ArrB.alloc hcip _).alloc _).alloc _).alloc _
 generalize ((((w2.alloc (.cells #[.pointer (some ⟨g, 0, none⟩)] 93)).alloc (.cells #[.int .u32 (f : Int)] 72)).alloc (.cells #[.slice A' m c'] 24)).alloc (.cells #[.int .i64 16] 3)) = w3 at *
 have hs2 : w1.heap.size ≤ w2.heap.size := hb2.size
 generalize w2.heap.size = h2 at *
 have hSt : St k n b f m A' c' (w.heap.size + 1) g h2 (h2 + 1) w3.heap.size w.heap.size w [] w3 :=
  ⟨⟨b, hbl, own_below_ hown1 hb3, fun _ => rfl⟩, gN.below hb3 (by omega), hcip3, o0, by simpa [Nat.mod_eq_of_lt hf] using o1, Nat.le_refl _, hB1.trans (hb3.mono (by omega))⟩
 clear hb2 hb3 hcip hcip3 gK gN hown1 hB1 o0 o1
 clear w2
 refine rangeF 5 (by decide) (d := 14) (gf := 77) (lb := #[.pointer (some ⟨h2 + 1 + 1, 0, none⟩), .pointer (some ⟨h2 + 1 + 1 + 1, 0, none⟩)]) rfl (enters_of Tryd.func77 (by kernel_rfl) rfl)
  (v := fun x : Fin (nbs m) => chunkV gO m x.1) (Kp := KpS (h2 + 1 + 1) (h2 + 1 + 1 + 1)) (S := fun ys => ys = List.finRange (nbs m)) (Sp := fun _ => True) (N := nbs m) ?seq (fun h k => h.trans k) (fun W l o o' hl _ _ _ => KpS.putObj (B := w3.heap.size) (by omega) (by omega) W l o o' hl)
  (St k n b f m A' c' (w.heap.size + 1) g h2 (h2 + 1) w3.heap.size w.heap.size w) (fun s W W' row hs hg hr => hs.turn hg hr (by omega) (by omega) (by omega) (by omega) (by omega)) hSt ?assign ?body ?done
 case seq => exact chunk_stops 4 (by decide) (h2 + 1 + 1) (h2 + 1 + 1 + 1) gO m c' (by omega) hmc A' (fun h => (hO h).1) w3 (by omega) (by omega) (one_cell o2) (one_cell o3)
 case assign =>
  intro l x W K hK
  gi_wp2
  exact hK
 case body =>
  rintro l pre x W hst hlen
  have hx := x.2
  have hm0 : 0 < m := by have := nbs_lt.1 hx; omega
  obtain ⟨rfl, hgO1, hgO2⟩ := hO hm0
  obtain ⟨ys, hyl, hown, hyp⟩ := hst.out
  have hsz := hst.size
  have hnl : f + pre.length < 4294967296 := by omega
  have hcip := hst.cip
  have hnon := hst.nonce
  have hcel := hst.cell
  have hbel := hst.bel
  obtain ⟨ct, hct⟩ : ∃ ct, ct = f + pre.length := ⟨_, rfl⟩
  have hcnt : W.heap[h2 + 1]? = some (.cells #[.int .u32 (ct : Int)] 72 (0, 0)) := by
   have h := hst.count
   rw [Nat.mod_eq_of_lt hnl, ← hct] at h
   exact h
  have hctl : ct < 4294967296 := by omega
  have Hct := Lib.hid hct
  clear hct hst
  obtain ⟨s, hs⟩ : ∃ s, s = encU k (cinU n ct) := ⟨_, rfl⟩
  have hsl : s.length = 16 := by rw [hs]; exact encU_len _ _
  have Hs := Lib.hid hs
  clear hs
  have hfitc := clen_fit hx
  have hcl := @clen_le m x.1
  have hkeep : ∀ wx : World, Below W.heap.size W wx → wx.cell? ⟨h2, 0, none⟩ = some (.pointer (some ⟨g, 0, none⟩)) ∧ wx.rangeAt (w.heap.size + 1) 0 (n.map bv) ∧ wx.cell? ⟨h2 + 1, 0, none⟩ = some (.int .u32 (ct : Int)) := fun wx hw =>
   ⟨one_cell ((hw.block h2 (by omega)).trans hcel), (hnon.below hw (by omega)).range, one_cell ((hw.block (h2 + 1) (by omega)).trans hcnt)⟩
  have hcipk : ∀ wx : World, Below W.heap.size W wx → CipAt wx g (keysU k) := fun wx hw => ArrB.below hcip hw (by omega)
  have hu := Tryd.underlying71
  have hi1 := nonceB n Hn.out
  gi_wp2
  refine cutR (fun a0 a' w' => ∃ gS, a' = ((((((a0.put (some 39) (.pointer (some ⟨g, 0, none⟩))).put (some 40) (.agg (n.map bv).toArray)).put (some 41) (.int .u32 (ct : Int))).put (some 42) (.agg ((cinU n ct).map bv).toArray)).put (some 43) (.agg (s.map bv).toArray)).put (some 15) (.pointer (some ⟨gS, 0, none⟩))) ∧
   W.heap.size ≤ gS ∧ ArrB w' gS 69 s ∧ Below W.heap.size W w') ?region ?behind
  case region =>
   refine beginR (fun wx => wx.cell? ⟨h2, 0, none⟩ = some (.pointer (some ⟨g, 0, none⟩)) ∧ wx.rangeAt (w.heap.size + 1) 0 (n.map bv) ∧ wx.cell? ⟨h2 + 1, 0, none⟩ = some (.int .u32 (ct : Int))) 6 (by kernel_rfl) (by kernel_rfl) (fun _ _ h => by cases h.1) ?_
   have hS := hkeep _ (c_drew (c_refl _))
   refine takeD 0 (some 39) (.pointer (some ⟨g, 0, none⟩)) rfl rfl (by kernel_rfl) (by kernel_rfl) (by kernel_rfl) (by kernel_rfl) (fun _ _ _ h => by cases h.1) (Or.inl ⟨by kernel_rfl, fun wx hSw => by have h := hSw.1; go_simp⟩) hS ?_
   simp only [Act.put, sA, sZ, sS]
   refine ldQ 1 (some 40) 71 (.tmp 5) (w.heap.size + 1) 0 (n.map bv) (fun wx hSw => hSw.2.1) hu hi1 (fun _ _ _ h => by cases h.1) hS ?_
   simp only [Act.put, sA, sZ, sS]
   refine takeD 2 (some 41) (.int .u32 (ct : Int)) rfl rfl (by kernel_rfl) (by kernel_rfl) (by kernel_rfl) (by kernel_rfl) (fun _ _ _ h => by cases h.1) (Or.inl ⟨by kernel_rfl, fun wx hSw => by have h := hSw.2.2; go_simp⟩) hS ?_
   simp only [Act.put, sA, sZ, sS]
   refine rd2 3 5 (fun K hK => ?_) fun K hK => ?_
   ·
    go_simp
    refine (counted_any n ct _ Hn.out hctl).mono ?_
    rintro e wc ⟨rfl, hbc⟩
    refine kp hK hkeep ?_
    clear hK K
    refine rd2 4 5 (fun K hK => ?_) fun K hK => ?_
    ·
     go_simp
     refine (encrypted_any g k (cinU n ct) _ (hcipk _ bl) Hk.out (cinU_len Hn.out ct)).mono ?_
     rintro e we ⟨he, hbe⟩
     rw [← Hs.out] at he
     subst he
     refine kp hK hkeep ?_
     clear hK K
     refine on1 5 fun K hK => ?_
     go_simp
     refine kp hK hkeep ?_
     clear hK K
     refine on1 6 fun K hK => ?_
     refine step_store_row rfl 69 (.tmp 15) (.tmp 43) rfl we.heap.size (s.map bv).toArray rfl rfl 69 (zero16.map bv).toArray (heap_alloc_new _ _) (size16 hsl) (same16 hsl zero16_len) (one_bvA _) ?_
     refine hK.out _ _ (fun h => absurd rfl h) ?_
     clear hK K
     refine doneT (by kernel_rfl) ?_ _
     have hle : W.heap.size ≤ we.heap.size := (show Below W.heap.size W we from bl).size
     exact ⟨rfl, we.heap.size, rfl, hle, (ArrB.mk_ we _ _ zero16 rfl rfl).row _, bl⟩
    ·
     go_simp
     refine kp hK hkeep ?_
     clear hK K
     refine on1 4 fun K hK => ?_
     go_simp
     refine (encrypted_any g k (cinU n ct) _ (hcipk _ bl) Hk.out (cinU_len Hn.out ct)).mono ?_
     rintro e we ⟨he, hbe⟩
     rw [← Hs.out] at he
     subst he
     refine kp hK hkeep ?_
     clear hK K
     refine on1 6 fun K hK => ?_
     refine step_store_row rfl 69 (.tmp 15) (.tmp 43) rfl wc.heap.size (s.map bv).toArray rfl rfl 69 (zero16.map bv).toArray ((hbe.block _ (by simp)).trans (heap_alloc_new _ _)) (size16 hsl) (same16 hsl zero16_len) (one_bvA _) ?_
     refine hK.out _ _ (fun h => absurd rfl h) ?_
     clear hK K
     refine doneT (by kernel_rfl) ?_ _
     have hle : W.heap.size ≤ wc.heap.size := (show Below W.heap.size W wc from bl).size
     exact ⟨rfl, wc.heap.size, rfl, hle, ((ArrB.mk_ wc _ _ zero16 rfl rfl).below hbe (by simp)).row _, bl⟩
   ·
    go_simp
    refine kp hK hkeep ?_
    clear hK K
    refine on1 3 fun K hK => ?_
    go_simp
    refine (counted_any n ct _ Hn.out hctl).mono ?_
    rintro e wc ⟨rfl, hbc⟩
    refine kp hK hkeep ?_
    clear hK K
    have hlc : W.drew.heap.size < wc.heap.size := by have := hbc.size; simp at this ⊢; omega
    refine on1 4 fun K hK => ?_
    go_simp
    refine (encrypted_any g k (cinU n ct) _ (hcipk _ bl) Hk.out (cinU_len Hn.out ct)).mono ?_
    rintro e we ⟨he, hbe⟩
    rw [← Hs.out] at he
    subst he
    refine kp hK hkeep ?_
    clear hK K
    refine on1 6 fun K hK => ?_
    refine step_store_row rfl 69 (.tmp 15) (.tmp 43) rfl W.drew.heap.size (s.map bv).toArray rfl rfl 69 (zero16.map bv).toArray ((hbe.block _ hlc).trans ((hbc.block _ (by simp)).trans (heap_alloc_new _ _))) (size16 hsl) (same16 hsl zero16_len) (one_bvA _) ?_
    refine hK.out _ _ (fun h => absurd rfl h) ?_
    clear hK K
    refine doneT (by kernel_rfl) ?_ _
    have hle : W.heap.size ≤ W.drew.heap.size := Nat.le_refl _
    exact ⟨rfl, W.drew.heap.size, rfl, hle, (((ArrB.mk_ W.drew _ _ zero16 rfl rfl).below hbc (by simp)).below hbe hlc).row _, bl⟩
  case behind =>
   rintro a' w5 ⟨gS, rfl, hgS, hS5, hb5⟩
   simp only [Act.put, sA, sZ, sS, chunkV]
   have hown5 := own_below_ hown hb5
   have hbel5 := hbel.trans (hb5.mono (by omega))
   have hlt5 := hS5.lt
   have hsz5 := hb5.size
   generalize hL : clen m x.1 = L at *
   obtain ⟨p, hp⟩ : ∃ p, p = 16 * x.1 := ⟨_, rfl⟩
   rw [← hp] at hfitc ⊢
   have Hp := Lib.hid hp
   have HL := Lib.hid hL
   have hcnt5 := (hb5.block (h2 + 1) (by omega)).trans hcnt
   clear hp hL hkeep hcipk hu hi1
   gi_wp2
   gi_loopw [46] (fun i wr => ∃ j : Nat, j ≤ L ∧ i = .int .i64 (j : Int) ∧ wr.ownsRow w.heap.size 5 1 (.slice (some ⟨gO, 0, none⟩) m c') m ((xorPart ys p s j).map bv) ∧ ArrB wr gS 69 s ∧ Far gO w5 wr ∧ Below w.heap.size w wr) (fun i _ => L - (intOf i).toNat)
   case atStart => exact ⟨0, Nat.zero_le _, rfl, by rw [xorPart_zero]; exact hown5, hS5, Far.refl _ _, hbel5⟩
   case round =>
    obtain ⟨j, hj, rfl, hor, hSr, hfar, hbr⟩ := hrel
    by_cases hlt : j < L
    ·
     have j0 : (0 : Int) ≤ (j : Int) := by omega
     have j1 : (j : Int) < (L : Int) := by omega
     have j16 : (j : Int) < 16 := by omega
     have hlx : p + j < ys.length := by rw [hyl]; omega
     have hxl := xorPart_at ys p s (j := j) hlx
     rw [if_neg (by omega)] at hxl
     obtain ⟨y, hy⟩ : ∃ y, y = at0 ys (p + j) := ⟨_, rfl⟩
     obtain ⟨sj, hsj⟩ : ∃ sj, sj = at0 s j := ⟨_, rfl⟩
     have cO : wr.cell? ⟨gO, p + j, none⟩ = some (.int .u8 (y.toNat : Int)) := by
      have h := hor.cells (g := gO) rfl (p + j) (bv y) (by rw [List.getElem?_map, hxl, hy]; rfl)
      rw [Addr.add_lit, Nat.zero_add] at h
      exact h
     have cS : wr.cell? ⟨gS, j, none⟩ = some (.int .u8 (sj.toNat : Int)) := hSr.cell (by rw [hsj]; exact at0_of (by omega))
     have fO : wr.drew.frozen? ⟨gO, p + j, none⟩ = false := own_free hor (p + j)
     have Hy := Lib.hid hy
     have Hsj := Lib.hid hsj
     have hbx := b_xor y sj
     clear hy hsj hxl
     gi_wp2
     refine cutR (fun a0 a' w' => a' = (((((((((a0.put (some 49) (.slice (some ⟨gO, p, none⟩) L L)).put (some 50) (.int .i64 (j : Int))).put (some 51) (.pointer (some ⟨gO, p + j, none⟩))).put (some 52) (.int .u8 (y.toNat : Int))).put (some 53) (.int .i64 (j : Int))).put (some 54) (.pointer (some ⟨gS, j, none⟩))).put (some 55) (.int .u8 (sj.toNat : Int))).put (some 56) (.int .u8 ((y ^^^ sj).toNat : Int))).put (some 57) (.pointer (some ⟨gO, p + j, none⟩))) ∧
      w' = wr.drew.setCell ⟨gO, p + j, none⟩ (.int .u8 ((y ^^^ sj).toNat : Int))) ?region ?behind
     case region =>
      refine beginR (fun wx => wx.cell? ⟨gO, p + j, none⟩ = some (.int .u8 (y.toNat : Int)) ∧ wx.cell? ⟨gS, j, none⟩ = some (.int .u8 (sj.toNat : Int))) 9 (by kernel_rfl) (by kernel_rfl) (fun _ _ h => by cases h.1) ?_
      have hS := And.intro (show wr.drew.cell? ⟨gO, p + j, none⟩ = some (.int .u8 (y.toNat : Int)) from cO) (show wr.drew.cell? ⟨gS, j, none⟩ = some (.int .u8 (sj.toNat : Int)) from cS)
      have hS1 := hS.1
      refine tk 0 (some 49) (.slice (some ⟨gO, p, none⟩) L L) (fun _ _ _ h => by cases h.1) hS ?_
      simp only [Act.put, sA, sZ, sS]
      refine tk 1 (some 50) (.int .i64 (j : Int)) (fun _ _ _ h => by cases h.1) hS ?_
      simp only [Act.put, sA, sZ, sS]
      refine tk 2 (some 51) (.pointer (some ⟨gO, p + j, none⟩)) (fun _ _ _ h => by cases h.1) hS ?_
      simp only [Act.put, sA, sZ, sS]
      refine takeD 3 (some 52) (.int .u8 (y.toNat : Int)) rfl rfl (by kernel_rfl) (by kernel_rfl) (by kernel_rfl) (by kernel_rfl) (fun _ _ _ h => by cases h.1) (Or.inl ⟨by kernel_rfl, fun wx hSw => by have h := hSw.1; go_simp⟩) hS ?_
      simp only [Act.put, sA, sZ, sS]
      refine tk 4 (some 53) (.int .i64 (j : Int)) (fun _ _ _ h => by cases h.1) hS ?_
      simp only [Act.put, sA, sZ, sS]
      refine tk 5 (some 54) (.pointer (some ⟨gS, j, none⟩)) (fun _ _ _ h => by cases h.1) hS ?_
      simp only [Act.put, sA, sZ, sS]
      refine takeD 6 (some 55) (.int .u8 (sj.toNat : Int)) rfl rfl (by kernel_rfl) (by kernel_rfl) (by kernel_rfl) (by kernel_rfl) (fun _ _ _ h => by cases h.1) (Or.inl ⟨by kernel_rfl, fun wx hSw => by have h := hSw.2; go_simp⟩) hS ?_
      simp only [Act.put, sA, sZ, sS]
      refine tk 7 (some 56) (.int .u8 ((y ^^^ sj).toNat : Int)) (fun _ _ _ h => by cases h.1) hS ?_
      simp only [Act.put, sA, sZ, sS]
      refine tk 8 (some 57) (.pointer (some ⟨gO, p + j, none⟩)) (fun _ _ _ h => by cases h.1) hS ?_
      simp only [Act.put, sA, sZ, sS]
      refine on1 9 fun K hK => ?_
      go_simp
      refine hK.out _ _ (fun h => absurd rfl h) ?_
      clear hK K
      refine doneT (by kernel_rfl) ?_ _
      exact ⟨rfl, rfl, rfl⟩
     case behind =>
      rintro a' w' ⟨rfl, rfl⟩
      simp only [Act.put, sA, sZ, sS]
      have ho2 := own_set (w := wr.drew) hor (show p + j < m by omega) (bv (y ^^^ sj))
      rw [← List.map_set, Hy.out, Hsj.out, ← xorPart_succ] at ho2
      rw [← Hy.out, ← Hsj.out] at ho2
      have hS2 : ArrB (wr.drew.setCell ⟨gO, p + j, none⟩ (.int .u8 ((y ^^^ sj).toNat : Int))) gS 69 s := hSr.drew.far (p := ⟨gO, p + j, none⟩) (show gS ≠ gO by omega) _
      have hf2 : Far gO w5 (wr.drew.setCell ⟨gO, p + j, none⟩ (.int .u8 ((y ^^^ sj).toNat : Int))) := Far.set (show Far gO w5 wr.drew from hfar) (p + j) _
      have hb2 := hbr.drew.setCell (p := ⟨gO, p + j, none⟩) (show w.heap.size ≤ gO by omega) (.int .u8 ((y ^^^ sj).toNat : Int))
      gi_wp2
      go_roundw
      case rel => exact ⟨j + 1, by omega, by simp, ho2, hS2, hf2, hb2⟩
      case measure => simp [intOf]; omega
    ·
     obtain rfl : j = L := by omega
     have hcr := (hfar.2 (h2 + 1) (by omega) (by omega)).trans hcnt5
     have c1 := one_cell hcr
     have c2 := one_free hcr
     have hct0 : (0 : Int) ≤ (ct : Int) := by omega
     gi_wp2
     have key : ∀ (u : Value) (y : Nat), y < W.heap.size → y ≠ gO → y ≠ h2 + 1 → (wr.setCell ⟨h2 + 1, 0, none⟩ u).heap[y]? = W.heap[y]? := fun u y hy h1 h2' =>
      ((Below.heap_setCell wr ⟨h2 + 1, 0, none⟩ u y h2').trans (hfar.2 y (by omega) h1)).trans (hb5.block y hy)
     have hgc : ∃ cur t, W.heap[gO]? = some (.cells cur t (0, 0)) := by
      rcases hown.2 with ⟨h0, _⟩ | ⟨gg, cap, cur, hv, _, hgg, _⟩
      ·
       cases h0
      ·
       injection hv with hv1
       injection hv1 with hv1
       injection hv1 with hv1
       subst hv1
       exact ⟨_, _, hgg⟩
     obtain ⟨cur, tt, hgc⟩ := hgc
     refine ⟨⟨by rw [World.size_setCell]; exact Nat.le_trans hsz5 hfar.1, fun y o hy ho => ?_⟩, ⟨key _ _ (by omega) (by omega) (by omega), key _ _ (by omega) (by omega) (by omega)⟩, ?_⟩
     ·
      have hyl' := (Array.getElem?_eq_some_iff.1 hy).1
      rw [key _ y hyl' (fun e => by subst e; rw [hgc] at hy; cases hy; cases ho) (fun e => by subst e; rw [hcnt] at hy; cases hy; cases ho)]
      exact hy
     ·
      refine ⟨⟨xorPart ys p s j, by rw [xorPart_len, hyl], own_far hor (by rw [World.size_setCell]; exact Nat.le_refl _) (fun y hy => Below.heap_setCell wr _ _ y (by simp [Value.ownBlock] at hy; show y ≠ h2 + 1; omega)), fun h => ?_⟩,
       hnon.of (key _ _ (by omega) (by omega) (by omega)), ArrB.of hcip (key _ _ (by omega) (by omega) (by omega)), (key _ _ (by omega) (by omega) (by omega)).trans hcel, ?_, by rw [World.size_setCell]; have := hfar.1; omega, hbr.setCell (p := ⟨h2 + 1, 0, none⟩) (by show _ ≤ h2 + 1; omega) _⟩
      ·
       rw [List.length_append, List.length_singleton] at h ⊢
       rw [List.map_append, List.range_succ] at h
       have h' := List.append_inj' h rfl
       have hxv : x.1 = pre.length := by simpa using h'.2
       rw [ctrTo, ← hyp h'.1, ← Hct.out, ← Hs.out, ← hxv, ← Hp.out]
       exact xorPart_all ys p s j (by have h3 := HL.out; unfold clen at h3; rw [hyl]; rw [← Hp.out] at h3; split at h3 <;> omega) hcl
      ·
       rw [one_set hcr, List.length_append, List.length_singleton, ← Nat.add_assoc, ← Hct.out]
       rw [show ((ct : Int) + 1) % 4294967296 = (((ct + 1) % 4294967296 : Nat) : Int) by omega]
 case done =>
  rintro D ys W hD rfl hst hK
  go_wp2
  obtain ⟨ys, hyl, hown, hyp⟩ := hst.out
  have hys : ys = ctrU k n f b := by
   have h := hyp (by rw [finRange_val, List.length_finRange])
   rw [List.length_finRange] at h
   rw [h, ctrU, hbl]
  rw [hys] at hown
  refine ⟨by simp, .inl ⟨_, _, rfl, run_takeDeferred hK, ?_⟩⟩
  refine ⟨_, results_tmp2 rfl _ _ _, A', c', rfl, ownsRow_putObj hown _ hK rfl, hst.bel.trans (belowK_b (w := w) (Nat.le_refl _) W D _ _ (by omega) hK rfl rfl)⟩
end Go.Proofs.YtbiijdboolpaeaaDoor
namespace Go.Proofs.YtbiijdboolpaeaaDoor
open Go.RowKit
theorem at0_some {l : List UInt8} {i : Nat} {v : UInt8} (h : l[i]? = some v) : at0 l i = v := by
 have hi : i < l.length := (List.getElem?_eq_some_iff.1 h).1
 have := at0_of hi
 rw [h] at this
 injection this with e
 exact e.symm
theorem at0_ext {l m : List UInt8} (hl : l.length = m.length) (h : ∀ i, i < l.length → at0 l i = at0 m i) : l = m := by
 apply List.ext_getElem?
 intro i
 by_cases hi : i < l.length
 ·
  rw [at0_of hi, at0_of (by omega), h i hi]
 ·
  rw [List.getElem?_eq_none (by omega), List.getElem?_eq_none (by omega)]
theorem xorAt_at (ys : List UInt8) (p : Nat) (s : List UInt8) {i : Nat} (hi : i < ys.length) : (xorAt ys p s)[i]? = some (if p ≤ i ∧ i < p + 16 then at0 ys i ^^^ at0 s (i - p) else at0 ys i) := by simp [xorAt, hi]
theorem ctrTo_at (k n : List UInt8) (f : Nat) (b : List UInt8) : ∀ J i, i < b.length → at0 (ctrTo k n f b J) i = if i / 16 < J then at0 b i ^^^ at0 (encU k (cinU n (f + i / 16))) (i % 16) else at0 b i
 | 0, i, hi => by rw [if_neg (by omega)]; rfl
 | J + 1, i, hi => by
  have ih := ctrTo_at k n f b J i hi
  have h := xorAt_at (ctrTo k n f b J) (16 * J) (encU k (cinU n (f + J))) (i := i) (by rw [ctrTo_len]; exact hi)
  rw [ctrTo, at0_some h]
  by_cases h1 : 16 * J ≤ i ∧ i < 16 * J + 16
  ·
   have hq : i / 16 = J := by omega
   rw [if_pos h1, ih, if_neg (by omega), if_pos (by omega), hq, show i - 16 * J = i % 16 by omega]
  ·
   rw [if_neg h1, ih]
   by_cases h2 : i / 16 < J
   ·
    rw [if_pos h2, if_pos (by omega)]
   ·
    rw [if_neg h2, if_neg (by omega)]
theorem ctrU_at (k n : List UInt8) (f : Nat) {b : List UInt8} {i : Nat} (hi : i < b.length) : at0 (ctrU k n f b) i = at0 b i ^^^ at0 (encU k (cinU n (f + i / 16))) (i % 16) := by
 rw [ctrU, ctrTo_at k n f b _ i hi, if_pos (by unfold nbs; omega)]
def streamL : List UInt8 := [115, 116, 114, 101, 97, 109]
def sumL : List UInt8 := [115, 117, 109]
def streamU (k b : List UInt8) : List UInt8 := ctrU ((expandU k streamL 28).take 16) ((expandU k streamL 28).drop 16) 0 b
def besideU (ts : List (List UInt8)) : List UInt8 := txs ts ++ be 4 ts.length
def tagU (k hidden : List UInt8) (ts : List (List UInt8)) : List UInt8 := (macU (expandU k sumL 32) (besideU ts ++ hidden)).take 16
def sealU (k plain : List UInt8) (ts : List (List UInt8)) : List UInt8 := streamU k plain ++ tagU k (streamU k plain) ts
def soundU (k b : List UInt8) (ts : List (List UInt8)) : Prop := tagU k (b.take (b.length - 16)) ts = b.drop (b.length - 16)
def openU (k b : List UInt8) : List UInt8 := streamU k (b.take (b.length - 16))
theorem streamK_len (k : List UInt8) : ((expandU k streamL 28).take 16).length = 16 := by simp [expandU_len]
theorem streamN_len (k : List UInt8) : ((expandU k streamL 28).drop 16).length = 12 := by simp [expandU_len]
theorem streamU_len (k b : List UInt8) : (streamU k b).length = b.length := ctrTo_len _ _ _ _ _
theorem tagU_len (k hidden : List UInt8) (ts : List (List UInt8)) : (tagU k hidden ts).length = 16 := by simp [tagU, macU_len]
theorem sealU_len (k plain : List UInt8) (ts : List (List UInt8)) : (sealU k plain ts).length = plain.length + 16 := by
 rw [sealU, List.length_append, streamU_len, tagU_len]
def maskU (k : List UInt8) (i : Nat) : UInt8 := at0 (encU ((expandU k streamL 28).take 16) (cinU ((expandU k streamL 28).drop 16) (0 + i / 16))) (i % 16)
theorem streamU_at (k : List UInt8) {b : List UInt8} {i : Nat} (h : i < b.length) : at0 (streamU k b) i = at0 b i ^^^ maskU k i := ctrU_at _ _ _ h
theorem xor_twice (a m : UInt8) : a ^^^ m ^^^ m = a := by rw [UInt8.xor_assoc, UInt8.xor_self, UInt8.xor_zero]
theorem streamU_twice (k b : List UInt8) : streamU k (streamU k b) = b := by
 refine at0_ext (by rw [streamU_len, streamU_len]) fun i hi => ?_
 rw [streamU_len, streamU_len] at hi
 rw [streamU_at k (by rw [streamU_len]; exact hi), streamU_at k hi, xor_twice]
theorem sealU_hidden (k plain : List UInt8) (ts : List (List UInt8)) : (sealU k plain ts).take ((sealU k plain ts).length - 16) = streamU k plain := by
 rw [sealU_len, Nat.add_sub_cancel, sealU]
 exact List.take_left' (streamU_len k plain)
theorem sealU_tail (k plain : List UInt8) (ts : List (List UInt8)) : (sealU k plain ts).drop ((sealU k plain ts).length - 16) = tagU k (streamU k plain) ts := by
 rw [sealU_len, Nat.add_sub_cancel, sealU]
 exact List.drop_left' (streamU_len k plain)
theorem sealU_sound (k plain : List UInt8) (ts : List (List UInt8)) : soundU k (sealU k plain ts) ts := by
 rw [soundU, sealU_hidden, sealU_tail]
theorem open_seal (k plain : List UInt8) (ts : List (List UInt8)) : openU k (sealU k plain ts) = plain := by
 rw [openU, sealU_hidden, streamU_twice]
theorem openU_len (k b : List UInt8) : (openU k b).length = b.length - 16 := by
 rw [openU, streamU_len, List.length_take]
 omega
end Go.Proofs.YtbiijdboolpaeaaDoor
