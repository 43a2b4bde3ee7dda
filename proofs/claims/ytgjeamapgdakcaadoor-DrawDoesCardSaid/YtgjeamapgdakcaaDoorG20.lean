import Derived.Test.YtgjeamapgdakcaaDoorG18
import Derived.Test.YtgjeamapgdakcaaDoorG15
import Derived.Test.YtgjeamapgdakcaaDoorG19
import Derived.Laws.Tables
/-
  ROWS OF KEYS: 32 bytes as cells, comparing them; rows that are carried, stored into; a struct built of parts.
-/
set_option linter.unusedVariables false
namespace Go.Proofs.YtgjeamapgdakcaaDoor
open Go.RowKit

/-- 32 bytes as cells -/
def keyC (l : List UInt8) : Array Value := (l.map bv).toArray

theorem infoKey : (Tryd.prog.info? 24).map (·.size) = some 32 := by kernel_rfl

theorem keyC_size (l : List UInt8) : (keyC l).size = l.length := by simp [keyC]

theorem sizeKey {l : List UInt8} (h : l.length = 32) : (Tryd.prog.info? 24).map (·.size) = some (keyC l).size := by rw [infoKey, keyC_size, h]

theorem one_keyF (l : List UInt8) : (keyC l).all (·.oneCell') = true := one_bvA l

theorem keyC_at {l : List UInt8} {i : Nat} {x : UInt8} (h : l[i]? = some x) : (keyC l)[i]? = some (.int .u8 (x.toNat : Int)) := by simp [keyC, h, bv]

theorem keyC_set (l : List UInt8) (i : Nat) (x : UInt8) : (keyC l).setIfInBounds i (.int .u8 (x.toNat : Int)) = keyC (l.set i x) := by simp [keyC, List.map_set, bv]

theorem Ms.set {w0 w : World} {g : Nat} {t : TypeId} {cs : Array Value} {L : List (Nat × TypeId × Array Value)} (h : Ms w0 w ((g, t, cs) :: L)) (hg : w0.heap.size ≤ g) (hne : ∀ p ∈ L, p.1 ≠ g) (cs' : Array Value) :
    Ms w0 (w.setRow g cs') ((g, t, cs') :: L) :=
  ⟨below_setRow h.old hg _, fun p hp => by
    rcases List.mem_cons.1 hp with rfl | hp
    · exact (h.rows (g, t, cs) (by simp)).row cs'
    · exact (h.rows p (by simp [hp])).rowFar (hne p hp) cs'⟩

theorem Ms.swap {w0 w : World} {x y : Nat × TypeId × Array Value} {L : List (Nat × TypeId × Array Value)} (h : Ms w0 w (x :: y :: L)) : Ms w0 w (y :: x :: L) :=
  ⟨h.old, fun p hp => h.rows p (by simp only [List.mem_cons] at hp ⊢; rcases hp with h | h | h <;> simp [h])⟩

theorem Ms.beh {w0 w w' : World} {g : Nat} {t : TypeId} {cs cs' : Array Value} {L : List (Nat × TypeId × Array Value)} (h : Ms w0 w ((g, t, cs) :: L)) (hg : w0.heap.size ≤ g) (hne : ∀ p ∈ L, p.1 ≠ g) (hr : RowC w' g t cs')
    (hfar : ∀ k, k ≠ g → k < w.heap.size → w'.heap[k]? = w.heap[k]?) (hb : ∀ B, B ≤ g → Below B w w') : Ms w0 w' ((g, t, cs') :: L) :=
  ⟨h.old.trans (hb _ hg), fun p hp => by
    rcases List.mem_cons.1 hp with rfl | hp
    · exact hr
    · have h1 := h.rows p (by simp [hp])
      exact h1.of (hfar _ (hne p hp) h1.lt)⟩

theorem Ms.setCell {w0 w : World} {g : Nat} {t : TypeId} {cs : Array Value} {L : List (Nat × TypeId × Array Value)} (h : Ms w0 w ((g, t, cs) :: L)) (hg : w0.heap.size ≤ g) (hne : ∀ p ∈ L, p.1 ≠ g) (i : Nat) (v : Value) :
    Ms w0 (w.setCell ⟨g, i, none⟩ v) ((g, t, cs.setIfInBounds i v) :: L) :=
  ⟨h.old.setCell hg _, fun p hp => by
    rcases List.mem_cons.1 hp with rfl | hp
    · exact (h.rows (g, t, cs) (by simp)).set_ i v
    · exact (h.rows p (by simp [hp])).far (hne p hp) v⟩

theorem Ms.sub {w0 w : World} {L L' : List (Nat × TypeId × Array Value)} (h : Ms w0 w L) (hs : ∀ p ∈ L', p ∈ L) : Ms w0 w L' := ⟨h.old, fun p hp => h.rows p (hs p hp)⟩

theorem Ms.set2 {w0 w : World} {g g' : Nat} {t t' : TypeId} {cs cs' ds ds' : Array Value} {L : List (Nat × TypeId × Array Value)} (h : Ms w0 w ((g, t, cs) :: (g', t', cs') :: L)) (hg : w0.heap.size ≤ g) (hg' : w0.heap.size ≤ g') (hgg : g ≠ g')
    (hne : ∀ p ∈ L, p.1 ≠ g) (hne' : ∀ p ∈ L, p.1 ≠ g') : Ms w0 ((w.setRow g ds).setRow g' ds') ((g, t, ds) :: (g', t', ds') :: L) :=
  (Ms.set (Ms.swap (Ms.set h hg (fun p hp => by
    rcases List.mem_cons.1 hp with rfl | hp
    · exact Ne.symm hgg
    · exact hne p hp) ds)) hg' (fun p hp => by
    rcases List.mem_cons.1 hp with rfl | hp
    · exact hgg
    · exact hne' p hp) ds').swap

theorem eql_keyF (w : World) (a b : List UInt8) (ha : a.length = 32) (hb : b.length = 32) :
    (Op.equalIn 10000 24 (.agg (keyC a)) (.agg (keyC b))).run Tryd.prog w = .ok (a == b) w := by
  obtain ⟨i, hi⟩ := byte_info
  exact run_eqlRow w false Tryd.underlying24 Tryd.underlying5 hi byteCells bv (fun x => (x.toNat : Int)) (fun _ => rfl) bv_inj 0 a b ha hb

/-- a build of parts, as an operation of a region -/
theorem step_build {P : Program} {w : World} {ops : Array Oper} {o : Oper} {a : Act} {K : Act → World → Prop} {Q : Exit → Act → World → Prop} {E : Prop} (hgd : Region.wanted o (yielded ops a.tmps) = true) (dst : Option Tmp) (hd : o.dst = dst) (t : TypeId) (parts : Array (Nat × Operand)) (ho : o.op = .build t parts)
    (vals : Array (Nat × Value)) (hv : (parts.map fun (i, x) => (i, a.eval x)) = vals) (cells : Array Value) (hf : (Instr.build t vals).run P w = .ok (.agg cells) w)
    (h : K (a.put dst (.agg cells)) w) : if Region.wanted o (yielded ops a.tmps) = true then Oper.wp P o a w K Q else E := by
  subst hv hd
  rw [if_pos hgd]
  unfold Oper.wp execOp
  simp only [ho, Sem.run_bind, hf, Result.andThen_ok, Sem.run_pure]
  exact h

/-- the same, where it yields whatever the world -/
theorem yields_build {P : Program} {ops : Array Oper} {S : World → Prop} {o : Oper} {a : Act} (hgd : Region.wanted o (yielded ops a.tmps) = true) (t : TypeId) (parts : Array (Nat × Operand)) (ho : o.op = .build t parts)
    (vals : Array (Nat × Value)) (hv : (parts.map fun (i, x) => (i, a.eval x)) = vals) (cells : Array Value) (hf : ∀ w, (Instr.build t vals).run P w = .ok (.agg cells) w) : YieldsIf P ops S o (.agg cells) a := by
  subst hv
  refine Or.inl ⟨hgd, fun w _ => ?_⟩
  unfold execOp
  simp only [ho, Sem.run_bind, hf, Result.andThen_ok, Sem.run_pure]

theorem wpList_buildP {P : Program} {ops : Array Oper} {rest : List Oper} {o : Oper} {a : Act} {w : World} {Q : Exit → Act → World → Prop} (hg : o.guard = none) (t : TypeId) (parts : Array (Nat × Operand)) (ho : o.op = .build t parts)
    (vals : Array (Nat × Value)) (hv : (parts.map fun (i, x) => (i, a.eval x)) = vals) (cells : Array Value) (hf : (Instr.build t vals).run P w = .ok (.agg cells) w)
    (h : wpList P ops Q rest (a.put o.dst (.agg cells)) w) : wpList P ops Q (o :: rest) a w := by
  subst hv
  refine wpList_plain hg fun _ hK => ?_
  unfold Oper.wp execOp
  simp only [ho, Sem.run_bind, hf, Result.andThen_ok, Sem.run_pure]
  exact hK _ _ h

theorem RowC.rdK {w : World} {g : Nat} {t : TypeId} {l : List UInt8} (h : RowC w g t (keyC l)) {n : Nat} (hn : l.length = n) : Rd w w.heap.size (Option.some ⟨g, 0, none⟩) n (l.map bv) :=
  ⟨by rw [List.length_map, hn], fun _ => ⟨g, 0, rfl, h.lt, fun j u hu => by rw [Nat.zero_add]; exact h.cell (by simpa [keyC] using hu)⟩⟩

theorem fold_set : ∀ (vs : List Value) (k : Nat) (zs : Array Value), k + vs.length ≤ zs.size →
    ((vs.zipIdx k).foldl (fun cs x => cs.setIfInBounds (0 + x.2) x.1) zs).toList = splice zs.toList k vs
  | [], k, zs, _ => by simp [splice]
  | v :: r, k, zs, h => by
    simp only [List.length_cons] at h
    simp only [List.zipIdx_cons, List.foldl_cons]
    rw [fold_set r (k + 1) _ (by simp; omega), Nat.zero_add, Array.toList_setIfInBounds, splice_set _ _ _ _ (by simp; omega)]

theorem fill_first (zs cs : Array Value) (place : Nat → Option (Nat × Nat)) (hp : place 0 = some (0, cs.size)) (h : cs.size ≤ zs.size) :
    Instr.fill place zs [(0, .agg cs)] = some (splice zs.toList 0 cs.toList).toArray := by
  have hc : (Value.agg cs).cells = cs := rfl
  simp only [Instr.fill, hp, hc]
  rw [if_neg (by simp; omega)]
  congr 1
  apply Array.ext'
  rw [← Array.foldl_toList, Array.toList_zipIdx]
  have := fold_set cs.toList 0 zs (by simpa using h)
  simpa using this

end Go.Proofs.YtgjeamapgdakcaaDoor

