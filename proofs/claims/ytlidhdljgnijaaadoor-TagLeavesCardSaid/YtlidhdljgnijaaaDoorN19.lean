import Derived.Test.YtlidhdljgnijaaaDoorN04
import Derived.Test.YtlidhdljgnijaaaDoorN18
import Derived.Test.YtlidhdljgnijaaaDoorN11
import Derived.Laws.Tables
import Derived.Maps.AppendAt
/-
  ROWS OF KEYS: 32 bytes as cells, comparing them; rows that are carried, stored into; a struct built of parts.
-/
set_option linter.unusedVariables false
namespace Go.Proofs.YtlidhdljgnijaaaDoor
open Go.RowKit

/-- 32 bytes as cells -/
def keyC (l : List UInt8) : Array Value := (l.map bv).toArray

theorem infoKey : (Tryd.prog.info? 36).map (·.size) = some 32 := by kernel_rfl

theorem keyC_size (l : List UInt8) : (keyC l).size = l.length := by simp [keyC]

theorem sizeKey {l : List UInt8} (h : l.length = 32) : (Tryd.prog.info? 36).map (·.size) = some (keyC l).size := by rw [infoKey, keyC_size, h]

theorem one_keyF (l : List UInt8) : (keyC l).all (·.oneCell') = true := one_bvA l

theorem Ms.set {w0 w : World} {g : Nat} {t : TypeId} {cs : Array Value} {L : List (Nat × TypeId × Array Value)} (h : Ms w0 w ((g, t, cs) :: L)) (hg : w0.heap.size ≤ g) (hne : ∀ p ∈ L, p.1 ≠ g) (cs' : Array Value) :
    Ms w0 (w.setRow g cs') ((g, t, cs') :: L) :=
  ⟨below_setRow h.old hg _, fun p hp => by
    rcases List.mem_cons.1 hp with rfl | hp
    · exact (h.rows (g, t, cs) (by simp)).row cs'
    · exact (h.rows p (by simp [hp])).rowFar (hne p hp) cs'⟩

theorem Ms.setCell {w0 w : World} {g : Nat} {t : TypeId} {cs : Array Value} {L : List (Nat × TypeId × Array Value)} (h : Ms w0 w ((g, t, cs) :: L)) (hg : w0.heap.size ≤ g) (hne : ∀ p ∈ L, p.1 ≠ g) (i : Nat) (v : Value) :
    Ms w0 (w.setCell ⟨g, i, none⟩ v) ((g, t, cs.setIfInBounds i v) :: L) :=
  ⟨h.old.setCell hg _, fun p hp => by
    rcases List.mem_cons.1 hp with rfl | hp
    · exact (h.rows (g, t, cs) (by simp)).set_ i v
    · exact (h.rows p (by simp [hp])).far (hne p hp) v⟩

theorem wpList_buildP {P : Program} {ops : Array Oper} {rest : List Oper} {o : Oper} {a : Act} {w : World} {Q : Exit → Act → World → Prop} (hg : o.guard = none) (t : TypeId) (parts : Array (Nat × Operand)) (ho : o.op = .build t parts)
    (vals : Array (Nat × Value)) (hv : (parts.map fun (i, x) => (i, a.eval x)) = vals) (cells : Array Value) (hf : (Instr.build t vals).run P w = .ok (.agg cells) w)
    (h : wpList P ops Q rest (a.put o.dst (.agg cells)) w) : wpList P ops Q (o :: rest) a w := by
  subst hv
  refine wpList_plain hg fun _ hK => ?_
  unfold Oper.wp execOp
  simp only [ho, Sem.run_bind, hf, Result.andThen_ok, Sem.run_pure]
  exact hK _ _ h

theorem RowC.rdK {w : World} {g : Nat} {t : TypeId} {l : List UInt8} (h : RowC w g t (keyC l)) {n : Nat} (hn : l.length = n) : Rd w w.heap.size (Option.some ⟨g, 0, none⟩) n (l.map bv) :=
  ⟨by rw [List.length_map, hn], fun _ => ⟨g, 0, rfl, h.lt, fun j u hu => by rw [Nat.zero_add]; exact h.cell (by simpa [keyC] using hu)⟩⟩

theorem fold_set : ∀ (vs : List Value) (k : Nat) (zs : Array Value), k + vs.length ≤ zs.size →
    ((vs.zipIdx k).foldl (fun cs x => cs.setIfInBounds (0 + x.2) x.1) zs).toList = splice zs.toList k vs
  | [], k, zs, _ => by simp [splice]
  | v :: r, k, zs, h => by
    simp only [List.length_cons] at h
    simp only [List.zipIdx_cons, List.foldl_cons]
    rw [fold_set r (k + 1) _ (by simp; omega), Nat.zero_add, Array.toList_setIfInBounds, splice_set _ _ _ _ (by simp; omega)]

end Go.Proofs.YtlidhdljgnijaaaDoor

/-
  ROWS OF KEYS that stand anywhere (layer 13): n keys in a row of bytes, read by places.
-/
set_option linter.unusedVariables false
namespace Go.Proofs.YtlidhdljgnijaaaDoor
open Go.RowKit

/-- key i of a row of bytes -/
def keyI (xs : List UInt8) (i : Nat) : List UInt8 := (xs.drop (i * 32)).take 32
def zeroK : List UInt8 := List.replicate 32 0
theorem zeroK_len : zeroK.length = 32 := rfl
theorem keyC_zero : keyC zeroK = #[.int .u8 0, .int .u8 0, .int .u8 0, .int .u8 0, .int .u8 0, .int .u8 0, .int .u8 0, .int .u8 0, .int .u8 0, .int .u8 0, .int .u8 0, .int .u8 0, .int .u8 0, .int .u8 0, .int .u8 0, .int .u8 0, .int .u8 0, .int .u8 0, .int .u8 0, .int .u8 0, .int .u8 0, .int .u8 0, .int .u8 0, .int .u8 0, .int .u8 0, .int .u8 0, .int .u8 0, .int .u8 0, .int .u8 0, .int .u8 0, .int .u8 0, .int .u8 0] := by rfl
/-- n keys are read -/
structure KyR (w : World) (B : Nat) (A : Option Addr) (n c : Nat) (xs : List UInt8) : Prop where
  row : Rd w B A (n * 32) (xs.map bv)
  hnc : n ≤ c
  hcm : c ≤ maxLen
section
variable {w w' : World} {B B' n c : Nat} {A : Option Addr} {xs : List UInt8}
theorem KyR.below (h : KyR w B A n c xs) (hb : Below B w w') : KyR w' B A n c xs := ⟨h.row.below hb, h.hnc, h.hcm⟩
theorem KyR.more (h : KyR w B A n c xs) (hb : B ≤ B') : KyR w B' A n c xs := ⟨h.row.more hb, h.hnc, h.hcm⟩
theorem KyR.len (h : KyR w B A n c xs) : xs.length = n * 32 := by simpa using h.row.len
theorem keyI_len (h : xs.length = n * 32) {i : Nat} (hi : i < n) : (keyI xs i).length = 32 := by
  have : (i + 1) * 32 ≤ n * 32 := Nat.mul_le_mul_right _ hi
  rw [keyI, List.length_take, List.length_drop, h]
  omega
/-- key i's cells -/
theorem KyR.range (h : KyR w B A n c xs) {i : Nat} (hi : i < n) : ∃ b o, A = some ⟨b, o, none⟩ ∧ b < B ∧ w.rangeAt b (o + i * 32) (keyC (keyI xs i)).toList := by
  obtain ⟨b, o, e, hb, hc⟩ := h.row.pos (by omega)
  refine ⟨b, o, e, hb, fun j u hu => ?_⟩
  have hu' : ((keyI xs i).map bv)[j]? = some u := by simpa [keyC] using hu
  rw [List.getElem?_map, keyI, List.getElem?_take] at hu'
  split at hu'
  · rw [List.getElem?_drop, ← List.getElem?_map] at hu'
    have := hc (i * 32 + j) u hu'
    rwa [← Nat.add_assoc] at this
  · simp at hu'
theorem keyI_app_lt {ys : List UInt8} (hx : xs.length = n * 32) {i : Nat} (hi : i < n) : keyI (xs ++ ys) i = keyI xs i := by
  have : (i + 1) * 32 ≤ n * 32 := Nat.mul_le_mul_right _ hi
  rw [keyI, keyI, List.drop_append_of_le_length (by omega), List.take_append_of_le_length (by rw [List.length_drop]; omega)]
theorem keyI_app_eq {ys : List UInt8} (hx : xs.length = n * 32) (hy : ys.length = 32) : keyI (xs ++ ys) n = ys := by
  rw [keyI, ← hx, List.drop_append_of_le_length (Nat.le_refl _), List.drop_length, List.nil_append, List.take_of_length_le (by omega)]
end
theorem eql_keyK (w : World) (a b : List UInt8) (ha : a.length = 32) (hb : b.length = 32) :
    (binOp .eql 36 (.agg (keyC a)) (.agg (keyC b))).run Tryd.prog w = .ok (.bool (a == b)) w := eql_key w a b ha hb
theorem sizeKeyL {l : List UInt8} (h : l.length = 32) : (Tryd.prog.info? 36).map (·.size) = some (keyC l).toList.length := by simpa using sizeKey h
theorem RowC.mid {w : World} {g : Nat} {t : TypeId} {cs : Array Value} (h : RowC w g t cs) (o : Nat) (L : List Value) (hs : ∀ (j : Nat) (u : Value), L[j]? = some u → cs[o + j]? = some u) : w.rangeAt g o L := fun j u hu => h.cell (hs j u hu)

theorem infoKeyK : (Tryd.prog.info? 36).map (fun i => (i.zero, i.size, i.bytes)) = some (some (.agg #[.int .u8 0, .int .u8 0, .int .u8 0, .int .u8 0, .int .u8 0, .int .u8 0, .int .u8 0, .int .u8 0, .int .u8 0, .int .u8 0, .int .u8 0, .int .u8 0, .int .u8 0, .int .u8 0, .int .u8 0, .int .u8 0, .int .u8 0, .int .u8 0, .int .u8 0, .int .u8 0, .int .u8 0, .int .u8 0, .int .u8 0, .int .u8 0, .int .u8 0, .int .u8 0, .int .u8 0, .int .u8 0, .int .u8 0, .int .u8 0, .int .u8 0, .int .u8 0]), 32, 32) := by kernel_rfl
theorem fold_keyK {l : List UInt8} (h : l.length = 32) : Array.foldl (fun cs x => cs.setIfInBounds x.snd x.fst) (#[.int .u8 0, .int .u8 0, .int .u8 0, .int .u8 0, .int .u8 0, .int .u8 0, .int .u8 0, .int .u8 0, .int .u8 0, .int .u8 0, .int .u8 0, .int .u8 0, .int .u8 0, .int .u8 0, .int .u8 0, .int .u8 0, .int .u8 0, .int .u8 0, .int .u8 0, .int .u8 0, .int .u8 0, .int .u8 0, .int .u8 0, .int .u8 0, .int .u8 0, .int .u8 0, .int .u8 0, .int .u8 0, .int .u8 0, .int .u8 0, .int .u8 0, .int .u8 0] : Array Value) (keyC l).zipIdx 0 32 = keyC l := by
  apply Array.ext'
  have e : 32 = (keyC l).zipIdx.size := by simp [keyC, h]
  rw [e, ← Array.foldl_toList, Array.toList_zipIdx]
  have := fold_set (keyC l).toList 0 (#[.int .u8 0, .int .u8 0, .int .u8 0, .int .u8 0, .int .u8 0, .int .u8 0, .int .u8 0, .int .u8 0, .int .u8 0, .int .u8 0, .int .u8 0, .int .u8 0, .int .u8 0, .int .u8 0, .int .u8 0, .int .u8 0, .int .u8 0, .int .u8 0, .int .u8 0, .int .u8 0, .int .u8 0, .int .u8 0, .int .u8 0, .int .u8 0, .int .u8 0, .int .u8 0, .int .u8 0, .int .u8 0, .int .u8 0, .int .u8 0, .int .u8 0, .int .u8 0] : Array Value) (by simp [keyC, h])
  simp only [Nat.zero_add] at this
  rw [this]
  simp [splice, keyC, h]
theorem own_slK {w : World} {base : Nat} {e : TypeId} {size : Nat} {v : Value} {n : Nat} {xs : List Value} (h : w.ownsRow base e size v n xs) : ∃ A c, v = .slice A n c ∧ n ≤ c ∧ c ≤ maxLen := by
  rcases h.2 with ⟨h1, h2⟩ | ⟨g, cap, cur, h1, _, _, h2, h3, _⟩
  · subst h2
    exact ⟨none, 0, h1, by omega, by simp [maxLen]⟩
  · exact ⟨_, _, h1, h2, h3⟩
/-- an own row of keys, read -/
theorem KyR.of_own {w : World} {base n c : Nat} {A : Option Addr} {xs : List UInt8} (h : w.ownsRow base 36 32 (.slice A n c) n (xs.map bv)) : KyR w w.heap.size A n c xs := by
  obtain ⟨A', c', e, h1, h2⟩ := own_slK h
  injection e with _ _ e
  subst e
  refine ⟨⟨by simpa using h.1, fun hn => ?_⟩, h1, h2⟩
  rcases h.2 with ⟨_, h0⟩ | ⟨g, cap, cur, hv, _, hg, _, _, _, ht⟩
  · omega
  · injection hv with h1
    refine ⟨g, 0, h1, (Array.getElem?_eq_some_iff.1 hg).1, fun j u hu => ?_⟩
    rw [← ht, List.getElem?_take] at hu
    split at hu
    · rw [Nat.zero_add, cell_of_row w g j cur 36 (0, 0) hg, ← Array.getElem?_toList]
      exact hu
    · cases hu
theorem rangeW {w w' : World} {B b o : Nat} {cs : List Value} (h : w.rangeAt b o cs) (hb : b < B) (hw : Below B w w') : w'.rangeAt b o cs := fun j u hu => by
  rw [World.cell?_of_block (hw.block _ hb)]
  exact h j u hu
section
variable {P : Program} (w : World)
/-- append of what reads as 'news' (nil let in), of elements of so many cells, onto a row of the call's own -/
theorem run_append_ky (base : Nat) (t ty e : TypeId) (i : TypeInfo) (z : Value) (size bytes : Nat) (ht : P.underlying t = some (.slice e)) (hi : P.info? e = some i) (hz : i.zero = some z)
    (hsize : i.size = size) (hby : i.bytes = bytes) (hzs : z.cells.size = size) (hs0 : 0 < size)
    (v : Value) (n : Nat) (xs : List Value) (hown : w.ownsRow base e size v n xs)
    (B : Nat) (A : Option Addr) (m c : Nat) (news : List Value) (hr : Rd w B A (m * size) news) (h1 : ∀ u ∈ news, u.oneCell' = true)
    (h63 : n + m ≤ maxLen) (hbytes : (n + m) * bytes ≤ 140737488355328) (hbase : base ≤ w.heap.size) :
    ∃ v' w', (Builtin.append_ #[t, t] ty #[v, .slice A m c]).run P w = .ok v' w' ∧ w'.ownsRow base e size v' (n + m) (xs ++ news) ∧ w.grownBy w' v.ownBlock ∧
      (v'.ownBlock = v.ownBlock ∨ v'.ownBlock = some w.heap.size) := by
  rcases A with _ | ad
  · have hm : m = 0 := by
      rcases Nat.eq_zero_or_pos m with h0 | h0
      · exact h0
      · obtain ⟨b, o, h, _⟩ := hr.pos (Nat.mul_pos h0 hs0)
        cases h
    subst hm
    have hn : news = [] := List.eq_nil_of_length_eq_zero (by have := hr.len; omega)
    subst hn
    refine ⟨v, w, ?_, by simpa using hown, World.grownBy.refl w _, .inl rfl⟩
    rcases hown.2 with ⟨rfl, rfl⟩ | ⟨g, cap, cur, rfl, _, _, hnc, _⟩
    · simp [Builtin.append_, run_underlying ht, sizeOf, typeInfo, hi, Builtin.lenOf, Builtin.firstCells]
    · simp [Builtin.append_, run_underlying ht, sizeOf, typeInfo, hi, Builtin.lenOf, Builtin.firstCells, hnc, storeCells]
  · have hcells : ∀ j u, news[j]? = some u → w.cell? (ad.add j) = some u := by
      intro j u hu
      have hp : 0 < m * size := by
        have := (List.getElem?_eq_some_iff.1 hu).1
        have := hr.len
        omega
      obtain ⟨b, o, h, _, hc⟩ := hr.pos hp
      injection h with h
      subst h
      rw [Addr.add_lit]
      exact hc j u hu
    obtain ⟨v', w', hrun, h2, h3, _, h5⟩ := run_append_own_at (P := P) w base t ty e i z size bytes ht hi hz hsize hby hzs hs0 v n xs hown ad m c news hr.len hcells h1 h63 hbytes hbase
    exact ⟨v', w', hrun, h2, h3, h5⟩
theorem wpList_append_ky {ops : Array Oper} {rest : List Oper} {o : Oper} {a : Act} {Q : Exit → Act → World → Prop} (hgd : Region.wanted o (yielded ops a.tmps) = true) (s x : Operand) (t : TypeId)
    (ho : o.op = .call { callee := .builtin .append, args := #[s, x], argTypes := #[t, t] })
    (base : Nat) (e : TypeId) (i : TypeInfo) (z : Value) (size bytes : Nat) (ht : P.underlying t = some (.slice e)) (hi : P.info? e = some i) (hz : i.zero = some z)
    (hsize : i.size = size) (hby : i.bytes = bytes) (hzs : z.cells.size = size) (hs0 : 0 < size)
    (v : Value) (n : Nat) (xs : List Value) (hs : a.eval s = v) (hown : w.ownsRow base e size v n xs)
    (B : Nat) (A : Option Addr) (m c : Nat) (news : List Value) (hx : a.eval x = .slice A m c) (hr : Rd w B A (m * size) news) (h1 : ∀ u ∈ news, u.oneCell' = true)
    (h63 : n + m ≤ maxLen) (hbytes : (n + m) * bytes ≤ 140737488355328) (hbase : base ≤ w.heap.size)
    (h : ∀ v' w', w'.ownsRow base e size v' (n + m) (xs ++ news) → w.grownBy w' v.ownBlock → (v'.ownBlock = v.ownBlock ∨ v'.ownBlock = some w.heap.size) → wpList P ops Q rest (a.put o.dst v') w') : wpList P ops Q (o :: rest) a w := by
  refine wpList_step fun _ hK => ?_
  rw [if_pos hgd]
  obtain ⟨v', w', hrun, h2, h3, h4⟩ := run_append_ky (P := P) w base t o.type e i z size bytes ht hi hz hsize hby hzs hs0 v n xs hown B A m c news hr h1 h63 hbytes hbase
  unfold Oper.wp execOp
  simp only [ho, resolve, invoke, builtin, Sem.run_bind, Sem.run_pure, Result.andThen_ok, List.map_toArray, List.map_cons, List.map_nil, hs, hx, hrun]
  exact hK _ _ (h v' w' h2 h3 h4)
end
/-- a number of a row -/
theorem rdI_num {w : World} {B : Nat} {A : Option Addr} {n : Nat} {xs : List Int} (h : Rd w B A n (xs.map (fun x => Value.int .i64 x))) {k : Nat} (hk : k < n) : ∃ b o x, A = some ⟨b, o, none⟩ ∧ b < B ∧ xs[k]? = some x ∧ w.cell? ⟨b, o + k, none⟩ = some (.int .i64 x) := by
  obtain ⟨b, o, e, hb, hc⟩ := h.pos (by omega)
  have hl : k < xs.length := by have := h.len; rw [List.length_map] at this; omega
  refine ⟨b, o, xs[k], e, hb, List.getElem?_eq_getElem hl, hc k _ ?_⟩
  rw [List.getElem?_map, List.getElem?_eq_getElem hl]
  rfl
theorem flat_le {α : Type} {f : α → List UInt8} {m : Nat} : ∀ (l : List α), (∀ x ∈ l, (f x).length ≤ m) → (l.flatMap f).length ≤ m * l.length
  | [], _ => by simp
  | x :: l, h => by
    have h1 := flat_le l (fun y hy => h y (by simp [hy]))
    have h2 := h x (by simp)
    rw [List.flatMap_cons, List.length_append, List.length_cons, Nat.mul_succ]
    omega

end Go.Proofs.YtlidhdljgnijaaaDoor

