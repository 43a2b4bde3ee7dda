import Derived.Test.YtlidhdljgnijaaaDoorL04
import Derived.Lib.AppendZerosOnto
import Derived.Lib.Overlaps
/-
  ROWS OF THE CALL'S OWN that grow and shrink: copy, append and clear in place, and slices.Clone, Insert and Delete over them.
-/
set_option linter.unusedVariables false
namespace Go.Proofs.YtlidhdljgnijaaaDoor
open Go.RowKit

section
variable {P : Program} {ops : Array Oper} {rest : List Oper} {o : Oper} {a : Act} {w : World} {Q : Exit → Act → World → Prop}
theorem wpList_copyT (hgd : Region.wanted o (yielded ops a.tmps) = true) (d s : Operand) (dT sT : TypeId)
    (ho : o.op = .call { callee := .builtin .copy, args := #[d, s], argTypes := #[dT, sT] }) (v u : Value) (hd : a.eval d = v) (hs : a.eval s = u) {v' : Value} {w' : World}
    (hr : (Builtin.copy_ #[dT, sT] o.type #[v, u]).run P w = .ok v' w') (h : wpList P ops Q rest (a.put o.dst v') w') : wpList P ops Q (o :: rest) a w := by
  refine wpList_step fun _ hK => ?_
  rw [if_pos hgd]
  unfold Oper.wp execOp
  simp only [ho, resolve, invoke, builtin, Sem.run_bind, Sem.run_pure, Result.andThen_ok, List.map_toArray, List.map_cons, List.map_nil, hd, hs, hr]
  exact hK _ _ h
theorem wpList_appendT (hgd : Region.wanted o (yielded ops a.tmps) = true) (d s : Operand) (dT sT : TypeId)
    (ho : o.op = .call { callee := .builtin .append, args := #[d, s], argTypes := #[dT, sT] }) (v u : Value) (hd : a.eval d = v) (hs : a.eval s = u) {v' : Value} {w' : World}
    (hr : (Builtin.append_ #[dT, sT] o.type #[v, u]).run P w = .ok v' w') (h : wpList P ops Q rest (a.put o.dst v') w') : wpList P ops Q (o :: rest) a w := by
  refine wpList_step fun _ hK => ?_
  rw [if_pos hgd]
  unfold Oper.wp execOp
  simp only [ho, resolve, invoke, builtin, Sem.run_bind, Sem.run_pure, Result.andThen_ok, List.map_toArray, List.map_cons, List.map_nil, hd, hs, hr]
  exact hK _ _ h
theorem wpList_clearT (hgd : Region.wanted o (yielded ops a.tmps) = true) (d : Operand) (dT : TypeId)
    (ho : o.op = .call { callee := .builtin .clear, args := #[d], argTypes := #[dT] }) (v : Value) (hd : a.eval d = v) {v' : Value} {w' : World}
    (hr : (Builtin.clear_ #[dT] o.type #[v]).run P w = .ok v' w') (h : wpList P ops Q rest (a.put o.dst v') w') : wpList P ops Q (o :: rest) a w := by
  refine wpList_step fun _ hK => ?_
  rw [if_pos hgd]
  unfold Oper.wp execOp
  simp only [ho, resolve, invoke, builtin, Sem.run_bind, Sem.run_pure, Result.andThen_ok, List.map_toArray, List.map_cons, List.map_nil, hd, hr]
  exact hK _ _ h
theorem run_clear_one (t ty e : TypeId) (i : TypeInfo) (z : Value) (ht : P.underlying t = some (.slice e)) (hi : P.info? e = some i) (hz : i.zero = some z) (hzc : z.cells = #[z]) (h1 : z.oneCell' = true)
    (g k c : Nat) (cur : Array Value) (t' : TypeId) (hg : RowC w g t' cur) (hfit : k < cur.size) :
    (Builtin.clear_ #[t] ty #[.slice (some ⟨g, k, none⟩) 1 c]).run P w = .ok (.tuple #[]) (w.setRow g (cur.toList.take k ++ [z] ++ cur.toList.drop (k + 1)).toArray) := by
  have hst := run_storeCells_at P g k t' [z] 0 cur w hg (by simp; omega) (by simp [h1])
  have hzz : (Builtin.zeroCells #[z] 1).toList = [z] := by simp [Builtin.zeroCells]
  simp [Builtin.clear_, run_underlying ht, zeroValue, typeInfo, hi, hz, hzc, hzz]
  simp only [Nat.add_zero, List.length_cons, List.length_nil, Nat.zero_add, List.append_assoc, List.cons_append, List.nil_append] at hst
  rw [hst]
  rfl
/-- append where there is room, of cells from wherever -/
theorem run_append_here (t ty e : TypeId) (i : TypeInfo) (ht : P.underlying t = some (.slice e)) (hi : P.info? e = some i) (hz : i.size = 1)
    (g n c m cc k : Nat) (ad : Addr) (cur : Array Value) (t' : TypeId) (news : List Value) (hg : RowC w g t' cur) (hl : news.length = m) (hnews : ∀ j u, news[j]? = some u → w.cell? (ad.add j) = some u) (h1 : ∀ u ∈ news, u.oneCell' = true)
    (hk : n + m = k) (hroom : k ≤ c) (hs : cur.size = c) :
    (Builtin.append_ #[t, t] ty #[.slice (some ⟨g, 0, none⟩) n c, .slice (some ad) m cc]).run P w = .ok (.slice (some ⟨g, 0, none⟩) k c) (w.setRow g (cur.toList.take n ++ news ++ cur.toList.drop k).toArray) := by
  subst hk hl
  have hst := run_storeCells_at P g n t' news 0 cur w hg (by simp; omega) h1
  simp only [Nat.add_zero] at hst
  have hld := run_loadCells_list (P := P) w ad news hnews
  simp [Builtin.append_, run_underlying ht, sizeOf, typeInfo, hi, hz, Builtin.lenOf, Builtin.firstCells, hroom, hld, Addr.add_lit]
  simp only [List.append_assoc] at hst
  rw [hst]
  rfl
end

theorem size_setRowT' (w : World) (g : Nat) (cs : Array Value) : (w.setRow g cs).heap.size = w.heap.size := by simp [World.setRow]
theorem drew_size' (w : World) : w.drew.heap.size = w.heap.size := rfl

section
variable {w : World} {base g n c : Nat} {e : TypeId} {xs : List Value} {cur : Array Value}
theorem own_rowT (h : w.ownsRow base e 1 (.slice (some ⟨g, 0, none⟩) n c) n xs) : ∃ cur, RowC w g e cur ∧ base ≤ g ∧ n ≤ c ∧ c ≤ maxLen ∧ cur.size = c ∧ cur.toList.take n = xs := by
  rcases h.2 with ⟨h', _⟩ | ⟨g', cap', cur, h', hb, hg, hnc, hcm, hcs, htake⟩
  · simp at h'
  · simp only [Value.slice.injEq, Option.some.injEq, Addr.mk.injEq, and_true, true_and] at h'
    obtain ⟨rfl, rfl⟩ := h'
    exact ⟨cur, hg, hb, hnc, hcm, by omega, by rw [Nat.mul_one] at htake; exact htake⟩
theorem own_ofT (hg : RowC w g e cur) (hb : base ≤ g) (hn : n ≤ c) (hm : c ≤ maxLen) (hs : cur.size = c) (ht : cur.toList.take n = xs) : w.ownsRow base e 1 (.slice (some ⟨g, 0, none⟩) n c) n xs :=
  ⟨by rw [← ht, List.length_take, Array.length_toList]; omega, .inr ⟨g, c, cur, rfl, hb, hg, hn, hm, by omega, by rw [Nat.mul_one]; exact ht⟩⟩
theorem grown_setRow (w : World) (g : Nat) (cs : Array Value) : w.grownBy (w.setRow g cs) (some g) :=
  ⟨rfl, rfl, rfl, by simp [World.setRow], fun k _ hk => setRow_other w g k cs (fun e => hk (by rw [e]))⟩
theorem grown_drew (w : World) (row : Option Nat) : w.grownBy w.drew row := ⟨rfl, rfl, rfl, Nat.le_refl _, fun _ _ _ => rfl⟩
theorem own_someT {A : Option Addr} (h : w.ownsRow base e 1 (.slice A n c) n xs) (hn : 0 < n) : ∃ g, A = some ⟨g, 0, none⟩ := by
  obtain ⟨g, cap, hv, _, _⟩ := h.form hn
  injection hv with h1
  exact ⟨g, h1⟩
theorem own_blkT {A : Option Addr} (h : w.ownsRow base e 1 (.slice A n c) n xs) : ∀ ad, A = some ad → ad.off = 0 ∧ ad.spot = none := by
  intro ad had
  rcases h.2 with ⟨h', _⟩ | ⟨g', cap', cur, h', _⟩
  · subst had; cases h'
  · subst had
    injection h' with h1
    injection h1 with h2
    subst h2
    exact ⟨rfl, rfl⟩
end

end Go.Proofs.YtlidhdljgnijaaaDoor

/-
  CONTRACT of the document's Spans (coterieref10).
-/
set_option linter.unusedVariables false
namespace Go.Proofs.YtlidhdljgnijaaaDoor
open Go.RowKit

/-- where the groups of a level begin, and how many leaves there are -/
def scanTo (w : List Nat) (x : Nat) : List Nat := (List.range (x + 1)).map (startT w)
def scanT (w : List Nat) : List Nat := scanTo w w.length
def spansL (many : Nat) (lv : List (List Nat)) (k : Nat) : List Nat := scanT (wideL (List.replicate many 1) (lv.take (k + 1)))
def spansOk (ids : List Int) (ll : List (List Int)) (level : Int) : Prop := chkT ids ll = true ∧ 0 ≤ level ∧ level < ll.length
def ivn (n : Nat) : Value := iv (n : Int)
/-- what a tree's spans answer -/
def SpansPost (w : World) (ids : List Int) (ll : List (List Int)) (level : Int) (e : Ending) (w' : World) : Prop :=
  Below w.heap.size w w' ∧ ((¬ spansOk ids ll level ∧ e = .returned (.tuple #[.slice none 0 0, .int .i64 1])) ∨
    (spansOk ids ll level ∧ ∃ A n c, e = .returned (.tuple #[.slice A n c, .int .i64 0]) ∧ n ≤ c ∧ c ≤ maxLen ∧ Rd w' w'.heap.size A n ((spansL ids.length (lvN ll) level.toNat).map ivn)))
theorem wideL_snoc : ∀ (lv : List (List Nat)) (w l : List Nat), wideL w (lv ++ [l]) = chunkT l (wideL w lv)
  | [], w, l => rfl
  | x :: lv, w, l => by rw [List.cons_append, wideL, wideL_snoc lv]; rfl
theorem one_ivN (l : List Nat) : ∀ u ∈ l.map ivn, u.oneCell' = true := one_ivn l
/-- so far a level's sums -/
theorem chunk_part : ∀ (l w : List Nat) (k : Nat) (hk : k < l.length), chunkT (l.take (k + 1)) w = chunkT (l.take k) w ++ [((w.drop (startT l k)).take l[k]).sum]
  | [], w, k, hk => by simp at hk
  | n :: l, w, 0, hk => by simp [chunkT, startT]
  | n :: l, w, k + 1, hk => by
    rw [List.take_succ_cons, List.take_succ_cons, chunkT, chunkT, chunk_part l (w.drop n) k (by simpa using hk), startT_cons, List.drop_drop, List.getElem_cons_succ]
    rfl
theorem take_le_sum (w : List Nat) (k : Nat) : (w.take k).sum ≤ w.sum := startT_le w k
theorem drop_take_sum (w : List Nat) (a n : Nat) : ((w.drop a).take n).sum ≤ w.sum := by
  have h1 := startT_le (w.drop a) n
  have h2 : (w.take a ++ w.drop a).sum = w.sum := by rw [List.take_append_drop]
  rw [List.sum_append] at h2
  unfold startT at h1
  omega

end Go.Proofs.YtlidhdljgnijaaaDoor

