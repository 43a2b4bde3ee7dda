/-
  WORDS FOR LONG WALKS: what is kept from world to world (Below, Rd, Txs), a row that is new, keys that are the same, append inside a region that draws its order.
-/
import Derived.Test.YtmkkghlpdnoogaaDoorShaQ
import Derived.Test.YtmkkghlpdnoogaaDoorShaE
import Derived.Test.YtmkkghlpdnoogaaDoorEq
import Derived.Test.YtmkkghlpdnoogaaDoorFew
import Derived.Deep.RegionHeld3
set_option linter.unusedVariables false
namespace Go.Proofs.YtmkkghlpdnoogaaDoor
open Go.RowKit

theorem c_refl (w : World) : Below w.heap.size w w := Below.refl _ _
theorem c_alloc {a w : World} (h : Below a.heap.size a w) (o : Obj) : Below a.heap.size a (w.alloc o) := h.alloc h.size o
theorem c_drew {a w : World} (h : Below a.heap.size a w) : Below a.heap.size a w.drew := h.drew
theorem c_call {a w w' : World} (h : Below a.heap.size a w) (hb : Below w.heap.size w w') : Below a.heap.size a w' := h.trans (hb.mono h.size)
theorem c_rd {a w : World} {A : Option Addr} {n : Nat} {xs : List Value} (h : Rd a a.heap.size A n xs) (hb : Below a.heap.size a w) : Rd w w.heap.size A n xs := (h.below hb).more hb.size
theorem c_txs {a w : World} {vs : List Value} {ts : List (List UInt8)} (h : Txs a a.heap.size vs ts) (hb : Below a.heap.size a w) : Txs w w.heap.size vs ts := (h.below hb).more hb.size
theorem new_range {w1 : World} {cs : List Value} {t : TypeId} {g : Nat} (hg : w1.heap.size = g) (wx : World) (hb : Below (w1.alloc (.cells cs.toArray t)).heap.size (w1.alloc (.cells cs.toArray t)) wx) : wx.rangeAt g 0 cs := fun j u hu => by
  subst hg
  have hr : wx.heap[w1.heap.size]? = some (.cells cs.toArray t (0, 0)) := (hb.block _ (by simp)).trans (heap_alloc_new w1 _)
  rw [cell_of_row wx _ _ _ _ (0, 0) hr]
  simpa using hu
theorem key_same (wx : World) (l : List UInt8) (hl : l.length = 32) : (Op.equalIn 10000 36 (.agg (l.map bv).toArray) (.agg (l.map bv).toArray)).run Tryd.prog wx = .ok true wx := by
  obtain ⟨ii, hii⟩ := byte_info
  have h := run_eqlRow wx false Tryd.underlying36 Tryd.underlying5 hii byteCells bv (fun x => (x.toNat : Int)) (fun _ => rfl) bv_inj 0 l l hl hl
  rw [beq_self_eq_true] at h
  exact h

theorem d_rd {a w : World} {A : Option Addr} {n : Nat} {xs : List Value} (h : Rd a a.heap.size A n xs) (hb : Below a.heap.size a w) : Rd w w.heap.size A n xs := (h.below hb).more hb.size
theorem d_txs {a w : World} {vs : List Value} {ts : List (List UInt8)} (h : Txs a a.heap.size vs ts) (hb : Below a.heap.size a w) : Txs w w.heap.size vs ts := (h.below hb).more hb.size
theorem d_al (w : World) (o : Obj) : Below w.heap.size w (w.alloc o) := (Below.refl _ _).alloc (Nat.le_refl _) o

theorem Txs.append {w : World} {B : Nat} {vs vs' : List Value} {ts ts' : List (List UInt8)} (h : Txs w B vs ts) (h' : Txs w B vs' ts') : Txs w B (vs ++ vs') (ts ++ ts') := by
  refine ⟨by simp [h.1, h'.1], fun i v t hv ht => ?_⟩
  rw [List.getElem?_append] at hv ht
  rw [← h.1] at ht
  split at hv
  · rename_i hi
    rw [if_pos hi] at ht
    exact h.2 i v t hv ht
  · rename_i hi
    rw [if_neg hi] at ht
    exact h'.2 _ v t hv ht
theorem Txs.one_cell {w : World} {B : Nat} {vs : List Value} {ts : List (List UInt8)} (h : Txs w B vs ts) : ∀ u ∈ vs, u.oneCell' = true := by
  intro u hu
  obtain ⟨i, hi, rfl⟩ := List.mem_iff_getElem.1 hu
  have := h.1
  obtain ⟨A, c, e, _⟩ := h.2 i _ _ (List.getElem?_eq_getElem hi) (List.getElem?_eq_getElem (show i < ts.length by omega))
  rw [e]
  rfl

theorem step_append_rd {P : Program} {w : World} {ops : Array Oper} {o : Oper} {a : Act} {K : Act → World → Prop} {Q : Exit → Act → World → Prop} {E : Prop} (hgd : Region.wanted o (yielded ops a.tmps) = true) (s x : Operand) (t : TypeId)
    (ho : o.op = .call { callee := .builtin .append, args := #[s, x], argTypes := #[t, t] })
    (base : Nat) (e : TypeId) (i : TypeInfo) (z : Value) (bytes : Nat) (ht : P.underlying t = some (.slice e)) (hi : P.info? e = some i) (hz : i.zero = some z)
    (hsize : i.size = 1) (hby : i.bytes = bytes) (hzs : z.cells.size = 1)
    (v : Value) (n : Nat) (xs : List Value) (hs : a.eval s = v) (hown : w.ownsRow base e 1 v n xs)
    (B : Nat) (A : Option Addr) (m c : Nat) (news : List Value) (hx : a.eval x = .slice A m c) (hr : Rd w B A m news) (h1 : ∀ u ∈ news, u.oneCell' = true)
    (h63 : n + m ≤ maxLen) (hbytes : (n + m) * bytes ≤ 140737488355328) (hbase : base ≤ w.heap.size)
    (h : ∀ v' w', w'.ownsRow base e 1 v' (n + m) (xs ++ news) → w.grownBy w' v.ownBlock → K (a.put o.dst v') w') : if Region.wanted o (yielded ops a.tmps) = true then Oper.wp P o a w K Q else E := by
  rw [if_pos hgd]
  obtain ⟨v', w', hrun, h2, h3, h4⟩ := run_append_rd (P := P) w base t o.type e i z bytes ht hi hz hsize hby hzs v n xs hown B A m c news hr h1 h63 hbytes hbase
  unfold Oper.wp execOp
  simp only [ho, resolve, invoke, builtin, Sem.run_bind, Sem.run_pure, Result.andThen_ok, List.map_toArray, List.map_cons, List.map_nil, hs, hx, hrun]
  exact h v' w' h2 h3

theorem len_le_flat : ∀ {ts : List (List UInt8)} {t : List UInt8}, t ∈ ts → t.length ≤ ts.flatten.length
  | u :: r, t, h => by
    rw [List.flatten_cons, List.length_append]
    rcases List.mem_cons.1 h with rfl | h
    · omega
    · have := len_le_flat h
      omega
end Go.Proofs.YtmkkghlpdnoogaaDoor
