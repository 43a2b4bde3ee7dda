import Derived.Test.YtbiijdboolpaeaaDoorG04
import Derived.Laws.Append
set_option linter.unusedVariables false
namespace Go.Proofs.YtbiijdboolpaeaaDoor
open Go.RowKit
section
variable {P : Program}
theorem run_append_full (w : World) (t ty e : TypeId) (i : TypeInfo) (z : Value) (bytes : Nat) (ht : P.underlying t = some (.slice e)) (hi : P.info? e = some i) (hz : i.zero = some z)
  (hsize : i.size = 1) (hby : i.bytes = bytes) (hzs : z.cells.size = 1)
  (B : Nat) (A : Option Addr) (n c : Nat) (xs : List Value) (hr0 : Rd w B A n xs) (B' : Nat) (A' : Option Addr) (m c' : Nat) (news : List Value) (hr : Rd w B' A' m news)
  (hn0 : 0 < n) (hm0 : 0 < m) (hfull : c < n + m) (h63 : n + m ≤ maxLen) (hbytes : (n + m) * bytes ≤ 140737488355328) :
  ∃ g cap w', (Builtin.append_ #[t, t] ty #[.slice A n c, .slice A' m c']).run P w = .ok (.slice (some ⟨g, 0, none⟩) (n + m) cap) w' ∧
   w'.ownsRow w.heap.size e 1 (.slice (some ⟨g, 0, none⟩) (n + m) cap) (n + m) (xs ++ news) ∧ Below w.heap.size w w' := by
 subst hby
 obtain ⟨b, o, rfl, _, hc⟩ := hr0.pos hn0
 obtain ⟨b', o', rfl, _, hc'⟩ := hr.pos hm0
 have hsmall : n + m ≤ 9223372036854775807 := by simp only [maxLen] at h63; omega
 have hl0 : xs.length = n * i.size := by rw [hsize, Nat.mul_one]; exact hr0.len
 have hl1 : news.length = m * i.size := by rw [hsize, Nat.mul_one]; exact hr.len
 have hlen : (xs ++ news).length = n + m := by rw [List.length_append, hr0.len, hr.len]
 have hrun := run_append_grow (P := P) w t ty e i z ht hi hz ⟨b, o, none⟩ n c xs hl0 (fun j v h => by rw [Addr.add_lit]; exact hc j v h) ⟨b', o', none⟩ m c' news hl1 (fun j v h => by rw [Addr.add_lit]; exact hc' j v h) hfull (by omega) (growslice_fits (by omega) hbytes)
 refine ⟨_, _, _, hrun, ⟨by rw [hlen, Nat.mul_one], .inr ⟨w.heap.size, _, _, rfl, Nat.le_refl _, heap_alloc_new w.drew _, grownCap_ge w (n + m) c e, grownCap_le_maxLen w (n + m) c e h63, ?_, ?_⟩⟩, c_alloc (c_drew (c_refl w)) _⟩
 ·
  have hge := grownCap_ge w (n + m) c e
  simp only [Array.size_append, List.size_toArray, size_zeroCells, hzs, hr0.len, hr.len, Nat.mul_one]
  omega
 ·
  simp only [Array.toList_append, List.append_assoc, Nat.mul_one]
  rw [← List.append_assoc, ← hlen]
  exact List.take_left
theorem wpList_append_full {w : World} {ops : Array Oper} {rest : List Oper} {o : Oper} {a : Act} {Q : Exit → Act → World → Prop} (hgd : Region.wanted o (yielded ops a.tmps) = true) (s x : Operand) (t : TypeId)
  (ho : o.op = .call { callee := .builtin .append, args := #[s, x], argTypes := #[t, t] })
  (e : TypeId) (i : TypeInfo) (z : Value) (bytes : Nat) (ht : P.underlying t = some (.slice e)) (hi : P.info? e = some i) (hz : i.zero = some z)
  (hsize : i.size = 1) (hby : i.bytes = bytes) (hzs : z.cells.size = 1)
  (B : Nat) (A : Option Addr) (n c : Nat) (xs : List Value) (hs : a.eval s = .slice A n c) (hr0 : Rd w B A n xs)
  (B' : Nat) (A' : Option Addr) (m c' : Nat) (news : List Value) (hx : a.eval x = .slice A' m c') (hr : Rd w B' A' m news)
  (hn0 : 0 < n) (hm0 : 0 < m) (hfull : c < n + m) (h63 : n + m ≤ maxLen) (hbytes : (n + m) * bytes ≤ 140737488355328)
  (h : ∀ g cap w', w'.ownsRow w.heap.size e 1 (.slice (some ⟨g, 0, none⟩) (n + m) cap) (n + m) (xs ++ news) → Below w.heap.size w w' → wpList P ops Q rest (a.put o.dst (.slice (some ⟨g, 0, none⟩) (n + m) cap)) w') : wpList P ops Q (o :: rest) a w := by
 refine wpList_step fun _ hK => ?_
 rw [if_pos hgd]
 obtain ⟨g, cap, w', hrun, h2, h3⟩ := run_append_full (P := P) w t o.type e i z bytes ht hi hz hsize hby hzs B A n c xs hr0 B' A' m c' news hr hn0 hm0 hfull h63 hbytes
 unfold Oper.wp execOp
 simp only [ho, resolve, invoke, builtin, Sem.run_bind, Sem.run_pure, Result.andThen_ok, List.map_toArray, List.map_cons, List.map_nil, hs, hx, hrun]
 exact hK _ _ (h g cap w' h2 h3)
end
end Go.Proofs.YtbiijdboolpaeaaDoor
