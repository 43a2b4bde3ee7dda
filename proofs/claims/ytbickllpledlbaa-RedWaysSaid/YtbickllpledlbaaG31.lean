import Derived.Test.YtbickllpledlbaaG06
import Derived.Test.YtbickllpledlbaaG22
/-
  CONTRACTS of the program's Path and ahead (tree). Printed by gen_treepk.py.
-/
set_option linter.unusedVariables false
namespace Go.Proofs.Ytbickllpledlbaa
open Go.RowKit

theorem wpList_makeT {P : Program} {ops : Array Oper} {rest : List Oper} {o : Oper} {a : Act} {w : World} {Q : Exit → Act → World → Prop} (hgd : Region.wanted o (yielded ops a.tmps) = true) (l c : Operand) (t : TypeId)
    (ho : o.op = .makeSlice t l c) (v u : Value) (hl : a.eval l = v) (hc : a.eval c = u) {v' : Value} {w' : World}
    (hr : (Instr.makeSlice t v u).run P w = .ok v' w') (h : wpList P ops Q rest (a.put o.dst v') w') : wpList P ops Q (o :: rest) a w := by
  refine wpList_step fun _ hK => ?_
  rw [if_pos hgd]
  unfold Oper.wp
  simp [execOp, ho, hl, hc, hr, Result.andThen]
  exact hK _ _ h
theorem own_madeT (w : World) (base : Nat) (e : TypeId) (z : Value) (cap : Nat) (hb : base ≤ w.heap.size) (hm : cap ≤ maxLen) (h1 : 1 ≤ cap) : (w.alloc (.cells (madeCells #[z] cap) e)).ownsRow base e 1 (.slice (some ⟨w.heap.size, 0, none⟩) 1 cap) 1 [z] := by
  refine ⟨rfl, .inr ⟨w.heap.size, cap, madeCells #[z] cap, rfl, hb, heap_alloc_new w _, h1, hm, by rw [size_madeCells]; omega, ?_⟩⟩
  rw [toList_madeCells_one, Nat.mul_one, List.take_replicate, Nat.min_eq_left h1]
  rfl
theorem scan_succ (l : List Nat) {k : Nat} (hk : k < l.length) : scanTo l (k + 1) = scanTo l k ++ [startT l k + l[k]] := by
  rw [scanTo, List.range_succ, List.map_append, ← scanTo, List.map_cons, List.map_nil, startT_succ l hk]

set_option maxRecDepth 100000 in
set_option maxHeartbeats 2000000 in
theorem PAhead_any (A : Option Addr) (n c : Nat) (l : List Int) (w : World) (hc : n ≤ c) (hm : c ≤ maxLen) (hl : n ≤ 1000000) (hin : in23 l = true) (h : Rd w w.heap.size A n (l.map iv)) :
    Calls Try.prog 38 #[.slice A n c] w fun e w' => ∃ A' c', e = .returned (.slice A' (n + 1) c') ∧ w'.ownsRow w.heap.size 3 1 (.slice A' (n + 1) c') (n + 1) ((scanT (natL l)).map ivn) ∧ Below w.heap.size w w' := by
  obtain ⟨i0, hi0, hz0, hz1, hz2⟩ := info_parts intInfo
  have Hni := Lib.hid (show l.length = n by simpa using h.len)
  have Hnn := Lib.hid (show (natL l).length = n by rw [natL, List.length_map]; exact Hni.out)
  obtain ⟨n1, n2, n3⟩ := in23_nat _ hin
  rw [maxLen] at hm
  clear n2 hin
  have hwn : IntKind.i64.wrap ((n : Int) + 1) = (n : Int) + 1 := by rw [IntKind.wrap_i64]; omega
  have hmk := run_make (P := Try.prog) w 22 3 i0 (.int .i64 0) Try.underlying22 hi0 hz0 .i64 .i64 1 ((n : Int) + 1) (by omega) (by omega) (by rw [hz2]; omega) (by omega)
  rw [show ((n : Int) + 1).toNat = n + 1 by omega, hz1, Nat.mul_one, show (Value.int .i64 0).cells = #[Value.int .i64 0] from rfl, show (1 : Int).toNat = 1 from rfl] at hmk
  have hown0 := own_madeT w w.heap.size 3 (.int .i64 0) (n + 1) (Nat.le_refl _) (by rw [maxLen]; omega) (by omega)
  have hB0 := d_al w (.cells (madeCells #[.int .i64 0] (n + 1)) 3)
  have Hmk := Lib.hid hmk
  clear hmk
  generalize w.alloc (.cells (madeCells #[.int .i64 0] (n + 1)) 3) = w1 at *
  generalize hgw : w.heap.size = g0 at *
  have Hgw := Lib.hid hgw
  clear hgw
  go_enter Try.func38, Try.ntmps38
  go_wp2_with (at_make; refine wpList_makeT (by kernel_rfl) _ _ 22 rfl _ _ rfl rfl Hmk.out ?_)
  go_loopw [3, 4, 13] (fun v s i wr => ∃ (k : Nat) (A' : Option Addr) (c' : Nat), k ≤ n ∧ i = .int .i64 (k : Int) ∧ s = .int .i64 (startT (natL l) k : Nat) ∧ v = .slice A' (k + 1) c' ∧ wr.ownsRow g0 3 1 (.slice A' (k + 1) c') (k + 1) ((scanTo (natL l) k).map ivn) ∧ Below g0 w wr) (fun _ _ i _ => n - (intOf i).toNat)
  case atStart => exact ⟨0, some ⟨g0, 0, none⟩, n + 1, by omega, rfl, by rw [startT_zero]; rfl, rfl, hown0, hB0⟩
  case round =>
    clear hown0 hB0
    obtain ⟨k, A', c', hk, rfl, rfl, rfl, hown, hB⟩ := hrel
    by_cases hlt : k < n
    · have hkl : k < l.length := by rw [Hni.out]; exact hlt
      have hkn : k < (natL l).length := by rw [Hnn.out]; exact hlt
      obtain ⟨g, o, rfl, hgl, hcell⟩ := (h.below hB).pos (by omega)
      have c1 := hcell k (iv l[k]) (by rw [List.getElem?_map, List.getElem?_eq_getElem hkl]; rfl)
      have hny := n3 k hkl
      have hss := startT_succ (natL l) hkn
      have h23 := two3_get n1 hkn
      rw [iv_def, hny] at c1
      have Hsc := Lib.hid (scan_succ (natL l) hkn)
      have hsb : startT (natL l) k ≤ 3 * k := by
        have h1 := (two3_len (l := (natL l).take k) (fun x hx => n1 x (List.mem_of_mem_take hx))).2
        have h2 : ((natL l).take k).length ≤ k := by rw [List.length_take]; omega
        unfold startT
        omega
      clear hcell hny
      generalize (natL l)[k] = ny at *
      have hw1 : IntKind.i64.wrap ((startT (natL l) k : Int) + (ny : Int)) = ((startT (natL l) k + ny : Nat) : Int) := by rw [IntKind.wrap_i64]; omega
      have Hss := Lib.hid hss
      clear hss
      have hgs := hB.size
      have hgw2 : g0 ≤ wr.heap.size := by rcases hown.2 with ⟨e, _⟩ | ⟨q, _, _, _, hq, hqq, _⟩
                                          · simp at e
                                          · have := (Array.getElem?_eq_some_iff.1 hqq).1; omega
      go_wp2_with (at_builtin; refine wpList_append_rd _ rfl (.tmp 20) (.tmp 22) _ rfl g0 3 i0 _ 8 Try.underlying22 hi0 hz0 hz1 hz2 rfl (.slice A' (k + 1) c') (k + 1) _ rfl (own_below hown ((Below.refl _ _).alloc (Nat.le_refl _) _)) (wr.heap.size + 1) (some ⟨wr.heap.size, 0, none⟩) 1 1 [ivn (startT (natL l) k + ny)] rfl (Rd.mk_ _ _ _ rfl (by omega) rfl rfl) (one_ivN [_]) (by simp only [maxLen]; omega) (by omega) (by simp; omega) ?_; intro v3 w3 hown3 hgr3 hat3)
      obtain ⟨A3, c3, rfl, _, _⟩ := own_form hown3
      have hB3 := (hB.alloc hgw2 (.cells #[ivn (startT (natL l) k + ny)] 3)).grown hgr3 (by simp; omega) (fun q hq => own_blockT hown q hq)
      rw [show [ivn (startT (natL l) k + ny)] = [startT (natL l) k + ny].map ivn from rfl, ← List.map_append, ← Hsc.out] at hown3
      go_roundw
      case rel => exact ⟨k + 1, A3, c3, by omega, by go_num, by rw [Hss.out, Int.natCast_add], rfl, hown3, hB3⟩
      case measure => simp [intOf]; omega
    · obtain rfl : k = n := by omega
      rw [show scanTo (natL l) k = scanT (natL l) by rw [scanT, Hnn.out]] at hown
      go_wp2_with fail
      go_ret
      exact ⟨A', c', rfl, hown, hB⟩

end Go.Proofs.Ytbickllpledlbaa

