import Derived.Test.YtjhcnhihmgpgbaaG07
import Derived.Test.YtjhcnhihmgpgbaaG26
/-
  CONTRACTS of the program's Path and ahead (tree). Printed by gen_treepk.py.
-/
set_option linter.unusedVariables false
namespace Go.Proofs.Ytjhcnhihmgpgbaa
open Go.RowKit

set_option maxRecDepth 100000 in
set_option maxHeartbeats 4000000 in
theorem PPath_any (Ai : Option Addr) (ni ci : Nat) (Al : Option Addr) (nl cl : Nat) (ids : List Int) (ll : List (List Int)) (id : Int) (w : World) (h : ShR w w.heap.size Ai ni ci Al nl cl ids ll) (hf : fewT ids ll = true) :
    Calls Try.prog 21 #[.agg (shV Ai ni ci Al nl cl), .int .i64 id] w (PathPost w ids ll id) := by
  obtain ⟨i0, hi0, hz0, hz1, hz2⟩ := info_parts intInfo
  have Hnl := Lib.hid h.hnl
  have hml := h.hml
  have hcl := h.hcl
  have hci := h.hci
  have hmi := h.hmi
  have hM := (Ms.nil w).box 25 (shV Ai ni ci Al nl cl)
  have hck := PCheck_any Ai ni ci Al nl cl ids ll _ ((h.below hM.old).more hM.old.size) (few_million hf) (by have := (few_len hf).2.1; have := h.hni; omega)
  have hni6 : ni ≤ 1000000 := by have := (few_len hf).2.1; have := h.hni; omega
  have hidw := fun wx (hb : Below w.heap.size w wx) => (h.hids.below hb).more hb.size
  have hlm := few_million hf
  obtain ⟨vs, hv, hlv⟩ := h.lvs
  clear h
  rw [maxLen] at hml
  have Hpost := Lib.hid (show ∀ e w', Below w.heap.size w w' → ((chkT ids ll = false ∧ e = .returned (.tuple #[.slice none 0 0, .int .i64 1])) ∨
    (chkT ids ll = true ∧ isT ids id = false ∧ e = .returned (.tuple #[.slice none 0 0, .int .i64 6])) ∨
    (chkT ids ll = true ∧ isT ids id = true ∧ ∃ A c, e = .returned (.tuple #[.slice A ll.length c, .int .i64 0]) ∧ ll.length ≤ c ∧ c ≤ maxLen ∧ Rd w' w'.heap.size A ll.length ((pathL (lvN ll) (belT ids id)).map (fun n => iv (n : Nat))))) → PathPost w ids ll id e w' from fun _ _ h1 h2 => ⟨h1, h2⟩)
  generalize PathPost w ids ll id = PO at *
  go_enter Try.func21, Try.ntmps21
  go_wp2_with ((with_reducible show wpList _ _ _ (⟨some 12, _, _, _, _, _⟩ :: _) _ _); refine wpList_loadC (by kernel_rfl) 25 (.tmp 2) rfl (w.heap.size) rfl 25 (shV Ai ni ci Al nl cl) _ (hM.get 0 rfl) Try.underlying25 rfl shapeInfo2 ?_)
  refine hck.mono ?_
  rintro e w1 ⟨rfl, hb1⟩
  have hM1 := hM.call hb1
  clear hM hb1 hck
  by_cases hc : chkT ids ll = true
  rotate_left
  · have hcf : chkT ids ll = false := by simpa using hc
    have he : chkE ids ll = 1 := by rw [chkE, hcf]; rfl
    rw [he]
    clear he hc
    go_wp2_with fail
    (first | refine Hpost.out _ _ ?_ ?_ | refine bodyPost_ret (results_tmp2 rfl _ _ _) rfl (Hpost.out _ _ ?_ ?_))
    · exact hM1.old
    · exact .inl ⟨hcf, rfl⟩
  have he : chkE ids ll = 0 := by rw [chkE, hc]; rfl
  rw [he]
  clear he
  have k0 := (hM1.get 0 rfl).cell (i := 0) (v := .slice Ai ni ci) rfl
  have k1 := (hM1.get 0 rfl).cell (i := 1) (v := .slice Al nl cl) rfl
  obtain ⟨hn1000, hok, hlo, hin⟩ := chkT_lv hc
  have hrise := okI_rise ids hok
  have hsr := Search_any Ai ni ci ids id w1 hci hmi hni6 hrise (hidw _ hM1.old)
  have Hrb := Lib.hid (fun h => (rise_bel ids id hrise h).1)
  have hn10 : nl ≤ 10 := by
    have h1 := lv_high hc
    rw [lvN, List.length_map, Hnl.out] at h1
    exact h1
  have Hc := Lib.hid hc
  clear hc hok hidw
  go_wp2_with fail
  refine hsr.mono ?_
  rintro e w1 ⟨rfl, rfl⟩
  by_cases his : isT ids id = true
  rotate_left
  · have hif : isT ids id = false := by simpa using his
    rw [hif]
    go_wp2_with fail
    (first | refine Hpost.out _ _ ?_ ?_ | refine bodyPost_ret (results_tmp2 rfl _ _ _) rfl (Hpost.out _ _ ?_ ?_))
    · exact hM1.old
    · exact .inr (.inl ⟨Hc.out, hif, rfl⟩)
  have hlt0 := Hrb.out his
  rw [his]
  have Hrest := Lib.hid (show ∀ e w', Below w.heap.size w w' → (∃ A c, e = .returned (.tuple #[.slice A ll.length c, .int .i64 0]) ∧ ll.length ≤ c ∧ c ≤ maxLen ∧ Rd w' w'.heap.size A ll.length ((pathL (lvN ll) (belT ids id)).map (fun n => iv (n : Nat)))) → PO e w' from fun e w' h1 h2 => Hpost.out e w' h1 (.inr (.inr ⟨Hc.out, his, h2⟩)))
  clear Hpost his hsr
  obtain ⟨p, hp⟩ : ∃ p, p = belT ids id := ⟨_, rfl⟩
  rw [← hp] at hlt0 Hrest ⊢
  have hp1000 : (p : Int) ≤ 1000 := by omega
  clear hp
  have hsz1 := (hM1.get 0 rfl).lt
  have hge1 := hM1.old.size
  go_wp2_with (at_make; refine wpList_make_own _ rfl _ _ 22 rfl (w.heap.size + 1) 3 i0 (.int .i64 0) 1 Try.underlying22 hi0 hz0 hz1 _ _ _ nl rfl rfl (by simp) (by rw [hz2]; omega) (by simp only [maxLen]; omega) (by omega) ?_; intro w2 hown1 hgr1; have hM2 := hM1.call ((Below.refl _ _).grown hgr1 (Nat.le_refl _) (by simp)); have k2 := (hM2.get 0 rfl).cell (i := 1) (v := .slice Al nl cl) rfl)
  go_loopw [7, 9, 33] (fun a v i wr => ∃ (q b many : Nat) (pre : List Nat) (A : Option Addr) (c : Nat), q ≤ nl ∧ i = .int .i64 (q : Int) ∧ a = .int .i64 (b : Int) ∧ b ≤ 1000000 ∧ b < many ∧ lvOK many (lvN (ll.drop q)) ∧ pathL (lvN ll) p = pre ++ pathL (lvN (ll.drop q)) b ∧ pre.length = q ∧
    v = .slice A q c ∧ wr.ownsRow (w.heap.size + 1) 3 1 (.slice A q c) q (pre.map (fun n => iv (n : Nat))) ∧ Ms w wr [(w.heap.size, 25, shV Ai ni ci Al nl cl)]) (fun _ _ i _ => nl - (intOf i).toNat)
  case atStart => exact ⟨0, p, ids.length, [], some ⟨w1.heap.size, 0, none⟩, nl, by omega, rfl, rfl, by omega, hlt0, hlo, rfl, rfl, rfl, hown1, hM2⟩
  case round =>
    clear hM2 k1 k2 k0 hM1 hown1 hgr1
    obtain ⟨q, b, many, pre, A, c, hq, rfl, rfl, hb6, hbm, hlv2, hpa, hpl, rfl, hown, hM⟩ := hrel
    have hb := hM.old
    by_cases hlt : q < nl
    · have hql : q < ll.length := by rw [Hnl.out]; exact hlt
      obtain ⟨A1, c1, hvj, hc1, hm1, hrj⟩ := hlv.get hql
      obtain ⟨g, o, rfl, hgl, hcell⟩ := (hv.below hb).pos (by omega)
      have d1 := hcell q _ hvj
      have Hd := Lib.hid (show ll.drop q = ll[q] :: ll.drop (q + 1) from List.drop_eq_getElem_cons hql)
      have hlm1 := hlm _ (List.getElem_mem hql)
      have hin1 := hin _ (List.getElem_mem hql)
      obtain ⟨n1, n2, n3⟩ := in23_nat _ hin1
      clear hcell hvj
      generalize ll[q] = l at *
      have hlv3 : lvOK many (natL l :: lvN (ll.drop (q + 1))) := by rw [Hd.out] at hlv2; exact hlv2
      obtain ⟨o1, o2, o3, o4⟩ := hlv3
      have hpa2 : pathL (lvN ll) p = pre ++ (grpT (natL l) b :: pathL (lvN (ll.drop (q + 1))) (grpT (natL l) b)) := by rw [hpa, Hd.out]; rfl
      obtain ⟨g1, g2, g3⟩ := grpT_spec (natL l) b (by omega)
      have hnl : (natL l).length = l.length := by rw [natL, List.length_map]
      have hgo := PGroupOf_any A1 l.length c1 l b wr hc1 hm1 hlm1 hb6 hin1 ((hrj.below hb).more hb.size)
      have Hpa := Lib.hid hpa2
      have Ho4 := Lib.hid o4
      have Hpl := Lib.hid hpl
      have hy6 : grpT (natL l) b ≤ 1000000 := by omega
      clear hpa hpa2 o4 hlv2 o1 o2 o3 g2 g3 n1 n2 n3 hpl
      generalize grpT (natL l) b = y at *
      go_wp2_with fail
      refine hgo.mono ?_
      rintro e wr ⟨rfl, rfl⟩
      go_wp2_with (at_builtin; refine wpList_append_rd _ rfl (.tmp 40) (.tmp 42) _ rfl (w.heap.size + 1) 3 i0 _ 8 Try.underlying22 hi0 hz0 hz1 hz2 rfl (.slice A q c) q _ rfl (own_below hown ((Below.refl _ _).alloc (Nat.le_refl _) _)) (wr.heap.size + 1) (some ⟨wr.heap.size, 0, none⟩) 1 1 [iv (y : Nat)] rfl (Rd.mk_ _ _ _ rfl (by omega) rfl rfl) (one_ivn [y]) (by simp only [maxLen]; omega) (by omega) (by simp; have := hM.old.size; have := (hM.get 0 rfl).lt; omega) ?_; intro v3 w3 hown3 hgr3 hat3)
      obtain ⟨A3, c3, rfl, _, _⟩ := own_form hown3
      have hM3 := (hM.allocT (.cells #[iv (y : Nat)] 3)).grownT hgr3 (fun k hk => by have := own_blockT hown k hk; omega) (fun p hp k hk => by have := own_blockT hown k hk; simp at hp; subst hp; simp; omega)
      rw [show [iv (y : Nat)] = [y].map (fun n : Nat => iv (n : Nat)) from rfl, ← List.map_append] at hown3
      go_roundw
      case rel => exact ⟨q + 1, y, (natL l).length, pre ++ [y], A3, c3, by omega, by go_num, rfl, hy6, g1, Ho4.out, by rw [Hpa.out, List.append_assoc]; rfl, by rw [List.length_append, Hpl.out]; rfl, rfl, hown3, hM3⟩
      case measure => simp [intOf]; omega
    · obtain rfl : q = nl := by omega
      rw [List.drop_of_length_le (by rw [Hnl.out]; exact Nat.le_refl _)] at hpa
      have hpa2 : pathL (lvN ll) p = pre := by rw [hpa]; simp [lvN, pathL]
      obtain ⟨_, _, e0, hc, hcm⟩ := own_formT hown
      injection e0 with e1 e2 e3
      subst e1 e3
      have Hr := Lib.hid (Rd.of_own hown)
      clear hpa
      go_wp2_with fail
      (first | refine Hrest.out _ _ ?_ ?_ | refine bodyPost_ret (results_tmp2 rfl _ _ _) rfl (Hrest.out _ _ ?_ ?_))
      · exact hM.old
      · rw [hpa2, Hnl.out]
        exact ⟨A, c, rfl, hc, hcm, Hr.out⟩

theorem wpList_makeT {P : Program} {ops : Array Oper} {rest : List Oper} {o : Oper} {a : Act} {w : World} {Q : Exit → Act → World → Prop} (hgd : Region.wanted o (yielded ops a.tmps) = true) (l c : Operand) (t : TypeId)
    (ho : o.op = .makeSlice t l c) (v u : Value) (hl : a.eval l = v) (hc : a.eval c = u) {v' : Value} {w' : World}
    (hr : (Instr.makeSlice t v u).run P w = .ok v' w') (h : wpList P ops Q rest (a.put o.dst v') w') : wpList P ops Q (o :: rest) a w := by
  refine wpList_step fun _ hK => ?_
  rw [if_pos hgd]
  unfold Oper.wp
  simp [execOp, ho, hl, hc, hr, Result.andThen]
  exact hK _ _ h
theorem own_madeT (w : World) (base : Nat) (e : TypeId) (z : Value) (cap : Nat) (hb : base ≤ w.heap.size) (hm : cap ≤ maxLen) (h1 : 1 ≤ cap) : (w.alloc (.cells (madeCells #[z] cap) e)).ownsRow base e 1 (.slice (some ⟨w.heap.size, 0, none⟩) 1 cap) 1 [z] := by
  refine ⟨rfl, .inr ⟨w.heap.size, cap, madeCells #[z] cap, rfl, hb, heap_alloc_new w _, h1, hm, by rw [size_madeCells]; omega, ?_⟩⟩
  rw [toList_madeCells_one, Nat.mul_one, List.take_replicate, Nat.min_eq_left h1]
  rfl
theorem scan_succ (l : List Nat) {k : Nat} (hk : k < l.length) : scanTo l (k + 1) = scanTo l k ++ [startT l k + l[k]] := by
  rw [scanTo, List.range_succ, List.map_append, ← scanTo, List.map_cons, List.map_nil, startT_succ l hk]

set_option maxRecDepth 100000 in
set_option maxHeartbeats 2000000 in
theorem PAhead_any (A : Option Addr) (n c : Nat) (l : List Int) (w : World) (hc : n ≤ c) (hm : c ≤ maxLen) (hl : n ≤ 1000000) (hin : in23 l = true) (h : Rd w w.heap.size A n (l.map iv)) :
    Calls Try.prog 42 #[.slice A n c] w fun e w' => ∃ A' c', e = .returned (.slice A' (n + 1) c') ∧ w'.ownsRow w.heap.size 3 1 (.slice A' (n + 1) c') (n + 1) ((scanT (natL l)).map ivn) ∧ Below w.heap.size w w' := by
  obtain ⟨i0, hi0, hz0, hz1, hz2⟩ := info_parts intInfo
  have Hni := Lib.hid (show l.length = n by simpa using h.len)
  have Hnn := Lib.hid (show (natL l).length = n by rw [natL, List.length_map]; exact Hni.out)
  obtain ⟨n1, n2, n3⟩ := in23_nat _ hin
  rw [maxLen] at hm
  clear n2 hin
  have hwn : IntKind.i64.wrap ((n : Int) + 1) = (n : Int) + 1 := by rw [IntKind.wrap_i64]; omega
  have hmk := run_make (P := Try.prog) w 22 3 i0 (.int .i64 0) Try.underlying22 hi0 hz0 .i64 .i64 1 ((n : Int) + 1) (by omega) (by omega) (by rw [hz2]; omega) (by omega)
  rw [show ((n : Int) + 1).toNat = n + 1 by omega, hz1, Nat.mul_one, show (Value.int .i64 0).cells = #[Value.int .i64 0] from rfl, show (1 : Int).toNat = 1 from rfl] at hmk
  have hown0 := own_madeT w w.heap.size 3 (.int .i64 0) (n + 1) (Nat.le_refl _) (by rw [maxLen]; omega) (by omega)
  have hB0 := d_al w (.cells (madeCells #[.int .i64 0] (n + 1)) 3)
  have Hmk := Lib.hid hmk
  clear hmk
  generalize w.alloc (.cells (madeCells #[.int .i64 0] (n + 1)) 3) = w1 at *
  generalize hgw : w.heap.size = g0 at *
  have Hgw := Lib.hid hgw
  clear hgw
  go_enter Try.func42, Try.ntmps42
  go_wp2_with (at_make; refine wpList_makeT (by kernel_rfl) _ _ 22 rfl _ _ rfl rfl Hmk.out ?_)
  go_loopw [3, 4, 13] (fun v s i wr => ∃ (k : Nat) (A' : Option Addr) (c' : Nat), k ≤ n ∧ i = .int .i64 (k : Int) ∧ s = .int .i64 (startT (natL l) k : Nat) ∧ v = .slice A' (k + 1) c' ∧ wr.ownsRow g0 3 1 (.slice A' (k + 1) c') (k + 1) ((scanTo (natL l) k).map ivn) ∧ Below g0 w wr) (fun _ _ i _ => n - (intOf i).toNat)
  case atStart => exact ⟨0, some ⟨g0, 0, none⟩, n + 1, by omega, rfl, by rw [startT_zero]; rfl, rfl, hown0, hB0⟩
  case round =>
    clear hown0 hB0
    obtain ⟨k, A', c', hk, rfl, rfl, rfl, hown, hB⟩ := hrel
    by_cases hlt : k < n
    · have hkl : k < l.length := by rw [Hni.out]; exact hlt
      have hkn : k < (natL l).length := by rw [Hnn.out]; exact hlt
      obtain ⟨g, o, rfl, hgl, hcell⟩ := (h.below hB).pos (by omega)
      have c1 := hcell k (iv l[k]) (by rw [List.getElem?_map, List.getElem?_eq_getElem hkl]; rfl)
      have hny := n3 k hkl
      have hss := startT_succ (natL l) hkn
      have h23 := two3_get n1 hkn
      rw [iv_def, hny] at c1
      have Hsc := Lib.hid (scan_succ (natL l) hkn)
      have hsb : startT (natL l) k ≤ 3 * k := by
        have h1 := (two3_len (l := (natL l).take k) (fun x hx => n1 x (List.mem_of_mem_take hx))).2
        have h2 : ((natL l).take k).length ≤ k := by rw [List.length_take]; omega
        unfold startT
        omega
      clear hcell hny
      generalize (natL l)[k] = ny at *
      have hw1 : IntKind.i64.wrap ((startT (natL l) k : Int) + (ny : Int)) = ((startT (natL l) k + ny : Nat) : Int) := by rw [IntKind.wrap_i64]; omega
      have Hss := Lib.hid hss
      clear hss
      have hgs := hB.size
      have hgw2 : g0 ≤ wr.heap.size := by rcases hown.2 with ⟨e, _⟩ | ⟨q, _, _, _, hq, hqq, _⟩
                                          · simp at e
                                          · have := (Array.getElem?_eq_some_iff.1 hqq).1; omega
      go_wp2_with (at_builtin; refine wpList_append_rd _ rfl (.tmp 20) (.tmp 22) _ rfl g0 3 i0 _ 8 Try.underlying22 hi0 hz0 hz1 hz2 rfl (.slice A' (k + 1) c') (k + 1) _ rfl (own_below hown ((Below.refl _ _).alloc (Nat.le_refl _) _)) (wr.heap.size + 1) (some ⟨wr.heap.size, 0, none⟩) 1 1 [ivn (startT (natL l) k + ny)] rfl (Rd.mk_ _ _ _ rfl (by omega) rfl rfl) (one_ivN [_]) (by simp only [maxLen]; omega) (by omega) (by simp; omega) ?_; intro v3 w3 hown3 hgr3 hat3)
      obtain ⟨A3, c3, rfl, _, _⟩ := own_form hown3
      have hB3 := (hB.alloc hgw2 (.cells #[ivn (startT (natL l) k + ny)] 3)).grown hgr3 (by simp; omega) (fun q hq => own_blockT hown q hq)
      rw [show [ivn (startT (natL l) k + ny)] = [startT (natL l) k + ny].map ivn from rfl, ← List.map_append, ← Hsc.out] at hown3
      go_roundw
      case rel => exact ⟨k + 1, A3, c3, by omega, by go_num, by rw [Hss.out, Int.natCast_add], rfl, hown3, hB3⟩
      case measure => simp [intOf]; omega
    · obtain rfl : k = n := by omega
      rw [show scanTo (natL l) k = scanT (natL l) by rw [scanT, Hnn.out]] at hown
      go_wp2_with fail
      go_ret
      exact ⟨A', c', rfl, hown, hB⟩

end Go.Proofs.Ytjhcnhihmgpgbaa

