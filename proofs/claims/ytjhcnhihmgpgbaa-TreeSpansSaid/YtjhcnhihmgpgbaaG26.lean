import Derived.Test.YtjhcnhihmgpgbaaG25
/-
  CONTRACT of the document's Build (coterieref10).
-/
set_option linter.unusedVariables false
namespace Go.Proofs.Ytjhcnhihmgpgbaa
open Go.RowKit

/-- members put in one by one: the first error, members, levels -/
def bldS : List Int → List Int → List (List Nat) → Int × List Int × List (List Nat)
  | [], ids, lv => (0, ids, lv)
  | id :: r, ids, lv => if insE ids (levI lv) id = 0 then bldS r (insS ids lv id).1 (insS ids lv id).2 else (insE ids (levI lv) id, [], [])
def BuildPost (w : World) (xs : List Int) (e : Ending) (w' : World) : Prop :=
  Below w.heap.size w w' ∧ ∃ Ai ni ci Al nl cl, e = .returned (.tuple #[.agg (shV Ai ni ci Al nl cl), .int .i64 (bldS xs [] []).1]) ∧ ShN w.heap.size w' w'.heap.size Ai ni ci Al nl cl (bldS xs [] []).2.1 (levI (bldS xs [] []).2.2)
theorem Ms.subT {w0 w : World} {L L' : List (Nat × TypeId × Array Value)} (h : Ms w0 w L) (hs : ∀ p ∈ L', p ∈ L) : Ms w0 w L' := ⟨h.old, fun p hp => h.rows p (hs p hp)⟩
theorem few_million {ids : List Int} {ll : List (List Int)} (h : fewT ids ll = true) : ∀ l ∈ ll, l.length ≤ 1000000 := fun l hl => by
  have := (few_len h).1 l hl
  omega

set_option maxRecDepth 100000 in
set_option maxHeartbeats 4000000 in
theorem BuildT_any (A : Option Addr) (n c : Nat) (xs : List Int) (w : World) (hn : n ≤ maxLen) (hr : Rd w w.heap.size A n (xs.map iv)) :
    Calls Try.prog 30 #[.slice A n c] w (BuildPost w xs) := by
  have hM0 := ((Ms.nil w).box 25 #[.slice none 0 0, .slice none 0 0]).put 25 #[.slice none 0 0, .slice none 0 0] #[.slice none 0 0, .slice none 0 0]
  simp only [World.size_alloc] at hM0
  have hxl : xs.length = n := by simpa using hr.len
  have Hxl := Lib.hid hxl
  rw [maxLen] at hn
  have HP := Lib.hid (show ∀ e w' Ai ni ci Al nl cl er ids lv, (er, ids, lv) = bldS xs [] [] → Below w.heap.size w w' → e = .returned (.tuple #[.agg (shV Ai ni ci Al nl cl), .int .i64 er]) → ShN w.heap.size w' w'.heap.size Ai ni ci Al nl cl ids (levI lv) → BuildPost w xs e w' from fun e w' Ai ni ci Al nl cl er ids lv h1 h2 h3 h4 => ⟨h2, Ai, ni, ci, Al, nl, cl, by rw [h3, ← h1], by rw [← h1]; exact h4⟩)
  generalize BuildPost w xs = PO at *
  clear hxl
  go_enter Try.func30, Try.ntmps30
  go_upto_region 2 with ((with_reducible show wpList _ _ _ (⟨none, Op.store 25 _ _, _, _, _, _⟩ :: _) _ _); refine wpList_store_row rfl 25 (.tmp 4) (.tmp 9) rfl (w.heap.size + 1) #[.slice none 0 0, .slice none 0 0] rfl rfl 25 _ (RowC.mk_ _ _ _ (by simp)) shapeInfo2 rfl (by simp [Value.oneCell']) ?_)
  try simp only [Act.put]
  refine wp_gen (fun wx => Ms w wx [(w.heap.size + 1, 25, #[.slice none 0 0, .slice none 0 0]), (w.heap.size, 25, #[.slice none 0 0, .slice none 0 0])]) hM0 ?_
  clear hM0
  rintro w1 hM1
  go_wp2_with fail
  go_loopw [12] (fun v12 wr => ∃ (j : Nat) (Ai : Option Addr) (ni ci : Nat) (Al : Option Addr) (nl cl : Nat) (ids : List Int) (lv : List (List Nat)), j ≤ n ∧ v12 = .int .i64 (j : Int) ∧ chkT ids (levI lv) = true ∧ bldS xs [] [] = bldS (xs.drop j) ids lv ∧ ShN (w.heap.size + 2) wr wr.heap.size Ai ni ci Al nl cl ids (levI lv) ∧
    Ms w wr [(w.heap.size + 1, 25, shV Ai ni ci Al nl cl), (w.heap.size, 25, #[.slice none 0 0, .slice none 0 0])]) (fun v12 _ => n - (intOf v12).toNat)
  case atStart => exact ⟨0, none, 0, 0, none, 0, 0, [], [], by omega, rfl, rfl, rfl, ShN.nil _ _ _, hM1⟩
  case round =>
    clear hM1
    obtain ⟨j, Ai, ni, ci, Al, nl, cl, ids, lv, hj, rfl, hck, hbl, hsh, hM⟩ := hrel
    have hb := hM.old
    have hlt := (hM.get 0 rfl).lt
    by_cases hjn : j < n
    · have hjx : j < xs.length := by rw [Hxl.out]; exact hjn
      obtain ⟨b, o, rfl, hbb, hcell⟩ := (hr.below hb).pos (by omega)
      have c1 := hcell j (iv xs[j]) (by rw [List.getElem?_map, List.getElem?_eq_getElem hjx]; rfl)
      rw [iv_def] at c1
      have Hd := Lib.hid (show xs.drop j = xs[j] :: xs.drop (j + 1) from List.drop_eq_getElem_cons hjx)
      have hin := InsertT_any Ai ni ci Al nl cl ids (levI lv) xs[j] wr hsh.sh (few_million (few_of_chk hck))
      generalize xs[j] = id at *
      have Hck := Lib.hid hck
      have Hbl := Lib.hid hbl
      clear hck hbl hcell
      go_wp2_with ((with_reducible show wpList _ _ _ (⟨some 17, _, _, _, _, _⟩ :: _) _ _); refine wpList_loadC (by kernel_rfl) 25 (.tmp 4) rfl (w.heap.size + 1) rfl 25 (shV Ai ni ci Al nl cl) _ (hM.get 0 rfl) Try.underlying25 rfl (sizeSh _ _ _ _ _ _) ?_)
      refine hin.mono ?_
      intro e w2 hP
      obtain ⟨hb2, ⟨he, rfl⟩ | ⟨he, Ai2, ni2, ci2, Al2, nl2, cl2, rfl, hsh2⟩⟩ := hP
      · have hP2 := (hM.call hb2).put 25 #[.slice none 0 0, .slice none 0 0] sh0
        have HE := Lib.hid (show (insE ids (levI lv) id, ([] : List Int), ([] : List (List Nat))) = bldS xs [] [] by rw [Hbl.out, Hd.out, bldS, if_neg he])
        generalize insE ids (levI lv) id = er at *
        have hne : ¬ er = 0 := he
        have h2lt := (hP2.get 2 rfl).lt
        clear hin hM hsh c1
        go_wp2_with (first
          | ((with_reducible show wpList _ _ _ (⟨none, Op.store 25 _ _, _, _, _, _⟩ :: _) _ _); refine wpList_store_row rfl 25 (.tmp 7) (.tmp 20) rfl (w2.heap.size) sh0 rfl rfl 25 _ (RowC.new _ _ _) shapeInfo2 rfl (by simp [sh0, Value.oneCell']) ?_)
          | ((with_reducible show wpList _ _ _ (⟨none, Op.store 25 _ _, _, _, _, _⟩ :: _) _ _); refine wpList_store_row rfl 25 (.tmp 2) (.tmp 24) rfl (w.heap.size) #[.slice none 0 0, .slice none 0 0] rfl rfl 25 _ (hP2.get 2 rfl) shapeInfo2 rfl (by simp [Value.oneCell']) ?_))
        refine bodyPost_ret (results_cell_two rfl _ _ w.heap.size 25 #[.slice none 0 0, .slice none 0 0] _ rfl ((hP2.get 2 rfl).row _) Try.underlying25 rfl shapeInfo2) rfl ?_
        exact HP.out _ _ none 0 0 none 0 0 _ _ _ HE.out (below_setRow hP2.old (Nat.le_refl _) _) rfl (ShN.nil _ _ _)
      · have hP2 := (hM.call hb2).put 25 #[.slice none 0 0, .slice none 0 0] (shV Ai2 ni2 ci2 Al2 nl2 cl2)
        have hsl := lvN_levI lv
        rw [hsl] at hsh2
        have hc2 := (ins_chk he).2.2
        rw [hsl] at hc2
        have hbl2 : bldS xs [] [] = bldS (xs.drop (j + 1)) (insS ids lv id).1 (insS ids lv id).2 := by rw [Hbl.out, Hd.out, bldS, if_pos he]
        have hsz := hb2.size
        have hB3 : Below w2.heap.size w2 ((w2.alloc (.cells #[.slice none 0 0, .slice none 0 0] 25)).setRow w2.heap.size (shV Ai2 ni2 ci2 Al2 nl2 cl2)) := below_setRow ((Below.refl _ _).alloc (Nat.le_refl _) _) (Nat.le_refl _) _
        have hsh3 := hsh2.call hB3
        have hM4 := Ms.setT (Ms.subT (L' := [(w.heap.size + 1, 25, shV Ai ni ci Al nl cl), (w.heap.size, 25, #[.slice none 0 0, .slice none 0 0])]) hP2 (fun p hp => by simp at hp; rcases hp with rfl | rfl <;> simp)) (by omega) (fun p hp => by simp at hp; subst hp; simp) (shV Ai2 ni2 ci2 Al2 nl2 cl2)
        have hsh4 := (hsh3.mono (lo' := w.heap.size + 2) (by omega)).box (g := w.heap.size + 1) (by omega) (shV Ai2 ni2 ci2 Al2 nl2 cl2)
        have hs4 : (((w2.alloc (.cells #[.slice none 0 0, .slice none 0 0] 25)).setRow w2.heap.size (shV Ai2 ni2 ci2 Al2 nl2 cl2)).setRow (w.heap.size + 1) (shV Ai2 ni2 ci2 Al2 nl2 cl2)).heap.size = ((w2.alloc (.cells #[.slice none 0 0, .slice none 0 0] 25)).setRow w2.heap.size (shV Ai2 ni2 ci2 Al2 nl2 cl2)).heap.size := size_setRowT _ _ _
        rw [← hs4] at hsh4
        generalize (insS ids lv id).1 = ids2 at *
        generalize (insS ids lv id).2 = lv2 at *
        clear hin hM hsh c1 hsh2 hsh3 hB3
        go_wp2_with (first
          | ((with_reducible show wpList _ _ _ (⟨none, Op.store 25 _ _, _, _, _, _⟩ :: _) _ _); refine wpList_store_row rfl 25 (.tmp 7) (.tmp 20) rfl (w2.heap.size) (shV Ai2 ni2 ci2 Al2 nl2 cl2) rfl rfl 25 _ (RowC.new _ _ _) (sizeSh _ _ _ _ _ _) rfl (one_sh _ _ _ _ _ _) ?_)
          | ((with_reducible show wpList _ _ _ (⟨some 26, _, _, _, _, _⟩ :: _) _ _); refine wpList_loadC (by kernel_rfl) 25 (.tmp 7) rfl (w2.heap.size) rfl 25 (shV Ai2 ni2 ci2 Al2 nl2 cl2) _ (hP2.get 0 rfl) Try.underlying25 rfl (sizeSh _ _ _ _ _ _) ?_)
          | ((with_reducible show wpList _ _ _ (⟨none, Op.store 25 _ _, _, _, _, _⟩ :: _) _ _); refine wpList_store_row rfl 25 (.tmp 4) (.tmp 26) rfl (w.heap.size + 1) (shV Ai2 ni2 ci2 Al2 nl2 cl2) rfl rfl 25 _ (hP2.get 1 rfl) (sizeSh _ _ _ _ _ _) rfl (one_sh _ _ _ _ _ _) ?_))
        go_roundw
        case rel => exact ⟨j + 1, Ai2, ni2, ci2, Al2, nl2, cl2, ids2, lv2, by omega, by go_num, hc2, hbl2, hsh4, hM4⟩
        case measure => simp [intOf]; omega
    · obtain rfl : j = n := by omega
      have HE := Lib.hid (show ((0 : Int), ids, lv) = bldS xs [] [] by rw [hbl, List.drop_of_length_le (by rw [Hxl.out]; exact Nat.le_refl _)]; rfl)
      clear hbl
      go_wp2_with (first
        | ((with_reducible show wpList _ _ _ (⟨some 28, _, _, _, _, _⟩ :: _) _ _); refine wpList_loadC (by kernel_rfl) 25 (.tmp 4) rfl (w.heap.size + 1) rfl 25 (shV Ai ni ci Al nl cl) _ (hM.get 0 rfl) Try.underlying25 rfl (sizeSh _ _ _ _ _ _) ?_)
        | ((with_reducible show wpList _ _ _ (⟨none, Op.store 25 _ _, _, _, _, _⟩ :: _) _ _); refine wpList_store_row rfl 25 (.tmp 2) (.tmp 28) rfl (w.heap.size) (shV Ai ni ci Al nl cl) rfl rfl 25 _ (hM.get 1 rfl) (sizeSh _ _ _ _ _ _) rfl (one_sh _ _ _ _ _ _) ?_))
      refine bodyPost_ret (results_cell_two rfl _ _ w.heap.size 25 (shV Ai ni ci Al nl cl) _ rfl ((hM.get 1 rfl).row _) Try.underlying25 rfl (sizeSh _ _ _ _ _ _)) rfl ?_
      exact HP.out _ _ _ _ _ _ _ _ _ _ _ HE.out (below_setRow hM.old (Nat.le_refl _) _) rfl (by rw [size_setRowT]; exact (hsh.box (g := w.heap.size) (by omega) _).mono (by omega))

end Go.Proofs.Ytjhcnhihmgpgbaa

/-
  CONTRACT of the document's Copy (coterieref10).
-/
set_option linter.unusedVariables false
namespace Go.Proofs.Ytjhcnhihmgpgbaa
open Go.RowKit

/-- append onto a row of the call's own, a step of a region that draws its order: which block the row is in then -/
theorem step_append_rdT {P : Program} {w : World} {ops : Array Oper} {o : Oper} {a : Act} {K : Act → World → Prop} {Q : Exit → Act → World → Prop} {E : Prop} (hgd : Region.wanted o (yielded ops a.tmps) = true) (dst : Option Tmp) (hd : o.dst = dst) (s x : Operand) (t : TypeId)
    (ho : o.op = .call { callee := .builtin .append, args := #[s, x], argTypes := #[t, t] })
    (base : Nat) (e : TypeId) (i : TypeInfo) (z : Value) (bytes : Nat) (ht : P.underlying t = some (.slice e)) (hi : P.info? e = some i) (hz : i.zero = some z)
    (hsize : i.size = 1) (hby : i.bytes = bytes) (hzs : z.cells.size = 1)
    (v : Value) (n : Nat) (xs : List Value) (hs : a.eval s = v) (hown : w.ownsRow base e 1 v n xs)
    (B : Nat) (A : Option Addr) (m c : Nat) (news : List Value) (hx : a.eval x = .slice A m c) (hr : Rd w B A m news) (h1 : ∀ u ∈ news, u.oneCell' = true)
    (h63 : n + m ≤ maxLen) (hbytes : (n + m) * bytes ≤ 140737488355328) (hbase : base ≤ w.heap.size)
    (h : ∀ v' w', w'.ownsRow base e 1 v' (n + m) (xs ++ news) → w.grownBy w' v.ownBlock → (v'.ownBlock = v.ownBlock ∨ v'.ownBlock = some w.heap.size) → K (a.put dst v') w') : if Region.wanted o (yielded ops a.tmps) = true then Oper.wp P o a w K Q else E := by
  subst hd
  rw [if_pos hgd]
  obtain ⟨v', w', hrun, h2, h3, h4⟩ := run_append_rd (P := P) w base t o.type e i z bytes ht hi hz hsize hby hzs v n xs hown B A m c news hr h1 h63 hbytes hbase
  unfold Oper.wp execOp
  simp only [ho, resolve, invoke, builtin, Sem.run_bind, Sem.run_pure, Result.andThen_ok, List.map_toArray, List.map_cons, List.map_nil, hs, hx, hrun]
  exact h v' w' h2 h3 h4
/-- where lists lie: from lo on, below hi, in no row's block -/
def LvD (lo hi : Nat) (row : Option Nat) (vs : List Value) : Prop := ∀ v ∈ vs, ∀ A n c, v = .slice A n c → ∀ ad, A = some ad → lo ≤ ad.block ∧ ad.block < hi ∧ row ≠ some ad.block
theorem LvD.new {lo hi : Nat} {row : Option Nat} {vs : List Value} (h : LvD lo hi row vs) : NewVs lo vs := fun v hv A n c e ad had => (h v hv A n c e ad had).1
theorem Rd.grownD {w w' : World} {row : Option Nat} {B n : Nat} {A : Option Addr} {xs : List Value} (h : Rd w B A n xs) (hg : w.grownBy w' row) (hB : B ≤ w.heap.size) (hne : ∀ ad, A = some ad → row ≠ some ad.block) : Rd w' B A n xs := by
  refine ⟨h.len, fun h0 => ?_⟩
  obtain ⟨b, o, h1, h2, h3⟩ := h.pos h0
  refine ⟨b, o, h1, h2, fun j u hu => ?_⟩
  rw [← h3 j u hu]
  exact World.cell?_of_block (hg.block b (by omega) (fun e => hne _ h1 e.symm))
theorem Lvs.keepD {w w' : World} {B B' : Nat} {vs : List Value} {ll : List (List Int)} (h : Lvs w B vs ll) (hk : ∀ v ∈ vs, ∀ A n c xs, v = .slice A n c → Rd w B A n xs → Rd w' B' A n xs) : Lvs w' B' vs ll :=
  ⟨h.1, fun i v l hv hl => by
    obtain ⟨A, c, e, hc, hm, hr⟩ := h.2 i v l hv hl
    exact ⟨A, c, e, hc, hm, hk v (List.mem_of_getElem? hv) A _ _ _ e hr⟩⟩
theorem Lvs.snoc {w : World} {B : Nat} {vs : List Value} {ll : List (List Int)} {A : Option Addr} {c : Nat} {l : List Int} (h : Lvs w B vs ll) (hc : l.length ≤ c) (hm : c ≤ maxLen) (hr : Rd w B A l.length (l.map iv)) : Lvs w B (vs ++ [.slice A l.length c]) (ll ++ [l]) := by
  refine ⟨by simp [h.1], fun i v k hv hk => ?_⟩
  rcases Nat.lt_or_ge i vs.length with hi | hi
  · rw [List.getElem?_append_left hi] at hv
    rw [List.getElem?_append_left (by rw [← h.1]; exact hi)] at hk
    exact h.2 i v k hv hk
  · have hi' : i = vs.length := by
      have := (List.getElem?_eq_some_iff.1 hv).1
      simp at this
      omega
    subst hi'
    rw [List.getElem?_append_right (Nat.le_refl _), Nat.sub_self] at hv
    rw [h.1, List.getElem?_append_right (Nat.le_refl _), Nat.sub_self] at hk
    simp at hv hk
    subst hv hk
    exact ⟨A, c, rfl, hc, hm, hr⟩
theorem Rd.setCellN {w : World} {g i lo : Nat} (hg : g < lo) (u : Value) {B n : Nat} {A : Option Addr} {xs : List Value} (h : Rd w B A n xs) (hn : NewA lo A) : Rd (w.setCell ⟨g, i, none⟩ u) B A n xs := by
  refine ⟨h.len, fun h0 => ?_⟩
  obtain ⟨b, o, h1, h2, h3⟩ := h.pos h0
  refine ⟨b, o, h1, h2, fun j v hv => ?_⟩
  rw [← h3 j v hv]
  have hlb : lo ≤ b := hn _ h1
  exact World.cell?_of_block (Below.heap_setCell w ⟨g, i, none⟩ u b (show b ≠ g by omega))

def CopyPost (w : World) (ids : List Int) (ll : List (List Int)) (e : Ending) (w' : World) : Prop :=
  Below w.heap.size w w' ∧ ∃ Ai ni ci Al nl cl, e = .returned (.agg (shV Ai ni ci Al nl cl)) ∧ ShN w.heap.size w' w'.heap.size Ai ni ci Al nl cl ids ll

set_option maxRecDepth 100000 in
set_option maxHeartbeats 1000000 in
theorem CopyT_any (Ai : Option Addr) (ni ci : Nat) (Al : Option Addr) (nl cl : Nat) (ids : List Int) (ll : List (List Int)) (w : World) (h : ShR w w.heap.size Ai ni ci Al nl cl ids ll) (hf : fewT ids ll = true) :
    Calls Try.prog 13 #[.agg (shV Ai ni ci Al nl cl)] w (CopyPost w ids ll) := by
  obtain ⟨i0, hi0, hz0, hz1, hz2⟩ := info_parts intInfo
  obtain ⟨i1, hi1, hy0, hy1, hy2⟩ := info_parts listInfo
  have hM0 := ((Ms.nil w).box 25 (shV Ai ni ci Al nl cl)).box 25 #[.slice none 0 0, .slice none 0 0]
  simp only [World.size_alloc] at hM0
  obtain ⟨hf1, hf2, hf3⟩ := few_len hf
  have Hni := Lib.hid h.hni
  have Hnl := Lib.hid h.hnl
  have hn1 : ni ≤ 1100 := by rw [← h.hni]; exact hf2
  have hn2 : nl ≤ 20 := by rw [← h.hnl]; exact hf3
  obtain ⟨vs, hv, hlv⟩ := h.lvs
  have hids := h.hids
  have HP := Lib.hid (show ∀ e w' Ai ni ci Al nl cl, Below w.heap.size w w' → e = .returned (.agg (shV Ai ni ci Al nl cl)) → ShN w.heap.size w' w'.heap.size Ai ni ci Al nl cl ids ll → CopyPost w ids ll e w' from fun e w' _ _ _ _ _ _ h1 h2 h3 => ⟨h1, _, _, _, _, _, _, h2, h3⟩)
  generalize CopyPost w ids ll = PO at *
  clear h hf
  go_enter Try.func13, Try.ntmps13
  go_upto_region 1 with fail
  try simp only [Act.put]
  refine wp_gen (fun wx => Ms w wx [(w.heap.size + 1, 25, #[.slice none 0 0, .slice none 0 0]), (w.heap.size, 25, shV Ai ni ci Al nl cl)]) hM0 ?_
  clear hM0
  rintro w0 hM0
  have k0 := (hM0.get 1 rfl).cell (i := 0) (v := .slice Ai ni ci) rfl
  have hidw := (hids.below hM0.old)
  have hlt0 := (hM0.get 0 rfl).lt
  go_upto_region 2 with (first
    | (at_builtin; refine wpList_append_rd _ rfl (.const (.slice none 0 0)) (.tmp 7) _ rfl (w.heap.size + 2) 3 i0 _ 8 Try.underlying22 hi0 hz0 hz1 hz2 rfl (.slice none 0 0) 0 [] rfl (World.ownsRow_nil _ _ _ _) w.heap.size Ai ni ci (ids.map iv) rfl hidw (one_iv _) (by simp only [maxLen]; omega) (by omega) (by omega) ?_; intro v2 w2 hown2 hgr2 _; obtain ⟨A2, c2, rfl, _, _⟩ := own_formT hown2; rw [Nat.zero_add, List.nil_append] at hown2; have hB2 : Below w0.heap.size w0 w2 := (Below.refl _ _).grown hgr2 (Nat.le_refl _) (fun k hk => by simp [Value.ownBlock] at hk); have hM2 := hM0.call hB2)
    | ((with_reducible show wpList _ _ _ (⟨none, Op.store 25 _ _, _, _, _, _⟩ :: _) _ _); refine wpList_store_row rfl 25 (.tmp 3) (.tmp 9) rfl (w2.heap.size) #[.slice A2 ni c2, .slice none 0 0] rfl rfl 25 _ (RowC.new _ _ _) shapeInfo2 rfl (by simp [Value.oneCell']) ?_))
  try simp only [Act.put]
  have hN2 := NewA.of_own hown2 (Nat.le_refl _)
  have hci2 : ni ≤ c2 ∧ c2 ≤ maxLen := by
    obtain ⟨_, _, e0, h1, h2⟩ := own_formT hown2
    injection e0 with _ _ e3
    subst e3
    exact ⟨h1, h2⟩
  have hr2 : Rd w2 w2.heap.size A2 ni (ids.map iv) := Rd.of_own hown2
  have hM3 := hM2.put 25 #[.slice none 0 0, .slice none 0 0] #[.slice A2 ni c2, .slice none 0 0]
  have hB3 : Below w2.heap.size w2 ((w2.alloc (.cells #[.slice none 0 0, .slice none 0 0] 25)).setRow w2.heap.size #[.slice A2 ni c2, .slice none 0 0]) := below_setRow ((Below.refl _ _).alloc (Nat.le_refl _) _) (Nat.le_refl _) _
  have hr3 := hr2.below hB3
  have hg3 := (hM2.get 0 rfl).lt
  refine wp_gen (fun wx => Ms w wx [(w2.heap.size, 25, #[.slice A2 ni c2, .slice none 0 0]), (w.heap.size + 1, 25, #[.slice none 0 0, .slice none 0 0]), (w.heap.size, 25, shV Ai ni ci Al nl cl)] ∧ Rd wx w2.heap.size A2 ni (ids.map iv)) ⟨hM3, hr3⟩ ?_
  clear hr3 hB3 hM3 hr2
  rintro w4 ⟨hM4, hr4⟩
  obtain ⟨g, hg⟩ : ∃ g, g = w2.heap.size := ⟨_, rfl⟩
  rw [← hg] at hM4 hr4 hg3 ⊢
  clear hg hown2 hgr2 hM2 k0 hM0 hidw hlt0
  have k1 := (hM4.get 2 rfl).cell (i := 1) (v := .slice Al nl cl) rfl
  go_wp2_with fail
  go_loopw [13] (fun v13 wr => ∃ (j : Nat) (A3 : Option Addr) (c3 : Nat) (us : List Value), j ≤ nl ∧ v13 = .int .i64 (j : Int) ∧ wr.ownsRow (g + 1) 22 1 (.slice A3 j c3) j us ∧ Lvs wr wr.heap.size us (ll.take j) ∧ LvD (g + 1) wr.heap.size (Value.slice A3 j c3).ownBlock us ∧ Rd wr g A2 ni (ids.map iv) ∧
    Ms w wr [(g, 25, #[.slice A2 ni c2, .slice A3 j c3]), (w.heap.size + 1, 25, #[.slice none 0 0, .slice none 0 0]), (w.heap.size, 25, shV Ai ni ci Al nl cl)]) (fun v13 _ => nl - (intOf v13).toNat)
  case atStart => exact ⟨0, none, 0, [], by omega, rfl, World.ownsRow_nil _ _ _ _, Lvs.nil _ _, (fun v hv => by cases hv), hr4, hM4⟩
  case round =>
    clear hM4 hr4 k1
    obtain ⟨j, A3, c3, us, hj, rfl, hown, hls, hld, hrI, hM⟩ := hrel
    have hb := hM.old
    have hltg := (hM.get 0 rfl).lt
    obtain ⟨_, _, e0, hjc, hcm3⟩ := own_formT hown
    injection e0 with e1 e2 e3
    subst e1 e3
    clear e2
    by_cases hjn : j < nl
    · have hjl : j < ll.length := by rw [Hnl.out]; exact hjn
      obtain ⟨b, o, rfl, hbb, hcell⟩ := (hv.below hb).pos (by omega)
      obtain ⟨Aj, cj, hvj, hcj, hmj, hrj⟩ := hlv.get hjl
      have c1 := hcell j _ hvj
      have hrjw := hrj.below hb
      have hlj := hf1 _ (List.getElem_mem hjl)
      have Ht := Lib.hid (show ll.take (j + 1) = ll.take j ++ [ll[j]] from List.take_succ_eq_append_getElem hjl)
      generalize ll[j] = l at *
      have kg := (hM.get 0 rfl).cell (i := 1) (v := .slice A3 j c3) rfl
      clear hcell hvj hrj hjl
      go_upto_region 5 with fail
      try simp only [Act.put]
      have hkeep : ∀ wx : World, Below wr.heap.size wr wx → wx.cell? ⟨g, 1, none⟩ = some (.slice A3 j c3) := fun wx hb => ((hM.get 0 rfl).call hb).cell rfl
      refine beginT (fun wx => wx.cell? ⟨g, 1, none⟩ = some (.slice A3 j c3)) 7 (by kernel_rfl) ?_
      have hS := hkeep _ (c_drew (c_refl _))
      refine takeD 0 (some 17) (.pointer (some ⟨g, 1, none⟩)) rfl rfl (by kernel_rfl) (by kernel_rfl) (by kernel_rfl) (by kernel_rfl) (fun _ _ _ h => h) (Or.inl ⟨by kernel_rfl, fun wx hSw => by go_simp⟩) hS ?_
      simp only [Act.put, List.setIfInBounds_toArray, List.set_cons_zero, List.set_cons_succ]
      refine takeD 1 (some 18) (.slice A3 j c3) rfl rfl (by kernel_rfl) (by kernel_rfl) (by kernel_rfl) (by kernel_rfl) (fun _ _ _ h => h) (Or.inl ⟨by kernel_rfl, fun wx hSw => by have h := hSw; go_simp⟩) hS ?_
      simp only [Act.put, List.setIfInBounds_toArray, List.set_cons_zero, List.set_cons_succ]
      refine takeD 2 (some 19) (.slice Aj l.length cj) rfl rfl (by kernel_rfl) (by kernel_rfl) (by kernel_rfl) (by kernel_rfl) (fun _ _ _ h => h) (Or.inl ⟨by kernel_rfl, fun wx hSw => by go_simp⟩) hS ?_
      simp only [Act.put, List.setIfInBounds_toArray, List.set_cons_zero, List.set_cons_succ]
      have hx0 : Below wr.heap.size wr wr.drew := c_drew (c_refl _)
      have hM4 := hM.call hx0
      have hown4 := own_below hown hx0
      have hrj4 := hrjw.below (hx0.mono hb.size)
      have hrI4 := hrI.below (hx0.mono (by omega))
      have hls4 := hls.below hx0
      have hsx : wr.drew.heap.size = wr.heap.size := rfl
      have hbx := hM4.old.size
      generalize wr.drew = x0 at *
      refine oneT 3 (by kernel_rfl) rfl (fun K hK => ?_)
      refine step_append_rdT (by kernel_rfl) (some 20) rfl (.const (.slice none 0 0)) (.tmp 19) _ rfl (g + 1) 3 i0 _ 8 Try.underlying22 hi0 hz0 hz1 hz2 rfl (.slice none 0 0) 0 [] rfl (World.ownsRow_nil _ _ _ _) w.heap.size Aj l.length cj (l.map iv) rfl hrj4 (one_iv _) (by simp only [maxLen]; omega) (by omega) (by omega) ?_
      intro v5 w5 hown5 hgr5 hat5
      obtain ⟨A5, c5, rfl, hc5, hm5⟩ := own_formT hown5
      rw [Nat.zero_add, List.nil_append] at hown5
      rw [Nat.zero_add] at hc5
      have hB5 : Below x0.heap.size x0 w5 := (Below.refl _ _).grown hgr5 (Nat.le_refl _) (fun k hk => by simp [Value.ownBlock] at hk)
      have hs5 := hB5.size
      have hM5 := hM4.call hB5
      have hown45 := own_below hown4 hB5
      have hr5 : Rd w5 w5.heap.size A5 l.length (l.map iv) := Rd.of_own hown5
      have hA5 : ∀ ad, A5 = some ad → ad.block = x0.heap.size ∧ ad.block < w5.heap.size := fun ad had => by
        subst had
        have h1 := own_ltT hown5 ad.block rfl
        rcases hat5 with e | e
        · simp [Value.ownBlock] at e
        · simp only [Value.ownBlock] at e; injection e with e; exact ⟨e, h1⟩
      have hwx : Below wr.heap.size wr w5 := c_call hx0 hB5
      refine hK.out _ _ (fun _ => hkeep _ hwx) ?_
      clear hK K
      rw [Nat.zero_add]
      simp only [Act.put, List.setIfInBounds_toArray, List.set_cons_zero, List.set_cons_succ]
      have hal := d_al w5 (.cells #[.slice A5 l.length c5] 22)
      have hM6 := hM5.call hal
      have hown46 := own_below hown45 hal
      have hr6 := hr5.below hal
      have hxx := c_call hwx hal
      refine oneT 4 (by kernel_rfl) rfl (fun K hK => ?_)
      go_simp
      refine hK.out _ _ (fun _ => hkeep _ hxx) ?_
      clear hK K
      have hone6 : ∀ u ∈ [Value.slice A5 l.length c5], u.oneCell' = true := by intro u hu; simp at hu; subst hu; rfl
      refine oneT 5 (by kernel_rfl) rfl (fun K hK => ?_)
      refine step_append_rdT (by kernel_rfl) (some 22) rfl (.tmp 18) (.tmp 21) _ rfl (g + 1) 22 i1 _ 24 Try.underlying23 hi1 hy0 hy1 hy2 rfl (.slice A3 j c3) j us rfl hown46 (w5.heap.size + 1) (some ⟨w5.heap.size, 0, none⟩) 1 1 [.slice A5 l.length c5] rfl (Rd.mk_ _ _ _ rfl (by omega) rfl rfl) hone6 (by simp only [maxLen]; omega) (by omega) (by simp; omega) ?_
      intro v6 w6 hown6 hgr6 hat6
      obtain ⟨A6, c6, rfl, _, _⟩ := own_formT hown6
      have hge6 : ∀ k, (Value.slice A3 j c3).ownBlock = some k → g + 1 ≤ k ∧ k < wr.heap.size := fun k hk => ⟨own_blockT hown k hk, own_ltT hown k hk⟩
      have hM6b := hM6.grownT hgr6 (fun k hk => by have := (hge6 k hk).1; omega) (fun p hp k hk => by have := (hge6 k hk).1; simp at hp; rcases hp with rfl | rfl | rfl <;> simp <;> omega)
      have hs6 : w5.heap.size + 1 ≤ w6.heap.size := by have := hgr6.size; simpa using this
      have hkp : ∀ v ∈ us, ∀ A n c xs, v = .slice A n c → Rd wr wr.heap.size A n xs → Rd w6 w6.heap.size A n xs := fun v hv A n c xs e hr => by
        have h1 := hr.below hxx
        exact (h1.grownD hgr6 (by simp; omega) (fun ad had => (hld v hv A n c e ad had).2.2)).more (by omega)
      have hls6 := hls.keepD hkp
      have hr6b := (hr6.grownD hgr6 (by simp) (fun ad had e => by have h1 := (hA5 ad had).1; have h2 := (hge6 _ e).2; omega)).more (show w5.heap.size ≤ w6.heap.size by omega)
      have hls6b := hls6.snoc hc5 hm5 hr6b
      rw [← Ht.out] at hls6b
      have hrI6 : Rd w6 g A2 ni (ids.map iv) := ((hrI.below (hxx.mono (by omega))).grown hgr6 (by simp; omega) (fun k hk => by have := (hge6 k hk).1; omega))
      have hld6 : LvD (g + 1) w6.heap.size (Value.slice A6 (j + 1) c6).ownBlock (us ++ [.slice A5 l.length c5]) := fun v hv A n c e ad had => by
        have key : g + 1 ≤ ad.block ∧ ad.block < w5.heap.size ∧ (Value.slice A3 j c3).ownBlock ≠ some ad.block := by
          rcases List.mem_append.1 hv with hv | hv
          · have h1 := hld v hv A n c e ad had
            exact ⟨h1.1, by omega, h1.2.2⟩
          · have h1 : v = .slice A5 l.length c5 := by simpa using hv
            rw [h1] at e
            injection e with e1
            have h2 := hA5 ad (e1.trans had)
            exact ⟨by omega, h2.2, fun e9 => by have := (hge6 _ e9).2; omega⟩
        refine ⟨key.1, by omega, fun e9 => ?_⟩
        rcases hat6 with h1 | h1
        · exact key.2.2 (h1.symm.trans e9)
        · rw [e9] at h1; injection h1 with h1; simp at h1; omega
      have kx : w6.cell? ⟨g, 1, none⟩ = some (.slice A3 j c3) := (hM6b.get 0 rfl).cell rfl
      have fx := (hM6b.get 0 rfl).frozen 1
      refine hK.out _ _ (fun _ => kx) ?_
      clear hK K
      simp only [Act.put, List.setIfInBounds_toArray, List.set_cons_zero, List.set_cons_succ]
      have hM7 := hM6b.setCellT (by omega) (fun p hp => by simp at hp; rcases hp with rfl | rfl <;> simp <;> omega) 1 (.slice A6 (j + 1) c6)
      rw [show (#[.slice A2 ni c2, .slice A3 j c3] : Array Value).setIfInBounds 1 (.slice A6 (j + 1) c6) = #[.slice A2 ni c2, .slice A6 (j + 1) c6] from rfl] at hM7
      have hown7 := own_cellT (p := ⟨g, 1, none⟩) hown6 (fun k hk => by have := own_blockT hown6 k hk; show k ≠ g; omega) (.slice A6 (j + 1) c6)
      have hz7 : (w6.setCell ⟨g, 1, none⟩ (.slice A6 (j + 1) c6)).heap.size = w6.heap.size := by simp
      have hls7 := hls6b.keepD (w' := w6.setCell ⟨g, 1, none⟩ (.slice A6 (j + 1) c6)) (B' := w6.heap.size) (fun v hv A n c xs e hr => hr.setCellN (lo := g + 1) (by omega) _ (hld6.new v hv A n c e))
      have hrI7 : Rd (w6.setCell ⟨g, 1, none⟩ (.slice A6 (j + 1) c6)) g A2 ni (ids.map iv) := hrI6.setCell (Nat.le_refl _) _
      have hld7 := hld6
      rw [← hz7] at hls7 hld7
      clear hM6b hM6 hM5 hM4 hown46 hown45 hown4 hr6b hr6 hr5 hls6b hls6 hls4 hrI6 hrI4 hkp hown5 hgr5 hat5 hM hown hls hld hrI
      refine takeD 6 (some 23) (.pointer (some ⟨g, 1, none⟩)) rfl rfl (by kernel_rfl) (by kernel_rfl) (by kernel_rfl) (by kernel_rfl) (fun _ _ _ h => h) (Or.inl ⟨by kernel_rfl, fun wx hSw => by go_simp⟩) kx ?_
      simp only [Act.put, List.setIfInBounds_toArray, List.set_cons_zero, List.set_cons_succ]
      refine oneT 7 (by kernel_rfl) rfl (fun K hK => ?_)
      go_simp
      refine hK.out _ _ (fun h => absurd rfl h) ?_
      clear hK K
      refine doneT (by kernel_rfl) ?_ _
      go_wp2_with fail
      go_roundw
      case rel => exact ⟨j + 1, A6, c6, us ++ [.slice A5 l.length c5], by omega, by go_num, hown7, hls7, hld7, hrI7, hM7⟩
      case measure => simp [intOf]; omega
    · obtain rfl : j = nl := by omega
      rw [List.take_of_length_le (by rw [Hnl.out]; exact Nat.le_refl _)] at hls
      have hrl : Rd wr wr.heap.size A3 j us := Rd.of_own hown
      have hN3 := NewA.of_own hown (lo := w.heap.size + 2) (by omega)
      have hsh : ShN (w.heap.size + 2) wr wr.heap.size A2 ni c2 A3 j c3 ids ll := ⟨⟨Hni.out, Hnl.out, hci2.1, hjc, hci2.2, hcm3, hrI.more (by omega), us, hrl, hls⟩, hN2, hN3, us, hrl, hls, fun v hv A n c e => (hld.new v hv A n c e).mono (by omega)⟩
      clear hrl hown hls hld hrI
      go_wp2_with (first
        | ((with_reducible show wpList _ _ _ (⟨some 25, _, _, _, _, _⟩ :: _) _ _); refine wpList_loadC (by kernel_rfl) 25 (.tmp 3) rfl (g) rfl 25 #[.slice A2 ni c2, .slice A3 j c3] _ (hM.get 0 rfl) Try.underlying25 rfl shapeInfo2 ?_)
        | ((with_reducible show wpList _ _ _ (⟨none, Op.store 25 _ _, _, _, _, _⟩ :: _) _ _); refine wpList_store_row rfl 25 (.tmp 2) (.tmp 25) rfl (w.heap.size + 1) #[.slice A2 ni c2, .slice A3 j c3] rfl rfl 25 _ (hM.get 1 rfl) shapeInfo2 rfl (by simp [Value.oneCell']) ?_))
      refine bodyPost_ret (results_cell_one rfl _ _ (w.heap.size + 1) 25 #[.slice A2 ni c2, .slice A3 j c3] _ rfl ((hM.get 1 rfl).row _) Try.underlying25 rfl shapeInfo2) rfl ?_
      exact HP.out _ _ A2 ni c2 A3 j c3 (below_setRow hM.old (by omega) _) rfl (by rw [size_setRowT]; exact (hsh.box (g := w.heap.size + 1) (by omega) _).mono (by omega))

end Go.Proofs.Ytjhcnhihmgpgbaa

/-
  WHAT LAYER 10's CALLS OF THE PROGRAM ANSWER, as hypotheses of the walks, and the walk of the laws' live (coterielaw10).
-/
set_option linter.unusedVariables false
namespace Go.Proofs.Ytjhcnhihmgpgbaa
open Go.RowKit

def HTB : Prop := ∀ (A : Option Addr) (n c : Nat) (xs : List Int) (w : World), n ≤ 1000000 → Rd w w.heap.size A n (xs.map iv) → Calls Try.prog 29 #[.slice A n c] w (BuildPost w xs)
def HTC : Prop := ∀ (Ai : Option Addr) (ni ci : Nat) (Al : Option Addr) (nl cl : Nat) (ids : List Int) (ll : List (List Int)) (w : World), ShR w w.heap.size Ai ni ci Al nl cl ids ll → fewT ids ll = true → Calls Try.prog 25 #[.agg (shV Ai ni ci Al nl cl)] w fun e w' => e = .returned (.int .i64 (chkE ids ll)) ∧ Below w.heap.size w w'
def HTI : Prop := ∀ (Ai : Option Addr) (ni ci : Nat) (Al : Option Addr) (nl cl : Nat) (ids : List Int) (ll : List (List Int)) (id : Int) (w : World), ShR w w.heap.size Ai ni ci Al nl cl ids ll → fewT ids ll = true → Calls Try.prog 14 #[.agg (shV Ai ni ci Al nl cl), .int .i64 id] w (InsPost w ids ll id)
def HTD : Prop := ∀ (Ai : Option Addr) (ni ci : Nat) (Al : Option Addr) (nl cl : Nat) (ids : List Int) (ll : List (List Int)) (id : Int) (w : World), ShR w w.heap.size Ai ni ci Al nl cl ids ll → fewT ids ll = true → Calls Try.prog 16 #[.agg (shV Ai ni ci Al nl cl), .int .i64 id] w (DelPost w ids ll id)
def HTF : Prop := ∀ (Ai : Option Addr) (ni ci : Nat) (Al : Option Addr) (nl cl : Nat) (ids : List Int) (ll : List (List Int)) (id : Int) (w : World), ShR w w.heap.size Ai ni ci Al nl cl ids ll → fewT ids ll = true → Calls Try.prog 19 #[.agg (shV Ai ni ci Al nl cl), .int .i64 id] w fun e w' => e = .returned (.tuple #[.int .i64 (belT ids id : Int), .bool (isT ids id)]) ∧ Below w.heap.size w w'
def HTP : Prop := ∀ (Ai : Option Addr) (ni ci : Nat) (Al : Option Addr) (nl cl : Nat) (ids : List Int) (ll : List (List Int)) (id : Int) (w : World), ShR w w.heap.size Ai ni ci Al nl cl ids ll → fewT ids ll = true → Calls Try.prog 21 #[.agg (shV Ai ni ci Al nl cl), .int .i64 id] w (PathPost w ids ll id)
def HTS : Prop := ∀ (Ai : Option Addr) (ni ci : Nat) (Al : Option Addr) (nl cl : Nat) (ids : List Int) (ll : List (List Int)) (level : Int) (w : World), -9223372036854775808 ≤ level → level ≤ 9223372036854775807 → ShR w w.heap.size Ai ni ci Al nl cl ids ll → fewT ids ll = true → Calls Try.prog 23 #[.agg (shV Ai ni ci Al nl cl), .int .i64 level] w (SpansPost w ids ll level)
def HTM : Prop := ∀ (Ai : Option Addr) (ni ci : Nat) (Al : Option Addr) (nl cl : Nat) (ids : List Int) (ll : List (List Int)) (Ai' : Option Addr) (ni' ci' : Nat) (Al' : Option Addr) (nl' cl' : Nat) (ids' : List Int) (ll' : List (List Int)) (w : World), ShR w w.heap.size Ai ni ci Al nl cl ids ll → ShR w w.heap.size Ai' ni' ci' Al' nl' cl' ids' ll' → fewT ids ll = true → fewT ids' ll' = true →
  Calls Try.prog 28 #[.agg (shV Ai ni ci Al nl cl), .agg (shV Ai' ni' ci' Al' nl' cl')] w fun e w' => e = .returned (.bool (ids == ids' && ll == ll')) ∧ Below w.heap.size w w'

theorem bld_live : bldS [1, 2, 3, 4] [] [] = (0, [1, 2, 3, 4], [[2, 2], [2]]) := by decide +kernel

set_option maxRecDepth 100000 in
set_option maxHeartbeats 4000000 in
theorem live10 (hB : HTB) (hC : HTC) (hS : HTM) (w : World) :
    Calls Try.prog 11 #[] w fun e w' => e = .returned (.bool true) ∧ Below w.heap.size w w' := by
  have hbl := hB (some ⟨w.heap.size, 0, none⟩) 4 4 [1, 2, 3, 4] (w.alloc (.cells #[.int .i64 1, .int .i64 2, .int .i64 3, .int .i64 4] 3)) (by omega) (Rd.mk_ _ _ _ rfl (by simp) rfl rfl)
  have hM0 := (Ms.nil w).call (d_al w (.cells #[.int .i64 1, .int .i64 2, .int .i64 3, .int .i64 4] 3))
  go_enter Try.func11, Try.ntmps11
  go_wp2_with fail
  refine hbl.mono ?_
  rintro e w1 ⟨hb1, Ai, ni, ci, Al, nl, cl, rfl, hsh⟩
  rw [bld_live] at hsh ⊢
  have hM1 := (hM0.call hb1).put 25 #[.slice none 0 0, .slice none 0 0] (shV Ai ni ci Al nl cl)
  have hB3 : Below w1.heap.size w1 ((w1.alloc (.cells #[.slice none 0 0, .slice none 0 0] 25)).setRow w1.heap.size (shV Ai ni ci Al nl cl)) := below_setRow ((Below.refl _ _).alloc (Nat.le_refl _) _) (Nat.le_refl _) _
  have hsh1 := hsh.sh.below hB3
  clear hbl hM0
  go_upto_region 2 with ((with_reducible show wpList _ _ _ (⟨none, Op.store 25 _ _, _, _, _, _⟩ :: _) _ _); refine wpList_store_row rfl 25 (.tmp 1) (.tmp 6) rfl (w1.heap.size) (shV Ai ni ci Al nl cl) rfl rfl 25 _ (RowC.new _ _ _) (sizeSh _ _ _ _ _ _) rfl (one_sh _ _ _ _ _ _) ?_)
  try simp only [Act.put]
  refine wp_gen (fun wx => Ms w wx [(w1.heap.size, 25, shV Ai ni ci Al nl cl)] ∧ ShR wx w1.heap.size Ai ni ci Al nl cl [1, 2, 3, 4] [[2, 2], [2]]) ⟨hM1, hsh1⟩ ?_
  clear hM1 hsh1 hB3 hsh hb1
  rintro w2 ⟨hM2, hsh2⟩
  have hck := hC Ai ni ci Al nl cl _ _ w2 (hsh2.more (Nat.le_of_lt (hM2.get 0 rfl).lt)) (by decide)
  rw [show chkE [1, 2, 3, 4] [[2, 2], [2]] = 0 by decide +kernel] at hck
  generalize hsv : shV Ai ni ci Al nl cl = sv at *
  have hsz : (Try.prog.info? 25).map (·.size) = some sv.size := by rw [← hsv]; exact sizeSh _ _ _ _ _ _
  go_wp2_with ((with_reducible show wpList _ _ _ (⟨some 11, _, _, _, _, _⟩ :: _) _ _); refine wpList_loadC (by kernel_rfl) 25 (.tmp 1) rfl (w1.heap.size) rfl 25 sv _ (hM2.get 0 rfl) Try.underlying25 rfl hsz ?_)
  refine hck.mono ?_
  rintro e w3 ⟨rfl, hb3⟩
  have hM3 := hM2.call hb3
  have hlt := (hM2.get 0 rfl).lt
  have hsh3 := hsh2.below (hb3.mono (Nat.le_of_lt hlt))
  clear hM2 hsh2 hck
  obtain ⟨g1, hg1⟩ : ∃ g, g = w1.heap.size := ⟨_, rfl⟩
  rw [← hg1] at hM3 hsh3 hlt ⊢
  have hM3r := (hM3.get 0 rfl).lt
  have Hsv := Lib.hid hsv
  clear hsv hg1
  go_wp2_with ((with_reducible show wpList _ _ _ (⟨some 16, _, _, _, _, _⟩ :: _) _ _); refine wpList_loadC (by kernel_rfl) 25 (.tmp 1) rfl (g1) rfl 25 sv _ (hM3.get 0 rfl) Try.underlying25 rfl hsz ?_)
  refine calls_gen (fun wx => Below w3.heap.size w3 wx ∧ Rd wx wx.heap.size (some ⟨w3.heap.size, 0, none⟩) 4 ([1, 2, 3, 4].map iv) ∧ Rd wx wx.heap.size (some ⟨w3.heap.size + 1, 0, none⟩) 2 ([2, 2].map iv) ∧ Rd wx wx.heap.size (some ⟨w3.heap.size + 1 + 1, 0, none⟩) 1 ([2].map iv) ∧
    Rd wx wx.heap.size (some ⟨w3.heap.size + 1 + 1 + 1, 0, none⟩) 2 [.slice (some ⟨w3.heap.size + 1, 0, none⟩) 2 2, .slice (some ⟨w3.heap.size + 1 + 1, 0, none⟩) 1 1]) ?_ ?_
  · have a1 := d_al w3 (.cells #[.int .i64 1, .int .i64 2, .int .i64 3, .int .i64 4] 3)
    have e1 : (w3.alloc (.cells #[.int .i64 1, .int .i64 2, .int .i64 3, .int .i64 4] 3)).heap.size = w3.heap.size + 1 := by simp
    have r1 : Rd (w3.alloc (.cells #[.int .i64 1, .int .i64 2, .int .i64 3, .int .i64 4] 3)) (w3.alloc (.cells #[.int .i64 1, .int .i64 2, .int .i64 3, .int .i64 4] 3)).heap.size (some ⟨w3.heap.size, 0, none⟩) 4 ([1, 2, 3, 4].map iv) := Rd.mk_ _ _ _ rfl (by omega) rfl rfl
    generalize w3.alloc (.cells #[.int .i64 1, .int .i64 2, .int .i64 3, .int .i64 4] 3) = x1 at *
    have a2 := d_al x1 (.cells #[.int .i64 2, .int .i64 2] 3)
    have e2 : (x1.alloc (.cells #[.int .i64 2, .int .i64 2] 3)).heap.size = w3.heap.size + 1 + 1 := by simp [e1]
    have r2 : Rd (x1.alloc (.cells #[.int .i64 2, .int .i64 2] 3)) (x1.alloc (.cells #[.int .i64 2, .int .i64 2] 3)).heap.size (some ⟨w3.heap.size + 1, 0, none⟩) 2 ([2, 2].map iv) := Rd.mk_ _ _ _ e1 (by omega) rfl rfl
    generalize x1.alloc (.cells #[.int .i64 2, .int .i64 2] 3) = x2 at *
    have a3 := d_al x2 (.cells #[.int .i64 2] 3)
    have e3 : (x2.alloc (.cells #[.int .i64 2] 3)).heap.size = w3.heap.size + 1 + 1 + 1 := by simp [e2]
    have r3 : Rd (x2.alloc (.cells #[.int .i64 2] 3)) (x2.alloc (.cells #[.int .i64 2] 3)).heap.size (some ⟨w3.heap.size + 1 + 1, 0, none⟩) 1 ([2].map iv) := Rd.mk_ _ _ _ e2 (by omega) rfl rfl
    generalize x2.alloc (.cells #[.int .i64 2] 3) = x3 at *
    have a4 := d_al x3 (.cells #[.slice (some ⟨w3.heap.size + 1, 0, none⟩) 2 2, .slice (some ⟨w3.heap.size + 1 + 1, 0, none⟩) 1 1] 22)
    exact ⟨c_call (c_call (c_call a1 a2) a3) a4, d_rd (d_rd (d_rd r1 a2) a3) a4, d_rd (d_rd r2 a3) a4, d_rd r3 a4, Rd.mk_ _ _ _ e3 (by simp [e3]) rfl rfl⟩
  rintro w4 ⟨hb4, r1, r2, r3, r4⟩
  have hsh4 := (hsh3.below (hb4.mono (Nat.le_of_lt hM3r))).more (Nat.le_of_lt (Nat.lt_of_lt_of_le hM3r hb4.size))
  have hsm := hS Ai ni ci Al nl cl [1, 2, 3, 4] [[2, 2], [2]] (some ⟨w3.heap.size, 0, none⟩) 4 4 (some ⟨w3.heap.size + 1 + 1 + 1, 0, none⟩) 2 2 [1, 2, 3, 4] [[2, 2], [2]] w4 hsh4
    ⟨rfl, rfl, Nat.le_refl _, Nat.le_refl _, by simp [maxLen], by simp [maxLen], r1, _, r4, (Lvs.nil _ _).cons (A := some ⟨w3.heap.size + 1 + 1, 0, none⟩) (c := 1) (l := [2]) (Nat.le_refl _) (by simp [maxLen]) r3 |>.cons (A := some ⟨w3.heap.size + 1, 0, none⟩) (c := 2) (l := [2, 2]) (Nat.le_refl _) (by simp [maxLen]) r2⟩ (by decide) (by decide)
  rw [show ((([1, 2, 3, 4] : List Int) == [1, 2, 3, 4]) && (([[2, 2], [2]] : List (List Int)) == [[2, 2], [2]])) = true by decide] at hsm
  rw [Hsv.out] at hsm
  refine hsm.mono ?_
  rintro e w5 ⟨rfl, hb5⟩
  go_wp2_with fail
  go_ret
  exact ⟨rfl, ((hM3.call hb4).call hb5).old⟩

end Go.Proofs.Ytjhcnhihmgpgbaa

