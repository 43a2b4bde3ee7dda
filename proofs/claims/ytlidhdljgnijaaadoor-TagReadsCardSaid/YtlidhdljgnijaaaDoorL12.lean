import Derived.Test.YtlidhdljgnijaaaDoorL11
/-
  CONTRACT of the document's Copy (coterieref10).
-/
set_option linter.unusedVariables false
namespace Go.Proofs.YtlidhdljgnijaaaDoor
open Go.RowKit

/-- append onto a row of the call's own, a step of a region that draws its order: which block the row is in then -/
theorem step_append_rdT {P : Program} {w : World} {ops : Array Oper} {o : Oper} {a : Act} {K : Act → World → Prop} {Q : Exit → Act → World → Prop} {E : Prop} (hgd : Region.wanted o (yielded ops a.tmps) = true) (dst : Option Tmp) (hd : o.dst = dst) (s x : Operand) (t : TypeId)
    (ho : o.op = .call { callee := .builtin .append, args := #[s, x], argTypes := #[t, t] })
    (base : Nat) (e : TypeId) (i : TypeInfo) (z : Value) (bytes : Nat) (ht : P.underlying t = some (.slice e)) (hi : P.info? e = some i) (hz : i.zero = some z)
    (hsize : i.size = 1) (hby : i.bytes = bytes) (hzs : z.cells.size = 1)
    (v : Value) (n : Nat) (xs : List Value) (hs : a.eval s = v) (hown : w.ownsRow base e 1 v n xs)
    (B : Nat) (A : Option Addr) (m c : Nat) (news : List Value) (hx : a.eval x = .slice A m c) (hr : Rd w B A m news) (h1 : ∀ u ∈ news, u.oneCell' = true)
    (h63 : n + m ≤ maxLen) (hbytes : (n + m) * bytes ≤ 140737488355328) (hbase : base ≤ w.heap.size)
    (h : ∀ v' w', w'.ownsRow base e 1 v' (n + m) (xs ++ news) → w.grownBy w' v.ownBlock → (v'.ownBlock = v.ownBlock ∨ v'.ownBlock = some w.heap.size) → K (a.put dst v') w') : if Region.wanted o (yielded ops a.tmps) = true then Oper.wp P o a w K Q else E := by
  subst hd
  rw [if_pos hgd]
  obtain ⟨v', w', hrun, h2, h3, h4⟩ := run_append_rd (P := P) w base t o.type e i z bytes ht hi hz hsize hby hzs v n xs hown B A m c news hr h1 h63 hbytes hbase
  unfold Oper.wp execOp
  simp only [ho, resolve, invoke, builtin, Sem.run_bind, Sem.run_pure, Result.andThen_ok, List.map_toArray, List.map_cons, List.map_nil, hs, hx, hrun]
  exact h v' w' h2 h3 h4
/-- where lists lie: from lo on, below hi, in no row's block -/
def LvD (lo hi : Nat) (row : Option Nat) (vs : List Value) : Prop := ∀ v ∈ vs, ∀ A n c, v = .slice A n c → ∀ ad, A = some ad → lo ≤ ad.block ∧ ad.block < hi ∧ row ≠ some ad.block
theorem LvD.new {lo hi : Nat} {row : Option Nat} {vs : List Value} (h : LvD lo hi row vs) : NewVs lo vs := fun v hv A n c e ad had => (h v hv A n c e ad had).1
theorem Rd.grownD {w w' : World} {row : Option Nat} {B n : Nat} {A : Option Addr} {xs : List Value} (h : Rd w B A n xs) (hg : w.grownBy w' row) (hB : B ≤ w.heap.size) (hne : ∀ ad, A = some ad → row ≠ some ad.block) : Rd w' B A n xs := by
  refine ⟨h.len, fun h0 => ?_⟩
  obtain ⟨b, o, h1, h2, h3⟩ := h.pos h0
  refine ⟨b, o, h1, h2, fun j u hu => ?_⟩
  rw [← h3 j u hu]
  exact World.cell?_of_block (hg.block b (by omega) (fun e => hne _ h1 e.symm))
theorem Lvs.keepD {w w' : World} {B B' : Nat} {vs : List Value} {ll : List (List Int)} (h : Lvs w B vs ll) (hk : ∀ v ∈ vs, ∀ A n c xs, v = .slice A n c → Rd w B A n xs → Rd w' B' A n xs) : Lvs w' B' vs ll :=
  ⟨h.1, fun i v l hv hl => by
    obtain ⟨A, c, e, hc, hm, hr⟩ := h.2 i v l hv hl
    exact ⟨A, c, e, hc, hm, hk v (List.mem_of_getElem? hv) A _ _ _ e hr⟩⟩
theorem Lvs.snoc {w : World} {B : Nat} {vs : List Value} {ll : List (List Int)} {A : Option Addr} {c : Nat} {l : List Int} (h : Lvs w B vs ll) (hc : l.length ≤ c) (hm : c ≤ maxLen) (hr : Rd w B A l.length (l.map iv)) : Lvs w B (vs ++ [.slice A l.length c]) (ll ++ [l]) := by
  refine ⟨by simp [h.1], fun i v k hv hk => ?_⟩
  rcases Nat.lt_or_ge i vs.length with hi | hi
  · rw [List.getElem?_append_left hi] at hv
    rw [List.getElem?_append_left (by rw [← h.1]; exact hi)] at hk
    exact h.2 i v k hv hk
  · have hi' : i = vs.length := by
      have := (List.getElem?_eq_some_iff.1 hv).1
      simp at this
      omega
    subst hi'
    rw [List.getElem?_append_right (Nat.le_refl _), Nat.sub_self] at hv
    rw [h.1, List.getElem?_append_right (Nat.le_refl _), Nat.sub_self] at hk
    simp at hv hk
    subst hv hk
    exact ⟨A, c, rfl, hc, hm, hr⟩
theorem Rd.setCellN {w : World} {g i lo : Nat} (hg : g < lo) (u : Value) {B n : Nat} {A : Option Addr} {xs : List Value} (h : Rd w B A n xs) (hn : NewA lo A) : Rd (w.setCell ⟨g, i, none⟩ u) B A n xs := by
  refine ⟨h.len, fun h0 => ?_⟩
  obtain ⟨b, o, h1, h2, h3⟩ := h.pos h0
  refine ⟨b, o, h1, h2, fun j v hv => ?_⟩
  rw [← h3 j v hv]
  have hlb : lo ≤ b := hn _ h1
  exact World.cell?_of_block (Below.heap_setCell w ⟨g, i, none⟩ u b (show b ≠ g by omega))

def CopyPost (w : World) (ids : List Int) (ll : List (List Int)) (e : Ending) (w' : World) : Prop :=
  Below w.heap.size w w' ∧ ∃ Ai ni ci Al nl cl, e = .returned (.agg (shV Ai ni ci Al nl cl)) ∧ ShN w.heap.size w' w'.heap.size Ai ni ci Al nl cl ids ll

set_option maxRecDepth 100000 in
set_option maxHeartbeats 1000000 in
theorem CopyT_any (Ai : Option Addr) (ni ci : Nat) (Al : Option Addr) (nl cl : Nat) (ids : List Int) (ll : List (List Int)) (w : World) (h : ShR w w.heap.size Ai ni ci Al nl cl ids ll) (hf : fewT ids ll = true) :
    Calls Tryd.prog 34 #[.agg (shV Ai ni ci Al nl cl)] w (CopyPost w ids ll) := by
  obtain ⟨i0, hi0, hz0, hz1, hz2⟩ := info_parts intInfo
  obtain ⟨i1, hi1, hy0, hy1, hy2⟩ := info_parts listInfo
  have hM0 := ((Ms.nil w).box 25 (shV Ai ni ci Al nl cl)).box 25 #[.slice none 0 0, .slice none 0 0]
  simp only [World.size_alloc] at hM0
  obtain ⟨hf1, hf2, hf3⟩ := few_len hf
  have Hni := Lib.hid h.hni
  have Hnl := Lib.hid h.hnl
  have hn1 : ni ≤ 1100 := by rw [← h.hni]; exact hf2
  have hn2 : nl ≤ 20 := by rw [← h.hnl]; exact hf3
  obtain ⟨vs, hv, hlv⟩ := h.lvs
  have hids := h.hids
  have HP := Lib.hid (show ∀ e w' Ai ni ci Al nl cl, Below w.heap.size w w' → e = .returned (.agg (shV Ai ni ci Al nl cl)) → ShN w.heap.size w' w'.heap.size Ai ni ci Al nl cl ids ll → CopyPost w ids ll e w' from fun e w' _ _ _ _ _ _ h1 h2 h3 => ⟨h1, _, _, _, _, _, _, h2, h3⟩)
  generalize CopyPost w ids ll = PO at *
  clear h hf
  go_enter Tryd.func34, Tryd.ntmps34
  go_upto_region 1 with fail
  try simp only [Act.put]
  refine wp_gen (fun wx => Ms w wx [(w.heap.size + 1, 25, #[.slice none 0 0, .slice none 0 0]), (w.heap.size, 25, shV Ai ni ci Al nl cl)]) hM0 ?_
  clear hM0
  rintro w0 hM0
  have k0 := (hM0.get 1 rfl).cell (i := 0) (v := .slice Ai ni ci) rfl
  have hidw := (hids.below hM0.old)
  have hlt0 := (hM0.get 0 rfl).lt
  go_upto_region 2 with (first
    | (at_builtin; refine wpList_append_rd _ rfl (.const (.slice none 0 0)) (.tmp 7) _ rfl (w.heap.size + 2) 3 i0 _ 8 Tryd.underlying22 hi0 hz0 hz1 hz2 rfl (.slice none 0 0) 0 [] rfl (World.ownsRow_nil _ _ _ _) w.heap.size Ai ni ci (ids.map iv) rfl hidw (one_iv _) (by simp only [maxLen]; omega) (by omega) (by omega) ?_; intro v2 w2 hown2 hgr2 _; obtain ⟨A2, c2, rfl, _, _⟩ := own_formT hown2; rw [Nat.zero_add, List.nil_append] at hown2; have hB2 : Below w0.heap.size w0 w2 := (Below.refl _ _).grown hgr2 (Nat.le_refl _) (fun k hk => by simp [Value.ownBlock] at hk); have hM2 := hM0.call hB2)
    | ((with_reducible show wpList _ _ _ (⟨none, Op.store 25 _ _, _, _, _, _⟩ :: _) _ _); refine wpList_store_row rfl 25 (.tmp 3) (.tmp 9) rfl (w2.heap.size) #[.slice A2 ni c2, .slice none 0 0] rfl rfl 25 _ (RowC.new _ _ _) shapeInfo2 rfl (by simp [Value.oneCell']) ?_))
  try simp only [Act.put]
  have hN2 := NewA.of_own hown2 (Nat.le_refl _)
  have hci2 : ni ≤ c2 ∧ c2 ≤ maxLen := by
    obtain ⟨_, _, e0, h1, h2⟩ := own_formT hown2
    injection e0 with _ _ e3
    subst e3
    exact ⟨h1, h2⟩
  have hr2 : Rd w2 w2.heap.size A2 ni (ids.map iv) := Rd.of_own hown2
  have hM3 := hM2.put 25 #[.slice none 0 0, .slice none 0 0] #[.slice A2 ni c2, .slice none 0 0]
  have hB3 : Below w2.heap.size w2 ((w2.alloc (.cells #[.slice none 0 0, .slice none 0 0] 25)).setRow w2.heap.size #[.slice A2 ni c2, .slice none 0 0]) := below_setRow ((Below.refl _ _).alloc (Nat.le_refl _) _) (Nat.le_refl _) _
  have hr3 := hr2.below hB3
  have hg3 := (hM2.get 0 rfl).lt
  refine wp_gen (fun wx => Ms w wx [(w2.heap.size, 25, #[.slice A2 ni c2, .slice none 0 0]), (w.heap.size + 1, 25, #[.slice none 0 0, .slice none 0 0]), (w.heap.size, 25, shV Ai ni ci Al nl cl)] ∧ Rd wx w2.heap.size A2 ni (ids.map iv)) ⟨hM3, hr3⟩ ?_
  clear hr3 hB3 hM3 hr2
  rintro w4 ⟨hM4, hr4⟩
  obtain ⟨g, hg⟩ : ∃ g, g = w2.heap.size := ⟨_, rfl⟩
  rw [← hg] at hM4 hr4 hg3 ⊢
  clear hg hown2 hgr2 hM2 k0 hM0 hidw hlt0
  have k1 := (hM4.get 2 rfl).cell (i := 1) (v := .slice Al nl cl) rfl
  go_wp2_with fail
  go_loopw [13] (fun v13 wr => ∃ (j : Nat) (A3 : Option Addr) (c3 : Nat) (us : List Value), j ≤ nl ∧ v13 = .int .i64 (j : Int) ∧ wr.ownsRow (g + 1) 22 1 (.slice A3 j c3) j us ∧ Lvs wr wr.heap.size us (ll.take j) ∧ LvD (g + 1) wr.heap.size (Value.slice A3 j c3).ownBlock us ∧ Rd wr g A2 ni (ids.map iv) ∧
    Ms w wr [(g, 25, #[.slice A2 ni c2, .slice A3 j c3]), (w.heap.size + 1, 25, #[.slice none 0 0, .slice none 0 0]), (w.heap.size, 25, shV Ai ni ci Al nl cl)]) (fun v13 _ => nl - (intOf v13).toNat)
  case atStart => exact ⟨0, none, 0, [], by omega, rfl, World.ownsRow_nil _ _ _ _, Lvs.nil _ _, (fun v hv => by cases hv), hr4, hM4⟩
  case round =>
    clear hM4 hr4 k1
    obtain ⟨j, A3, c3, us, hj, rfl, hown, hls, hld, hrI, hM⟩ := hrel
    have hb := hM.old
    have hltg := (hM.get 0 rfl).lt
    obtain ⟨_, _, e0, hjc, hcm3⟩ := own_formT hown
    injection e0 with e1 e2 e3
    subst e1 e3
    clear e2
    by_cases hjn : j < nl
    · have hjl : j < ll.length := by rw [Hnl.out]; exact hjn
      obtain ⟨b, o, rfl, hbb, hcell⟩ := (hv.below hb).pos (by omega)
      obtain ⟨Aj, cj, hvj, hcj, hmj, hrj⟩ := hlv.get hjl
      have c1 := hcell j _ hvj
      have hrjw := hrj.below hb
      have hlj := hf1 _ (List.getElem_mem hjl)
      have Ht := Lib.hid (show ll.take (j + 1) = ll.take j ++ [ll[j]] from List.take_succ_eq_append_getElem hjl)
      generalize ll[j] = l at *
      have kg := (hM.get 0 rfl).cell (i := 1) (v := .slice A3 j c3) rfl
      clear hcell hvj hrj hjl
      go_upto_region 5 with fail
      try simp only [Act.put]
      have hkeep : ∀ wx : World, Below wr.heap.size wr wx → wx.cell? ⟨g, 1, none⟩ = some (.slice A3 j c3) := fun wx hb => ((hM.get 0 rfl).call hb).cell rfl
      refine beginT (fun wx => wx.cell? ⟨g, 1, none⟩ = some (.slice A3 j c3)) 7 (by kernel_rfl) ?_
      have hS := hkeep _ (c_drew (c_refl _))
      refine takeD 0 (some 17) (.pointer (some ⟨g, 1, none⟩)) rfl rfl (by kernel_rfl) (by kernel_rfl) (by kernel_rfl) (by kernel_rfl) (fun _ _ _ h => h) (Or.inl ⟨by kernel_rfl, fun wx hSw => by go_simp⟩) hS ?_
      simp only [Act.put, List.setIfInBounds_toArray, List.set_cons_zero, List.set_cons_succ]
      refine takeD 1 (some 18) (.slice A3 j c3) rfl rfl (by kernel_rfl) (by kernel_rfl) (by kernel_rfl) (by kernel_rfl) (fun _ _ _ h => h) (Or.inl ⟨by kernel_rfl, fun wx hSw => by have h := hSw; go_simp⟩) hS ?_
      simp only [Act.put, List.setIfInBounds_toArray, List.set_cons_zero, List.set_cons_succ]
      refine takeD 2 (some 19) (.slice Aj l.length cj) rfl rfl (by kernel_rfl) (by kernel_rfl) (by kernel_rfl) (by kernel_rfl) (fun _ _ _ h => h) (Or.inl ⟨by kernel_rfl, fun wx hSw => by go_simp⟩) hS ?_
      simp only [Act.put, List.setIfInBounds_toArray, List.set_cons_zero, List.set_cons_succ]
      have hx0 : Below wr.heap.size wr wr.drew := c_drew (c_refl _)
      have hM4 := hM.call hx0
      have hown4 := own_below hown hx0
      have hrj4 := hrjw.below (hx0.mono hb.size)
      have hrI4 := hrI.below (hx0.mono (by omega))
      have hls4 := hls.below hx0
      have hsx : wr.drew.heap.size = wr.heap.size := rfl
      have hbx := hM4.old.size
      generalize wr.drew = x0 at *
      refine oneT 3 (by kernel_rfl) rfl (fun K hK => ?_)
      refine step_append_rdT (by kernel_rfl) (some 20) rfl (.const (.slice none 0 0)) (.tmp 19) _ rfl (g + 1) 3 i0 _ 8 Tryd.underlying22 hi0 hz0 hz1 hz2 rfl (.slice none 0 0) 0 [] rfl (World.ownsRow_nil _ _ _ _) w.heap.size Aj l.length cj (l.map iv) rfl hrj4 (one_iv _) (by simp only [maxLen]; omega) (by omega) (by omega) ?_
      intro v5 w5 hown5 hgr5 hat5
      obtain ⟨A5, c5, rfl, hc5, hm5⟩ := own_formT hown5
      rw [Nat.zero_add, List.nil_append] at hown5
      rw [Nat.zero_add] at hc5
      have hB5 : Below x0.heap.size x0 w5 := (Below.refl _ _).grown hgr5 (Nat.le_refl _) (fun k hk => by simp [Value.ownBlock] at hk)
      have hs5 := hB5.size
      have hM5 := hM4.call hB5
      have hown45 := own_below hown4 hB5
      have hr5 : Rd w5 w5.heap.size A5 l.length (l.map iv) := Rd.of_own hown5
      have hA5 : ∀ ad, A5 = some ad → ad.block = x0.heap.size ∧ ad.block < w5.heap.size := fun ad had => by
        subst had
        have h1 := own_ltT hown5 ad.block rfl
        rcases hat5 with e | e
        · simp [Value.ownBlock] at e
        · simp only [Value.ownBlock] at e; injection e with e; exact ⟨e, h1⟩
      have hwx : Below wr.heap.size wr w5 := c_call hx0 hB5
      refine hK.out _ _ (fun _ => hkeep _ hwx) ?_
      clear hK K
      rw [Nat.zero_add]
      simp only [Act.put, List.setIfInBounds_toArray, List.set_cons_zero, List.set_cons_succ]
      have hal := d_al w5 (.cells #[.slice A5 l.length c5] 22)
      have hM6 := hM5.call hal
      have hown46 := own_below hown45 hal
      have hr6 := hr5.below hal
      have hxx := c_call hwx hal
      refine oneT 4 (by kernel_rfl) rfl (fun K hK => ?_)
      go_simp
      refine hK.out _ _ (fun _ => hkeep _ hxx) ?_
      clear hK K
      have hone6 : ∀ u ∈ [Value.slice A5 l.length c5], u.oneCell' = true := by intro u hu; simp at hu; subst hu; rfl
      refine oneT 5 (by kernel_rfl) rfl (fun K hK => ?_)
      refine step_append_rdT (by kernel_rfl) (some 22) rfl (.tmp 18) (.tmp 21) _ rfl (g + 1) 22 i1 _ 24 Tryd.underlying23 hi1 hy0 hy1 hy2 rfl (.slice A3 j c3) j us rfl hown46 (w5.heap.size + 1) (some ⟨w5.heap.size, 0, none⟩) 1 1 [.slice A5 l.length c5] rfl (Rd.mk_ _ _ _ rfl (by omega) rfl rfl) hone6 (by simp only [maxLen]; omega) (by omega) (by simp; omega) ?_
      intro v6 w6 hown6 hgr6 hat6
      obtain ⟨A6, c6, rfl, _, _⟩ := own_formT hown6
      have hge6 : ∀ k, (Value.slice A3 j c3).ownBlock = some k → g + 1 ≤ k ∧ k < wr.heap.size := fun k hk => ⟨own_blockT hown k hk, own_ltT hown k hk⟩
      have hM6b := hM6.grownT hgr6 (fun k hk => by have := (hge6 k hk).1; omega) (fun p hp k hk => by have := (hge6 k hk).1; simp at hp; rcases hp with rfl | rfl | rfl <;> simp <;> omega)
      have hs6 : w5.heap.size + 1 ≤ w6.heap.size := by have := hgr6.size; simpa using this
      have hkp : ∀ v ∈ us, ∀ A n c xs, v = .slice A n c → Rd wr wr.heap.size A n xs → Rd w6 w6.heap.size A n xs := fun v hv A n c xs e hr => by
        have h1 := hr.below hxx
        exact (h1.grownD hgr6 (by simp; omega) (fun ad had => (hld v hv A n c e ad had).2.2)).more (by omega)
      have hls6 := hls.keepD hkp
      have hr6b := (hr6.grownD hgr6 (by simp) (fun ad had e => by have h1 := (hA5 ad had).1; have h2 := (hge6 _ e).2; omega)).more (show w5.heap.size ≤ w6.heap.size by omega)
      have hls6b := hls6.snoc hc5 hm5 hr6b
      rw [← Ht.out] at hls6b
      have hrI6 : Rd w6 g A2 ni (ids.map iv) := ((hrI.below (hxx.mono (by omega))).grown hgr6 (by simp; omega) (fun k hk => by have := (hge6 k hk).1; omega))
      have hld6 : LvD (g + 1) w6.heap.size (Value.slice A6 (j + 1) c6).ownBlock (us ++ [.slice A5 l.length c5]) := fun v hv A n c e ad had => by
        have key : g + 1 ≤ ad.block ∧ ad.block < w5.heap.size ∧ (Value.slice A3 j c3).ownBlock ≠ some ad.block := by
          rcases List.mem_append.1 hv with hv | hv
          · have h1 := hld v hv A n c e ad had
            exact ⟨h1.1, by omega, h1.2.2⟩
          · have h1 : v = .slice A5 l.length c5 := by simpa using hv
            rw [h1] at e
            injection e with e1
            have h2 := hA5 ad (e1.trans had)
            exact ⟨by omega, h2.2, fun e9 => by have := (hge6 _ e9).2; omega⟩
        refine ⟨key.1, by omega, fun e9 => ?_⟩
        rcases hat6 with h1 | h1
        · exact key.2.2 (h1.symm.trans e9)
        · rw [e9] at h1; injection h1 with h1; simp at h1; omega
      have kx : w6.cell? ⟨g, 1, none⟩ = some (.slice A3 j c3) := (hM6b.get 0 rfl).cell rfl
      have fx := (hM6b.get 0 rfl).frozen 1
      refine hK.out _ _ (fun _ => kx) ?_
      clear hK K
      simp only [Act.put, List.setIfInBounds_toArray, List.set_cons_zero, List.set_cons_succ]
      have hM7 := hM6b.setCellT (by omega) (fun p hp => by simp at hp; rcases hp with rfl | rfl <;> simp <;> omega) 1 (.slice A6 (j + 1) c6)
      rw [show (#[.slice A2 ni c2, .slice A3 j c3] : Array Value).setIfInBounds 1 (.slice A6 (j + 1) c6) = #[.slice A2 ni c2, .slice A6 (j + 1) c6] from rfl] at hM7
      have hown7 := own_cellT (p := ⟨g, 1, none⟩) hown6 (fun k hk => by have := own_blockT hown6 k hk; show k ≠ g; omega) (.slice A6 (j + 1) c6)
      have hz7 : (w6.setCell ⟨g, 1, none⟩ (.slice A6 (j + 1) c6)).heap.size = w6.heap.size := by simp
      have hls7 := hls6b.keepD (w' := w6.setCell ⟨g, 1, none⟩ (.slice A6 (j + 1) c6)) (B' := w6.heap.size) (fun v hv A n c xs e hr => hr.setCellN (lo := g + 1) (by omega) _ (hld6.new v hv A n c e))
      have hrI7 : Rd (w6.setCell ⟨g, 1, none⟩ (.slice A6 (j + 1) c6)) g A2 ni (ids.map iv) := hrI6.setCell (Nat.le_refl _) _
      have hld7 := hld6
      rw [← hz7] at hls7 hld7
      clear hM6b hM6 hM5 hM4 hown46 hown45 hown4 hr6b hr6 hr5 hls6b hls6 hls4 hrI6 hrI4 hkp hown5 hgr5 hat5 hM hown hls hld hrI
      refine takeD 6 (some 23) (.pointer (some ⟨g, 1, none⟩)) rfl rfl (by kernel_rfl) (by kernel_rfl) (by kernel_rfl) (by kernel_rfl) (fun _ _ _ h => h) (Or.inl ⟨by kernel_rfl, fun wx hSw => by go_simp⟩) kx ?_
      simp only [Act.put, List.setIfInBounds_toArray, List.set_cons_zero, List.set_cons_succ]
      refine oneT 7 (by kernel_rfl) rfl (fun K hK => ?_)
      go_simp
      refine hK.out _ _ (fun h => absurd rfl h) ?_
      clear hK K
      refine doneT (by kernel_rfl) ?_ _
      go_wp2_with fail
      go_roundw
      case rel => exact ⟨j + 1, A6, c6, us ++ [.slice A5 l.length c5], by omega, by go_num, hown7, hls7, hld7, hrI7, hM7⟩
      case measure => simp [intOf]; omega
    · obtain rfl : j = nl := by omega
      rw [List.take_of_length_le (by rw [Hnl.out]; exact Nat.le_refl _)] at hls
      have hrl : Rd wr wr.heap.size A3 j us := Rd.of_own hown
      have hN3 := NewA.of_own hown (lo := w.heap.size + 2) (by omega)
      have hsh : ShN (w.heap.size + 2) wr wr.heap.size A2 ni c2 A3 j c3 ids ll := ⟨⟨Hni.out, Hnl.out, hci2.1, hjc, hci2.2, hcm3, hrI.more (by omega), us, hrl, hls⟩, hN2, hN3, us, hrl, hls, fun v hv A n c e => (hld.new v hv A n c e).mono (by omega)⟩
      clear hrl hown hls hld hrI
      go_wp2_with (first
        | ((with_reducible show wpList _ _ _ (⟨some 25, _, _, _, _, _⟩ :: _) _ _); refine wpList_loadC (by kernel_rfl) 25 (.tmp 3) rfl (g) rfl 25 #[.slice A2 ni c2, .slice A3 j c3] _ (hM.get 0 rfl) Tryd.underlying25 rfl shapeInfo2 ?_)
        | ((with_reducible show wpList _ _ _ (⟨none, Op.store 25 _ _, _, _, _, _⟩ :: _) _ _); refine wpList_store_row rfl 25 (.tmp 2) (.tmp 25) rfl (w.heap.size + 1) #[.slice A2 ni c2, .slice A3 j c3] rfl rfl 25 _ (hM.get 1 rfl) shapeInfo2 rfl (by simp [Value.oneCell']) ?_))
      refine bodyPost_ret (results_cell_one rfl _ _ (w.heap.size + 1) 25 #[.slice A2 ni c2, .slice A3 j c3] _ rfl ((hM.get 1 rfl).row _) Tryd.underlying25 rfl shapeInfo2) rfl ?_
      exact HP.out _ _ A2 ni c2 A3 j c3 (below_setRow hM.old (by omega) _) rfl (by rw [size_setRowT]; exact (hsh.box (g := w.heap.size + 1) (by omega) _).mono (by omega))

end Go.Proofs.YtlidhdljgnijaaaDoor

/-
  WHAT LAYER 10's CALLS OF THE PROGRAM ANSWER, as hypotheses of the walks, and the walk of the laws' live (coterielaw10).
-/
set_option linter.unusedVariables false
namespace Go.Proofs.YtlidhdljgnijaaaDoor
open Go.RowKit

def HTC : Prop := ∀ (Ai : Option Addr) (ni ci : Nat) (Al : Option Addr) (nl cl : Nat) (ids : List Int) (ll : List (List Int)) (w : World), ShR w w.heap.size Ai ni ci Al nl cl ids ll → fewT ids ll = true → Calls Tryd.prog 28 #[.agg (shV Ai ni ci Al nl cl)] w fun e w' => e = .returned (.int .i64 (chkE ids ll)) ∧ Below w.heap.size w w'
def HTF : Prop := ∀ (Ai : Option Addr) (ni ci : Nat) (Al : Option Addr) (nl cl : Nat) (ids : List Int) (ll : List (List Int)) (id : Int) (w : World), ShR w w.heap.size Ai ni ci Al nl cl ids ll → fewT ids ll = true → Calls Tryd.prog 39 #[.agg (shV Ai ni ci Al nl cl), .int .i64 id] w fun e w' => e = .returned (.tuple #[.int .i64 (belT ids id : Int), .bool (isT ids id)]) ∧ Below w.heap.size w w'
def HTM : Prop := ∀ (Ai : Option Addr) (ni ci : Nat) (Al : Option Addr) (nl cl : Nat) (ids : List Int) (ll : List (List Int)) (Ai' : Option Addr) (ni' ci' : Nat) (Al' : Option Addr) (nl' cl' : Nat) (ids' : List Int) (ll' : List (List Int)) (w : World), ShR w w.heap.size Ai ni ci Al nl cl ids ll → ShR w w.heap.size Ai' ni' ci' Al' nl' cl' ids' ll' → fewT ids ll = true → fewT ids' ll' = true →
  Calls Tryd.prog 45 #[.agg (shV Ai ni ci Al nl cl), .agg (shV Ai' ni' ci' Al' nl' cl')] w fun e w' => e = .returned (.bool (ids == ids' && ll == ll')) ∧ Below w.heap.size w w'

theorem bld_live : bldS [1, 2, 3, 4] [] [] = (0, [1, 2, 3, 4], [[2, 2], [2]]) := by decide +kernel

end Go.Proofs.YtlidhdljgnijaaaDoor

/-
  THE WALK of TreeNear (coterielaw10), over what the program's calls answer; what Insert and Delete answer, as one shape.
-/
set_option linter.unusedVariables false
namespace Go.Proofs.YtlidhdljgnijaaaDoor
open Go.RowKit

theorem sh0_shV : (sh0 : Array Value) = shV none 0 0 none 0 0 := rfl
theorem InsPost.shape {w : World} {ids : List Int} {ll : List (List Int)} {id : Int} {e : Ending} {w' : World} (h : InsPost w ids ll id e w') : Below w.heap.size w w' ∧ ∃ Ai ni ci Al nl cl ids1 ll1,
    e = .returned (.tuple #[.agg (shV Ai ni ci Al nl cl), .int .i64 (insE ids ll id)]) ∧ ShN w.heap.size w' w'.heap.size Ai ni ci Al nl cl ids1 ll1 ∧ (insE ids ll id = 0 → ids1 = (insS ids (lvN ll) id).1 ∧ ll1 = levI (insS ids (lvN ll) id).2) := by
  obtain ⟨hb, ⟨h1, h2⟩ | ⟨h1, Ai, ni, ci, Al, nl, cl, h2, h3⟩⟩ := h
  · exact ⟨hb, none, 0, 0, none, 0, 0, [], [], by rw [h2, sh0_shV], ShN.nil _ _ _, fun h => absurd h h1⟩
  · exact ⟨hb, Ai, ni, ci, Al, nl, cl, _, _, by rw [h1]; exact h2, h3, fun _ => ⟨rfl, rfl⟩⟩
theorem DelPost.shape {w : World} {ids : List Int} {ll : List (List Int)} {id : Int} {e : Ending} {w' : World} (h : DelPost w ids ll id e w') : Below w.heap.size w w' ∧ ∃ Ai ni ci Al nl cl ids1 ll1,
    e = .returned (.tuple #[.agg (shV Ai ni ci Al nl cl), .int .i64 (delE ids ll id)]) ∧ ShN w.heap.size w' w'.heap.size Ai ni ci Al nl cl ids1 ll1 ∧ (delE ids ll id = 0 → ids1 = (delS ids (lvN ll) id).1 ∧ ll1 = levI (delS ids (lvN ll) id).2) := by
  obtain ⟨hb, ⟨h1, h2⟩ | ⟨h1, Ai, ni, ci, Al, nl, cl, h2, h3⟩⟩ := h
  · exact ⟨hb, none, 0, 0, none, 0, 0, [], [], by rw [h2, sh0_shV], ShN.nil _ _ _, fun h => absurd h h1⟩
  · exact ⟨hb, Ai, ni, ci, Al, nl, cl, _, _, by rw [h1]; exact h2, h3, fun _ => ⟨rfl, rfl⟩⟩

/-- levels as the law compares them -/
def nearI (few more : List (List Int)) : Prop := few.length ≤ more.length ∧ more.length ≤ few.length + 1 ∧ ∀ i (h : i < few.length) (h' : i < more.length), few[i].length ≤ more[i].length ∧ more[i].length ≤ few[i].length + 1
theorem lvN_len (ll : List (List Int)) : (lvN ll).length = ll.length := by simp [lvN]
theorem nearI_ins {ll : List (List Int)} {lv : List (List Nat)} (h : nearL (lvN ll) lv) : nearI ll (levI lv) := by
  obtain ⟨h1, h2, h3⟩ := h
  rw [lvN_len] at h1 h2
  refine ⟨by simpa [levI] using h1, by simpa [levI] using h2, fun i hi hi' => ?_⟩
  have := h3 i (by rw [lvN_len]; exact hi) (by simpa [levI] using hi')
  simpa [levI, lvN, natL] using this
theorem nearI_del {ll : List (List Int)} {lv : List (List Nat)} (h : nearL lv (lvN ll)) : nearI (levI lv) ll := by
  obtain ⟨h1, h2, h3⟩ := h
  rw [lvN_len] at h1 h2
  refine ⟨by simpa [levI] using h1, by simpa [levI] using h2, fun i hi hi' => ?_⟩
  have := h3 i (by simpa [levI] using hi) (by rw [lvN_len]; exact hi')
  simpa [levI, lvN, natL] using this
theorem lvOK_nil {lv : List (List Nat)} {many : Nat} (h : lvOK many lv) (hm : many ≤ 1) : lv = [] := by
  cases lv with
  | nil => rfl
  | cons l ls => exact absurd h.1 (by omega)
theorem insS_near {ids : List Int} {ll : List (List Int)} {id : Int} (h : insE ids ll id = 0) : nearI ll (levI (insS ids (lvN ll) id).2) := by
  have hc := (chkT_lv (insE_zero h).1).2.2.1
  refine nearI_ins ?_
  unfold insS
  by_cases h0 : ids = []
  · rw [if_pos h0, lvOK_nil hc (by rw [h0]; simp)]
    exact nearL_refl _
  · rw [if_neg h0]
    have hp := List.length_pos_iff.2 h0
    have := belT_le ids id
    exact insL_near _ ids.length _ hc (by omega)
theorem bel_lt {ids : List Int} {id : Int} (h : ids.Pairwise (· < ·)) (hi : id ∈ ids) : belT ids id < ids.length := by
  obtain ⟨E, L, h1, _, _, h2, _⟩ := erase_form h hi
  rw [h2, h1]
  simp
theorem delS_near {ids : List Int} {ll : List (List Int)} {id : Int} (h : delE ids ll id = 0) : nearI (levI (delS ids (lvN ll) id).2) ll := by
  obtain ⟨hc, hi⟩ := delE_zero h
  have hl := (chkT_lv hc).2.2.1
  refine nearI_del ?_
  unfold delS
  by_cases h0 : ids.length = 1
  · rw [if_pos h0, lvOK_nil hl (by omega)]
    exact nearL_refl _
  · rw [if_neg h0]
    exact delL_near _ ids.length _ hl (bel_lt (okI_rise _ (chkT_lv hc).2.1) hi)

theorem few_ll {ids : List Int} {ll : List (List Int)} (h : fewT ids ll = true) : ll.length ≤ 1000000 ∧ ∀ l ∈ ll, l.length ≤ 1000000 := by
  have := (few_len h).2.2
  exact ⟨by omega, few_million h⟩

end Go.Proofs.YtlidhdljgnijaaaDoor

/-
  THE WALK of TreeBack (coterielaw10), over what the program's calls answer.
-/
set_option linter.unusedVariables false
namespace Go.Proofs.YtlidhdljgnijaaaDoor
open Go.RowKit

theorem delE_mk {ids : List Int} {ll : List (List Int)} {id : Int} (h : chkT ids ll = true) (hi : id ∈ ids) : delE ids ll id = 0 := by
  rw [delE, if_neg (by simp [h]), if_neg (by simp [isT_mem.2 hi])]
theorem insE_mk {ids : List Int} {ll : List (List Int)} {id : Int} (h : chkT ids ll = true) (h1 : 0 ≤ id) (h2 : id ≤ 1048576) (hi : id ∉ ids) (hl : ids.length < 1000) : insE ids ll id = 0 := by
  have hn : ¬ isT ids id = true := fun h => hi (isT_mem.1 h)
  rw [insE, if_neg (by simp [h]; omega), if_neg hn, if_neg (by omega)]
/-- put in, and taken out again -/
theorem back_ins {ids : List Int} {ll : List (List Int)} {id : Int} (h : insE ids ll id = 0) {ids1 : List Int} {ll1 : List (List Int)} (h1 : ids1 = (insS ids (lvN ll) id).1) (h2 : ll1 = levI (insS ids (lvN ll) id).2) :
    fewT ids1 ll1 = true ∧ delE ids1 ll1 id = 0 ∧ isT ids1 id = true ∧ (∃ h : belT ids1 id < ids1.length, ids1[belT ids1 id] = id) ∧
      ∀ ids2 ll2, ids2 = (delS ids1 (lvN ll1) id).1 → ll2 = levI (delS ids1 (lvN ll1) id).2 → ids2 = ids ∧ fewT ids2 ll2 = true ∧ chkT ids2 ll2 = true := by
  obtain ⟨c1, c2, c3⟩ := ins_chk h
  rw [← h1] at c1 c3
  rw [← h2] at c3
  obtain ⟨z1, z2, z3, z4, z5⟩ := insE_zero h
  have hr := okI_rise _ (chkT_lv z1).2.1
  have hr1 := okI_rise _ (chkT_lv c3).2.1
  have hm : id ∈ ids1 := by rw [c1, mem_insI]; exact Or.inl rfl
  have hd := delE_mk c3 hm
  refine ⟨few_of_chk c3, hd, isT_mem.2 hm, rise_bel ids1 id hr1 (isT_mem.2 hm), fun ids2 ll2 e1 e2 => ?_⟩
  obtain ⟨d1, d2, d3⟩ := del_chk hd
  rw [← e1] at d1 d3
  rw [← e2] at d3
  exact ⟨by rw [d1, c1, erase_ins hr z4], few_of_chk d3, d3⟩
/-- taken out, and put in again -/
theorem back_del {ids : List Int} {ll : List (List Int)} {id : Int} (h : delE ids ll id = 0) {ids1 : List Int} {ll1 : List (List Int)} (h1 : ids1 = (delS ids (lvN ll) id).1) (h2 : ll1 = levI (delS ids (lvN ll) id).2) :
    fewT ids1 ll1 = true ∧ insE ids1 ll1 id = 0 ∧
      ∀ ids2 ll2, ids2 = (insS ids1 (lvN ll1) id).1 → ll2 = levI (insS ids1 (lvN ll1) id).2 → ids2 = ids ∧ fewT ids2 ll2 = true ∧ chkT ids2 ll2 = true := by
  obtain ⟨c1, c2, c3⟩ := del_chk h
  rw [← h1] at c1 c3
  rw [← h2] at c3
  obtain ⟨z1, z2⟩ := delE_zero h
  have hk := chkT_lv z1
  have hr := okI_rise _ hk.2.1
  obtain ⟨m1, m2⟩ := okI_mem hk.2.1 id z2
  have hp : 0 < ids.length := List.length_pos_of_mem z2
  have hl : ids1.length < 1000 := by
    have := hk.1
    have := bel_lt hr z2
    rw [c1, List.length_eraseIdx, if_pos this]
    omega
  have hi := insE_mk c3 m1 m2 (by rw [c1, mem_erase hr z2]; exact fun h => h.2 rfl) hl
  refine ⟨few_of_chk c3, hi, fun ids2 ll2 e1 e2 => ?_⟩
  obtain ⟨d1, d2, d3⟩ := ins_chk hi
  rw [← e1] at d1 d3
  rw [← e2] at d3
  exact ⟨by rw [d1, c1, ins_erase hr z2], few_of_chk d3, d3⟩
theorem delE_six {ids : List Int} {ll : List (List Int)} {id : Int} (h : chkT ids ll = true) (hz : ¬ delE ids ll id = 0) : delE ids ll id = 6 ∧ isT ids id = false := by
  have hi : isT ids id = false := by
    by_cases hi : isT ids id = true
    · exact absurd (delE_mk h (isT_mem.1 hi)) hz
    · simpa using hi
  exact ⟨by rw [delE, if_neg (by simp [h]), if_pos hi], hi⟩
theorem len_le_max {ids : List Int} {ll : List (List Int)} (h : fewT ids ll = true) : ids.length ≤ maxLen := by
  have := (few_len h).2.1
  unfold maxLen
  omega

end Go.Proofs.YtlidhdljgnijaaaDoor

/-
  Build in whatever order (pure).
-/
set_option linter.unusedVariables false
namespace Go.Proofs.YtlidhdljgnijaaaDoor
open Go.RowKit

/-- rising lists with the same members are the same -/
theorem rise_ext : ∀ (a b : List Int), a.Pairwise (· < ·) → b.Pairwise (· < ·) → (∀ x, x ∈ a ↔ x ∈ b) → a = b
  | [], [], _, _, _ => rfl
  | [], y :: b, _, _, h => absurd ((h y).2 (by simp)) (by simp)
  | x :: a, [], _, _, h => absurd ((h x).1 (by simp)) (by simp)
  | x :: a, y :: b, ha, hb, h => by
    rw [List.pairwise_cons] at ha hb
    have hxy : x = y := by
      rcases List.mem_cons.1 ((h x).1 (by simp)) with e | e
      · exact e
      · rcases List.mem_cons.1 ((h y).2 (by simp)) with e' | e'
        · exact e'.symm
        · have := ha.1 y e'
          have := hb.1 x e
          omega
    subst hxy
    rw [rise_ext a b ha.2 hb.2 fun z => ⟨fun hz => ?_, fun hz => ?_⟩]
    · rcases List.mem_cons.1 ((h z).1 (by simp [hz])) with e | e
      · have := ha.1 z hz; omega
      · exact e
    · rcases List.mem_cons.1 ((h z).2 (by simp [hz])) with e | e
      · have := hb.1 z hz; omega
      · exact e
/-- what may be put in, one by one -/
def goodT (r ids : List Int) : Prop := r.Nodup ∧ ∀ x ∈ r, 0 ≤ x ∧ x ≤ 1048576 ∧ x ∉ ids
theorem bld_good : ∀ (r ids : List Int) (lv : List (List Nat)), chkT ids (levI lv) = true → ids.length + r.length < 1000 →
    ((bldS r ids lv).1 = 0 ↔ goodT r ids) ∧ ((bldS r ids lv).1 = 0 → chkT (bldS r ids lv).2.1 (levI (bldS r ids lv).2.2) = true ∧ (bldS r ids lv).2.1.length = ids.length + r.length ∧ ∀ x, x ∈ (bldS r ids lv).2.1 ↔ x ∈ ids ∨ x ∈ r)
  | [], ids, lv, hc, _ => ⟨⟨fun _ => ⟨List.nodup_nil, fun x hx => by simp at hx⟩, fun _ => rfl⟩, fun _ => ⟨hc, by simp [bldS], fun x => by simp [bldS]⟩⟩
  | id :: r, ids, lv, hc, hn => by
    rw [List.length_cons] at hn
    by_cases he : insE ids (levI lv) id = 0
    · obtain ⟨c1, _, c3⟩ := ins_chk he
      obtain ⟨_, z2, z3, z4, _⟩ := insE_zero he
      rw [lvN_levI] at c1 c3
      have hl : (insS ids lv id).1.length = ids.length + 1 := by rw [c1, insI_len]
      obtain ⟨i1, i2⟩ := bld_good r (insS ids lv id).1 (insS ids lv id).2 c3 (by omega)
      have e : bldS (id :: r) ids lv = bldS r (insS ids lv id).1 (insS ids lv id).2 := by rw [bldS, if_pos he]
      rw [e]
      have hg : goodT r (insS ids lv id).1 ↔ goodT (id :: r) ids := by
        unfold goodT
        rw [c1, List.nodup_cons]
        constructor
        · rintro ⟨h1, h2⟩
          refine ⟨⟨fun h => (h2 id h).2.2 (mem_insI.2 (Or.inl rfl)), h1⟩, fun x hx => ?_⟩
          rcases List.mem_cons.1 hx with rfl | hx
          · exact ⟨z2, z3, z4⟩
          · exact ⟨(h2 x hx).1, (h2 x hx).2.1, fun h => (h2 x hx).2.2 (mem_insI.2 (Or.inr h))⟩
        · rintro ⟨⟨h0, h1⟩, h2⟩
          refine ⟨h1, fun x hx => ⟨(h2 x (by simp [hx])).1, (h2 x (by simp [hx])).2.1, fun h => ?_⟩⟩
          rcases mem_insI.1 h with rfl | h
          · exact h0 hx
          · exact (h2 x (by simp [hx])).2.2 h
      refine ⟨i1.trans hg, fun h => ?_⟩
      obtain ⟨j1, j2, j3⟩ := i2 h
      refine ⟨j1, by rw [j2, hl, List.length_cons]; omega, fun x => ?_⟩
      rw [j3, c1, mem_insI, List.mem_cons]
      constructor
      · rintro ((h | h) | h)
        · exact Or.inr (Or.inl h)
        · exact Or.inl h
        · exact Or.inr (Or.inr h)
      · rintro (h | h | h)
        · exact Or.inl (Or.inr h)
        · exact Or.inl (Or.inl h)
        · exact Or.inr h
    · have e : (bldS (id :: r) ids lv).1 = insE ids (levI lv) id := by rw [bldS, if_neg he]
      refine ⟨⟨fun h => absurd (e.symm.trans h) he, fun h => absurd (insE_mk hc (h.2 id (by simp)).1 (h.2 id (by simp)).2.1 (h.2 id (by simp)).2.2 (by omega)) he⟩, fun h => absurd (e.symm.trans h) he⟩
theorem good_perm {r s : List Int} (h : r.Perm s) (hg : goodT r []) : goodT s [] := ⟨(h.nodup_iff).1 hg.1, fun x hx => hg.2 x (h.mem_iff.2 hx)⟩
/-- in whatever order -/
theorem bld_perm {r s : List Int} (h : r.Perm s) (hn : r.length ≤ 100) : ((bldS r [] []).1 = 0 ↔ (bldS s [] []).1 = 0) ∧
    ((bldS r [] []).1 = 0 → (bldS s [] []).2.1 = (bldS r [] []).2.1 ∧ chkT (bldS r [] []).2.1 (levI (bldS r [] []).2.2) = true ∧ chkT (bldS s [] []).2.1 (levI (bldS s [] []).2.2) = true ∧ (bldS r [] []).2.1.length = r.length) := by
  have hl := h.length_eq
  have h0 : chkT [] (levI []) = true := by decide
  obtain ⟨a1, a2⟩ := bld_good r [] [] h0 (by simp; omega)
  obtain ⟨b1, b2⟩ := bld_good s [] [] h0 (by simp; omega)
  have hgg : goodT r [] ↔ goodT s [] := ⟨good_perm h, good_perm h.symm⟩
  have hz := a1.trans (hgg.trans b1.symm)
  refine ⟨hz, fun hr => ?_⟩
  obtain ⟨c1, c2, c3⟩ := a2 hr
  obtain ⟨d1, d2, d3⟩ := b2 (hz.1 hr)
  refine ⟨rise_ext _ _ (okI_rise _ (chkT_lv d1).2.1) (okI_rise _ (chkT_lv c1).2.1) fun x => ?_, c1, d1, by simpa using c2⟩
  rw [c3, d3, h.mem_iff]

end Go.Proofs.YtlidhdljgnijaaaDoor

/-
  THE WALK of TreeOrder (coterielaw10), over what the program's calls answer.
-/
set_option linter.unusedVariables false
namespace Go.Proofs.YtlidhdljgnijaaaDoor
open Go.RowKit

theorem tmod_nat (a n : Nat) : Int.tmod (a : Int) (n : Int) = ((a % n : Nat) : Int) := by
  rw [Int.tmod_eq_emod_of_nonneg (by omega)]
  exact (Int.natCast_emod a n).symm

end Go.Proofs.YtlidhdljgnijaaaDoor

/-
  THE WALK of TreeSpans (coterielaw10), over what the program's calls answer.
-/
set_option linter.unusedVariables false
namespace Go.Proofs.YtlidhdljgnijaaaDoor
open Go.RowKit

theorem startT_ones (n a : Nat) (h : a ≤ n) : startT (List.replicate n 1) a = a := by
  simp [startT, List.take_replicate, List.sum_replicate_nat]
  omega
theorem scanTo_get (W : List Nat) (x i : Nat) (h : i ≤ x) : (scanTo W x)[i]? = some (startT W i) := by
  rw [scanTo, List.getElem?_map, List.getElem?_range (by omega)]
  rfl
/-- what a member's path and a level's spans have to do with each other -/
theorem span_facts {ids : List Int} {ll : List (List Int)} {id : Int} {k : Nat} (hc : chkT ids ll = true) (hi : isT ids id = true) (hk : k < ll.length) :
    ∃ g x y : Nat, (pathL (lvN ll) (belT ids id))[k]? = some g ∧ (spansL ids.length (lvN ll) k).length = ll[k].length + 1 ∧ g < ll[k].length ∧ (spansL ids.length (lvN ll) k)[0]? = some 0 ∧
      (spansL ids.length (lvN ll) k)[ll[k].length]? = some ids.length ∧ (spansL ids.length (lvN ll) k)[g]? = some x ∧ (spansL ids.length (lvN ll) k)[g + 1]? = some y ∧ x ≤ belT ids id ∧ belT ids id < y ∧ (k + 1 = ll.length → g = 0) := by
  have hlv := (chkT_lv hc).2.2.1
  have hb := bel_lt (okI_rise _ (chkT_lv hc).2.1) (isT_mem.1 hi)
  have hk1 : k < (lvN ll).length := by rw [lvN_len]; exact hk
  have hp : k < (pathL (lvN ll) (belT ids id)).length := by rw [pathL_len]; exact hk1
  obtain ⟨f1, f2, f3, f4⟩ := spanT_path (lvN ll) (List.replicate ids.length 1) ids.length (belT ids id) (belT ids id) hlv (by simp) hb (by rw [startT_ones _ _ (by omega)]; exact Nat.le_refl _) (by rw [startT_ones _ _ (by omega)]; omega) k hk1 hp
  have hs := wideT_sum (lvN ll) (List.replicate ids.length 1) ids.length k hlv (by simp) hk1
  rw [List.sum_replicate_nat, Nat.mul_one] at hs
  have hl : (lvN ll)[k].length = ll[k].length := by simp [lvN, natL]
  rw [hl] at f1 f2
  have e : spansL ids.length (lvN ll) k = scanTo (wideL (List.replicate ids.length 1) ((lvN ll).take (k + 1))) ll[k].length := by rw [spansL, scanT, f2]
  rw [e]
  generalize wideL (List.replicate ids.length 1) ((lvN ll).take (k + 1)) = W at *
  refine ⟨(pathL (lvN ll) (belT ids id))[k], _, _, List.getElem?_eq_getElem hp, by simp [scanTo], f1, ?_, ?_, scanTo_get _ _ _ (by omega), scanTo_get _ _ _ (by omega), f3, f4, fun h => ?_⟩
  · rw [scanTo_get _ _ _ (by omega), startT_zero]
  · rw [scanTo_get _ _ _ (by omega), ← f2, startT_all, hs]
  · have hx := pathL_last (lvN ll) ids.length (belT ids id) hlv hb (by rw [lvN_len, ← h]; exact hp)
    rw [← hx]
    congr 1
    rw [lvN_len, ← h]
    omega
theorem ivn_def (n : Nat) : ivn n = .int .i64 (n : Int) := rfl

end Go.Proofs.YtlidhdljgnijaaaDoor

/-
  A WORLD IN WHICH ONLY NUMBERS OF NEW BLOCKS CHANGED (for TreeDoes, which counts up in what Insert and Delete told).
-/
set_option linter.unusedVariables false
namespace Go.Proofs.YtlidhdljgnijaaaDoor
open Go.RowKit

def isI (v : Value) : Prop := ∃ x, v = .int .i64 x
/-- a block of cells of which no string shares a byte -/
def thawed (w : World) (b : Nat) : Prop := ∃ cs t, w.heap[b]? = some (.cells cs t (0, 0))
theorem thawed.free {w : World} {b : Nat} (h : thawed w b) (j : Nat) : w.frozen? ⟨b, j, none⟩ = false := by
  obtain ⟨cs, t, h⟩ := h
  exact frozen_of_row w b j _ t h
structure Mut (lo : Nat) (w0 w : World) : Prop where
  low : Below lo w0 w
  non : ∀ ad v, w0.cell? ad = some v → ¬ isI v → w.cell? ad = some v
  int : ∀ ad v, w0.cell? ad = some v → isI v → ∃ x, w.cell? ad = some (.int .i64 x)
  froz : ∀ b, thawed w0 b → thawed w b
theorem Mut.refl (lo : Nat) (w : World) : Mut lo w w := ⟨Below.refl _ _, fun _ _ h _ => h, fun _ _ h ⟨x, e⟩ => ⟨x, e ▸ h⟩, fun _ h => h⟩
theorem Mut.trans {lo : Nat} {a b c : World} (h : Mut lo a b) (h' : Mut lo b c) : Mut lo a c :=
  ⟨h.low.trans h'.low, fun ad v hv hn => h'.non ad v (h.non ad v hv hn) hn, fun ad v hv hi => by
    obtain ⟨x, hx⟩ := h.int ad v hv hi
    exact h'.int ad _ hx ⟨x, rfl⟩, fun b hb => h'.froz b (h.froz b hb)⟩
theorem Mut.of_below {lo : Nat} {w w' : World} (h : Below w.heap.size w w') (hl : lo ≤ w.heap.size) : Mut lo w w' := by
  have key : ∀ ad v, w.cell? ad = some v → w'.cell? ad = some v := fun ad v hv => by
    have hlt : ad.block < w.heap.size := by
      unfold World.cell? at hv
      rcases Nat.lt_or_ge ad.block w.heap.size with h | h
      · exact h
      · rw [Array.getElem?_eq_none h] at hv
        cases hv
    rw [World.cell?_of_block (h.block _ hlt), hv]
  refine ⟨h.mono hl, fun ad v hv _ => key ad v hv, fun ad v hv ⟨x, e⟩ => ⟨x, e ▸ key ad v hv⟩, fun b ⟨cs, t, hb⟩ => ⟨cs, t, ?_⟩⟩
  have hlt : b < w.heap.size := by
    rcases Nat.lt_or_ge b w.heap.size with h | h
    · exact h
    · rw [Array.getElem?_eq_none h] at hb
      cases hb
  rw [h.block _ hlt, hb]
theorem Mut.set {lo : Nat} {a w : World} (h : Mut lo a w) {p : Addr} {x : Int} (hc : w.cell? p = some (.int .i64 x)) (hl : lo ≤ p.block) (y : Int) : Mut lo a (w.setCell p (.int .i64 y)) := by
  refine h.trans ⟨(Below.refl _ _).setCell hl _, fun ad v hv hn => ?_, fun ad v hv hi => ?_, fun b ⟨cs, t, hb⟩ => ?_⟩
  · rw [World.cell?_setCell_other _ _ _ _ (fun e => hn ⟨x, by rw [← e, hc] at hv; injection hv with hv; exact hv.symm⟩), hv]
  · by_cases e : p = ad
    · subst e
      exact ⟨y, World.cell?_setCell_same _ _ _ hc⟩
    · obtain ⟨z, rfl⟩ := hi
      exact ⟨z, by rw [World.cell?_setCell_other _ _ _ _ e, hv]⟩
  · by_cases e : b = p.block
    · subst e
      unfold thawed World.setCell
      simp only [Array.getElem?_modify, hb]
      by_cases hs : p.spot.isSome = true
      · exact ⟨cs, t, by simp [hs]⟩
      · exact ⟨cs.setIfInBounds p.off (.int .i64 y), t, by simp [hs]⟩
    · exact ⟨cs, t, by rw [Below.heap_setCell w p _ b e, hb]⟩
/-- numbers that may be counted up -/
def IntsM (lo : Nat) (w : World) (A : Option Addr) (n : Nat) : Prop := ∀ j, j < n → ∃ b o, A = some ⟨b, o, none⟩ ∧ lo ≤ b ∧ thawed w b ∧ ∃ x, w.cell? ⟨b, o + j, none⟩ = some (.int .i64 x)
def LvsM (lo : Nat) (w : World) (A : Option Addr) (n : Nat) : Prop := ∀ j, j < n → ∃ b o A' m c, A = some ⟨b, o, none⟩ ∧ w.cell? ⟨b, o + j, none⟩ = some (.slice A' m c) ∧ m ≤ maxLen ∧ IntsM lo w A' m
theorem IntsM.mut {lo : Nat} {w w' : World} {A : Option Addr} {n : Nat} (h : IntsM lo w A n) (hm : Mut lo w w') : IntsM lo w' A n := fun j hj => by
  obtain ⟨b, o, e, hb, ht, x, hx⟩ := h j hj
  exact ⟨b, o, e, hb, hm.froz b ht, hm.int _ _ hx ⟨x, rfl⟩⟩
theorem LvsM.mut {lo : Nat} {w w' : World} {A : Option Addr} {n : Nat} (h : LvsM lo w A n) (hm : Mut lo w w') : LvsM lo w' A n := fun j hj => by
  obtain ⟨b, o, A', m, c, e, hc, hle, hi⟩ := h j hj
  exact ⟨b, o, A', m, c, e, hm.non _ _ hc (fun ⟨x, h⟩ => by cases h), hle, hi.mut hm⟩
/-- a tree's rows are such that no string shares a byte of them -/
def ThawS (w : World) (Ai Al : Option Addr) (nl : Nat) : Prop := (∀ ad, Ai = some ad → thawed w ad.block) ∧ ∀ b o j, Al = some ⟨b, o, none⟩ → j < nl → ∀ A m c, w.cell? ⟨b, o + j, none⟩ = some (.slice A m c) → ∀ ad, A = some ad → thawed w ad.block
theorem IntsM.of {lo : Nat} {w : World} {B : Nat} {A : Option Addr} {n : Nat} {l : List Int} (hr : Rd w B A n (l.map iv)) (hn : NewA lo A) (ht : ∀ ad, A = some ad → thawed w ad.block) : IntsM lo w A n := fun j hj => by
  obtain ⟨b, o, rfl, h2, h3⟩ := hr.pos (by omega)
  have hl : l.length = n := by simpa using hr.len
  exact ⟨b, o, rfl, hn _ rfl, ht _ rfl, l[j]'(by omega), h3 j _ (by rw [List.getElem?_map, List.getElem?_eq_getElem (by omega)]; rfl)⟩
theorem ShN.muts {lo : Nat} {w : World} {B : Nat} {Ai : Option Addr} {ni ci : Nat} {Al : Option Addr} {nl cl : Nat} {ids : List Int} {ll : List (List Int)} (h : ShN lo w B Ai ni ci Al nl cl ids ll) (ht : ThawS w Ai Al nl) : IntsM lo w Ai ni ∧ LvsM lo w Al nl := by
  refine ⟨IntsM.of h.sh.hids h.hi ht.1, fun j hj => ?_⟩
  obtain ⟨vs, h1, h2, h3⟩ := h.hv
  obtain ⟨b, o, rfl, hb, hc⟩ := h1.pos (by omega)
  have hjl : j < ll.length := by rw [h.sh.hnl]; exact hj
  obtain ⟨A, c, e, q1, q2, q3⟩ := h2.get hjl
  have hcell := hc j _ e
  exact ⟨b, o, A, _, c, rfl, hcell, by omega, IntsM.of q3 (h3 _ (List.mem_of_getElem? e) A _ c rfl) (ht.2 b o j rfl hj A _ c hcell)⟩

/-- a told tree's rows: no string shares a byte of them -/
def TellsThawed (e : Ending) (w' : World) : Prop := ∀ Ai ni ci Al nl cl er, e = .returned (.tuple #[.agg (shV Ai ni ci Al nl cl), er]) → ThawS w' Ai Al nl

end Go.Proofs.YtlidhdljgnijaaaDoor

