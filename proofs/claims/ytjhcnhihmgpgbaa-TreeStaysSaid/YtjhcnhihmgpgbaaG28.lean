import Derived.Test.YtjhcnhihmgpgbaaG27
/-
  Build in whatever order (pure).
-/
set_option linter.unusedVariables false
namespace Go.Proofs.Ytjhcnhihmgpgbaa
open Go.RowKit

/-- rising lists with the same members are the same -/
theorem rise_ext : ∀ (a b : List Int), a.Pairwise (· < ·) → b.Pairwise (· < ·) → (∀ x, x ∈ a ↔ x ∈ b) → a = b
  | [], [], _, _, _ => rfl
  | [], y :: b, _, _, h => absurd ((h y).2 (by simp)) (by simp)
  | x :: a, [], _, _, h => absurd ((h x).1 (by simp)) (by simp)
  | x :: a, y :: b, ha, hb, h => by
    rw [List.pairwise_cons] at ha hb
    have hxy : x = y := by
      rcases List.mem_cons.1 ((h x).1 (by simp)) with e | e
      · exact e
      · rcases List.mem_cons.1 ((h y).2 (by simp)) with e' | e'
        · exact e'.symm
        · have := ha.1 y e'
          have := hb.1 x e
          omega
    subst hxy
    rw [rise_ext a b ha.2 hb.2 fun z => ⟨fun hz => ?_, fun hz => ?_⟩]
    · rcases List.mem_cons.1 ((h z).1 (by simp [hz])) with e | e
      · have := ha.1 z hz; omega
      · exact e
    · rcases List.mem_cons.1 ((h z).2 (by simp [hz])) with e | e
      · have := hb.1 z hz; omega
      · exact e
/-- what may be put in, one by one -/
def goodT (r ids : List Int) : Prop := r.Nodup ∧ ∀ x ∈ r, 0 ≤ x ∧ x ≤ 1048576 ∧ x ∉ ids
theorem bld_good : ∀ (r ids : List Int) (lv : List (List Nat)), chkT ids (levI lv) = true → ids.length + r.length < 1000 →
    ((bldS r ids lv).1 = 0 ↔ goodT r ids) ∧ ((bldS r ids lv).1 = 0 → chkT (bldS r ids lv).2.1 (levI (bldS r ids lv).2.2) = true ∧ (bldS r ids lv).2.1.length = ids.length + r.length ∧ ∀ x, x ∈ (bldS r ids lv).2.1 ↔ x ∈ ids ∨ x ∈ r)
  | [], ids, lv, hc, _ => ⟨⟨fun _ => ⟨List.nodup_nil, fun x hx => by simp at hx⟩, fun _ => rfl⟩, fun _ => ⟨hc, by simp [bldS], fun x => by simp [bldS]⟩⟩
  | id :: r, ids, lv, hc, hn => by
    rw [List.length_cons] at hn
    by_cases he : insE ids (levI lv) id = 0
    · obtain ⟨c1, _, c3⟩ := ins_chk he
      obtain ⟨_, z2, z3, z4, _⟩ := insE_zero he
      rw [lvN_levI] at c1 c3
      have hl : (insS ids lv id).1.length = ids.length + 1 := by rw [c1, insI_len]
      obtain ⟨i1, i2⟩ := bld_good r (insS ids lv id).1 (insS ids lv id).2 c3 (by omega)
      have e : bldS (id :: r) ids lv = bldS r (insS ids lv id).1 (insS ids lv id).2 := by rw [bldS, if_pos he]
      rw [e]
      have hg : goodT r (insS ids lv id).1 ↔ goodT (id :: r) ids := by
        unfold goodT
        rw [c1, List.nodup_cons]
        constructor
        · rintro ⟨h1, h2⟩
          refine ⟨⟨fun h => (h2 id h).2.2 (mem_insI.2 (Or.inl rfl)), h1⟩, fun x hx => ?_⟩
          rcases List.mem_cons.1 hx with rfl | hx
          · exact ⟨z2, z3, z4⟩
          · exact ⟨(h2 x hx).1, (h2 x hx).2.1, fun h => (h2 x hx).2.2 (mem_insI.2 (Or.inr h))⟩
        · rintro ⟨⟨h0, h1⟩, h2⟩
          refine ⟨h1, fun x hx => ⟨(h2 x (by simp [hx])).1, (h2 x (by simp [hx])).2.1, fun h => ?_⟩⟩
          rcases mem_insI.1 h with rfl | h
          · exact h0 hx
          · exact (h2 x (by simp [hx])).2.2 h
      refine ⟨i1.trans hg, fun h => ?_⟩
      obtain ⟨j1, j2, j3⟩ := i2 h
      refine ⟨j1, by rw [j2, hl, List.length_cons]; omega, fun x => ?_⟩
      rw [j3, c1, mem_insI, List.mem_cons]
      constructor
      · rintro ((h | h) | h)
        · exact Or.inr (Or.inl h)
        · exact Or.inl h
        · exact Or.inr (Or.inr h)
      · rintro (h | h | h)
        · exact Or.inl (Or.inr h)
        · exact Or.inl (Or.inl h)
        · exact Or.inr h
    · have e : (bldS (id :: r) ids lv).1 = insE ids (levI lv) id := by rw [bldS, if_neg he]
      refine ⟨⟨fun h => absurd (e.symm.trans h) he, fun h => absurd (insE_mk hc (h.2 id (by simp)).1 (h.2 id (by simp)).2.1 (h.2 id (by simp)).2.2 (by omega)) he⟩, fun h => absurd (e.symm.trans h) he⟩
theorem good_perm {r s : List Int} (h : r.Perm s) (hg : goodT r []) : goodT s [] := ⟨(h.nodup_iff).1 hg.1, fun x hx => hg.2 x (h.mem_iff.2 hx)⟩
/-- in whatever order -/
theorem bld_perm {r s : List Int} (h : r.Perm s) (hn : r.length ≤ 100) : ((bldS r [] []).1 = 0 ↔ (bldS s [] []).1 = 0) ∧
    ((bldS r [] []).1 = 0 → (bldS s [] []).2.1 = (bldS r [] []).2.1 ∧ chkT (bldS r [] []).2.1 (levI (bldS r [] []).2.2) = true ∧ chkT (bldS s [] []).2.1 (levI (bldS s [] []).2.2) = true ∧ (bldS r [] []).2.1.length = r.length) := by
  have hl := h.length_eq
  have h0 : chkT [] (levI []) = true := by decide
  obtain ⟨a1, a2⟩ := bld_good r [] [] h0 (by simp; omega)
  obtain ⟨b1, b2⟩ := bld_good s [] [] h0 (by simp; omega)
  have hgg : goodT r [] ↔ goodT s [] := ⟨good_perm h, good_perm h.symm⟩
  have hz := a1.trans (hgg.trans b1.symm)
  refine ⟨hz, fun hr => ?_⟩
  obtain ⟨c1, c2, c3⟩ := a2 hr
  obtain ⟨d1, d2, d3⟩ := b2 (hz.1 hr)
  refine ⟨rise_ext _ _ (okI_rise _ (chkT_lv d1).2.1) (okI_rise _ (chkT_lv c1).2.1) fun x => ?_, c1, d1, by simpa using c2⟩
  rw [c3, d3, h.mem_iff]

end Go.Proofs.Ytjhcnhihmgpgbaa

/-
  THE WALK of TreeOrder (coterielaw10), over what the program's calls answer.
-/
set_option linter.unusedVariables false
namespace Go.Proofs.Ytjhcnhihmgpgbaa
open Go.RowKit

theorem tmod_nat (a n : Nat) : Int.tmod (a : Int) (n : Int) = ((a % n : Nat) : Int) := by
  rw [Int.tmod_eq_emod_of_nonneg (by omega)]
  exact (Int.natCast_emod a n).symm

set_option maxRecDepth 100000 in
set_option maxHeartbeats 8000000 in
theorem walkH_TreeOrder (hB : HTB) (hC : HTC) (hS : HTM) (A : Option Addr) (n c : Nat) (xs : List Int) (At : Option Addr) (m ct : Nat) (ts : List UInt8) (w : World) (hn : n ≤ maxLen) (hm : m ≤ maxLen)
    (hr : Rd w w.heap.size A n (xs.map iv)) (ht : Rd w w.heap.size At m (ts.map bv)) :
    Calls Try.prog 9 #[.slice A n c, .slice At m ct] w fun e w' => e = .returned (.bool true) ∧ Below w.heap.size w w' := by
  obtain ⟨i0, hi0, hz0, hz1, hz2⟩ := info_parts intInfo
  have Hxl := Lib.hid (show xs.length = n by simpa using hr.len)
  have Htl := Lib.hid (show ts.length = m by simpa using ht.len)
  rw [maxLen] at hn hm
  go_enter Try.func9, Try.ntmps9
  go_wp2_with fail
  refine (live10 hB hC hS _).mono ?_
  rintro e w1 ⟨rfl, hb1⟩
  by_cases hx : 100 < n
  · go_wp2_with fail
    go_ret
    exact ⟨rfl, hb1⟩
  by_cases hy : 200 < m
  · go_wp2_with fail
    go_ret
    exact ⟨rfl, hb1⟩
  have hr1 := d_rd hr hb1
  have ht1 := d_rd ht hb1
  clear hr ht
  go_upto_region 7 with (first
    | (at_builtin; refine wpList_append_rd _ rfl (.const (.slice none 0 0)) (.tmp 28) _ rfl w1.heap.size 3 i0 _ 8 Try.underlying22 hi0 hz0 hz1 hz2 rfl (.slice none 0 0) 0 [] rfl (World.ownsRow_nil _ _ _ _) w1.heap.size A n c (xs.map iv) rfl hr1 (one_iv _) (by simp only [maxLen]; omega) (by omega) (by omega) ?_; intro v2 w2 hown2 hgr2 _; obtain ⟨A2, c2, rfl, _, _⟩ := own_formT hown2; rw [Nat.zero_add, List.nil_append] at hown2; have hB2 : Below w1.heap.size w1 w2 := (Below.refl _ _).grown hgr2 (Nat.le_refl _) (fun k hk => by simp [Value.ownBlock] at hk)))
  try simp only [Act.put]
  have hr2 := hr1.below hB2
  have ht2 := ht1.below hB2
  have hbb2 := c_call hb1 hB2
  have hle2 := hB2.size
  have hsl := hb1.size
  clear hgr2 hr1 ht1 hb1 hB2
  obtain ⟨s1, hs1⟩ : ∃ s, s = w1.heap.size := ⟨_, rfl⟩
  rw [← hs1] at hown2 hsl hr2 ht2 hle2
  clear hs1
  refine wp_gen (fun wx => Below w.heap.size w wx ∧ s1 ≤ wx.heap.size ∧ Rd wx s1 A n (xs.map iv) ∧ Rd wx s1 At m (ts.map bv) ∧ wx.ownsRow s1 3 1 (.slice A2 n c2) n (xs.map iv)) ⟨hbb2, hle2, hr2, ht2, hown2⟩ ?_
  clear hown2 hbb2 hle2 hr2 ht2
  rintro w3 ⟨hb3, hle3, hr3, ht3, hown3⟩
  go_wp2_with fail
  go_loopw [32] (fun i wr => ∃ (j : Nat) (ys : List Int), j ≤ m ∧ i = .int .i64 (j : Int) ∧ ys.Perm xs ∧ Below w.heap.size w wr ∧ s1 ≤ wr.heap.size ∧ Rd wr s1 A n (xs.map iv) ∧ Rd wr s1 At m (ts.map bv) ∧ wr.ownsRow s1 3 1 (.slice A2 n c2) n (ys.map iv)) (fun i _ => m - (intOf i).toNat)
  case atStart => exact ⟨0, xs, by omega, rfl, List.Perm.refl _, hb3, hle3, hr3, ht3, hown3⟩
  case round =>
    clear hb3 hle3 hr3 ht3 hown3
    obtain ⟨j, ys, hj, rfl, hp, hb, hle, hrI, hrT, hown⟩ := hrel
    have Hyl := Lib.hid (hp.length_eq.trans Hxl.out)
    by_cases hlt : j < m
    · have hjt : j < ts.length := by rw [Htl.out]; exact hlt
      obtain ⟨gt, ot, rfl, hgt, hcellT⟩ := hrT.pos (by omega)
      have ct1 := hcellT j (bv ts[j]) (by rw [List.getElem?_map, List.getElem?_eq_getElem hjt]; rfl)
      rw [bv_def] at ct1
      clear hcellT
      generalize ts[j] = t at *
      have htb := b_lt t
      have j0 : (0 : Int) ≤ (j : Int) := by omega
      have j1 : (j : Int) < (m : Int) := by omega
      by_cases h1 : 1 < n
      · obtain ⟨g, cap, hv, hg, _⟩ := hown.form (by omega)
        injection hv with hv1 _ hv3
        subst hv1 hv3
        have ea := tmod_nat j n
        have eb := tmod_nat t.toNat n
        have ha : j % n < n := Nat.mod_lt _ (by omega)
        have hbq : t.toNat % n < n := Nat.mod_lt _ (by omega)
        generalize j % n = a at *
        generalize t.toNat % n = b at *
        have ha' : a < ys.length := by rw [Hyl.out]; exact ha
        have hb' : b < ys.length := by rw [Hyl.out]; exact hbq
        have ca := hown.cells (g := g) rfl a (iv ys[a]) (by rw [List.getElem?_map, List.getElem?_eq_getElem ha']; rfl)
        have cb := hown.cells (g := g) rfl b (iv ys[b]) (by rw [List.getElem?_map, List.getElem?_eq_getElem hb']; rfl)
        rw [Addr.add_lit, Nat.zero_add, iv_def] at ca cb
        have f0 := own_free hown a
        have hown1 := own_set hown ha (iv ys[b])
        have f1 := own_free hown1 b
        have cb1 := hown1.cells (g := g) rfl b (iv ys[b]) (by rw [List.getElem?_set]; split <;> rename_i hab <;> simp [List.getElem?_eq_getElem hb', ha'])
        have hown2 := own_set hown1 hbq (iv ys[a])
        rw [← List.map_set, ← List.map_set] at hown2
        have hp2 := Lib.hid ((List.set_set_perm ha' hb').trans hp)
        have hb2 := (hb.setCell (p := ⟨g, a, none⟩) (by show w.heap.size ≤ g; omega) (iv ys[b])).setCell (p := ⟨g, b, none⟩) (by show w.heap.size ≤ g; omega) (iv ys[a])
        have hrI2 := (hrI.setCell (p := ⟨g, a, none⟩) (by show s1 ≤ g; omega) (iv ys[b])).setCell (p := ⟨g, b, none⟩) (by show s1 ≤ g; omega) (iv ys[a])
        have hrT2 := (hrT.setCell (p := ⟨g, a, none⟩) (by show s1 ≤ g; omega) (iv ys[b])).setCell (p := ⟨g, b, none⟩) (by show s1 ≤ g; omega) (iv ys[a])
        clear hown1 hown hrI hrT hb
        rw [iv_def, iv_def] at hb2 hrI2 hrT2 hown2
        rw [iv_def] at f1
        rw [Addr.add_lit, Nat.zero_add, iv_def] at cb1
        generalize ys[a] = ya at *
        generalize ys[b] = yb at *
        clear ha' hb'
        have a0 : (0 : Int) ≤ (a : Int) := by omega
        have a1 : (a : Int) < (n : Int) := by omega
        have b0 : (0 : Int) ≤ (b : Int) := by omega
        have b1 : (b : Int) < (n : Int) := by omega
        go_wp2_with fail
        go_roundw
        case rel => exact ⟨j + 1, _, by omega, by go_num, hp2.out, hb2, by simpa using hle, hrI2, hrT2, hown2⟩
        case measure => simp [intOf]; omega
      · go_wp2_with fail
        go_roundw
        case rel => exact ⟨j + 1, ys, by omega, by go_num, hp, hb, hle, hrI, hrT, hown⟩
        case measure => simp [intOf]; omega
    · obtain rfl : j = m := by omega
      have hMr := (Ms.nil w).call hb
      have hpa := hB A n c xs wr (by omega) (hrI.more hle)
      have hrY : Rd wr wr.heap.size A2 n (ys.map iv) := Rd.of_own hown
      obtain ⟨bz, bg⟩ := bld_perm hp.symm (by rw [Hxl.out]; omega)
      rw [Hxl.out] at bg
      clear hrI hrT hown hb
      go_wp2_with fail
      refine hpa.mono ?_
      rintro e w4 ⟨hb4, Ai1, ni1, ci1, Al1, nl1, cl1, rfl, hn1⟩
      have hM4 := (hMr.call hb4).put 25 #[.slice none 0 0, .slice none 0 0] (shV Ai1 ni1 ci1 Al1 nl1 cl1)
      have hB4 : Below w4.heap.size w4 ((w4.alloc (.cells #[.slice none 0 0, .slice none 0 0] 25)).setRow w4.heap.size (shV Ai1 ni1 ci1 Al1 nl1 cl1)) := below_setRow ((Below.refl _ _).alloc (Nat.le_refl _) _) (Nat.le_refl _) _
      have hs1 := (hn1.sh.below hB4).more hB4.size
      have hrY4 := d_rd (d_rd hrY hb4) hB4
      clear hpa hMr hB4 hn1 hb4 hrY
      generalize (bldS xs [] []).2.1 = ids1 at *
      generalize (bldS xs [] []).2.2 = lv1 at *
      generalize (bldS xs [] []).1 = ea at *
      go_upto_region 18 with ((with_reducible show wpList _ _ _ (⟨none, Op.store 25 _ _, _, _, _, _⟩ :: _) _ _); refine wpList_store_row rfl 25 (.tmp 12) (.tmp 68) rfl (w4.heap.size) (shV Ai1 ni1 ci1 Al1 nl1 cl1) rfl rfl 25 _ (RowC.new _ _ _) (sizeSh _ _ _ _ _ _) rfl (one_sh _ _ _ _ _ _) ?_)
      try simp only [Act.put]
      refine wp_gen (fun wx => Ms w wx [(w4.heap.size, 25, shV Ai1 ni1 ci1 Al1 nl1 cl1)] ∧ ShR wx wx.heap.size Ai1 ni1 ci1 Al1 nl1 cl1 ids1 (levI lv1) ∧ Rd wx wx.heap.size A2 n (ys.map iv)) ⟨hM4, hs1, hrY4⟩ ?_
      clear hM4 hs1 hrY4
      rintro w5 ⟨hM5, hs5, hrY5⟩
      obtain ⟨g1, hg1⟩ : ∃ g, g = w4.heap.size := ⟨_, rfl⟩
      rw [← hg1] at hM5 ⊢
      clear hg1
      have hpb := hB A2 n c2 ys w5 (by omega) hrY5
      go_wp2_with fail
      refine hpb.mono ?_
      rintro e w6 ⟨hb6, Ai2, ni2, ci2, Al2, nl2, cl2, rfl, hn2⟩
      have hM6 := (hM5.call hb6).put 25 #[.slice none 0 0, .slice none 0 0] (shV Ai2 ni2 ci2 Al2 nl2 cl2)
      have hB6 : Below w6.heap.size w6 ((w6.alloc (.cells #[.slice none 0 0, .slice none 0 0] 25)).setRow w6.heap.size (shV Ai2 ni2 ci2 Al2 nl2 cl2)) := below_setRow ((Below.refl _ _).alloc (Nat.le_refl _) _) (Nat.le_refl _) _
      have hs2 := (hn2.sh.below hB6).more hB6.size
      have hs6 := (((hs5.below hb6).more hb6.size).below hB6).more hB6.size
      clear hpb hM5 hB6 hn2 hb6 hs5 hrY5
      generalize (bldS ys [] []).2.1 = ids2 at *
      generalize (bldS ys [] []).2.2 = lv2 at *
      generalize (bldS ys [] []).1 = eb at *
      go_upto_region 19 with ((with_reducible show wpList _ _ _ (⟨none, Op.store 25 _ _, _, _, _, _⟩ :: _) _ _); refine wpList_store_row rfl 25 (.tmp 14) (.tmp 73) rfl (w6.heap.size) (shV Ai2 ni2 ci2 Al2 nl2 cl2) rfl rfl 25 _ (RowC.new _ _ _) (sizeSh _ _ _ _ _ _) rfl (one_sh _ _ _ _ _ _) ?_)
      try simp only [Act.put]
      refine wp_gen (fun wx => Ms w wx [(w6.heap.size, 25, shV Ai2 ni2 ci2 Al2 nl2 cl2), (g1, 25, shV Ai1 ni1 ci1 Al1 nl1 cl1)] ∧ ShR wx wx.heap.size Ai1 ni1 ci1 Al1 nl1 cl1 ids1 (levI lv1) ∧ ShR wx wx.heap.size Ai2 ni2 ci2 Al2 nl2 cl2 ids2 (levI lv2)) ⟨hM6, hs6, hs2⟩ ?_
      clear hM6 hs6 hs2
      rintro w7 ⟨hM7, hs7, hs7'⟩
      obtain ⟨g2, hg2⟩ : ∃ g, g = w6.heap.size := ⟨_, rfl⟩
      rw [← hg2] at hM7 ⊢
      clear hg2
      by_cases hz : ea = 0
      rotate_left
      · have hz2 : ¬ eb = 0 := fun h => hz (bz.2 h)
        have z1 : (ea != 0) = true := by simpa using hz
        have z2 : (eb != 0) = true := by simpa using hz2
        clear bz bg hs7 hs7'
        go_wp2_with fail
        go_ret
        exact ⟨rfl, hM7.old⟩
      obtain ⟨e2, k1, k2, e3⟩ := bg hz
      have hz2 := bz.1 hz
      subst e2 hz2 hz
      have hnn : ni1 = n := hs7.hni.symm.trans e3
      subst hnn
      have hsm := SameInts_any Ai1 Ai2 ni1 ci1 ni2 ci2 ids2 ids2 w7 (Nat.le_trans hs7.hci hs7.hmi) hs7.hids hs7'.hids
      simp only [beq_self_eq_true] at hsm
      have hc1 := fun wx (hx : Below w7.heap.size w7 wx) => hC Ai1 ni1 ci1 Al1 nl1 cl1 ids2 (levI lv1) wx ((hs7.below hx).more hx.size) (few_of_chk k1)
      have hc2 := fun wx (hx : Below w7.heap.size w7 wx) => hC Ai2 ni2 ci2 Al2 nl2 cl2 ids2 (levI lv2) wx ((hs7'.below hx).more hx.size) (few_of_chk k2)
      rw [chkE, if_pos k1] at hc1
      rw [chkE, if_pos k2] at hc2
      have q1 := (hM7.get 1 rfl).cell (i := 0) (v := .slice Ai1 ni1 ci1) rfl
      have q2 := (hM7.get 0 rfl).cell (i := 0) (v := .slice Ai2 ni2 ci2) rfl
      have hsc1 := fun wx (hR : RowC wx g1 25 (shV Ai1 ni1 ci1 Al1 nl1 cl1)) => hR.cell (i := 0) (v := .slice Ai1 ni1 ci1) rfl
      have Hsz1 := Lib.hid (sizeSh Ai1 ni1 ci1 Al1 nl1 cl1)
      have Hsz2 := Lib.hid (sizeSh Ai2 ni2 ci2 Al2 nl2 cl2)
      clear hs7 hs7' k1 k2 bz bg e3
      generalize shV Ai1 ni1 ci1 Al1 nl1 cl1 = sv1 at *
      generalize shV Ai2 ni2 ci2 Al2 nl2 cl2 = sv2 at *
      go_wp2_with fail
      refine hsm.mono ?_
      rintro e w8 ⟨rfl, hb8⟩
      have hM8 := hM7.call hb8
      have hc1 := hc1 w8 hb8
      clear hsm hM7 q1 q2
      go_wp2_with ((with_reducible show wpList _ _ _ (⟨some 99, _, _, _, _, _⟩ :: _) _ _); refine wpList_loadC (by kernel_rfl) 25 (.tmp 12) rfl (g1) rfl 25 sv1 _ (hM8.get 1 rfl) Try.underlying25 rfl Hsz1.out ?_)
      refine hc1.mono ?_
      rintro e w9 ⟨rfl, hb9⟩
      have hM9 := hM8.call hb9
      have hc2 := hc2 w9 (hb8.trans (hb9.mono hb8.size))
      clear hM8 hc1 hb8 hb9
      go_wp2_with ((with_reducible show wpList _ _ _ (⟨some 104, _, _, _, _, _⟩ :: _) _ _); refine wpList_loadC (by kernel_rfl) 25 (.tmp 14) rfl (g2) rfl 25 sv2 _ (hM9.get 0 rfl) Try.underlying25 rfl Hsz2.out ?_)
      refine hc2.mono ?_
      rintro e w10 ⟨rfl, hb10⟩
      have hM10 := hM9.call hb10
      have q1 := hsc1 _ (hM10.get 1 rfl)
      clear hM9 hc2 hb10
      go_wp2_with fail
      go_ret
      exact ⟨rfl, hM10.old⟩

end Go.Proofs.Ytjhcnhihmgpgbaa

/-
  THE WALK of TreeSpans (coterielaw10), over what the program's calls answer.
-/
set_option linter.unusedVariables false
namespace Go.Proofs.Ytjhcnhihmgpgbaa
open Go.RowKit

theorem startT_ones (n a : Nat) (h : a ≤ n) : startT (List.replicate n 1) a = a := by
  simp [startT, List.take_replicate, List.sum_replicate_nat]
  omega
theorem scanTo_get (W : List Nat) (x i : Nat) (h : i ≤ x) : (scanTo W x)[i]? = some (startT W i) := by
  rw [scanTo, List.getElem?_map, List.getElem?_range (by omega)]
  rfl
/-- what a member's path and a level's spans have to do with each other -/
theorem span_facts {ids : List Int} {ll : List (List Int)} {id : Int} {k : Nat} (hc : chkT ids ll = true) (hi : isT ids id = true) (hk : k < ll.length) :
    ∃ g x y : Nat, (pathL (lvN ll) (belT ids id))[k]? = some g ∧ (spansL ids.length (lvN ll) k).length = ll[k].length + 1 ∧ g < ll[k].length ∧ (spansL ids.length (lvN ll) k)[0]? = some 0 ∧
      (spansL ids.length (lvN ll) k)[ll[k].length]? = some ids.length ∧ (spansL ids.length (lvN ll) k)[g]? = some x ∧ (spansL ids.length (lvN ll) k)[g + 1]? = some y ∧ x ≤ belT ids id ∧ belT ids id < y ∧ (k + 1 = ll.length → g = 0) := by
  have hlv := (chkT_lv hc).2.2.1
  have hb := bel_lt (okI_rise _ (chkT_lv hc).2.1) (isT_mem.1 hi)
  have hk1 : k < (lvN ll).length := by rw [lvN_len]; exact hk
  have hp : k < (pathL (lvN ll) (belT ids id)).length := by rw [pathL_len]; exact hk1
  obtain ⟨f1, f2, f3, f4⟩ := spanT_path (lvN ll) (List.replicate ids.length 1) ids.length (belT ids id) (belT ids id) hlv (by simp) hb (by rw [startT_ones _ _ (by omega)]; exact Nat.le_refl _) (by rw [startT_ones _ _ (by omega)]; omega) k hk1 hp
  have hs := wideT_sum (lvN ll) (List.replicate ids.length 1) ids.length k hlv (by simp) hk1
  rw [List.sum_replicate_nat, Nat.mul_one] at hs
  have hl : (lvN ll)[k].length = ll[k].length := by simp [lvN, natL]
  rw [hl] at f1 f2
  have e : spansL ids.length (lvN ll) k = scanTo (wideL (List.replicate ids.length 1) ((lvN ll).take (k + 1))) ll[k].length := by rw [spansL, scanT, f2]
  rw [e]
  generalize wideL (List.replicate ids.length 1) ((lvN ll).take (k + 1)) = W at *
  refine ⟨(pathL (lvN ll) (belT ids id))[k], _, _, List.getElem?_eq_getElem hp, by simp [scanTo], f1, ?_, ?_, scanTo_get _ _ _ (by omega), scanTo_get _ _ _ (by omega), f3, f4, fun h => ?_⟩
  · rw [scanTo_get _ _ _ (by omega), startT_zero]
  · rw [scanTo_get _ _ _ (by omega), ← f2, startT_all, hs]
  · have hx := pathL_last (lvN ll) ids.length (belT ids id) hlv hb (by rw [lvN_len, ← h]; exact hp)
    rw [← hx]
    congr 1
    rw [lvN_len, ← h]
    omega
theorem ivn_def (n : Nat) : ivn n = .int .i64 (n : Int) := rfl

set_option maxRecDepth 100000 in
set_option maxHeartbeats 8000000 in
theorem walkH_TreeSpans (hB : HTB) (hC : HTC) (hS : HTM) (hF : HTF) (hP : HTP) (hSp : HTS) (Ai : Option Addr) (ni ci : Nat) (Al : Option Addr) (nl cl : Nat) (ids : List Int) (ll : List (List Int)) (id : Int) (w : World)
    (h : ShR w w.heap.size Ai ni ci Al nl cl ids ll) :
    Calls Try.prog 8 #[.agg (shV Ai ni ci Al nl cl), .int .i64 id] w fun e w' => e = .returned (.bool true) ∧ Below w.heap.size w w' := by
  have hM0 := (Ms.nil w).box 25 (shV Ai ni ci Al nl cl)
  have sh := fun wx (hb : Below w.heap.size w wx) => (h.below hb).more hb.size
  have hfe := fun wx hb => FewT_any Ai ni ci Al nl cl ids ll wx (sh wx hb)
  have hck := fun (hf : fewT ids ll = true) wx hb => hC Ai ni ci Al nl cl ids ll wx (sh wx hb) hf
  have hpa := fun (hf : fewT ids ll = true) wx hb => hP Ai ni ci Al nl cl ids ll id wx (sh wx hb) hf
  have hfi := fun (hf : fewT ids ll = true) wx hb => hF Ai ni ci Al nl cl ids ll id wx (sh wx hb) hf
  have hsp := fun (hf : fewT ids ll = true) (level : Int) h1 h2 wx hb => hSp Ai ni ci Al nl cl ids ll level wx h1 h2 (sh wx hb) hf
  have Hsz := Lib.hid (sizeSh Ai ni ci Al nl cl)
  have hsc := fun wx g (hR : RowC wx g 25 (shV Ai ni ci Al nl cl)) => hR.cell (i := 0) (v := .slice Ai ni ci) rfl
  have hsl := fun wx g (hR : RowC wx g 25 (shV Ai ni ci Al nl cl)) => hR.cell (i := 1) (v := .slice Al nl cl) rfl
  have Hni := Lib.hid h.hni
  have Hnl := Lib.hid h.hnl
  have hml := h.hml
  have hcl := h.hcl
  obtain ⟨vs, hv, hlv⟩ := h.lvs
  rw [maxLen] at hml
  clear sh h
  generalize hsv : shV Ai ni ci Al nl cl = sv at *
  clear hsv
  go_enter Try.func8, Try.ntmps8
  go_wp2_with fail
  refine (live10 hB hC hS _).mono ?_
  rintro e w1 ⟨rfl, hb1⟩
  have hM1 := hM0.call hb1
  clear hM0 hb1
  go_wp2_with ((with_reducible show wpList _ _ _ (⟨some 15, _, _, _, _, _⟩ :: _) _ _); refine wpList_loadC (by kernel_rfl) 25 (.tmp 2) rfl (w.heap.size) rfl 25 sv _ (hM1.get 0 rfl) Try.underlying25 rfl Hsz.out ?_)
  refine (hfe _ hM1.old).mono ?_
  rintro e w2 ⟨rfl, hb2⟩
  have hM2 := hM1.call hb2
  clear hM1 hb2
  by_cases hfw : fewT ids ll = true
  rotate_left
  · have hff : fewT ids ll = false := by simpa using hfw
    rw [hff]
    go_wp2_with fail
    go_ret
    exact ⟨rfl, hM2.old⟩
  rw [hfw]
  go_wp2_with ((with_reducible show wpList _ _ _ (⟨some 19, _, _, _, _, _⟩ :: _) _ _); refine wpList_loadC (by kernel_rfl) 25 (.tmp 2) rfl (w.heap.size) rfl 25 sv _ (hM2.get 0 rfl) Try.underlying25 rfl Hsz.out ?_)
  refine (hck hfw _ hM2.old).mono ?_
  rintro e w3 ⟨rfl, hb3⟩
  have hM3 := hM2.call hb3
  clear hM2 hb3 hck
  rw [chkE]
  by_cases hc : chkT ids ll = true
  rotate_left
  · rw [if_neg hc]
    go_wp2_with fail
    go_ret
    exact ⟨rfl, hM3.old⟩
  rw [if_pos hc]
  have Hc := Lib.hid hc
  have hpa := hpa hfw
  have hfi := hfi hfw
  have hsp := hsp hfw
  have Hfl := Lib.hid (few_len hfw)
  have Hsf := Lib.hid (fun (hi : isT ids id = true) k (hk : k < ll.length) => span_facts hc hi hk)
  clear hc hfe hfw
  go_wp2_with ((with_reducible show wpList _ _ _ (⟨some 25, _, _, _, _, _⟩ :: _) _ _); refine wpList_loadC (by kernel_rfl) 25 (.tmp 2) rfl (w.heap.size) rfl 25 sv _ (hM3.get 0 rfl) Try.underlying25 rfl Hsz.out ?_)
  refine (hpa _ hM3.old).mono ?_
  rintro e w4 ⟨hb4, hP4⟩
  have hM4 := hM3.call hb4
  have hfi := hfi _ hM4.old
  clear hM3 hb4 hpa
  by_cases hi : isT ids id = true
  rotate_left
  · have hif : isT ids id = false := by simpa using hi
    rw [hif] at hfi
    rcases hP4 with ⟨h, _⟩ | ⟨_, _, rfl⟩ | ⟨_, h, _⟩
    · rw [Hc.out] at h; cases h
    · clear hi hif
      go_wp2_with ((with_reducible show wpList _ _ _ (⟨some 31, _, _, _, _, _⟩ :: _) _ _); refine wpList_loadC (by kernel_rfl) 25 (.tmp 2) rfl (w.heap.size) rfl 25 sv _ (hM4.get 0 rfl) Try.underlying25 rfl Hsz.out ?_)
      refine hfi.mono ?_
      rintro e w5 ⟨rfl, hb5⟩
      have hw := (hM4.call hb5).old
      clear hfi
      go_wp2_with fail
      go_ret
      exact ⟨rfl, hw⟩
    · exact absurd h hi
  rcases hP4 with ⟨h, _⟩ | ⟨_, h, _⟩ | ⟨_, _, Ap, cp, rfl, hcp, hmp, hrp⟩
  · rw [Hc.out] at h; cases h
  · rw [hi] at h; cases h
  rw [hi] at hfi
  have Hsf := Lib.hid (Hsf.out hi)
  clear hi
  rw [Hnl.out] at hcp hrp ⊢
  generalize belT ids id = bt at *
  go_wp2_with ((with_reducible show wpList _ _ _ (⟨some 31, _, _, _, _, _⟩ :: _) _ _); refine wpList_loadC (by kernel_rfl) 25 (.tmp 2) rfl (w.heap.size) rfl 25 sv _ (hM4.get 0 rfl) Try.underlying25 rfl Hsz.out ?_)
  refine hfi.mono ?_
  rintro e w5 ⟨rfl, hb5⟩
  have hM5 := hM4.call hb5
  have hrp5 := d_rd hrp hb5
  have q1 := hsl _ _ (hM5.get 0 rfl)
  clear hfi hM4 hb5 hrp
  go_wp2_with fail
  clear q1
  have hf2 : nl ≤ 20 := by have := Hfl.out.2.2; rw [Hnl.out] at this; exact this
  go_loopw [59] (fun i wr => ∃ j : Nat, j ≤ nl ∧ i = .int .i64 (j : Int) ∧ Below w5.heap.size w5 wr ∧ Ms w wr [(w.heap.size, 25, sv)]) (fun i _ => nl - (intOf i).toNat)
  case atStart => exact ⟨0, by omega, rfl, Below.refl _ _, hM5⟩
  case round =>
    clear hM5
    obtain ⟨j, hj, rfl, hb, hM⟩ := hrel
    by_cases hlt : j < nl
    · have hjl : j < ll.length := by rw [Hnl.out]; exact hlt
      obtain ⟨g, x, y, s1, s2, s3, s4, s5, s6, s7, s8, s9, s10⟩ := Hsf.out j hjl
      obtain ⟨gp, op, rfl, hgp, hcellP⟩ := (hrp5.below hb).pos (by omega)
      have cp1 := hcellP j (iv (g : Int)) (by rw [List.getElem?_map, s1]; rfl)
      rw [iv_def] at cp1
      have hsj := hsp (j : Int) (by omega) (by omega) wr hM.old
      have Hok := Lib.hid (show spansOk ids ll (j : Int) from ⟨Hc.out, by omega, by rw [Hnl.out]; omega⟩)
      have Hlj := Lib.hid (Hfl.out.1 _ (List.getElem_mem hjl))
      obtain ⟨Aj, cj, hvj, hcj, hmj, hrj⟩ := hlv.get hjl
      rw [Hnl.out] at s10
      clear hcellP s1
      have j0 : (0 : Int) ≤ (j : Int) := by omega
      have j1 : (j : Int) < (nl : Int) := by omega
      go_wp2_with ((with_reducible show wpList _ _ _ (⟨some 65, _, _, _, _, _⟩ :: _) _ _); refine wpList_loadC (by kernel_rfl) 25 (.tmp 2) rfl (w.heap.size) rfl 25 sv _ (hM.get 0 rfl) Try.underlying25 rfl Hsz.out ?_)
      refine hsj.mono ?_
      rintro e w6 ⟨hb6, ⟨h, _⟩ | ⟨_, Af, nf, cf, rfl, hcf, hmf, hrf⟩⟩
      · exact absurd Hok.out h
      have hM6 := hM.call hb6
      have hb56 := hb.trans (hb6.mono hb.size)
      clear hM hb hsj hb6 cp1
      rw [Int.toNat_natCast] at hrf
      obtain rfl : ll[j].length + 1 = nf := by rw [← s2]; simpa using hrf.len
      obtain ⟨gf, of, rfl, hgf, hcf⟩ := hrf.pos (by omega)
      have d0 : w6.cell? ⟨gf, of, none⟩ = some (.int .i64 0) := hcf 0 (ivn 0) (by rw [List.getElem?_map, s4]; rfl)
      have d1 := hcf _ (ivn ids.length) (by rw [List.getElem?_map, s5]; rfl)
      have d2 := hcf _ (ivn x) (by rw [List.getElem?_map, s6]; rfl)
      have d3 := hcf _ (ivn y) (by rw [List.getElem?_map, s7]; rfl)
      rw [ivn_def] at d1 d2 d3
      rw [Hni.out] at d1
      obtain ⟨b, o, rfl, hbb, hcell⟩ := (hv.below hM6.old).pos (by omega)
      have c1 := hcell j _ hvj
      have q1 := hsl _ _ (hM6.get 0 rfl)
      have q0 := hsc _ _ (hM6.get 0 rfl)
      have hlj := Hlj.out
      clear hcell hvj hrj hcf s2 s4 s5 s6 s7 hrf Hlj
      generalize ll[j].length = u at *
      have n1 : ¬ (bt : Int) < (x : Int) := by omega
      have n2 : ¬ (y : Int) ≤ (bt : Int) := by omega
      have n3 : ¬ (u : Int) ≤ (g : Int) := by omega
      have n4 : (g : Int) < (u : Int) := by omega
      have n5 : IntKind.i64.wrap ((u : Int) + 1) = (u : Int) + 1 := IntWalk.i64_in _ (by omega)
      have n6 : IntKind.i64.wrap ((g : Int) + 1) = (g : Int) + 1 := IntWalk.i64_in _ (by omega)
      have n7 : IntKind.i64.wrap (u : Int) = (u : Int) := IntWalk.i64_in _ (by omega)
      have n8 : (u : Int) + 1 - 1 = (u : Int) := by omega
      have m1 : (u : Int) < (u : Int) + 1 := by omega
      have m2 : (0 : Int) ≤ (u : Int) := by omega
      have m3 : (g : Int) < (u : Int) + 1 := by omega
      have m4 : (0 : Int) ≤ (g : Int) := by omega
      have m5 : (g : Int) + 1 < (u : Int) + 1 := by omega
      have m6 : (0 : Int) ≤ (g : Int) + 1 := by omega
      have n9 : decide ((g : Int) < 0) = false := decide_eq_false (by omega)
      have n10 : decide (u ≤ g) = false := decide_eq_false (by omega)
      have n11 : decide (bt < x) = false := decide_eq_false (by omega)
      have n12 : decide (y ≤ bt) = false := decide_eq_false (by omega)
      go_wp2_with fail
      go_still (by kernel_rfl)
      change Exit.then _ _ Exit.normal _ w6.drew
      have hM7 := hM6.drew
      have hb57 := c_drew hb56
      clear hM6 hb56 n1 n2 n3 n4 n5 n6 n7 n8 n9 n10 n11 n12 m1 m2 m3 m4 m5 m6 d0 d1 d2 d3 q0 q1 c1
      generalize w6.drew = w7 at *
      have n5 : IntKind.i64.wrap ((nl : Int) - 1) = (nl : Int) - 1 := IntWalk.i64_in _ (by omega)
      by_cases hlast : j + 1 = nl
      · obtain rfl := s10 hlast
        subst hlast
        have n6 : ((j + 1 : Nat) : Int) - 1 = (j : Int) := by omega
        rw [n6] at n5
        go_wp2_with fail
        go_roundw
        case rel => exact ⟨j + 1, by omega, by go_num, hb57, hM7⟩
        case measure => simp [intOf]
      · have n6 : ¬ (j : Int) = (nl : Int) - 1 := by omega
        clear s10
        go_wp2_with fail
        go_roundw
        case rel => exact ⟨j + 1, by omega, by go_num, hb57, hM7⟩
        case measure => simp [intOf]; omega
    · obtain rfl : j = nl := by omega
      go_wp2_with fail
      go_ret
      exact ⟨rfl, hM.old⟩

end Go.Proofs.Ytjhcnhihmgpgbaa

/-
  A WORLD IN WHICH ONLY NUMBERS OF NEW BLOCKS CHANGED (for TreeDoes, which counts up in what Insert and Delete told).
-/
set_option linter.unusedVariables false
namespace Go.Proofs.Ytjhcnhihmgpgbaa
open Go.RowKit

def isI (v : Value) : Prop := ∃ x, v = .int .i64 x
/-- a block of cells of which no string shares a byte -/
def thawed (w : World) (b : Nat) : Prop := ∃ cs t, w.heap[b]? = some (.cells cs t (0, 0))
theorem thawed.free {w : World} {b : Nat} (h : thawed w b) (j : Nat) : w.frozen? ⟨b, j, none⟩ = false := by
  obtain ⟨cs, t, h⟩ := h
  exact frozen_of_row w b j _ t h
structure Mut (lo : Nat) (w0 w : World) : Prop where
  low : Below lo w0 w
  non : ∀ ad v, w0.cell? ad = some v → ¬ isI v → w.cell? ad = some v
  int : ∀ ad v, w0.cell? ad = some v → isI v → ∃ x, w.cell? ad = some (.int .i64 x)
  froz : ∀ b, thawed w0 b → thawed w b
theorem Mut.refl (lo : Nat) (w : World) : Mut lo w w := ⟨Below.refl _ _, fun _ _ h _ => h, fun _ _ h ⟨x, e⟩ => ⟨x, e ▸ h⟩, fun _ h => h⟩
theorem Mut.trans {lo : Nat} {a b c : World} (h : Mut lo a b) (h' : Mut lo b c) : Mut lo a c :=
  ⟨h.low.trans h'.low, fun ad v hv hn => h'.non ad v (h.non ad v hv hn) hn, fun ad v hv hi => by
    obtain ⟨x, hx⟩ := h.int ad v hv hi
    exact h'.int ad _ hx ⟨x, rfl⟩, fun b hb => h'.froz b (h.froz b hb)⟩
theorem Mut.of_below {lo : Nat} {w w' : World} (h : Below w.heap.size w w') (hl : lo ≤ w.heap.size) : Mut lo w w' := by
  have key : ∀ ad v, w.cell? ad = some v → w'.cell? ad = some v := fun ad v hv => by
    have hlt : ad.block < w.heap.size := by
      unfold World.cell? at hv
      rcases Nat.lt_or_ge ad.block w.heap.size with h | h
      · exact h
      · rw [Array.getElem?_eq_none h] at hv
        cases hv
    rw [World.cell?_of_block (h.block _ hlt), hv]
  refine ⟨h.mono hl, fun ad v hv _ => key ad v hv, fun ad v hv ⟨x, e⟩ => ⟨x, e ▸ key ad v hv⟩, fun b ⟨cs, t, hb⟩ => ⟨cs, t, ?_⟩⟩
  have hlt : b < w.heap.size := by
    rcases Nat.lt_or_ge b w.heap.size with h | h
    · exact h
    · rw [Array.getElem?_eq_none h] at hb
      cases hb
  rw [h.block _ hlt, hb]
theorem Mut.set {lo : Nat} {a w : World} (h : Mut lo a w) {p : Addr} {x : Int} (hc : w.cell? p = some (.int .i64 x)) (hl : lo ≤ p.block) (y : Int) : Mut lo a (w.setCell p (.int .i64 y)) := by
  refine h.trans ⟨(Below.refl _ _).setCell hl _, fun ad v hv hn => ?_, fun ad v hv hi => ?_, fun b ⟨cs, t, hb⟩ => ?_⟩
  · rw [World.cell?_setCell_other _ _ _ _ (fun e => hn ⟨x, by rw [← e, hc] at hv; injection hv with hv; exact hv.symm⟩), hv]
  · by_cases e : p = ad
    · subst e
      exact ⟨y, World.cell?_setCell_same _ _ _ hc⟩
    · obtain ⟨z, rfl⟩ := hi
      exact ⟨z, by rw [World.cell?_setCell_other _ _ _ _ e, hv]⟩
  · by_cases e : b = p.block
    · subst e
      unfold thawed World.setCell
      simp only [Array.getElem?_modify, hb]
      by_cases hs : p.spot.isSome = true
      · exact ⟨cs, t, by simp [hs]⟩
      · exact ⟨cs.setIfInBounds p.off (.int .i64 y), t, by simp [hs]⟩
    · exact ⟨cs, t, by rw [Below.heap_setCell w p _ b e, hb]⟩
/-- numbers that may be counted up -/
def IntsM (lo : Nat) (w : World) (A : Option Addr) (n : Nat) : Prop := ∀ j, j < n → ∃ b o, A = some ⟨b, o, none⟩ ∧ lo ≤ b ∧ thawed w b ∧ ∃ x, w.cell? ⟨b, o + j, none⟩ = some (.int .i64 x)
def LvsM (lo : Nat) (w : World) (A : Option Addr) (n : Nat) : Prop := ∀ j, j < n → ∃ b o A' m c, A = some ⟨b, o, none⟩ ∧ w.cell? ⟨b, o + j, none⟩ = some (.slice A' m c) ∧ m ≤ maxLen ∧ IntsM lo w A' m
theorem IntsM.mut {lo : Nat} {w w' : World} {A : Option Addr} {n : Nat} (h : IntsM lo w A n) (hm : Mut lo w w') : IntsM lo w' A n := fun j hj => by
  obtain ⟨b, o, e, hb, ht, x, hx⟩ := h j hj
  exact ⟨b, o, e, hb, hm.froz b ht, hm.int _ _ hx ⟨x, rfl⟩⟩
theorem LvsM.mut {lo : Nat} {w w' : World} {A : Option Addr} {n : Nat} (h : LvsM lo w A n) (hm : Mut lo w w') : LvsM lo w' A n := fun j hj => by
  obtain ⟨b, o, A', m, c, e, hc, hle, hi⟩ := h j hj
  exact ⟨b, o, A', m, c, e, hm.non _ _ hc (fun ⟨x, h⟩ => by cases h), hle, hi.mut hm⟩
/-- a tree's rows are such that no string shares a byte of them -/
def ThawS (w : World) (Ai Al : Option Addr) (nl : Nat) : Prop := (∀ ad, Ai = some ad → thawed w ad.block) ∧ ∀ b o j, Al = some ⟨b, o, none⟩ → j < nl → ∀ A m c, w.cell? ⟨b, o + j, none⟩ = some (.slice A m c) → ∀ ad, A = some ad → thawed w ad.block
theorem IntsM.of {lo : Nat} {w : World} {B : Nat} {A : Option Addr} {n : Nat} {l : List Int} (hr : Rd w B A n (l.map iv)) (hn : NewA lo A) (ht : ∀ ad, A = some ad → thawed w ad.block) : IntsM lo w A n := fun j hj => by
  obtain ⟨b, o, rfl, h2, h3⟩ := hr.pos (by omega)
  have hl : l.length = n := by simpa using hr.len
  exact ⟨b, o, rfl, hn _ rfl, ht _ rfl, l[j]'(by omega), h3 j _ (by rw [List.getElem?_map, List.getElem?_eq_getElem (by omega)]; rfl)⟩
theorem ShN.muts {lo : Nat} {w : World} {B : Nat} {Ai : Option Addr} {ni ci : Nat} {Al : Option Addr} {nl cl : Nat} {ids : List Int} {ll : List (List Int)} (h : ShN lo w B Ai ni ci Al nl cl ids ll) (ht : ThawS w Ai Al nl) : IntsM lo w Ai ni ∧ LvsM lo w Al nl := by
  refine ⟨IntsM.of h.sh.hids h.hi ht.1, fun j hj => ?_⟩
  obtain ⟨vs, h1, h2, h3⟩ := h.hv
  obtain ⟨b, o, rfl, hb, hc⟩ := h1.pos (by omega)
  have hjl : j < ll.length := by rw [h.sh.hnl]; exact hj
  obtain ⟨A, c, e, q1, q2, q3⟩ := h2.get hjl
  have hcell := hc j _ e
  exact ⟨b, o, A, _, c, rfl, hcell, by omega, IntsM.of q3 (h3 _ (List.mem_of_getElem? e) A _ c rfl) (ht.2 b o j rfl hj A _ c hcell)⟩

/-- a told tree's rows: no string shares a byte of them -/
def TellsThawed (e : Ending) (w' : World) : Prop := ∀ Ai ni ci Al nl cl er, e = .returned (.tuple #[.agg (shV Ai ni ci Al nl cl), er]) → ThawS w' Ai Al nl

end Go.Proofs.Ytjhcnhihmgpgbaa

