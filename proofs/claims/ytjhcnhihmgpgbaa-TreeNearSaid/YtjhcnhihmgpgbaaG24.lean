import Derived.Test.YtjhcnhihmgpgbaaG23
/-
  CONTRACT of the document's without (coterieref10).
-/
set_option linter.unusedVariables false
namespace Go.Proofs.Ytjhcnhihmgpgbaa
open Go.RowKit

theorem mendN_len {p : List Nd} {y : Nd} {s : List Nd} (h : 0 < p.length + s.length) : (mendN p y s).length = p.length + s.length ∨ (mendN p y s).length = p.length + s.length + 1 := by
  unfold mendN
  rcases hp : p.reverse with _ | ⟨o, p'⟩
  · have hp0 : p = [] := by simpa using hp
    subst hp0
    match s, h with
    | o :: s', _ =>
      simp only []
      split <;> simp
  · have hpl : p.length = p'.length + 1 := by rw [← List.length_reverse, hp]; rfl
    simp only []
    split <;> simp <;> omega
/-- what taking a member out of a node answers -/
def WithoutC (h : Nat) : Prop := ∀ (x : Nd) (v : Value) (id : Int) (gs : List Nat) (w : World), Nd.hi (h + 1) x → Cells gs w → NdV (vw gs w) w.heap.size x v →
  Calls Try.prog 40 #[.agg #[iv x.id, v], .int .i64 id] w fun e w' => Below w.heap.size w w' ∧ ∃ u, e = .returned (.agg #[.int .i64 0, u]) ∧ NdV (vw gs w') w'.heap.size (withoutN x id) u ∧ (withoutN x id).id = 0 ∧
    ((withoutN x id).kids.length = 1 ∨ (withoutN x id).kids.length = 2 ∨ (withoutN x id).kids.length = 3)
theorem nil_ofKids {L : List Nd} (h : L.length = 1 ∨ L.length = 2 ∨ L.length = 3) : (ofKids L).id = 0 ∧ ((ofKids L).kids.length = 1 ∨ (ofKids L).kids.length = 2 ∨ (ofKids L).kids.length = 3) := ⟨ofKids_id h, by rw [ofKids_kids h]; exact h⟩

theorem one_nd {v : Value} (h : v.oneCell' = true) : (#[Value.int .i64 0, v] : Array Value).all (·.oneCell') = true := by simp [h, show (Value.int IntKind.i64 0).oneCell' = true from rfl]
theorem hid1_setRow (w : World) (g : Nat) (cs : Array Value) : hid1 (w.setRow g cs) g = hid1 w g := by
  unfold hid1 World.setRow
  congr 1
  apply Array.ext_getElem?
  intro k
  simp only [Array.getElem?_modify]
  by_cases h : g = k
  · simp only [h, if_true]
    cases w.heap[k]? with
    | none => rfl
    | some o => cases o <;> rfl
  · simp [h]
theorem NdV.unbox {gs : List Nat} {w : World} {g B : Nat} {cs : Array Value} (hc : Cells (g :: gs) (w.setRow g cs)) {x : Nd} {v : Value} (h : NdV (vw (g :: gs) w) B x v) : NdV (vw gs (w.setRow g cs)) B x v := by
  have e : vw (g :: gs) (w.setRow g cs) = vw (g :: gs) w := by rw [vw, vw, hid1_setRow]
  rw [← e] at h
  exact NdV.keep (vw_less (l := [g]) hc) x v h
theorem Cells.setRow {gs : List Nat} {w : World} (h : Cells gs w) (g : Nat) (cs : Array Value) : Cells gs (w.setRow g cs) := by
  intro k hk
  obtain ⟨t, cs', hr⟩ := h k hk
  by_cases e : k = g
  · subst e
    exact ⟨t, cs, hr.row cs⟩
  · exact ⟨t, cs', hr.rowFar e cs⟩
/-- nodes of two parts that lie in an own row lie there -/
theorem SlN.two_own {gs : List Nat} {w : World} {base B C : Nat} {A : Option Addr} {n c : Nat} {F G : List Nd} {vs us : List Value} (ho : w.ownsRow base 56 2 (.slice A n c) n (flatV (F ++ G) (vs ++ us))) (hgs : ∀ k ∈ gs, k < base) (hF : NdL (vw gs w) B F vs) (hG : NdL (vw gs w) C G us) (hB : B ≤ w.heap.size) (hC : C ≤ w.heap.size) : SlN (vw gs w) w.heap.size A n c (F ++ G) := by
  have h := SlN.of_own (own_vw ho hgs) (by rw [vw_size]; exact (hF.more hB).app (hG.more hC))
  rw [vw_size] at h
  exact h

set_option maxRecDepth 100000 in
set_option maxHeartbeats 16000000 in
theorem without_step (h : Nat) (hh : h + 1 ≤ 100) (ih : ∀ k, h = k + 1 → WithoutC k) : WithoutC h := by
  intro x v id gs w hx hcl hv
  have hM := ((Ms.nil w).box 56 #[iv x.id, v]).box 56 #[.int .i64 0, .slice none 0 0]
  simp only [World.size_alloc] at hM
  obtain ⟨p, y, s, hk, hw, hp, hs⟩ := without_kids hx id
  obtain ⟨hx1, hx2, _, _⟩ := hi_succ hx
  obtain ⟨A, c, rfl, hsk⟩ := hv.kids
  obtain ⟨n, hn⟩ : ∃ n, n = x.kids.length := ⟨_, rfl⟩
  rw [← hn] at hsk hx1 hM ⊢
  have hnl : n = p.length + 1 + s.length := by rw [hn, hk]; simp; omega
  have hsk1 := hsk.keep (vw_keep (w' := (w.alloc (.cells #[iv x.id, .slice A n c] 56)).alloc (.cells #[.int .i64 0, .slice none 0 0] 56)) hcl (hcl.below hM.old) (fun _ _ _ hr => hr.below hM.old))
  obtain ⟨_, hnc, hcm, _⟩ := @_root_.id _ hsk
  rw [maxLen] at hcm
  have Hw := Lib.hid hw
  have Hnl := Lib.hid hnl
  have Hn := Lib.hid hn
  have Hk := Lib.hid hk
  clear hw hv
  have hn2 : (0 : Int) < (n : Int) := by omega
  have Hn4 := Lib.hid (show n = 2 ∨ n = 3 from hx1)
  have hn5 : n ≤ 3 := by omega
  have Hp := Lib.hid hp
  have Hs := Lib.hid hs
  have Hx2 := Lib.hid hx2
  have Hx := Lib.hid hx
  have k1 := (hM.get 1 rfl).cell (i := 1) (v := .slice A n c) rfl
  obtain ⟨xi, hxi⟩ : ∃ xi, xi = iv x.id := ⟨_, rfl⟩
  rw [← hxi] at hM hsk1 k1 ⊢
  clear hn hnl hk hx1 hp hs hx2 hx hxi
  go_enter Try.func40, Try.ntmps40
  go_wp2_with fail
  go_loopw [5, 13] (fun v5 v13 wz => ∃ (j a : Nat), j ≤ n ∧ v13 = .int .i64 (j : Int) ∧ v5 = .int .i64 (a : Int) ∧ a ≤ j - 1 ∧ (p.length < j → a = p.length) ∧ SlN (vw gs wz) w.heap.size A n c x.kids ∧
    Ms w wz [(w.heap.size + 1, 56, #[.int .i64 0, .slice none 0 0]), (w.heap.size, 56, #[xi, .slice A n c])]) (fun _ v13 _ => n - (intOf v13).toNat)
  case atStart => exact ⟨0, 0, by omega, rfl, rfl, by omega, by omega, hsk1, hM⟩
  case round =>
    clear hM hsk1
    obtain ⟨j, a, hj, rfl, rfl, haj, hap, hSv, hM⟩ := hrel
    have hb := hM.old
    have hcr := hcl.below hb
    have hS := hSv.keep (vw_un hcr)
    have hlt0 := (hM.get 0 rfl).lt
    by_cases hjn : j < n
    · have hjk : j < x.kids.length := by have := Hn.out; omega
      obtain ⟨b, o, u, rfl, hbb, hu, c1, c2⟩ := hS.range hjk
      have hzi := Hx2.out _ (List.getElem_mem hjk)
      have hone := hu.one2
      have hcmp : (p.length < j → ¬ (x.kids[j]).first ≤ id) ∧ (j = p.length → 0 < j → (x.kids[j]).first ≤ id) := by
        have hj2 : j < (p ++ y :: s).length := by rw [← Hk.out]; exact hjk
        have e : x.kids[j] = (p ++ y :: s)[j] := by simp only [Hk.out]
        rw [e]
        constructor
        · intro hpj
          rw [List.getElem_append_right (by omega)]
          obtain ⟨d, hd⟩ : ∃ d, j - p.length = d + 1 := ⟨j - p.length - 1, by omega⟩
          simp only [hd, List.getElem_cons_succ]
          have hds : d < s.length := by
            rw [List.length_append, List.length_cons] at hj2
            omega
          have := Hs.out s[d] (List.getElem_mem hds)
          omega
        · intro hpj h0
          subst hpj
          rw [List.getElem_append_right (Nat.le_refl _)]
          simp only [Nat.sub_self, List.getElem_cons_zero]
          exact Hp.out (fun e => by rw [e] at h0; simp at h0)
      have hul : NdV (wr.alloc (.cells (ndC x.kids[j] u) 56)) (wr.alloc (.cells (ndC x.kids[j] u) 56)).heap.size x.kids[j] u := (hu.alloc (by omega) _).more (by simp; omega)
      generalize x.kids[j] = q at *
      have hM1 := hM.allocT (.cells (ndC q u) 56)
      have hS1 := hSv.keep (vw_keep hcr (hcl.below hM1.old) (fun _ _ _ hr => hr.alloc (by omega) (.cells (ndC q u) 56)))
      have hfc := first_any h q u (wr.alloc (.cells (ndC q u) 56)) (by omega) hzi hul
      have hrow := RowC.new wr 56 (ndC q u)
      have hlow : ((w.heap.size : Nat)) ≤ (wr.alloc (.cells (ndC q u) 56)).heap.size := by simp; omega
      clear hu hul hzi hS
      go_wp2_with (first
        | ((with_reducible show wpList _ _ _ (⟨some 17, _, _, _, _, _⟩ :: _) _ _); refine wpList_load_midG (by kernel_rfl) 56 (.tmp 16) rfl b (o + j * 2) rfl [iv q.id, u] _ c1 Try.underlying56 rfl sizeNd ?_)
        | ((with_reducible show wpList _ _ _ (⟨none, Op.store 56 _ _, _, _, _, _⟩ :: _) _ _); refine wpList_store_row rfl 56 (.tmp 7) (.tmp 17) rfl wr.heap.size (ndC q u) rfl rfl 56 _ (RowC.new _ _ _) sizeNd rfl hone ?_; rw [World.setRow_alloc_new])
        | ((with_reducible show wpList _ _ _ (⟨some 18, _, _, _, _, _⟩ :: _) _ _); refine wpList_loadC (by kernel_rfl) 56 (.tmp 7) rfl wr.heap.size rfl 56 (ndC q u) _ hrow Try.underlying56 rfl sizeNd ?_))
      refine hfc.mono ?_
      rintro e w2 ⟨rfl, hb2⟩
      have hM2 := hM1.call hb2
      have hS2 := hS1.keep (vw_keep (hcl.below hM1.old) (hcl.below hM2.old) (fun _ _ _ hr => hr.below (hb2.mono hlow)))
      clear hfc hrow hM1 hS1 hM c1 c2 hSv
      by_cases hlt : q.first ≤ id
      · go_wp2_with fail
        go_roundw
        case rel => exact ⟨j + 1, j, by omega, by go_num, rfl, by omega, fun h1 => by
          rcases Nat.lt_or_ge p.length j with h2 | h2
          · have := hcmp.1 h2; omega
          · omega, hS2, hM2⟩
        case measure => simp [intOf]; omega
      · have hlt' : ¬ (q.first : Int) ≤ id := hlt
        go_wp2_with fail
        go_roundw
        case rel => exact ⟨j + 1, a, by omega, by go_num, rfl, by omega, fun h1 => by
          rcases Nat.lt_or_ge p.length j with h2 | h2
          · exact hap h2
          · have h3 : j = p.length := by omega
            rcases Nat.eq_zero_or_pos j with h0 | h0
            · omega
            · have := hcmp.2 h3 h0; omega, hS2, hM2⟩
        case measure => simp [intOf]; omega
    · obtain rfl : j = n := by omega
      have ha := hap (by have := Hnl.out; omega)
      subst ha
      have hpl : p.length < j := by have := Hnl.out; omega
      have hjk : p.length < x.kids.length := by have := Hn.out; omega
      have hkp : x.kids[p.length] = y := by simp only [Hk.out]; simp
      have k1 := (hM.get 1 rfl).cell (i := 1) (v := .slice A j c) rfl
      obtain ⟨b, o, u, rfl, hbb, hu, c1, c2⟩ := SlN.rangeV hcr hSv hjk
      rw [hkp] at hu c1
      obtain ⟨Ay, cy, rfl, hSy⟩ := hu.kids
      have hyi := Hx2.out y (by rw [Hk.out]; simp)
      have hy0 := hi_kids0 hyi
      have z1 : (p.length : Int) < (j : Int) := by omega
      have Hkl := Lib.hid (show x.kids.length = j from Hn.out.symm)
      have Hkp := Lib.hid hkp
      obtain ⟨m, hm⟩ : ∃ m, m = p.length := ⟨_, rfl⟩
      have Hm := Lib.hid hm
      rw [← hm] at hpl hjk z1 c2 ⊢
      clear hap haj hm hkp c1
      obtain ⟨ny, hny⟩ : ∃ ny, ny = y.kids.length := ⟨_, rfl⟩
      rw [← hny] at c2 hy0 hSy
      have Hny := Lib.hid hny
      clear hny
      by_cases h0 : ny = 0
      · have Htake := Lib.hid (show x.kids.take m = p by rw [Hk.out, Hm.out]; simp)
        have Hdrop := Lib.hid (show x.kids.drop (m + 1) = s by rw [Hk.out, Hm.out]; simp)
        obtain ⟨gs2, hgs2⟩ : ∃ gs2, gs2 = (w.heap.size + 1) :: gs := ⟨_, rfl⟩
        have hc2 : Cells gs2 wr := by
          rw [hgs2]
          intro k hk
          rcases List.mem_cons.1 hk with rfl | hk
          · exact ⟨_, _, hM.get 0 rfl⟩
          · exact hcr k hk
        have hSw := hSv.keep (vw_more (l := [w.heap.size + 1]) (gs := gs) (by rw [hgs2] at hc2; exact hc2) (B := w.heap.size) (B' := w.heap.size) (fun k hk => by simp at hk; omega) (Nat.le_refl _))
        rw [show [w.heap.size + 1] ++ gs = gs2 from hgs2.symm] at hSw
        have Hgs := Lib.hid hgs2
        clear hgs2 hSv
        by_cases hcc : c = m + 1
        · have hj0 : j - (m + 1) = 0 := by omega
          have hc0 : c - (m + 1) = 0 := by omega
          have hSp := hSw.take (k := m) (c' := c) (by omega) (by omega) (Nat.le_refl _)
          rw [Htake.out] at hSp
          obtain ⟨_, _, _, us1, hN1, hR1⟩ := hSp
          have hN1u := hN1.keep (vw_un hc2)
          have hR1u := vw_un hc2 _ _ _ hR1
          have q1 : (m : Int) ≤ (c : Int) := by omega
          have q0 : (0 : Int) ≤ (m : Int) := by omega
          have y0w : IntKind.i64.wrap ((m : Int) + 1) = (m : Int) + 1 := by rw [IntKind.wrap_i64]; omega
          have y1 : ((m : Int) + 1).toNat = m + 1 := by omega
          have y2 : (0 : Int) ≤ (m : Int) + 1 := by omega
          have y3 : (m : Int) + 1 ≤ (j : Int) := by omega
          have y4 : (j : Int) ≤ (c : Int) := by omega
          go_wp2_with (first
            | (at_builtin; refine wpList_append_nd (by kernel_rfl) (.const (.slice none 0 0)) (.tmp 35) rfl wr.heap.size none 0 0 [] [] rfl (World.ownsRow_nil _ _ _ _) w.heap.size (some ⟨b, o, none⟩) m (m + 1) p us1 rfl hN1u hR1u (by omega) (Nat.le_refl _) rfl ?_; intro A8 c8 w8 hown8 hgr8 _; rw [Nat.zero_add, List.nil_append, List.nil_append] at hown8; have hB8 : Below wr.heap.size wr w8 := (Below.refl _ _).grown hgr8 (Nat.le_refl _) (fun k hk => by simp [Value.ownBlock] at hk); have hM8 := hM.call hB8; have hc8 := hc2.below hB8; have hkp8 := vw_grown hc2 hc8 hgr8 (B := w.heap.size) (fun k hk => by simp [Value.ownBlock] at hk) (by omega); have hN8 := hN1.keep hkp8; have hS8 := hSw.keep hkp8; have k8 := (hM8.get 1 rfl).cell (i := 1) (v := .slice (some ⟨b, o, none⟩) j c) rfl; have hcut := hS8.cut (k := m + 1) (by omega); rw [if_pos hcc, hj0, hc0, Hdrop.out] at hcut; obtain ⟨_, _, _, us3, hN3, hR3⟩ := hcut; have hN3u := hN3.keep (vw_un hc8); have hR3u := vw_un hc8 _ _ _ hR3)
            | (at_builtin; refine wpList_append_nd (by kernel_rfl) (.tmp 37) (.tmp 42) rfl wr.heap.size A8 m c8 p us1 rfl hown8 w.heap.size (some ⟨b, o, none⟩) 0 0 s us3 rfl hN3u hR3u (by omega) hB8.size hN8.len ?_; intro A10 c10 w10 hown10 hgr10 _; have hs10 := hgr10.size; have hB10 := hB8.grown hgr10 hB8.size (own_blockT hown8); have hM10 := hM.call hB10; have hc10 := hc2.below hB10; have hs8 := hB8.size; have hkp10 := vw_grown hc8 hc10 hgr10 (B := w.heap.size) (fun k hk => .inr (by have := own_blockT hown8 k hk; omega)) (by omega); have hNa := hN8.keep hkp10; have hNb := hN3.keep hkp10; have hr10 := hM10.get 0 rfl; rw [Nat.add_zero] at hown10)
            | ((with_reducible show wpList _ _ _ (⟨none, Op.store 56 _ _, _, _, _, _⟩ :: _) _ _); refine wpList_store_row rfl 56 (.tmp 4) (.tmp 44) rfl (w.heap.size + 1) #[.int .i64 0, .slice A10 m c10] rfl rfl 56 _ hr10 sizeNd rfl (by simp [Value.oneCell']) ?_))
          have hS10 := SlN.two_own hown10 hc2.lt hNa hNb (by omega) (by omega)
          have hlen : (p ++ s).length = 1 ∨ (p ++ s).length = 2 ∨ (p ++ s).length = 3 := by have := Hnl.out; have := Hn4.out; rw [List.length_append]; omega
          have hnd := hS10.node (by have := hS10.1; omega)
          have hres := NdV.unbox (gs := gs) (g := w.heap.size + 1) (cs := #[.int .i64 0, .slice A10 m c10]) (by have h := hc10.setRow (w.heap.size + 1) #[.int .i64 0, .slice A10 m c10]; rw [Hgs.out] at h; exact h) (by have h := hnd; rw [Hgs.out] at h; exact h)
          exact bodyPost_ret (results_cell_one rfl _ _ (w.heap.size + 1) 56 #[.int .i64 0, .slice A10 m c10] _ rfl ((hM10.get 0 rfl).row _) Try.underlying56 rfl sizeNd) rfl ⟨below_setRow hM10.old (by omega) _, _, rfl, by rw [Hw.out, outN, if_pos (by rw [← Hny.out]; exact h0)]; simpa [World.setRow] using hres, by rw [Hw.out, outN, if_pos (by rw [← Hny.out]; exact h0)]; exact (nil_ofKids hlen).1, by rw [Hw.out, outN, if_pos (by rw [← Hny.out]; exact h0)]; exact (nil_ofKids hlen).2⟩
        · have hSp := hSw.take (k := m) (c' := c) (by omega) (by omega) (Nat.le_refl _)
          rw [Htake.out] at hSp
          obtain ⟨_, _, _, us1, hN1, hR1⟩ := hSp
          have hN1u := hN1.keep (vw_un hc2)
          have hR1u := vw_un hc2 _ _ _ hR1
          have q1 : (m : Int) ≤ (c : Int) := by omega
          have q0 : (0 : Int) ≤ (m : Int) := by omega
          have y0w : IntKind.i64.wrap ((m : Int) + 1) = (m : Int) + 1 := by rw [IntKind.wrap_i64]; omega
          have y1 : ((m : Int) + 1).toNat = m + 1 := by omega
          have y2 : (0 : Int) ≤ (m : Int) + 1 := by omega
          have y3 : (m : Int) + 1 ≤ (j : Int) := by omega
          have y4 : (j : Int) ≤ (c : Int) := by omega
          go_wp2_with (first
            | (at_builtin; refine wpList_append_nd (by kernel_rfl) (.const (.slice none 0 0)) (.tmp 35) rfl wr.heap.size none 0 0 [] [] rfl (World.ownsRow_nil _ _ _ _) w.heap.size (some ⟨b, o, none⟩) m c p us1 rfl hN1u hR1u (by omega) (Nat.le_refl _) rfl ?_; intro A8 c8 w8 hown8 hgr8 _; rw [Nat.zero_add, List.nil_append, List.nil_append] at hown8; have hB8 : Below wr.heap.size wr w8 := (Below.refl _ _).grown hgr8 (Nat.le_refl _) (fun k hk => by simp [Value.ownBlock] at hk); have hM8 := hM.call hB8; have hc8 := hc2.below hB8; have hkp8 := vw_grown hc2 hc8 hgr8 (B := w.heap.size) (fun k hk => by simp [Value.ownBlock] at hk) (by omega); have hN8 := hN1.keep hkp8; have hS8 := hSw.keep hkp8; have k8 := (hM8.get 1 rfl).cell (i := 1) (v := .slice (some ⟨b, o, none⟩) j c) rfl; have hcut := hS8.cut (k := m + 1) (by omega); rw [if_neg hcc, Hdrop.out] at hcut; obtain ⟨_, _, _, us3, hN3, hR3⟩ := hcut; have hN3u := hN3.keep (vw_un hc8); have hR3u := vw_un hc8 _ _ _ hR3)
            | (at_builtin; refine wpList_append_nd (by kernel_rfl) (.tmp 37) (.tmp 42) rfl wr.heap.size A8 m c8 p us1 rfl hown8 w.heap.size (some ((⟨b, o, none⟩ : Addr).add ((m + 1) * 2))) (j - (m + 1)) (c - (m + 1)) s us3 rfl hN3u hR3u (by omega) hB8.size hN8.len ?_; intro A10 c10 w10 hown10 hgr10 _; have hs10 := hgr10.size; have hB10 := hB8.grown hgr10 hB8.size (own_blockT hown8); have hM10 := hM.call hB10; have hc10 := hc2.below hB10; have hs8 := hB8.size; have hkp10 := vw_grown hc8 hc10 hgr10 (B := w.heap.size) (fun k hk => .inr (by have := own_blockT hown8 k hk; omega)) (by omega); have hNa := hN8.keep hkp10; have hNb := hN3.keep hkp10; have hr10 := hM10.get 0 rfl)
            | ((with_reducible show wpList _ _ _ (⟨none, Op.store 56 _ _, _, _, _, _⟩ :: _) _ _); refine wpList_store_row rfl 56 (.tmp 4) (.tmp 44) rfl (w.heap.size + 1) #[.int .i64 0, .slice A10 (m + (j - (m + 1))) c10] rfl rfl 56 _ hr10 sizeNd rfl (by simp [Value.oneCell']) ?_))
          have hS10 := SlN.two_own hown10 hc2.lt hNa hNb (by omega) (by omega)
          have hlen : (p ++ s).length = 1 ∨ (p ++ s).length = 2 ∨ (p ++ s).length = 3 := by have := Hnl.out; have := Hn4.out; rw [List.length_append]; omega
          have hnd := hS10.node (by have := hS10.1; omega)
          have hres := NdV.unbox (gs := gs) (g := w.heap.size + 1) (cs := #[.int .i64 0, .slice A10 (m + (j - (m + 1))) c10]) (by have h := hc10.setRow (w.heap.size + 1) #[.int .i64 0, .slice A10 (m + (j - (m + 1))) c10]; rw [Hgs.out] at h; exact h) (by have h := hnd; rw [Hgs.out] at h; exact h)
          exact bodyPost_ret (results_cell_one rfl _ _ (w.heap.size + 1) 56 #[.int .i64 0, .slice A10 (m + (j - (m + 1))) c10] _ rfl ((hM10.get 0 rfl).row _) Try.underlying56 rfl sizeNd) rfl ⟨below_setRow hM10.old (by omega) _, _, rfl, by rw [Hw.out, outN, if_pos (by rw [← Hny.out]; exact h0)]; simpa [World.setRow] using hres, by rw [Hw.out, outN, if_pos (by rw [← Hny.out]; exact h0)]; exact (nil_ofKids hlen).1, by rw [Hw.out, outN, if_pos (by rw [← Hny.out]; exact h0)]; exact (nil_ofKids hlen).2⟩
      · obtain ⟨gs2, hgs2⟩ : ∃ gs2, gs2 = (w.heap.size + 1) :: gs := ⟨_, rfl⟩
        have hc2 : Cells gs2 wr := by
          rw [hgs2]
          intro k hk
          rcases List.mem_cons.1 hk with rfl | hk
          · exact ⟨_, _, hM.get 0 rfl⟩
          · exact hcr k hk
        have hSw := hSv.keep (vw_more (l := [w.heap.size + 1]) (gs := gs) (by rw [hgs2] at hc2; exact hc2) (B := w.heap.size) (B' := w.heap.size) (fun k hk => by simp at hk; omega) (Nat.le_refl _))
        rw [show [w.heap.size + 1] ++ gs = gs2 from hgs2.symm] at hSw
        have Hgs := Lib.hid hgs2
        clear hgs2 hSv
        have hne : ¬ h = 0 := fun e => h0 (hy0.2 e)
        obtain ⟨k, hk⟩ : ∃ k, h = k + 1 := ⟨h - 1, by omega⟩
        have hik := ih k hk
        rw [hk] at hyi
        have Hyi := Lib.hid hyi
        have h0i : ¬ (ny : Int) = 0 := by omega
        have HK := Lib.hid (show ∀ Y : Nd, x.kids.set m Y = p ++ Y :: s from fun Y => by rw [Hk.out, Hm.out]; exact set_mid _ _ _ _)
        have Hkm := Lib.hid (show x.kids[m]? = some y by rw [Hk.out, Hm.out]; exact get_mid _ _ _)
        have Hoth := Lib.hid (show ∀ z ∈ p ++ s, z.kids.length = 2 ∨ z.kids.length = 3 from fun z hz => by
          have hzi := Hx2.out z (by rw [Hk.out]; rcases List.mem_append.1 hz with h | h <;> simp [h])
          rw [hk] at hzi
          exact (hi_succ hzi).1)
        have Hps := Lib.hid (show 0 < p.length + s.length by have := Hnl.out; have := Hn4.out; omega)
        clear hk hne hyi ih hy0 hSy hu
        obtain ⟨_, _, _, us, hN1, hR1⟩ := @_root_.id _ hSw
        have hN1u := hN1.keep (vw_un hc2)
        have hR1u := vw_un hc2 _ _ _ hR1
        go_upto_region 12 with (at_builtin; refine wpList_append_nd (by kernel_rfl) (.const (.slice none 0 0)) (.tmp 46) rfl wr.heap.size none 0 0 [] [] rfl (World.ownsRow_nil _ _ _ _) w.heap.size (some ⟨b, o, none⟩) j c x.kids us rfl hN1u hR1u (by omega) (Nat.le_refl _) rfl ?_; intro A9 c9 w9 hown9 hgr9 _; rw [Nat.zero_add, List.nil_append, List.nil_append] at hown9)
        try simp only [Act.put]
        have hB9 : Below wr.heap.size wr w9 := (Below.refl _ _).grown hgr9 (Nat.le_refl _) (fun k hk => by simp [Value.ownBlock] at hk)
        have hM9 := hM.call hB9
        have hc9 := hc2.below hB9
        have hc9l := hc9.own hown9
        have hkp9 := vw_grown hc2 hc9 hgr9 (B := w.heap.size) (fun k hk => by simp [Value.ownBlock] at hk) (by omega)
        obtain ⟨g, hA9, hgw, hKid⟩ := KidR.of_own hown9 Hkl.out (by omega) (NdL.keep (vw_more hc9l (B := wr.heap.size) (fun k hk => own_blockT hown9 k (by simpa using hk)) hB9.size) x.kids us ((hN1.keep hkp9).more (by omega)))
        subst hA9
        have hgl : w.heap.size + 1 < g := by omega
        refine wp_gen (fun wx => Below wr.heap.size wr wx ∧ KidR gs2 wr.heap.size wx g c9 x.kids ∧ Ms w wx [(w.heap.size + 1, 56, #[.int .i64 0, .slice none 0 0]), (w.heap.size, 56, #[xi, .slice (some ⟨b, o, none⟩) j c])]) ⟨hB9, hKid, hM9⟩ ?_
        clear hKid hkp9 hc9l hc9 hM9 hB9 hgr9 hown9 hR1u hN1u hR1 hN1 hSw hM k1 c2
        rintro w1 ⟨hB1, hKid, hM1⟩
        have hc1 := hc2.below hB1
        have hcg := hKid.hcl hc1
        obtain ⟨v1, hv1, r1, _⟩ := hKid.get (i := m) (by rw [Hkl.out]; omega)
        have hky : x.kids[m] = y := by have h := Hkm.out; rw [List.getElem?_eq_getElem hjk] at h; exact Option.some.inj h
        rw [hky] at hv1 r1
        clear hky
        have hcall := hik y v1 id (g :: gs2) w1 Hyi.out hcg hv1
        have z3 : (j : Int) ≤ (c9 : Int) := by have := hKid.row.1; have := Hkl.out; omega
        have z4 : (0 : Int) ≤ (m : Int) := by omega
        have Hmk := Lib.hid (show m < x.kids.length from hjk)
        clear hjk hv1
        go_wp2_with ((with_reducible show wpList _ _ _ (⟨some 53, _, _, _, _, _⟩ :: _) _ _); refine wpList_load_midG (by kernel_rfl) 56 (.tmp 52) rfl g (m * 2) rfl [iv y.id, v1] _ r1 Try.underlying56 rfl sizeNd ?_)
        refine hcall.mono ?_
        rintro e w2 ⟨hb2, u, rfl, hu2, hid2, hlen2⟩
        have hB2 := c_call hB1 hb2
        have hK2 := hKid.below hc1 hb2
        have hM2 := hM1.call hb2
        obtain ⟨Y, hY⟩ : ∃ Y, Y = withoutN y id := ⟨_, rfl⟩
        rw [← hY] at hu2 hid2 hlen2
        have HY := Lib.hid hY
        clear hY hcall hik hKid hM1 hB1 hc1 hcg r1
        have hthere := hK2.there Hmk.out
        have hK3 := hK2.set Hmk.out hu2
        rw [hid2, HK.out] at hK3
        have hu1 := hu2.cell1
        go_upto_region 13 with ((with_reducible show wpList _ _ _ (⟨none, Op.store 56 _ _, _, _, _, _⟩ :: _) _ _); refine wpList_store_mid rfl 56 (.tmp 56) (.tmp 55) rfl g (m * 2) #[.int .i64 0, u] rfl rfl hthere sizeNd (one_nd hu1) ?_)
        try simp only [Act.put]
        refine wp_gen (fun wx => Below wr.heap.size wr wx ∧ KidR gs2 wr.heap.size wx g c9 (p ++ Y :: s) ∧ Ms w wx [(w.heap.size + 1, 56, #[.int .i64 0, .slice none 0 0]), (w.heap.size, 56, #[xi, .slice (some ⟨b, o, none⟩) j c])]) ⟨below_setCells hgw _ _ _ hB2, hK3, ⟨below_setCells (by omega) _ _ _ hM2.old, fun q hq => RowC.of (hM2.rows q hq) (setCells_far g q.1 (by simp at hq; rcases hq with rfl | rfl <;> simp <;> omega) _ _ _)⟩⟩ ?_
        clear hK3 hthere hM2 hK2 hB2 hb2 hu2 hu1
        rintro w3 ⟨hB3, hKid, hM3⟩
        have hc3 := hc2.below hB3
        have hpl2 : (p ++ Y :: s).length = j := by have := Hnl.out; simp; omega
        obtain ⟨v3, hv3, _, k3⟩ := hKid.get (i := m) (by rw [hpl2]; omega)
        have hYm : (p ++ Y :: s)[m]'(by rw [hpl2]; omega) = Y := by simp only [Hm.out]; simp
        rw [hYm] at hv3
        obtain ⟨Av, cv, rfl, _⟩ := hv3.kids
        clear hv3 hYm
        have hSl := hKid.sl hc3 hc2.lt
        rw [hpl2] at hSl
        obtain ⟨nY, hnY⟩ : ∃ nY, nY = Y.kids.length := ⟨_, rfl⟩
        rw [← hnY] at k3 hlen2
        have HnY := Lib.hid hnY
        have Hlen2 := Lib.hid hlen2
        clear hnY hlen2
        by_cases h1 : nY = 1
        · have hcall := mend_any gs2 p Y s _ j c9 w3 hc3 hSl Hn4.out (by rw [← HnY.out]; exact h1) Hoth.out
          rw [← Hm.out] at hcall
          have hkl3 := hKid.row
          clear hKid
          go_wp2_with fail
          refine hcall.mono ?_
          rintro e w10 ⟨hb10, A10, n10, c10, rfl, hS10⟩
          have hM10 := hM3.call hb10
          have hc10 := hc3.below hb10
          have hr10 := hM10.get 0 rfl
          clear hcall hSl hM3
          have hlen : (mendN p Y s).length = 1 ∨ (mendN p Y s).length = 2 ∨ (mendN p Y s).length = 3 := by have := mendN_len (y := Y) Hps.out; have := Hnl.out; have := Hn4.out; omega
          have hnd := hS10.node (by have := hS10.1; omega)
          go_wp2_with ((with_reducible show wpList _ _ _ (⟨none, Op.store 56 _ _, _, _, _, _⟩ :: _) _ _); refine wpList_store_row rfl 56 (.tmp 4) (.tmp 68) rfl (w.heap.size + 1) #[.int .i64 0, .slice A10 n10 c10] rfl rfl 56 _ hr10 sizeNd rfl (by simp [Value.oneCell']) ?_)
          have hres := NdV.unbox (gs := gs) (g := w.heap.size + 1) (cs := #[.int .i64 0, .slice A10 n10 c10]) (by have h := hc10.setRow (w.heap.size + 1) #[.int .i64 0, .slice A10 n10 c10]; rw [Hgs.out] at h; exact h) (by have h := hnd; rw [Hgs.out] at h; exact h)
          exact bodyPost_ret (results_cell_one rfl _ _ (w.heap.size + 1) 56 #[.int .i64 0, .slice A10 n10 c10] _ rfl ((hM10.get 0 rfl).row _) Try.underlying56 rfl sizeNd) rfl ⟨below_setRow hM10.old (by omega) _, _, rfl, by rw [Hw.out, outN, if_neg (by rw [← Hny.out]; exact h0), ← HY.out, if_pos (by rw [← HnY.out]; exact h1)]; simpa [World.setRow] using hres, by rw [Hw.out, outN, if_neg (by rw [← Hny.out]; exact h0), ← HY.out, if_pos (by rw [← HnY.out]; exact h1)]; exact (nil_ofKids hlen).1, by rw [Hw.out, outN, if_neg (by rw [← Hny.out]; exact h0), ← HY.out, if_pos (by rw [← HnY.out]; exact h1)]; exact (nil_ofKids hlen).2⟩
        · have h1i : ¬ (nY : Int) = 1 := by omega
          have hr10 := hM3.get 0 rfl
          have hlen : (p ++ Y :: s).length = 1 ∨ (p ++ Y :: s).length = 2 ∨ (p ++ Y :: s).length = 3 := by have := Hn4.out; omega
          have hnd := hSl.node (by have := Hn4.out; omega)
          clear hKid
          go_wp2_with ((with_reducible show wpList _ _ _ (⟨none, Op.store 56 _ _, _, _, _, _⟩ :: _) _ _); refine wpList_store_row rfl 56 (.tmp 4) (.tmp 68) rfl (w.heap.size + 1) #[.int .i64 0, .slice (some ⟨g, 0, none⟩) j c9] rfl rfl 56 _ hr10 sizeNd rfl (by simp [Value.oneCell']) ?_)
          have hres := NdV.unbox (gs := gs) (g := w.heap.size + 1) (cs := #[.int .i64 0, .slice (some ⟨g, 0, none⟩) j c9]) (by have h := hc3.setRow (w.heap.size + 1) #[.int .i64 0, .slice (some ⟨g, 0, none⟩) j c9]; rw [Hgs.out] at h; exact h) (by have h := hnd; rw [Hgs.out] at h; exact h)
          exact bodyPost_ret (results_cell_one rfl _ _ (w.heap.size + 1) 56 #[.int .i64 0, .slice (some ⟨g, 0, none⟩) j c9] _ rfl ((hM3.get 0 rfl).row _) Try.underlying56 rfl sizeNd) rfl ⟨below_setRow hM3.old (by omega) _, _, rfl, by rw [Hw.out, outN, if_neg (by rw [← Hny.out]; exact h0), ← HY.out, if_neg (by rw [← HnY.out]; exact h1)]; simpa [World.setRow] using hres, by rw [Hw.out, outN, if_neg (by rw [← Hny.out]; exact h0), ← HY.out, if_neg (by rw [← HnY.out]; exact h1)]; exact (nil_ofKids hlen).1, by rw [Hw.out, outN, if_neg (by rw [← Hny.out]; exact h0), ← HY.out, if_neg (by rw [← HnY.out]; exact h1)]; exact (nil_ofKids hlen).2⟩
theorem without_any : ∀ h, h + 1 ≤ 100 → WithoutC h
  | 0, hh => without_step 0 hh (fun k hk => by omega)
  | h + 1, hh => without_step (h + 1) hh (fun k hk => by
    obtain rfl : h = k := by omega
    exact without_any h (by omega))
theorem with_any : ∀ h, h ≤ 100 → WithC h
  | 0, _ => with_zero
  | h + 1, hh => with_succ h hh (with_any h (by omega))

end Go.Proofs.Ytjhcnhihmgpgbaa

