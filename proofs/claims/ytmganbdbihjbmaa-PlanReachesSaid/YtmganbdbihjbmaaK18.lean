import Derived.Test.YtmganbdbihjbmaaK15
import Derived.Deep.DeepCutAuto
import Derived.Deep.MidRow
/-
  CONTRACT of the document's with (coterieref10).
-/
set_option linter.unusedVariables false
namespace Go.Proofs.Ytmganbdbihjbmaa
open Go.RowKit

/-- what putting a member into a node answers -/
def WithC (h : Nat) : Prop := ∀ (x : Nd) (v : Value) (id : Int) (gs : List Nat) (w : World), Nd.hi h x → Cells gs w → NdV (vw gs w) w.heap.size x v →
  Calls Try.prog 56 #[.agg #[iv x.id, v], .int .i64 id] w fun e w' => Below w.heap.size w w' ∧ ∃ A n c, e = .returned (.slice A n c) ∧ SlN (vw gs w') w'.heap.size A n c (withN x id)

set_option maxRecDepth 100000 in
set_option maxHeartbeats 8000000 in
theorem with_zero : WithC 0 := by
  intro x v id gs w hx hcl hv
  obtain ⟨i, rfl⟩ := hi_zero hx
  have hv0 : v = .slice none 0 0 := hv
  subst hv0
  rw [show iv (Nd.id (.leaf i)) = .int .i64 i from rfl]
  go_enter Try.func56, Try.ntmps56
  by_cases hi : id < i
  · go_wp2_with fail
    go_ret
    have hB := ((Below.refl w.heap.size w).alloc (Nat.le_refl _) (.cells #[.int .i64 i, .slice none 0 0] 85)).alloc (by simp) (.cells (if id < i then #[.int .i64 id, .slice none 0 0, .int .i64 i, .slice none 0 0] else #[.int .i64 i, .slice none 0 0, .int .i64 id, .slice none 0 0]) 85)
    rw [if_pos hi] at hB
    refine ⟨hB, _, 2, 2, rfl, ?_⟩
    rw [withN, if_pos hi]
    exact ⟨rfl, Nat.le_refl _, by simp [maxLen], [nilV, nilV], ⟨rfl, rfl, trivial⟩, vw_new (hcl.below hB) (lo := w.heap.size) (Rd.mk_ _ _ _ (by simp) (by simp) rfl rfl) (fun ad had => by injection had with had; subst had; simp) hcl.lt⟩
  · go_wp2_with fail
    go_ret
    have hB := ((Below.refl w.heap.size w).alloc (Nat.le_refl _) (.cells #[.int .i64 i, .slice none 0 0] 85)).alloc (by simp) (.cells (if id < i then #[.int .i64 id, .slice none 0 0, .int .i64 i, .slice none 0 0] else #[.int .i64 i, .slice none 0 0, .int .i64 id, .slice none 0 0]) 85)
    rw [if_neg (by omega)] at hB
    refine ⟨hB, _, 2, 2, rfl, ?_⟩
    rw [withN, if_neg (by omega)]
    exact ⟨rfl, Nat.le_refl _, by simp [maxLen], [nilV, nilV], ⟨rfl, rfl, trivial⟩, vw_new (hcl.below hB) (lo := w.heap.size) (Rd.mk_ _ _ _ (by simp) (by simp) rfl rfl) (fun ad had => by injection had with had; subst had; simp) hcl.lt⟩

theorem joinN_len (l m r : List Nd) : (joinN l m r).length = 1 ∨ (joinN l m r).length = 2 := by
  unfold joinN
  split
  · exact .inr rfl
  · exact .inl rfl
theorem withN_len (x : Nd) (id : Int) : (withN x id).length = 1 ∨ (withN x id).length = 2 := by
  cases x with
  | leaf i => rw [withN]; split <;> exact .inr rfl
  | one a => rw [withN]; exact joinN_len _ _ _
  | two a b => rw [withN]; split <;> exact joinN_len _ _ _
  | three a b c => rw [withN]; split; exact joinN_len _ _ _; split <;> exact joinN_len _ _ _

end Go.Proofs.Ytmganbdbihjbmaa

/-
  CONTRACT of the document's with (coterieref10), of a node that has some below.
-/
set_option linter.unusedVariables false
namespace Go.Proofs.Ytmganbdbihjbmaa
open Go.RowKit

theorem NdL.more {w : World} {B B' : Nat} {F : List Nd} {vs : List Value} (h : NdL w B F vs) (hb : B ≤ B') : NdL w B' F vs := NdL.keep (fun _ _ _ hr => hr.more hb) F vs h
theorem SlN.drewV {gs : List Nat} {w : World} {B : Nat} {A : Option Addr} {n c : Nat} {K : List Nd} (h : SlN (vw gs w) B A n c K) (hc : Cells gs w) : SlN (vw gs w.drew) B A n c K :=
  h.keep (vw_keep (w := w) (w' := w.drew) hc (fun g hg => hc g hg) (fun _ _ _ hr => hr.drew))
/-- two nodes, and one, of nodes that lie there, in a new row -/
theorem SlN.pair {gs : List Nat} {w w' : World} {A : Option Addr} {n c : Nat} {K : List Nd} (hcl : Cells gs w) (hS : SlN (vw gs w) w.heap.size A n c K) (hn : n = 4) {x y : Value} (hx : x = .slice A 2 2) (hy : y = .slice (if c = 2 then A else A.map (·.add (2 * 2))) 2 (c - 2))
    (hw : w' = w.alloc (.cells #[.int .i64 0, x, .int .i64 0, y] 85)) : SlN (vw gs w') w'.heap.size (some ⟨w.heap.size, 0, none⟩) 2 2 [ofKids (K.take 2), ofKids (K.drop 2)] := by
  subst hn hx hy hw
  have hB : Below w.heap.size w (w.alloc (.cells #[.int .i64 0, .slice A 2 2, .int .i64 0, .slice (if c = 2 then A else A.map (·.add (2 * 2))) 2 (c - 2)] 85)) := (Below.refl _ _).alloc (Nat.le_refl _) _
  have hc' := hcl.below hB
  have h1 := (hS.take (k := 2) (c' := 2) (by omega) (Nat.le_refl _) (by have := hS.2.1; omega)).keep (vw_keep hcl hc' (fun _ _ _ hr => hr.alloc (Nat.le_refl _) (.cells #[.int .i64 0, .slice A 2 2, .int .i64 0, .slice (if c = 2 then A else A.map (·.add (2 * 2))) 2 (c - 2)] 85)))
  have h2 := (hS.cut (k := 2) (by omega)).keep (vw_keep hcl hc' (fun _ _ _ hr => hr.alloc (Nat.le_refl _) (.cells #[.int .i64 0, .slice A 2 2, .int .i64 0, .slice (if c = 2 then A else A.map (·.add (2 * 2))) 2 (c - 2)] 85)))
  have i1 := ofKids_id (F := K.take 2) (by rw [h1.1]; omega)
  have i2 := ofKids_id (F := K.drop 2) (by rw [h2.1]; omega)
  have n1 := h1.node (by omega)
  have n2 := h2.node (by omega)
  have hsz : (w.alloc (.cells #[.int .i64 0, .slice A 2 2, .int .i64 0, .slice (if c = 2 then A else A.map (·.add (2 * 2))) 2 (c - 2)] 85)).heap.size = w.heap.size + 1 := by simp
  refine ⟨rfl, Nat.le_refl _, by simp [maxLen], [.slice A 2 2, .slice (if c = 2 then A else A.map (·.add (2 * 2))) 2 (c - 2)], ⟨n1.more (by omega), n2.more (by omega), trivial⟩, ?_⟩
  refine vw_new hc' (lo := w.heap.size) (Rd.mk_ _ _ _ rfl (by omega) rfl ?_) (fun ad had => by injection had with had; subst had; exact Nat.le_refl _) hcl.lt
  simp [flatV, i1, i2, iv]
theorem SlN.sole {gs : List Nat} {w w' : World} {A : Option Addr} {n c : Nat} {K : List Nd} (hcl : Cells gs w) (hS : SlN (vw gs w) w.heap.size A n c K) (hn : n = 1 ∨ n = 2 ∨ n = 3) (hw : w' = w.alloc (.cells #[.int .i64 0, .slice A n c] 85)) : SlN (vw gs w') w'.heap.size (some ⟨w.heap.size, 0, none⟩) 1 1 [ofKids K] := by
  subst hw
  have hB : Below w.heap.size w (w.alloc (.cells #[.int .i64 0, .slice A n c] 85)) := (Below.refl _ _).alloc (Nat.le_refl _) _
  have hc' := hcl.below hB
  have h1 := hS.keep (vw_keep hcl hc' (fun _ _ _ hr => hr.alloc (Nat.le_refl _) (.cells #[.int .i64 0, .slice A n c] 85)))
  have i1 := ofKids_id (F := K) (by rw [h1.1]; exact hn)
  have n1 := h1.node hn
  have hsz : (w.alloc (.cells #[.int .i64 0, .slice A n c] 85)).heap.size = w.heap.size + 1 := by simp
  refine ⟨rfl, Nat.le_refl _, by simp [maxLen], [.slice A n c], ⟨n1.more (by omega), trivial⟩, ?_⟩
  refine vw_new hc' (lo := w.heap.size) (Rd.mk_ _ _ _ rfl (by omega) rfl ?_) (fun ad had => by injection had with had; subst had; exact Nat.le_refl _) hcl.lt
  simp [flatV, i1, iv]

set_option maxRecDepth 100000 in
set_option maxHeartbeats 16000000 in
theorem with_succ (h : Nat) (hh : h + 1 ≤ 100) (ih : WithC h) : WithC (h + 1) := by
  intro x v id gs w hx hcl hv
  have hM := (Ms.nil w).box 85 #[iv x.id, v]
  obtain ⟨p, y, s, hk, hw, hp, hs⟩ := with_kids hx id
  obtain ⟨hx1, hx2, _, _⟩ := hi_succ hx
  obtain ⟨A, c, rfl, hsk⟩ := hv.kids
  obtain ⟨n, hn⟩ : ∃ n, n = x.kids.length := ⟨_, rfl⟩
  rw [← hn] at hsk hx1 hM ⊢
  have hnl : n = p.length + 1 + s.length := by rw [hn, hk]; simp; omega
  have hsk1 := hsk.keep (vw_keep hcl (hcl.below hM.old) (fun _ _ _ hr => hr.alloc (Nat.le_refl _) (.cells #[iv x.id, .slice A n c] 85)))
  obtain ⟨_, hnc, hcm, _⟩ := @_root_.id _ hsk
  rw [maxLen] at hcm
  have Hw := Lib.hid hw
  have Hnl := Lib.hid hnl
  have Hn := Lib.hid hn
  have Hk := Lib.hid hk
  clear hw hv
  have hn2 : (0 : Int) < (n : Int) := by omega
  have hn3 : ¬ (n : Int) = 0 := by omega
  have hn4 : n = 2 ∨ n = 3 := hx1
  have hn5 : n ≤ 3 := by omega
  have Hp := Lib.hid hp
  have Hs := Lib.hid hs
  have Hx2 := Lib.hid hx2
  have Hx := Lib.hid hx
  have k1 := (hM.get 0 rfl).cell (i := 1) (v := .slice A n c) rfl
  obtain ⟨xi, hxi⟩ : ∃ xi, xi = iv x.id := ⟨_, rfl⟩
  rw [← hxi] at hM hsk1 k1 ⊢
  clear hn hnl hk hx1 hn4 hp hs hx2 hx hxi
  go_enter Try.func56, Try.ntmps56
  go_wp2_with fail
  go_loopw [5, 28] (fun v5 v28 wz => ∃ (j a : Nat), j ≤ n ∧ v28 = .int .i64 (j : Int) ∧ v5 = .int .i64 (a : Int) ∧ a ≤ j - 1 ∧ (p.length < j → a = p.length) ∧ SlN (vw gs wz) w.heap.size A n c x.kids ∧
    Ms w wz [(w.heap.size, 85, #[xi, .slice A n c])]) (fun _ v28 _ => n - (intOf v28).toNat)
  case atStart => exact ⟨0, 0, by omega, rfl, rfl, by omega, by omega, hsk1, hM⟩
  case round =>
    clear hM hsk1
    obtain ⟨j, a, hj, rfl, rfl, haj, hap, hSv, hM⟩ := hrel
    have hb := hM.old
    have hcr := hcl.below hb
    have hS := hSv.keep (vw_un hcr)
    have hlt0 := (hM.get 0 rfl).lt
    by_cases hjn : j < n
    · have hjk : j < x.kids.length := by have := Hn.out; omega
      obtain ⟨b, o, u, rfl, hbb, hu, c1, c2⟩ := hS.range hjk
      have hzi := Hx2.out _ (List.getElem_mem hjk)
      have hone := hu.one2
      have hcmp : (p.length < j → ¬ (x.kids[j]).first < id) ∧ (j = p.length → 0 < j → (x.kids[j]).first < id) := by
        have hj2 : j < (p ++ y :: s).length := by rw [← Hk.out]; exact hjk
        have e : x.kids[j] = (p ++ y :: s)[j] := by simp only [Hk.out]
        rw [e]
        constructor
        · intro hpj
          rw [List.getElem_append_right (by omega)]
          obtain ⟨d, hd⟩ : ∃ d, j - p.length = d + 1 := ⟨j - p.length - 1, by omega⟩
          simp only [hd, List.getElem_cons_succ]
          have hds : d < s.length := by
            rw [List.length_append, List.length_cons] at hj2
            omega
          have := Hs.out s[d] (List.getElem_mem hds)
          omega
        · intro hpj h0
          subst hpj
          rw [List.getElem_append_right (Nat.le_refl _)]
          simp only [Nat.sub_self, List.getElem_cons_zero]
          exact Hp.out (fun e => by rw [e] at h0; simp at h0)
      have hul : NdV (wr.alloc (.cells (ndC x.kids[j] u) 85)) (wr.alloc (.cells (ndC x.kids[j] u) 85)).heap.size x.kids[j] u := (hu.alloc (by omega) _).more (by simp; omega)
      generalize x.kids[j] = q at *
      have hM1 := hM.allocT (.cells (ndC q u) 85)
      have hS1 := hSv.keep (vw_keep hcr (hcl.below hM1.old) (fun _ _ _ hr => hr.alloc (by omega) (.cells (ndC q u) 85)))
      have hfc := first_any h q u (wr.alloc (.cells (ndC q u) 85)) (by omega) hzi hul
      have hrow := RowC.new wr 85 (ndC q u)
      have hlow : ((w.heap.size : Nat)) ≤ (wr.alloc (.cells (ndC q u) 85)).heap.size := by simp; omega
      clear hu hul hzi hS
      go_wp2_with (first
        | ((with_reducible show wpList _ _ _ (⟨some 32, _, _, _, _, _⟩ :: _) _ _); refine wpList_load_midG (by kernel_rfl) 85 (.tmp 31) rfl b (o + j * 2) rfl [iv q.id, u] _ c1 Try.underlying85 rfl sizeNd ?_)
        | ((with_reducible show wpList _ _ _ (⟨none, Op.store 85 _ _, _, _, _, _⟩ :: _) _ _); refine wpList_store_row rfl 85 (.tmp 7) (.tmp 32) rfl wr.heap.size (ndC q u) rfl rfl 85 _ (RowC.new _ _ _) sizeNd rfl hone ?_; rw [World.setRow_alloc_new])
        | ((with_reducible show wpList _ _ _ (⟨some 33, _, _, _, _, _⟩ :: _) _ _); refine wpList_loadC (by kernel_rfl) 85 (.tmp 7) rfl wr.heap.size rfl 85 (ndC q u) _ hrow Try.underlying85 rfl sizeNd ?_))
      refine hfc.mono ?_
      rintro e w2 ⟨rfl, hb2⟩
      have hM2 := hM1.call hb2
      have hS2 := hS1.keep (vw_keep (hcl.below hM1.old) (hcl.below hM2.old) (fun _ _ _ hr => hr.below (hb2.mono hlow)))
      clear hfc hrow hM1 hS1 hM c1 c2 hSv
      by_cases hlt : q.first < id
      · go_wp2_with fail
        go_roundw
        case rel => exact ⟨j + 1, j, by omega, by go_num, rfl, by omega, fun h1 => by
          rcases Nat.lt_or_ge p.length j with h2 | h2
          · have := hcmp.1 h2; omega
          · omega, hS2, hM2⟩
        case measure => simp [intOf]; omega
      · go_wp2_with fail
        go_roundw
        case rel => exact ⟨j + 1, a, by omega, by go_num, rfl, by omega, fun h1 => by
          rcases Nat.lt_or_ge p.length j with h2 | h2
          · exact hap h2
          · have h3 : j = p.length := by omega
            rcases Nat.eq_zero_or_pos j with h0 | h0
            · omega
            · have := hcmp.2 h3 h0; omega, hS2, hM2⟩
        case measure => simp [intOf]; omega
    · obtain rfl : j = n := by omega
      have ha := hap (by have := Hnl.out; omega)
      subst ha
      have hpl : p.length < j := by have := Hnl.out; omega
      have hjk : p.length < x.kids.length := by have := Hn.out; omega
      have Htake := Lib.hid (show x.kids.take p.length = p by rw [Hk.out]; simp)
      have Hdrop := Lib.hid (show x.kids.drop (p.length + 1) = s by rw [Hk.out]; simp)
      have hkp : x.kids[p.length] = y := by simp only [Hk.out]; simp
      have k1 := (hM.get 0 rfl).cell (i := 1) (v := .slice A j c) rfl
      have hSp := hSv.take (k := p.length) (c' := c) (by omega) (by omega) (Nat.le_refl _)
      rw [Htake.out] at hSp
      obtain ⟨_, _, _, us1, hN1, hR1⟩ := hSp
      have hN1u := hN1.keep (vw_un hcr)
      have hR1u := vw_un hcr _ _ _ hR1
      have z1 : (p.length : Int) ≤ (c : Int) := by omega
      have z0 : (0 : Int) ≤ (p.length : Int) := by omega
      obtain ⟨b, o, u0, rfl, hbb, _, _, _⟩ := hS.range hjk
      have hyi := Hx2.out y (by rw [Hk.out]; simp)
      have z2 : (p.length : Int) < (j : Int) := by omega
      go_wp2_with (first
        | (at_builtin; refine wpList_append_nd (by kernel_rfl) (.const (.slice none 0 0)) (.tmp 42) rfl wr.heap.size none 0 0 [] [] rfl (World.ownsRow_nil _ _ _ _) w.heap.size (some ⟨b, o, none⟩) p.length c p us1 rfl hN1u hR1u (by omega) (Nat.le_refl _) rfl ?_; intro A8 c8 w8 hown8 hgr8 _; rw [Nat.zero_add, List.nil_append, List.nil_append] at hown8; have hM8 := hM.grownT hgr8 (fun k hk => by simp [Value.ownBlock] at hk) (fun p hp k hk => by simp [Value.ownBlock] at hk); have hc8 := hcl.below hM8.old; have hkp8 := vw_grown hcr hc8 hgr8 (B := w.heap.size) (fun k hk => by simp [Value.ownBlock] at hk) (by omega); have hS8 := hSv.keep hkp8; have hN8 := hN1.keep hkp8; have hs8 := hgr8.size; have k8 := (hM8.get 0 rfl).cell (i := 1) (v := .slice (some ⟨b, o, none⟩) j c) rfl; obtain ⟨b', o', u', hAe, _, hu', c1, c2⟩ := SlN.rangeV hc8 hS8 hjk; injection hAe with hAe; injection hAe with e1 e2; subst e1 e2; rw [hkp] at c1 hu'; have hc8l := hc8.own hown8; have hcall := ih y u' id ((Value.slice A8 p.length c8).ownBlock.toList ++ gs) w8 hyi hc8l (NdV.keep (vw_more hc8l (B := w.heap.size) (fun k hk => by have := own_blockT hown8 k (by simpa using hk); omega) (by omega)) y u' hu'))
        | ((with_reducible show wpList _ _ _ (⟨some 49, _, _, _, _, _⟩ :: _) _ _); refine wpList_load_midG (by kernel_rfl) 85 (.tmp 48) rfl b (o + p.length * 2) rfl [iv y.id, u'] _ c1 Try.underlying85 rfl sizeNd ?_))
      refine hcall.mono ?_
      rintro e w9 ⟨hb9, A9, n9, c9, rfl, hS9⟩
      have hown9 := own_below hown8 hb9
      have hM9 := hM8.call hb9
      have hc9 := hc8.below hb9
      have hc9l := hc8l.below hb9
      have hs9 := hb9.size
      have hkp9 := vw_keep hc8 hc9 (B := w.heap.size) (fun _ _ _ hr => hr.below (hb9.mono (by omega)))
      have hS9x := hS8.keep hkp9
      have hN9 := hN8.keep hkp9
      obtain ⟨h9l, h9c, h9m, us2, hN2, hR2⟩ := hS9
      have hwl := withN_len y id
      rw [h9l] at hwl
      have hN2u := hN2.keep (vw_un hc9l)
      have hR2u := vw_un hc9l _ _ _ hR2
      have k9 := (hM9.get 0 rfl).cell (i := 1) (v := .slice (some ⟨b, o, none⟩) j c) rfl
      have y0 : IntKind.i64.wrap ((p.length : Int) + 1) = (p.length : Int) + 1 := by rw [IntKind.wrap_i64]; omega
      have y1 : ((p.length : Int) + 1).toNat = p.length + 1 := by omega
      have y2 : (0 : Int) ≤ (p.length : Int) + 1 := by omega
      have y3 : (p.length : Int) + 1 ≤ (j : Int) := by omega
      have y4 : (j : Int) ≤ (c : Int) := by omega
      by_cases hcc : c = p.length + 1
      · have hj0 : j - (p.length + 1) = 0 := by omega
        have hc0 : c - (p.length + 1) = 0 := by omega
        go_upto_region 15 with (first
          | (at_builtin; refine wpList_append_nd (by kernel_rfl) (.tmp 44) (.tmp 51) rfl wr.heap.size A8 p.length c8 p us1 rfl hown9 w9.heap.size A9 n9 c9 (withN y id) us2 rfl hN2u hR2u (by omega) (by omega) hN9.len ?_; intro A10 c10 w10 hown10 hgr10 hat10; have hs10 := hgr10.size; have hb8 : ∀ g, (Value.slice A8 p.length c8).ownBlock = some g → wr.heap.size ≤ g := own_blockT hown9; have hM10 := hM9.grownT hgr10 (fun k hk => by have := hb8 k hk; omega) (fun p hp k hk => by have := hb8 k hk; simp at hp; subst hp; simp; omega); have hc10 := hcl.below hM10.old; have hc10l := hc10.own hown10; have hkp10 := vw_grown hc9 hc10 hgr10 (B := w.heap.size) (fun k hk => .inr (by have := hb8 k hk; omega)) (by omega); have hN10 := hN9.keep hkp10; have hSx10 := hS9x.keep hkp10; have hN2a := hN2.keep (vw_step hc9l hc10 hc10l hgr10 hat10 (Nat.le_refl _)); have k10 := (hM10.get 0 rfl).cell (i := 1) (v := .slice (some ⟨b, o, none⟩) j c) rfl; have hcut := hSx10.cut (k := p.length + 1) (by omega); rw [if_pos hcc, hj0, hc0, Hdrop.out] at hcut; obtain ⟨h3l, _, _, us3, hN3, hR3⟩ := hcut; have hN3u := hN3.keep (vw_un hc10); have hR3u := vw_un hc10 _ _ _ hR3)
          | (at_builtin; refine wpList_append_nd (by kernel_rfl) (.tmp 53) (.tmp 58) rfl wr.heap.size A10 (p.length + n9) c10 (p ++ withN y id) (us1 ++ us2) rfl hown10 w.heap.size (some ⟨b, o, none⟩) 0 0 s us3 rfl hN3u hR3u (by omega) (by omega) (by rw [List.length_append, List.length_append, hN10.len, hN2.len]) ?_; intro A11 c11 w11 hown11 hgr11 hat11; have hs11 := hgr11.size; have hb10 : ∀ g, (Value.slice A10 (p.length + n9) c10).ownBlock = some g → wr.heap.size ≤ g := own_blockT hown10; have hM11 := hM10.grownT hgr11 (fun k hk => by have := hb10 k hk; omega) (fun p hp k hk => by have := hb10 k hk; simp at hp; subst hp; simp; omega); have hc11 := hcl.below hM11.old; have hc11l := hc11.own hown11; have hkp11 := vw_grown hc10 hc11 hgr11 (B := w.heap.size) (fun k hk => .inr (by have := hb10 k hk; omega)) (by omega); have hNa := hN10.keep hkp11; have hNc := hN3.keep hkp11; have hNb := (hN2a.keep (vw_step hc10l hc11 hc11l hgr11 hat11 (by omega))).keep (vw_less hc11l); rw [Nat.add_zero] at hown11))
        have hNall : NdL (vw gs w11) w11.heap.size (p ++ withN y id ++ s) (us1 ++ us2 ++ us3) := ((hNa.more (by omega)).app (hNb.more (by omega))).app (hNc.more (by omega))
        have hS11 := SlN.of_own (own_vw hown11 hcr.lt) (by rw [vw_size]; exact hNall)
        rw [vw_size] at hS11
        obtain ⟨N, hN⟩ : ∃ N, N = p.length + n9 := ⟨_, rfl⟩
        rw [← hN] at hS11 ⊢
        have hN1 : 1 ≤ N := by omega
        have hN4 : N ≤ 4 := by have := Hnl.out; omega
        refine wp_gen (fun wx => Below w.heap.size w wx ∧ SlN (vw gs wx) wx.heap.size A11 N c11 (p ++ withN y id ++ s)) ⟨hM11.old, hS11⟩ ?_
        clear hN hM11 hS11 hNall hNa hNb hNc hkp11 hc11 hc11l hb10 hs11 hat11 hgr11 hown11 hR3u hN3u hR3 hN3 hN2a hSx10 hN10 hkp10 hc10l hc10 hM10 hb8 hs10 hat10 hgr10 hown10 k10
        clear hR2u hN2u hN2 hR2 hS9x hN9 hkp9 hc9l hc9 hM9 hown9 hb9 hs9 k9 y0 y1 y2 y3 y4 hcc
        rintro w12 ⟨hB12, hS12⟩
        have hc12 := hcl.below hB12
        generalize hK : p ++ withN y id ++ s = K at hS12
        have hKl := hS12.1
        have Hj := Lib.hid (show withN x id = if N = 4 then [ofKids (K.take 2), ofKids (K.drop 2)] else [ofKids K] by rw [Hw.out, joinN, hK, hKl])
        clear hK hKl
        obtain ⟨b3, o3, hA3⟩ : ∃ b3 o3, A11 = some ⟨b3, o3, none⟩ := by
          obtain ⟨_, _, _, us, _, hR⟩ := hS12
          obtain ⟨b3, o3, e, _⟩ := hR.pos (by omega)
          exact ⟨b3, o3, e⟩
        subst hA3
        have hNc := hS12.2.1
        by_cases h4 : N = 4
        · have Hj2 := Lib.hid (Hj.out.trans (if_pos h4))
          have h4i : (N : Int) = 4 := by omega
          have g1 : (2 : Int) ≤ (c11 : Int) := by omega
          have g2 : (2 : Int) ≤ (N : Int) := by omega
          have g3 : (N : Int) ≤ (c11 : Int) := by omega
          have g4 : ¬ c11 = 2 := by omega
          have g5 : N - 2 = 2 := by omega
          have hpr := SlN.pair hc12 hS12 h4 rfl (y := .slice (some ⟨b3, o3 + 4, none⟩) 2 (c11 - 2)) (by rw [if_neg g4]; rfl) rfl
          have hpr2 := hpr.drewV (hcl.below (hB12.alloc hB12.size _))
          go_wp2_with fail
          go_region
          all_goals (go_wp2_with fail)
          go_ret
          exact ⟨(hB12.alloc hB12.size _).drew, _, _, _, rfl, by rw [Hj2.out]; exact hpr2⟩
        · have Hj2 := Lib.hid (Hj.out.trans (if_neg h4))
          have h4i : ¬ (N : Int) = 4 := by omega
          have hsl := SlN.sole hc12 hS12 (by omega) rfl
          go_wp2_with fail
          go_ret
          exact ⟨hB12.alloc hB12.size _, _, _, _, rfl, by rw [Hj2.out]; exact hsl⟩
      · go_upto_region 15 with (first
          | (at_builtin; refine wpList_append_nd (by kernel_rfl) (.tmp 44) (.tmp 51) rfl wr.heap.size A8 p.length c8 p us1 rfl hown9 w9.heap.size A9 n9 c9 (withN y id) us2 rfl hN2u hR2u (by omega) (by omega) hN9.len ?_; intro A10 c10 w10 hown10 hgr10 hat10; have hs10 := hgr10.size; have hb8 : ∀ g, (Value.slice A8 p.length c8).ownBlock = some g → wr.heap.size ≤ g := own_blockT hown9; have hM10 := hM9.grownT hgr10 (fun k hk => by have := hb8 k hk; omega) (fun p hp k hk => by have := hb8 k hk; simp at hp; subst hp; simp; omega); have hc10 := hcl.below hM10.old; have hc10l := hc10.own hown10; have hkp10 := vw_grown hc9 hc10 hgr10 (B := w.heap.size) (fun k hk => .inr (by have := hb8 k hk; omega)) (by omega); have hN10 := hN9.keep hkp10; have hSx10 := hS9x.keep hkp10; have hN2a := hN2.keep (vw_step hc9l hc10 hc10l hgr10 hat10 (Nat.le_refl _)); have k10 := (hM10.get 0 rfl).cell (i := 1) (v := .slice (some ⟨b, o, none⟩) j c) rfl; have hcut := hSx10.cut (k := p.length + 1) (by omega); rw [if_neg hcc, Hdrop.out] at hcut; obtain ⟨h3l, _, _, us3, hN3, hR3⟩ := hcut; have hN3u := hN3.keep (vw_un hc10); have hR3u := vw_un hc10 _ _ _ hR3)
          | (at_builtin; refine wpList_append_nd (by kernel_rfl) (.tmp 53) (.tmp 58) rfl wr.heap.size A10 (p.length + n9) c10 (p ++ withN y id) (us1 ++ us2) rfl hown10 w.heap.size (some ((⟨b, o, none⟩ : Addr).add ((p.length + 1) * 2))) (j - (p.length + 1)) (c - (p.length + 1)) s us3 rfl hN3u hR3u (by omega) (by omega) (by rw [List.length_append, List.length_append, hN10.len, hN2.len]) ?_; intro A11 c11 w11 hown11 hgr11 hat11; have hs11 := hgr11.size; have hb10 : ∀ g, (Value.slice A10 (p.length + n9) c10).ownBlock = some g → wr.heap.size ≤ g := own_blockT hown10; have hM11 := hM10.grownT hgr11 (fun k hk => by have := hb10 k hk; omega) (fun p hp k hk => by have := hb10 k hk; simp at hp; subst hp; simp; omega); have hc11 := hcl.below hM11.old; have hc11l := hc11.own hown11; have hkp11 := vw_grown hc10 hc11 hgr11 (B := w.heap.size) (fun k hk => .inr (by have := hb10 k hk; omega)) (by omega); have hNa := hN10.keep hkp11; have hNc := hN3.keep hkp11; have hNb := (hN2a.keep (vw_step hc10l hc11 hc11l hgr11 hat11 (by omega))).keep (vw_less hc11l)))
        have hNall : NdL (vw gs w11) w11.heap.size (p ++ withN y id ++ s) (us1 ++ us2 ++ us3) := ((hNa.more (by omega)).app (hNb.more (by omega))).app (hNc.more (by omega))
        have hS11 := SlN.of_own (own_vw hown11 hcr.lt) (by rw [vw_size]; exact hNall)
        rw [vw_size] at hS11
        obtain ⟨N, hN⟩ : ∃ N, N = p.length + n9 + (j - (p.length + 1)) := ⟨_, rfl⟩
        rw [← hN] at hS11 ⊢
        have hN1 : 1 ≤ N := by omega
        have hN4 : N ≤ 4 := by have := Hnl.out; omega
        refine wp_gen (fun wx => Below w.heap.size w wx ∧ SlN (vw gs wx) wx.heap.size A11 N c11 (p ++ withN y id ++ s)) ⟨hM11.old, hS11⟩ ?_
        clear hN hM11 hS11 hNall hNa hNb hNc hkp11 hc11 hc11l hb10 hs11 hat11 hgr11 hown11 hR3u hN3u hR3 hN3 hN2a hSx10 hN10 hkp10 hc10l hc10 hM10 hb8 hs10 hat10 hgr10 hown10 k10
        clear hR2u hN2u hN2 hR2 hS9x hN9 hkp9 hc9l hc9 hM9 hown9 hb9 hs9 k9 y0 y1 y2 y3 y4 hcc
        rintro w12 ⟨hB12, hS12⟩
        have hc12 := hcl.below hB12
        generalize hK : p ++ withN y id ++ s = K at hS12
        have hKl := hS12.1
        have Hj := Lib.hid (show withN x id = if N = 4 then [ofKids (K.take 2), ofKids (K.drop 2)] else [ofKids K] by rw [Hw.out, joinN, hK, hKl])
        clear hK hKl
        obtain ⟨b3, o3, hA3⟩ : ∃ b3 o3, A11 = some ⟨b3, o3, none⟩ := by
          obtain ⟨_, _, _, us, _, hR⟩ := hS12
          obtain ⟨b3, o3, e, _⟩ := hR.pos (by omega)
          exact ⟨b3, o3, e⟩
        subst hA3
        have hNc := hS12.2.1
        by_cases h4 : N = 4
        · have Hj2 := Lib.hid (Hj.out.trans (if_pos h4))
          have h4i : (N : Int) = 4 := by omega
          have g1 : (2 : Int) ≤ (c11 : Int) := by omega
          have g2 : (2 : Int) ≤ (N : Int) := by omega
          have g3 : (N : Int) ≤ (c11 : Int) := by omega
          have g4 : ¬ c11 = 2 := by omega
          have g5 : N - 2 = 2 := by omega
          have hpr := SlN.pair hc12 hS12 h4 rfl (y := .slice (some ⟨b3, o3 + 4, none⟩) 2 (c11 - 2)) (by rw [if_neg g4]; rfl) rfl
          have hpr2 := hpr.drewV (hcl.below (hB12.alloc hB12.size _))
          go_wp2_with fail
          go_region
          all_goals (go_wp2_with fail)
          go_ret
          exact ⟨(hB12.alloc hB12.size _).drew, _, _, _, rfl, by rw [Hj2.out]; exact hpr2⟩
        · have Hj2 := Lib.hid (Hj.out.trans (if_neg h4))
          have h4i : ¬ (N : Int) = 4 := by omega
          have hsl := SlN.sole hc12 hS12 (by omega) rfl
          go_wp2_with fail
          go_ret
          exact ⟨hB12.alloc hB12.size _, _, _, _, rfl, by rw [Hj2.out]; exact hsl⟩

end Go.Proofs.Ytmganbdbihjbmaa

/-
  AN OWN ROW OF NODES: what it reads, a node stored into it.
-/
set_option linter.unusedVariables false
namespace Go.Proofs.Ytmganbdbihjbmaa
open Go.RowKit

theorem hid1_setCells (g : Nat) : ∀ (vs : List Value) (o : Nat) (w : World), hid1 (w.setCells g o vs) g = hid1 w g
  | [], _, _ => rfl
  | v :: r, o, w => by rw [World.setCells, hid1_setCells g r, hid1_setCell]
theorem vw_setCells (g : Nat) (gs : List Nat) (vs : List Value) (o : Nat) (w : World) : vw (g :: gs) (w.setCells g o vs) = vw (g :: gs) w := by rw [vw, vw, hid1_setCells]
theorem size_setCellsT (g : Nat) : ∀ (vs : List Value) (o : Nat) (w : World), (w.setCells g o vs).heap.size = w.heap.size
  | [], _, _ => rfl
  | v :: r, o, w => by rw [World.setCells, size_setCellsT g r]; simp
theorem flatV_set : ∀ {F : List Nd} {vs : List Value} (i : Nat) (x : Nd) (v : Value), vs.length = F.length → i < F.length → ((flatV F vs).set (i * 2) (iv x.id)).set (i * 2 + 1) v = flatV (F.set i x) (vs.set i v)
  | [], _, i, _, _, _, hi => by simp at hi
  | y :: F, u :: vs, 0, x, v, _, _ => by simp [flatV]
  | y :: F, u :: vs, i + 1, x, v, h, hi => by
    rw [flatV, List.set_cons_succ, List.set_cons_succ, flatV, ← flatV_set i x v (by simpa using h) (by simpa using hi), show (i + 1) * 2 = i * 2 + 1 + 1 by omega, List.set_cons_succ, List.set_cons_succ, List.set_cons_succ, List.set_cons_succ]
theorem NdL.set {w : World} {B : Nat} : ∀ {F : List Nd} {vs : List Value} (i : Nat) {x : Nd} {v : Value}, NdL w B F vs → NdV w B x v → NdL w B (F.set i x) (vs.set i v)
  | [], [], _, _, _, h, _ => h
  | y :: F, u :: vs, 0, _, _, ⟨_, h2⟩, hx => ⟨hx, h2⟩
  | y :: F, u :: vs, i + 1, _, _, ⟨h1, h2⟩, hx => ⟨h1, NdL.set i h2 hx⟩

/-- an own row of nodes, in which no node lies -/
def KidR (gs : List Nat) (base : Nat) (w : World) (g c : Nat) (K : List Nd) : Prop :=
  ∃ vs, w.ownsRow base 85 2 (.slice (some ⟨g, 0, none⟩) K.length c) K.length (flatV K vs) ∧ NdL (vw (g :: gs) w) w.heap.size K vs

theorem KidR.row {gs : List Nat} {base : Nat} {w : World} {g c : Nat} {K : List Nd} (h : KidR gs base w g c K) : K.length ≤ c ∧ c ≤ maxLen ∧ base ≤ g ∧ ∃ cur, RowC w g 85 cur ∧ cur.size = c * 2 := by
  obtain ⟨vs, ho, _⟩ := h
  rcases ho.2 with ⟨h1, _⟩ | ⟨g', cap, cur, h1, h2, h3, h4, h5, h6, _⟩
  · cases h1
  · injection h1 with e1 e2 e3
    injection e1 with e1
    injection e1 with e1
    subst e1 e3
    exact ⟨h4, h5, h2, cur, h3, h6⟩
theorem KidR.hcl {gs : List Nat} {base : Nat} {w : World} {g c : Nat} {K : List Nd} (h : KidR gs base w g c K) (hc : Cells gs w) : Cells (g :: gs) w := by
  obtain ⟨_, _, _, cur, hr, _⟩ := h.row
  intro k hk
  rcases List.mem_cons.1 hk with rfl | hk
  · exact ⟨_, _, hr⟩
  · exact hc k hk
theorem KidR.read {gs : List Nat} {base : Nat} {w : World} {g c : Nat} {K : List Nd} (h : KidR gs base w g c K) : ∃ vs, NdL (vw (g :: gs) w) w.heap.size K vs ∧ w.rangeAt g 0 (flatV K vs) := by
  obtain ⟨vs, ho, hN⟩ := h
  refine ⟨vs, hN, ?_⟩
  rcases ho.2 with ⟨h1, _⟩ | ⟨g', cap, cur, h1, h2, h3, h4, h5, h6, h7⟩
  · cases h1
  · injection h1 with e1 e2 e3
    injection e1 with e1
    injection e1 with e1
    subst e1
    intro j u hu
    rw [← h7, List.getElem?_take] at hu
    split at hu
    · rw [Nat.zero_add, cell_of_row w g j cur _ (0, 0) h3, ← Array.getElem?_toList]
      exact hu
    · cases hu
theorem KidR.get {gs : List Nat} {base : Nat} {w : World} {g c : Nat} {K : List Nd} (h : KidR gs base w g c K) {i : Nat} (hi : i < K.length) :
    ∃ v, NdV (vw (g :: gs) w) w.heap.size K[i] v ∧ w.rangeAt g (i * 2) [iv K[i].id, v] ∧ w.cell? ⟨g, i * 2 + 1, none⟩ = some v := by
  obtain ⟨vs, hN, hr⟩ := h.read
  obtain ⟨v, r1, r2, r3, r4⟩ := hN.get hi
  have c1 := hr _ _ r3
  have c2 := hr _ _ r4
  rw [Nat.zero_add, Nat.mul_comm] at c1 c2
  refine ⟨v, r2, fun j u hu => ?_, c2⟩
  match j, hu with
  | 0, hu =>
    injection hu with hu
    subst hu
    exact c1
  | 1, hu =>
    injection hu with hu
    subst hu
    exact c2
  | j + 2, hu => simp at hu
theorem KidR.there {gs : List Nat} {base : Nat} {w : World} {g c : Nat} {K : List Nd} (h : KidR gs base w g c K) {i : Nat} (hi : i < K.length) : w.there g (i * 2) 2 := by
  obtain ⟨h1, _, _, cur, hr, hs⟩ := h.row
  intro j hj
  refine ⟨?_, hr.frozen _⟩
  rw [cell_of_row w g _ cur _ (0, 0) hr, Array.getElem?_eq_getElem (by omega)]
  rfl
theorem KidR.set {gs : List Nat} {base : Nat} {w : World} {g c : Nat} {K : List Nd} (h : KidR gs base w g c K) {i : Nat} (hi : i < K.length) {x : Nd} {v : Value} (hx : NdV (vw (g :: gs) w) w.heap.size x v) :
    KidR gs base (w.setCells g (i * 2) [iv x.id, v]) g c (K.set i x) := by
  obtain ⟨vs, ho, hN⟩ := h
  have hvl := hN.len
  refine ⟨vs.set i v, ⟨?_, ?_⟩, ?_⟩
  · rw [flatV_len (by simp [hvl])]
    omega
  · rcases ho.2 with ⟨h1, _⟩ | ⟨g', cap, cur, h1, h2, h3, h4, h5, h6, h7⟩
    · cases h1
    · injection h1 with e1 e2 e3
      injection e1 with e1
      injection e1 with e1
      subst e1 e3
      have hl : i * 2 + [iv x.id, v].length ≤ cur.toList.length := by
        show i * 2 + 2 ≤ cur.toList.length
        rw [Array.length_toList, h6]
        omega
      have hs := setCells_heap g 85 [iv x.id, v] cur.toList (i * 2) w (by simpa using h3) hl
      refine .inr ⟨g, c, _, by rw [List.length_set], h2, hs, by rw [List.length_set]; exact h4, h5, ?_, ?_⟩
      · rw [List.size_toArray, length_splice _ _ _ hl, Array.length_toList, h6]
      · have e : splice cur.toList (i * 2) [iv x.id, v] = (cur.toList.set (i * 2) (iv x.id)).set (i * 2 + 1) v := by
          rw [← splice_set _ _ _ _ hl, ← splice_set _ _ _ _ (by simp only [List.length_set]; simpa using hl)]
          simp [splice]
        rw [List.length_set, e, List.take_set, List.take_set, h7]
        exact flatV_set i x v hvl hi
  · rw [vw_setCells, size_setCellsT]
    exact hN.set i hx
theorem KidR.below {gs : List Nat} {base : Nat} {w w' : World} {g c : Nat} {K : List Nd} (h : KidR gs base w g c K) (hc : Cells gs w) (hb : Below w.heap.size w w') : KidR gs base w' g c K := by
  have hcg := h.hcl hc
  obtain ⟨vs, ho, hN⟩ := h
  exact ⟨vs, own_below ho hb, NdL.keep (vw_keep hcg (hcg.below hb) (fun _ _ _ hr => (hr.below hb).more hb.size)) K vs hN⟩
theorem KidR.sl {gs : List Nat} {base : Nat} {w : World} {g c : Nat} {K : List Nd} (h : KidR gs base w g c K) (hc : Cells gs w) (hg : ∀ k ∈ gs, k < base) : SlN (vw gs w) w.heap.size (some ⟨g, 0, none⟩) K.length c K := by
  have hcg := h.hcl hc
  obtain ⟨h1, h2, h3, cur, hr, hs⟩ := h.row
  obtain ⟨vs, hN, hra⟩ := h.read
  refine ⟨rfl, h1, h2, vs, NdL.keep (vw_less (l := [g]) hcg) K vs hN, (vw_iff hc).2 ⟨⟨by rw [flatV_len hN.len], fun hn => ⟨g, 0, rfl, hr.lt, hra⟩⟩, fun hn ad had hm => ?_⟩⟩
  injection had with had
  subst had
  have := hg _ hm
  have hm' : g < base := this
  omega
theorem KidR.of_own {gs : List Nat} {base : Nat} {w : World} {A : Option Addr} {n c : Nat} {K : List Nd} {vs : List Value} (h : w.ownsRow base 85 2 (.slice A n c) n (flatV K vs)) (hn : K.length = n) (h0 : 0 < n) (hN : NdL (vw ((Value.slice A n c).ownBlock.toList ++ gs) w) w.heap.size K vs) :
    ∃ g, A = some ⟨g, 0, none⟩ ∧ base ≤ g ∧ KidR gs base w g c K := by
  subst hn
  rcases h.2 with ⟨_, h1⟩ | ⟨g, cap, cur, h1, h2, h3⟩
  · omega
  · have hA : A = some ⟨g, 0, none⟩ := by injection h1
    subst hA
    exact ⟨g, rfl, h2, vs, h, hN⟩
/-- a node is stored into a row: one step of a region that draws its order -/
theorem step_store_midT {P : Program} {ops : Array Oper} {o : Oper} {a : Act} {w : World} {K : Act → World → Prop} {Q : Exit → Act → World → Prop} {E : Prop} (hgd : o.guard = none) (hd : o.dst = none) (ty : TypeId) (x y : Operand) (ho : o.op = .store ty x y)
    (b off : Nat) (cells : Array Value) (hx : a.eval x = .pointer (some ⟨b, off, none⟩)) (hy : a.eval y = .agg cells)
    (ht : w.there b off cells.size) (hi : (P.info? ty).map (·.size) = some cells.size) (h1 : cells.all (·.oneCell') = true)
    (h : K a (w.setCells b off cells.toList)) : if Region.wanted o (yielded ops a.tmps) = true then Oper.wp P o a w K Q else E := by
  rw [if_pos (by simp [Region.wanted, hgd])]
  refine wp_store_mid ty x y ho b off cells hx hy ht hi h1 ?_
  rw [hd]
  exact h

end Go.Proofs.Ytmganbdbihjbmaa

