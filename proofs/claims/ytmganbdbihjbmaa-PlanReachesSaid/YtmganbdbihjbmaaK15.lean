import Derived.Test.YtmganbdbihjbmaaK13
import Derived.Test.YtmganbdbihjbmaaK14
/-
  CONTRACT of the document's Of (coterieref10).
-/
set_option linter.unusedVariables false
namespace Go.Proofs.Ytmganbdbihjbmaa
open Go.RowKit

def levI (lv : List (List Nat)) : List (List Int) := lv.map (fun l => l.map (fun n : Nat => (n : Int)))
theorem shapeInfo2 : (Try.prog.info? 25).map (·.size) = some 2 := by kernel_rfl
theorem listInfo : (Try.prog.info? 22).map (fun i => (i.zero, i.size, i.bytes)) = some (some (.slice none 0 0), 1, 24) := by kernel_rfl
theorem shZ : (sh0 : Array Value) = #[.slice none 0 0, .slice none 0 0] := rfl
theorem lens_len (F : List Nd) : (lensF F).length = F.length := by simp [lensF]
theorem Lvs.cons {w : World} {B : Nat} {vs : List Value} {ll : List (List Int)} {A : Option Addr} {c : Nat} {l : List Int} (h : Lvs w B vs ll) (hc : l.length ≤ c) (hm : c ≤ maxLen) (hr : Rd w B A l.length (l.map iv)) : Lvs w B (.slice A l.length c :: vs) (l :: ll) := by
  refine ⟨by rw [List.length_cons, List.length_cons, h.1], fun i v l' hv hl => ?_⟩
  cases i with
  | zero =>
    simp only [List.getElem?_cons_zero, Option.some.injEq] at hv hl
    subst hv hl
    exact ⟨A, c, rfl, hc, hm, hr⟩
  | succ i => exact h.2 i v l' (by simpa using hv) (by simpa using hl)
theorem hi_kids0 {k : Nat} {x : Nd} (hx : Nd.hi k x) : (x.kids.length = 0 ↔ k = 0) := by
  cases k with
  | zero =>
    obtain ⟨i, rfl⟩ := hi_zero hx
    exact ⟨fun _ => rfl, fun _ => rfl⟩
  | succ k =>
    have := (hi_succ hx).1
    constructor <;> intro h <;> omega
theorem ids_kids_len {k : Nat} : ∀ {F : List Nd}, allH k F → F.length ≤ (idsF F).length
  | [], _ => Nat.le_refl _
  | x :: F, ha => by
    have h1 := ids_kids_len (F := F) (fun y hy => ha y (by simp [hy]))
    have h2 : 0 < x.ids.length := List.length_pos_iff.2 (ids_ne x)
    rw [idsF_cons, List.length_append, List.length_cons]
    omega

theorem dep_sl {w : World} {g g' : Nat} (hg : Bx w g g') {B : Nat} {A : Option Addr} {n c : Nat} {F : List Nd} {k : Nat} (h : SlN (hidB w g g') B A n c F) (ha : allH k F) (hk : k ≤ 100) (hn : 0 < n) : depW w 1000 (.slice A n c) = k + 1 := by
  have hF := h.1
  obtain ⟨b, o, v, rfl, hb, hv, c1, c2⟩ := h.rangeH hg (i := 0) (by omega)
  obtain ⟨n', rfl⟩ : ∃ n', n = n' + 1 := ⟨n - 1, by omega⟩
  rw [Nat.zero_mul, Nat.add_zero] at c2
  rw [depW, c2, Option.getD_some, dep_hi k 999 _ v (ha _ (List.getElem_mem _)) (NdV.keep (unhid hg) _ _ hv) (by omega)]
  omega

/-- an address that no block below lo has; slices of such -/
def NewA (lo : Nat) (A : Option Addr) : Prop := ∀ ad, A = some ad → lo ≤ ad.block
def NewVs (lo : Nat) (vs : List Value) : Prop := ∀ v ∈ vs, ∀ A n c, v = .slice A n c → NewA lo A
theorem NewA.none (lo : Nat) : NewA lo none := fun ad h => by cases h
theorem NewA.of_own {w : World} {base lo : Nat} {e : TypeId} {size : Nat} {A : Option Addr} {n c : Nat} {xs : List Value} (h : w.ownsRow base e size (.slice A n c) n xs) (hl : lo ≤ base) : NewA lo A := by
  intro ad had
  subst had
  have := own_blockT h ad.block rfl
  omega
theorem NewA.mono {lo lo' : Nat} {A : Option Addr} (h : NewA lo A) (hl : lo' ≤ lo) : NewA lo' A := fun ad had => Nat.le_trans hl (h ad had)
theorem NewVs.nil (lo : Nat) : NewVs lo [] := fun v h => by cases h
theorem NewVs.cons {lo : Nat} {A : Option Addr} {n c : Nat} {vs : List Value} (h : NewA lo A) (hv : NewVs lo vs) : NewVs lo (.slice A n c :: vs) := fun v hm A' n' c' e => by
  rcases List.mem_cons.1 hm with rfl | hm
  · injection e with e1
    subst e1
    exact h
  · exact hv v hm A' n' c' e
/-- a tree's cells, all in blocks from lo on -/
structure ShN (lo : Nat) (w : World) (B : Nat) (Ai : Option Addr) (ni ci : Nat) (Al : Option Addr) (nl cl : Nat) (ids : List Int) (ll : List (List Int)) : Prop where
  sh : ShR w B Ai ni ci Al nl cl ids ll
  hi : NewA lo Ai
  hl : NewA lo Al
  hv : ∃ vs, Rd w B Al nl vs ∧ Lvs w B vs ll ∧ NewVs lo vs
theorem ShN.keep {lo : Nat} {w w' : World} {B B' : Nat} {Ai : Option Addr} {ni ci : Nat} {Al : Option Addr} {nl cl : Nat} {ids : List Int} {ll : List (List Int)} (h : ShN lo w B Ai ni ci Al nl cl ids ll)
    (hk : ∀ (A : Option Addr) (n : Nat) (xs : List Value), NewA lo A → Rd w B A n xs → Rd w' B' A n xs) : ShN lo w' B' Ai ni ci Al nl cl ids ll := by
  obtain ⟨vs, h1, h2, h3⟩ := h.hv
  have hl2 : Lvs w' B' vs ll := ⟨h2.1, fun i v l hv hl => by
    obtain ⟨A, c, e, hc, hm, hr⟩ := h2.2 i v l hv hl
    exact ⟨A, c, e, hc, hm, hk _ _ _ (h3 v (List.mem_of_getElem? hv) A _ _ e) hr⟩⟩
  exact ⟨⟨h.sh.hni, h.sh.hnl, h.sh.hci, h.sh.hcl, h.sh.hmi, h.sh.hml, hk _ _ _ h.hi h.sh.hids, vs, hk _ _ _ h.hl h1, hl2⟩, h.hi, h.hl, vs, hk _ _ _ h.hl h1, hl2, h3⟩
theorem ShN.below {lo : Nat} {w w' : World} {B : Nat} {Ai : Option Addr} {ni ci : Nat} {Al : Option Addr} {nl cl : Nat} {ids : List Int} {ll : List (List Int)} (h : ShN lo w B Ai ni ci Al nl cl ids ll) (hb : Below B w w') : ShN lo w' B Ai ni ci Al nl cl ids ll := h.keep fun _ _ _ _ hr => hr.below hb
theorem ShN.more {lo : Nat} {w : World} {B B' : Nat} {Ai : Option Addr} {ni ci : Nat} {Al : Option Addr} {nl cl : Nat} {ids : List Int} {ll : List (List Int)} (h : ShN lo w B Ai ni ci Al nl cl ids ll) (hb : B ≤ B') : ShN lo w B' Ai ni ci Al nl cl ids ll := h.keep fun _ _ _ _ hr => hr.more hb
theorem ShN.call {lo : Nat} {w w' : World} {Ai : Option Addr} {ni ci : Nat} {Al : Option Addr} {nl cl : Nat} {ids : List Int} {ll : List (List Int)} (h : ShN lo w w.heap.size Ai ni ci Al nl cl ids ll) (hb : Below w.heap.size w w') : ShN lo w' w'.heap.size Ai ni ci Al nl cl ids ll := (h.below hb).more hb.size
theorem Rd.setRowN {w : World} {g lo : Nat} (hg : g < lo) (cs : Array Value) {B n : Nat} {A : Option Addr} {xs : List Value} (h : Rd w B A n xs) (hn : NewA lo A) : Rd (w.setRow g cs) B A n xs := by
  refine ⟨h.len, fun h0 => ?_⟩
  obtain ⟨b, o, h1, h2, h3⟩ := h.pos h0
  refine ⟨b, o, h1, h2, fun j u hu => ?_⟩
  rw [← h3 j u hu]
  exact cell_setRow_other w g cs ⟨b, o + j, Option.none⟩ (show b ≠ g from fun e => by
    have := hn _ h1
    have h4 : lo ≤ b := this
    omega)
/-- a tree in later blocks stays where an earlier box is written -/
theorem ShN.box {lo : Nat} {w : World} {g : Nat} (hg : g < lo) (cs : Array Value) {B : Nat} {Ai : Option Addr} {ni ci : Nat} {Al : Option Addr} {nl cl : Nat} {ids : List Int} {ll : List (List Int)} (h : ShN lo w B Ai ni ci Al nl cl ids ll) : ShN lo (w.setRow g cs) B Ai ni ci Al nl cl ids ll := h.keep fun _ _ _ hn hr => hr.setRowN hg cs hn
theorem ShN.mono {lo lo' : Nat} (hl : lo' ≤ lo) {w : World} {B : Nat} {Ai : Option Addr} {ni ci : Nat} {Al : Option Addr} {nl cl : Nat} {ids : List Int} {ll : List (List Int)} (h : ShN lo w B Ai ni ci Al nl cl ids ll) : ShN lo' w B Ai ni ci Al nl cl ids ll := by
  obtain ⟨vs, h1, h2, h3⟩ := h.hv
  exact ⟨h.sh, h.hi.mono hl, h.hl.mono hl, vs, h1, h2, fun v hv A n c e => (h3 v hv A n c e).mono hl⟩
theorem ShN.nil (lo : Nat) (w : World) (B : Nat) : ShN lo w B Option.none 0 0 Option.none 0 0 [] [] :=
  ⟨⟨rfl, rfl, Nat.le_refl _, Nat.le_refl _, by simp [maxLen], by simp [maxLen], Rd.zero _ _ _, [], Rd.zero _ _ _, Lvs.nil _ _⟩, NewA.none _, NewA.none _, [], Rd.zero _ _ _, Lvs.nil _ _, NewVs.nil _⟩

set_option maxRecDepth 100000 in
set_option maxHeartbeats 16000000 in
theorem Of_any (h : Nat) (F : List Nd) (A : Option Addr) (n c : Nat) (w : World) (hh : h ≤ 100) (ha : allH h F) (h0 : F ≠ []) (hids : (idsF F).length ≤ 2000) (hS : SlN w w.heap.size A n c F) :
    Calls Try.prog 55 #[.slice A n c] w fun e w' => Below w.heap.size w w' ∧ ∃ Ai ni ci Al nl cl, e = .returned (.agg (shV Ai ni ci Al nl cl)) ∧ ShN w.heap.size w' w'.heap.size Ai ni ci Al nl cl (idsF F) (levI (levF h F)) := by
  obtain ⟨i0, hi0, hz0, hz1, hz2⟩ := info_parts intInfo
  obtain ⟨i1, hi1, hy0, hy1, hy2⟩ := info_parts listInfo
  have hM := ((Ms.nil w).box 25 sh0).box 25 sh0
  simp only [World.size_alloc] at hM
  have hSa := ((hS.alloc (Nat.le_refl _) (.cells sh0 25)).more (by simp : w.heap.size ≤ (w.alloc (.cells sh0 25)).heap.size)).alloc (Nat.le_refl _) (.cells sh0 25)
  have hlt0 := (hM.get 0 rfl).lt
  rw [shZ] at hM hSa hlt0
  have hSh := (((hS.alloc (Nat.le_refl _) (.cells #[.slice none 0 0, .slice none 0 0] 25)).alloc (by simp) (.cells #[.slice none 0 0, .slice none 0 0] 25)).keep (hid_low (g := w.heap.size + 1) (g' := w.heap.size) (by omega) (by omega))).more (show w.heap.size ≤ ((w.alloc (.cells #[.slice none 0 0, .slice none 0 0] 25)).alloc (.cells #[.slice none 0 0, .slice none 0 0] 25)).heap.size by simp; omega)
  go_enter Try.func55, Try.ntmps55
  go_wp2_with fail
  go_loopw [0] (fun v wr => ∃ (k n : Nat) (F' : List Nd) (A : Option Addr) (c : Nat) (done : List (List Nat)) (Al : Option Addr) (nl cl : Nat), k ≤ h ∧ v = .slice A n c ∧ SlN (hidB wr (w.heap.size + 1) w.heap.size) wr.heap.size A n c F' ∧ allH k F' ∧ 0 < n ∧ idsF F' = idsF F ∧ levF h F = levF k F' ++ done ∧
    done.length = nl ∧ nl + k = h ∧ nl ≤ cl ∧ cl ≤ maxLen ∧ (∃ vs, Rd (hidB wr (w.heap.size + 1) w.heap.size) wr.heap.size Al nl vs ∧ Lvs (hidB wr (w.heap.size + 1) w.heap.size) wr.heap.size vs (levI done) ∧ NewA w.heap.size Al ∧ NewVs w.heap.size vs) ∧
    Ms w wr [(w.heap.size + 1, 25, #[.slice none 0 0, .slice Al nl cl]), (w.heap.size, 25, #[.slice none 0 0, .slice none 0 0])]) (fun v wr => depW wr 1000 v)
  case atStart =>
    refine ⟨h, n, F, A, c, [], none, 0, 0, Nat.le_refl _, rfl, hSh, ha, ?_, rfl, by simp, rfl, by omega, Nat.le_refl _, by simp [maxLen], ⟨[], Rd.zero _ _ _, Lvs.nil _ _, NewA.none _, NewVs.nil _⟩, hM⟩
    have := hS.1
    have h1 : F.length ≠ 0 := fun e => h0 (List.length_eq_zero_iff.1 e)
    omega
  case round =>
    clear hM hSa hS ha h0 hlt0 hSh
    obtain ⟨k, n, F', A, c, done, Al, nl, cl, hk, rfl, hS, ha, hn0, hidF, hlev, hdl, hnk, hncl, hclm, ⟨vs, hvr, hvl, hna, hnv⟩, hM⟩ := hrel
    have hb := hM.old
    have hlt0 := (hM.get 0 rfl).lt
    have hrow0 : Bx wr (w.heap.size + 1) w.heap.size := ⟨by omega, ⟨_, _, hM.get 0 rfl⟩, ⟨_, _, hM.get 1 rfl⟩⟩
    obtain ⟨hFl, hnc, hcm, _⟩ := id hS
    have hFi := ids_kids_len ha
    rw [hidF] at hFi
    rw [maxLen] at hcm hclm
    obtain ⟨b, o, u, rfl, hbb, hu, c1, c2⟩ := hS.rangeH hrow0 (i := 0) (by omega)
    have hx0 := ha _ (List.getElem_mem (show 0 < F'.length by omega))
    obtain ⟨A1, cc1, rfl, hsk⟩ := hu.kids
    have hz := hi_kids0 hx0
    have hkl3 : F'[0].kids.length ≤ 3 := by
      cases k with
      | zero =>
        have := hz.2 rfl
        omega
      | succ k =>
        have := (hi_succ hx0).1
        omega
    rw [Nat.zero_mul, Nat.add_zero] at c2
    have hn0' : (0 : Int) < (n : Int) := by omega
    by_cases hk0 : k = 0
    · have hl0 : F'[0].kids.length = 0 := hz.2 hk0
      rw [hl0] at c2
      have ha0 : allH 0 F' := by rw [← hk0]; exact ha
      have hdone : levF h F = done := by rw [hlev, hk0]; rfl
      have hidl := leaf_ids F' ha0
      rw [hidF] at hidl
      obtain ⟨b0, hb0⟩ : ∃ b0, b0 = wr.heap.size := ⟨_, rfl⟩
      have hSb : SlN (hidB wr (w.heap.size + 1) w.heap.size) b0 (some ⟨b, o, none⟩) n c F' := by rw [hb0]; exact hS
      have hvrb : Rd (hidB wr (w.heap.size + 1) w.heap.size) b0 Al nl vs := by rw [hb0]; exact hvr
      have hvlb : Lvs (hidB wr (w.heap.size + 1) w.heap.size) b0 vs (levI done) := by rw [hb0]; exact hvl
      have hb0w : b0 ≤ wr.heap.size := by omega
      have hb0l : w.heap.size + 1 < b0 := by omega
      clear hS hvr hvl hb0 hlt0 hrow0 hsk hu c1 hz hx0 hkl3 ha hlev hk0 hl0
      go_wp2_with fail
      go_loopw [48] (fun v48 wz => ∃ (j : Nat) (Ai : Option Addr) (ci : Nat), j ≤ n ∧ v48 = .int .i64 (j : Int) ∧ wz.ownsRow b0 3 1 (.slice Ai j ci) j (((idsF F).take j).map iv) ∧
        b0 ≤ wz.heap.size ∧ SlN (hidB wz (w.heap.size + 1) w.heap.size) b0 (some ⟨b, o, none⟩) n c F' ∧ Rd (hidB wz (w.heap.size + 1) w.heap.size) b0 Al nl vs ∧ Lvs (hidB wz (w.heap.size + 1) w.heap.size) b0 vs (levI done) ∧
        Ms w wz [(w.heap.size + 1, 25, #[.slice Ai j ci, .slice Al nl cl]), (w.heap.size, 25, #[.slice none 0 0, .slice none 0 0])]) (fun v48 _ => n - (intOf v48).toNat)
      case atStart => exact ⟨0, none, 0, by omega, rfl, World.ownsRow_nil _ _ _ _, hb0w, hSb, hvrb, hvlb, hM⟩
      case round =>
        clear hM hSb hvrb hvlb hb hb0w c2
        obtain ⟨j, Ai, ci, hj, rfl, hown, hbz, hS, hvr, hvl, hM⟩ := hrel
        have hb := hM.old
        have hrow0 : Bx wr (w.heap.size + 1) w.heap.size := ⟨by omega, ⟨_, _, hM.get 0 rfl⟩, ⟨_, _, hM.get 1 rfl⟩⟩
        by_cases hjn : j < n
        · have hjF : j < F'.length := by omega
          obtain ⟨b', o', u, hAe, hbb', hu, c1, c2⟩ := hS.rangeH hrow0 hjF
          injection hAe with hAe
          injection hAe with e1 e2
          subst e1 e2
          obtain ⟨y, hy⟩ := hi_zero (ha0 _ (List.getElem_mem hjF))
          have hyid : (idsF F)[j]? = some y := by
            have hg : ∀ (G : List Nd) (q : Nat) (hq : q < G.length), allH 0 G → G[q] = .leaf y → (idsF G)[q]? = some y := by
              intro G
              induction G with
              | nil => intro q hq; simp at hq
              | cons z G ih =>
                intro q hq hG hz2
                obtain ⟨i9, rfl⟩ := hi_zero (hG z (by simp))
                rw [idsF_cons, show Nd.ids (.leaf i9) = [i9] from rfl]
                cases q with
                | zero =>
                  simp only [List.getElem_cons_zero] at hz2
                  injection hz2 with hz2
                  subst hz2
                  rfl
                | succ q => exact ih q (by simpa using hq) (fun v hv => hG v (by simp [hv])) (by simpa using hz2)
            rw [← hidF]
            exact hg F' j hjF ha0 hy
          have Ht := Lib.hid (take_one hyid)
          rw [hy] at hu c1
          have hu0 : u = .slice none 0 0 := hu
          subst hu0
          rw [show Nd.id (.leaf y) = y from rfl] at c1
          have hB1 : Below wr.heap.size wr (wr.alloc (.cells (ndC (.leaf y) (.slice none 0 0)) 85)) := (Below.refl _ _).alloc (Nat.le_refl _) _
          have hB2 : Below wr.heap.size wr ((wr.alloc (.cells (ndC (.leaf y) (.slice none 0 0)) 85)).alloc (.cells #[iv y] 3)) := hB1.alloc (by simp) _
          have hrow := RowC.new wr 85 (ndC (.leaf y) (.slice none 0 0))
          have k90 := hrow.cell (i := 0) (v := .int .i64 y) rfl
          have hM1 := hM.allocT (.cells (ndC (.leaf y) (.slice none 0 0)) 85)
          have k30 := (hM1.get 0 rfl).cell (i := 0) (v := .slice Ai j ci) rfl
          have hMa := hM1.allocT (.cells #[iv y] 3)
          have hown2 := own_below hown hB2
          have hone9 : (ndC (.leaf y) (.slice none 0 0)).all (·.oneCell') = true := by simp [ndC, Value.oneCell', iv]
          clear hu c2 hyid
          go_wp2_with (first
            | ((with_reducible show wpList _ _ _ (⟨some 51, _, _, _, _, _⟩ :: _) _ _); refine wpList_load_midG (by kernel_rfl) 85 (.tmp 50) rfl b (o + j * 2) rfl [iv y, .slice none 0 0] _ c1 Try.underlying85 rfl sizeNd ?_)
            | ((with_reducible show wpList _ _ _ (⟨none, Op.store 85 _ _, _, _, _, _⟩ :: _) _ _); refine wpList_store_row rfl 85 (.tmp 9) (.tmp 51) rfl wr.heap.size (ndC (.leaf y) (.slice none 0 0)) rfl rfl 85 _ (RowC.new _ _ _) sizeNd rfl hone9 ?_; rw [World.setRow_alloc_new])
            | (at_builtin; refine wpList_append_rd _ rfl (.tmp 53) (.tmp 56) _ rfl b0 3 i0 _ 8 Try.underlying22 hi0 hz0 hz1 hz2 rfl (.slice Ai j ci) j _ rfl hown2 (wr.heap.size + 1 + 1) (some ⟨wr.heap.size + 1, 0, none⟩) 1 1 [iv y] rfl (Rd.mk_ _ _ _ (by simp) (by omega) rfl rfl) (one_iv [y]) (by simp only [maxLen]; omega) (by omega) (by simp; omega) ?_; intro v3 w3 hown3 hgr3 hat3; obtain ⟨A3, c3, rfl, _, _⟩ := own_formT hown3; have hMb := hMa.grownT hgr3 (fun k hk => by have := own_blockT hown k hk; omega) (fun p hp k hk => by have := own_blockT hown k hk; simp at hp; rcases hp with rfl | rfl <;> simp <;> omega); have f3 := (hMb.get 0 rfl).frozen 0; have k3 := (hMb.get 0 rfl).cell (i := 0) (v := .slice Ai j ci) rfl))
          have hMd := hMb.setCellT (by omega) (fun p hp => by simp at hp; subst hp; simp) 0 (.slice A3 (j + 1) c3)
          rw [show (#[.slice Ai j ci, .slice Al nl cl] : Array Value).setIfInBounds 0 (.slice A3 (j + 1) c3) = #[.slice A3 (j + 1) c3, .slice Al nl cl] from rfl] at hMd
          have hkb : ∀ (A : Option Addr) (n : Nat) (xs : List Value), Rd wr b0 A n xs → Rd w3 b0 A n xs := fun _ _ _ hr => (hr.below (hB2.mono hbz)).grown hgr3 (by simp; omega) (own_blockT hown)
          have hkh := hid_keep hrow0 hkb
          have hs3 : wr.heap.size + 1 + 1 ≤ w3.heap.size := by
            have := hgr3.size
            simpa using this
          rw [show [iv y] = [y].map iv from rfl, ← List.map_append, ← Ht.out] at hown3
          have hown4 := own_cellT (p := ⟨w.heap.size + 1, 0, none⟩) hown3 (fun g hg => by have := own_blockT hown3 g hg; show g ≠ w.heap.size + 1; omega) (.slice A3 (j + 1) c3)
          try simp only [Act.put, List.setIfInBounds_toArray, List.set_cons_zero, List.set_cons_succ]
          go_roundw
          case rel =>
            refine ⟨j + 1, A3, c3, by omega, by go_num, hown4, by simp; omega, ?_, ?_, ?_, hMd⟩
            · rw [hidB_setCell]; exact hS.keep hkh
            · rw [hidB_setCell]; exact hkh _ _ _ hvr
            · rw [hidB_setCell]; exact hvl.keep hkh
          case measure => simp [intOf]; omega
        · obtain rfl : j = n := by omega
          rw [List.take_of_length_le (by omega)] at hown
          obtain ⟨_, _, e0, hjc, hcm2⟩ := own_formT hown
          injection e0 with e1 e2 e3
          subst e1 e3
          have hNi := NewA.of_own hown (lo := w.heap.size) (by omega)
          have hr := Rd.of_own (own_hide (g := w.heap.size + 1) (g' := w.heap.size) hown (by omega) (by omega))
          rw [hidB_size] at hr
          have hrow := hid_row hrow0 #[.slice Ai j ci, .slice Al nl cl] (B := wr.heap.size)
          have hsz : (wr.setRow w.heap.size #[.slice Ai j ci, .slice Al nl cl]).heap.size = wr.heap.size := by simp [World.setRow]
          have Hi := Lib.hid (hrow _ _ _ hr)
          have Hv := Lib.hid (hrow _ _ _ (hvr.more hbz))
          have Hl := Lib.hid ((hvl.keep (fun _ _ _ hr => hr.more hbz)).keep hrow)
          have hilen : (idsF F).length = j := by omega
          have hllen : (levI done).length = nl := by rw [levI, List.length_map]; exact hdl
          have hone8 : (#[.slice Ai j ci, .slice Al nl cl] : Array Value).all (·.oneCell') = true := by simp [Value.oneCell']
          clear hr hvr hvl hS hrow
          go_wp2_with (first
            | ((with_reducible show wpList _ _ _ (⟨some 60, _, _, _, _, _⟩ :: _) _ _); refine wpList_loadC (by kernel_rfl) 25 (.tmp 3) rfl (w.heap.size + 1) rfl 25 #[.slice Ai j ci, .slice Al nl cl] _ (hM.get 0 rfl) Try.underlying25 rfl shapeInfo2 ?_)
            | ((with_reducible show wpList _ _ _ (⟨none, Op.store 25 _ _, _, _, _, _⟩ :: _) _ _); refine wpList_store_row rfl 25 (.tmp 2) (.tmp 60) rfl w.heap.size #[.slice Ai j ci, .slice Al nl cl] rfl rfl 25 _ (hM.get 1 rfl) shapeInfo2 rfl hone8 ?_))
          refine bodyPost_ret (results_cell_one rfl _ _ w.heap.size 25 #[.slice Ai j ci, .slice Al nl cl] _ rfl ((hM.get 1 rfl).row _) Try.underlying25 rfl shapeInfo2) rfl ⟨below_setRow hM.old (Nat.le_refl _) _, Ai, j, ci, Al, nl, cl, rfl, ?_⟩
          rw [maxLen] at hcm2
          rw [hsz]
          exact ⟨⟨hilen, hllen, hjc, hncl, by rw [maxLen]; omega, by rw [maxLen]; omega, Hi.out, vs, Hv.out, Hl.out⟩, hNi, hna, vs, Hv.out, Hl.out, hnv⟩
    · have hl0 : (0 : Int) < (F'[0].kids.length : Int) := by
        have : F'[0].kids.length ≠ 0 := fun e => hk0 (hz.1 e)
        omega
      clear hsk hu c1 hz hx0 hkl3
      generalize F'[0].kids.length = m0 at *
      obtain ⟨k', rfl⟩ : ∃ k', k = k' + 1 := ⟨k - 1, by omega⟩
      have hksum := lens_sum F'
      have hkids := allH_kids ha
      have hkidlen := ids_kids_len hkids
      rw [idsF_kids ha, hidF] at hkidlen
      have Hdep := Lib.hid (dep_sl hrow0 hS ha (by omega) hn0)
      obtain ⟨b0, hb0⟩ : ∃ b0, b0 = wr.heap.size := ⟨_, rfl⟩
      have hSb : SlN (hidB wr (w.heap.size + 1) w.heap.size) b0 (some ⟨b, o, none⟩) n c F' := by rw [hb0]; exact hS
      have hvrb : Rd (hidB wr (w.heap.size + 1) w.heap.size) b0 Al nl vs := by rw [hb0]; exact hvr
      have hvlb : Lvs (hidB wr (w.heap.size + 1) w.heap.size) b0 vs (levI done) := by rw [hb0]; exact hvl
      have hb0w : b0 ≤ wr.heap.size := by omega
      have hb0l : w.heap.size + 1 < b0 := by omega
      clear hS hvr hvl hb0 hlt0 hrow0
      go_wp2_with fail
      go_loopw [4, 5, 24] (fun v4 v5 v24 wz => ∃ (i m : Nat) (A4 : Option Addr) (c4 : Nat) (A5 : Option Addr) (c5 : Nat) (us : List Value), i ≤ n ∧ v24 = .int .i64 (i : Int) ∧ v4 = .slice A4 i c4 ∧ wz.ownsRow b0 3 1 (.slice A4 i c4) i ((lensF (F'.take i)).map ivn) ∧
        v5 = .slice A5 m c5 ∧ m = (kidsF (F'.take i)).length ∧ wz.ownsRow b0 85 2 (.slice A5 m c5) m (flatV (kidsF (F'.take i)) us) ∧ NdL (hidB wz (w.heap.size + 1) w.heap.size) b0 (kidsF (F'.take i)) us ∧ (∀ g, (Value.slice A4 i c4).ownBlock = some g → (Value.slice A5 m c5).ownBlock ≠ some g) ∧
        b0 ≤ wz.heap.size ∧ SlN (hidB wz (w.heap.size + 1) w.heap.size) b0 (some ⟨b, o, none⟩) n c F' ∧ Rd (hidB wz (w.heap.size + 1) w.heap.size) b0 Al nl vs ∧ Lvs (hidB wz (w.heap.size + 1) w.heap.size) b0 vs (levI done) ∧
        Ms w wz [(w.heap.size + 1, 25, #[.slice none 0 0, .slice Al nl cl]), (w.heap.size, 25, #[.slice none 0 0, .slice none 0 0])]) (fun _ _ v24 _ => n - (intOf v24).toNat)
      case atStart => exact ⟨0, 0, none, 0, none, 0, [], by omega, rfl, rfl, World.ownsRow_nil _ _ _ _, rfl, rfl, World.ownsRow_nil _ _ _ _, trivial, by simp [Value.ownBlock], hb0w, hSb, hvrb, hvlb, hM⟩
      case round =>
        clear hM hSb hvrb hvlb hb hb0w
        obtain ⟨i, m, A4, c4, A5, c5, us, hi, rfl, rfl, hown4, rfl, hm, hown5, hNd, hdis, hbz, hS, hvr, hvl, hM⟩ := hrel
        have hb := hM.old
        by_cases hin : i < n
        · have hiF : i < F'.length := by omega
          have hrow0 : Bx wr (w.heap.size + 1) w.heap.size := ⟨by omega, ⟨_, _, hM.get 0 rfl⟩, ⟨_, _, hM.get 1 rfl⟩⟩
          obtain ⟨b', o', u, hAe, hbb', hu, c1, c2⟩ := hS.rangeH hrow0 hiF
          injection hAe with hAe
          injection hAe with e1 e2
          subst e1 e2
          obtain ⟨A1, cc1, rfl, hsk⟩ := hu.kids
          have hone := hu.one2
          have hNdu := hNd.keep (unhid hrow0)
          have Hk := Lib.hid (show kidsF (F'.take (i + 1)) = kidsF (F'.take i) ++ F'[i].kids by rw [List.take_succ_eq_append_getElem hiF, kidsF_app]; simp [kidsF])
          have Hl := Lib.hid (show lensF (F'.take (i + 1)) = lensF (F'.take i) ++ [F'[i].kids.length] by rw [List.take_succ_eq_append_getElem hiF, lensF_app]; rfl)
          have hmb : m + F'[i].kids.length ≤ 2000 := by
            have h1 : (kidsF (F'.take (i + 1))).length ≤ (kidsF F').length := by
              have h2 : kidsF F' = kidsF (F'.take (i + 1)) ++ kidsF (F'.drop (i + 1)) := by rw [← kidsF_app, List.take_append_drop]
              rw [h2, List.length_append]
              omega
            rw [Hk.out, List.length_append, ← hm] at h1
            omega
          have Hm := Lib.hid hm
          clear hm
          generalize F'[i] = x at *
          have hB1 : Below wr.heap.size wr (wr.alloc (.cells (ndC x (.slice A1 x.kids.length cc1)) 85)) := (Below.refl _ _).alloc (Nat.le_refl _) _
          have hB2 : Below wr.heap.size wr ((wr.alloc (.cells (ndC x (.slice A1 x.kids.length cc1)) 85)).alloc (.cells #[ivn x.kids.length] 3)) := hB1.alloc (by simp) _
          have hkp2 : ∀ (A : Option Addr) (n : Nat) (xs : List Value), Rd wr b0 A n xs → Rd ((wr.alloc (.cells (ndC x (.slice A1 x.kids.length cc1)) 85)).alloc (.cells #[ivn x.kids.length] 3)) b0 A n xs := fun _ _ _ hr => hr.below (hB2.mono hbz)
          have hsz2 : ((wr.alloc (.cells (ndC x (.slice A1 x.kids.length cc1)) 85)).alloc (.cells #[ivn x.kids.length] 3)).heap.size = wr.heap.size + 1 + 1 := by simp
          have hrow := RowC.new wr 85 (ndC x (.slice A1 x.kids.length cc1))
          have k71 := hrow.cell (i := 1) (v := .slice A1 x.kids.length cc1) rfl
          have hown5a := own_below hown5 hB2
          have hown4a := own_below hown4 hB2
          have hMa := (hM.allocT (.cells (ndC x (.slice A1 x.kids.length cc1)) 85)).allocT (.cells #[ivn x.kids.length] 3)
          have hlt5 := own_ltT hown5
          clear hown5 hM hu c2
          go_wp2_with (first
            | ((with_reducible show wpList _ _ _ (⟨some 27, _, _, _, _, _⟩ :: _) _ _); refine wpList_load_midG (by kernel_rfl) 85 (.tmp 26) rfl b (o + i * 2) rfl [iv x.id, .slice A1 x.kids.length cc1] _ c1 Try.underlying85 rfl sizeNd ?_)
            | ((with_reducible show wpList _ _ _ (⟨none, Op.store 85 _ _, _, _, _, _⟩ :: _) _ _); refine wpList_store_row rfl 85 (.tmp 7) (.tmp 27) rfl wr.heap.size (ndC x (.slice A1 x.kids.length cc1)) rfl rfl 85 _ (RowC.new _ _ _) sizeNd rfl hone ?_; rw [World.setRow_alloc_new])
            | (at_builtin; refine wpList_append_rd _ rfl (.tmp 28) (.tmp 32) _ rfl b0 3 i0 _ 8 Try.underlying22 hi0 hz0 hz1 hz2 rfl (.slice A4 i c4) i _ rfl hown4a (wr.heap.size + 1 + 1) (some ⟨wr.heap.size + 1, 0, none⟩) 1 1 [ivn x.kids.length] rfl (Rd.mk_ _ _ _ (by simp) (by omega) rfl rfl) (one_ivN [_]) (by simp only [maxLen]; omega) (by omega) (by simp; omega) ?_; intro v3 w3 hown3 hgr3 hat3; obtain ⟨A3, c3, rfl, _, _⟩ := own_formT hown3
               have hkp3 : ∀ (A : Option Addr) (n : Nat) (xs : List Value), Rd wr b0 A n xs → Rd w3 b0 A n xs := fun _ _ _ hr => (hkp2 _ _ _ hr).grown hgr3 (by simp; omega) (own_blockT hown4a)
               have hs3 : wr.heap.size + 1 + 1 ≤ w3.heap.size := by
                 have := hgr3.size
                 simpa using this
               have k73 : w3.cell? ⟨wr.heap.size, 1, none⟩ = some (.slice A1 x.kids.length cc1) := by
                 rw [World.cell?_of_block (hgr3.block wr.heap.size (by simp; omega) (fun e => by have := own_ltT hown4 _ e.symm; omega))]
                 rw [World.cell?_alloc_lt _ _ _ (by simp)]
                 exact k71
               have hown5b := own_grownT hown5a hgr3 (fun g hg hh => by
                 exact hdis g hh hg)
               obtain ⟨_, _, _, us1, hNh, hRh⟩ := id hsk
               have hNk := (hNh.keep (unhid hrow0)).keep hkp3
               have hRk := hkp3 _ _ _ (unhid hrow0 _ _ _ hRh)
               have hNd3 := hNdu.keep hkp3
               have hkh3 := hid_keep hrow0 hkp3
               have hMb := hMa.grownT hgr3 (fun k hk => by have := own_blockT hown4a k hk; omega) (fun p hp k hk => by have := own_blockT hown4a k hk; simp at hp; rcases hp with rfl | rfl <;> simp <;> omega))
            | (at_builtin; refine wpList_append_nd rfl (.tmp 34) (.tmp 36) rfl b0 A5 m c5 (kidsF (F'.take i)) us rfl hown5b b0 A1 x.kids.length cc1 x.kids us1 rfl hNk hRk (by omega) (by omega) hNd.len ?_; intro A6 c6 w4 hown6 hgr4 hat4))
          have hkp4 : ∀ (A : Option Addr) (n : Nat) (xs : List Value), Rd wr b0 A n xs → Rd w4 b0 A n xs := fun _ _ _ hr => (hkp3 _ _ _ hr).grown hgr4 (by omega) (own_blockT hown5b)
          have hs4 := hgr4.size
          have hd3 : ∀ g, (Value.slice A3 (i + 1) c3).ownBlock = some g → (Value.slice A5 m c5).ownBlock ≠ some g := by
            intro g hg
            rcases hat3 with e | e
            · exact hdis g (e.symm.trans hg)
            · intro e2
              have h1 := hlt5 g e2
              rw [hg] at e
              injection e with e
              simp at e
              omega
          have hd4 : ∀ g, (Value.slice A3 (i + 1) c3).ownBlock = some g → (Value.slice A6 (m + x.kids.length) c6).ownBlock ≠ some g := by
            intro g hg
            rcases hat4 with e | e
            · rw [e]; exact hd3 g hg
            · intro e2
              have h1 := own_ltT hown3 g hg
              rw [e2] at e
              injection e with e
              omega
          have hown4c := own_grownT hown3 hgr4 hd3
          have hkh4 := hid_keep hrow0 hkp4
          have hNd4 := (hNd.keep hkh4).app (hNh.keep hkh4)
          have hMc := hMb.grownT hgr4 (fun k hk => by have := own_blockT hown5b k hk; omega) (fun p hp k hk => by have := own_blockT hown5b k hk; simp at hp; rcases hp with rfl | rfl <;> simp <;> omega)
          rw [show [ivn x.kids.length] = [x.kids.length].map ivn from rfl, ← List.map_append, ← Hl.out] at hown4c
          rw [← Hk.out] at hown6 hNd4
          have Hm2 := Lib.hid (show m + x.kids.length = (kidsF (F'.take (i + 1))).length by rw [Hk.out, List.length_append, ← Hm.out])
          try simp only [Act.put, List.setIfInBounds_toArray, List.set_cons_zero, List.set_cons_succ]
          go_roundw
          case rel => exact ⟨_, _, _, _, ⟨i + 1, by omega, by go_num, m + x.kids.length, A3, c3, rfl, hown4c, A6, c6, rfl, Hm2.out, us ++ us1, hown6, hNd4, hd4, by omega, hS.keep hkh4, hkh4 _ _ _ hvr, hvl.keep hkh4, hMc⟩, rfl, rfl, rfl, rfl⟩
          case measure => simp [intOf]; omega
        · obtain rfl : i = n := by omega
          rw [List.take_of_length_le (by omega)] at hown4 hown5 hNd hm
          have Hm := Lib.hid hm
          have hrow0 : Bx wr (w.heap.size + 1) w.heap.size := ⟨by omega, ⟨_, _, hM.get 0 rfl⟩, ⟨_, _, hM.get 1 rfl⟩⟩
          have hN4 := NewA.of_own hown4 (lo := w.heap.size) (by omega)
          have hr4 := Rd.of_own (own_hide (g := w.heap.size + 1) (g' := w.heap.size) hown4 (by omega) (by omega))
          rw [hidB_size] at hr4
          obtain ⟨_, _, e0, hic, hcm4⟩ := own_formT hown4
          injection e0 with e1 e2 e3
          subst e1 e3
          have hS5 := SlN.of_own (own_hide (g := w.heap.size + 1) (g' := w.heap.size) hown5 (by omega) (by omega)) (hNd.keep (fun _ _ _ hr => hr.more (by rw [hidB_size]; exact hbz)))
          rw [hidB_size] at hS5
          clear hown4 hown5 hNd hdis hm
          have hBa : Below wr.heap.size wr (wr.alloc (.cells #[.slice A4 i c4] 22)) := (Below.refl _ _).alloc (Nat.le_refl _) _
          have hMa := hM.allocT (.cells #[.slice A4 i c4] 22)
          have k1 := (hMa.get 0 rfl).cell (i := 1) (v := .slice Al nl cl) rfl
          have hown0 : (wr.alloc (.cells #[.slice A4 i c4] 22)).ownsRow wr.heap.size 22 1 (.slice (some ⟨wr.heap.size, 0, none⟩) 1 1) 1 [.slice A4 i c4] := own_new _ _ _ #[_] (Nat.le_refl _) (by simp [maxLen])
          have hone4 : ∀ u ∈ vs, u.oneCell' = true := by
            intro u hu
            obtain ⟨q, hq⟩ := List.getElem?_of_mem hu
            have hql : q < vs.length := (List.getElem?_eq_some_iff.1 hq).1
            obtain ⟨A9, c9, e9, _⟩ := hvl.2 q u ((levI done)[q]'(by rw [← hvl.1]; exact hql)) hq (List.getElem?_eq_getElem _)
            rw [e9]; rfl
          have hnl100 : nl ≤ 100 := by omega
          go_wp2_with (at_builtin; refine wpList_append_rd _ rfl (.tmp 40) (.tmp 42) _ rfl wr.heap.size 22 i1 _ 24 Try.underlying23 hi1 hy0 hy1 hy2 rfl (.slice (some ⟨wr.heap.size, 0, none⟩) 1 1) 1 _ rfl hown0 b0 Al nl cl vs rfl ((unhid hrow0 _ _ _ hvr).below (hBa.mono hbz)) hone4 (by simp only [maxLen]; omega) (by omega) (by simp) ?_; intro v3 w3 hown3 hgr3 hat3; obtain ⟨A3, c3, rfl, hc3, hc3m⟩ := own_formT hown3; have hMb := hMa.grownT hgr3 (fun k hk => by have := own_blockT hown0 k hk; omega) (fun p hp k hk => by have := own_blockT hown0 k hk; simp at hp; rcases hp with rfl | rfl <;> simp <;> omega); have f3 := (hMb.get 0 rfl).frozen 1; have k3 := (hMb.get 0 rfl).cell (i := 1) (v := .slice Al nl cl) rfl)
          have hMd := hMb.setCellT (by omega) (fun p hp => by simp at hp; subst hp; simp) 1 (.slice A3 (1 + nl) c3)
          rw [show (#[.slice none 0 0, .slice Al nl cl] : Array Value).setIfInBounds 1 (.slice A3 (1 + nl) c3) = #[.slice none 0 0, .slice A3 (1 + nl) c3] from rfl] at hMd
          have hkb : ∀ (A : Option Addr) (n : Nat) (xs : List Value), Rd wr wr.heap.size A n xs → Rd w3 wr.heap.size A n xs := fun _ _ _ hr => (hr.below hBa).grown hgr3 (by simp) (own_blockT hown0)
          have hkh := hid_keep hrow0 hkb
          have hs3 : wr.heap.size + 1 ≤ w3.heap.size := by
            have := hgr3.size
            simpa using this
          have hmo : ∀ (A : Option Addr) (n : Nat) (xs : List Value), Rd (hidB wr (w.heap.size + 1) w.heap.size) wr.heap.size A n xs → Rd (hidB w3 (w.heap.size + 1) w.heap.size) w3.heap.size A n xs := fun A n xs hr => (hkh A n xs hr).more (by omega)
          have hS6 := hS5.keep hmo
          have hL6 := (hvl.keep (fun _ _ _ hr => hr.more hbz)).keep hmo
          have hr6 := hmo _ _ _ hr4
          have hN3 := NewA.of_own hown3 (lo := w.heap.size) (by omega)
          have hrv := Rd.of_own (own_hide (g := w.heap.size + 1) (g' := w.heap.size) hown3 (by omega) (by omega))
          rw [hidB_size] at hrv
          have hlI : ((lensF F').map (fun n : Nat => (n : Int))).length = i := by rw [List.length_map, lens_len]; omega
          have hLc := hL6.cons (A := A4) (c := c4) (l := (lensF F').map (fun n : Nat => (n : Int))) (by omega) hcm4 (by rw [hlI, List.map_map]; exact hr6)
          rw [hlI] at hLc
          have hm0 : 0 < m := by
            have h1 := two3_len (lens_two3 ha)
            rw [lens_sum, lens_len] at h1
            have h2 := Hm.out
            omega
          have Hdep2 := Lib.hid (dep_sl (⟨by omega, ⟨_, _, hMd.get 0 rfl⟩, ⟨_, _, hMd.get 1 rfl⟩⟩ : Bx _ (w.heap.size + 1) w.heap.size) (by rw [hidB_setCell]; exact hS6) hkids (by omega) hm0)
          go_roundw
          case rel =>
            refine ⟨k', m, kidsF F', A5, c5, lensF F' :: done, A3, 1 + nl, c3, by omega, rfl, ?_, hkids, ?_, ?_, ?_, by simp; omega, by omega, hc3, hc3m, ⟨.slice A4 i c4 :: vs, ?_, ?_, hN3, hnv.cons hN4⟩, hMd⟩
            · rw [hidB_setCell]; simpa using hS6
            · exact hm0
            · rw [idsF_kids ha, hidF]
            · rw [hlev, levF, List.append_assoc]; rfl
            · rw [hidB_setCell]; simpa using hrv
            · rw [hidB_setCell]; simpa [levI] using hLc
          case measure =>
            rw [Hdep.out, Hdep2.out]
            omega

end Go.Proofs.Ytmganbdbihjbmaa

