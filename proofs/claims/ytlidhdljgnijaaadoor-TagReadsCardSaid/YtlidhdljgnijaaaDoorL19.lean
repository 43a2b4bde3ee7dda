import Derived.Test.YtlidhdljgnijaaaDoorL15
import Derived.Test.YtlidhdljgnijaaaDoorL18
/-
  TREES WITH POINTS (layer 13), as functions of lists; a tree's cells.
-/
set_option linter.unusedVariables false
namespace Go.Proofs.YtlidhdljgnijaaaDoor
open Go.RowKit

/-- a tree's cells -/
def tgV (kind : Int) (Ai : Option Addr) (ni ci : Nat) (Al : Option Addr) (nl cl : Nat) (Ap : Option Addr) (np cp : Nat) : Array Value := #[.int .i64 kind, .slice Ai ni ci, .slice Al nl cl, .slice Ap np cp]
theorem tgInfo2 {kind : Int} {Ai : Option Addr} {ni ci : Nat} {Al : Option Addr} {nl cl : Nat} {Ap : Option Addr} {np cp : Nat} : (Tryd.prog.info? 28).map (·.size) = some (tgV kind Ai ni ci Al nl cl Ap np cp).size := by kernel_rfl
/-- a tree is read -/
structure TgR (w : World) (B : Nat) (Ai : Option Addr) (ni ci : Nat) (Al : Option Addr) (nl cl : Nat) (ids : List Int) (ll : List (List Int)) (Ap : Option Addr) (np cp : Nat) (ps : List UInt8) : Prop where
  sh : ShR w B Ai ni ci Al nl cl ids ll
  pts : KyR w B Ap np cp ps
theorem TgR.below {w w' : World} {B : Nat} {Ai : Option Addr} {ni ci : Nat} {Al : Option Addr} {nl cl : Nat} {ids : List Int} {ll : List (List Int)} {Ap : Option Addr} {np cp : Nat} {ps : List UInt8} (h : TgR w B Ai ni ci Al nl cl ids ll Ap np cp ps) (hb : Below B w w') : TgR w' B Ai ni ci Al nl cl ids ll Ap np cp ps := ⟨h.sh.below hb, h.pts.below hb⟩
theorem TgR.more {w : World} {B B' : Nat} {Ai : Option Addr} {ni ci : Nat} {Al : Option Addr} {nl cl : Nat} {ids : List Int} {ll : List (List Int)} {Ap : Option Addr} {np cp : Nat} {ps : List UInt8} (h : TgR w B Ai ni ci Al nl cl ids ll Ap np cp ps) (hb : B ≤ B') : TgR w B' Ai ni ci Al nl cl ids ll Ap np cp ps := ⟨h.sh.more hb, h.pts.more hb⟩

/-- the first so many points are some -/
def someP (ps : List UInt8) : Nat → Bool
  | 0 => true
  | j + 1 => someP ps j && !(keyI ps j == zeroK)
/-- may the tree be? -/
def okG (kind : Int) (ids : List Int) (ll : List (List Int)) (np : Nat) (ps : List UInt8) : Bool := mayB kind ids ll && (decide (0 < (nodesI kind ids ll).length) && (decide ((nodesI kind ids ll).length = np) && someP ps np))
def chkG (kind : Int) (ids : List Int) (ll : List (List Int)) (np : Nat) (ps : List UInt8) : Int := if okG kind ids ll np ps = true then 0 else 1
theorem someP_no {ps : List UInt8} {j : Nat} (h : keyI ps j = zeroK) : ∀ m, j < m → someP ps m = false
  | 0, hm => absurd hm (by omega)
  | m + 1, hm => by
    rw [someP]
    by_cases e : j = m
    · subst e
      simp [h]
    · rw [someP_no h m (by omega), Bool.false_and]

/-- is the tree few? -/
def fewG (ids : List Int) (ll : List (List Int)) (np : Nat) : Bool := fewT ids ll && (decide (ids.length ≤ 100) && decide (np ≤ 400))
theorem tg_sh {w : World} {g : Nat} {kind : Int} {Ai : Option Addr} {ni ci : Nat} {Al : Option Addr} {nl cl : Nat} {Ap : Option Addr} {np cp : Nat} (h : RowC w g 28 (tgV kind Ai ni ci Al nl cl Ap np cp)) : w.rangeAt g 1 (shV Ai ni ci Al nl cl).toList :=
  h.mid 1 _ fun j u hu => by
    match j, hu with
    | 0, hu => exact hu
    | 1, hu => exact hu

end Go.Proofs.YtlidhdljgnijaaaDoor

/-
  CONTRACT of the document's Nodes (coterieref11).
-/
set_option linter.unusedVariables false
namespace Go.Proofs.YtlidhdljgnijaaaDoor
open Go.RowKit

set_option maxRecDepth 100000 in
set_option maxHeartbeats 4000000 in
theorem Nodes11_any (kind : Int) (Ai : Option Addr) (ni ci : Nat) (Al : Option Addr) (nl cl : Nat) (ids : List Int) (ll : List (List Int)) (w : World) (h : ShR w w.heap.size Ai ni ci Al nl cl ids ll) (hf : fewT ids ll = true) :
    Calls Tryd.prog 37 #[.int .i64 kind, .agg (shV Ai ni ci Al nl cl)] w (NodesPost w kind ids ll) := by
  have Hni := Lib.hid h.hni
  have Hnl := Lib.hid h.hnl
  have hM := (Ms.nil w).box 25 (shV Ai ni ci Al nl cl)
  have hS1 := (h.below hM.old)
  have hmy := May_any kind Ai ni ci Al nl cl ids ll _ (hS1.more hM.old.size) hf
  have Hpost := Lib.hid (show ∀ A n c er w', Below w.heap.size w w' → er = mayE kind ids ll → NdR w' w'.heap.size A n c (nodesI kind ids ll) → NodesPost w kind ids ll (.returned (.tuple #[.slice A n c, .int .i64 er])) w' from fun A n c er w' h1 h2 h3 => ⟨h1, A, n, c, by rw [h2], h3⟩)
  generalize NodesPost w kind ids ll = PO at *
  obtain ⟨mb, hmb⟩ : ∃ mb, mb = mayB kind ids ll := ⟨_, rfl⟩
  rw [← hmb] at hmy
  have Hmb := Lib.hid hmb
  have hb0 : w.heap.size ≤ w.heap.size := Nat.le_refl _
  clear hmb
  go_enter Tryd.func37, Tryd.ntmps37
  go_wp2_with ((with_reducible show wpList _ _ _ (⟨some 9, _, _, _, _, _⟩ :: _) _ _); refine wpList_loadC (by kernel_rfl) 25 (.tmp 3) rfl w.heap.size rfl 25 (shV Ai ni ci Al nl cl) _ (hM.get 0 rfl) Tryd.underlying25 rfl shapeInfo2 ?_)
  refine hmy.mono ?_
  rintro e w1 ⟨rfl, hb1⟩
  have hM1 := hM.call hb1
  have hS2 := hS1.below (hb1.mono hM.old.size)
  clear hM hb1 hmy hS1
  have hold := hM1.old
  cases mb with
  | false =>
    have Hc := Lib.hid (show (1 : Int) = mayE kind ids ll by rw [mayE, ← Hmb.out]; rfl)
    have Hn := Lib.hid (show nodesI kind ids ll = [] by rw [nodesI, ← Hmb.out]; rfl)
    have hz := NdR.zero w1 w1.heap.size
    rw [← Hn.out] at hz
    clear hM1
    go_wp2_with fail
    (first | exact Hpost.out _ _ _ _ _ hold Hc.out hz | exact bodyPost_ret (results_tmp2 rfl _ _ _) rfl (Hpost.out _ _ _ _ _ hold Hc.out hz))
  | true =>
    have Hc := Lib.hid (show (0 : Int) = mayE kind ids ll by rw [mayE, ← Hmb.out]; rfl)
    have hch : chkT ids ll = true := by
      have := Hmb.out
      rw [mayB] at this
      simp only [Bool.true_eq, Bool.and_eq_true] at this
      exact this.2
    obtain ⟨hn1000, _, hlo, hin⟩ := chkT_lv hch
    have hs := lvOK_sum _ _ hlo
    have hhi := lv_high hch
    have Hlen := Lib.hid (show (lvN ll).length = nl by rw [lvN, List.length_map]; exact Hnl.out)
    rw [← levI_lvN hin] at hS2
    have Hn := Lib.hid (show nodesI kind ids ll = (nodesU kind ids.length (lvN ll)).map RN.i by rw [nodesI, ← Hmb.out]; rfl)
    have k0 := (hM1.get 0 rfl).cell (i := 0) (v := .slice Ai ni ci) rfl
    have k1 := (hM1.get 0 rfl).cell (i := 1) (v := .slice Al nl cl) rfl
    by_cases h0 : ni = 0
    · have Hz := Lib.hid (show nodesI kind ids ll = [] by rw [Hn.out, nodesU, if_pos (by rw [Hni.out]; exact h0)]; rfl)
      have hz := NdR.zero w1 w1.heap.size
      rw [← Hz.out] at hz
      have h0i : (ni : Int) = 0 := by omega
      clear hS2
      go_wp2_with fail
      (first | exact Hpost.out _ _ _ _ _ hold Hc.out hz | exact bodyPost_ret (results_tmp2 rfl _ _ _) rfl (Hpost.out _ _ _ _ _ hold Hc.out hz))
    · have h0i : ¬ (ni : Int) = 0 := by omega
      have hpos : 0 < wideN ids.length (lvN ll) (lvN ll).length := wideN_pos hs (by rw [Hni.out]; omega) _ (Nat.le_refl _)
      have hts := treeOf_size (kind := kind) hs (Nat.le_refl _) hpos
      have hbl := Below_any w.heap.size kind Ai ni ci Al nl cl ids (lvN ll) ids.length hs hn1000 (by omega) (lvN ll).length 0 (Nat.le_refl _) hpos (.slice none 0 0) [] [] w1 hold.size hS2 (OwR.nil _ _) (by simp only [List.length_nil]; omega)
      have Hz := Lib.hid (show nodesI kind ids ll = ((treeOf kind (lvN ll) (lvN ll).length 0).flat 0 (-1)).map RN.i by rw [Hn.out, nodesU, if_neg (by rw [Hni.out]; exact h0)])
      rw [List.length_nil, Nat.zero_add] at hbl
      generalize treeOf kind (lvN ll) (lvN ll).length 0 = T at *
      rw [Hlen.out] at hbl
      have hbl' : Calls Tryd.prog 62 #[.int .i64 kind, .agg (shV Ai ni ci Al nl cl), .slice none 0 0, .int .i64 (nl : Nat), .int .i64 0] w1 (AddPost w.heap.size w1 (.slice none 0 0) [] [] (newV w1.heap.size) T (T.size - 1)) := hbl
      have hbox := hM1.get 0 rfl
      clear hbl hS2 hs hlo hin hch hhi hpos hts
      go_wp2_with ((with_reducible show wpList _ _ _ (⟨some 18, _, _, _, _, _⟩ :: _) _ _); refine wpList_loadC (by kernel_rfl) 25 (.tmp 3) rfl w.heap.size rfl 25 (shV Ai ni ci Al nl cl) _ hbox Tryd.underlying25 rfl shapeInfo2 ?_)
      refine hbl'.mono ?_
      rintro e w2 ⟨v2, us2, rfl, hr2, hg2, _, _⟩
      rw [List.nil_append, List.length_nil] at hr2
      obtain ⟨A2, c2, rfl, _, _⟩ := own_formT hr2.row
      have hnd := hr2.told
      rw [← Hz.out] at hnd
      have hold2 : Below w.heap.size w w2 := hold.grown hg2 hold.size (fun g hg => by simp [Value.ownBlock] at hg)
      clear hbl' hr2 hbox hM1
      go_wp2_with fail
      (first | exact Hpost.out _ _ _ _ _ hold2 Hc.out hnd | exact bodyPost_ret (results_tmp2 rfl _ _ _) rfl (Hpost.out _ _ _ _ _ hold2 Hc.out hnd))

end Go.Proofs.YtlidhdljgnijaaaDoor

/-
  CONTRACT of coterieref13's Check.
-/
set_option linter.unusedVariables false
namespace Go.Proofs.YtlidhdljgnijaaaDoor
open Go.RowKit

set_option maxRecDepth 100000 in
set_option maxHeartbeats 4000000 in
theorem RCheck13 (kind : Int) (Ai : Option Addr) (ni ci : Nat) (Al : Option Addr) (nl cl : Nat) (ids : List Int) (ll : List (List Int)) (Ap : Option Addr) (np cp : Nat) (ps : List UInt8) (w : World) (h : TgR w w.heap.size Ai ni ci Al nl cl ids ll Ap np cp ps) (hf : fewT ids ll = true) :
    Calls Tryd.prog 22 #[.agg (tgV kind Ai ni ci Al nl cl Ap np cp)] w fun e w' => e = .returned (.int .i64 (chkG kind ids ll np ps)) ∧ Below w.heap.size w w' := by
  have hM := (Ms.nil w).box 28 (tgV kind Ai ni ci Al nl cl Ap np cp)
  have hnd := fun wx (hb : Below w.heap.size w wx) => Nodes11_any kind Ai ni ci Al nl cl ids ll wx ((h.sh.below hb).more hb.size) hf
  have Hpost := Lib.hid (show ∀ b w', b = chkG kind ids ll np ps → Below w.heap.size w w' → (fun e w' => e = Ending.returned (Value.int .i64 (chkG kind ids ll np ps)) ∧ Below w.heap.size w w') (.returned (.int .i64 b)) w' from fun b w' h1 h2 => ⟨by rw [h1], h2⟩)
  generalize (fun e w' => e = Ending.returned (Value.int .i64 (chkG kind ids ll np ps)) ∧ Below w.heap.size w w') = PO at *
  have hP := h.pts
  clear h
  go_enter Tryd.func22, Tryd.ntmps22
  go_upto_region 1 with fail
  try simp only [Act.put]
  obtain ⟨g, hg⟩ : ∃ g, g = w.heap.size := ⟨_, rfl⟩
  rw [← hg] at hM ⊢
  refine wp_gen (fun wx => Ms w wx [(g, 28, tgV kind Ai ni ci Al nl cl Ap np cp)]) hM ?_
  clear hM hg
  rintro w0 hM0
  have c0 := (hM0.get 0 rfl).cell (i := 0) (v := .int .i64 kind) rfl
  have hr1 := tg_sh (hM0.get 0 rfl)
  go_wp2_with ((with_reducible show wpList _ _ _ (⟨some 11, _, _, _, _, _⟩ :: _) _ _); refine wpList_load_midG (by kernel_rfl) 25 (.tmp 10) rfl g 1 rfl (shV Ai ni ci Al nl cl).toList _ hr1 Tryd.underlying25 rfl shapeInfo2 ?_)
  refine (hnd _ hM0.old).mono ?_
  rintro e w1 ⟨hb1, An, nn, cn, he, hN⟩
  subst he
  have hM1 := hM0.call hb1
  have hPb := fun wx (hb : Below w.heap.size w wx) => hP.below hb
  have Hl := Lib.hid hN.len
  have Hpl := Lib.hid hP.len
  have hpm : np ≤ maxLen := Nat.le_trans hP.hnc hP.hcm
  unfold maxLen at hpm
  clear hM0 hb1 hnd c0 hr1 hN hP
  have hold := hM1.old
  have c3 := (hM1.get 0 rfl).cell (i := 3) (v := .slice Ap np cp) rfl
  have hbad := Lib.hid (fun (h : okG kind ids ll np ps = false) => (show (1 : Int) = chkG kind ids ll np ps by rw [chkG, h]; rfl))
  obtain ⟨mb, hmb⟩ : ∃ mb, mb = mayB kind ids ll := ⟨_, rfl⟩
  rw [mayE, ← hmb]
  have Hmb := Lib.hid hmb
  clear hmb
  cases mb
  · have Hc := Lib.hid (hbad.out (by rw [okG, ← Hmb.out, Bool.false_and]))
    clear hM1 c3
    go_wp2_with fail
    exact Hpost.out _ _ Hc.out hold
  by_cases hn0 : nn = 0
  · subst hn0
    have Hc := Lib.hid (hbad.out (by rw [okG, Hl.out, decide_eq_false (Nat.lt_irrefl 0), Bool.false_and, Bool.and_false]))
    clear hM1 c3
    go_wp2_with fail
    exact Hpost.out _ _ Hc.out hold
  have zn : ¬ (nn : Int) = 0 := by omega
  have znb : ((nn : Int) == 0) = false := by simpa using zn
  by_cases hnp : nn = np
  rotate_left
  · have Hc := Lib.hid (hbad.out (by rw [okG, Hl.out, decide_eq_false hnp, Bool.false_and, Bool.and_false, Bool.and_false]))
    have zp : ((nn : Int) != (np : Int)) = true := by simp only [bne_iff_ne, ne_eq]; omega
    have zp2 : ¬ (nn : Int) = (np : Int) := by omega
    clear hM1
    go_wp2_with fail
    exact Hpost.out _ _ Hc.out hold
  subst hnp
  have HM1 := Lib.hid hM1
  clear hM1 hold
  go_wp2_with fail
  go_loopw [33] (fun v33 wr => ∃ j : Nat, j ≤ nn ∧ v33 = .int .i64 (j : Int) ∧ Hid (someP ps j = true) ∧ Ms w wr [(g, 28, tgV kind Ai ni ci Al nl cl Ap nn cp)]) (fun v33 _ => nn - (intOf v33).toNat)
  case atStart => exact ⟨0, by omega, rfl, Lib.hid rfl, HM1.out⟩
  case round =>
    clear HM1 c3
    obtain ⟨j, hj, rfl, hs, hM⟩ := hrel
    by_cases hjn : j < nn
    · obtain ⟨b, o, rfl, hb, hr⟩ := (hPb _ hM.old).range hjn
      have hkl := keyI_len Hpl.out hjn
      have zj : (j : Int) < (nn : Int) := by omega
      have hq := fun wx => eql_keyK wx (keyI ps j) zeroK hkl zeroK_len
      rw [keyC_zero] at hq
      have hsz := sizeKeyL hkl
      have hsa := sizeKey hkl
      have hnx := hM.put 36 (keyC zeroK) (keyC (keyI ps j))
      have hput := ((Ms.nil wr).put 36 (keyC zeroK) (keyC (keyI ps j)))
      rw [keyC_zero] at hnx
      have Hk := Lib.hid (show (keyI ps j == zeroK) = false → someP ps (j + 1) = true from fun e => by rw [someP, hs.out, e]; rfl)
      have Hk2 := Lib.hid (show (keyI ps j == zeroK) = true → okG kind ids ll nn ps = false from fun e => by rw [okG, someP_no (beq_iff_eq.1 e) nn hjn, Bool.and_false, Bool.and_false, Bool.and_false])
      generalize (keyI ps j == zeroK) = sb at *
      generalize keyI ps j = ky at *
      have hone := one_keyF ky
      clear hput hs
      go_upto_region 7 with (first
        | ((with_reducible show wpList _ _ _ (⟨some 36, _, _, _, _, _⟩ :: _) _ _); refine wpList_load_midG (by kernel_rfl) 36 (.tmp 35) rfl b (o + j * 32) rfl (keyC ky).toList _ hr Tryd.underlying36 rfl hsz ?_)
        | ((with_reducible show wpList _ _ _ (⟨none, Op.store 36 _ _, _, _, _, _⟩ :: _) _ _); refine wpList_store_row rfl 36 (.tmp 6) (.tmp 36) rfl wr.heap.size (keyC ky) rfl rfl 36 _ (RowC.new _ _ _) hsa (by rw [keyC_size, hkl]; rfl) hone ?_))
      try simp only [Act.put]
      obtain ⟨g6, hg6⟩ : ∃ g, g = wr.heap.size := ⟨_, rfl⟩
      rw [← hg6] at hnx ⊢
      refine wp_gen (fun wx => Ms w wx [(g6, 36, keyC ky), (g, 28, tgV kind Ai ni ci Al nl cl (some ⟨b, o, none⟩) nn cp)]) hnx ?_
      clear hnx hg6 hM hr hsz hone hPb
      rintro w2 hM2
      have HM2 := Lib.hid (hM2.subT (L' := [(g, 28, tgV kind Ai ni ci Al nl cl (some ⟨b, o, none⟩) nn cp)]) (fun p hp => by simp only [List.mem_cons, List.not_mem_nil, or_false] at hp ⊢; exact .inr hp))
      have hrw := hM2.get 0 rfl
      have hold := hM2.old
      clear hM2
      cases sb
      · clear hold
        go_wp2_with ((with_reducible show wpList _ _ _ (⟨some 37, _, _, _, _, _⟩ :: _) _ _); refine wpList_loadC (by kernel_rfl) 36 (.tmp 6) rfl g6 rfl 36 (keyC ky) _ hrw Tryd.underlying36 rfl hsa ?_)
        go_roundw
        case rel => exact ⟨j + 1, by omega, by go_num, Lib.hid (Hk.out rfl), HM2.out⟩
        case measure => simp [intOf]; omega
      · have Hc := Lib.hid (hbad.out (Hk2.out rfl))
        go_wp2_with ((with_reducible show wpList _ _ _ (⟨some 37, _, _, _, _, _⟩ :: _) _ _); refine wpList_loadC (by kernel_rfl) 36 (.tmp 6) rfl g6 rfl 36 (keyC ky) _ hrw Tryd.underlying36 rfl hsa ?_)
        exact Hpost.out _ _ Hc.out hold
    · obtain rfl : j = nn := by omega
      have Hc := Lib.hid (show (0 : Int) = chkG kind ids ll j ps by rw [chkG, okG, Hl.out, ← Hmb.out, hs.out, decide_eq_true (by omega), decide_eq_true rfl]; rfl)
      have hold := hM.old
      clear hM
      go_wp2_with fail
      exact Hpost.out _ _ Hc.out hold

end Go.Proofs.YtlidhdljgnijaaaDoor

/-
  CONTRACT of the document's Path (coterieref11).
-/
set_option linter.unusedVariables false
namespace Go.Proofs.YtlidhdljgnijaaaDoor
open Go.RowKit

def hasI (p : Int) (x : RI) : Bool := decide (x.fr ≤ p) && decide (p < x.to_)
def wayI (p : Int) : Nat → List RI → List Nat
  | _, [] => []
  | i, x :: l => if hasI p x = true then i :: wayI p (i + 1) l else wayI p (i + 1) l
theorem wayI_snoc (p : Int) : ∀ (i : Nat) (l : List RI) (x : RI), wayI p i (l ++ [x]) = wayI p i l ++ (if hasI p x = true then [i + l.length] else [])
  | i, [], x => by simp [wayI]
  | i, y :: l, x => by
    simp only [List.cons_append, wayI, wayI_snoc p (i + 1) l x, List.length_cons, show i + 1 + l.length = i + (l.length + 1) by omega]
    split <;> simp
theorem wayI_of (p : Nat) : ∀ (i : Nat) (l : List RN), wayI (p : Int) i (l.map RN.i) = wayOf p i l
  | _, [] => rfl
  | i, x :: l => by
    have e : hasI (p : Int) x.i = hasP p x := by simp [hasI, hasP, RN.i]
    simp only [List.map_cons, wayI, wayOf, wayI_of p (i + 1) l, e]
theorem wayI_len (p : Int) : ∀ (i : Nat) (l : List RI), (wayI p i l).length ≤ l.length
  | _, [] => by simp [wayI]
  | i, x :: l => by
    have := wayI_len p (i + 1) l
    rw [wayI]
    split <;> simp only [List.length_cons] <;> omega
/-- where a node's cells are -/
theorem NdR.range {w : World} {B : Nat} {A : Option Addr} {n c : Nat} {ns : List RI} (h : NdR w B A n c ns) {k : Nat} {x : RI} (hk : ns[k]? = some x) :
    ∃ b o Au cu, A = some ⟨b, o, none⟩ ∧ b < B ∧ w.rangeAt b (o + k * 7) (riC x (.slice Au x.kids.length cu)) ∧ x.kids.length ≤ cu ∧ cu ≤ maxLen ∧ Rd w B Au x.kids.length (x.kids.map iv) := by
  obtain ⟨us, h1, h2, h3⟩ := h.told
  have hkn : k < n := by have := (List.getElem?_eq_some_iff.1 hk).1; have := h.len; omega
  have hu : us[k]? = some us[k] := List.getElem?_eq_getElem (by omega)
  obtain ⟨Au, cu, e1, e2, e3, e4⟩ := h3 k x _ hk hu
  obtain ⟨b, o, rfl, hb, hc⟩ := h2.pos (by omega)
  refine ⟨b, o, Au, cu, rfl, hb, fun j u hj => ?_, e2, e3, e4⟩
  rw [← e1] at hj
  have hj7 : j < 7 := (List.getElem?_eq_some_iff.1 hj).1
  rw [Nat.add_assoc]
  refine hc (k * 7 + j) u ?_
  rw [cellsI_at ns us k j x _ (by rw [h1, h.len]) hk hu hj7]
  exact hj
def pathE (kind : Int) (ids : List Int) (ll : List (List Int)) (id : Int) : Int := if mayB kind ids ll = true then (if isT ids id = true then 0 else 6) else 1
def pathI (kind : Int) (ids : List Int) (ll : List (List Int)) (id : Int) : List Nat := if mayB kind ids ll = true ∧ isT ids id = true then wayI (belT ids id : Nat) 0 (nodesI kind ids ll) else []
def Path11Post (w : World) (kind : Int) (ids : List Int) (ll : List (List Int)) (id : Int) (e : Ending) (w' : World) : Prop :=
  Below w.heap.size w w' ∧ ∃ A n c, e = .returned (.tuple #[.slice A n c, .int .i64 (pathE kind ids ll id)]) ∧ n ≤ c ∧ c ≤ maxLen ∧ Rd w' w'.heap.size A n (kidV (pathI kind ids ll id))
def zN : Array Value := #[.int .i64 0, .int .i64 0, .bool false, .int .i64 0, .int .i64 0, .slice none 0 0, .int .i64 0]
theorem nodesU_len (kind : Int) (ids : List Int) (ll : List (List Int)) : (nodesI kind ids ll).length ≤ 2000 := by
  rw [nodesI]
  split
  · rename_i h
    rw [mayB, Bool.and_eq_true] at h
    obtain ⟨h1, _, h3, _⟩ := chkT_lv h.2
    have hs := lvOK_sum _ _ h3
    rw [List.length_map, nodesU]
    split
    · simp
    · rename_i h0
      rw [RT.flat_len]
      have := treeOf_size (kind := kind) hs (Nat.le_refl _) (wideN_pos hs (by omega) _ (Nat.le_refl _))
      omega
  · simp

set_option maxRecDepth 100000 in
set_option maxHeartbeats 4000000 in
theorem Path11_any (kind : Int) (Ai : Option Addr) (ni ci : Nat) (Al : Option Addr) (nl cl : Nat) (ids : List Int) (ll : List (List Int)) (id : Int) (w : World) (h : ShR w w.heap.size Ai ni ci Al nl cl ids ll) (hf : fewT ids ll = true) :
    Calls Tryd.prog 42 #[.int .i64 kind, .agg (shV Ai ni ci Al nl cl), .int .i64 id] w (Path11Post w kind ids ll id) := by
  have hM := (Ms.nil w).box 25 (shV Ai ni ci Al nl cl)
  have hS1 := h.below hM.old
  have hmy := May_any kind Ai ni ci Al nl cl ids ll _ (hS1.more hM.old.size) hf
  have Hpost := Lib.hid (show ∀ A n c er w', Below w.heap.size w w' → er = pathE kind ids ll id → n ≤ c → c ≤ maxLen → Rd w' w'.heap.size A n (kidV (pathI kind ids ll id)) → Path11Post w kind ids ll id (.returned (.tuple #[.slice A n c, .int .i64 er])) w' from fun A n c er w' h1 h2 h3 h4 h5 => ⟨h1, A, n, c, by rw [h2], h3, h4, h5⟩)
  generalize Path11Post w kind ids ll id = PO at *
  obtain ⟨mb, hmb⟩ : ∃ mb, mb = mayB kind ids ll := ⟨_, rfl⟩
  rw [← hmb] at hmy
  have Hmb := Lib.hid hmb
  have Hf := Lib.hid hf
  clear hmb hf
  go_enter Tryd.func42, Tryd.ntmps42
  go_wp2_with ((with_reducible show wpList _ _ _ (⟨some 16, _, _, _, _, _⟩ :: _) _ _); refine wpList_loadC (by kernel_rfl) 25 (.tmp 4) rfl w.heap.size rfl 25 (shV Ai ni ci Al nl cl) _ (hM.get 0 rfl) Tryd.underlying25 rfl shapeInfo2 ?_)
  refine hmy.mono ?_
  rintro e w1 ⟨rfl, hb1⟩
  have hM1 := hM.call hb1
  have hS2 := hS1.below (hb1.mono hM.old.size)
  clear hM hb1 hmy hS1
  have hold := hM1.old
  cases mb with
  | false =>
    have Hc := Lib.hid (show (1 : Int) = pathE kind ids ll id by rw [pathE, ← Hmb.out]; rfl)
    have Hn := Lib.hid (show pathI kind ids ll id = [] by rw [pathI, ← Hmb.out]; rfl)
    have hz : Rd w1 w1.heap.size none 0 (kidV (pathI kind ids ll id)) := by rw [Hn.out]; exact Rd.zero _ _ _
    clear hM1
    go_wp2_with fail
    (first | exact Hpost.out _ _ _ _ _ hold Hc.out (Nat.le_refl _) (by simp [maxLen]) hz | exact bodyPost_ret (results_tmp2 rfl _ _ _) rfl (Hpost.out _ _ _ _ _ hold Hc.out (Nat.le_refl _) (by simp [maxLen]) hz))
  | true =>
    have hfd := Find_any Ai ni ci Al nl cl ids id w1 hS2.hni hS2.hci hS2.hmi (hS2.hids.more hold.size)
    have Hble := Lib.hid (belT_le ids id)
    obtain ⟨p, hp⟩ : ∃ p, p = belT ids id := ⟨_, rfl⟩
    obtain ⟨ti, hti⟩ : ∃ ti, ti = isT ids id := ⟨_, rfl⟩
    rw [← hp, ← hti] at hfd
    have Hp := Lib.hid hp
    have Hti := Lib.hid hti
    clear hp hti
    go_wp2_with ((with_reducible show wpList _ _ _ (⟨some 20, _, _, _, _, _⟩ :: _) _ _); refine wpList_loadC (by kernel_rfl) 25 (.tmp 4) rfl w.heap.size rfl 25 (shV Ai ni ci Al nl cl) _ (hM1.get 0 rfl) Tryd.underlying25 rfl shapeInfo2 ?_)
    refine hfd.mono ?_
    rintro e w2 ⟨rfl, hb2⟩
    have hM2 := hM1.call hb2
    have hS3 := hS2.below (hb2.mono hold.size)
    clear hM1 hb2 hfd hS2 hold
    have hold := hM2.old
    cases ti with
    | false =>
      have Hc := Lib.hid (show (6 : Int) = pathE kind ids ll id by rw [pathE, ← Hmb.out, ← Hti.out]; rfl)
      have Hn := Lib.hid (show pathI kind ids ll id = [] by rw [pathI, ← Hti.out, if_neg (by simp)])
      have hz : Rd w2 w2.heap.size none 0 (kidV (pathI kind ids ll id)) := by rw [Hn.out]; exact Rd.zero _ _ _
      clear hM2
      go_wp2_with fail
      (first | exact Hpost.out _ _ _ _ _ hold Hc.out (Nat.le_refl _) (by simp [maxLen]) hz | exact bodyPost_ret (results_tmp2 rfl _ _ _) rfl (Hpost.out _ _ _ _ _ hold Hc.out (Nat.le_refl _) (by simp [maxLen]) hz))
    | true =>
      have Hc := Lib.hid (show (0 : Int) = pathE kind ids ll id by rw [pathE, ← Hmb.out, ← Hti.out]; rfl)
      have Hn := Lib.hid (show pathI kind ids ll id = wayI (p : Nat) 0 (nodesI kind ids ll) by rw [pathI, if_pos ⟨Hmb.out.symm, Hti.out.symm⟩, Hp.out])
      have hnd := Nodes11_any kind Ai ni ci Al nl cl ids ll w2 (hS3.more hold.size) Hf.out
      have Hlen := Lib.hid (nodesU_len kind ids ll)
      go_wp2_with ((with_reducible show wpList _ _ _ (⟨some 29, _, _, _, _, _⟩ :: _) _ _); refine wpList_loadC (by kernel_rfl) 25 (.tmp 4) rfl w.heap.size rfl 25 (shV Ai ni ci Al nl cl) _ (hM2.get 0 rfl) Tryd.underlying25 rfl shapeInfo2 ?_)
      refine hnd.mono ?_
      rintro e w3 ⟨hb3, A, n, c, rfl, hN⟩
      have hold3 := hold.trans (hb3.mono hold.size)
      generalize nodesI kind ids ll = ns at *
      have hnn := hN.len
      have hn2 : n ≤ 2000 := by rw [← hnn]; exact Hlen.out
      have Hnn := Lib.hid hnn
      obtain ⟨i0, hi0, hz0, hz1, hz2⟩ := info_parts intInfo
      clear hnd hM2 hS3 hold hb3 hnn
      go_wp2_with fail
      go_loopw [12, 35] (fun v12 v35 wr => ∃ j : Nat, j ≤ n ∧ v35 = .int .i64 (j : Int) ∧ Ms w3 wr [] ∧ wr.ownsRow w3.heap.size 3 1 v12 (wayI (p : Nat) 0 (ns.take j)).length (kidV (wayI (p : Nat) 0 (ns.take j)))) (fun _ v35 _ => n - (intOf v35).toNat)
      case atStart => exact ⟨0, by omega, rfl, Ms.nil _, World.ownsRow_nil _ _ _ _⟩
      case round =>
        obtain ⟨j, hj, rfl, hM, hown⟩ := hrel
        by_cases hjn : j < n
        · have hjx : j < ns.length := by rw [Hnn.out]; exact hjn
          have hx : ns[j]? = some ns[j] := List.getElem?_eq_getElem hjx
          have Htk := Lib.hid (show wayI (p : Nat) 0 (ns.take (j + 1)) = wayI (p : Nat) 0 (ns.take j) ++ (if hasI (p : Nat) ns[j] = true then [j] else []) by
            rw [List.take_succ_eq_append_getElem hjx, wayI_snoc, List.length_take, Nat.zero_add, Nat.min_eq_left (by omega)])
          have Hwl := Lib.hid (show (wayI (p : Nat) 0 (ns.take j)).length ≤ 2000 by
            have := wayI_len (p : Nat) 0 (ns.take j)
            rw [List.length_take] at this
            omega)
          generalize ns[j] = x at *
          obtain ⟨b, o, Au, cu, rfl, hbb, hrg, _, _, _⟩ := (hN.below hM.old).range hx
          have hP := hM.put 68 zN (riC x (.slice Au x.kids.length cu)).toArray
          have hownP := own_below hown (below_setRow ((Below.refl wr.heap.size wr).alloc (Nat.le_refl _) (.cells zN 68)) (Nat.le_refl _) (riC x (.slice Au x.kids.length cu)).toArray)
          have hszP : wr.heap.size < ((wr.alloc (.cells zN 68)).setRow wr.heap.size (riC x (.slice Au x.kids.length cu)).toArray).heap.size := (hP.get 0 rfl).lt
          have zj : (j : Int) < (n : Int) := by omega
          go_upto_region 11 with (first
            | ((with_reducible show wpList _ _ _ (⟨some 39, _, _, _, _, _⟩ :: _) _ _); refine wpList_load_midG (by kernel_rfl) 68 (.tmp 38) rfl b (o + j * 7) rfl (riC x (.slice Au x.kids.length cu)) _ hrg Tryd.underlying68 rfl rnInfo2 ?_)
            | ((with_reducible show wpList _ _ _ (⟨none, Op.store 68 _ _, _, _, _, _⟩ :: _) _ _); refine wpList_store_row rfl 68 (.tmp 14) (.tmp 39) rfl wr.heap.size (riC x (.slice Au x.kids.length cu)).toArray rfl rfl 68 zN (RowC.new _ _ _) rnInfo2 rfl (by simp [riC, Value.oneCell']) ?_))
          try simp only [Act.put]
          refine wp_gen (fun wx => Ms w3 wx [(wr.heap.size, 68, (riC x (.slice Au x.kids.length cu)).toArray)] ∧ wx.ownsRow w3.heap.size 3 1 u12 (wayI (p : Nat) 0 (ns.take j)).length (kidV (wayI (p : Nat) 0 (ns.take j)))) ⟨hP, hownP⟩ ?_
          clear hP hownP hszP hM hown hrg hx
          rintro w5 ⟨hP, hown⟩
          have k3 := (hP.get 0 rfl).cell (i := 3) (v := .int .i64 x.fr) rfl
          have k4 := (hP.get 0 rfl).cell (i := 4) (v := .int .i64 x.to_) rfl
          have hold5 := hP.old
          by_cases h1 : x.fr ≤ (p : Int)
          · by_cases h2 : (p : Int) < x.to_
            · have hyes : hasI (p : Nat) x = true := by rw [hasI, decide_eq_true h1, decide_eq_true h2]; rfl
              have Ht2 := Lib.hid (show wayI (p : Nat) 0 (ns.take (j + 1)) = wayI (p : Nat) 0 (ns.take j) ++ [j] by rw [Htk.out, if_pos hyes])
              have hal := d_al w5 (.cells #[iv (j : Nat)] 3)
              go_wp2_with (at_builtin; refine wpList_append_rd _ rfl (.tmp 50) (.tmp 52) _ rfl w3.heap.size 3 i0 _ 8 Tryd.underlying22 hi0 hz0 hz1 hz2 rfl u12 (wayI (p : Nat) 0 (ns.take j)).length _ rfl (own_below hown hal) (w5.heap.size + 1) (some ⟨w5.heap.size, 0, none⟩) 1 1 [iv (j : Nat)] rfl (Rd.mk_ _ _ _ rfl (by omega) rfl rfl) (one_ivn [j]) (by have := Hwl.out; simp only [maxLen]; omega) (by have := Hwl.out; omega) (by have := hold5.size; rw [World.size_alloc]; omega) ?_; intro v6 w6 hown6 hgr6 _)
              have hold6 : Below w3.heap.size w3 w6 := (hold5.trans (hal.mono hold5.size)).grown hgr6 (by have := hold5.size; rw [World.size_alloc]; omega) (own_blockT hown)
              have hown7 : w6.ownsRow w3.heap.size 3 1 v6 (wayI (p : Nat) 0 (ns.take (j + 1))).length (kidV (wayI (p : Nat) 0 (ns.take (j + 1)))) := by
                rw [Ht2.out, List.length_append, kidV, List.map_append]
                exact hown6
              go_roundw
              case rel => exact ⟨j + 1, by omega, by go_num, ⟨hold6, fun q hq => by simp at hq⟩, hown7⟩
              case measure => simp [intOf]; omega
            · have hno : ¬ hasI (p : Nat) x = true := by rw [hasI, decide_eq_false h2]; simp
              have hown7 : w5.ownsRow w3.heap.size 3 1 u12 (wayI (p : Nat) 0 (ns.take (j + 1))).length (kidV (wayI (p : Nat) 0 (ns.take (j + 1)))) := by
                rw [Htk.out, if_neg hno, List.append_nil]
                exact hown
              go_wp2_with fail
              go_roundw
              case rel => exact ⟨j + 1, by omega, by go_num, ⟨hold5, fun q hq => by simp at hq⟩, hown7⟩
              case measure => simp [intOf]; omega
          · have hno : ¬ hasI (p : Nat) x = true := by rw [hasI, decide_eq_false h1]; simp
            have hown7 : w5.ownsRow w3.heap.size 3 1 u12 (wayI (p : Nat) 0 (ns.take (j + 1))).length (kidV (wayI (p : Nat) 0 (ns.take (j + 1)))) := by
              rw [Htk.out, if_neg hno, List.append_nil]
              exact hown
            go_wp2_with fail
            go_roundw
            case rel => exact ⟨j + 1, by omega, by go_num, ⟨hold5, fun q hq => by simp at hq⟩, hown7⟩
            case measure => simp [intOf]; omega
        · obtain rfl : n = j := by omega
          rw [← Hnn.out, List.take_length] at hown
          rw [← Hn.out] at hown
          obtain ⟨A9, c9, rfl, hc9, hm9⟩ := own_formT hown
          have hfin := Rd.of_own hown
          have hold9 := hold3.trans (hM.old.mono hold3.size)
          clear hown hM
          go_wp2_with fail
          (first | exact Hpost.out _ _ _ _ _ hold9 Hc.out hc9 hm9 hfin | exact bodyPost_ret (results_tmp2 rfl _ _ _) rfl (Hpost.out _ _ _ _ _ hold9 Hc.out hc9 hm9 hfin))

end Go.Proofs.YtlidhdljgnijaaaDoor

