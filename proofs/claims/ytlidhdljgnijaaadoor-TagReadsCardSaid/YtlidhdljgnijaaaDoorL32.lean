import Derived.Test.YtlidhdljgnijaaaDoorL31
import Derived.Test.YtlidhdljgnijaaaDoorL21
import Derived.Test.YtlidhdljgnijaaaDoorL12
import Derived.Test.YtlidhdljgnijaaaDoorL19
import Derived.Test.YtlidhdljgnijaaaDoorL13
import Derived.Deep.MidRow
import Derived.Test.YtlidhdljgnijaaaDoorL25
/-
  CONTRACTS of coterieref13's Sum and Copy.
-/
set_option linter.unusedVariables false
namespace Go.Proofs.YtlidhdljgnijaaaDoor
open Go.RowKit

/-- the tree's sum; why there is none -/
def sumG (kind : Int) (ids : List Int) (ll : List (List Int)) (np : Nat) (ps : List UInt8) : List UInt8 := if okG kind ids ll np ps = true then keyI (sumsT kind ids ll ps np) (np - 1) else zeroK
theorem okG_np {kind : Int} {ids : List Int} {ll : List (List Int)} {np : Nat} {ps : List UInt8} (h : okG kind ids ll np ps = true) : 0 < np := by
  rw [okG, Bool.and_eq_true, Bool.and_eq_true, Bool.and_eq_true, decide_eq_true_eq, decide_eq_true_eq] at h
  omega
theorem sumsT_len {kind : Int} {ids : List Int} {ll : List (List Int)} {np : Nat} {ps : List UInt8} (h : okG kind ids ll np ps = true) : (sumsT kind ids ll ps np).length = np * 32 := by
  have hm := okG_may h
  rw [okG, Bool.and_eq_true, Bool.and_eq_true, Bool.and_eq_true, decide_eq_true_eq, decide_eq_true_eq] at h
  have h2 := (nodesG_nf hm).1
  have h3 := h.2.2.1
  rw [h2, List.length_map] at h3
  exact sumsJ_len _ _ _ _ (by omega)

set_option maxRecDepth 100000 in
set_option maxHeartbeats 4000000 in
theorem RSum13 (kind : Int) (Ai : Option Addr) (ni ci : Nat) (Al : Option Addr) (nl cl : Nat) (ids : List Int) (ll : List (List Int)) (Ap : Option Addr) (np cp : Nat) (ps : List UInt8) (w : World) (h : TgR w w.heap.size Ai ni ci Al nl cl ids ll Ap np cp ps) (hf : fewT ids ll = true) (hK : KTab w) :
    Calls Tryd.prog 14 #[.agg (tgV kind Ai ni ci Al nl cl Ap np cp)] w fun e w' => e = .returned (.tuple #[.agg (keyC (sumG kind ids ll np ps)), .int .i64 (chkG kind ids ll np ps)]) ∧ Below w.heap.size w w' := by
  have hM := ((Ms.nil w).box 28 (tgV kind Ai ni ci Al nl cl Ap np cp)).box 36 (keyC zeroK)
  simp only [World.size_alloc] at hM
  rw [keyC_zero] at hM
  have hsm := fun wx (hb : Below w.heap.size w wx) => RSums13 kind Ai ni ci Al nl cl ids ll Ap np cp ps wx ((h.below hb).more hb.size) hf (hK.below hb)
  have Hlen := Lib.hid (fun hok => sumsT_len (kind := kind) (ids := ids) (ll := ll) (np := np) (ps := ps) hok)
  have hsz := sizeKey zeroK_len
  have hoz := one_keyF zeroK
  rw [keyC_zero] at hsz hoz
  clear h hf hK
  go_enter Tryd.func14, Tryd.ntmps14
  go_upto_region 1 with fail
  try simp only [Act.put]
  obtain ⟨g, hg⟩ : ∃ g, g = w.heap.size := ⟨_, rfl⟩
  rw [← hg] at hM ⊢
  refine wp_gen (fun wx => Ms w wx [(g + 1, 36, #[.int .u8 0, .int .u8 0, .int .u8 0, .int .u8 0, .int .u8 0, .int .u8 0, .int .u8 0, .int .u8 0, .int .u8 0, .int .u8 0, .int .u8 0, .int .u8 0, .int .u8 0, .int .u8 0, .int .u8 0, .int .u8 0, .int .u8 0, .int .u8 0, .int .u8 0, .int .u8 0, .int .u8 0, .int .u8 0, .int .u8 0, .int .u8 0, .int .u8 0, .int .u8 0, .int .u8 0, .int .u8 0, .int .u8 0, .int .u8 0, .int .u8 0, .int .u8 0]), (g, 28, tgV kind Ai ni ci Al nl cl Ap np cp)]) hM ?_
  have Hg := Lib.hid hg
  clear hM hg
  rintro w0 hM0
  go_wp2_with ((with_reducible show wpList _ _ _ (⟨some 7, _, _, _, _, _⟩ :: _) _ _); refine wpList_loadC (by kernel_rfl) 28 (.tmp 1) rfl g rfl 28 (tgV kind Ai ni ci Al nl cl Ap np cp) _ (hM0.get 1 rfl) Tryd.underlying28 rfl tgInfo2 ?_)
  refine (hsm _ hM0.old).mono ?_
  rintro e w1 ⟨hb1, hor⟩
  have hM1 := hM0.call hb1
  clear hM0 hsm
  rcases hor with ⟨hok, he⟩ | ⟨hok, A, c, he, hown⟩
  · subst he
    have HF := Lib.hid (show sumG kind ids ll np ps = zeroK ∧ chkG kind ids ll np ps = 1 from ⟨by rw [sumG, hok]; rfl, by rw [chkG, hok]; rfl⟩)
    have hrow := hM1.get 0 rfl
    have hold := below_setRow hM1.old (show w.heap.size ≤ g + 1 by have := Hg.out; omega) #[.int .u8 0, .int .u8 0, .int .u8 0, .int .u8 0, .int .u8 0, .int .u8 0, .int .u8 0, .int .u8 0, .int .u8 0, .int .u8 0, .int .u8 0, .int .u8 0, .int .u8 0, .int .u8 0, .int .u8 0, .int .u8 0, .int .u8 0, .int .u8 0, .int .u8 0, .int .u8 0, .int .u8 0, .int .u8 0, .int .u8 0, .int .u8 0, .int .u8 0, .int .u8 0, .int .u8 0, .int .u8 0, .int .u8 0, .int .u8 0, .int .u8 0, .int .u8 0]
    clear hb1 hok
    go_wp2_with ((with_reducible show wpList _ _ _ (⟨none, Op.store 36 _ _, _, _, _, _⟩ :: _) _ _); refine wpList_store_row rfl 36 (.tmp 2) (.tmp 13) rfl (g + 1) #[.int .u8 0, .int .u8 0, .int .u8 0, .int .u8 0, .int .u8 0, .int .u8 0, .int .u8 0, .int .u8 0, .int .u8 0, .int .u8 0, .int .u8 0, .int .u8 0, .int .u8 0, .int .u8 0, .int .u8 0, .int .u8 0, .int .u8 0, .int .u8 0, .int .u8 0, .int .u8 0, .int .u8 0, .int .u8 0, .int .u8 0, .int .u8 0, .int .u8 0, .int .u8 0, .int .u8 0, .int .u8 0, .int .u8 0, .int .u8 0, .int .u8 0, .int .u8 0] rfl rfl 36 _ hrow hsz rfl hoz ?_)
    refine bodyPost_ret (results_cell_two rfl _ _ (g + 1) 36 #[.int .u8 0, .int .u8 0, .int .u8 0, .int .u8 0, .int .u8 0, .int .u8 0, .int .u8 0, .int .u8 0, .int .u8 0, .int .u8 0, .int .u8 0, .int .u8 0, .int .u8 0, .int .u8 0, .int .u8 0, .int .u8 0, .int .u8 0, .int .u8 0, .int .u8 0, .int .u8 0, .int .u8 0, .int .u8 0, .int .u8 0, .int .u8 0, .int .u8 0, .int .u8 0, .int .u8 0, .int .u8 0, .int .u8 0, .int .u8 0, .int .u8 0, .int .u8 0] _ rfl (hrow.row _) Tryd.underlying36 rfl hsz) rfl ⟨?_, hold⟩
    rw [HF.out.1, HF.out.2, keyC_zero]
    rfl
  · subst he
    have HF := Lib.hid (show sumG kind ids ll np ps = keyI (sumsT kind ids ll ps np) (np - 1) ∧ chkG kind ids ll np ps = 0 from ⟨by rw [sumG, hok]; rfl, by rw [chkG, hok]; rfl⟩)
    have hnp := okG_np hok
    obtain ⟨lk, hlk⟩ : ∃ l, l + 1 = np := ⟨np - 1, by omega⟩
    have hkr := KyR.of_own hown
    have hcm := Nat.le_trans hkr.hnc hkr.hcm
    unfold maxLen at hcm
    obtain ⟨b, o, rfl, _, hr⟩ := hkr.range (show lk < np by omega)
    rw [show np - 1 = lk by omega] at HF
    have hkl := keyI_len (Hlen.out hok) (show lk < np by omega)
    generalize keyI (sumsT kind ids ll ps np) lk = ky at *
    have hsk := sizeKeyL hkl
    have hsa := sizeKey hkl
    have hone := one_keyF ky
    have zk : IntKind.i64.wrap ((np : Int) - 1) = (lk : Int) := by rw [IntKind.wrap_i64]; omega
    have zl : (lk : Int) < (np : Int) := by omega
    have hrow := hM1.get 0 rfl
    have hold := below_setRow hM1.old (show w.heap.size ≤ g + 1 by have := Hg.out; omega) (keyC ky)
    clear hb1 hok hown hkr hlk
    go_wp2_with (first
      | ((with_reducible show wpList _ _ _ (⟨some 20, _, _, _, _, _⟩ :: _) _ _); refine wpList_load_midG (by kernel_rfl) 36 (.tmp 19) rfl b (o + lk * 32) rfl (keyC ky).toList _ hr Tryd.underlying36 rfl hsk ?_)
      | ((with_reducible show wpList _ _ _ (⟨none, Op.store 36 _ _, _, _, _, _⟩ :: _) _ _); refine wpList_store_row rfl 36 (.tmp 2) (.tmp 20) rfl (g + 1) (keyC ky) rfl rfl 36 _ hrow hsa (by rw [keyC_size, hkl]; rfl) hone ?_))
    refine bodyPost_ret (results_cell_two rfl _ _ (g + 1) 36 (keyC ky) _ rfl (hrow.row _) Tryd.underlying36 rfl hsa) rfl ⟨?_, hold⟩
    rw [HF.out.1, HF.out.2]
    rfl

end Go.Proofs.YtlidhdljgnijaaaDoor

/-
  CONTRACT of coterieref13's Copy.
-/
set_option linter.unusedVariables false
namespace Go.Proofs.YtlidhdljgnijaaaDoor
open Go.RowKit

def CopyGPost (w : World) (kind : Int) (ids : List Int) (ll : List (List Int)) (np : Nat) (ps : List UInt8) (e : Ending) (w' : World) : Prop :=
  Below w.heap.size w w' ∧ ∃ Ai ni ci Al nl cl Ap cp, e = .returned (.agg (tgV kind Ai ni ci Al nl cl Ap np cp)) ∧ ShR w' w'.heap.size Ai ni ci Al nl cl ids ll ∧ w'.ownsRow w.heap.size 36 32 (.slice Ap np cp) np (ps.map bv) ∧
    ∃ B0, B0 ≤ w'.heap.size ∧ ShR w' B0 Ai ni ci Al nl cl ids ll ∧ ∀ q, (Value.slice Ap np cp).ownBlock = some q → B0 ≤ q

theorem own_lowK {w : World} {base base' size : Nat} {e : TypeId} {v : Value} {n : Nat} {xs : List Value} (h : w.ownsRow base' e size v n xs) (hb : base ≤ base') : w.ownsRow base e size v n xs := by
  obtain ⟨h1, h | ⟨g, cap, cur, e1, e2, r⟩⟩ := h
  · exact ⟨h1, .inl h⟩
  · exact ⟨h1, .inr ⟨g, cap, cur, e1, by omega, r⟩⟩
theorem grown_setRowK (w : World) (g : Nat) (cs : Array Value) : w.grownBy (w.setRow g cs) (some g) :=
  ⟨rfl, rfl, rfl, by simp [World.setRow], fun k _ hk => setRow_other w g k cs (fun e => hk (by rw [e]))⟩
set_option maxRecDepth 100000 in
set_option maxHeartbeats 4000000 in
theorem RCopy13 (kind : Int) (Ai : Option Addr) (ni ci : Nat) (Al : Option Addr) (nl cl : Nat) (ids : List Int) (ll : List (List Int)) (Ap : Option Addr) (np cp : Nat) (ps : List UInt8) (w : World) (h : TgR w w.heap.size Ai ni ci Al nl cl ids ll Ap np cp ps) (hf : fewT ids ll = true) (hnp : np ≤ 1000000) :
    Calls Tryd.prog 10 #[.agg (tgV kind Ai ni ci Al nl cl Ap np cp)] w (CopyGPost w kind ids ll np ps) := by
  obtain ⟨iK, hiK, hzK, hsK, hbK⟩ := info_parts infoKeyK
  have hM := ((Ms.nil w).box 28 (tgV kind Ai ni ci Al nl cl Ap np cp)).box 28 #[.int .i64 0, .slice none 0 0, .slice none 0 0, .slice none 0 0]
  simp only [World.size_alloc] at hM
  have hcp := fun wx (hb : Below w.heap.size w wx) => CopyT_any Ai ni ci Al nl cl ids ll wx ((h.sh.below hb).more hb.size) hf
  have hpts := fun wx (hb : Below w.heap.size w wx) => (h.pts.below hb).row
  have Hpost := Lib.hid (show ∀ w' Ai ni ci Al nl cl Ap cp, Below w.heap.size w w' → w'.ownsRow w.heap.size 36 32 (.slice Ap np cp) np (ps.map bv) → (∃ B0, B0 ≤ w'.heap.size ∧ ShR w' B0 Ai ni ci Al nl cl ids ll ∧ ∀ q, (Value.slice Ap np cp).ownBlock = some q → B0 ≤ q) → CopyGPost w kind ids ll np ps (.returned (.agg (tgV kind Ai ni ci Al nl cl Ap np cp))) w' from fun w' _ _ _ _ _ _ _ _ h1 h3 h4 => ⟨h1, _, _, _, _, _, _, _, _, rfl, h4.choose_spec.2.1.more h4.choose_spec.1, h3, h4⟩)
  generalize CopyGPost w kind ids ll np ps = PO at *
  have hni := h.sh.hni
  have hnl := h.sh.hnl
  have Hl := Lib.hid (And.intro hni hnl)
  clear h hf hni hnl
  go_enter Tryd.func10, Tryd.ntmps10
  go_upto_region 1 with fail
  try simp only [Act.put]
  obtain ⟨g, hg⟩ : ∃ g, g = w.heap.size := ⟨_, rfl⟩
  rw [← hg] at hM ⊢
  refine wp_gen (fun wx => Ms w wx [(g + 1, 28, #[.int .i64 0, .slice none 0 0, .slice none 0 0, .slice none 0 0]), (g, 28, tgV kind Ai ni ci Al nl cl Ap np cp)]) hM ?_
  have Hg := Lib.hid hg
  clear hM hg
  rintro w0 hM0
  have hr1 := tg_sh (hM0.get 1 rfl)
  have hg0 := (hM0.get 0 rfl).lt
  go_wp2_with ((with_reducible show wpList _ _ _ (⟨some 4, _, _, _, _, _⟩ :: _) _ _); refine wpList_load_midG (by kernel_rfl) 25 (.tmp 3) rfl g 1 rfl (shV Ai ni ci Al nl cl).toList _ hr1 Tryd.underlying25 rfl shapeInfo2 ?_)
  refine (hcp _ hM0.old).mono ?_
  rintro e w1 ⟨hb1, Ai', ni', ci', Al', nl', cl', he, hS⟩
  subst he
  obtain rfl : ni' = ni := by have := Hl.out.1; have := hS.sh.hni; omega
  obtain rfl : nl' = nl := by have := Hl.out.2; have := hS.sh.hnl; omega
  have hM1 := hM0.call hb1
  have hrow := hM1.get 1 rfl
  have hth : w1.there g 1 (shV Ai' ni' ci' Al' nl' cl').size := fun j hj => by
    have hj2 : j < 2 := hj
    refine ⟨?_, hrow.frozen _⟩
    match j, hj2 with
    | 0, _ => rw [hrow.cell (i := 1) (v := .slice Ai ni' ci) rfl]; rfl
    | 1, _ => rw [hrow.cell (i := 2) (v := .slice Al nl' cl) rfl]; rfl
  have hsw := hM1.swap
  have hgw : w.heap.size ≤ g := by have := Hg.out; omega
  have hM2 := (hsw.setCell hgw (fun p hp => by simp only [List.mem_cons, List.not_mem_nil, or_false] at hp; subst hp; simp) 1 (.slice Ai' ni' ci')).setCell hgw (fun p hp => by simp only [List.mem_cons, List.not_mem_nil, or_false] at hp; subst hp; simp) 2 (.slice Al' nl' cl')
  have hgl : g < w0.heap.size := by omega
  have hS2 := (hS.keep (w' := w1.setCell ⟨g, 1, none⟩ (.slice Ai' ni' ci')) (B' := w1.heap.size) (fun A n xs hn hr => Rd.setCellN hgl _ hr hn)).keep (w' := (w1.setCell ⟨g, 1, none⟩ (.slice Ai' ni' ci')).setCell ⟨g, 2, none⟩ (.slice Al' nl' cl')) (B' := w1.heap.size) (fun A n xs hn hr => Rd.setCellN hgl _ hr hn)
  go_upto_region 2 with ((with_reducible show wpList _ _ _ (⟨none, Op.store 25 _ _, _, _, _, _⟩ :: _) _ _); refine wpList_store_mid rfl 25 (.tmp 6) (.tmp 5) rfl g 1 (shV Ai' ni' ci' Al' nl' cl') rfl rfl hth shapeInfo2 (by simp [shV, Value.oneCell']) ?_)
  try simp only [Act.put]
  refine wp_gen (fun wx => Ms w wx [(g, 28, tgV kind Ai' ni' ci' Al' nl' cl' Ap np cp), (g + 1, 28, #[.int .i64 0, .slice none 0 0, .slice none 0 0, .slice none 0 0])] ∧ ShN w0.heap.size wx wx.heap.size Ai' ni' ci' Al' nl' cl' ids ll) ⟨hM2, by
    have e : ((w1.setCell ⟨g, 1, none⟩ (.slice Ai' ni' ci')).setCell ⟨g, 2, none⟩ (.slice Al' nl' cl')).heap.size = w1.heap.size := by simp [World.setCell]
    have := hS2
    rw [← e] at this
    exact this⟩ ?_
  clear hM2 hS2 hM1 hS hsw hth hrow hM0 hr1 hb1 hcp
  rintro w3 ⟨hM3, hS3⟩
  have hlo : g + 2 ≤ w0.heap.size := by omega
  have hs3 := hM3.old.size
  have hg3 := (hM3.get 1 rfl).lt
  have c3 := (hM3.get 0 rfl).cell (i := 3) (v := .slice Ap np cp) rfl
  have hr3 := hpts _ hM3.old
  go_upto_region 3 with (at_builtin; refine wpList_append_ky _ (by kernel_rfl) (.const (.slice none 0 0)) (.tmp 8) _ rfl (g + 2) 36 iK _ 32 32 Tryd.underlying26 hiK hzK hsK hbK rfl (by omega) (.slice none 0 0) 0 [] rfl (World.ownsRow_nil _ _ _ _) w.heap.size Ap np cp (ps.map bv) rfl hr3 (one_bv _) (by simp only [maxLen]; omega) (by omega) (by omega) ?_; intro v4 w4 hown4 hgr4 hat4; rw [Nat.zero_add, List.nil_append] at hown4; have hb4 : Below w3.heap.size w3 w4 := (c_refl w3).grown hgr4 (Nat.le_refl _) (fun z hz => by simp [Value.ownBlock] at hz); have hM4 := hM3.call hb4; have hS4 := hS3.below hb4; have hq4 := hat4; have k3 := (hM4.get 0 rfl).cell (i := 3) (v := .slice Ap np cp) rfl; have f3 := (hM4.get 0 rfl).frozen 3; obtain ⟨A4, c4, rfl, _, _⟩ := own_slK hown4)
  try simp only [Act.put]
  have hM5 := hM4.setCell hgw (fun p hp => by simp only [List.mem_cons, List.not_mem_nil, or_false] at hp; subst hp; simp) 3 (.slice A4 np c4)
  have hS5 := hS4.keep (w' := w4.setCell ⟨g, 3, none⟩ (.slice A4 np c4)) (B' := w3.heap.size) (fun A n xs hn hr => Rd.setCellN hgl _ hr hn)
  have ho5 := hown4.kept (grown_setCell w4 g 3 (.slice A4 np c4)) (by
    cases hv : (Value.slice A4 np c4).ownBlock with
    | none => exact .inl rfl
    | some q =>
      refine .inr ?_
      have := (hown4.lt q hv).1
      intro h
      injection h with h
      omega)
  have e5 : (w4.setCell ⟨g, 3, none⟩ (.slice A4 np c4)).heap.size = w4.heap.size := by simp [World.setCell]
  have hle5 : w3.heap.size ≤ (w4.setCell ⟨g, 3, none⟩ (.slice A4 np c4)).heap.size := by rw [e5]; exact hgr4.size
  have hq5 : ∀ q, (Value.slice A4 np c4).ownBlock = some q → w3.heap.size ≤ q := fun q hq => by
    rcases hat4 with h | h
    · rw [hq] at h; simp [Value.ownBlock] at h
    · rw [hq] at h; injection h with h; omega
  have Hq5 := Lib.hid hq5
  have hg3' : g + 1 < w3.heap.size := hg3
  refine wp_gen (fun wx => Ms w wx [(g, 28, tgV kind Ai' ni' ci' Al' nl' cl' A4 np c4), (g + 1, 28, #[.int .i64 0, .slice none 0 0, .slice none 0 0, .slice none 0 0])] ∧ (ShN w0.heap.size wx w3.heap.size Ai' ni' ci' Al' nl' cl' ids ll ∧ w3.heap.size ≤ wx.heap.size) ∧ wx.ownsRow (g + 2) 36 32 (.slice A4 np c4) np (ps.map bv)) ⟨hM5, ⟨hS5, hle5⟩, ho5⟩ ?_
  clear hM5 hS5 ho5 hM4 hS4 hown4 hgr4 hat4 hb4 k3 f3 c3 hr3 hM3 hS3 e5 hs3 hg3 hpts hq5 hle5 hq4
  rintro w6 ⟨hM6, ⟨hS6, hle6⟩, ho6⟩
  have hrow0 := hM6.get 0 rfl
  have hrow1 := hM6.get 1 rfl
  have hfin := Hpost.out (w6.setRow (g + 1) (tgV kind Ai' ni' ci' Al' nl' cl' A4 np c4)) Ai' ni' ci' Al' nl' cl' A4 c4 (below_setRow hM6.old (by omega) _) (own_lowK (ho6.kept (grown_setRowK w6 (g + 1) (tgV kind Ai' ni' ci' Al' nl' cl' A4 np c4)) (by
    cases hv : (Value.slice A4 np c4).ownBlock with
    | none => exact .inl rfl
    | some q =>
      refine .inr ?_
      have := (ho6.lt q hv).1
      intro h
      injection h with h
      omega)) (by omega)) ⟨w3.heap.size, by rw [show (w6.setRow (g + 1) (tgV kind Ai' ni' ci' Al' nl' cl' A4 np c4)).heap.size = w6.heap.size by simp [World.setRow]]; exact hle6, (hS6.keep (w' := w6.setRow (g + 1) (tgV kind Ai' ni' ci' Al' nl' cl' A4 np c4)) (B' := w3.heap.size) (fun A n xs hn hr => Rd.setRowN (by omega) _ hr hn)).sh, Hq5.out⟩
  clear hM6 hS6 ho6
  go_wp2_with (first
    | ((with_reducible show wpList _ _ _ (⟨some 11, _, _, _, _, _⟩ :: _) _ _); refine wpList_loadC (by kernel_rfl) 28 (.tmp 1) rfl g rfl 28 (tgV kind Ai' ni' ci' Al' nl' cl' A4 np c4) _ hrow0 Tryd.underlying28 rfl tgInfo2 ?_)
    | ((with_reducible show wpList _ _ _ (⟨none, Op.store 28 _ _, _, _, _, _⟩ :: _) _ _); refine wpList_store_row rfl 28 (.tmp 2) (.tmp 11) rfl (g + 1) (tgV kind Ai' ni' ci' Al' nl' cl' A4 np c4) rfl rfl 28 _ hrow1 tgInfo2 rfl (by simp [tgV, Value.oneCell']) ?_))
  refine bodyPost_ret (results_cell_one rfl _ _ (g + 1) 28 (tgV kind Ai' ni' ci' Al' nl' cl' A4 np c4) _ rfl (hrow1.row _) Tryd.underlying28 rfl tgInfo2) rfl ?_
  exact hfin

end Go.Proofs.YtlidhdljgnijaaaDoor

/-
  WHAT THE PROGRAM'S FUNCTIONS OF LAYER 13 ARE ASKED TO DO; the laws' own 'live'.
-/
set_option linter.unusedVariables false
namespace Go.Proofs.YtlidhdljgnijaaaDoor
open Go.RowKit

def HGC : Prop := ∀ (kind : Int) (Ai : Option Addr) (ni ci : Nat) (Al : Option Addr) (nl cl : Nat) (ids : List Int) (ll : List (List Int)) (Ap : Option Addr) (np cp : Nat) (ps : List UInt8) (w : World), TgR w w.heap.size Ai ni ci Al nl cl ids ll Ap np cp ps → fewT ids ll = true →
  Calls Tryd.prog 21 #[.agg (tgV kind Ai ni ci Al nl cl Ap np cp)] w fun e w' => e = .returned (.int .i64 (chkG kind ids ll np ps)) ∧ Below w.heap.size w w'
def HGS : Prop := ∀ (kind : Int) (Ai : Option Addr) (ni ci : Nat) (Al : Option Addr) (nl cl : Nat) (ids : List Int) (ll : List (List Int)) (Ap : Option Addr) (np cp : Nat) (ps : List UInt8) (w : World), TgR w w.heap.size Ai ni ci Al nl cl ids ll Ap np cp ps → fewT ids ll = true → CTab w →
  Calls Tryd.prog 11 #[.agg (tgV kind Ai ni ci Al nl cl Ap np cp)] w (SumsPost w (okG kind ids ll np ps) np (sumsT kind ids ll ps np))
def HGU : Prop := ∀ (kind : Int) (Ai : Option Addr) (ni ci : Nat) (Al : Option Addr) (nl cl : Nat) (ids : List Int) (ll : List (List Int)) (Ap : Option Addr) (np cp : Nat) (ps : List UInt8) (w : World), TgR w w.heap.size Ai ni ci Al nl cl ids ll Ap np cp ps → fewT ids ll = true → CTab w →
  Calls Tryd.prog 13 #[.agg (tgV kind Ai ni ci Al nl cl Ap np cp)] w fun e w' => e = .returned (.tuple #[.agg (keyC (sumG kind ids ll np ps)), .int .i64 (chkG kind ids ll np ps)]) ∧ Below w.heap.size w w'
def HGL : Prop := ∀ (kind : Int) (Ai : Option Addr) (ni ci : Nat) (Al : Option Addr) (nl cl : Nat) (ids : List Int) (ll : List (List Int)) (Ap : Option Addr) (np cp : Nat) (ps : List UInt8) (id : Int) (w : World), TgR w w.heap.size Ai ni ci Al nl cl ids ll Ap np cp ps → fewT ids ll = true →
  Calls Tryd.prog 15 #[.agg (tgV kind Ai ni ci Al nl cl Ap np cp), .int .i64 id] w fun e w' => e = .returned (.tuple #[.int .i64 (leafG kind ids ll np ps id), .int .i64 (leafE kind ids ll np ps id)]) ∧ Below w.heap.size w w'
def HGW : Prop := ∀ (kind : Int) (Ai : Option Addr) (ni ci : Nat) (Al : Option Addr) (nl cl : Nat) (ids : List Int) (ll : List (List Int)) (Ap : Option Addr) (np cp : Nat) (ps : List UInt8) (w : World), TgR w w.heap.size Ai ni ci Al nl cl ids ll Ap np cp ps → fewT ids ll = true →
  Calls Tryd.prog 17 #[.agg (tgV kind Ai ni ci Al nl cl Ap np cp)] w (WritePost w (okG kind ids ll np ps) (writeT kind ids ll ps))
def HGM : Prop := ∀ (kind : Int) (Ai : Option Addr) (ni ci : Nat) (Al : Option Addr) (nl cl : Nat) (ids : List Int) (ll : List (List Int)) (Ap : Option Addr) (np cp : Nat) (ps : List UInt8) (kind' : Int) (Ai' : Option Addr) (ni' ci' : Nat) (Al' : Option Addr) (nl' cl' : Nat) (ids' : List Int) (ll' : List (List Int)) (Ap' : Option Addr) (np' cp' : Nat) (ps' : List UInt8) (w : World),
  TgR w w.heap.size Ai ni ci Al nl cl ids ll Ap np cp ps → TgR w w.heap.size Ai' ni' ci' Al' nl' cl' ids' ll' Ap' np' cp' ps' → np ≤ 1000000 → np' ≤ 1000000 → fewT ids ll = true → fewT ids' ll' = true →
  Calls Tryd.prog 23 #[.agg (tgV kind Ai ni ci Al nl cl Ap np cp), .agg (tgV kind' Ai' ni' ci' Al' nl' cl' Ap' np' cp')] w fun e w' => e = .returned (.bool (sameG kind ids ll ps kind' ids' ll' ps')) ∧ Below w.heap.size w w'

def liveP : List UInt8 := 1 :: List.replicate 31 0
theorem live_ok : okG 1 [7] [] 1 liveP = true := by rfl

set_option maxRecDepth 100000 in
set_option maxHeartbeats 8000000 in
theorem live13 (hC : HGC) (hS : HGS) (hU : HGU) (w : World) (hT : CTab w) : Calls Tryd.prog 8 #[] w fun e w' => e = .returned (.bool true) ∧ Below w.heap.size w w' := by
  go_enter Tryd.func8, Tryd.ntmps8
  go_upto_region 2 with fail
  try simp only [Act.put]
  have hal0 := d_al w (.cells #[.int .i64 7] 3)
  have hal1 := d_al (w.alloc (.cells #[.int .i64 7] 3)) (.cells (keyC liveP) 36)
  have hal2 := d_al ((w.alloc (.cells #[.int .i64 7] 3)).alloc (.cells (keyC liveP) 36)) (.cells (tgV 1 (some ⟨w.heap.size, 0, none⟩) 1 1 none 0 0 (some ⟨w.heap.size + 1, 0, none⟩) 1 1) 28)
  have hz1 : (w.alloc (.cells #[.int .i64 7] 3)).heap.size = w.heap.size + 1 := by simp
  have hz2 : ((w.alloc (.cells #[.int .i64 7] 3)).alloc (.cells (keyC liveP) 36)).heap.size = w.heap.size + 1 + 1 := by simp
  have hrI := ((Rd.mk_ w 3 #[.int .i64 7] (b := w.heap.size) (B := w.heap.size + 1) (n := 1) (l := [7].map iv) rfl (by omega) rfl rfl).below (hal1.mono (Nat.le_of_eq hz1.symm))).below (hal2.mono (by omega))
  have hrK := (RowC.new (w.alloc (.cells #[.int .i64 7] 3)) 36 (keyC liveP)).alloc (.cells (tgV 1 (some ⟨w.heap.size, 0, none⟩) 1 1 none 0 0 (some ⟨w.heap.size + 1, 0, none⟩) 1 1) 28)
  have hrT := RowC.new ((w.alloc (.cells #[.int .i64 7] 3)).alloc (.cells (keyC liveP) 36)) 28 (tgV 1 (some ⟨w.heap.size, 0, none⟩) 1 1 none 0 0 (some ⟨w.heap.size + 1, 0, none⟩) 1 1)
  rw [hz2] at hrT
  rw [hz1] at hrK
  have hold := c_call (c_call hal0 hal1) hal2
  refine wp_gen (fun wx => Below w.heap.size w wx ∧ RowC wx (w.heap.size + 1 + 1) 28 (tgV 1 (some ⟨w.heap.size, 0, none⟩) 1 1 none 0 0 (some ⟨w.heap.size + 1, 0, none⟩) 1 1) ∧ TgR wx (w.heap.size + 1 + 1) (some ⟨w.heap.size, 0, none⟩) 1 1 none 0 0 [7] [] (some ⟨w.heap.size + 1, 0, none⟩) 1 1 liveP) ⟨hold, hrT, ⟨⟨rfl, rfl, by omega, by omega, by simp [maxLen], by simp [maxLen], hrI.more (by omega), [], Rd.zero _ _ _, Lvs.nil _ _⟩, ⟨⟨by rfl, fun _ => ⟨w.heap.size + 1, 0, rfl, by omega, fun q u hu => by
    rw [Nat.zero_add]
    exact hrK.cell (by simpa [keyC] using hu)⟩⟩, by omega, by simp [maxLen]⟩⟩⟩ ?_
  clear hal0 hal1 hal2 hz1 hz2 hrI hrK hrT hold
  obtain ⟨g, hg⟩ : ∃ g, g = w.heap.size := ⟨_, rfl⟩
  rw [← hg]
  have Hg := Lib.hid hg
  clear hg
  rintro w1 ⟨hb1, hr1, hT1⟩
  have hb1 : Below w.heap.size w w1 := by rw [← Hg.out]; exact hb1
  have hlt1 := hr1.lt
  have hss := hS 1 _ _ _ _ _ _ _ _ _ _ _ _ w1 (hT1.more (Nat.le_of_lt hlt1)) rfl (hT.below hb1)
  rw [live_ok] at hss
  go_wp2_with ((with_reducible show wpList _ _ _ (⟨some 12, _, _, _, _, _⟩ :: _) _ _); refine wpList_loadC (by kernel_rfl) 28 (.tmp 1) rfl (g + 1 + 1) rfl 28 (tgV 1 (some ⟨g, 0, none⟩) 1 1 none 0 0 (some ⟨g + 1, 0, none⟩) 1 1) _ hr1 Tryd.underlying28 rfl tgInfo2 ?_)
  refine hss.mono ?_
  rintro e w2 ⟨hb2, ⟨h, _⟩ | ⟨_, A, c, he, hown⟩⟩
  · cases h
  subst he
  have hb02 := hb1.trans (hb2.mono hb1.size)
  have hr2 := hr1.call hb2
  have hT2 := hT1.below (hb2.mono (Nat.le_of_lt hlt1))
  have hlt2 := hr2.lt
  have hus := hU 1 _ _ _ _ _ _ _ _ _ _ _ _ w2 (hT2.more (Nat.le_of_lt hlt2)) rfl (hT.below hb02)
  rw [show chkG 1 [7] [] 1 liveP = 0 by rw [chkG, live_ok]; rfl] at hus
  clear hss
  go_wp2_with ((with_reducible show wpList _ _ _ (⟨some 17, _, _, _, _, _⟩ :: _) _ _); refine wpList_loadC (by kernel_rfl) 28 (.tmp 1) rfl (g + 1 + 1) rfl 28 (tgV 1 (some ⟨g, 0, none⟩) 1 1 none 0 0 (some ⟨g + 1, 0, none⟩) 1 1) _ hr2 Tryd.underlying28 rfl tgInfo2 ?_)
  refine hus.mono ?_
  rintro e w3 ⟨he, hb3⟩
  subst he
  have hsg : sumG 1 [7] [] 1 liveP = keyI (sumsT 1 [7] [] liveP 1) 0 := by rw [sumG, live_ok]; rfl
  have hkr := (KyR.of_own hown).below hb3
  have hsl := sumsT_len live_ok
  obtain ⟨b, o, rfl, hbb, hrk⟩ := hkr.range (show 0 < 1 by omega)
  have hkl := keyI_len hsl (show 0 < 1 by omega)
  rw [hsg]
  generalize keyI (sumsT 1 [7] [] liveP 1) 0 = k at *
  have hb03 := hb02.trans (hb3.mono hb02.size)
  have hr3 := hr2.call hb3
  have hT3 := hT2.below (hb3.mono (Nat.le_of_lt hlt2))
  have hsa := sizeKey hkl
  have hone := one_keyF k
  have hput := (Ms.nil w3).put 36 (keyC zeroK) (keyC k)
  rw [keyC_zero] at hput
  clear hus hown hkr hsl hsg
  go_upto_region 4 with ((with_reducible show wpList _ _ _ (⟨none, Op.store 36 _ _, _, _, _, _⟩ :: _) _ _); refine wpList_store_row rfl 36 (.tmp 4) (.tmp 19) rfl w3.heap.size (keyC k) rfl rfl 36 _ (RowC.new _ _ _) hsa (by rw [keyC_size, hkl]; rfl) hone ?_)
  try simp only [Act.put]
  obtain ⟨gk, hgk⟩ : ∃ q, q = w3.heap.size := ⟨_, rfl⟩
  rw [← hgk] at hput ⊢
  refine wp_gen (fun wx => Ms w3 wx [(gk, 36, keyC k)]) hput ?_
  clear hput hgk hone
  rintro w4 hM4
  have hb04 := hb03.trans (hM4.old.mono hb03.size)
  have hr4 := hr3.call hM4.old
  have hT4 := hT3.below (hM4.old.mono (Nat.le_of_lt hr3.lt))
  have hrk4 := rangeW hrk (Nat.lt_of_lt_of_le hbb hb3.size) hM4.old
  rw [show o + 0 * 32 = o by omega] at hrk4
  have hbb4 : b < w4.heap.size := Nat.lt_of_lt_of_le (Nat.lt_of_lt_of_le hbb hb3.size) hM4.old.size
  have hkr4 := hM4.get 0 rfl
  have hq := fun wx : World => eql_keyK wx k k hkl hkl
  rw [beq_self_eq_true] at hq
  have hsk := sizeKeyL hkl
  have hkeep : ∀ wx : World, Below w4.heap.size w4 wx → (wx.rangeAt b o (keyC k).toList ∧ wx.rangeAt gk 0 (keyC k).toList) ∧ wx.rangeAt (g + 1 + 1) 0 (tgV 1 (some ⟨g, 0, none⟩) 1 1 none 0 0 (some ⟨g + 1, 0, none⟩) 1 1).toList := fun wx hbx => ⟨⟨rangeW hrk4 hbb4 hbx, (hkr4.call hbx).range⟩, (hr4.call hbx).range⟩
  have hcs := fun wx (hbx : Below w4.heap.size w4 wx) => hC 1 _ _ _ _ _ _ _ _ _ _ _ _ wx ((hT4.below (hbx.mono (Nat.le_of_lt hr4.lt))).more (Nat.le_trans (Nat.le_of_lt hr4.lt) hbx.size)) rfl
  rw [show chkG 1 [7] [] 1 liveP = 0 by rw [chkG, live_ok]; rfl] at hcs
  have hun := Tryd.underlying36
  have hunT := Tryd.underlying28
  have hiT : (Tryd.prog.info? 28).map (·.size) = some (tgV 1 (some ⟨g, 0, none⟩) 1 1 none 0 0 (some ⟨g + 1, 0, none⟩) 1 1).toList.length := by kernel_rfl
  clear hM4 hr3 hT3 hrk hr1 hT1 hr2 hT2 hb1 hb2 hb3 hb02 hb03 hlt1 hlt2
  refine beginT (fun wx : World => (wx.rangeAt b o (keyC k).toList ∧ wx.rangeAt gk 0 (keyC k).toList) ∧ wx.rangeAt (g + 1 + 1) 0 (tgV 1 (some ⟨g, 0, none⟩) 1 1 none 0 0 (some ⟨g + 1, 0, none⟩) 1 1).toList) 24 (by kernel_rfl) ?_
  have hS0 := hkeep _ (c_drew (c_refl _))
  refine takeD 0 (some 21) (.int .i64 0) rfl rfl (by kernel_rfl) (by kernel_rfl) (by kernel_rfl) (by kernel_rfl) (fun _ _ _ h => h) (Or.inl ⟨by kernel_rfl, fun wx hSw => by go_simp⟩) hS0 ?_
  try simp only [Act.put, List.setIfInBounds_toArray, List.set_cons_zero, List.set_cons_succ]
  refine takeD 1 (some 22) (.bool true) rfl rfl (by kernel_rfl) (by kernel_rfl) (by kernel_rfl) (by kernel_rfl) (fun _ _ _ h => h) (Or.inl ⟨by kernel_rfl, fun wx hSw => by go_simp⟩) hS0 ?_
  try simp only [Act.put, List.setIfInBounds_toArray, List.set_cons_zero, List.set_cons_succ]
  refine takeD 2 (some 23) (.bool true) rfl rfl (by kernel_rfl) (by kernel_rfl) (by kernel_rfl) (by kernel_rfl) (fun _ _ _ h => h) (Or.inl ⟨by kernel_rfl, fun wx hSw => by go_simp⟩) hS0 ?_
  try simp only [Act.put, List.setIfInBounds_toArray, List.set_cons_zero, List.set_cons_succ]
  refine takeD 3 (some 24) (.int .i64 0) rfl rfl (by kernel_rfl) (by kernel_rfl) (by kernel_rfl) (by kernel_rfl) (fun _ _ _ h => h) (Or.inl ⟨by kernel_rfl, fun wx hSw => by go_simp⟩) hS0 ?_
  try simp only [Act.put, List.setIfInBounds_toArray, List.set_cons_zero, List.set_cons_succ]
  refine takeD 4 (some 25) (.bool true) rfl rfl (by kernel_rfl) (by kernel_rfl) (by kernel_rfl) (by kernel_rfl) (fun _ _ _ h => h) (Or.inl ⟨by kernel_rfl, fun wx hSw => by go_simp⟩) hS0 ?_
  try simp only [Act.put, List.setIfInBounds_toArray, List.set_cons_zero, List.set_cons_succ]
  refine takeD 5 (some 26) (.bool true) rfl rfl (by kernel_rfl) (by kernel_rfl) (by kernel_rfl) (by kernel_rfl) (fun _ _ _ h => h) (Or.inl ⟨by kernel_rfl, fun wx hSw => by go_simp⟩) hS0 ?_
  try simp only [Act.put, List.setIfInBounds_toArray, List.set_cons_zero, List.set_cons_succ]
  refine takeD 6 (some 27) (.bool true) rfl rfl (by kernel_rfl) (by kernel_rfl) (by kernel_rfl) (by kernel_rfl) (fun _ _ _ h => h) (Or.inl ⟨by kernel_rfl, fun wx hSw => by go_simp⟩) hS0 ?_
  try simp only [Act.put, List.setIfInBounds_toArray, List.set_cons_zero, List.set_cons_succ]
  refine takeD 7 (some 28) (.slice (some ⟨b, o, none⟩) 1 c) rfl rfl (by kernel_rfl) (by kernel_rfl) (by kernel_rfl) (by kernel_rfl) (fun _ _ _ h => h) (Or.inl ⟨by kernel_rfl, fun wx hSw => by go_simp⟩) hS0 ?_
  try simp only [Act.put, List.setIfInBounds_toArray, List.set_cons_zero, List.set_cons_succ]
  refine takeD 8 (some 29) (.int .i64 1) rfl rfl (by kernel_rfl) (by kernel_rfl) (by kernel_rfl) (by kernel_rfl) (fun _ _ _ h => h) (Or.inl ⟨by kernel_rfl, fun wx hSw => by go_simp⟩) hS0 ?_
  try simp only [Act.put, List.setIfInBounds_toArray, List.set_cons_zero, List.set_cons_succ]
  refine takeD 9 (some 30) (.bool true) rfl rfl (by kernel_rfl) (by kernel_rfl) (by kernel_rfl) (by kernel_rfl) (fun _ _ _ h => h) (Or.inl ⟨by kernel_rfl, fun wx hSw => by go_simp⟩) hS0 ?_
  try simp only [Act.put, List.setIfInBounds_toArray, List.set_cons_zero, List.set_cons_succ]
  refine takeD 10 (some 31) (.bool true) rfl rfl (by kernel_rfl) (by kernel_rfl) (by kernel_rfl) (by kernel_rfl) (fun _ _ _ h => h) (Or.inl ⟨by kernel_rfl, fun wx hSw => by go_simp⟩) hS0 ?_
  try simp only [Act.put, List.setIfInBounds_toArray, List.set_cons_zero, List.set_cons_succ]
  refine takeD 11 (some 32) (.bool true) rfl rfl (by kernel_rfl) (by kernel_rfl) (by kernel_rfl) (by kernel_rfl) (fun _ _ _ h => h) (Or.inl ⟨by kernel_rfl, fun wx hSw => by go_simp⟩) hS0 ?_
  try simp only [Act.put, List.setIfInBounds_toArray, List.set_cons_zero, List.set_cons_succ]
  refine takeD 12 (some 33) (.slice (some ⟨b, o, none⟩) 1 c) rfl rfl (by kernel_rfl) (by kernel_rfl) (by kernel_rfl) (by kernel_rfl) (fun _ _ _ h => h) (Or.inl ⟨by kernel_rfl, fun wx hSw => by go_simp⟩) hS0 ?_
  try simp only [Act.put, List.setIfInBounds_toArray, List.set_cons_zero, List.set_cons_succ]
  refine takeD 13 (some 34) (.pointer (some ⟨b, o, none⟩)) rfl rfl (by kernel_rfl) (by kernel_rfl) (by kernel_rfl) (by kernel_rfl) (fun _ _ _ h => h) (Or.inl ⟨by kernel_rfl, fun wx hSw => by go_simp⟩) hS0 ?_
  try simp only [Act.put, List.setIfInBounds_toArray, List.set_cons_zero, List.set_cons_succ]
  refine loadT 14 (some 35) 36 (.tmp 34) b o (keyC k).toList rfl rfl (by kernel_rfl) (by kernel_rfl) (by kernel_rfl) (by kernel_rfl) rfl (by kernel_rfl) rfl (fun wx hSw => hSw.1.1) hun rfl hsk (fun _ _ _ h => h) hS0 ?_
  try simp only [Act.put, List.setIfInBounds_toArray, List.set_cons_zero, List.set_cons_succ, Array.toArray_toList]
  refine loadT 15 (some 36) 36 (.tmp 4) gk 0 (keyC k).toList rfl rfl (by kernel_rfl) (by kernel_rfl) (by kernel_rfl) (by kernel_rfl) rfl (by kernel_rfl) rfl (fun wx hSw => hSw.1.2) hun rfl hsk (fun _ _ _ h => h) hS0 ?_
  try simp only [Act.put, List.setIfInBounds_toArray, List.set_cons_zero, List.set_cons_succ, Array.toArray_toList]
  refine takeD 16 (some 37) (.bool true) rfl rfl (by kernel_rfl) (by kernel_rfl) (by kernel_rfl) (by kernel_rfl) (fun _ _ _ h => h) (Or.inl ⟨by kernel_rfl, fun wx hSw => by go_simp⟩) hS0 ?_
  try simp only [Act.put, List.setIfInBounds_toArray, List.set_cons_zero, List.set_cons_succ]
  refine takeD 17 (some 38) (.bool true) rfl rfl (by kernel_rfl) (by kernel_rfl) (by kernel_rfl) (by kernel_rfl) (fun _ _ _ h => h) (Or.inl ⟨by kernel_rfl, fun wx hSw => by go_simp⟩) hS0 ?_
  try simp only [Act.put, List.setIfInBounds_toArray, List.set_cons_zero, List.set_cons_succ]
  refine takeD 18 (some 39) (.bool true) rfl rfl (by kernel_rfl) (by kernel_rfl) (by kernel_rfl) (by kernel_rfl) (fun _ _ _ h => h) (Or.inl ⟨by kernel_rfl, fun wx hSw => by go_simp⟩) hS0 ?_
  try simp only [Act.put, List.setIfInBounds_toArray, List.set_cons_zero, List.set_cons_succ]
  refine loadT 19 (some 40) 28 (.tmp 1) (g + 1 + 1) 0 (tgV 1 (some ⟨g, 0, none⟩) 1 1 none 0 0 (some ⟨g + 1, 0, none⟩) 1 1).toList rfl rfl (by kernel_rfl) (by kernel_rfl) (by kernel_rfl) (by kernel_rfl) rfl (by kernel_rfl) rfl (fun wx hSw => hSw.2) hunT rfl hiT (fun _ _ _ h => h) hS0 ?_
  try simp only [Act.put, List.setIfInBounds_toArray, List.set_cons_zero, List.set_cons_succ, Array.toArray_toList]
  have hdr : Below w4.heap.size w4 w4.drew := c_drew (c_refl _)
  have hcd := hcs _ hdr
  generalize w4.drew = wd at *
  refine oneT 20 (by kernel_rfl) rfl (fun K2 hK2 => ?_)
  go_simp
  refine hcd.mono ?_
  rintro e w5 ⟨he, hb5⟩
  subst he
  have hS5 := hkeep _ (c_call hdr hb5)
  refine hK2.out _ _ (fun _ => hS5) ?_
  clear hK2 K2
  try simp only [Act.put, List.setIfInBounds_toArray, List.set_cons_zero, List.set_cons_succ, Array.toArray_toList]
  refine takeD 21 (some 42) (.bool true) rfl rfl (by kernel_rfl) (by kernel_rfl) (by kernel_rfl) (by kernel_rfl) (fun _ _ _ h => h) (Or.inl ⟨by kernel_rfl, fun wx hSw => by go_simp⟩) hS5 ?_
  try simp only [Act.put, List.setIfInBounds_toArray, List.set_cons_zero, List.set_cons_succ]
  refine takeD 22 (some 43) (.bool true) rfl rfl (by kernel_rfl) (by kernel_rfl) (by kernel_rfl) (by kernel_rfl) (fun _ _ _ h => h) (Or.inl ⟨by kernel_rfl, fun wx hSw => by go_simp⟩) hS5 ?_
  try simp only [Act.put, List.setIfInBounds_toArray, List.set_cons_zero, List.set_cons_succ]
  refine takeD 23 (some 0) (.bool true) rfl rfl (by kernel_rfl) (by kernel_rfl) (by kernel_rfl) (by kernel_rfl) (fun _ _ _ h => h) (Or.inl ⟨by kernel_rfl, fun wx hSw => by go_simp⟩) hS5 ?_
  try simp only [Act.put, List.setIfInBounds_toArray, List.set_cons_zero]
  refine doneT (by kernel_rfl) ?_ _
  have hfin := (hb04.trans (hdr.mono hb04.size)).trans (hb5.mono (Nat.le_trans hb04.size hdr.size))
  clear hkeep hcs hS5 hcd
  go_wp2_with fail
  go_ret
  exact ⟨rfl, hfin⟩

end Go.Proofs.YtlidhdljgnijaaaDoor

