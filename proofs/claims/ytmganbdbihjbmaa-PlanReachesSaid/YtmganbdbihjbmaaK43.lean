import Derived.Test.YtmganbdbihjbmaaK39
import Derived.Test.YtmganbdbihjbmaaK42
import Derived.Test.YtmganbdbihjbmaaK04
/-
  THE LAWS OF LAYER 12: their live answers true.
-/
set_option linter.unusedVariables false
namespace Go.Proofs.Ytmganbdbihjbmaa
open Go.RowKit

theorem bld_four : bldS [1, 2, 3, 4] [] [] = (0, [1, 2, 3, 4], [[2, 2], [2]]) := by decide +kernel
def liveS : List SI := [⟨2, 0, [1]⟩, ⟨6, 2, [5]⟩]
theorem live_plan : makeE 1 [1, 2, 3, 4] [[2, 2], [2]] [1, 2, 3, 4] [[2, 2], [2]] 1 = 0 ∧ stepsM 1 [1, 2, 3, 4] [[2, 2], [2]] [1, 2, 3, 4] [[2, 2], [2]] [] 1 = liveS := by decide +kernel
theorem live_told {w : World} {b : Nat} {c0 c1 : Nat} (hb : RowC w b 51 #[.int .i64 2, .int .i64 0, .slice (some ⟨c0, 0, none⟩) 1 1, .int .i64 6, .int .i64 2, .slice (some ⟨c1, 0, none⟩) 1 1]) (h0 : Rd w w.heap.size (some ⟨c0, 0, none⟩) 1 [iv 1]) (h1 : Rd w w.heap.size (some ⟨c1, 0, none⟩) 1 [iv 5]) :
    StR w w.heap.size (some ⟨b, 0, none⟩) 2 2 liveS := by
  refine ⟨rfl, ⟨Nat.le_refl _, by simp [maxLen]⟩, fun k x hx => ?_⟩
  match k, hx with
  | 0, hx =>
    have hx := Option.some.inj hx
    subst hx
    exact ⟨b, 0, some ⟨c0, 0, none⟩, 1, rfl, hb.lt, fun j v hv => by
      match j, hv with
      | 0, hv => have hv := Option.some.inj hv; subst hv; exact hb.cell (i := 0) rfl
      | 1, hv => have hv := Option.some.inj hv; subst hv; exact hb.cell (i := 1) rfl
      | 2, hv => have hv := Option.some.inj hv; subst hv; exact hb.cell (i := 2) rfl
      | j + 3, hv => simp [siC] at hv, Nat.le_refl _, by simp [maxLen], h0⟩
  | 1, hx =>
    have hx := Option.some.inj hx
    subst hx
    exact ⟨b, 0, some ⟨c1, 0, none⟩, 1, rfl, hb.lt, fun j v hv => by
      match j, hv with
      | 0, hv => have hv := Option.some.inj hv; subst hv; exact hb.cell (i := 3) rfl
      | 1, hv => have hv := Option.some.inj hv; subst hv; exact hb.cell (i := 4) rfl
      | 2, hv => have hv := Option.some.inj hv; subst hv; exact hb.cell (i := 5) rfl
      | j + 3, hv => simp [siC] at hv, Nat.le_refl _, by simp [maxLen], h1⟩
  | k + 2, hx => simp [liveS] at hx

set_option maxRecDepth 100000 in
set_option maxHeartbeats 4000000 in
theorem live12 (w : World) : Calls Try.prog 9 #[] w fun e w' => e = .returned (.bool true) ∧ Below w.heap.size w w' := by
  have hbl := PBuild_any (some ⟨w.heap.size, 0, none⟩) 4 4 [1, 2, 3, 4] (w.alloc (.cells #[.int .i64 1, .int .i64 2, .int .i64 3, .int .i64 4] 3)) (by omega) (Rd.mk_ _ _ _ rfl (by simp) rfl rfl)
  have hM0 := (Ms.nil w).call (d_al w (.cells #[.int .i64 1, .int .i64 2, .int .i64 3, .int .i64 4] 3))
  obtain ⟨lt1, lt2⟩ := live_plan
  go_enter Try.func9, Try.ntmps9
  go_wp2_with fail
  refine hbl.mono ?_
  rintro e w1 ⟨hb1, Ai, ni, ci, Al, nl, cl, rfl, hsh⟩
  rw [bld_four] at hsh ⊢
  have hM1 := (hM0.call hb1).put 25 #[.slice none 0 0, .slice none 0 0] (shV Ai ni ci Al nl cl)
  have hB3 : Below w1.heap.size w1 ((w1.alloc (.cells #[.slice none 0 0, .slice none 0 0] 25)).setRow w1.heap.size (shV Ai ni ci Al nl cl)) := below_setRow ((Below.refl _ _).alloc (Nat.le_refl _) _) (Nat.le_refl _) _
  have hsh1 := hsh.sh.below hB3
  clear hbl hM0
  go_upto_region 2 with ((with_reducible show wpList _ _ _ (⟨none, Op.store 25 _ _, _, _, _, _⟩ :: _) _ _); refine wpList_store_row rfl 25 (.tmp 1) (.tmp 8) rfl (w1.heap.size) (shV Ai ni ci Al nl cl) rfl rfl 25 _ (RowC.new _ _ _) (sizeSh _ _ _ _ _ _) rfl (one_sh _ _ _ _ _ _) ?_)
  try simp only [Act.put]
  obtain ⟨g1, hg1⟩ : ∃ g, g = w1.heap.size := ⟨_, rfl⟩
  rw [← hg1] at hM1 hsh1 ⊢
  have Hg1 := Lib.hid hg1
  clear hg1
  refine wp_gen (fun wx => Ms w wx [(g1, 25, shV Ai ni ci Al nl cl)] ∧ ShR wx g1 Ai ni ci Al nl cl [1, 2, 3, 4] [[2, 2], [2]]) ⟨hM1, hsh1⟩ ?_
  clear hM1 hsh1 hB3 hsh hb1
  rintro w2 ⟨hM2, hsh2⟩
  have hl2 := (hM2.get 0 rfl).lt
  have hsh3 := hsh2.more (Nat.le_of_lt hl2)
  have hmk := PMake_any 1 Ai ni ci Al nl cl _ _ Ai ni ci Al nl cl _ _ none 0 0 [] 1 w2 hsh3 hsh3 (by decide) (by decide) (Rd.zero _ _ _) (by simp) (fun _ x h => by simp at h) ⟨by decide, by decide⟩
  go_wp2_with (first
    | ((with_reducible show wpList _ _ _ (⟨some 11, _, _, _, _, _⟩ :: _) _ _); refine wpList_loadC (by kernel_rfl) 25 (.tmp 1) rfl g1 rfl 25 (shV Ai ni ci Al nl cl) _ (hM2.get 0 rfl) Try.underlying25 rfl shapeInfo2 ?_)
    | ((with_reducible show wpList _ _ _ (⟨some 12, _, _, _, _, _⟩ :: _) _ _); refine wpList_loadC (by kernel_rfl) 25 (.tmp 1) rfl g1 rfl 25 (shV Ai ni ci Al nl cl) _ (hM2.get 0 rfl) Try.underlying25 rfl shapeInfo2 ?_))
  refine hmk.mono ?_
  rintro e w3 ⟨hb3, Ak, nk, ck, As, ns, cs, he, hPl⟩
  subst he
  rw [lt1]
  rw [lt2] at hPl
  have h2 : 2 = ns := hPl.steps.len
  subst h2
  have hM3 := (hM2.call hb3).old
  have hB4 := below_setRow ((Below.refl w3.heap.size w3).alloc (Nat.le_refl _) (.cells zP 28)) (Nat.le_refl _) (plV Ak nk ck As 2 cs)
  have hPl4 := hPl.below hB4
  have hrw := (Ms.nil w3).put 28 zP (plV Ak nk ck As 2 cs)
  clear hM2 hsh2 hsh3 hmk lt1 lt2 hl2 hb3 hPl
  go_upto_region 3 with ((with_reducible show wpList _ _ _ (⟨none, Op.store 28 _ _, _, _, _, _⟩ :: _) _ _); refine wpList_store_row rfl 28 (.tmp 3) (.tmp 14) rfl w3.heap.size (plV Ak nk ck As 2 cs) rfl rfl 28 zP (RowC.new _ _ _) plInfo2 rfl (by simp [plV, Value.oneCell']) ?_)
  try simp only [Act.put]
  obtain ⟨g2, hg2⟩ : ∃ g, g = w3.heap.size := ⟨_, rfl⟩
  rw [← hg2] at hrw hPl4 ⊢
  refine wp_gen (fun wx => Ms w3 wx [(g2, 28, plV Ak nk ck As 2 cs)] ∧ PlR wx g2 Ak nk ck As 2 cs (keepM 1 [1, 2, 3, 4] [[2, 2], [2]] [1, 2, 3, 4] [[2, 2], [2]] [] 1) liveS) ⟨hrw, hPl4⟩ ?_
  clear hrw hPl4 hB4
  rintro w4 ⟨hM4, hPl⟩
  have hold4 := hM3.trans (hM4.old.mono hM3.size)
  have hr4 := hM4.get 0 rfl
  have hl4 := hr4.lt
  have c0 := hr4.cell (i := 0) (v := .slice Ak nk ck) rfl
  have c1 := hr4.cell (i := 1) (v := .slice As 2 cs) rfl
  have hPl5 := hPl.more (Nat.le_of_lt hl4)
  have hsd := PSends_any Ak nk ck As 2 cs _ _ w4 hPl5 (fun j => by
    rcases j with _ | _ | j
    · decide
    · decide
    · rw [List.take_of_length_le (by simp [liveS])]; decide)
  rw [show sendsT liveS = 2 from by decide] at hsd
  clear hg2 hM3 hM4 Hg1
  go_wp2_with fail
  refine hsd.mono ?_
  rintro e w5 ⟨he, hb5⟩
  subst he
  have hold5 := hold4.trans (hb5.mono hold4.size)
  have c1 := (hr4.call hb5).cell (i := 1) (v := .slice As 2 cs) rfl
  have hSt := (hPl5.steps.below hb5).more hb5.size
  have hbA := d_al w5 (.cells #[.int .i64 1] 3)
  have hbB := c_alloc hbA (.cells #[.int .i64 5] 3)
  have hbC := c_alloc hbB (.cells #[.int .i64 2, .int .i64 0, .slice (some ⟨w5.heap.size, 0, none⟩) 1 1, .int .i64 6, .int .i64 2, .slice (some ⟨w5.heap.size + 1, 0, none⟩) 1 1] 51)
  have hrC := RowC.new ((w5.alloc (.cells #[.int .i64 1] 3)).alloc (.cells #[.int .i64 5] 3)) 51 #[.int .i64 2, .int .i64 0, .slice (some ⟨w5.heap.size, 0, none⟩) 1 1, .int .i64 6, .int .i64 2, .slice (some ⟨w5.heap.size + 1, 0, none⟩) 1 1]
  simp only [World.size_alloc] at hrC
  have hr0 : Rd (w5.alloc (.cells #[.int .i64 1] 3)) (w5.heap.size + 1) (some ⟨w5.heap.size, 0, none⟩) 1 [iv 1] := Rd.new _ _ _
  have hr1 : Rd ((w5.alloc (.cells #[.int .i64 1] 3)).alloc (.cells #[.int .i64 5] 3)) (w5.heap.size + 1 + 1) (some ⟨w5.heap.size + 1, 0, none⟩) 1 [iv 5] := by
    have := Rd.new (w5.alloc (.cells #[.int .i64 1] 3)) 3 #[.int .i64 5]
    simp only [World.size_alloc] at this
    exact this
  have hr0' := ((hr0.alloc (by simp) (.cells #[.int .i64 5] 3)).alloc (by simp) (.cells #[.int .i64 2, .int .i64 0, .slice (some ⟨w5.heap.size, 0, none⟩) 1 1, .int .i64 6, .int .i64 2, .slice (some ⟨w5.heap.size + 1, 0, none⟩) 1 1] 51))
  have hr1' := (hr1.alloc (by simp) (.cells #[.int .i64 2, .int .i64 0, .slice (some ⟨w5.heap.size, 0, none⟩) 1 1, .int .i64 6, .int .i64 2, .slice (some ⟨w5.heap.size + 1, 0, none⟩) 1 1] 51))
  have hSt2 := live_told hrC (hr0'.more (by simp only [World.size_alloc]; omega)) (hr1'.more (by simp only [World.size_alloc]; omega))
  have hSt1 := (hSt.below hbC).more hbC.size
  have hsm := PSame_any12 none 0 0 As 2 cs [] liveS none 0 0 (some ⟨w5.heap.size + 1 + 1, 0, none⟩) 2 2 [] liveS _ ⟨⟨Nat.le_refl _, by simp [maxLen]⟩, Rd.zero _ _ _, hSt1⟩ ⟨⟨Nat.le_refl _, by simp [maxLen]⟩, Rd.zero _ _ _, hSt2⟩
  rw [show samePl [] [] liveS liveS = true from by decide] at hsm
  have hold6 := hold5.trans (hbC.mono hold5.size)
  clear hsd hr4 hl4 hPl hPl5 hSt hbA hbB hbC hrC hr0 hr1 hr0' hr1' hSt2 hSt1 hb5
  go_wp2_with fail
  refine hsm.mono ?_
  rintro e w6 ⟨he, hb6⟩
  subst he
  have hold7 := hold6.trans (hb6.mono hold6.size)
  clear hsm
  go_wp2_with fail
  go_ret
  exact ⟨rfl, hold7⟩

end Go.Proofs.Ytmganbdbihjbmaa

/-
  THE WALK of coterielaw12's few.
-/
set_option linter.unusedVariables false
namespace Go.Proofs.Ytmganbdbihjbmaa
open Go.RowKit

def fewL (ids : List Int) (ll : List (List Int)) (nu : Nat) : Bool := fewT ids ll && decide (ids.length ≤ 120) && decide (nu ≤ 100)
set_option maxRecDepth 100000 in
set_option maxHeartbeats 4000000 in
theorem Few12_any (Ai : Option Addr) (ni ci : Nat) (Al : Option Addr) (nl cl : Nat) (ids : List Int) (ll : List (List Int)) (Au : Option Addr) (nu cu : Nat) (w : World) (h : ShR w w.heap.size Ai ni ci Al nl cl ids ll) :
    Calls Try.prog 10 #[.agg (shV Ai ni ci Al nl cl), .slice Au nu cu] w fun e w' => e = .returned (.bool (fewL ids ll nu)) ∧ Below w.heap.size w w' := by
  have hM0 := (Ms.nil w).box 25 (shV Ai ni ci Al nl cl)
  have hf := FewT_any Ai ni ci Al nl cl ids ll _ ((h.below hM0.old).more hM0.old.size)
  have Hni := Lib.hid h.hni
  have Hpost := Lib.hid (show ∀ r w', r = fewL ids ll nu → Below w.heap.size w w' → (fun e w' => e = Ending.returned (Value.bool (fewL ids ll nu)) ∧ Below w.heap.size w w') (.returned (.bool r)) w' from fun r w' h1 h2 => ⟨by rw [h1], h2⟩)
  have Hfw := Lib.hid (show fewL ids ll nu = (fewT ids ll && decide (ids.length ≤ 120) && decide (nu ≤ 100)) from rfl)
  generalize (fun e w' => e = Ending.returned (Value.bool (fewL ids ll nu)) ∧ Below w.heap.size w w') = PO at *
  have p0 := (hM0.get 0 rfl).cell (i := 0) (v := .slice Ai ni ci) rfl
  have p1 := (hM0.get 0 rfl).cell (i := 1) (v := .slice Al nl cl) rfl
  obtain ⟨bf, hbf⟩ : ∃ bf, bf = fewT ids ll := ⟨_, rfl⟩
  rw [← hbf] at hf Hfw
  clear hbf h
  go_enter Try.func10, Try.ntmps10
  go_wp2_with fail
  refine hf.mono ?_
  rintro e w1 ⟨he, hb1⟩
  subst he
  have hM1 := hM0.call hb1
  have p0 := (hM1.get 0 rfl).cell (i := 0) (v := .slice Ai ni ci) rfl
  have hold := hM1.old
  clear hM0 hM1 hf hb1
  cases bf with
  | false =>
    have Hr := Lib.hid (show false = fewL ids ll nu by rw [Hfw.out]; rfl)
    go_wp2_with fail
    (first | exact Hpost.out _ _ Hr.out hold | exact bodyPost_ret (results_tmp rfl _ _ _) rfl (Hpost.out _ _ Hr.out hold))
  | true =>
    by_cases h1 : ni ≤ 120
    · have z1 : decide ((ni : Int) ≤ 120) = true := decide_eq_true (by omega)
      have z1' : (ni : Int) ≤ 120 := by omega
      by_cases h2 : nu ≤ 100
      · have z2 : decide ((nu : Int) ≤ 100) = true := decide_eq_true (by omega)
        have z2' : (nu : Int) ≤ 100 := by omega
        have Hr := Lib.hid (show true = fewL ids ll nu by rw [Hfw.out, Hni.out, decide_eq_true h1, decide_eq_true h2]; rfl)
        go_wp2_with fail
        (first | exact Hpost.out _ _ Hr.out hold | exact bodyPost_ret (results_tmp rfl _ _ _) rfl (Hpost.out _ _ Hr.out hold))
      · have z2 : decide ((nu : Int) ≤ 100) = false := decide_eq_false (by omega)
        have z2' : ¬ (nu : Int) ≤ 100 := by omega
        have Hr := Lib.hid (show false = fewL ids ll nu by rw [Hfw.out, decide_eq_false h2]; simp)
        go_wp2_with fail
        (first | exact Hpost.out _ _ Hr.out hold | exact bodyPost_ret (results_tmp rfl _ _ _) rfl (Hpost.out _ _ Hr.out hold))
    · have z1 : decide ((ni : Int) ≤ 120) = false := decide_eq_false (by omega)
      have z1' : ¬ (ni : Int) ≤ 120 := by omega
      have Hr := Lib.hid (show false = fewL ids ll nu by rw [Hfw.out, Hni.out, decide_eq_false h1]; simp)
      go_wp2_with fail
      (first | exact Hpost.out _ _ Hr.out hold | exact bodyPost_ret (results_tmp rfl _ _ _) rfl (Hpost.out _ _ Hr.out hold))

end Go.Proofs.Ytmganbdbihjbmaa

/-
  PLANS (layer 12): what is kept has just the members below as the old node, and no two are kept as one: pure facts.
-/
set_option linter.unusedVariables false
namespace Go.Proofs.Ytmganbdbihjbmaa

theorem rise_inj {ids : List Int} (hr : ids.Pairwise (· < ·)) {a b : Nat} (ha : a < ids.length) (hb : b < ids.length) (e : ids.getD a 0 = ids.getD b 0) : a = b := by
  rw [getD_at (List.getElem?_eq_getElem ha), getD_at (List.getElem?_eq_getElem hb)] at e
  rw [List.pairwise_iff_getElem] at hr
  rcases Nat.lt_trichotomy a b with h | h | h
  · have := hr a b ha hb h; omega
  · exact h
  · have := hr b a hb ha h; omega
theorem leafO_inv {was : List RN} {oids : List Int} {id : Int} : ∀ j, j ≤ was.length → ∀ q : Nat, leafO oids id 0 (was.take j) (-1) = (q : Int) → ∃ y, was[q]? = some y ∧ y.lev = 0 ∧ oids.getD y.at_ 0 = id
  | 0, _, q, h => by simp [leafO] at h
  | j + 1, hj, q, h => by
    have hx := List.getElem?_eq_getElem (show j < was.length by omega)
    rw [leafO_take hx] at h
    split at h
    · next c =>
      have : j = q := by omega
      subst this
      exact ⟨_, hx, c.1, c.2⟩
    · exact leafO_inv j (by omega) q h
theorem leafO_hit {was : List RN} {oids : List Int} {id : Int} {p : Nat} {y : RN} (hp : was[p]? = some y) (h0 : y.lev = 0) (hid : oids.getD y.at_ 0 = id) : ∀ m, p + 1 + m ≤ was.length → ∃ q : Nat, leafO oids id 0 (was.take (p + 1 + m)) (-1) = (q : Int)
  | 0, _ => ⟨p, by rw [Nat.add_zero, leafO_take hp, if_pos ⟨h0, hid⟩]⟩
  | m + 1, h => by
    obtain ⟨q, hq⟩ := leafO_hit hp h0 hid m (by omega)
    rw [← Nat.add_assoc, leafO_take (List.getElem?_eq_getElem (show p + 1 + m < was.length by omega))]
    split
    · exact ⟨_, rfl⟩
    · exact ⟨q, hq⟩
section
variable {kind : Int} {oids ids touched : List Int} {by_ : Int} {was now : List RN}
theorem lfT_inv {id : Int} {q : Nat} (h : lfT was oids touched by_ id = (q : Int)) : goneT touched by_ id = false ∧ ∃ y, was[q]? = some y ∧ y.lev = 0 ∧ oids.getD y.at_ 0 = id := by
  unfold lfT at h
  split at h
  · omega
  · next c =>
    refine ⟨by simpa using c, ?_⟩
    have := leafO_inv (was := was) (oids := oids) (id := id) was.length (Nat.le_refl _) q (by rw [List.take_length]; exact h)
    exact this
theorem lfT_leaf (hw : NF kind oids was) {q : Nat} {y : RN} (hy : was[q]? = some y) (h0 : y.lev = 0) (hg : goneT touched by_ (oids.getD y.at_ 0) = false) : lfT was oids touched by_ (oids.getD y.at_ 0) = (q : Int) := by
  have hq := (List.getElem?_eq_some_iff.1 hy).1
  obtain ⟨p, hp⟩ := leafO_hit hy h0 rfl (was.length - (q + 1)) (by omega)
  rw [show q + 1 + (was.length - (q + 1)) = was.length by omega, List.take_length] at hp
  obtain ⟨z, hz, hz0, hzi⟩ := leafO_inv (was := was) was.length (Nat.le_refl _) p (by rw [List.take_length]; exact hp)
  have e := rise_inj hw.rise (hw.leafAt hz hz0).2.2 (hw.leafAt hy h0).2.2 hzi
  have := leaf_one hw hz hy hz0 h0 e
  rw [lfT, hg, if_neg (by simp), hp, this]
/-- why a node that is no leaf is kept -/
theorem asOld_inv {red : Bool} {kids : List Nat} {kp : List Int} (hup : ∀ z ∈ was, z.up = -1 ∨ ∃ u : Nat, z.up = (u : Int) ∧ u < was.length) (hin : ∀ k ∈ kids, kpA kp k = -1 ∨ ∃ q : Nat, kpA kp k = (q : Int) ∧ q < was.length) {u : Nat} (h : asOldT was red kids kp = (u : Int)) :
    ∃ y, was[u]? = some y ∧ y.red = red ∧ kids ≠ [] ∧ kids.map (kpA kp) = castL y.kids := by
  cases kids with
  | nil => simp [asOldT] at h
  | cons k0 ks =>
    rcases hin k0 (by simp) with h0 | ⟨q, h0, hq⟩
    · rw [asOld_no h0] at h; omega
    · have hz := List.getElem?_eq_getElem hq
      rcases hup _ (List.getElem_mem hq) with hzu | ⟨v, hzu, hv⟩
      · rw [asOld_top h0 hz hzu] at h; omega
      · have hy := List.getElem?_eq_getElem hv
        rw [asOld_up h0 hz hzu hy] at h
        split at h
        · next c =>
          have : v = u := by omega
          subst this
          exact ⟨_, hy, c.1, by simp, c.2⟩
        · omega
theorem asOld_miss {red : Bool} {kids : List Nat} {kp : List Int} (hup : ∀ z ∈ was, z.up = -1 ∨ ∃ u : Nat, z.up = (u : Int) ∧ u < was.length) (hin : ∀ k ∈ kids, kpA kp k = -1 ∨ ∃ q : Nat, kpA kp k = (q : Int) ∧ q < was.length) {c : Nat} (hc : c ∈ kids) (hk : kpA kp c = -1) : asOldT was red kids kp = -1 := by
  rcases asOld_in hup red kids kp with h | ⟨u, h, _⟩
  · exact h
  · obtain ⟨y, _, _, _, hm⟩ := asOld_inv hup hin h
    have : kpA kp c ∈ castL y.kids := by rw [← hm]; exact List.mem_map_of_mem hc
    rw [castL, List.mem_map] at this
    obtain ⟨n, _, hn⟩ := this
    rw [hk] at hn
    omega
theorem keep_leaf {lf : Int → Int} (hn : NF kind ids now) {i : Nat} {x : RN} (hx : now[i]? = some x) (h0 : x.lev = 0) : kpA (keepT was ids lf now) i = lf (ids.getD x.at_ 0) := by
  rw [keepT_at hx (fun k hk => (hn.kidUp hx hk).choose_spec.2.2), keepN, if_pos h0]
theorem keep_node {lf : Int → Int} (hn : NF kind ids now) {i : Nat} {x : RN} (hx : now[i]? = some x) (h0 : ¬ x.lev = 0) : kpA (keepT was ids lf now) i = asOldT was x.red x.kids (keepT was ids lf now) := by
  rw [keepT_at hx (fun k hk => (hn.kidUp hx hk).choose_spec.2.2), keepN, if_neg h0]
theorem keep_in (hw : NF kind oids was) (i : Nat) (hi : i < now.length) : kpA (keepT was ids (lfT was oids touched by_) now) i = -1 ∨ ∃ q : Nat, kpA (keepT was ids (lfT was oids touched by_) now) i = (q : Int) ∧ q < was.length := by
  have := keepT_in (was := was) (now := now) (ids := ids) (lf := lfT was oids touched by_) (nf_up hw) (lfT_in was oids touched by_) now.length (Nat.le_refl _) i hi
  rwa [List.take_length] at this
/-- a node and what it is kept as -/
structure KeptAs (oids ids touched : List Int) (by_ : Int) (kp : List Int) (x y : RN) : Prop where
  red : y.red = x.red
  lev : y.lev = 0 ↔ x.lev = 0
  wide : y.to + x.fr = x.to + y.fr
  mem : ∀ n, x.fr + n < x.to → oids.getD (y.fr + n) 0 = ids.getD (x.fr + n) 0 ∧ goneT touched by_ (ids.getD (x.fr + n) 0) = false
  kids : x.kids.map (kpA kp) = castL y.kids
theorem span_keep {kp : List Int} : ∀ (ks qs : List Nat) (a b z z' : Nat), spanK now a ks z → spanK was b qs z' → ks.map (kpA kp) = castL qs →
    (∀ k ∈ ks, ∀ x, now[k]? = some x → x.fr < x.to ∧ ∃ (q : Nat) (y : RN), kpA kp k = (q : Int) ∧ was[q]? = some y ∧ KeptAs oids ids touched by_ kp x y) →
    z' + a = z + b ∧ a ≤ z ∧ ∀ n, a + n < z → oids.getD (b + n) 0 = ids.getD (a + n) 0 ∧ goneT touched by_ (ids.getD (a + n) 0) = false
  | [], [], a, b, z, z', h1, h2, _, _ => by
    have h1 : a = z := h1
    have h2 : b = z' := h2
    exact ⟨by omega, by omega, fun n hn => by omega⟩
  | [], _ :: _, a, b, z, z', _, _, h3, _ => by simp [castL] at h3
  | k :: ks, [], a, b, z, z', _, _, h3, _ => by simp [castL] at h3
  | k :: ks, q :: qs, a, b, z, z', ⟨x, hx, hxf, h1⟩, ⟨y, hy, hyf, h2⟩, h3, h4 => by
    rw [castL, List.map_cons, List.map_cons, List.cons.injEq, ← castL] at h3
    obtain ⟨hlt, q', y', e1, e2, hK⟩ := h4 k (by simp) x hx
    have hqq : q' = q := by omega
    subst hqq
    rw [hy] at e2
    have e2 := Option.some.inj e2
    subst e2
    obtain ⟨i1, i2, i3⟩ := span_keep ks qs x.to y.to z z' h1 h2 h3.2 (fun c hc => h4 c (by simp [hc]))
    have hw := hK.wide
    refine ⟨by omega, by omega, fun n hn => ?_⟩
    by_cases hc : a + n < x.to
    · have := hK.mem n (by omega)
      rw [hxf, hyf] at this
      exact this
    · have := i3 (a + n - x.to) (by omega)
      rw [show y.to + (a + n - x.to) = b + n by omega, show x.to + (a + n - x.to) = a + n by omega] at this
      exact this
theorem keep_ok (hw : NF kind oids was) (hn : NF kind ids now) : ∀ (i : Nat) (x : RN), now[i]? = some x → kpA (keepT was ids (lfT was oids touched by_) now) i = -1 ∨
    ∃ (q : Nat) (y : RN), kpA (keepT was ids (lfT was oids touched by_) now) i = ((q : Nat) : Int) ∧ was[q]? = some y ∧ KeptAs oids ids touched by_ (keepT was ids (lfT was oids touched by_) now) x y := by
  intro i
  induction i using Nat.strongRecOn with
  | ind i ih =>
    intro x hx
    have hi := (List.getElem?_eq_some_iff.1 hx).1
    have hup := nf_up hw
    rcases keep_in (ids := ids) (now := now) (touched := touched) (by_ := by_) hw i hi with h | ⟨q, hq, hql⟩
    · exact .inl h
    · refine .inr ⟨q, was[q], hq, List.getElem?_eq_getElem hql, ?_⟩
      have hy := List.getElem?_eq_getElem hql
      generalize was[q] = y at *
      by_cases h0 : x.lev = 0
      · rw [keep_leaf hn hx h0] at hq
        obtain ⟨hg, z, hz, hz0, hzi⟩ := lfT_inv hq
        rw [hy] at hz
        have hz := Option.some.inj hz
        subst hz
        obtain ⟨x1, x2, x3⟩ := hn.leafAt hx h0
        obtain ⟨y1, y2, y3⟩ := hw.leafAt hy hz0
        have rx : x.red = false := by
          rw [Bool.eq_false_iff]
          exact fun e => ((hn.ok x (List.mem_of_getElem? hx)).2.2.2.1 e).2 h0
        have ry : y.red = false := by
          rw [Bool.eq_false_iff]
          exact fun e => ((hw.ok y (List.mem_of_getElem? hy)).2.2.2.1 e).2 hz0
        refine ⟨by rw [rx, ry], by simp [h0, hz0], by omega, fun n hn' => ?_, ?_⟩
        · obtain rfl : n = 0 := by omega
          rw [Nat.add_zero, Nat.add_zero, x1, y1]
          exact ⟨hzi, hg⟩
        · rw [(hn.kids0 hx).2 h0, (hw.kids0 hy).2 hz0]; rfl
      · rw [keep_node hn hx h0] at hq
        have hin : ∀ k ∈ x.kids, kpA (keepT was ids (lfT was oids touched by_) now) k = -1 ∨ ∃ q : Nat, kpA (keepT was ids (lfT was oids touched by_) now) k = (q : Int) ∧ q < was.length := fun k hk => keep_in hw k (by have := (hn.kidUp hx hk).choose_spec.2.2; omega)
        obtain ⟨z, hz, hzr, hzk, hzm⟩ := asOld_inv hup hin hq
        rw [hy] at hz
        have hz := Option.some.inj hz
        subst hz
        have hyk : y.kids ≠ [] := fun e => by
          rw [e] at hzm
          exact hzk (by simpa [castL] using hzm)
        have hy0 : ¬ y.lev = 0 := fun e => hyk ((hw.kids0 hy).2 e)
        obtain ⟨s1, s2, s3⟩ := span_keep (oids := oids) (ids := ids) (touched := touched) (by_ := by_) x.kids y.kids x.fr y.fr x.to y.to ((hn.kid i x hx).1 hzk) ((hw.kid q y hy).1 hyk) hzm (fun k hk c hc => by
          obtain ⟨_, _, _, hlt⟩ := hn.kidUp hx hk
          refine ⟨(hn.span c (List.mem_of_getElem? hc)).1, ?_⟩
          rcases ih k hlt c hc with h | ⟨q', y', h1, h2, h3⟩
          · have := asOld_miss (red := x.red) hup hin hk h
            rw [this] at hq
            omega
          · exact ⟨q', y', h1, h2, h3⟩)
        exact ⟨hzr, by simp [h0, hy0], by omega, s3, hzm⟩
theorem keep_kids (hw : NF kind oids was) (hn : NF kind ids now) {i : Nat} {x : RN} (hx : now[i]? = some x) (hk : kpA (keepT was ids (lfT was oids touched by_) now) i ≠ -1) {c : Nat} (hc : c ∈ x.kids) : kpA (keepT was ids (lfT was oids touched by_) now) c ≠ -1 := fun e => by
  rcases keep_ok (touched := touched) (by_ := by_) hw hn i x hx with h | ⟨q, y, _, _, h3⟩
  · exact hk h
  · have : kpA (keepT was ids (lfT was oids touched by_) now) c ∈ castL y.kids := by rw [← h3.kids]; exact List.mem_map_of_mem hc
    rw [e, castL, List.mem_map] at this
    obtain ⟨n, _, hn⟩ := this
    omega
theorem keep_inj (hw : NF kind oids was) (hn : NF kind ids now) : ∀ (i j : Nat) (x x' : RN) (q : Nat), now[i]? = some x → now[j]? = some x' → kpA (keepT was ids (lfT was oids touched by_) now) i = (q : Int) → kpA (keepT was ids (lfT was oids touched by_) now) j = (q : Int) → i = j := by
  intro i
  induction i using Nat.strongRecOn with
  | ind i ih =>
    intro j x x' q hx hx' hq hq'
    rcases keep_ok (touched := touched) (by_ := by_) hw hn i x hx with h | ⟨a, y, h1, h2, h3⟩
    · omega
    rcases keep_ok (touched := touched) (by_ := by_) hw hn j x' hx' with h | ⟨a', y', h1', h2', h3'⟩
    · omega
    obtain rfl : a = q := by omega
    obtain rfl : a' = a := by omega
    rw [h2] at h2'
    have e := Option.some.inj h2'
    subst e
    by_cases h0 : x.lev = 0
    · have h0' : x'.lev = 0 := h3'.lev.1 (h3.lev.2 h0)
      obtain ⟨x1, x2, x3⟩ := hn.leafAt hx h0
      obtain ⟨z1, z2, z3⟩ := hn.leafAt hx' h0'
      have m1 := (h3.mem 0 (by omega)).1
      have m2 := (h3'.mem 0 (by omega)).1
      simp only [Nat.add_zero] at m1 m2
      rw [x1] at m1
      rw [z1] at m2
      exact leaf_one hn hx hx' h0 h0' (rise_inj hn.rise x3 z3 (m1.symm.trans m2))
    · have h0' : ¬ x'.lev = 0 := fun e => h0 (h3.lev.1 (h3'.lev.2 e))
      have hk : x.kids ≠ [] := fun e => h0 ((hn.kids0 hx).1 e)
      have hk' : x'.kids ≠ [] := fun e => h0' ((hn.kids0 hx').1 e)
      have hkk := h3.kids.trans h3'.kids.symm
      obtain ⟨k, ks, ek⟩ : ∃ k ks, x.kids = k :: ks := by
        cases h : x.kids with
        | nil => exact absurd h hk
        | cons a l => exact ⟨a, l, rfl⟩
      obtain ⟨k', ks', ek'⟩ : ∃ k ks, x'.kids = k :: ks := by
        cases h : x'.kids with
        | nil => exact absurd h hk'
        | cons a l => exact ⟨a, l, rfl⟩
      have hkm : k ∈ x.kids := by rw [ek]; simp
      have hkm' : k' ∈ x'.kids := by rw [ek']; simp
      obtain ⟨c, hc, hcu, hcl⟩ := hn.kidUp hx hkm
      obtain ⟨c', hc', hcu', _⟩ := hn.kidUp hx' hkm'
      rw [ek, ek', List.map_cons, List.map_cons, List.cons.injEq] at hkk
      have hkne := keep_kids hw hn hx (by rw [h1]; omega) hkm
      rcases keep_in (ids := ids) (now := now) (touched := touched) (by_ := by_) hw k (List.getElem?_eq_some_iff.1 hc).1 with h | ⟨b, hb, _⟩
      · exact absurd h hkne
      · have e := ih k hcl k' c c' b hc hc' hb (by rw [← hkk.1]; exact hb)
        subst e
        rw [hc] at hc'
        have e := Option.some.inj hc'
        subst e
        omega
end

end Go.Proofs.Ytmganbdbihjbmaa

