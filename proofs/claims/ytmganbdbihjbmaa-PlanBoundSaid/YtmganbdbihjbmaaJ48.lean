import Derived.Test.YtmganbdbihjbmaaJ44
import Derived.Test.YtmganbdbihjbmaaJ46
import Derived.Test.YtmganbdbihjbmaaJ47
/-
  WHAT PlanBound's walk asks of the sends.
-/
set_option linter.unusedVariables false
namespace Go.Proofs.Ytmganbdbihjbmaa
open Go.RowKit

theorem sends_take_le (ss : List SI) (j : Nat) : sendsT (ss.take j) ≤ sendsT ss := by
  have h : sendsT ss = sendsT (ss.take j) + sendsT (ss.drop j) := by
    conv => lhs; rw [← List.take_append_drop j ss]
    rw [sendsT, List.map_append, List.sum_append]
    rfl
  omega
/-- the bound, as the walk wants it -/
theorem bound_facts {kind : Int} {xs out inn : List Int} (more : List Int) {by_ : Int} {nt nl : Nat} (ol : Nat) (hmk : makeB kind (oldS xs).1 (oldS xs).2 (chgT xs out inn).1.1 (chgT xs out inn).1.2 by_ = true) (hmo : mayB kind (oldS xs).1 (oldS xs).2 = true) (hms : mayB kind (chgT xs out inn).1.1 (chgT xs out inn).1.2 = true) (hb : by_ ∈ (chgT xs out inn).1.1)
    (ht : ((chgT xs out inn).2 ++ more).length = nt) (hn : (chgT xs out inn).1.2.length = nl) (hnt : nt ≤ 120) :
    (∀ j, sendsT ((stepsM kind (oldS xs).1 (oldS xs).2 (chgT xs out inn).1.1 (chgT xs out inn).1.2 ((chgT xs out inn).2 ++ more) by_).take j) ≤ 4611686018427387904) ∧
    ((sendsT (stepsM kind (oldS xs).1 (oldS xs).2 (chgT xs out inn).1.1 (chgT xs out inn).1.2 ((chgT xs out inn).2 ++ more) by_) : Nat) : Int) ≤ 4 * (2 * (nt : Int) + 1) * (max (ol : Int) (nl : Int) + 2) := by
  have h := sends_bound more hmo hms hb
  have hh := lv_high (chg_chk xs out inn)
  have hl : (lvN (chgT xs out inn).1.2).length = nl := by rw [← hn, lvN, List.length_map]
  rw [hl] at h hh
  rw [ht] at h
  rw [stepsM, hmk, if_pos rfl]
  generalize stepsT _ _ _ _ _ = ss at *
  have h1 : nl * (2 * nt + 1) ≤ 10 * 241 := Nat.mul_le_mul hh (by omega)
  have h2 : nl * (2 * nt + 1) ≤ (max ol nl + 2) * (2 * nt + 1) := Nat.mul_le_mul_right _ (by omega)
  refine ⟨fun j => ?_, ?_⟩
  · have := sends_take_le ss j
    omega
  · have h3 : sendsT ss ≤ 4 * (2 * nt + 1) * (max ol nl + 2) := by
      rw [Nat.mul_assoc, Nat.mul_comm (2 * nt + 1)]
      omega
    have h4 : ((sendsT ss : Nat) : Int) ≤ ((4 * (2 * nt + 1) * (max ol nl + 2) : Nat) : Int) := Int.ofNat_le.2 h3
    have h5 : ((max ol nl : Nat) : Int) = max (ol : Int) (nl : Int) := by omega
    rw [Int.natCast_mul, Int.natCast_add, h5] at h4
    exact h4
end Go.Proofs.Ytmganbdbihjbmaa

/-
  THE WALK of PlanBound (coterielaw12). Printed by gen_planlaw.py.
-/
set_option linter.unusedVariables false
namespace Go.Proofs.Ytmganbdbihjbmaa
open Go.RowKit

set_option maxRecDepth 100000 in
set_option maxHeartbeats 16000000 in
theorem core_PlanBound (kind : Int) (Ax : Option Addr) (nx cx : Nat) (xs : List Int) (Ao : Option Addr) (no co : Nat) (out : List Int) (An : Option Addr) (nn cn : Nat) (inn : List Int) (Am : Option Addr) (nm cm : Nat) (more : List Int) (by_ : Int) (w : World)
    (hx : Rd w w.heap.size Ax nx (xs.map iv)) (hro : Rd w w.heap.size Ao no (out.map iv)) (hrn : Rd w w.heap.size An nn (inn.map iv)) (hrm : Rd w w.heap.size Am nm (more.map iv)) (hm64 : ∀ x ∈ more, I64 x) (hb1 : -9223372036854775808 ≤ by_) (hb2 : by_ ≤ 9223372036854775807) :
    Calls Try.prog 4 #[.int .i64 kind, .slice Ax nx cx, .slice Ao no co, .slice An nn cn, .slice Am nm cm, .int .i64 by_] w fun e w' => e = .returned (.bool true) ∧ Below w.heap.size w w' := by
  obtain ⟨i0, hi0, hz0, hz1, hz2⟩ := info_parts intInfo
  have Hxl := Lib.hid (show xs.length = nx by have := hx.len; rwa [List.length_map] at this)
  have Hol := Lib.hid (show out.length = no by have := hro.len; rwa [List.length_map] at this)
  have Hil := Lib.hid (show inn.length = nn by have := hrn.len; rwa [List.length_map] at this)
  have Hml := Lib.hid (show more.length = nm by have := hrm.len; rwa [List.length_map] at this)
  go_enter Try.func4, Try.ntmps4
  go_wp2_with fail
  refine (live12 _).mono ?_
  rintro e w1 ⟨he, hold1⟩
  subst he
  by_cases c1 : nx ≤ 100
  case neg =>
    have z1 : (100 : Int) < (nx : Int) := by omega
    go_wp2_with fail
    go_ret
    exact ⟨rfl, hold1⟩
  have z1 : ¬ (100 : Int) < (nx : Int) := by omega
  by_cases c2 : no ≤ 40
  case neg =>
    have z2 : (40 : Int) < (no : Int) := by omega
    go_wp2_with fail
    go_ret
    exact ⟨rfl, hold1⟩
  have z2 : ¬ (40 : Int) < (no : Int) := by omega
  by_cases c3 : nn ≤ 40
  case neg =>
    have z3 : (40 : Int) < (nn : Int) := by omega
    go_wp2_with fail
    go_ret
    exact ⟨rfl, hold1⟩
  have z3 : ¬ (40 : Int) < (nn : Int) := by omega
  by_cases c4 : nm ≤ 40
  case neg =>
    have z4 : (40 : Int) < (nm : Int) := by omega
    go_wp2_with fail
    go_ret
    exact ⟨rfl, hold1⟩
  have z4 : ¬ (40 : Int) < (nm : Int) := by omega
  have hcg := Changed_any Ax nx cx xs Ao no co out An nn cn inn Am nm cm more w1 ((hx.below hold1).more hold1.size) ((hro.below hold1).more hold1.size) ((hrn.below hold1).more hold1.size) ((hrm.below hold1).more hold1.size) c1 c2 c3 c4
  by_cases hk0 : kind = 1 ∨ kind = 2
  case neg =>
    have k1b : (kind != 1) = true := by simp only [bne_iff_ne, ne_eq]; exact fun h => hk0 (.inl h)
    have k2b : (kind != 2) = true := by simp only [bne_iff_ne, ne_eq]; exact fun h => hk0 (.inr h)
    clear hk0
    go_wp2_with fail
    go_ret
    exact ⟨rfl, hold1⟩
  have Hk := Lib.hid hk0
  clear hk0
  go_upto_region 4 with fail
  rename_i K6 h6 K4 h4
  have hall : ∀ (v22 v23 v24 v25 v26 v27 v28 v29 v30 v31 v32 v33 v34 v35 v36 v37 v38 v39 v40 v41 v42 v43 v44 v45 v46 v47 v48 v49 v50 : Value), K6 ⟨#[.int .i64 kind, .slice Ax nx cx, .slice Ao no co, .slice An nn cn, .slice Am nm cm, .int .i64 by_, undef, undef, undef, undef, undef, undef, .bool false, .bool true, undef, undef, undef, undef, undef, undef, undef, undef, v22, v23, v24, v25, v26, v27, v28, v29, v30, v31, v32, v33, v34, v35, v36, v37, v38, v39, v40, v41, v42, v43, v44, v45, v46, v47, v48, v49, v50, undef, undef, undef, undef, undef, undef, undef, undef, undef, undef, undef, undef, undef, undef, undef, undef, undef, undef, undef, undef, undef, undef, undef, undef, undef, undef, undef, undef, undef, undef, undef, undef, undef, undef, undef, undef, undef, undef, undef, undef, undef, undef, undef, undef, undef, undef, undef, undef, undef, undef, undef, undef, undef, undef, undef, undef, undef, undef, undef, undef, undef, undef, undef], []⟩ w1 := by
    intro v22 v23 v24 v25 v26 v27 v28 v29 v30 v31 v32 v33 v34 v35 v36 v37 v38 v39 v40 v41 v42 v43 v44 v45 v46 v47 v48 v49 v50
    clear h4
    refine h6 _ _ ?_
    clear h6
    go_wp2_with fail
    refine hcg.mono ?_
    rintro e w2 ⟨hb2', Oi, oi, ocap, Ol, ol, olc, Ai, ni, ci, Al, nl, cl, At, nt, ct, lo, eo, la, ea, he, hO, hOe, hA, hAe, hown, hsp⟩
    subst he
    have hS := hA.sh.more hAe
    have hOR := hO.sh.more hOe
    have hB0 := (((Ms.nil w2).box 25 sh0).box 25 sh0)
    simp only [World.size_alloc] at hB0
    have hB1 := (hB0.subT (L' := [(w2.heap.size, 25, sh0), (w2.heap.size + 1, 25, sh0)]) (fun p hp => by simp only [List.mem_cons, List.not_mem_nil, or_false] at hp ⊢; rcases hp with rfl | rfl <;> simp)).setT (Nat.le_refl _) (fun p hp => by simp only [List.mem_cons, List.not_mem_nil, or_false] at hp; subst hp; simp) (shV Oi oi ocap Ol ol olc)
    have hrA := hB1.get 1 rfl
    have hM := (hB1.subT (L' := [(w2.heap.size + 1, 25, sh0), (w2.heap.size, 25, shV Oi oi ocap Ol ol olc)]) (fun p hp => by simp only [List.mem_cons, List.not_mem_nil, or_false] at hp ⊢; rcases hp with rfl | rfl <;> simp)).setT (Nat.le_succ _) (fun p hp => by simp only [List.mem_cons, List.not_mem_nil, or_false] at hp; subst hp; simp) (shV Ai ni ci Al nl cl)
    have hrO := hB0.get 1 rfl
    go_upto_region 7 with (first
      | ((with_reducible show wpList _ _ _ (⟨none, Op.store 25 (.tmp 14) _, _, _, _, _⟩ :: _) _ _); refine wpList_store_row rfl 25 (.tmp 14) (.tmp 58) rfl w2.heap.size (shV Oi oi ocap Ol ol olc) rfl rfl 25 _ hrO (sizeSh _ _ _ _ _ _) rfl (one_sh _ _ _ _ _ _) ?_)
      | ((with_reducible show wpList _ _ _ (⟨none, Op.store 25 (.tmp 15) _, _, _, _, _⟩ :: _) _ _); refine wpList_store_row rfl 25 (.tmp 15) (.tmp 59) rfl (w2.heap.size + 1) (shV Ai ni ci Al nl cl) rfl rfl 25 _ hrA (sizeSh _ _ _ _ _ _) rfl (one_sh _ _ _ _ _ _) ?_))
    try simp only [Act.put]
    refine wp_gen (fun wx => Ms w2 wx [(w2.heap.size + 1, 25, shV Ai ni ci Al nl cl), (w2.heap.size, 25, shV Oi oi ocap Ol ol olc)]) hM ?_
    clear hB0 hB1 hrA hrO hM hcg
    rintro w3 hM
    have hold2 := hold1.trans (hb2'.mono hold1.size)
    have Hsz12 := Lib.hid hb2'.size
    have hb12 := hb2'
    clear hb2' hx hro hrn hrm
    by_cases hn0 : ni = 0
    case pos =>
      subst hn0
      have hold3 := hold2.trans (hM.old.mono hold2.size)
      clear hM
      go_wp2_with fail
      go_ret
      exact ⟨rfl, hold3⟩
    have hn1 : 0 < ni := by omega
    have hni := hS.hni
    have hfS := few_of_chk (chg_chk xs out inn)
    have hfO := few_of_chk (old_chk xs)
    have hn2 : ni ≤ 1000000 := by have := (chkT_lv (chg_chk xs out inn)).1; omega
    obtain ⟨r, d, zr, zw, zd, hdn⟩ := draw_at by_ ni hb1 hb2 hn1 hn2
    have hMd := hM.drew
    have c0 := (hMd.get 0 rfl).cell (i := 0) (v := .slice Ai ni ci) rfl
    have hSd := hS.below hMd.old
    obtain ⟨bS, oS, rfl, hbS, cS⟩ := rd_num hSd.hids hdn
    have hby : (chgT xs out inn).1.1.getD d 0 ∈ (chgT xs out inn).1.1 := by
      rw [getD_at (List.getElem?_eq_getElem (show d < (chgT xs out inn).1.1.length by omega))]
      exact List.getElem_mem _
    have hby64 := okI_i64 (chg_chk xs out inn) hby
    obtain ⟨hmk, hmo, hms⟩ := chg_make (kind := kind) Hk.out xs out inn hby
    generalize (chgT xs out inn).1.1.getD d 0 = by2 at *
    have zn0 : ¬ (ni : Int) = 0 := by omega
    have zn1 : ((ni : Int) == 0) = false := by simpa using zn0
    have zdd : (d : Int) < (ni : Int) := by omega
    have znp : (0 : Int) < (ni : Int) := by omega
    go_upto_region 9 with fail
    try simp only [Act.put]
    refine wp_region_still_lit (by kernel_rfl) (by kernel_rfl) ?_
    repeat (with_reducible refine wpStill_step (fun K hK => ?_); go_simp; with_reducible refine hK _ ?_; clear hK K)
    with_reducible refine wpStill_nil ?_
    change Exit.then _ _ Exit.normal _ w3.drew
    have hS4 := hSd.more hMd.old.size
    have hO4 := (hOR.below hMd.old).more hMd.old.size
    have hT4 := ((Rd.of_own hown).below hMd.old).more hMd.old.size
    obtain ⟨_, _, e0, hcT, hmT⟩ := own_formT hown
    injection e0 with e0 _ e1
    subst e0 e1
    have hrO := hMd.get 1 rfl
    have hrA := hMd.get 0 rfl
    have hold4 := hold2.trans (hMd.old.mono hold2.size)
    have hT64 := Lib.hid (show ∀ x ∈ (chgT xs out inn).2 ++ more, I64 x from fun x hx => (List.mem_append.1 hx).elim (chg_i64 xs out inn x) (hm64 x))
    have hlT : ((chgT xs out inn).2 ++ more).length = nt := by have := (Rd.of_own hown).len; rwa [List.length_map] at this
    have hcl := chg_len xs out inn
    rw [Hol.out, Hil.out] at hcl
    have hlT2 := hlT
    rw [List.length_append, Hml.out] at hlT2
    have hnt : nt ≤ 120 := by omega
    have HB := Lib.hid (bound_facts more ol hmk hmo hms hby hlT hS4.hnl hnt)
    have HL := Lib.hid (show (oldS xs).1.length ≤ 1000 ∧ (chgT xs out inn).1.1.length ≤ 1000 ∧ chkE (oldS xs).1 (oldS xs).2 = 0 ∧ chkE (chgT xs out inn).1.1 (chgT xs out inn).1.2 = 0 ∧ (lvN (oldS xs).2).length ≤ 10 ∧ (lvN (chgT xs out inn).1.2).length ≤ 10 from ⟨(chkT_lv (old_chk xs)).1, (chkT_lv (chg_chk xs out inn)).1, chkE_iff.2 (old_chk xs), chkE_iff.2 (chg_chk xs out inn), lv_high (old_chk xs), lv_high (chg_chk xs out inn)⟩)
    clear hM hMd c0 hSd cS hown hO hA hS hOR hold1 hold2 hsp hlT hlT2 hcl
    generalize w3.drew = w4 at *
    generalize (chgT xs out inn).2 ++ more = tl at *
    generalize (chgT xs out inn).1.1 = ids at *
    generalize (chgT xs out inn).1.2 = ll at *
    generalize (oldS xs).1 = oids at *
    generalize (oldS xs).2 = oll at *
    have hmkc := PMake_any kind Oi oi ocap Ol ol olc oids oll (some ⟨bS, oS, none⟩) ni ci Al nl cl ids ll At nt ct tl by2 w4 hO4 hS4 hfO hfS hT4 (Nat.le_trans hcT hmT) (fun _ x hx => hT64.out x hx) hby64
    go_wp2_with (first
      | ((with_reducible show wpList _ _ _ (⟨some 84, _, _, _, _, _⟩ :: _) _ _); refine wpList_loadC (by kernel_rfl) 25 (.tmp 14) rfl w2.heap.size rfl 25 (shV Oi oi ocap Ol ol olc) _ hrO Try.underlying25 rfl shapeInfo2 ?_)
      | ((with_reducible show wpList _ _ _ (⟨some 85, _, _, _, _, _⟩ :: _) _ _); refine wpList_loadC (by kernel_rfl) 25 (.tmp 15) rfl (w2.heap.size + 1) rfl 25 (shV (some ⟨bS, oS, none⟩) ni ci Al nl cl) _ hrA Try.underlying25 rfl shapeInfo2 ?_))
    refine hmkc.mono ?_
    rintro e w5 ⟨hb5, Ak, nk, ck, As, ns, cs, he, hPl⟩
    subst he
    have hM5 := ((Ms.nil w4).call hb5).put 28 zP (plV Ak nk ck As ns cs)
    have hB5 := below_setRow ((Below.refl w5.heap.size w5).alloc (Nat.le_refl _) (.cells zP 28)) (Nat.le_refl _) (plV Ak nk ck As ns cs)
    have hPl5 := hPl.below hB5
    clear hmkc hb5 hPl
    go_upto_region 11 with ((with_reducible show wpList _ _ _ (⟨none, Op.store 28 _ _, _, _, _, _⟩ :: _) _ _); refine wpList_store_row rfl 28 (.tmp 18) (.tmp 89) rfl w5.heap.size (plV Ak nk ck As ns cs) rfl rfl 28 zP (RowC.new _ _ _) plInfo2 rfl (by simp [plV, Value.oneCell']) ?_)
    try simp only [Act.put]
    obtain ⟨g2, hg2⟩ : ∃ g, g = w5.heap.size := ⟨_, rfl⟩
    rw [← hg2] at hM5 hPl5 ⊢
    refine wp_gen (fun wx => Ms w4 wx [(g2, 28, plV Ak nk ck As ns cs)] ∧ PlR wx g2 Ak nk ck As ns cs (keepM kind oids oll ids ll tl by2) (stepsM kind oids oll ids ll tl by2)) ⟨hM5, hPl5⟩ ?_
    clear hM5 hPl5 hB5 hg2
    rintro w6 ⟨hM6, hPl⟩
    have hb6 := hM6.old
    obtain ⟨_, _, hc1, hc2, hl1, hl2⟩ := HL.out
    rw [lvN, List.length_map, hO4.hnl] at hl1
    rw [lvN, List.length_map, hS4.hnl] at hl2
    have hmc := PMost_ok Oi oi ocap Ol ol olc oids oll (some ⟨bS, oS, none⟩) ni ci Al nl cl ids ll (nt : Int) w6 ((hO4.below hb6).more hb6.size) ((hS4.below hb6).more hb6.size) (few_million hfO) (few_million hfS) (by have := hO4.hni; have := HL.out.1; omega) hn2 (by omega) (by omega) hc1 hc2 (by omega) (by omega)
    go_wp2_with (first
      | ((with_reducible show wpList _ _ _ (⟨some 92, _, _, _, _, _⟩ :: _) _ _); refine wpList_loadC (by kernel_rfl) 25 (.tmp 14) rfl w2.heap.size rfl 25 (shV Oi oi ocap Ol ol olc) _ (hrO.call hb6) Try.underlying25 rfl shapeInfo2 ?_)
      | ((with_reducible show wpList _ _ _ (⟨some 93, _, _, _, _, _⟩ :: _) _ _); refine wpList_loadC (by kernel_rfl) 25 (.tmp 15) rfl (w2.heap.size + 1) rfl 25 (shV (some ⟨bS, oS, none⟩) ni ci Al nl cl) _ (hrA.call hb6) Try.underlying25 rfl shapeInfo2 ?_))
    refine hmc.mono ?_
    rintro e w7 ⟨he, hb7⟩
    subst he
    have hM7 := hM6.call hb7
    have hPl7 := hPl.below (hb7.mono (Nat.le_of_lt (hM6.get 0 rfl).lt))
    have hPl8 := hPl7.more (Nat.le_of_lt (hM7.get 0 rfl).lt)
    have hsd := PSends_any Ak nk ck As ns cs _ _ w7 hPl8 HB.out.1
    rw [show makeE kind oids oll ids ll by2 = 0 by rw [makeE, hmk]; rfl]
    have hold7 := hold4.trans (hM7.old.mono hold4.size)
    have hle := HB.out.2
    clear hM6 hPl hPl7 hPl8 hmc HB HL hO4 hS4 hT4 hrO hrA hb6 hb7
    go_wp2_with ((with_reducible show wpList _ _ _ (⟨some 109, _, _, _, _, _⟩ :: _) _ _); refine wpList_loadC (by kernel_rfl) 28 (.tmp 18) rfl g2 rfl 28 (plV Ak nk ck As ns cs) _ (hM7.get 0 rfl) Try.underlying28 rfl plInfo2 ?_)
    refine hsd.mono ?_
    rintro e w8 ⟨he, hb8⟩
    subst he
    have hfin := hold7.trans (hb8.mono hold7.size)
    generalize sendsT (stepsM kind oids oll ids ll tl by2) = sd at *
    generalize 4 * (2 * (nt : Int) + 1) * (max (ol : Int) (nl : Int) + 2) = mo at *
    have zle : decide ((sd : Int) ≤ mo) = true := decide_eq_true hle
    clear hM7 hsd hb8
    go_wp2_with fail
    go_ret
    exact ⟨rfl, hfin⟩
  have Hall := Lib.hid hall
  clear h6 hall
  rcases Hk.out with h | h
  · subst h
    clear Hk
    go_wp2_with fail
    exact Hall.out _ _ _ _ _ _ _ _ _ _ _ _ _ _ _ _ _ _ _ _ _ _ _ _ _ _ _ _ _
  · subst h
    clear Hk
    go_wp2_with fail
    exact Hall.out _ _ _ _ _ _ _ _ _ _ _ _ _ _ _ _ _ _ _ _ _ _ _ _ _ _ _ _ _
theorem walk_PlanBound (kind : Int) (Ax : Option Addr) (nx cx : Nat) (xs : List Int) (Ao : Option Addr) (no co : Nat) (out : List Int) (An : Option Addr) (nn cn : Nat) (inn : List Int) (Am : Option Addr) (nm cm : Nat) (more : List Int) (by_ : Int) (w : World)
    (_ : -9223372036854775808 ≤ kind) (_ : kind ≤ 9223372036854775807) (_ : nx ≤ cx) (_ : cx ≤ maxLen) (hx : Rd w w.heap.size Ax nx (xs.map iv)) (_ : no ≤ co) (_ : co ≤ maxLen) (hro : Rd w w.heap.size Ao no (out.map iv)) (_ : nn ≤ cn) (_ : cn ≤ maxLen) (hrn : Rd w w.heap.size An nn (inn.map iv)) (_ : nm ≤ cm) (_ : cm ≤ maxLen) (hrm : Rd w w.heap.size Am nm (more.map iv)) (hm64 : ∀ x ∈ more, I64 x) (hb1 : -9223372036854775808 ≤ by_) (hb2 : by_ ≤ 9223372036854775807) :
    Calls Try.prog 4 #[.int .i64 kind, .slice Ax nx cx, .slice Ao no co, .slice An nn cn, .slice Am nm cm, .int .i64 by_] w fun e w' => e = .returned (.bool true) ∧ Below w.heap.size w w' :=
  core_PlanBound kind Ax nx cx xs Ao no co out An nn cn inn Am nm cm more by_ w hx hro hrn hrm hm64 hb1 hb2
end Go.Proofs.Ytmganbdbihjbmaa


