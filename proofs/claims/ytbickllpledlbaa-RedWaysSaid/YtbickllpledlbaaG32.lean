import Derived.Test.YtbickllpledlbaaG30
import Derived.Test.YtbickllpledlbaaG31
import Derived.Test.YtbickllpledlbaaG29
import Derived.Test.YtbickllpledlbaaG06
import Derived.Test.YtbickllpledlbaaG24
import Derived.Test.YtbickllpledlbaaG21
import Derived.Test.YtbickllpledlbaaG22
/-
  CONTRACTS of the program's red.told (its closure at every level) and Nodes.
-/
set_option linter.unusedVariables false
namespace Go.Proofs.Ytbickllpledlbaa
open Go.RowKit

theorem PTell_any (base b0 bN gN bO bT bS bK : Nat) (kind : Int) (hk12 : kind = 1 ∨ kind = 2) (Ai : Option Addr) (ni ci : Nat) (Al : Option Addr) (nl cl : Nat) (ids : List Int) (lv : List (List Nat)) (many : Nat) (hs : lvSum many lv) (hmany : many ≤ 1000) (hlv : lv.length ≤ 1000) (w0 : World)
    (hS0 : ShR w0 base Ai ni ci Al nl cl ids (levI lv)) : ∀ (k a : Nat), k ≤ lv.length → a < wideN many lv k →
    ∀ (f : Nat → Nat) (v : Value) (ns : List RN) (us : List Value) (w : World) (q : Nat), TS base b0 bN gN bO bT bS bK kind (shV Ai ni ci Al nl cl) (lv.length + 1) w0 w (stepF lv k a f) v v ns us → q + 1 = ns.length + (treeOf kind lv k a).size → q < 100000 →
      Calls Try.prog 39 #[.int .i64 (k : Nat), .pointer (some ⟨bN, 0, none⟩), .pointer (some ⟨bO, 0, none⟩), .pointer (some ⟨bT, 0, none⟩), .pointer (some ⟨bS, 0, none⟩), .pointer (some ⟨bK, 0, none⟩)] w
        (TellPost base b0 bN gN bO bT bS bK kind (shV Ai ni ci Al nl cl) (lv.length + 1) w0 w (stepF lv k (a + 1) f) v ns (treeOf kind lv k a) q)
  | 0, a, _, ha, f, v, ns, us, w, q, h, hq, hqq => by
    have ha' : a < many := ha
    have hq' : q = ns.length := by simpa [treeOf, RT.size] using hq
    subst hq'
    exact PTellLeaf_any base b0 bN gN bO bT bS bK kind _ _ w0 w lv a f v ns us (by omega) (by omega) (by omega) (by omega) h
  | k + 1, a, hk, ha, f, v, ns, us, w, q, h, hq, hqq => by
    have hl : lv[k]? = some lv[k] := List.getElem?_eq_getElem (by omega)
    have hsum := wideN_sum hs hl
    have hw := wideN_le hs k (by omega)
    have hw1 := wideN_le hs (k + 1) hk
    have hal : a < lv[k].length := by rw [wideN, getD_at hl] at ha; exact ha
    have hle := len_sum (hs k _ hl).1
    exact PTellStep_any base b0 bN gN bO bT bS bK kind hk12 Ai ni ci Al nl cl ids lv (k + 1) k a (lv.length + 1) rfl lv[k] hl (hs k _ hl).1 hal (by omega) (by omega) (by omega) (by omega) (by omega) w0 hS0
      (fun b hb' f v ns us w q h1 h2 h3 => PTell_any base b0 bN gN bO bT bS bK kind hk12 Ai ni ci Al nl cl ids lv many hs hmany hlv w0 hS0 k b (by omega) (by omega) f v ns us w q h1 h2 h3) f v ns us w q h hq hqq

theorem cnt_made (n : Nat) (f : Nat → Nat) (hf : ∀ j, j < n → f j = 0) : madeCells #[Value.int .i64 0] n = cntC n f := by
  apply Array.ext'
  rw [toList_madeCells_one, cntC]
  apply List.ext_getElem
  · simp
  · intro i h1 h2
    simp at h1
    simp [hf i h1]
theorem downS_zero (lv : List (List Nat)) : ∀ k j, downS lv k 0 j = 0
  | 0, j => rfl
  | k + 1, j => by
    rw [downS, startT_zero, downS_zero lv k j]
    split <;> rfl
theorem stepF_none (lv : List (List Nat)) (k j : Nat) (h : j < k + 1) : stepF lv k 0 (fun _ => 0) j = 0 := by
  rw [stepF]
  split
  · exact downS_zero lv k j
  · rfl

set_option maxRecDepth 100000 in
set_option maxHeartbeats 4000000 in
theorem PTold_any (kind : Int) (hk12 : kind = 1 ∨ kind = 2) (Ai : Option Addr) (ni ci : Nat) (Al : Option Addr) (nl cl : Nat) (ids : List Int) (lv : List (List Nat)) (w : World) (h : ShR w w.heap.size Ai ni ci Al nl cl ids (levI lv)) (hs : lvSum ids.length lv) (hmany : ids.length ≤ 1000) (hpos : 0 < ids.length) (hlv : lv.length ≤ 1000) :
    Calls Try.prog 26 #[.int .i64 kind, .agg (shV Ai ni ci Al nl cl)] w fun e w' => Below w.heap.size w w' ∧ ∃ A n c, e = .returned (.slice A n c) ∧ NdR w' w'.heap.size A n c (((treeOf kind lv lv.length 0).flat 0 (-1)).map RN.i) := by
  have hw := wideN_pos hs hpos _ (Nat.le_refl _)
  have hts := treeOf_size (kind := kind) hs (Nat.le_refl _) hw
  obtain ⟨NS, hNS⟩ : ∃ NS, NS = (treeOf kind lv lv.length 0).flat 0 (-1) := ⟨_, rfl⟩
  rw [← hNS]
  have HNS := Lib.hid hNS
  clear hNS
  have Hni := Lib.hid h.hni
  have hnl : lv.length = nl := by have := h.hnl; rwa [levI_lenX] at this
  have hci := h.hci
  have hcl := h.hcl
  have hmi := h.hmi
  have hml := h.hml
  have hM := ((Ms.nil w).box 3 #[.int .i64 kind]).box 25 (shV Ai ni ci Al nl cl)
  simp only [World.size_alloc] at hM
  have Hpost := Lib.hid (show ∀ A n c w', Below w.heap.size w w' → NdR w' w'.heap.size A n c (NS.map RN.i) → (fun e w' => Below w.heap.size w w' ∧ ∃ A n c, e = Ending.returned (.slice A n c) ∧ NdR w' w'.heap.size A n c (NS.map RN.i)) (.returned (.slice A n c)) w' from fun A n c w' h1 h2 => ⟨h1, A, n, c, rfl, h2⟩)
  generalize (fun e w' => Below w.heap.size w w' ∧ ∃ A n c, e = Ending.returned (.slice A n c) ∧ NdR w' w'.heap.size A n c (NS.map RN.i)) = PO at *
  have hn1000 : ni ≤ 1000 := by rw [← Hni.out]; exact hmany
  have hmf : ∀ (fn : Fn) (first cap : Array Value) (w : World), (Instr.makeFunc fn first cap).run Try.prog w = .ok (.func fn first cap) w := fun _ _ _ _ => rfl
  have hsf : ∀ (a : Addr) (fn : Fn) (first cap : Array Value) (w : World), (store a (.func fn first cap)).run Try.prog w = stored Try.prog w a (.func fn first cap) .plain := fun a fn first cap w => run_store Try.prog w a _ .plain rfl
  obtain ⟨i0, hi0, hz0, hz1, hz2⟩ := info_parts nodeInfoR
  obtain ⟨i1, hi1, hy0, hy1, hy2⟩ := info_parts intInfo
  obtain ⟨bK, hbK⟩ : ∃ bK, bK = w.heap.size := ⟨_, rfl⟩
  obtain ⟨bS, hbS⟩ : ∃ bS, bS = w.heap.size + 1 := ⟨_, rfl⟩
  go_enter Try.func26, Try.ntmps26
  go_upto_region 1 with fail
  try simp only [Act.put]
  rw [← hbS, ← hbK] at hM ⊢
  have HbS := Lib.hid hbS
  have HbK := Lib.hid hbK
  clear hbS hbK
  refine wp_gen (fun wx => Ms w wx [(bS, 25, shV Ai ni ci Al nl cl), (bK, 3, #[.int .i64 kind])]) hM ?_
  clear hM
  rintro w1 hM1
  have k0 := (hM1.get 0 rfl).cell (i := 0) (v := .slice Ai ni ci) rfl
  have z0 : IntKind.i64.wrap (2 * (ni : Int)) = 2 * (ni : Int) := by rw [IntKind.wrap_i64]; omega
  go_upto_region 2 with (at_make; refine wpList_make_own _ rfl _ _ 28 rfl w.heap.size 42 i0 _ 7 Try.underlying28 hi0 hz0 hz1 _ _ _ (2 * ni) rfl rfl (by simp) (by rw [hz2]; omega) (by simp only [maxLen]; omega) hM1.old.size ?_; intro w2 hown hgr)
  try simp only [Act.put]
  have hM2 := (hM1.call ((Below.refl _ _).grown hgr (Nat.le_refl _) (by simp))).box 28 #[.slice (some ⟨w1.heap.size, 0, none⟩) 0 (2 * ni)]
  have hown2 := own_below hown (d_al w2 (.cells #[.slice (some ⟨w1.heap.size, 0, none⟩) 0 (2 * ni)] 28))
  obtain ⟨bO, hbO⟩ : ∃ bO, bO = w2.heap.size := ⟨_, rfl⟩
  rw [← hbO] at hM2 ⊢
  have hbO1 : w.heap.size ≤ bO := by rw [hbO]; have := hM1.old.size; have := hgr.size; omega
  refine wp_gen (fun wx => Ms w wx [(bO, 28, #[.slice (some ⟨w1.heap.size, 0, none⟩) 0 (2 * ni)]), (bS, 25, shV Ai ni ci Al nl cl), (bK, 3, #[.int .i64 kind])] ∧ wx.ownsRow w.heap.size 42 7 (.slice (some ⟨w1.heap.size, 0, none⟩) 0 (2 * ni)) 0 []) ⟨hM2, hown2⟩ ?_
  clear hM1 hM2 hown hown2 hgr k0 z0 hbO
  rintro w3 ⟨hM3, hown3⟩
  generalize (.slice (some ⟨w1.heap.size, 0, none⟩) 0 (2 * ni) : Value) = vO at *
  have k1 := (hM3.get 1 rfl).cell (i := 1) (v := .slice Al nl cl) rfl
  have z1 : IntKind.i64.wrap ((nl : Int) + 1) = (nl : Int) + 1 := by rw [IntKind.wrap_i64]; omega
  have hmk := run_make (P := Try.prog) w3 22 3 i1 (.int .i64 0) Try.underlying22 hi1 hy0 .i64 .i64 ((nl : Int) + 1) ((nl : Int) + 1) (by omega) (by omega) (by rw [hy2]; omega) (by omega)
  rw [show ((nl : Int) + 1).toNat = nl + 1 by omega, hy1, Nat.mul_one, show (Value.int .i64 0).cells = #[Value.int .i64 0] from rfl, cnt_made (nl + 1) (stepF lv nl 0 (fun _ => 0)) (fun j hj => stepF_none lv nl j hj)] at hmk
  have Hmk := Lib.hid hmk
  clear hmk
  have hM4 := (hM3.box 3 (cntC (nl + 1) (stepF lv nl 0 fun _ => 0))).box 22 #[.slice (some ⟨w3.heap.size, 0, none⟩) (nl + 1) (nl + 1)]
  have hal := (d_al w3 (.cells (cntC (nl + 1) (stepF lv nl 0 fun _ => 0)) 3))
  have hal2 := d_al (w3.alloc (.cells (cntC (nl + 1) (stepF lv nl 0 fun _ => 0)) 3)) (.cells #[.slice (some ⟨w3.heap.size, 0, none⟩) (nl + 1) (nl + 1)] 22)
  have hown4 := own_below (own_below hown3 hal) hal2
  simp only [World.size_alloc] at hM4
  go_upto_region 3 with (at_make; refine wpList_makeT (by kernel_rfl) _ _ 22 rfl _ _ rfl rfl Hmk.out ?_)
  try simp only [Act.put]
  obtain ⟨gN, hgN⟩ : ∃ gN, gN = w3.heap.size := ⟨_, rfl⟩
  obtain ⟨bN, hbN⟩ : ∃ bN, bN = w3.heap.size + 1 := ⟨_, rfl⟩
  rw [← hbN, ← hgN] at hM4
  rw [← hgN] at hown4
  rw [← hbN, ← hgN]
  have hgN0 : w.heap.size ≤ gN := by rw [hgN]; exact hM3.old.size
  have hbKg : ¬ gN = bK := by have := (hM3.get 2 rfl).lt; omega
  refine wp_gen (fun wx => Ms w wx [(bN, 22, #[.slice (some ⟨gN, 0, none⟩) (nl + 1) (nl + 1)]), (gN, 3, cntC (nl + 1) (stepF lv nl 0 fun _ => 0)), (bO, 28, #[vO]), (bS, 25, shV Ai ni ci Al nl cl), (bK, 3, #[.int .i64 kind])] ∧ wx.ownsRow w.heap.size 42 7 vO 0 []) ⟨hM4, hown4⟩ ?_
  clear hM3 hown3 hal hal2 hM4 hown4 Hmk z1 k1 hbN hgN
  rintro w4 ⟨hM4, hown4⟩
  go_upto_region 4 with fail
  try simp only [Act.put]
  have hM5 := hM4.box 64 #[.nilFunc]
  have hown5 := own_below hown4 (d_al w4 (.cells #[.nilFunc] 64))
  obtain ⟨bT, hbT⟩ : ∃ bT, bT = w4.heap.size := ⟨_, rfl⟩
  have hbT0 : w.heap.size ≤ bT := by rw [hbT]; exact hM4.old.size
  rw [← hbT] at hM5 ⊢
  refine wp_gen (fun wx => Ms w wx [(bT, 64, #[.nilFunc]), (bN, 22, #[.slice (some ⟨gN, 0, none⟩) (nl + 1) (nl + 1)]), (gN, 3, cntC (nl + 1) (stepF lv nl 0 fun _ => 0)), (bO, 28, #[vO]), (bS, 25, shV Ai ni ci Al nl cl), (bK, 3, #[.int .i64 kind])] ∧ wx.ownsRow w.heap.size 42 7 vO 0 []) ⟨hM5, hown5⟩ ?_
  clear hM4 hown4 hM5 hown5 hbT
  rintro w5 ⟨hM5, hown5⟩
  have cT := (hM5.get 0 rfl).cell (i := 0) (v := .nilFunc) rfl
  have fT := (hM5.get 0 rfl).frozen 0
  have hrT := hM5.get 0 rfl
  have hrN := hM5.get 1 rfl
  have hrG := hM5.get 2 rfl
  have hrO := hM5.get 3 rfl
  have hrS := hM5.get 4 rfl
  have hrK := hM5.get 5 rfl
  have hT5 : TS w.heap.size w5.heap.size bN gN bO bT bS bK kind (shV Ai ni ci Al nl cl) (lv.length + 1) w (w5.setCell ⟨bT, 0, none⟩ (cloV bN bO bT bS bK)) (stepF lv lv.length 0 fun _ => 0) vO vO [] [] := by
    have hg := grown_setCell w5 bT 0 (cloV bN bO bT bS bK)
    have hne : ∀ {g : Nat} {t : TypeId} {cs : Array Value}, RowC w5 g t cs → t ≠ 64 → RowC (w5.setCell ⟨bT, 0, none⟩ (cloV bN bO bT bS bK)) g t cs := fun hr ht => hr.far (ty_apart hr hrT ht) _
    rw [hnl]
    refine ⟨hM5.old.grown hg hM5.old.size (fun g e => by injection e with e; omega), ⟨hgN0, hbO1⟩, ⟨hrG.lt, hrO.lt, hM5.old.size, hg.size⟩, hbKg, hne hrN (by decide), hne hrG (by decide), hne hrO (by decide), hrT.set_ 0 _, hne hrS (by decide), hne hrK (by decide), ⟨rfl, ?_, fun k x u hk => by simp at hk⟩, fun u hu => by simp at hu⟩
    refine hown5.kept hg ?_
    cases e : vO.ownBlock with
    | none => exact .inl rfl
    | some y =>
      refine .inr fun e2 => ?_
      injection e2 with e2
      subst e2
      obtain ⟨cs', hr'⟩ := own_tyT hown5 e
      exact absurd (ty_neT hrT hr') (by decide)
  simp only [cloV] at hT5
  have k1 := hrS.cell (i := 1) (v := .slice Al nl cl) rfl
  have k1' := hT5.rS.cell (i := 1) (v := .slice Al nl cl) rfl
  have cT5 := hT5.rT.cell (i := 0) (v := cloV bN bO bT bS bK) rfl
  simp only [cloV] at cT5
  go_upto_region 5 with fail
  try simp only [Act.put]
  refine wp_gen (fun wx => TS w.heap.size w5.heap.size bN gN bO bT bS bK kind (shV Ai ni ci Al nl cl) (lv.length + 1) w wx (stepF lv lv.length 0 fun _ => 0) vO vO [] []) hT5 ?_
  clear cT fT hrT hrN hrG hrO hrS hrK k1 k1' cT5 hT5 hM5 hown5
  rintro w6 hT6
  have k1 := hT6.rS.cell (i := 1) (v := .slice Al nl cl) rfl
  have cT6 := hT6.rT.cell (i := 0) (v := cloV bN bO bT bS bK) rfl
  simp only [cloV] at cT6
  have ht := PTell_any w.heap.size w5.heap.size bN gN bO bT bS bK kind hk12 Ai ni ci Al nl cl ids lv ids.length hs hmany hlv w h lv.length 0 (Nat.le_refl _) hw _ _ _ _ w6 ((treeOf kind lv lv.length 0).size - 1) hT6 (by have := (treeOf kind lv lv.length 0).size_pos; rw [List.length_nil]; omega) (by omega)
  rw [hnl] at ht
  go_wp2_with fail
  refine ht.mono ?_
  rintro e w7 ⟨v7, us7, rfl, hT7, _⟩
  rw [List.nil_append, List.length_nil, show (treeOf kind lv nl 0).flat 0 (-1) = NS by rw [HNS.out, hnl]] at hT7
  obtain ⟨A7, c7, hv7, _, _⟩ := own_formT hT7.nd.row
  have hnd := hT7.nd
  have hold := hT7.old
  have cO := hT7.rO.cell (i := 0) (v := v7) rfl
  subst hv7
  have htold := hnd.told
  clear ht hT6 hT7 hnd k1 cT6
  go_wp2_with fail
  (first | exact Hpost.out _ _ _ _ hold htold | exact bodyPost_ret (results_tmp rfl _ _ _) rfl (Hpost.out _ _ _ _ hold htold))

end Go.Proofs.Ytbickllpledlbaa

/-
  CONTRACT of the program's red.Nodes.
-/
set_option linter.unusedVariables false
namespace Go.Proofs.Ytbickllpledlbaa
open Go.RowKit

set_option maxRecDepth 100000 in
set_option maxHeartbeats 4000000 in
theorem PNodes_any (kind : Int) (Ai : Option Addr) (ni ci : Nat) (Al : Option Addr) (nl cl : Nat) (ids : List Int) (ll : List (List Int)) (w : World) (h : ShR w w.heap.size Ai ni ci Al nl cl ids ll) (hf : fewT ids ll = true) :
    Calls Try.prog 11 #[.int .i64 kind, .agg (shV Ai ni ci Al nl cl)] w (NodesPost w kind ids ll) := by
  have Hni := Lib.hid h.hni
  have Hnl := Lib.hid h.hnl
  have hM := (Ms.nil w).box 25 (shV Ai ni ci Al nl cl)
  have hS1 := (h.below hM.old)
  have hni6 : ni ≤ 1000000 := by have := (few_len hf).2.1; have := h.hni; omega
  have hck := PCheck_any Ai ni ci Al nl cl ids ll _ (hS1.more hM.old.size) (few_million hf) hni6
  have Hpost := Lib.hid (show ∀ A n c er w', Below w.heap.size w w' → er = mayE kind ids ll → NdR w' w'.heap.size A n c (nodesI kind ids ll) → NodesPost w kind ids ll (.returned (.tuple #[.slice A n c, .int .i64 er])) w' from fun A n c er w' h1 h2 h3 => ⟨h1, A, n, c, by rw [h2], h3⟩)
  generalize NodesPost w kind ids ll = PO at *
  by_cases hk : kind = 1 ∨ kind = 2
  · have hkB : (decide (kind = 1) || decide (kind = 2)) = true := by rcases hk with e | e <;> simp [e]
    have Hmb := Lib.hid (show mayB kind ids ll = chkT ids ll by rw [mayB, hkB, Bool.true_and])
    obtain ⟨er, her⟩ : ∃ er, er = chkE ids ll := ⟨_, rfl⟩
    rw [← her] at hck
    have Her := Lib.hid her
    clear her
    have hfinish : ∀ w1, Below (w.heap.size + 1) (w.alloc (.cells (shV Ai ni ci Al nl cl) 25)) w1 → Below w.heap.size (w.alloc (.cells (shV Ai ni ci Al nl cl) 25)) w1 := fun w1 h => h.mono (by omega)
    have hchk : er = 0 ∨ er = 1 := by
      have := Her.out
      rw [chkE] at this
      split at this <;> omega
    have Htold := Lib.hid (fun (h0 : er = 0) (hn0 : ¬ ni = 0) (w1 : World) (hS2 : ShR w1 w1.heap.size Ai ni ci Al nl cl ids ll) => by
      have hch : chkT ids ll = true := chkE_iff.1 (Her.out.symm.trans h0)
      obtain ⟨hn1000, _, hlo, hin⟩ := chkT_lv hch
      have hs := lvOK_sum _ _ hlo
      have hhi := lv_high hch
      have hlen : (lvN ll).length = nl := by rw [lvN, List.length_map]; exact Hnl.out
      rw [← levI_lvN hin] at hS2
      exact PTold_any kind hk Ai ni ci Al nl cl ids (lvN ll) w1 hS2 hs hn1000 (by rw [Hni.out]; omega) (by omega))
    have Hnd := Lib.hid (show er = 0 → ¬ ni = 0 → nodesI kind ids ll = ((treeOf kind (lvN ll) (lvN ll).length 0).flat 0 (-1)).map RN.i from fun h0 hn0 => by
      rw [nodesI, Hmb.out, if_pos (chkE_iff.1 (Her.out.symm.trans h0)), nodesU, if_neg (by rw [Hni.out]; exact hn0)])
    have Hn0 := Lib.hid (show ni = 0 → nodesI kind ids ll = [] from fun hn0 => by
      have h0 : ids.length = 0 := by rw [Hni.out]; exact hn0
      simp [nodesI, nodesU, h0])
    have Hn1 := Lib.hid (show er = 1 → nodesI kind ids ll = [] from fun h1 => by
      have h2 : ¬ chkT ids ll = true := fun e => by
        have := chkE_iff.2 e
        have := Her.out
        omega
      rw [nodesI, Hmb.out, if_neg h2])
    have Hmay := Lib.hid (show er = mayE kind ids ll by
      have := Her.out
      rw [chkE] at this
      rw [mayE, Hmb.out, this])
    generalize (((treeOf kind (lvN ll) (lvN ll).length 0).flat 0 (-1)).map RN.i) = NS at *
    clear hkB hfinish
    rcases hk with rfl | rfl
    all_goals
      have hold := hM.old
      go_enter Try.func11, Try.ntmps11
      go_upto_region 3 with fail
      go_wp2_with ((with_reducible show wpList _ _ _ (⟨some 13, _, _, _, _, _⟩ :: _) _ _); refine wpList_loadC (by kernel_rfl) 25 (.tmp 3) rfl w.heap.size rfl 25 (shV Ai ni ci Al nl cl) _ (hM.get 0 rfl) Try.underlying25 rfl shapeInfo2 ?_)
      refine hck.mono ?_
      rintro e w1 ⟨rfl, hb1⟩
      have hM1 := hM.call hb1
      have hold1 := hM1.old
      have hS2 := hS1.below (hb1.mono hM.old.size)
      clear hck hM hS1 h hb1 hold
      rcases hchk with h1 | h1
      rotate_left
      · subst h1
        have Hz := Lib.hid (Hn1.out rfl)
        have hz := NdR.zero w1 w1.heap.size
        rw [← Hz.out] at hz
        clear hM1 hS2
        go_wp2_with fail
        (first | exact Hpost.out _ _ _ _ _ hold1 Hmay.out hz | exact bodyPost_ret (results_tmp2 rfl _ _ _) rfl (Hpost.out _ _ _ _ _ hold1 Hmay.out hz))
      · subst h1
        have k0 := (hM1.get 0 rfl).cell (i := 0) (v := .slice Ai ni ci) rfl
        by_cases hn0 : ni = 0
        · have Hz := Lib.hid (Hn0.out hn0)
          have hz := NdR.zero w1 w1.heap.size
          rw [← Hz.out] at hz
          have hn0i : (ni : Int) = 0 := by omega
          clear hM1 hS2
          go_wp2_with fail
          (first | exact Hpost.out _ _ _ _ _ hold1 Hmay.out hz | exact bodyPost_ret (results_tmp2 rfl _ _ _) rfl (Hpost.out _ _ _ _ _ hold1 Hmay.out hz))
        · have hn0i : ¬ (ni : Int) = 0 := by omega
          have hto := Htold.out rfl hn0 w1 (hS2.more hold1.size)
          have hbx := hM1.get 0 rfl
          clear hS2 hM1
          go_wp2_with ((with_reducible show wpList _ _ _ (⟨some 23, _, _, _, _, _⟩ :: _) _ _); refine wpList_loadC (by kernel_rfl) 25 (.tmp 3) rfl w.heap.size rfl 25 (shV Ai ni ci Al nl cl) _ hbx Try.underlying25 rfl shapeInfo2 ?_)
          refine hto.mono ?_
          rintro e w2 ⟨hb2, A2, n2, c2, rfl, hnd⟩
          have hold2 := hold1.trans (hb2.mono hold1.size)
          rw [← Hnd.out (by first | rfl | trivial) (by first | exact hn0 | trivial)] at hnd
          clear hto hbx k0
          go_wp2_with fail
          (first | exact Hpost.out _ _ _ _ _ hold2 Hmay.out hnd | exact bodyPost_ret (results_tmp2 rfl _ _ _) rfl (Hpost.out _ _ _ _ _ hold2 Hmay.out hnd))
  · have hk1 : ¬ kind = 1 := fun e => hk (.inl e)
    have hk2 : ¬ kind = 2 := fun e => hk (.inr e)
    have hkB : (decide (kind = 1) || decide (kind = 2)) = false := by simp [hk1, hk2]
    have Hc := Lib.hid (show (1 : Int) = mayE kind ids ll by rw [mayE, mayB, hkB]; rfl)
    have Hz := Lib.hid (show nodesI kind ids ll = [] by rw [nodesI, mayB, hkB]; rfl)
    have hn1 : (kind != 1) = true := by simpa using hk1
    have hn2 : (kind != 2) = true := by simpa using hk2
    have hkk : (kind != 1 && kind != 2) = true := by simp [hk1, hk2]
    have hz := NdR.zero (w.alloc (.cells (shV Ai ni ci Al nl cl) 25)) (w.alloc (.cells (shV Ai ni ci Al nl cl) 25)).heap.size
    rw [← Hz.out] at hz
    have hold := hM.old
    clear hck hM hS1 h hk
    go_enter Try.func11, Try.ntmps11
    go_wp2_with fail
    (first | exact Hpost.out _ _ _ _ _ hold Hc.out hz | exact bodyPost_ret (results_tmp2 rfl _ _ _) rfl (Hpost.out _ _ _ _ _ hold Hc.out hz))

end Go.Proofs.Ytbickllpledlbaa

/-
  CONTRACT of the program's put (tree): one member more, in rows of the call's own. Printed by gen_treeput.py.
-/
set_option linter.unusedVariables false
namespace Go.Proofs.Ytbickllpledlbaa
open Go.RowKit

theorem sh_ne : (25 : TypeId) ≠ 3 ∧ (25 : TypeId) ≠ 22 := by decide
theorem lv_nilT {many : Nat} {lv : List (List Nat)} (h : lvOK many lv) (hm : many ≤ 1) : lv = [] := by
  match lv, h with
  | [], _ => rfl
  | l :: ls, h => have := h.1; omega
theorem drop_set_self {α : Type} : ∀ {l : List α} {j : Nat} {x : α}, j < l.length → (l.set j x).drop j = x :: l.drop (j + 1)
  | y :: l, 0, x, _ => rfl
  | y :: l, j + 1, x, h => drop_set_self (l := l) (by simpa using h)
/-- what put leaves -/
def PutPost (base : Nat) (w : World) (ids : List Int) (lv : List (List Nat)) (e : Ending) (w' : World) : Prop :=
  Below base w w' ∧ ∃ Ai ni ci Al nl cl vs, e = .returned (.agg (shV Ai ni ci Al nl cl)) ∧ OwW base w' (.slice Ai ni ci) (.slice Al nl cl) vs vs ids (levI lv)

set_option maxRecDepth 100000 in
set_option maxHeartbeats 8000000 in
theorem PPut_any (base : Nat) (Ai : Option Addr) (ni ci : Nat) (Al : Option Addr) (nl cl : Nat) (vs : List Value) (ids : List Int) (lv : List (List Nat)) (id : Int) (w : World) (hb : base ≤ w.heap.size) (hn6 : ids.length ≤ 1000) (hnl : lv.length ≤ 20)
    (hp : ids.Pairwise (· < ·)) (hok : lvOK ids.length lv) (h : OwW base w (.slice Ai ni ci) (.slice Al nl cl) vs vs ids (levI lv)) :
    Calls Try.prog 35 #[.agg (shV Ai ni ci Al nl cl), .int .i64 id] w (PutPost base w (insS ids lv id).1 (insS ids lv id).2) := by
  obtain ⟨i0, hi0, hz0, hz1, hz2⟩ := info_parts intInfo
  obtain ⟨i1, hi1, hy0, hy1, hy2⟩ := info_parts listInfo
  have Hpost := Lib.hid (show ∀ Ai ni ci Al nl cl vs w', Below base w w' → OwW base w' (.slice Ai ni ci) (.slice Al nl cl) vs vs (insS ids lv id).1 (levI (insS ids lv id).2) → PutPost base w (insS ids lv id).1 (insS ids lv id).2 (.returned (.agg (shV Ai ni ci Al nl cl))) w' from fun _ _ _ _ _ _ _ _ h1 h2 => ⟨h1, _, _, _, _, _, _, _, rfl, h2⟩)
  generalize PutPost base w (insS ids lv id).1 (insS ids lv id).2 = PO at *
  have hM0 := MsB.of (((Ms.nil w).box 25 (shV Ai ni ci Al nl cl)).box 25 #[.slice none 0 0, .slice none 0 0]) hb
  simp only [World.size_alloc] at hM0
  have h0 := (h.quiet (d_al w (.cells (shV Ai ni ci Al nl cl) 25))).quiet (d_al _ (.cells #[.slice none 0 0, .slice none 0 0] 25))
  have hs0 : ((w.alloc (.cells (shV Ai ni ci Al nl cl) 25)).alloc (.cells #[.slice none 0 0, .slice none 0 0] 25)).heap.size = w.heap.size + 1 + 1 := by simp
  obtain ⟨Ac, cc, ec, hcc, hmm⟩ := own_formT h.i
  injection ec with e1 e2 e3
  subst e1 e2 e3
  clear h
  go_enter Try.func35, Try.ntmps35
  go_upto_region 1 with fail
  try simp only [Act.put]
  obtain ⟨gB, hgB⟩ : ∃ g, g = w.heap.size := ⟨_, rfl⟩
  rw [← hgB] at hM0 hs0 hb ⊢
  refine wp_gen (fun wx => MsB base w wx [(gB, 25, shV Ai ids.length ci Al nl cl), (gB + 1, 25, #[.slice none 0 0, .slice none 0 0])] ∧ OwW base wx (.slice Ai ids.length ci) (.slice Al nl cl) vs vs ids (levI lv) ∧ gB + 1 + 1 = wx.heap.size) ⟨⟨hM0.old, fun p hp => hM0.rows p (by simp only [List.mem_cons, List.not_mem_nil, or_false] at hp ⊢; rcases hp with rfl | rfl <;> simp)⟩, h0, hs0.symm⟩ ?_
  clear hM0 h0 hs0 hgB
  rintro w1 ⟨hM1, h1, hs1⟩
  have kb0 := (hM1.get 0 rfl).cell (i := 0) (v := .slice Ai ids.length ci) rfl
  have hsr := Search_any Ai ids.length ci ids id w1 hcc hmm (by omega) hp (Rd.of_own h1.i)
  have Hbl := Lib.hid (belT_le ids id)
  have Hi1 := Lib.hid (show (insS ids lv id).1 = ids.take (belT ids id) ++ id :: ids.drop (belT ids id) by
    rw [insS]
    split
    · rename_i h0; subst h0; simp [belT]
    · rfl)
  have Hi2 := Lib.hid (show ids ≠ [] → (insS ids lv id).2 = insL lv (belT ids id - 1) from fun hne => by rw [insS, if_neg hne])
  have Hi0 := Lib.hid (show ids = [] → (insS ids lv id).2 = [] from fun hne => by rw [insS, if_pos hne])
  generalize belT ids id = p at *
  generalize isT ids id = ti at *
  generalize insS ids lv id = R at *
  obtain ⟨m, hm⟩ : ∃ m, m = ids.length + 1 := ⟨_, rfl⟩
  have Hm := Lib.hid hm
  have hm2 : m ≤ 1001 := by omega
  obtain ⟨n, hn⟩ : ∃ n, n = ids.length := ⟨_, rfl⟩
  have Hn := Lib.hid hn
  rw [← hn] at hsr kb0 hM1 h1 hcc
  have hi1 := h1.i
  rw [← hn] at hi1
  rw [← hn] at Hbl hm
  clear hn
  go_wp2_with fail
  refine hsr.mono ?_
  rintro e w1 ⟨rfl, rfl⟩
  go_upto_region 2 with fail
  try simp only [Act.put]
  clear hsr
  have hal := d_al w1 (.cells #[.int .i64 id] 3)
  have hMa := hM1.call hal (by omega)
  have ha := h1.quiet hal
  have hia := own_below hi1 hal
  have hrv : RowC (w1.alloc (.cells #[.int .i64 id] 3)) w1.heap.size 3 #[.int .i64 id] := RowC.new _ _ _
  have hza : (w1.alloc (.cells #[.int .i64 id] 3)).heap.size = w1.heap.size + 1 := by simp
  have hins := InsI_any base Ai n ci p w1.heap.size (.int .i64 id) (ids.map iv) _ (by have := Hn.out; omega) Hbl.out rfl (one_iv _) (by omega) hia hrv (fun ad e => by
    subst e
    have := own_ltT hi1 ad.block rfl
    omega)
  rw [← hm] at hins
  have Hmn := Lib.hid hm
  clear hm
  go_wp2_with fail
  refine hins.mono ?_
  rintro e w2 hpost2
  obtain ⟨A2, c2, rfl, h2, hgr2⟩ := ha.insIds Hm.out hpost2
  have hM2 := hMa.turn hgr2 (by omega) (fun g hg => by
    obtain ⟨cs, hr⟩ := own_tyT hia hg
    exact ⟨own_blockT hia g hg, _, cs, hr, fun q hq => by simp at hq; rcases hq with rfl | rfl <;> exact sh_ne.1.symm⟩)
  clear hpost2 hins hMa ha hia hrv hM1 h1 hi1 kb0 hgr2
  have kc := (hM2.get 0 rfl).cell (i := 0) (v := .slice Ai n ci) rfl
  have kf := (hM2.get 0 rfl).frozen 0
  go_upto_region 3 with fail
  try simp only [Act.put]
  have hM3 := hM2.set (by omega) (fun q hq => by simp at hq; subst hq; simp) 0 (.slice A2 m c2)
  rw [show (shV Ai n ci Al nl cl).setIfInBounds 0 (.slice A2 m c2) = #[.slice A2 m c2, .slice Al nl cl] from rfl] at hM3
  have h3 := h2.far (grown_setCell w2 gB 0 (.slice A2 m c2)) (hM2.get 0 rfl) sh_ne.1 sh_ne.2
  refine wp_gen (fun wx => MsB base w wx [(gB, 25, #[.slice A2 m c2, .slice Al nl cl]), (gB + 1, 25, #[.slice none 0 0, .slice none 0 0])] ∧ OwW base wx (.slice A2 m c2) (.slice Al nl cl) vs vs R.1 (levI lv) ∧ gB + 1 + 1 ≤ wx.heap.size) ⟨hM3, by rw [Hi1.out]; exact h3, (hM3.get 1 rfl).lt⟩ ?_
  clear hM3 h3 hM2 h2 kc kf hs1 hza
  rintro w3 ⟨hM3, h3, hs3⟩
  have k0 := (hM3.get 0 rfl).cell (i := 0) (v := .slice A2 m c2) rfl
  by_cases hm1 : m < 2
  · have hz : ids = [] := List.eq_nil_of_length_eq_zero (by have := Hm.out; omega)
    have hlv0 := lv_nilT hok (by have := Hm.out; omega)
    have hlt : (m : Int) < 2 := by omega
    have Hfin := Lib.hid (show R.2 = lv by rw [Hi0.out hz, hlv0])
    clear hz hlv0
    go_wp2_with (first
      | ((with_reducible show wpList _ _ _ (⟨some 27, _, _, _, _, _⟩ :: _) _ _); refine wpList_loadC (by kernel_rfl) 25 (.tmp 2) rfl gB rfl 25 #[.slice A2 m c2, .slice Al nl cl] _ (hM3.get 0 rfl) Try.underlying25 rfl shapeInfo2 ?_)
      | ((with_reducible show wpList _ _ _ (⟨none, Op.store 25 _ _, _, _, _, _⟩ :: _) _ _); refine wpList_store_row rfl 25 (.tmp 4) (.tmp 27) rfl (gB + 1) #[.slice A2 m c2, .slice Al nl cl] rfl rfl 25 _ (hM3.get 1 rfl) shapeInfo2 rfl (by simp [Value.oneCell']) ?_))
    try simp only [Act.put]
    have hR9 := (hM3.get 1 rfl).row #[.slice A2 m c2, .slice Al nl cl]
    have hw9 := h3.far (grown_setRow _ (gB + 1) #[.slice A2 m c2, .slice Al nl cl]) (hM3.get 1 rfl) sh_ne.1 sh_ne.2
    have hb9 := below_setRow hM3.old (show base ≤ (gB + 1) by omega) #[.slice A2 m c2, .slice Al nl cl]
    rw [← Hfin.out] at hw9
    refine bodyPost_ret (results_cell_one rfl _ _ (gB + 1) _ #[.slice A2 m c2, .slice Al nl cl] _ rfl hR9 Try.underlying25 rfl shapeInfo2) rfl (Hpost.out _ _ _ _ _ _ _ _ hb9 hw9)

  have hge : ¬ (m : Int) < 2 := by omega
  have hne : ids ≠ [] := fun e => by have := Hm.out; rw [e] at this; simp at this; omega
  have Hfin := Lib.hid (Hi2.out hne)
  clear hne
  by_cases hm2' : m = 2
  · have hlv0 := lv_nilT hok (by have := Hm.out; omega)
    have Hf2 := Lib.hid (show R.2 = [[2]] by rw [Hfin.out, hlv0]; rfl)
    have heq : ((m : Int) == 2) = true := by rw [hm2']; rfl
    rw [hlv0] at h3
    have h4 := OwW.first (h3 : OwW base w3 (.slice A2 m c2) (.slice Al nl cl) vs vs R.1 []) (by omega)
    clear hm2' hlv0
    have b1 := d_al w3 (.cells #[.int .i64 2] 3)
    have b2 := d_al (w3.alloc (.cells #[.int .i64 2] 3)) (.cells #[.slice (some ⟨w3.heap.size, 0, none⟩) 1 1] 22)
    have hM4 := (hM3.call b1 (by omega)).call b2 (by simp; omega)
    have kc := (hM4.get 0 rfl).cell (i := 1) (v := .slice Al nl cl) rfl
    have kf := (hM4.get 0 rfl).frozen 1
    go_upto_region 7 with fail
    try simp only [Act.put]
    have hM5 := hM4.set (by omega) (fun q hq => by simp at hq; subst hq; simp) 1 (.slice (some ⟨w3.heap.size + 1, 0, none⟩) 1 1)
    rw [show (#[.slice A2 m c2, .slice Al nl cl] : Array Value).setIfInBounds 1 (.slice (some ⟨w3.heap.size + 1, 0, none⟩) 1 1) = #[.slice A2 m c2, .slice (some ⟨w3.heap.size + 1, 0, none⟩) 1 1] from rfl] at hM5
    have h5 := h4.far (grown_setCell _ gB 1 (.slice (some ⟨w3.heap.size + 1, 0, none⟩) 1 1)) (hM4.get 0 rfl) sh_ne.1 sh_ne.2
    obtain ⟨q2, hq2⟩ : ∃ q, q = w3.heap.size + 1 := ⟨_, rfl⟩
    rw [← hq2] at hM5 h5 ⊢
    refine wp_gen (fun wx => MsB base w wx [(gB, 25, #[.slice A2 m c2, .slice (some ⟨q2, 0, none⟩) 1 1]), (gB + 1, 25, #[.slice none 0 0, .slice none 0 0])] ∧ OwW base wx (.slice A2 m c2) (.slice (some ⟨q2, 0, none⟩) 1 1) _ _ R.1 [[2]]) ⟨hM5, h5⟩ ?_
    clear hM5 h5 hM4 h4 kc kf b1 b2 hM3 h3 hq2 k0
    rintro w5 ⟨hM5, h5⟩
    go_wp2_with (first
      | ((with_reducible show wpList _ _ _ (⟨some 35, _, _, _, _, _⟩ :: _) _ _); refine wpList_loadC (by kernel_rfl) 25 (.tmp 2) rfl gB rfl 25 #[.slice A2 m c2, .slice (some ⟨q2, 0, none⟩) 1 1] _ (hM5.get 0 rfl) Try.underlying25 rfl shapeInfo2 ?_)
      | ((with_reducible show wpList _ _ _ (⟨none, Op.store 25 _ _, _, _, _, _⟩ :: _) _ _); refine wpList_store_row rfl 25 (.tmp 4) (.tmp 35) rfl (gB + 1) #[.slice A2 m c2, .slice (some ⟨q2, 0, none⟩) 1 1] rfl rfl 25 _ (hM5.get 1 rfl) shapeInfo2 rfl (by simp [Value.oneCell']) ?_))
    try simp only [Act.put]
    have hR9 := (hM5.get 1 rfl).row #[.slice A2 m c2, .slice (some ⟨q2, 0, none⟩) 1 1]
    have hw9 := h5.far (grown_setRow _ (gB + 1) #[.slice A2 m c2, .slice (some ⟨q2, 0, none⟩) 1 1]) (hM5.get 1 rfl) sh_ne.1 sh_ne.2
    have hb9 := below_setRow hM5.old (show base ≤ (gB + 1) by omega) #[.slice A2 m c2, .slice (some ⟨q2, 0, none⟩) 1 1]
    rw [show ([[2]] : List (List Int)) = levI R.2 by rw [Hf2.out]; rfl] at hw9
    refine bodyPost_ret (results_cell_one rfl _ _ (gB + 1) _ #[.slice A2 m c2, .slice (some ⟨q2, 0, none⟩) 1 1] _ rfl hR9 Try.underlying25 rfl shapeInfo2) rfl (Hpost.out _ _ _ _ _ _ _ _ hb9 hw9)

  have hne2 : ¬ (m : Int) = 2 := by omega
  have hge3 : 3 ≤ m := by omega
  have hpw : IntKind.i64.wrap ((p : Int) - 1) = (p : Int) - 1 := by have := Hbl.out; have := Hn.out; rw [IntKind.wrap_i64]; omega
  have hmx : max ((p : Int) - 1) 0 = ((p - 1 : Nat) : Int) := by omega
  have Hnl := Lib.hid (show nl = lv.length by
    have := h3.l
    rw [levI_lenX] at this
    obtain ⟨_, _, e, _⟩ := own_formT this
    injection e with _ e2)
  have hnl20 : nl ≤ 20 := by rw [Hnl.out]; exact hnl
  have Hb0 := Lib.hid (show p - 1 < ids.length ∧ ids.length ≤ 1000 by have := Hbl.out; have := Hn.out; have := Hm.out; omega)
  have k1 := (hM3.get 0 rfl).cell (i := 1) (v := .slice Al nl cl) rfl
  clear hne2 hm2'
  go_wp2_with fail
  go_loopw [5, 42] (fun a i wr => ∃ (k b many : Nat) (done : List (List Nat)) (vs' : List Value), k ≤ nl ∧ i = .int .i64 (k : Int) ∧ a = .int .i64 (b : Int) ∧ b < many ∧ many ≤ 1000 ∧ lvOK many (lv.drop k) ∧ R.2 = done ++ insL (lv.drop k) b ∧ done.length = k ∧
    OwW base wr (.slice A2 m c2) (.slice Al nl cl) vs' vs' R.1 (levI (done ++ lv.drop k)) ∧ MsB base w wr [(gB, 25, #[.slice A2 m c2, .slice Al nl cl]), (gB + 1, 25, #[.slice none 0 0, .slice none 0 0])] ∧ gB + 1 + 1 ≤ wr.heap.size) (fun _ i _ => nl - (intOf i).toNat)
  case atStart => exact ⟨0, p - 1, ids.length, [], vs, by omega, rfl, rfl, Hb0.out.1, Hb0.out.2, hok, Hfin.out, rfl, h3, hM3, hs3⟩
  case round =>
    clear hM3 h3 k0 k1 hmx hpw hs3
    obtain ⟨k, b, many, done, vs', hk, rfl, rfl, hbm, hm1000, hlo, hR, hdl, h4, hM4, hs4⟩ := hrel
    have HR := Lib.hid hR
    have Hdl := Lib.hid hdl
    have Hlo := Lib.hid hlo
    clear hR hdl hlo
    by_cases hlt : k < nl
    · have hkl : k < lv.length := by rw [← Hnl.out]; exact hlt
      obtain ⟨l, hl⟩ : ∃ l, lv[k]? = some l := ⟨_, List.getElem?_eq_getElem hkl⟩
      have hd : lv.drop k = l :: lv.drop (k + 1) := by rw [List.drop_eq_getElem_cons hkl, (List.getElem?_eq_some_iff.1 hl).2]
      have hX : (done ++ lv.drop k)[k]? = some l := by rw [List.getElem?_append_right (by have := Hdl.out; omega), Hdl.out, Nat.sub_self, hd]; rfl
      have hlo2 := Hlo.out
      rw [hd] at hlo2
      obtain ⟨o1, o2, o3, o4⟩ := hlo2
      obtain ⟨g1, g2, g3⟩ := grpT_spec l b (by omega)
      have hlm := (two3_len o2).1
      obtain ⟨gl, g, c, rfl, hnl', hcl1, hcl2, hc, hm, hv, hcell, hown, hgg⟩ := h4.lvl hX (by omega)
      have HX := Lib.hid hX
      have Hv := Lib.hid hv
      have HR2 := Lib.hid (show R.2 = done ++ (if l[grpT l b]? = some 2 then l.set (grpT l b) 3 :: lv.drop (k + 1) else splitT l (grpT l b) :: insL (lv.drop (k + 1)) (grpT l b)) by rw [HR.out, hd, insL_cons])
      have Hset := Lib.hid (fun (y : List Nat) => show (done ++ lv.drop k).set k y = done ++ y :: lv.drop (k + 1) by
        rw [List.set_append_right _ _ (by have := Hdl.out; omega), Hdl.out, Nat.sub_self, hd, List.set_cons_zero])
      have hgo := PGroupOf_any (some ⟨g, 0, none⟩) l.length c (castL l) b wr hc hm (by omega) (by omega) (in23_mk o2) (Rd.of_own hown)
      rw [natL_cast] at hgo
      have h23 := two3_get o2 g1
      have Ho4 := Lib.hid o4
      have hlen1 : l.length ≤ 1000 := by omega
      clear hX hv hl hd g2 g3 o3 o4 hlm hnl' o2
      generalize grpT l b = j at *
      obtain ⟨hc1, hf1⟩ := lvl_cell hown g1
      have hjl : (j : Int) < (l.length : Int) := by omega
      have hget : l[j]? = some l[j] := List.getElem?_eq_getElem g1
      have kl := (hM4.get 0 rfl).cell (i := 1) (v := .slice (some ⟨gl, 0, none⟩) nl cl) rfl
      obtain ⟨crow, hgrow, _⟩ := own_rowT hown
      have hgb : base ≤ g := own_blockT hown g rfl
      generalize hxx : l[j] = x at *
      clear hxx
      rcases h23 with rfl | rfl
      · have Hf := Lib.hid (show R.2 = done ++ (l.set j 3 :: lv.drop (k + 1)) by rw [HR2.out, if_pos hget])
        clear hget
        go_wp2_with fail
        refine hgo.mono ?_
        rintro e wr ⟨rfl, rfl⟩
        go_upto_region 14 with fail
        try simp only [Act.put]
        have h5 : OwW base (wr.setCell ⟨g, j, none⟩ (.int .i64 3)) (.slice A2 m c2) (.slice (some ⟨gl, 0, none⟩) nl cl) vs' vs' R.1 (levI ((done ++ lv.drop k).set k (l.set j 3))) := h4.num HX.out Hv.out j 3
        rw [Hset.out, ← Hf.out] at h5
        have hM5 := hM4.turn (grown_setCell wr g j (.int .i64 3)) (by omega) (fun q hq => by injection hq with hq; subst hq; exact ⟨hgb, _, _, hgrow, fun q hq => by simp at hq; rcases hq with rfl | rfl <;> exact sh_ne.1.symm⟩)
        have hcc5 : (wr.setCell ⟨g, j, none⟩ (.int .i64 3)).cell? ⟨g, j, none⟩ = some (.int .i64 3) := World.cell?_setCell_same _ _ _ hc1
        refine wp_gen (fun wx => MsB base w wx [(gB, 25, #[.slice A2 m c2, .slice (some ⟨gl, 0, none⟩) nl cl]), (gB + 1, 25, #[.slice none 0 0, .slice none 0 0])] ∧ OwW base wx (.slice A2 m c2) (.slice (some ⟨gl, 0, none⟩) nl cl) vs' vs' R.1 (levI R.2) ∧ wx.cell? ⟨g, j, none⟩ = some (.int .i64 3)) ⟨hM5, h5, hcc5⟩ ?_
        clear hM5 h5 hcc5 hM4 h4 hcell hown hc1 hf1 kl hgo hgrow
        rintro w5 ⟨hM5, h5, hcc5⟩
        go_wp2_with (first
          | ((with_reducible show wpList _ _ _ (⟨some 61, _, _, _, _, _⟩ :: _) _ _); refine wpList_loadC (by kernel_rfl) 25 (.tmp 2) rfl gB rfl 25 #[.slice A2 m c2, .slice (some ⟨gl, 0, none⟩) nl cl] _ (hM5.get 0 rfl) Try.underlying25 rfl shapeInfo2 ?_)
          | ((with_reducible show wpList _ _ _ (⟨none, Op.store 25 _ _, _, _, _, _⟩ :: _) _ _); refine wpList_store_row rfl 25 (.tmp 4) (.tmp 61) rfl (gB + 1) #[.slice A2 m c2, .slice (some ⟨gl, 0, none⟩) nl cl] rfl rfl 25 _ (hM5.get 1 rfl) shapeInfo2 rfl (by simp [Value.oneCell']) ?_))
        try simp only [Act.put]
        have hR9 := (hM5.get 1 rfl).row #[.slice A2 m c2, .slice (some ⟨gl, 0, none⟩) nl cl]
        have hw9 := h5.far (grown_setRow _ (gB + 1) #[.slice A2 m c2, .slice (some ⟨gl, 0, none⟩) nl cl]) (hM5.get 1 rfl) sh_ne.1 sh_ne.2
        have hb9 := below_setRow hM5.old (show base ≤ (gB + 1) by omega) #[.slice A2 m c2, .slice (some ⟨gl, 0, none⟩) nl cl]
        refine bodyPost_ret (results_cell_one rfl _ _ (gB + 1) _ #[.slice A2 m c2, .slice (some ⟨gl, 0, none⟩) nl cl] _ rfl hR9 Try.underlying25 rfl shapeInfo2) rfl (Hpost.out _ _ _ _ _ _ _ _ hb9 hw9)

      have Hf := Lib.hid (show R.2 = done ++ (splitT l j :: insL (lv.drop (k + 1)) j) by rw [HR2.out, if_neg (by rw [hget]; simp)])
      clear hget
      go_wp2_with fail
      refine hgo.mono ?_
      rintro e wr ⟨rfl, rfl⟩
      go_upto_region 14 with fail
      try simp only [Act.put]
      have h5 : OwW base (wr.setCell ⟨g, j, none⟩ (.int .i64 4)) (.slice A2 m c2) (.slice (some ⟨gl, 0, none⟩) nl cl) vs' vs' R.1 (levI ((done ++ lv.drop k).set k (l.set j 4))) := h4.num HX.out Hv.out j 4
      have hM5 := hM4.turn (grown_setCell wr g j (.int .i64 4)) (by omega) (fun q hq => by injection hq with hq; subst hq; exact ⟨hgb, _, _, hgrow, fun q hq => by simp at hq; rcases hq with rfl | rfl <;> exact sh_ne.1.symm⟩)
      have hcc5 : (wr.setCell ⟨g, j, none⟩ (.int .i64 4)).cell? ⟨g, j, none⟩ = some (.int .i64 4) := World.cell?_setCell_same _ _ _ hc1
      have hgrow5 := hgrow.set_ j (.int .i64 4)
      have hs5 : gB + 1 + 1 ≤ (wr.setCell ⟨g, j, none⟩ (.int .i64 4)).heap.size := by simp; exact hs4
      refine wp_gen (fun wx => MsB base w wx [(gB, 25, #[.slice A2 m c2, .slice (some ⟨gl, 0, none⟩) nl cl]), (gB + 1, 25, #[.slice none 0 0, .slice none 0 0])] ∧ OwW base wx (.slice A2 m c2) (.slice (some ⟨gl, 0, none⟩) nl cl) vs' vs' R.1 (levI ((done ++ lv.drop k).set k (l.set j 4))) ∧ wx.cell? ⟨g, j, none⟩ = some (.int .i64 4) ∧ RowC wx g 3 (crow.setIfInBounds j (.int .i64 4)) ∧ gB + 1 + 1 ≤ wx.heap.size) ⟨hM5, h5, hcc5, hgrow5, hs5⟩ ?_
      clear hM5 h5 hcc5 hM4 h4 hcell hown hc1 hf1 kl hgo hgrow hgrow5 hs5 hs4
      rintro w5 ⟨hM5, h5, hcc5, hgrow5, hs5⟩
      have hf5 := hgrow5.frozen j
      go_upto_region 17 with fail
      try simp only [Act.put]
      have hX5 : ((done ++ lv.drop k).set k (l.set j 4))[k]? = some (l.set j 4) := List.getElem?_set_self (List.getElem?_eq_some_iff.1 HX.out).1
      have hv5 : vs'[k]? = some (.slice (some ⟨g, 0, none⟩) (l.set j 4).length c) := by rw [List.length_set]; exact Hv.out
      have h6 : OwW base (w5.setCell ⟨g, j, none⟩ (.int .i64 2)) (.slice A2 m c2) (.slice (some ⟨gl, 0, none⟩) nl cl) vs' vs' R.1 (levI (((done ++ lv.drop k).set k (l.set j 4)).set k ((l.set j 4).set j 2))) := h5.num hX5 hv5 j 2
      rw [List.set_set, List.set_set] at h6
      have hM6 := hM5.turn (grown_setCell w5 g j (.int .i64 2)) (by omega) (fun q hq => by injection hq with hq; subst hq; exact ⟨hgb, _, _, hgrow5, fun q hq => by simp at hq; rcases hq with rfl | rfl <;> exact sh_ne.1.symm⟩)
      have hs6 : gB + 1 + 1 ≤ (w5.setCell ⟨g, j, none⟩ (.int .i64 2)).heap.size := by simp; exact hs5
      refine wp_gen (fun wx => MsB base w wx [(gB, 25, #[.slice A2 m c2, .slice (some ⟨gl, 0, none⟩) nl cl]), (gB + 1, 25, #[.slice none 0 0, .slice none 0 0])] ∧ OwW base wx (.slice A2 m c2) (.slice (some ⟨gl, 0, none⟩) nl cl) vs' vs' R.1 (levI ((done ++ lv.drop k).set k (l.set j 2))) ∧ gB + 1 + 1 ≤ wx.heap.size) ⟨hM6, h6, hs6⟩ ?_
      clear hM6 h6 hs6 hM5 h5 hcc5 hf5 hgrow5 hs5 hX5 hv5
      rintro w6 ⟨hM6, h6, hs6⟩
      have hkeep : ∀ wx : World, Below w6.heap.size w6 wx → wx.cell? ⟨gB, 1, none⟩ = some (.slice (some ⟨gl, 0, none⟩) nl cl) := fun wx hb => ((hM6.get 0 rfl).call hb).cell rfl
      refine beginT (fun wx => wx.cell? ⟨gB, 1, none⟩ = some (.slice (some ⟨gl, 0, none⟩) nl cl)) 8 (by kernel_rfl) ?_
      have hS := hkeep _ (c_drew (c_refl _))
      refine takeD 0 (some 65) (.pointer (some ⟨gB, 1, none⟩)) rfl rfl (by kernel_rfl) (by kernel_rfl) (by kernel_rfl) (by kernel_rfl) (fun _ _ _ h => h) (Or.inl ⟨by kernel_rfl, fun wx hSw => by have h := hSw; go_simp⟩) hS ?_
      simp only [Act.put, List.setIfInBounds_toArray, List.set_cons_zero, List.set_cons_succ]
      refine takeD 1 (some 66) (.slice (some ⟨gl, 0, none⟩) nl cl) rfl rfl (by kernel_rfl) (by kernel_rfl) (by kernel_rfl) (by kernel_rfl) (fun _ _ _ h => h) (Or.inl ⟨by kernel_rfl, fun wx hSw => by have h := hSw; go_simp⟩) hS ?_
      simp only [Act.put, List.setIfInBounds_toArray, List.set_cons_zero, List.set_cons_succ]
      refine takeD 2 (some 67) (.int .i64 (k : Int)) rfl rfl (by kernel_rfl) (by kernel_rfl) (by kernel_rfl) (by kernel_rfl) (fun _ _ _ h => h) (Or.inl ⟨by kernel_rfl, fun wx hSw => by have h := hSw; go_simp⟩) hS ?_
      simp only [Act.put, List.setIfInBounds_toArray, List.set_cons_zero, List.set_cons_succ]
      refine takeD 3 (some 68) (.slice (some ⟨g, 0, none⟩) l.length c) rfl rfl (by kernel_rfl) (by kernel_rfl) (by kernel_rfl) (by kernel_rfl) (fun _ _ _ h => h) (Or.inl ⟨by kernel_rfl, fun wx hSw => by have h := hSw; go_simp⟩) hS ?_
      simp only [Act.put, List.setIfInBounds_toArray, List.set_cons_zero, List.set_cons_succ]
      refine takeD 4 (some 69) (.int .i64 (j : Int)) rfl rfl (by kernel_rfl) (by kernel_rfl) (by kernel_rfl) (by kernel_rfl) (fun _ _ _ h => h) (Or.inl ⟨by kernel_rfl, fun wx hSw => by have h := hSw; go_simp⟩) hS ?_
      simp only [Act.put, List.setIfInBounds_toArray, List.set_cons_zero, List.set_cons_succ]
      have hx0 : Below w6.heap.size w6 w6.drew := c_drew (c_refl _)
      have h60 := h6.quiet hx0
      have hM60 := hM6.call hx0 (by omega)
      have hs60 : gB + 1 + 1 ≤ w6.drew.heap.size := hs6
      generalize w6.drew = x0 at *
      have hal := d_al x0 (.cells #[.int .i64 2] 3)
      have hrv : RowC (x0.alloc (.cells #[.int .i64 2] 3)) x0.heap.size 3 #[.int .i64 2] := RowC.new _ _ _
      have hz1' : (x0.alloc (.cells #[.int .i64 2] 3)).heap.size = x0.heap.size + 1 := by simp
      have hx1 := c_call hx0 hal
      have h61 := h60.quiet hal
      have hM61 := hM60.call hal (by omega)
      have hX6 : ((done ++ lv.drop k).set k (l.set j 2))[k]? = some (l.set j 2) := List.getElem?_set_self (List.getElem?_eq_some_iff.1 HX.out).1
      have hv6 : vs'[k]? = some (.slice (some ⟨g, 0, none⟩) (l.set j 2).length c) := by rw [List.length_set]; exact Hv.out
      have hgvb : x0.heap.size ≠ g := by
        have h0 := h60.r k _ _ hv6 (levI_get hX6)
        have := own_ltT h0 g rfl
        omega
      refine oneT 5 (by kernel_rfl) rfl (fun K hK => ?_)
      go_simp
      refine hK.out _ _ (fun _ => hkeep _ hx1) ?_
      clear hK K
      generalize x0.alloc (.cells #[.int .i64 2] 3) = x1 at *
      generalize x0.heap.size = vb at *
      have hr6 := h61.r k _ _ hv6 (levI_get hX6)
      rw [castL_len, List.length_set] at hr6
      have hins := InsI_any base (some ⟨g, 0, none⟩) l.length c j vb (.int .i64 2) ((castL (l.set j 2)).map iv) x1 (by omega) (Nat.le_of_lt g1) rfl (one_iv _) (by omega) hr6 hrv (fun ad e => by injection e with e; subst e; exact hgvb)
      refine oneT 6 (by kernel_rfl) rfl (fun K hK => ?_)
      go_simp
      refine hins.mono ?_
      rintro e x2 hpost
      obtain ⟨A7, c7, rfl, h7, hgr7⟩ := h61.ins hX6 hv6 (by rw [List.length_set]) hpost
      have hM7 := hM61.turn hgr7 (by omega) (fun q hq => by
        injection hq with hq
        subst hq
        obtain ⟨cs, hr⟩ := own_tyT hr6 (g := g) rfl
        exact ⟨hgb, _, cs, hr, fun q hq => by simp at hq; rcases hq with rfl | rfl <;> exact sh_ne.1.symm⟩)
      have kx : x2.cell? ⟨gB, 1, none⟩ = some (.slice (some ⟨gl, 0, none⟩) nl cl) := (hM7.get 0 rfl).cell rfl
      refine hK.out _ _ (fun _ => kx) ?_
      clear hK K
      try simp only [Act.put, List.setIfInBounds_toArray, List.set_cons_zero, List.set_cons_succ]
      have hlX : nl = (((done ++ lv.drop k).set k (l.set j 2)).set k ((l.set j 2).take j ++ 2 :: (l.set j 2).drop j)).length := by
        rw [List.length_set, List.length_set, List.length_append, List.length_drop, Hdl.out, Hnl.out]; have := Hnl.out; omega
      have hl7 := h7.l
      rw [levI_lenX, ← hlX] at hl7
      have hkv : k < vs'.length := (List.getElem?_eq_some_iff.1 Hv.out).1
      have kl : x2.cell? ⟨gl, k, none⟩ = vs'[k]? := hl7.cellAt k (by omega)
      rw [Hv.out] at kl
      have fl : x2.frozen? ⟨gl, k, none⟩ = false := hl7.frozenAt k
      have h8 := h7.storeL hlX rfl
      have hgb2 : base ≤ gl := own_blockT hl7 gl rfl
      have hM8 := hM7.turn (grown_setCell x2 gl k (.slice A7 (l.length + 1) c7)) (by have := hM7.old.size; have := hgr7.size; omega) (fun q hq => by
        injection hq with hq
        subst hq
        obtain ⟨cs, hr⟩ := own_tyT hl7 (g := gl) rfl
        exact ⟨hgb2, _, cs, hr, fun q hq => by simp at hq; rcases hq with rfl | rfl <;> exact sh_ne.2.symm⟩)
      have hs8 : gB + 1 + 1 ≤ (x2.setCell ⟨gl, k, none⟩ (.slice A7 (l.length + 1) c7)).heap.size := by have := hgr7.size; simp; omega
      have hsp : (l.set j 2).take j ++ 2 :: (l.set j 2).drop j = splitT l j := by
        rw [splitT, List.take_set_of_le (Nat.le_refl _), drop_set_self g1]
      rw [hsp, List.set_set, Hset.out, show done ++ splitT l j :: lv.drop (k + 1) = (done ++ [splitT l j]) ++ lv.drop (k + 1) by simp] at h8
      have hlti : (k : Int) < (nl : Int) := by omega
      have hnc : l.length + 1 ≤ c7 + (l.length + 1) := by omega
      clear hgr7 hpost hins h61 hM61 h60 hM60 hr6 hrv hx1 hx0 hal hkeep h7 hM7 hl7 hsp hlX hS h6 hM6
      refine takeD 7 (some 72) (.pointer (some ⟨gl, k, none⟩)) rfl rfl (by kernel_rfl) (by kernel_rfl) (by kernel_rfl) (by kernel_rfl) (fun _ _ _ h => h) (Or.inl ⟨by kernel_rfl, fun wx hSw => by go_simp⟩) kx ?_
      simp only [Act.put, List.setIfInBounds_toArray, List.set_cons_zero, List.set_cons_succ]
      refine oneT 8 (by kernel_rfl) rfl (fun K hK => ?_)
      go_simp
      refine hK.out _ _ (fun h => absurd rfl h) ?_
      clear hK K
      refine doneT (by kernel_rfl) ?_ _
      go_wp2_with fail
      go_roundw
      case rel => exact ⟨k + 1, j, l.length, done ++ [splitT l j], _, by omega, by go_num, rfl, g1, hlen1, Ho4.out, by rw [Hf.out]; simp, by simp [Hdl.out], h8, hM8, hs8⟩
      case measure => simp [intOf]; omega
    · obtain rfl : k = nl := by omega
      have hdn : lv.drop k = [] := List.drop_of_length_le (by rw [← Hnl.out]; exact Nat.le_refl _)
      rw [hdn, List.append_nil] at h4
      have Hf3 := Lib.hid (show R.2 = done ++ [[2]] by rw [HR.out, hdn]; rfl)
      clear hdn
      have k1 := (hM4.get 0 rfl).cell (i := 1) (v := .slice Al k cl) rfl
      have hll := h4.l
      rw [levI_lenX, Hdl.out] at hll
      have b1 := d_al wr (.cells #[.int .i64 2] 3)
      have b2 := d_al (wr.alloc (.cells #[.int .i64 2] 3)) (.cells #[.slice (some ⟨wr.heap.size, 0, none⟩) 1 1] 22)
      have z1 : (wr.alloc (.cells #[.int .i64 2] 3)).heap.size = wr.heap.size + 1 := by simp
      have z2 : ((wr.alloc (.cells #[.int .i64 2] 3)).alloc (.cells #[.slice (some ⟨wr.heap.size, 0, none⟩) 1 1] 22)).heap.size = wr.heap.size + 1 + 1 := by simp
      have hMa := (hM4.call b1 (by omega)).call b2 (by omega)
      have hoa := own_below (own_below hll b1) b2
      have hua := own_below (own_two wr base (by omega)) b2
      have hone : ∀ u ∈ [Value.slice (some ⟨wr.heap.size, 0, none⟩) 1 1], u.oneCell' = true := by intro u hu; simp at hu; subst hu; rfl
      go_upto_region 20 with (at_builtin; refine wpList_append_rd _ rfl (.tmp 75) (.tmp 77) _ rfl base 22 i1 _ 24 Try.underlying23 hi1 hy0 hy1 hy2 rfl (.slice Al k cl) k vs' rfl hoa (wr.heap.size + 1 + 1) (some ⟨wr.heap.size + 1, 0, none⟩) 1 1 [.slice (some ⟨wr.heap.size, 0, none⟩) 1 1] rfl (Rd.mk_ _ _ _ z1 (by omega) rfl rfl) hone (by simp only [maxLen]; omega) (by omega) (by omega) ?_; intro v5 w5 hown5 hgr5 hat5; obtain ⟨A5, c5, rfl, _, _⟩ := own_formT hown5; have hM5 := hMa.turn hgr5 (by omega) (fun g hg => by
        obtain ⟨cs, hr⟩ := own_tyT hoa hg
        exact ⟨own_blockT hoa g hg, _, cs, hr, fun q hq => by simp at hq; rcases hq with rfl | rfl <;> exact sh_ne.2.symm⟩); have kc := (hM5.get 0 rfl).cell (i := 1) (v := .slice Al k cl) rfl; have kf := (hM5.get 0 rfl).frozen 1)
      try simp only [Act.put]
      have h5 := h4.snoc (u := .slice (some ⟨wr.heap.size, 0, none⟩) 1 1) (vL' := .slice A5 (k + 1) c5) (l := [2]) (c_call b1 b2) hua (fun q hq => by simp [Value.ownBlock] at hq; omega) hgr5 (by rw [levI_lenX, Hdl.out]; exact hown5)
      have hM6 := hM5.set (by omega) (fun q hq => by simp at hq; subst hq; simp) 1 (.slice A5 (k + 1) c5)
      rw [show (#[.slice A2 m c2, .slice Al k cl] : Array Value).setIfInBounds 1 (.slice A5 (k + 1) c5) = #[.slice A2 m c2, .slice A5 (k + 1) c5] from rfl] at hM6
      have h6 := h5.far (grown_setCell _ gB 1 (.slice A5 (k + 1) c5)) (hM5.get 0 rfl) sh_ne.1 sh_ne.2
      rw [show levI done ++ [[2]] = levI R.2 by rw [Hf3.out]; simp [levI]] at h6
      generalize hus : vs' ++ [Value.slice (some ⟨wr.heap.size, 0, none⟩) 1 1] = us at h6
      refine wp_gen (fun wx => MsB base w wx [(gB, 25, #[.slice A2 m c2, .slice A5 (k + 1) c5]), (gB + 1, 25, #[.slice none 0 0, .slice none 0 0])] ∧ OwW base wx (.slice A2 m c2) (.slice A5 (k + 1) c5) us us R.1 (levI R.2)) ⟨hM6, h6⟩ ?_
      clear hM6 h6 hM5 h5 hMa hoa hua hone hown5 hgr5 hat5 kc kf hM4 h4 hll k1 b1 b2 z1 z2 hus
      rintro w7 ⟨hM7, h7⟩
      go_wp2_with (first
        | ((with_reducible show wpList _ _ _ (⟨some 80, _, _, _, _, _⟩ :: _) _ _); refine wpList_loadC (by kernel_rfl) 25 (.tmp 2) rfl gB rfl 25 #[.slice A2 m c2, .slice A5 (k + 1) c5] _ (hM7.get 0 rfl) Try.underlying25 rfl shapeInfo2 ?_)
        | ((with_reducible show wpList _ _ _ (⟨none, Op.store 25 _ _, _, _, _, _⟩ :: _) _ _); refine wpList_store_row rfl 25 (.tmp 4) (.tmp 80) rfl (gB + 1) #[.slice A2 m c2, .slice A5 (k + 1) c5] rfl rfl 25 _ (hM7.get 1 rfl) shapeInfo2 rfl (by simp [Value.oneCell']) ?_))
      try simp only [Act.put]
      have hR9 := (hM7.get 1 rfl).row #[.slice A2 m c2, .slice A5 (k + 1) c5]
      have hw9 := h7.far (grown_setRow _ (gB + 1) #[.slice A2 m c2, .slice A5 (k + 1) c5]) (hM7.get 1 rfl) sh_ne.1 sh_ne.2
      have hb9 := below_setRow hM7.old (show base ≤ (gB + 1) by omega) #[.slice A2 m c2, .slice A5 (k + 1) c5]
      refine bodyPost_ret (results_cell_one rfl _ _ (gB + 1) _ #[.slice A2 m c2, .slice A5 (k + 1) c5] _ rfl hR9 Try.underlying25 rfl shapeInfo2) rfl (Hpost.out _ _ _ _ _ _ _ _ hb9 hw9)

end Go.Proofs.Ytbickllpledlbaa

