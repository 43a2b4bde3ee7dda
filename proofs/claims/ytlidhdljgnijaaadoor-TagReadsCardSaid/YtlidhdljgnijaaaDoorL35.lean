import Derived.Test.YtlidhdljgnijaaaDoorL34
import Derived.Test.YtlidhdljgnijaaaDoorL32
/-
  CONTRACT of coterieref13's Read.
-/
set_option linter.unusedVariables false
namespace Go.Proofs.YtlidhdljgnijaaaDoor
open Go.RowKit

theorem results_c2 {P : Program} {fn : Func} {p q r : Tmp} {ty : TypeId} (h : fn.results = #[.cell p ty, .tmp q, .tmp r]) (tmps : Array Value) (w : World) (g : Nat) (t : TypeId) (cs : Array Value) (d : TypeDesc)
    (hq : tmps.getD p undef = .pointer (some ⟨g, 0, none⟩)) (hg : RowC w g t cs) (hu : P.underlying ty = some d) (hd : (match d with | .struct _ | .array _ _ => true | _ => false) = true) (hi : (P.info? ty).map (·.size) = some cs.size) :
    (results fn tmps).run P w = .ok (.tuple #[.agg cs, tmps.getD q undef, tmps.getD r undef]) w := by
  have hq' : tmps[p]?.getD undef = .pointer (some ⟨g, 0, none⟩) := by simpa using hq
  simp [results, h, hq', asAddr, run_loadVar_row w g t ty cs (0, 0) d hg hu hd hi]
theorem numV_lt4 (l : List UInt8) (p : Nat) {wd : Nat} (h : wd ≤ 4) : numV l p wd < 256 ^ wd := by
  rw [numV]
  split
  · have h1 := val_lt ((l.drop p).take wd)
    have h2 : ((l.drop p).take wd).length ≤ wd := by rw [List.length_take]; omega
    have h3 : 256 ^ ((l.drop p).take wd).length ≤ 256 ^ wd := Nat.pow_le_pow_right (by omega) h2
    omega
  · exact Nat.pow_pos (by omega)
theorem lvsL_le (l : List UInt8) : ∀ (n p : Nat) (sh : Bool), p ≤ l.length → ∀ x ∈ (lvsL l n p sh).1, x.length ≤ 65535
  | 0, p, sh, h => by intro x hx; simp [lvsL] at hx
  | n + 1, p, sh, h => by
    intro x hx
    rw [lvsL] at hx
    split at hx
    · simp at hx
    · have h1 := numsL_le (l := l) 1 (numV l p 2) (numP l p 2 sh) (numS l p 2 sh) (numP_le h)
      rcases List.mem_cons.1 hx with rfl | hx
      · have h2 := numV_lt4 l p (wd := 2) (by omega)
        have h3 := h1.2
        omega
      · exact lvsL_le l n _ _ h1.1 x hx
/-- what grew by a row, and then by rows that are newer -/
theorem grown_via {a b c : World} {g : Nat} {row : Option Nat} (h : a.grownBy b (some g)) (k : b.grownBy c row) (hr : ∀ q, row = some q → q = g ∨ a.heap.size ≤ q) : a.grownBy c (some g) :=
  ⟨k.os.trans h.os, k.tape.trans h.tape, k.output.trans h.output, Nat.le_trans h.size k.size, fun q hq hn => by
    rw [k.block q (Nat.lt_of_lt_of_le hq h.size) (fun e => by
      rcases hr q e.symm with h1 | h1
      · exact hn (by rw [h1])
      · omega), h.block q hq hn]⟩
/-- a number is read: the reader's box is turned, and nothing else -/
theorem Ms.num {w0 w w' : World} {gr : Nat} {t : TypeId} {cs cs' : Array Value} {L : List (Nat × TypeId × Array Value)} (h : Ms w0 w ((gr, t, cs) :: L)) (hg : w0.heap.size ≤ gr) (hne : ∀ p ∈ L, p.1 ≠ gr) (hgr : w.grownBy w' (some gr)) (hr : RowC w' gr t cs') : Ms w0 w' ((gr, t, cs') :: L) :=
  ⟨h.old.grown hgr h.old.size (fun k hk => by injection hk with hk; omega), fun p hp => by
    rcases List.mem_cons.1 hp with rfl | hp
    · exact hr
    · have h1 := h.rows p (by simp [hp])
      exact h1.of (hgr.block p.1 h1.lt (fun e => by injection e with e; exact hne p hp e))⟩

/-- the first so many bytes of a key, and none behind -/
def kTo13 (b : List UInt8) (j : Nat) : List UInt8 := b.take j ++ List.replicate (32 - j) 0
theorem kTo13_zero (b : List UInt8) : kTo13 b 0 = zeroK := by simp [kTo13, zeroK]
theorem kTo13_all {b : List UInt8} (hb : b.length = 32) : kTo13 b 32 = b := by simp [kTo13, ← hb]
theorem kTo13_len {b : List UInt8} {j : Nat} (hb : b.length = 32) (hj : j ≤ 32) : (kTo13 b j).length = 32 := by
  rw [kTo13, List.length_append, List.length_take, List.length_replicate]
  omega
theorem kTo13_succ {b : List UInt8} {j : Nat} {y : UInt8} (h : b[j]? = some y) (hb : b.length = 32) : (kTo13 b j).set j y = kTo13 b (j + 1) := by
  have hj := (List.getElem?_eq_some_iff.1 h).1
  apply List.ext_getElem?
  intro i
  rw [List.getElem?_set, kTo13, kTo13, List.length_append, List.length_take, List.length_replicate, List.getElem?_append, List.getElem?_append, List.length_take, List.length_take]
  by_cases e : j = i
  · subst e
    rw [if_pos rfl, if_pos (by omega), if_pos (by omega), List.getElem?_take, if_pos (by omega), h]
  · rw [if_neg e]
    by_cases h1 : i < j
    · rw [if_pos (by omega), if_pos (by omega), List.getElem?_take, List.getElem?_take, if_pos h1, if_pos (by omega)]
    · rw [if_neg (by omega), if_neg (by omega), List.getElem?_replicate, List.getElem?_replicate]
      by_cases h2 : i < 32
      · rw [if_pos (by omega), if_pos (by omega)]
      · rw [if_neg (by omega), if_neg (by omega)]
theorem ptsS (l : List UInt8) (p j : Nat) (h : p + j * 32 + 32 ≤ l.length) : (l.drop p).take ((j + 1) * 32) = (l.drop p).take (j * 32) ++ (l.drop (p + j * 32)).take 32 := by
  rw [Nat.succ_mul, List.take_add, List.drop_drop]

set_option maxRecDepth 100000 in
set_option maxHeartbeats 16000000 in
theorem RRead13 (Ab : Option Addr) (nb cb : Nat) (l : List UInt8) (d : Int) (w : World) (hr : Rd w w.heap.size Ab nb (l.map bv)) (hnc : nb ≤ cb) (hn : nb ≤ 1000000) :
    Calls Tryd.prog 26 #[.slice Ab nb cb, .int .i64 d] w (ReadPost w l d) := by
  have hl : l.length = nb := by have := hr.len; rwa [List.length_map] at this
  have Hl := Lib.hid hl
  obtain ⟨i0, hi0, hz0, hz1, hz2⟩ := info_parts intInfo
  obtain ⟨i1, hi1, hy0, hy1, hy2⟩ := info_parts listInfo
  obtain ⟨iK, hiK, hzK, hsK, hbK⟩ := info_parts infoKeyK
  have Hbad := Lib.hid (show ∀ w' er, er = readE l d → er ≠ 0 → Below w.heap.size w w' → ReadPost w l d (.returned (.tuple #[.agg (tgV 0 none 0 0 none 0 0 none 0 0), .int .i64 0, .int .i64 er])) w' from fun w' er h1 h2 h3 => ⟨h3, .inl ⟨by rw [← h1]; exact h2, by rw [h1]⟩⟩)
  have Hgood := Lib.hid (show ∀ w' Ai ni ci Al nl cl Ap cp, readE l d = 0 → Below w.heap.size w w' → TgR w' w'.heap.size Ai ni ci Al nl cl (idsR l d.toNat).1 (lvsR l d.toNat).1 Ap (manyR l d.toNat) cp (ptsR l d.toNat) → ReadPost w l d (.returned (.tuple #[.agg (tgV (kindR l d.toNat) Ai ni ci Al nl cl Ap (manyR l d.toNat) cp), .int .i64 (readN l d), .int .i64 0])) w' from fun w' Ai ni ci Al nl cl Ap cp h1 h2 h3 => ⟨h2, .inr ⟨h1, _, _, _, _, _, _, _, _, rfl, h3⟩⟩)
  generalize ReadPost w l d = PO at *
  have hM0 := (Ms.nil w).box 28 (tgV 0 none 0 0 none 0 0 none 0 0)
  go_enter Tryd.func26, Tryd.ntmps26
  go_upto_region 1 with fail
  try simp only [Act.put]
  obtain ⟨g, hg⟩ : ∃ g, g = w.heap.size := ⟨_, rfl⟩
  rw [← hg] at hM0 ⊢
  refine wp_gen (fun wx => Ms w wx [(g, 28, tgV 0 none 0 0 none 0 0 none 0 0)]) hM0 ?_
  have Hg := Lib.hid hg
  clear hM0 hg hl
  rintro w0 hM0
  have hrow0 := hM0.get 0 rfl
  by_cases hd : d < 0 ∨ (nb : Int) < d
  · have HE := Lib.hid (show (1 : Int) = readE l d by rw [readE, Hl.out, if_pos hd])
    have hb := below_setRow hM0.old (show w.heap.size ≤ g by have := Hg.out; omega) (tgV 0 none 0 0 none 0 0 none 0 0)
    rcases hd with hd | hd
    · clear hM0
      go_wp2_with ((with_reducible show wpList _ _ _ (⟨none, Op.store 28 _ _, _, _, _, _⟩ :: _) _ _); refine wpList_store_row rfl 28 (.tmp 4) (.tmp 25) rfl g (tgV 0 none 0 0 none 0 0 none 0 0) rfl rfl 28 _ hrow0 tgInfo2 rfl (by simp [tgV, Value.oneCell']) ?_)
      refine bodyPost_ret (results_c2 rfl _ _ g 28 (tgV 0 none 0 0 none 0 0 none 0 0) _ rfl (hrow0.row _) Tryd.underlying28 rfl tgInfo2) rfl ?_
      exact Hbad.out _ 1 HE.out (by decide) hb
    · have hd0 : ¬ d < 0 := by omega
      clear hM0
      go_wp2_with ((with_reducible show wpList _ _ _ (⟨none, Op.store 28 _ _, _, _, _, _⟩ :: _) _ _); refine wpList_store_row rfl 28 (.tmp 4) (.tmp 25) rfl g (tgV 0 none 0 0 none 0 0 none 0 0) rfl rfl 28 _ hrow0 tgInfo2 rfl (by simp [tgV, Value.oneCell']) ?_)
      refine bodyPost_ret (results_c2 rfl _ _ g 28 (tgV 0 none 0 0 none 0 0 none 0 0) _ rfl (hrow0.row _) Tryd.underlying28 rfl tgInfo2) rfl ?_
      exact Hbad.out _ 1 HE.out (by decide) hb
  obtain ⟨a, rfl⟩ : ∃ a : Nat, d = (a : Int) := ⟨d.toNat, by omega⟩
  have ha : a ≤ nb := by omega
  have hd0 : ¬ (a : Int) < 0 := by omega
  have hd1 : ¬ (nb : Int) < (a : Int) := by omega
  have Hd := Lib.hid hd
  clear hd hrow0
  go_upto_region 5 with fail
  try simp only [Act.put]
  have hM1 := (hM0.box 88 (rdrC Ab nb cb a false)).box 28 (tgV 0 none 0 0 none 0 0 none 0 0)
  simp only [World.size_alloc] at hM1
  have hg0 := (hM0.get 0 rfl).lt
  have hwg : w.heap.size ≤ g := by have := Hg.out; omega
  obtain ⟨gr, hgr⟩ : ∃ gr, gr = w0.heap.size := ⟨_, rfl⟩
  rw [← hgr] at hM1 hg0 ⊢
  refine wp_gen (fun wx => Ms w wx [(gr + 1, 28, tgV 0 none 0 0 none 0 0 none 0 0), (gr, 88, rdrC Ab nb cb a false), (g, 28, tgV 0 none 0 0 none 0 0 none 0 0)]) hM1 ?_
  clear hM1 hgr hM0
  clear w0
  rintro w1 hM1
  have hRd : ∀ wx, Below w.heap.size w wx → Rd wx gr Ab nb (l.map bv) := fun wx hb => (hr.below hb).more (by omega)
  have HR := Lib.hid hRd
  clear hRd
  have hz := (hM1.get 0 rfl).lt
  have hn1 := RNum13 gr Ab nb cb l a 1 false w1 (HR.out _ hM1.old) hnc hn ha (.inl rfl) (hM1.get 1 rfl)
  generalize hkv : numV l a 1 = kv at hn1
  have hkv2 : kv < 256 := by rw [← hkv]; exact numV_lt4 l a (by omega)
  have hp1 : numP l a 1 false ≤ nb := by have := @numP_le l a 1 false (by rw [Hl.out]; exact ha); have h2 := Hl.out; omega
  generalize hpp : numP l a 1 false = p1 at hn1 hp1
  generalize hsh : numS l a 1 false = s1 at hn1
  have Hn1 := Lib.hid (And.intro hkv (And.intro hpp hsh))
  clear hkv hpp hsh
  go_upto_region 5 with fail
  go_wp2_with fail
  refine hn1.mono ?_
  rintro e w2 ⟨he, hgr2, hrr2, hs2⟩
  subst he
  have hgge : w.heap.size ≤ gr := by omega
  have hM2 := (hM1.swap.num hgge (fun p hp => by simp only [List.mem_cons, List.not_mem_nil, or_false] at hp; rcases hp with rfl | rfl <;> simp <;> omega) hgr2 hrr2).swap
  have k0 := (hM2.get 0 rfl).cell (i := 0) (v := .int .i64 0) rfl
  have f0 := (hM2.get 0 rfl).frozen 0
  have hM3 := hM2.setCell (by omega) (fun p hp => by simp only [List.mem_cons, List.not_mem_nil, or_false] at hp; rcases hp with rfl | rfl <;> simp <;> omega) 0 (.int .i64 (kv : Int))
  clear hn1 hgr2 hrr2 hs2 hM1
  go_upto_region 6 with fail
  try simp only [Act.put]
  refine wp_gen (fun wx => Ms w wx [(gr + 1, 28, tgV (kv : Int) none 0 0 none 0 0 none 0 0), (gr, 88, rdrC Ab nb cb p1 s1), (g, 28, tgV 0 none 0 0 none 0 0 none 0 0)]) hM3 ?_
  clear hM3 hM2 k0 f0 hz
  clear w2 w1
  rintro w4 hM4
  have hn2 := RNum13 gr Ab nb cb l p1 2 s1 w4 (HR.out _ hM4.old) hnc hn hp1 (.inr (.inl rfl)) (hM4.get 1 rfl)
  generalize hnv : numV l p1 2 = n0 at hn2
  have hnv2 : n0 < 65536 := by rw [← hnv]; exact numV_lt4 l p1 (wd := 2) (by omega)
  have hp2 : numP l p1 2 s1 ≤ nb := by have := @numP_le l p1 2 s1 (by rw [Hl.out]; exact hp1); have h2 := Hl.out; omega
  generalize hpp : numP l p1 2 s1 = p2 at hn2 hp2
  generalize hsh : numS l p1 2 s1 = s2 at hn2
  have Hn2 := Lib.hid (show idsR l a = numsL l 4 n0 p2 s2 by rw [idsR, Hn1.out.2.1, Hn1.out.2.2, hnv, hpp, hsh])
  have Hkd := Lib.hid (show kindR l a = (kv : Int) by rw [kindR, Hn1.out.1])
  clear hnv hpp hsh Hn1 hp1
  go_upto_region 6 with fail
  go_wp2_with fail
  refine hn2.mono ?_
  rintro e w5 ⟨he, hgr2, hrr2, hs2⟩
  subst he
  have hM5 := (hM4.swap.num hgge (fun p hp => by simp only [List.mem_cons, List.not_mem_nil, or_false] at hp; rcases hp with rfl | rfl <;> simp <;> omega) hgr2 hrr2).swap
  clear hn2 hgr2 hrr2 hs2 hM4
  clear w4
  go_wp2_with fail
  have hz5 := (hM5.get 0 rfl).lt
  have H0 : numsL l 4 n0 p2 s2 = ([] ++ (numsL l 4 n0 p2 s2).1, (numsL l 4 n0 p2 s2).2) := by simp
  generalize hQ : numsL l 4 n0 p2 s2 = Q0 at Hn2 H0
  have H0' := H0
  rw [← hQ] at H0'
  rename_i K hK
  have hall : ∀ (u9 t17 t18 t19 t20 t21 t22 t23 t24 t25 t26 t27 t28 t29 t30 t31 t32 t33 t34 t35 u36 u37 u38 u39 u40 u41 u42 u43 u44 u45 u46 u47 u48 u49 u50 u51 u52 u53 u54 u55 : Value) (wx : World) (p : Nat) (sh : Bool) (xs : List Int) (A : Option Addr) (c : Nat), p ≤ nb → xs.length ≤ 65536 → Q0 = (xs, p, sh) → wx.ownsRow (gr + 2) 3 1 (.slice A xs.length c) xs.length (xs.map iv) →
      Ms w wx [(gr + 1, 28, tgV (kv : Int) A xs.length c none 0 0 none 0 0), (gr, 88, rdrC Ab nb cb p sh), (g, 28, tgV 0 none 0 0 none 0 0 none 0 0)] → K ⟨#[.slice Ab nb cb, .int .i64 (a : Int), undef, undef, .pointer (some ⟨g, 0, none⟩), .int .i64 0, .int .i64 0, .pointer (some ⟨gr, 0, none⟩), .pointer (some ⟨gr + 1, 0, none⟩), u9, undef, undef, undef, undef, undef, undef, undef, t17, t18, t19, t20, t21, t22, t23, t24, t25, t26, t27, t28, t29, t30, t31, t32, t33, t34, t35, u36, u37, u38, u39, u40, u41, u42, u43, u44, u45, u46, u47, u48, u49, u50, u51, u52, u53, u54, u55, undef, undef, undef, undef, undef, undef, undef, undef, undef, undef, undef, undef, undef, undef, undef, undef, undef, undef, undef, undef, undef, undef, undef, undef, undef, undef, undef, undef, undef, undef, undef, undef, undef, undef, undef, undef, undef, undef, undef, undef, undef, undef, undef, undef, undef, undef, undef, undef, undef, undef, undef, undef, undef, undef, undef, undef, undef, undef, undef, undef, undef, undef, undef, undef, undef, undef, undef, undef, undef, undef, undef, undef, undef, undef, undef, undef, undef, undef, undef, undef, undef, undef, undef, undef, undef, undef, undef, undef, undef, undef, undef, undef, undef, undef, undef, undef, undef, undef, undef, undef, undef, undef, undef, undef, undef, undef], []⟩ wx := by
    intro u9 t17 t18 t19 t20 t21 t22 t23 t24 t25 t26 t27 t28 t29 t30 t31 t32 t33 t34 t35 u36 u37 u38 u39 u40 u41 u42 u43 u44 u45 u46 u47 u48 u49 u50 u51 u52 u53 u54 u55 wx p sh xs A c hp hxl hQ hown hM
    refine hK _ _ ?_
    clear hK
    have hids : idsR l a = (xs, p, sh) := Hn2.out.trans hQ
    clear Hn2 hQ
    have hn3 := RNum13 gr Ab nb cb l p 1 sh wx (HR.out _ hM.old) hnc hn hp (.inl rfl) (hM.get 1 rfl)
    generalize hnv : numV l p 1 = m0 at hn3
    have hnv2 : m0 < 256 := by rw [← hnv]; exact numV_lt4 l p (wd := 1) (by omega)
    have hp3 : numP l p 1 sh ≤ nb := by have := @numP_le l p 1 sh (by rw [Hl.out]; exact hp); have h2 := Hl.out; omega
    generalize hpp : numP l p 1 sh = p3 at hn3 hp3
    generalize hsh : numS l p 1 sh = s3 at hn3
    have Hlv := Lib.hid (show lvsR l a = lvsL l m0 p3 s3 by rw [lvsR, hids]; show lvsL l (numV l p 1) (numP l p 1 sh) (numS l p 1 sh) = _; rw [hnv, hpp, hsh])
    have Hids := Lib.hid hids
    clear hnv hpp hsh hids hp
    go_upto_region 10 with fail
    go_wp2_with fail
    refine hn3.mono ?_
    rintro e w6 ⟨he, hgr3, hrr3, hs3⟩
    subst he
    have hge : ∀ q, (Value.slice A xs.length c).ownBlock = some q → gr + 2 ≤ q := fun q hq => own_blockT hown q hq
    have hM6 := (hM.swap.num hgge (fun p hp => by simp only [List.mem_cons, List.not_mem_nil, or_false] at hp; rcases hp with rfl | rfl <;> simp <;> omega) hgr3 hrr3).swap
    have hown6 := hown.kept hgr3 (by
      cases hv : (Value.slice A xs.length c).ownBlock with
      | none => exact .inl rfl
      | some q => exact .inr fun e => by injection e with e; have := hge q hv; omega)
    have hid6 : Rd w6 w6.heap.size A xs.length (xs.map iv) := Rd.of_own hown6
    obtain ⟨A0, c0, ea, hcA, hcM⟩ := own_formT hown6
    injection ea with e1 e2 e3
    subst e3
    clear e1 e2 A0
    have hN6 := NewA.of_own hown6 (lo := gr + 2) (Nat.le_refl _)
    clear hn3 hgr3 hrr3 hs3 hM hown hge hown6
    go_wp2_with fail
    rename_i K2 hK2
    obtain ⟨B6, hB6⟩ : ∃ B6, B6 = w6.heap.size := ⟨_, rfl⟩
    have hz6 := (hM6.get 0 rfl).lt
    have hB7 : gr + 2 ≤ B6 := by omega
    rw [← hB6] at hid6
    have HN6 := Lib.hid hN6
    have Hc := Lib.hid (And.intro hcA hcM)
    clear hN6 hcA hcM
    obtain ⟨Q1, hQ1⟩ : ∃ Q1, Q1 = lvsL l m0 p3 s3 := ⟨_, rfl⟩
    rw [← hQ1] at Hlv
    have HQ1 := Lib.hid hQ1
    clear hQ1
    have hall2 : ∀ (s9 s10 s11 s12 s17 s18 s19 s20 s21 s22 s23 s24 s25 s26 s27 s28 s29 s30 s31 s32 s33 s34 s35 s36 s37 s38 s39 s40 s41 s42 s43 s44 s45 s46 s47 s48 s49 s50 s51 s52 s53 s54 s55 s56 s57 s58 s59 s60 s61 s62 s63 s64 s65 s66 s67 s68 s69 s70 s71 s72 s73 s74 s75 s76 s77 s78 s79 s80 s81 s82 s83 s84 s85 s86 s87 s88 s89 s90 s91 s92 s93 s94 : Value) (wr : World) (p : Nat) (sh : Bool) (ls : List (List Int)) (Al : Option Addr) (cl : Nat) (us : List Value), p ≤ nb → ls.length ≤ 256 → B6 ≤ wr.heap.size → Q1 = (ls, p, sh) → wr.ownsRow B6 22 1 (.slice Al ls.length cl) ls.length us ∧ Lvs wr wr.heap.size us ls ∧ LvD B6 wr.heap.size (Value.slice Al ls.length cl).ownBlock us ∧ Rd wr B6 A xs.length (xs.map iv) →
        Ms w wr [(gr + 1, 28, tgV (kv : Int) A xs.length c Al ls.length cl none 0 0), (gr, 88, rdrC Ab nb cb p sh), (g, 28, tgV 0 none 0 0 none 0 0 none 0 0)] → K2 ⟨#[.slice Ab nb cb, .int .i64 (a : Int), undef, undef, .pointer (some ⟨g, 0, none⟩), .int .i64 0, .int .i64 0, .pointer (some ⟨gr, 0, none⟩), .pointer (some ⟨gr + 1, 0, none⟩), s9, s10, s11, s12, undef, undef, undef, undef, s17, s18, s19, s20, s21, s22, s23, s24, s25, s26, s27, s28, s29, s30, s31, s32, s33, s34, s35, s36, s37, s38, s39, s40, s41, s42, s43, s44, s45, s46, s47, s48, s49, s50, s51, s52, s53, s54, s55, s56, s57, s58, s59, s60, s61, s62, s63, s64, s65, s66, s67, s68, s69, s70, s71, s72, s73, s74, s75, s76, s77, s78, s79, s80, s81, s82, s83, s84, s85, s86, s87, s88, s89, s90, s91, s92, s93, s94, undef, undef, undef, undef, undef, undef, undef, undef, undef, undef, undef, undef, undef, undef, undef, undef, undef, undef, undef, undef, undef, undef, undef, undef, undef, undef, undef, undef, undef, undef, undef, undef, undef, undef, undef, undef, undef, undef, undef, undef, undef, undef, undef, undef, undef, undef, undef, undef, undef, undef, undef, undef, undef, undef, undef, undef, undef, undef, undef, undef, undef, undef, undef, undef, undef, undef, undef], []⟩ wr := by
      intro s9 s10 s11 s12 s17 s18 s19 s20 s21 s22 s23 s24 s25 s26 s27 s28 s29 s30 s31 s32 s33 s34 s35 s36 s37 s38 s39 s40 s41 s42 s43 s44 s45 s46 s47 s48 s49 s50 s51 s52 s53 s54 s55 s56 s57 s58 s59 s60 s61 s62 s63 s64 s65 s66 s67 s68 s69 s70 s71 s72 s73 s74 s75 s76 s77 s78 s79 s80 s81 s82 s83 s84 s85 s86 s87 s88 s89 s90 s91 s92 s93 s94 wr p sh ls Al cl us hp hll hB hQ hF hM
      refine hK2 _ _ ?_
      clear hK2
      have hlvR : lvsR l a = (ls, p, sh) := Hlv.out.trans hQ
      have hQe := hQ
      clear hQ
      have c2 := (hM.get 1 rfl).cell (i := 2) (v := .bool sh) rfl
      have hrow := hM.get 2 rfl
      cases sh
      · have k0 := (hM.get 0 rfl).cell (i := 0) (v := .int .i64 (kv : Int)) rfl
        have hmid := tg_sh (hM.get 0 rfl)
        go_upto_region 22 with ((with_reducible show wpList _ _ _ (⟨some _, Op.load 25 _, _, _, _, _⟩ :: _) _ _); refine wpList_load_midG (by kernel_rfl) 25 _ rfl (gr + 1) 1 rfl (shV A xs.length c Al ls.length cl).toList _ hmid Tryd.underlying25 rfl shapeInfo2 ?_)
        have hwide : ∀ x ∈ ls, x.length ≤ 1000000 := fun x hx => by
          have h1 := lvsL_le l m0 p3 s3 (by rw [Hl.out]; exact hp3) x (by rw [← HQ1.out, hQe]; exact hx)
          omega
        obtain ⟨A0, c0, ea, hcl, hcm⟩ := own_formT hF.1
        injection ea with e1 e2 e3
        subst e3
        clear e1 e2 A0
        have hszr := hM.old.size
        have hgz := (hM.get 0 rfl).lt
        have hsh : ShR wr wr.heap.size A xs.length c Al ls.length cl xs ls := ⟨rfl, rfl, Hc.out.1, hcl, Hc.out.2, hcm, hF.2.2.2.more hB, us, Rd.of_own hF.1, hF.2.1⟩
        have hSNr : ShN (gr + 2) wr wr.heap.size A xs.length c Al ls.length cl xs ls := ⟨hsh, HN6.out, NewA.of_own hF.1 (by omega), us, Rd.of_own hF.1, hF.2.1, fun v hv A n c e => (hF.2.2.1.new v hv A n c e).mono (by omega)⟩
        have hnodes := Nodes11_wide (kv : Int) A xs.length c Al ls.length cl xs ls wr hsh hwide
        refine hnodes.mono ?_
        rintro e w8 ⟨hb8, A8, n8, c8, rfl, hnd8⟩
        have hM8 := hM.call hb8
        have hsh8 := hsh.below hb8
        have HSN8 := Lib.hid (hSNr.call hb8)
        have HM8 := Lib.hid hM8
        clear hnodes hM hsh hwide hF k0 hmid hb8 hSNr
        by_cases hmb : mayB (kv : Int) xs ls = true
        · have he0 : mayE (kv : Int) xs ls = 0 := by rw [mayE, if_pos hmb]
          rw [he0]
          clear he0
          go_wp2_with fail
          rename_i K4 hK4
          have hn8 : n8 = manyR l a := by rw [manyR, hlvR, Hids.out, Hkd.out]; exact hnd8.len.symm
          have Hn8 := Lib.hid hn8
          clear hn8
          have hall4 : ∀ (v5 v6 v9 v10 v11 v12 v13 v14 v15 v16 v17 v18 v19 v20 v21 v22 v23 v24 v25 v26 v27 v28 v29 v30 v31 v32 v33 v34 v35 v36 v37 v38 v39 v40 v41 v42 v43 v44 v45 v46 v47 v48 v49 v50 v51 v52 v53 v54 v55 v56 v57 v58 v59 v60 v61 v62 v63 v64 v65 v66 v67 v68 v69 v70 v71 v72 v73 v74 v75 v76 v77 v78 v79 v80 v81 v82 v83 v84 v85 v86 v87 v88 v89 v90 v91 v92 v93 v94 v95 v96 v97 v98 v99 v100 v101 v102 v103 v104 v105 v106 v107 v108 v109 v110 v111 v112 v113 v114 v115 v116 v117 v118 v119 v120 v121 v122 v123 v124 v125 v126 v127 v128 v129 v130 v131 v132 v133 v134 v135 v136 v137 v138 v139 v140 v141 v142 v143 v144 v145 v146 v147 v148 v149 v150 v151 v152 v153 v154 v155 v156 v157 v158 v159 v160 v161 : Value) (wr : World) (Ap : Option Addr) (cp : Nat), p + n8 * 32 ≤ l.length → ShN (gr + 2) wr wr.heap.size A xs.length c Al ls.length cl xs ls ∧ wr.ownsRow (gr + 2) 36 32 (.slice Ap n8 cp) n8 ((ptsR l a).map bv) →
              Ms w wr [(gr + 1, 28, tgV (kv : Int) A xs.length c Al ls.length cl Ap n8 cp), (gr, 88, rdrC Ab nb cb (p + n8 * 32) false), (g, 28, tgV 0 none 0 0 none 0 0 none 0 0)] → K4 ⟨#[.slice Ab nb cb, .int .i64 (a : Int), undef, undef, .pointer (some ⟨g, 0, none⟩), v5, v6, .pointer (some ⟨gr, 0, none⟩), .pointer (some ⟨gr + 1, 0, none⟩), v9, v10, v11, v12, v13, v14, v15, v16, v17, v18, v19, v20, v21, v22, v23, v24, v25, v26, v27, v28, v29, v30, v31, v32, v33, v34, v35, v36, v37, v38, v39, v40, v41, v42, v43, v44, v45, v46, v47, v48, v49, v50, v51, v52, v53, v54, v55, v56, v57, v58, v59, v60, v61, v62, v63, v64, v65, v66, v67, v68, v69, v70, v71, v72, v73, v74, v75, v76, v77, v78, v79, v80, v81, v82, v83, v84, v85, v86, v87, v88, v89, v90, v91, v92, v93, v94, v95, v96, v97, v98, v99, v100, v101, v102, v103, v104, v105, v106, v107, v108, v109, v110, v111, v112, v113, v114, v115, v116, v117, v118, v119, v120, v121, v122, v123, v124, v125, v126, v127, v128, v129, v130, v131, v132, v133, v134, v135, v136, v137, v138, v139, v140, v141, v142, v143, v144, v145, v146, v147, v148, v149, v150, v151, v152, v153, v154, v155, v156, v157, v158, v159, v160, v161], []⟩ wr := by
            intro v5 v6 v9 v10 v11 v12 v13 v14 v15 v16 v17 v18 v19 v20 v21 v22 v23 v24 v25 v26 v27 v28 v29 v30 v31 v32 v33 v34 v35 v36 v37 v38 v39 v40 v41 v42 v43 v44 v45 v46 v47 v48 v49 v50 v51 v52 v53 v54 v55 v56 v57 v58 v59 v60 v61 v62 v63 v64 v65 v66 v67 v68 v69 v70 v71 v72 v73 v74 v75 v76 v77 v78 v79 v80 v81 v82 v83 v84 v85 v86 v87 v88 v89 v90 v91 v92 v93 v94 v95 v96 v97 v98 v99 v100 v101 v102 v103 v104 v105 v106 v107 v108 v109 v110 v111 v112 v113 v114 v115 v116 v117 v118 v119 v120 v121 v122 v123 v124 v125 v126 v127 v128 v129 v130 v131 v132 v133 v134 v135 v136 v137 v138 v139 v140 v141 v142 v143 v144 v145 v146 v147 v148 v149 v150 v151 v152 v153 v154 v155 v156 v157 v158 v159 v160 v161 wr Ap cp hpl hSO hM
            obtain ⟨hSN, hOK⟩ := hSO
            have hT : TgR wr wr.heap.size A xs.length c Al ls.length cl xs ls Ap n8 cp (ptsR l a) := ⟨hSN.sh, KyR.of_own hOK⟩
            refine hK4 _ _ ?_
            clear hK4 hM8 hsh8 hnd8 hrow
            have hck := RCheck13 (kv : Int) A xs.length c Al ls.length cl xs ls Ap n8 cp (ptsR l a) wr hT (few_of_chk (by rw [mayB, Bool.and_eq_true] at hmb; exact hmb.2))
            have hrow := hM.get 0 rfl
            have HE0 := Lib.hid (show readE l a = if okG (kv : Int) xs ls n8 (ptsR l a) = false then 3 else 0 by
              rw [readE, if_neg (by rw [Hl.out]; exact Hd.out), if_neg (by rw [Int.toNat_natCast, hlvR]; simp), if_neg (by rw [Int.toNat_natCast, hlvR, Hids.out, Hkd.out, hmb]; simp), Int.toNat_natCast, hlvR, Hids.out, Hkd.out, ← Hn8.out, if_neg (by show ¬ l.length < p + n8 * 32; omega)])
            go_wp2_with ((with_reducible show wpList _ _ _ (⟨some 153, _, _, _, _, _⟩ :: _) _ _); refine wpList_loadC (by kernel_rfl) 28 (.tmp 8) rfl (gr + 1) rfl 28 (tgV (kv : Int) A xs.length c Al ls.length cl Ap n8 cp) _ hrow Tryd.underlying28 rfl tgInfo2 ?_)
            refine hck.mono ?_
            rintro e w9 ⟨rfl, hb9⟩
            have hM9 := hM.call hb9
            have hSN9 := hSN.call hb9
            have hOK9 := own_below hOK hb9
            clear hck hT hM hb9 hrow hSN hOK
            by_cases hok : okG (kv : Int) xs ls n8 (ptsR l a) = true
            · have HE := Lib.hid (show readE l a = 0 by rw [HE0.out, hok, if_neg (by simp)])
              rw [show chkG (kv : Int) xs ls n8 (ptsR l a) = 0 by rw [chkG, if_pos hok]]
              have Hfin := Lib.hid (show ∀ w' pe, pe = p + n8 * 32 → Below w.heap.size w w' → TgR w' w'.heap.size A xs.length c Al ls.length cl xs ls Ap n8 cp (ptsR l a) → PO (.returned (.tuple #[.agg (tgV (kv : Int) A xs.length c Al ls.length cl Ap n8 cp), .int .i64 (pe : Int), .int .i64 0])) w' from fun w' pe h1 h2 h3 => by
                have h4 := Hgood.out w' A xs.length c Al ls.length cl Ap cp HE.out h2
                rw [readN, Int.toNat_natCast, hlvR, Hids.out, Hkd.out, ← Hn8.out] at h4
                rw [h1]
                exact h4 h3)
              obtain ⟨pe, hpe⟩ : ∃ pe, pe = p + n8 * 32 := ⟨_, rfl⟩
              rw [← hpe] at hM9
              have Hpe := Lib.hid hpe
              clear hpe hmb hlvR hok hQe
              go_upto_region 39 with fail
              try simp only [Act.put]
              have hkeep : ∀ wx : World, Below w9.heap.size w9 wx → wx.rangeAt (gr + 1) 0 (tgV (kv : Int) A xs.length c Al ls.length cl Ap n8 cp).toList ∧ wx.cell? ⟨gr, 1, none⟩ = some (.int .i64 (pe : Int)) := fun wx hbx => ⟨((hM9.get 0 rfl).call hbx).range, ((hM9.get 1 rfl).call hbx).cell rfl⟩
              refine beginT (fun wx : World => wx.rangeAt (gr + 1) 0 (tgV (kv : Int) A xs.length c Al ls.length cl Ap n8 cp).toList ∧ wx.cell? ⟨gr, 1, none⟩ = some (.int .i64 (pe : Int))) 8 (by kernel_rfl) ?_
              have hS := hkeep _ (c_drew (c_refl _))
              refine loadT 0 (some 157) 28 (.tmp 8) (gr + 1) 0 (tgV (kv : Int) A xs.length c Al ls.length cl Ap n8 cp).toList rfl rfl (by kernel_rfl) (by kernel_rfl) (by kernel_rfl) (by kernel_rfl) rfl (by kernel_rfl) rfl (fun wx hSw => hSw.1) Tryd.underlying28 rfl (by kernel_rfl) (fun _ _ _ h => h) hS ?_
              try simp only [Act.put, List.setIfInBounds_toArray, List.set_cons_zero, List.set_cons_succ, Array.toArray_toList]
              refine takeD 1 (some 158) (.pointer (some ⟨gr, 0, none⟩)) rfl rfl (by kernel_rfl) (by kernel_rfl) (by kernel_rfl) (by kernel_rfl) (fun _ _ _ h => h) (Or.inl ⟨by kernel_rfl, fun wx hSw => by go_simp⟩) hS ?_
              try simp only [Act.put, List.setIfInBounds_toArray, List.set_cons_zero, List.set_cons_succ]
              refine takeD 2 (some 159) (.pointer (some ⟨gr, 0, none⟩)) rfl rfl (by kernel_rfl) (by kernel_rfl) (by kernel_rfl) (by kernel_rfl) (fun _ _ _ h => h) (Or.inl ⟨by kernel_rfl, fun wx hSw => by go_simp⟩) hS ?_
              try simp only [Act.put, List.setIfInBounds_toArray, List.set_cons_zero, List.set_cons_succ]
              refine takeD 3 (some 160) (.pointer (some ⟨gr, 1, none⟩)) rfl rfl (by kernel_rfl) (by kernel_rfl) (by kernel_rfl) (by kernel_rfl) (fun _ _ _ h => h) (Or.inl ⟨by kernel_rfl, fun wx hSw => by go_simp⟩) hS ?_
              try simp only [Act.put, List.setIfInBounds_toArray, List.set_cons_zero, List.set_cons_succ]
              refine takeD 4 (some 161) (.int .i64 (pe : Int)) rfl rfl (by kernel_rfl) (by kernel_rfl) (by kernel_rfl) (by kernel_rfl) (fun _ _ _ h => h) (Or.inl ⟨by kernel_rfl, fun wx hSw => by have h := hSw.2; go_simp⟩) hS ?_
              try simp only [Act.put, List.setIfInBounds_toArray, List.set_cons_zero, List.set_cons_succ]
              have hdr : Below w9.heap.size w9 w9.drew := c_drew (c_refl _)
              have hM10 := hM9.call hdr
              have hSN10 := hSN9.call hdr
              have hOK10 := own_below hOK9 hdr
              clear hS hkeep hM9 hSN9 hOK9 hdr
              generalize w9.drew = x0 at *
              have hrow9 := hM10.get 2 rfl
              have hb := below_setRow hM10.old (show w.heap.size ≤ g from hwg) (tgV (kv : Int) A xs.length c Al ls.length cl Ap n8 cp)
              have hT10 : TgR (x0.setRow g (tgV (kv : Int) A xs.length c Al ls.length cl Ap n8 cp)) (x0.setRow g (tgV (kv : Int) A xs.length c Al ls.length cl Ap n8 cp)).heap.size A xs.length c Al ls.length cl xs ls Ap n8 cp (ptsR l a) := by
                have e : (x0.setRow g (tgV (kv : Int) A xs.length c Al ls.length cl Ap n8 cp)).heap.size = x0.heap.size := by simp [World.setRow]
                refine ⟨?_, KyR.of_own (hOK10.kept (grown_setRowK x0 g _) ?_)⟩
                · rw [e]
                  exact (hSN10.box (by omega) _).sh
                · cases hv : (Value.slice Ap n8 cp).ownBlock with
                  | none => exact .inl rfl
                  | some q =>
                    refine .inr ?_
                    have := (hOK10.lt q hv).1
                    intro h
                    injection h with h
                    omega
              have hSf : (x0.setRow g (tgV (kv : Int) A xs.length c Al ls.length cl Ap n8 cp)).rangeAt (gr + 1) 0 (tgV (kv : Int) A xs.length c Al ls.length cl Ap n8 cp).toList ∧ (x0.setRow g (tgV (kv : Int) A xs.length c Al ls.length cl Ap n8 cp)).cell? ⟨gr, 1, none⟩ = some (.int .i64 (pe : Int)) := ⟨((hM10.get 0 rfl).rowFar (by omega) _).range, ((hM10.get 1 rfl).rowFar (by omega) _).cell rfl⟩
              refine oneT 5 (by kernel_rfl) rfl (fun K hK => ?_)
              refine step_store_row (by kernel_rfl) 28 (.tmp 4) (.tmp 157) rfl g (tgV (kv : Int) A xs.length c Al ls.length cl Ap n8 cp) rfl rfl 28 _ hrow9 tgInfo2 rfl (by simp [tgV, Value.oneCell']) ?_
              refine hK.out _ _ (fun _ => hSf) ?_
              clear hK K
              try simp only [Act.put, List.setIfInBounds_toArray]
              refine oneT 6 (by kernel_rfl) rfl (fun K hK => ?_)
              go_simp
              refine hK.out _ _ (fun _ => hSf) ?_
              clear hK K
              try simp only [Act.put, List.setIfInBounds_toArray, List.set_cons_zero, List.set_cons_succ]
              refine oneT 7 (by kernel_rfl) rfl (fun K hK => ?_)
              go_simp
              refine hK.out _ _ (fun _ => hSf) ?_
              clear hK K
              refine doneT (by kernel_rfl) ?_ _
              go_wp2_with fail
              refine bodyPost_ret (results_c2 rfl _ _ g 28 (tgV (kv : Int) A xs.length c Al ls.length cl Ap n8 cp) _ rfl (hrow9.row _) Tryd.underlying28 rfl tgInfo2) rfl ?_
              exact Hfin.out _ pe Hpe.out hb hT10
            · have hok' : okG (kv : Int) xs ls n8 (ptsR l a) = false := by simpa using hok
              have HE := Lib.hid (show 3 = readE l a by rw [HE0.out, hok', if_pos rfl])
              rw [show chkG (kv : Int) xs ls n8 (ptsR l a) = 1 by rw [chkG, if_neg hok]]
              have hrow8 := hM9.get 2 rfl
              have hb := below_setRow hM9.old (show w.heap.size ≤ g from hwg) (tgV 0 none 0 0 none 0 0 none 0 0)
              clear hM9 hSN9 hOK9 hmb hlvR hok hok'
              go_wp2_with ((with_reducible show wpList _ _ _ (⟨none, Op.store 28 _ _, _, _, _, _⟩ :: _) _ _); refine wpList_store_row rfl 28 (.tmp 4) _ rfl g (tgV 0 none 0 0 none 0 0 none 0 0) rfl rfl 28 _ hrow8 tgInfo2 rfl (by simp [tgV, Value.oneCell']) ?_)
              refine bodyPost_ret (results_c2 rfl _ _ g 28 (tgV 0 none 0 0 none 0 0 none 0 0) _ rfl (hrow8.row _) Tryd.underlying28 rfl tgInfo2) rfl ?_
              exact Hbad.out _ 3 HE.out (by decide) hb
          have Hall4 := Lib.hid hall4
          clear hall4 hK4 hsh8 hnd8 hrow
          have hM8 := HM8.out
          obtain ⟨B8, hB8⟩ : ∃ B, B = w8.heap.size := ⟨_, rfl⟩
          have hgr8 : gr + 2 ≤ B8 := by have := (hM8.get 0 rfl).lt; omega
          have hF8 : w8.ownsRow B8 36 32 (.slice none 0 0) 0 (((l.drop p).take (0 * 32)).map bv) ∧ ShN (gr + 2) w8 B8 A xs.length c Al ls.length cl xs ls := ⟨by rw [Nat.zero_mul, List.take_zero, List.map_nil]; exact World.ownsRow_nil _ _ _ _, by rw [hB8]; exact HSN8.out⟩
          have hB8w : B8 ≤ w8.heap.size := Nat.le_of_eq hB8
          have Hpts := Lib.hid (show ptsR l a = (l.drop p).take (n8 * 32) by rw [ptsR, hlvR, ← Hn8.out])
          have HE1 := Lib.hid (show l.length < p + n8 * 32 → 2 = readE l a from fun hlt => by
            rw [readE, if_neg (by rw [Hl.out]; exact Hd.out), if_neg (by rw [Int.toNat_natCast, hlvR]; simp), if_neg (by rw [Int.toNat_natCast, hlvR, Hids.out, Hkd.out, hmb]; simp), Int.toNat_natCast, hlvR, ← Hn8.out, if_pos hlt])
          clear hB8 hmb hlvR hQe
          go_loopw [113] (fun v113 wr => ∃ (j : Nat) (Ap : Option Addr) (cp : Nat), v113 = .int .i64 (j : Int) ∧ j ≤ n8 ∧ p + j * 32 ≤ nb ∧ B8 ≤ wr.heap.size ∧ (wr.ownsRow B8 36 32 (.slice Ap j cp) j (((l.drop p).take (j * 32)).map bv) ∧ ShN (gr + 2) wr B8 A xs.length c Al ls.length cl xs ls) ∧
            Ms w wr [(gr + 1, 28, tgV (kv : Int) A xs.length c Al ls.length cl Ap j cp), (gr, 88, rdrC Ab nb cb (p + j * 32) false), (g, 28, tgV 0 none 0 0 none 0 0 none 0 0)]) (fun v113 _ => n8 - (intOf v113).toNat)
          case atStart => exact ⟨0, none, 0, rfl, by omega, by omega, hB8w, hF8, by rw [Nat.zero_mul, Nat.add_zero]; exact hM8⟩
          case round =>
            clear hM8 hF8 hB8w HM8 HSN8
            obtain ⟨j, Ap, cp, rfl, hj, hpj, hBr, hF, hM⟩ := hrel
            by_cases hjn : j < n8
            · have zj : (j : Int) < (n8 : Int) := by omega
              obtain ⟨pj, hpjE⟩ : ∃ pj, pj = p + j * 32 := ⟨_, rfl⟩
              rw [← hpjE] at hM hpj
              have HpjE := Lib.hid hpjE
              have hj9 : j ≤ 100000 := by omega
              clear hpjE
              have k1 := (hM.get 1 rfl).cell (i := 1) (v := .int .i64 (pj : Int)) rfl
              have zs : IntKind.i64.wrap ((nb : Int) - (pj : Int)) = ((nb - pj : Nat) : Int) := by rw [IntKind.wrap_i64]; omega
              by_cases hsh : nb - pj < 32
              · have zt : ((nb - pj : Nat) : Int) < 32 := by omega
                have HE := Lib.hid (HE1.out (by rw [Hl.out]; have := HpjE.out; omega))
                have hrow8 := hM.get 2 rfl
                have hb := below_setRow hM.old (show w.heap.size ≤ g from hwg) (tgV 0 none 0 0 none 0 0 none 0 0)
                generalize nb - pj = df at *
                clear hM hF
                go_wp2_with ((with_reducible show wpList _ _ _ (⟨none, Op.store 28 _ _, _, _, _, _⟩ :: _) _ _); refine wpList_store_row rfl 28 (.tmp 4) _ rfl g (tgV 0 none 0 0 none 0 0 none 0 0) rfl rfl 28 _ hrow8 tgInfo2 rfl (by simp [tgV, Value.oneCell']) ?_)
                refine bodyPost_ret (results_c2 rfl _ _ g 28 (tgV 0 none 0 0 none 0 0 none 0 0) _ rfl (hrow8.row _) Tryd.underlying28 rfl tgInfo2) rfl ?_
                exact Hbad.out _ 2 HE.out (by decide) hb
              have zt : ¬ ((nb - pj : Nat) : Int) < 32 := by omega
              have hp32 : pj + 32 ≤ nb := by omega
              clear hsh
              generalize nb - pj = df at *
              obtain ⟨ba, ob, hAb, hba, _⟩ := hr.pos (show 0 < nb by omega)
              subst hAb
              have hM1 := hM.box 36 (keyC zeroK)
              rw [keyC_zero] at hM1
              have hown1 := own_below hF.1 (d_al wr (.cells #[.int .u8 0, .int .u8 0, .int .u8 0, .int .u8 0, .int .u8 0, .int .u8 0, .int .u8 0, .int .u8 0, .int .u8 0, .int .u8 0, .int .u8 0, .int .u8 0, .int .u8 0, .int .u8 0, .int .u8 0, .int .u8 0, .int .u8 0, .int .u8 0, .int .u8 0, .int .u8 0, .int .u8 0, .int .u8 0, .int .u8 0, .int .u8 0, .int .u8 0, .int .u8 0, .int .u8 0, .int .u8 0, .int .u8 0, .int .u8 0, .int .u8 0, .int .u8 0] 36))
              have hSN1 := hF.2.below ((d_al wr (.cells #[.int .u8 0, .int .u8 0, .int .u8 0, .int .u8 0, .int .u8 0, .int .u8 0, .int .u8 0, .int .u8 0, .int .u8 0, .int .u8 0, .int .u8 0, .int .u8 0, .int .u8 0, .int .u8 0, .int .u8 0, .int .u8 0, .int .u8 0, .int .u8 0, .int .u8 0, .int .u8 0, .int .u8 0, .int .u8 0, .int .u8 0, .int .u8 0, .int .u8 0, .int .u8 0, .int .u8 0, .int .u8 0, .int .u8 0, .int .u8 0, .int .u8 0, .int .u8 0] 36)).mono hBr)
              have hne1 : ∀ q, (Value.slice Ap j cp).ownBlock = some q → q < wr.heap.size := fun q hq => (hF.1.lt q hq).2
              go_upto_region 29 with fail
              try simp only [Act.put]
              obtain ⟨gk, hgk⟩ : ∃ q, q = wr.heap.size := ⟨_, rfl⟩
              rw [← hgk] at hM1 hne1 hBr ⊢
              have hBk : B8 ≤ gk := hBr
              refine wp_gen (fun wx => (wx.ownsRow B8 36 32 (.slice Ap j cp) j (((l.drop p).take (j * 32)).map bv) ∧ ShN (gr + 2) wx B8 A xs.length c Al ls.length cl xs ls) ∧ Ms w wx [(gk, 36, #[.int .u8 0, .int .u8 0, .int .u8 0, .int .u8 0, .int .u8 0, .int .u8 0, .int .u8 0, .int .u8 0, .int .u8 0, .int .u8 0, .int .u8 0, .int .u8 0, .int .u8 0, .int .u8 0, .int .u8 0, .int .u8 0, .int .u8 0, .int .u8 0, .int .u8 0, .int .u8 0, .int .u8 0, .int .u8 0, .int .u8 0, .int .u8 0, .int .u8 0, .int .u8 0, .int .u8 0, .int .u8 0, .int .u8 0, .int .u8 0, .int .u8 0, .int .u8 0]), (gr + 1, 28, tgV (kv : Int) A xs.length c Al ls.length cl Ap j cp), (gr, 88, rdrC (some ⟨ba, ob, none⟩) nb cb pj false), (g, 28, tgV 0 none 0 0 none 0 0 none 0 0)]) ⟨⟨hown1, hSN1⟩, hM1⟩ ?_
              clear hown1 hSN1 hM1 hF hM hgk k1 hBr
              rintro w10 ⟨hF10, hM10⟩
              obtain ⟨ky, hky⟩ : ∃ ky, ky = (l.drop pj).take 32 := ⟨_, rfl⟩
              have hkl : ky.length = 32 := by rw [hky, List.length_take, List.length_drop, Hl.out]; omega
              have Hkl := Lib.hid hkl
              have Hky := Lib.hid hky
              have Hki := Lib.hid (show ∀ i, i < 32 → ky[i]? = l[pj + i]? from fun i hi => by rw [hky, List.getElem?_take, if_pos hi, List.getElem?_drop])
              clear hkl hky
              go_wp2_with fail
              go_loopw [124] (fun v124 wr => ∃ i : Nat, v124 = .int .i64 (i : Int) ∧ i ≤ 32 ∧ (wr.ownsRow B8 36 32 (.slice Ap j cp) j (((l.drop p).take (j * 32)).map bv) ∧ ShN (gr + 2) wr B8 A xs.length c Al ls.length cl xs ls) ∧
                Ms w wr [(gk, 36, keyC (kTo13 ky i)), (gr + 1, 28, tgV (kv : Int) A xs.length c Al ls.length cl Ap j cp), (gr, 88, rdrC (some ⟨ba, ob, none⟩) nb cb pj false), (g, 28, tgV 0 none 0 0 none 0 0 none 0 0)]) (fun v124 _ => 32 - (intOf v124).toNat)
              case atStart => exact ⟨0, rfl, by omega, hF10, by rw [kTo13_zero, keyC_zero]; exact hM10⟩
              case round =>
                clear hF10 hM10
                obtain ⟨i, rfl, hi, hF, hM⟩ := hrel
                by_cases hi32 : i < 32
                · obtain ⟨y, hy⟩ : ∃ y, l[pj + i]? = some y := ⟨_, List.getElem?_eq_getElem (by have := Hl.out; omega)⟩
                  have cb : wr.cell? ⟨ba, ob + (pj + i), none⟩ = some (.int .u8 (y.toNat : Int)) := by
                    obtain ⟨b', o', he, _, hcz⟩ := (HR.out wr hM.old).pos (show 0 < nb by omega)
                    injection he with he
                    injection he with he1 he2
                    subst he1 he2
                    exact hcz (pj + i) _ (by rw [List.getElem?_map, hy]; rfl)
                  have k1 := (hM.get 2 rfl).cell (i := 1) (v := .int .i64 (pj : Int)) rfl
                  have kl := kTo13_len Hkl.out (Nat.le_of_lt hi32)
                  obtain ⟨z0, hz0⟩ : ∃ z0, (kTo13 ky i)[i]? = some z0 := ⟨_, List.getElem?_eq_getElem (by omega)⟩
                  have c0 := (hM.get 0 rfl).cell (keyC_at hz0)
                  have f0 := (hM.get 0 rfl).frozen i
                  have hM2 := hM.setCell (by omega) (fun p hp => by simp only [List.mem_cons, List.not_mem_nil, or_false] at hp; rcases hp with rfl | rfl | rfl <;> simp <;> omega) i (.int .u8 (y.toNat : Int))
                  rw [keyC_set, kTo13_succ (show ky[i]? = some y by rw [Hki.out i hi32]; exact hy) Hkl.out] at hM2
                  have hown2 := own_cellT (p := ⟨gk, i, none⟩) hF.1 (fun q hq => by have := hne1 q hq; show q ≠ gk; omega) (.int .u8 (y.toNat : Int))
                  have hSN2 := hF.2.keep (w' := wr.setCell ⟨gk, i, none⟩ (.int .u8 (y.toNat : Int))) (B' := B8) (fun A n xs _ hr => hr.setCell (p := ⟨gk, i, none⟩) hBk _)
                  obtain ⟨pi, hpi⟩ : ∃ q, q = pj + i := ⟨_, rfl⟩
                  have j0 : (0 : Int) ≤ (i : Int) := by omega
                  have j1 : (i : Int) < 32 := by omega
                  have zw : IntKind.i64.wrap ((pj : Int) + (i : Int)) = (pi : Int) := by rw [IntKind.wrap_i64]; omega
                  have j2 : (pi : Int) < (nb : Int) := by omega
                  have j3 : (0 : Int) ≤ (pi : Int) := by omega
                  rw [← hpi] at cb
                  clear hy hz0 kl hpi hM hF
                  go_wp2_with fail
                  go_roundw
                  case rel => exact ⟨i + 1, by go_num, by omega, ⟨hown2, hSN2⟩, hM2⟩
                  case measure => simp [intOf]; omega
                · obtain rfl : i = 32 := by omega
                  rw [kTo13_all Hkl.out] at hM
                  have hsa := sizeKey Hkl.out
                  have hfd := fold_keyK Hkl.out
                  have c3 := (hM.get 1 rfl).cell (i := 3) (v := .slice Ap j cp) rfl
                  have hal := d_al wr (.cells (keyC ky) 36)
                  have hM3 := hM.call hal
                  have hown3 := own_below hF.1 hal
                  have hSN3 := hF.2.below (hal.mono (by have := (hM.get 0 rfl).lt; omega))
                  have hr3 : Rd (wr.alloc (.cells (keyC ky) 36)) (wr.heap.size + 1) (some ⟨wr.heap.size, 0, none⟩) (1 * 32) (ky.map bv) := Rd.mk_ _ _ _ rfl (by omega) (by rw [keyC_size, Hkl.out]) (by simp [keyC])
                  have hrow0 := hM.get 0 rfl
                  have hgkl := hrow0.lt
                  have hks : (keyC ky).size = 32 := by rw [keyC_size, Hkl.out]
                  clear hM hF
                  go_upto_region 35 with (first
                    | ((with_reducible show wpList _ _ _ (⟨some 141, _, _, _, _, _⟩ :: _) _ _); refine wpList_loadC (by kernel_rfl) 36 (.tmp 15) rfl gk rfl 36 (keyC ky) _ hrow0 Tryd.underlying36 rfl hsa ?_)
                    | (at_builtin; refine wpList_append_ky _ (by kernel_rfl) (.tmp 140) (.tmp 142) _ rfl B8 36 iK _ 32 32 Tryd.underlying26 hiK hzK hsK hbK rfl (by omega) (.slice Ap j cp) j _ rfl hown3 (wr.heap.size + 1) (some ⟨wr.heap.size, 0, none⟩) 1 1 (ky.map bv) rfl hr3 (one_bv _) (by simp only [maxLen]; omega) (by omega) (by simp; omega) ?_; intro v11 w11 hown11 hgr11 hat11; have hM11 := hM3.grownT hgr11 (fun q hq => by have := (hown3.lt q hq).1; omega) (fun p hp q hq => by have h1 := (hown3.lt q hq).1; have h2 := hne1 q hq; simp only [List.mem_cons, List.not_mem_nil, or_false] at hp; rcases hp with rfl | rfl | rfl | rfl <;> simp <;> omega); have k11 := (hM11.get 1 rfl).cell (i := 3) (v := .slice Ap j cp) rfl; have f11 := (hM11.get 1 rfl).frozen 3; obtain ⟨A11, c11, rfl, _, _⟩ := own_slK hown11))
                  try simp only [Act.put]
                  have hM12 := (hM11.subT (L' := [(gr + 1, 28, tgV (kv : Int) A xs.length c Al ls.length cl Ap j cp), (gr, 88, rdrC (some ⟨ba, ob, none⟩) nb cb pj false), (g, 28, tgV 0 none 0 0 none 0 0 none 0 0)]) (fun p hp => by simp only [List.mem_cons, List.not_mem_nil, or_false] at hp ⊢; exact .inr hp)).setCell (by omega) (fun p hp => by simp only [List.mem_cons, List.not_mem_nil, or_false] at hp; rcases hp with rfl | rfl <;> simp <;> omega) 3 (.slice A11 (j + 1) c11)
                  have hown12 := own_cellT (p := ⟨gr + 1, 3, none⟩) hown11 (fun q hq => by have := (hown11.lt q hq).1; show q ≠ gr + 1; omega) (.slice A11 (j + 1) c11)
                  have hrow11 : ∀ q, (Value.slice Ap j cp).ownBlock = some q → B8 ≤ q := fun q hq => (hown3.lt q hq).1
                  have hsz3 : B8 ≤ (wr.alloc (.cells (keyC ky) 36)).heap.size := by rw [World.size_alloc]; omega
                  have hSN12 := (hSN3.keep (w' := w11) (B' := B8) (fun A n xs _ hr => hr.grown hgr11 hsz3 hrow11)).keep (w' := w11.setCell ⟨gr + 1, 3, none⟩ (.slice A11 (j + 1) c11)) (B' := B8) (fun A n xs hn hr => Rd.setCellN (by omega) _ hr hn)
                  have hsz12 : B8 ≤ (w11.setCell ⟨gr + 1, 3, none⟩ (.slice A11 (j + 1) c11)).heap.size := by
                    rw [show (w11.setCell ⟨gr + 1, 3, none⟩ (.slice A11 (j + 1) c11)).heap.size = w11.heap.size by simp [World.setCell]]
                    exact Nat.le_trans hsz3 hgr11.size
                  have Hps := Lib.hid (show (l.drop p).take (j * 32) ++ ky = (l.drop p).take ((j + 1) * 32) by rw [Hky.out, HpjE.out, ptsS l p j (by rw [Hl.out, ← HpjE.out]; exact hp32)])
                  rw [← List.map_append, Hps.out] at hown12
                  refine wp_gen (fun wx => (B8 ≤ wx.heap.size ∧ wx.ownsRow B8 36 32 (.slice A11 (j + 1) c11) (j + 1) (((l.drop p).take ((j + 1) * 32)).map bv) ∧ ShN (gr + 2) wx B8 A xs.length c Al ls.length cl xs ls) ∧ Ms w wx [(gr + 1, 28, tgV (kv : Int) A xs.length c Al ls.length cl A11 (j + 1) c11), (gr, 88, rdrC (some ⟨ba, ob, none⟩) nb cb pj false), (g, 28, tgV 0 none 0 0 none 0 0 none 0 0)]) ⟨⟨hsz12, hown12, hSN12⟩, hM12⟩ ?_
                  clear hM12 hown12 hrow11 hsz3 hSN12 hsz12 hM11 k11 f11 hgr11 hat11 hown11 hSN3 hown3 hM3 hal hr3 hrow0 c3 hfd hsa hks hne1
                  rintro w13 ⟨⟨hs13, hown13, hSN13⟩, hM13⟩
                  have c13 := (hM13.get 1 rfl).cell (i := 1) (v := .int .i64 (pj : Int)) rfl
                  have f13 := (hM13.get 1 rfl).frozen 1
                  obtain ⟨pk, hpk⟩ : ∃ q, q = pj + 32 := ⟨_, rfl⟩
                  have zk : IntKind.i64.wrap ((pj : Int) + 32) = (pk : Int) := by rw [IntKind.wrap_i64]; omega
                  have hM14 := (hM13.swap.setCell hgge (fun p hp => by simp only [List.mem_cons, List.not_mem_nil, or_false] at hp; rcases hp with rfl | rfl <;> simp <;> omega) 1 (.int .i64 (pk : Int))).swap
                  have hown14 := own_cellT (p := ⟨gr, 1, none⟩) hown13 (fun q hq => by have := (hown13.lt q hq).1; show q ≠ gr; omega) (.int .i64 (pk : Int))
                  have hSN14 := hSN13.keep (w' := w13.setCell ⟨gr, 1, none⟩ (.int .i64 (pk : Int))) (B' := B8) (fun A n xs hn hr => Rd.setCellN (by omega) _ hr hn)
                  have hs14 : B8 ≤ (w13.setCell ⟨gr, 1, none⟩ (.int .i64 (pk : Int))).heap.size := by
                    rw [show (w13.setCell ⟨gr, 1, none⟩ (.int .i64 (pk : Int))).heap.size = w13.heap.size by simp [World.setCell]]
                    exact hs13
                  have hpk2 : pk = p + (j + 1) * 32 := by rw [hpk, HpjE.out]; omega
                  have hM15 : Ms w (w13.setCell ⟨gr, 1, none⟩ (.int .i64 (pk : Int))) [(gr + 1, 28, tgV (kv : Int) A xs.length c Al ls.length cl A11 (j + 1) c11), (gr, 88, rdrC (some ⟨ba, ob, none⟩) nb cb (p + (j + 1) * 32) false), (g, 28, tgV 0 none 0 0 none 0 0 none 0 0)] := by rw [← hpk2]; exact hM14
                  have hj10 : p + (j + 1) * 32 ≤ nb := by rw [← hpk2]; omega
                  clear hpk hpk2 hM14 hM13 hown13 hSN13 hs13
                  go_wp2_with fail
                  go_roundw
                  case rel => exact ⟨j + 1, A11, c11, by go_num, by omega, hj10, hs14, ⟨hown14, hSN14⟩, hM15⟩
                  case measure => simp [intOf]; omega
            · obtain rfl : j = n8 := by omega
              have hfin : p + j * 32 ≤ l.length := by rw [Hl.out]; exact hpj
              have hF9 : ShN (gr + 2) wr wr.heap.size A xs.length c Al ls.length cl xs ls ∧ wr.ownsRow (gr + 2) 36 32 (.slice Ap j cp) j ((ptsR l a).map bv) := ⟨hF.2.more hBr, by rw [Hpts.out]; exact own_lowK hF.1 hgr8⟩
              clear hF
              go_wp2_with fail
              exact Hall4.out _ _ _ _ _ _ _ _ _ _ _ _ _ _ _ _ _ _ _ _ _ _ _ _ _ _ _ _ _ _ _ _ _ _ _ _ _ _ _ _ _ _ _ _ _ _ _ _ _ _ _ _ _ _ _ _ _ _ _ _ _ _ _ _ _ _ _ _ _ _ _ _ _ _ _ _ _ _ _ _ _ _ _ _ _ _ _ _ _ _ _ _ _ _ _ _ _ _ _ _ _ _ _ _ _ _ _ _ _ _ _ _ _ _ _ _ _ _ _ _ _ _ _ _ _ _ _ _ _ _ _ _ _ _ _ _ _ _ _ _ _ _ _ _ _ _ _ _ _ _ _ _ _ _ _ wr Ap cp hfin hF9 hM
        · have he0 : mayE (kv : Int) xs ls = 1 := by rw [mayE, if_neg hmb]
          rw [he0]
          have HE := Lib.hid (show (3 : Int) = readE l a by rw [readE, if_neg (by rw [Hl.out]; exact Hd.out), if_neg (by rw [Int.toNat_natCast, hlvR]; simp), if_pos (by rw [Int.toNat_natCast, hlvR, Hids.out, Hkd.out]; simpa using hmb)])
          have hrow8 := hM8.get 2 rfl
          have hb := below_setRow hM8.old (show w.heap.size ≤ g from hwg) (tgV 0 none 0 0 none 0 0 none 0 0)
          clear he0 hmb hM8 hsh8 hnd8 hlvR hrow
          go_wp2_with ((with_reducible show wpList _ _ _ (⟨none, Op.store 28 _ _, _, _, _, _⟩ :: _) _ _); refine wpList_store_row rfl 28 (.tmp 4) _ rfl g (tgV 0 none 0 0 none 0 0 none 0 0) rfl rfl 28 _ hrow8 tgInfo2 rfl (by simp [tgV, Value.oneCell']) ?_)
          refine bodyPost_ret (results_c2 rfl _ _ g 28 (tgV 0 none 0 0 none 0 0 none 0 0) _ rfl (hrow8.row _) Tryd.underlying28 rfl tgInfo2) rfl ?_
          exact Hbad.out _ 3 HE.out (by decide) hb
      · have HE := Lib.hid (show (2 : Int) = readE l a by rw [readE, if_neg (by rw [Hl.out]; exact Hd.out), if_pos (by rw [Int.toNat_natCast, hlvR])])
        have hb := below_setRow hM.old (show w.heap.size ≤ g from hwg) (tgV 0 none 0 0 none 0 0 none 0 0)
        clear hM hF hlvR
        go_wp2_with ((with_reducible show wpList _ _ _ (⟨none, Op.store 28 _ _, _, _, _, _⟩ :: _) _ _); refine wpList_store_row rfl 28 (.tmp 4) (.tmp 99) rfl g (tgV 0 none 0 0 none 0 0 none 0 0) rfl rfl 28 _ hrow tgInfo2 rfl (by simp [tgV, Value.oneCell']) ?_)
        refine bodyPost_ret (results_c2 rfl _ _ g 28 (tgV 0 none 0 0 none 0 0 none 0 0) _ rfl (hrow.row _) Tryd.underlying28 rfl tgInfo2) rfl ?_
        exact Hbad.out _ 2 HE.out (by decide) hb
    have Hall2 := Lib.hid hall2
    clear hall2 hK2
    go_loopw [10] (fun v10 wr => ∃ (k p : Nat) (sh : Bool) (ls : List (List Int)) (Al : Option Addr) (cl : Nat) (us : List Value), v10 = .int .i64 (k : Int) ∧ k + ls.length ≤ 256 ∧ p ≤ nb ∧ Q1 = (ls ++ (lvsL l k p sh).1, (lvsL l k p sh).2) ∧ B6 ≤ wr.heap.size ∧ (wr.ownsRow B6 22 1 (.slice Al ls.length cl) ls.length us ∧ Lvs wr wr.heap.size us ls ∧ LvD B6 wr.heap.size (Value.slice Al ls.length cl).ownBlock us ∧ Rd wr B6 A xs.length (xs.map iv)) ∧
      Ms w wr [(gr + 1, 28, tgV (kv : Int) A xs.length c Al ls.length cl none 0 0), (gr, 88, rdrC Ab nb cb p sh), (g, 28, tgV 0 none 0 0 none 0 0 none 0 0)]) (fun v10 _ => (intOf v10).toNat)
    case atStart => exact ⟨m0, p3, s3, [], none, 0, [], rfl, by simp; omega, hp3, by rw [HQ1.out]; simp, by omega, ⟨World.ownsRow_nil _ _ _ _, Lvs.nil _ _, (fun v hv => by cases hv), hid6⟩, hM6⟩
    case round =>
      clear hM6 hid6 hB6 hz6 hnv2 hp3
      clear w6
      obtain ⟨k, p, sh, ls, Al, cl, us, rfl, hkx, hp, hQ, hB8, ⟨hown, hls, hld, hrI⟩, hM⟩ := hrel
      have c2 := (hM.get 1 rfl).cell (i := 2) (v := .bool sh) rfl
      by_cases hk0 : k = 0
      · subst hk0
        have hQ1 : Q1 = (ls, p, sh) := by rw [hQ, lvsL, List.append_nil]
        clear hQ
        go_upto_region 19 with fail
        exact Hall2.out _ _ _ _ _ _ _ _ _ _ _ _ _ _ _ _ _ _ _ _ _ _ _ _ _ _ _ _ _ _ _ _ _ _ _ _ _ _ _ _ _ _ _ _ _ _ _ _ _ _ _ _ _ _ _ _ _ _ _ _ _ _ _ _ _ _ _ _ _ _ _ _ _ _ _ _ _ _ _ _ _ _ wr p sh ls Al cl us hp (by omega) hB8 hQ1 ⟨hown, hls, hld, hrI⟩ hM
      obtain ⟨k, rfl⟩ : ∃ k', k = k' + 1 := ⟨k - 1, by omega⟩
      cases sh
      · have hn4 := RNum13 gr Ab nb cb l p 2 false wr (HR.out _ hM.old) hnc hn hp (.inr (.inl rfl)) (hM.get 1 rfl)
        have hE : lvsL l (k + 1) p false = ((numsL l 1 (numV l p 2) (numP l p 2 false) (numS l p 2 false)).1 :: (lvsL l k (numsL l 1 (numV l p 2) (numP l p 2 false) (numS l p 2 false)).2.1 (numsL l 1 (numV l p 2) (numP l p 2 false) (numS l p 2 false)).2.2).1,
          (lvsL l k (numsL l 1 (numV l p 2) (numP l p 2 false) (numS l p 2 false)).2.1 (numsL l 1 (numV l p 2) (numP l p 2 false) (numS l p 2 false)).2.2).2) := by rw [lvsL, if_neg (by simp)]
        rw [hE] at hQ
        clear hE
        have hv4 : numV l p 2 < 65536 := numV_lt4 l p (wd := 2) (by omega)
        have hp4 : numP l p 2 false ≤ nb := by have := @numP_le l p 2 false (by rw [Hl.out]; exact hp); have h2 := Hl.out; omega
        generalize numV l p 2 = x at *
        generalize numP l p 2 false = p' at *
        generalize numS l p 2 false = s' at *
        go_upto_region 14 with fail
        go_wp2_with fail
        refine hn4.mono ?_
        rintro e wO ⟨he, hgr5, hrr5, hs5⟩
        subst he
        have hM5 := (hM.swap.num hgge (fun p hp => by simp only [List.mem_cons, List.not_mem_nil, or_false] at hp; rcases hp with rfl | rfl <;> simp <;> omega) hgr5 hrr5).swap
        have hgeA : ∀ q, (Value.slice Al ls.length cl).ownBlock = some q → B6 ≤ q ∧ q < wr.heap.size := fun q hq => ⟨own_blockT hown q hq, own_ltT hown q hq⟩
        have hown5 := hown.kept hgr5 (by
          cases hv : (Value.slice Al ls.length cl).ownBlock with
          | none => exact .inl rfl
          | some q => exact .inr fun e => by injection e with e; have := (hgeA q hv).1; omega)
        have hls5 := hls.keepD (w' := wO) (B' := wO.heap.size) (fun v hv A n c xs e hr => (hr.grownD hgr5 (Nat.le_refl _) (fun ad had e9 => by have := (hld v hv A n c e ad had).1; injection e9 with e9; omega)).more hgr5.size)
        have hld5 : LvD B6 wO.heap.size (Value.slice Al ls.length cl).ownBlock us := fun v hv A n c e ad had => by
          have h1 := hld v hv A n c e ad had
          exact ⟨h1.1, by omega, h1.2.2⟩
        have hrI5 := hrI.grownD hgr5 hB8 (fun ad had e9 => by have := HN6.out ad had; injection e9 with e9; omega)
        have hB9 : B6 ≤ wO.heap.size := by omega
        clear hM hown hls hld hrI hn4 hgr5 hs5 hgeA
        obtain ⟨Q2, hQ2⟩ : ∃ Q2, Q2 = numsL l 1 x p' s' := ⟨_, rfl⟩
        rw [← hQ2] at hQ
        have HQ := Lib.hid hQ
        have HQ2 := Lib.hid hQ2
        clear hQ hQ2
        go_wp2_with fail
        rename_i K3 hK3
        have hrO : RowC wO gr 88 (rdrC Ab nb cb p' s') := hM5.get 1 rfl
        have hoO := hM5.old
        have HM5 := Lib.hid hM5
        have Hout := Lib.hid (And.intro hown5 (And.intro hls5 (And.intro hld5 hrI5)))
        clear hM5 hown5 hls5 hld5 hrI5
        have hall3 : ∀ (s12 s58 s59 s60 s61 s62 s63 s64 s65 s66 s67 s68 s69 s70 s71 s72 s73 s74 s75 s76 s77 s78 s79 s80 s81 s82 s83 s84 s85 s86 s87 s88 s89 s90 s91 s92 s93 s94 : Value) (wr : World) (pp : Nat) (ss : Bool) (ys : List Int) (A2 : Option Addr) (c2 : Nat), pp ≤ nb → ys.length ≤ 65536 → Q2 = (ys, pp, ss) → wO.grownBy wr (some gr) → RowC wr gr 88 (rdrC Ab nb cb pp ss) → wr.ownsRow wO.heap.size 3 1 (.slice A2 ys.length c2) ys.length (ys.map iv) → K3 ⟨#[.slice Ab nb cb, .int .i64 (a : Int), undef, undef, .pointer (some ⟨g, 0, none⟩), .int .i64 0, .int .i64 0, .pointer (some ⟨gr, 0, none⟩), .pointer (some ⟨gr + 1, 0, none⟩), u9, .int .i64 ((k : Int) + 1), .slice A2 ys.length c2, s12, undef, undef, undef, undef, t17, t18, t19, t20, t21, t22, t23, t24, t25, t26, t27, t28, t29, t30, t31, t32, t33, t34, t35, u36, u37, u38, u39, u40, u41, u42, u43, u44, u45, u46, u47, u48, u49, u50, u51, u52, u53, u54, u55, .pointer (some ⟨gr, 0, none⟩), .int .i64 (m0 : Int), s58, s59, s60, s61, s62, s63, s64, s65, s66, s67, s68, s69, s70, s71, s72, s73, s74, s75, s76, s77, s78, s79, s80, s81, s82, s83, s84, s85, s86, s87, s88, s89, s90, s91, s92, s93, s94, undef, undef, undef, undef, undef, undef, undef, undef, undef, undef, undef, undef, undef, undef, undef, undef, undef, undef, undef, undef, undef, undef, undef, undef, undef, undef, undef, undef, undef, undef, undef, undef, undef, undef, undef, undef, undef, undef, undef, undef, undef, undef, undef, undef, undef, undef, undef, undef, undef, undef, undef, undef, undef, undef, undef, undef, undef, undef, undef, undef, undef, undef, undef, undef, undef, undef, undef], []⟩ wr := by
          intro s12 s58 s59 s60 s61 s62 s63 s64 s65 s66 s67 s68 s69 s70 s71 s72 s73 s74 s75 s76 s77 s78 s79 s80 s81 s82 s83 s84 s85 s86 s87 s88 s89 s90 s91 s92 s93 s94 wr pp ss ys A2 c2 hpp hyl hQ3 hgO hrr hown
          refine hK3 _ _ ?_
          clear hK3
          have hQ1 : Q1 = ((ls ++ [ys]) ++ (lvsL l k pp ss).1, (lvsL l k pp ss).2) := by
            have h1 := HQ.out
            rw [hQ3] at h1
            rw [h1]
            simp
          clear hQ3
          have hrlt := hrO.lt
          have hM6 := (HM5.out.swap.num hgge (fun p hp => by simp only [List.mem_cons, List.not_mem_nil, or_false] at hp; rcases hp with rfl | rfl <;> simp <;> omega) hgO hrr).swap
          have hgeA : ∀ q, (Value.slice Al ls.length cl).ownBlock = some q → B6 ≤ q ∧ q < wO.heap.size := fun q hq => ⟨own_blockT Hout.out.1 q hq, own_ltT Hout.out.1 q hq⟩
          have hown6 := Hout.out.1.kept hgO (by
            cases hv : (Value.slice Al ls.length cl).ownBlock with
            | none => exact .inl rfl
            | some q => exact .inr fun e => by injection e with e; have := (hgeA q hv).1; omega)
          have hls6 := Hout.out.2.1.keepD (w' := wr) (B' := wr.heap.size) (fun v hv A n c xs e hr => (hr.grownD hgO (Nat.le_refl _) (fun ad had e9 => by have := (Hout.out.2.2.1 v hv A n c e ad had).1; injection e9 with e9; omega)).more hgO.size)
          have hrI6 := Hout.out.2.2.2.grownD hgO hB9 (fun ad had e9 => by have := HN6.out ad had; injection e9 with e9; omega)
          have hr2 : Rd wr wr.heap.size A2 ys.length (ys.map iv) := Rd.of_own hown
          have hA2 : ∀ ad, A2 = some ad → wO.heap.size ≤ ad.block ∧ ad.block < wr.heap.size := fun ad had => by subst had; exact ⟨own_blockT hown ad.block rfl, own_ltT hown ad.block rfl⟩
          obtain ⟨A0, c0, ea, hc2, hm2⟩ := own_formT hown
          injection ea with e1 e2 e3
          subst e3
          clear e1 e2 A0
          have hszO := hgO.size
          have k2 := (hM6.get 0 rfl).cell (i := 2) (v := .slice Al ls.length cl) rfl
          have hone : ∀ u ∈ [Value.slice A2 ys.length c2], u.oneCell' = true := by intro u hu; simp at hu; subst hu; rfl
          have hw5 := d_al wr (.cells #[.slice A2 ys.length c2] 22)
          have hown7 := own_below hown6 hw5
          clear hown hrr hgO
          go_upto_region 12 with (at_builtin; refine wpList_append_rd _ rfl (.tmp 89) (.tmp 91) _ rfl B6 22 i1 _ 24 Tryd.underlying23 hi1 hy0 hy1 hy2 rfl (.slice Al ls.length cl) ls.length us rfl hown7 (wr.heap.size + 1) (some ⟨wr.heap.size, 0, none⟩) 1 1 [.slice A2 ys.length c2] rfl (Rd.mk_ _ _ _ rfl (by omega) rfl rfl) hone (by simp only [maxLen]; omega) (by omega) (by simp; omega) ?_; intro v9 w9 hown9 hgr9 hat9; obtain ⟨A9, c9, rfl, _, _⟩ := own_formT hown9; have hM9 := (hM6.call hw5).grownT hgr9 (fun q hq => by have := (hgeA q hq).1; omega) (fun p hp q hq => by have := (hgeA q hq).1; simp only [List.mem_cons, List.not_mem_nil, or_false] at hp; rcases hp with rfl | rfl | rfl <;> simp <;> omega); have k9 := (hM9.get 0 rfl).cell (i := 2) (v := .slice Al ls.length cl) rfl; have f9 := (hM9.get 0 rfl).frozen 2)
          try simp only [Act.put]
          have hs9 : wr.heap.size + 1 ≤ w9.heap.size := by have := hgr9.size; simpa using this
          have hkp : ∀ v ∈ us, ∀ A n c xs, v = .slice A n c → Rd wr wr.heap.size A n xs → Rd w9 w9.heap.size A n xs := fun v hv A n c xs e hr => ((hr.below hw5).grownD hgr9 (by simp) (fun ad had => (Hout.out.2.2.1 v hv A n c e ad had).2.2)).more (by omega)
          have hls9 := (hls6.keepD hkp).snoc hc2 hm2 (((hr2.below hw5).grownD hgr9 (by simp) (fun ad had e9 => by have h1 := (hA2 ad had).1; have h2 := (hgeA _ e9).2; omega)).more (by omega))
          have hrI9 := (hrI6.below (hw5.mono (by omega))).grown hgr9 (by simp; omega) (fun q hq => (hgeA q hq).1)
          have hld9 : LvD B6 w9.heap.size (Value.slice A9 (ls.length + 1) c9).ownBlock (us ++ [.slice A2 ys.length c2]) := fun v hv A n c e ad had => by
            have key : B6 ≤ ad.block ∧ ad.block < wr.heap.size ∧ (Value.slice Al ls.length cl).ownBlock ≠ some ad.block := by
              rcases List.mem_append.1 hv with hv | hv
              · have h1 := Hout.out.2.2.1 v hv A n c e ad had
                exact ⟨h1.1, by omega, h1.2.2⟩
              · have h1 : v = .slice A2 ys.length c2 := by simpa using hv
                rw [h1] at e
                injection e with e1
                have h2 := hA2 ad (e1.trans had)
                exact ⟨by omega, h2.2, fun e9 => by have := (hgeA _ e9).2; omega⟩
            refine ⟨key.1, by omega, fun e9 => ?_⟩
            rcases hat9 with h1 | h1
            · exact key.2.2 (h1.symm.trans e9)
            · rw [e9] at h1; injection h1 with h1; simp at h1; omega
          have hM10 := hM9.setCell (by omega) (fun p hp => by simp only [List.mem_cons, List.not_mem_nil, or_false] at hp; rcases hp with rfl | rfl <;> simp <;> omega) 2 (.slice A9 (ls.length + 1) c9)
          rw [show (tgV (kv : Int) A xs.length c Al ls.length cl none 0 0).setIfInBounds 2 (.slice A9 (ls.length + 1) c9) = tgV (kv : Int) A xs.length c A9 (ls.length + 1) c9 none 0 0 from rfl] at hM10
          have hown10 := own_cellT (p := ⟨gr + 1, 2, none⟩) hown9 (fun q hq => by have := own_blockT hown9 q hq; show q ≠ gr + 1; omega) (.slice A9 (ls.length + 1) c9)
          have hz10 : (w9.setCell ⟨gr + 1, 2, none⟩ (.slice A9 (ls.length + 1) c9)).heap.size = w9.heap.size := by simp
          have hls10 := hls9.keepD (w' := w9.setCell ⟨gr + 1, 2, none⟩ (.slice A9 (ls.length + 1) c9)) (B' := w9.heap.size) (fun v hv A n c xs e hr => hr.setCellN (lo := B6) (by omega) _ (hld9.new v hv A n c e))
          have hrI10 := Rd.setCellN (g := gr + 1) (i := 2) (lo := gr + 2) (by omega) (.slice A9 (ls.length + 1) c9) hrI9 HN6.out
          have hB10 : B6 ≤ (w9.setCell ⟨gr + 1, 2, none⟩ (.slice A9 (ls.length + 1) c9)).heap.size := by rw [hz10]; omega
          rw [← hz10] at hls10
          have hld10 := hld9
          rw [← hz10] at hld10
          obtain ⟨ls', hlsx⟩ : ∃ ls', ls' = ls ++ [ys] := ⟨_, rfl⟩
          have hlen9 : ls'.length = ls.length + 1 := by rw [hlsx]; simp
          rw [← hlsx] at hls10 hQ1
          have HQ1' := Lib.hid hQ1
          have Hkx := Lib.hid (show k + ls'.length ≤ 256 ∧ ls'.length = ls.length + 1 from ⟨by omega, hlen9⟩)
          have hk9 : k ≤ 255 := by omega
          have HF := Lib.hid (And.intro hown10 (And.intro hls10 (And.intro hld10 hrI10)))
          have HM10 := Lib.hid hM10
          have HB10 := Lib.hid hB10
          clear hlsx hlen9 hQ1 hkx hown10 hls10 hld10 hrI10 hM10 hB10 hz10 hld9 hls9 hrI9 hkp hown9 hgr9 hat9 hM9 hM6 hown7 hown6 hls6 hrI6 hr2 hA2 hgeA hw5 k2
          go_wp2_with fail
          go_roundw
          case rel => exact ⟨k, pp, ss, ls', A9, c9, us ++ [.slice A2 ys.length c2], by go_num, Hkx.out.1, hpp, HQ1'.out, HB10.out, by rw [Hkx.out.2]; exact HF.out, by rw [Hkx.out.2]; exact HM10.out⟩
          case measure => simp [intOf]
        have Hall3 := Lib.hid hall3
        clear hall3 hK3
        have hgO : wO.grownBy wO (some gr) := ⟨rfl, rfl, rfl, Nat.le_refl _, fun _ _ _ => rfl⟩
        go_loopw [11, 12] (fun v11 v12 wr => ∃ (kk pp : Nat) (ss : Bool) (ys : List Int) (A2 : Option Addr) (c2 : Nat), v11 = .slice A2 ys.length c2 ∧ v12 = .int .i64 (kk : Int) ∧ kk + ys.length ≤ 65536 ∧ pp ≤ nb ∧ Q2 = (ys ++ (numsL l 1 kk pp ss).1, (numsL l 1 kk pp ss).2) ∧ wO.grownBy wr (some gr) ∧ RowC wr gr 88 (rdrC Ab nb cb pp ss) ∧ wr.ownsRow wO.heap.size 3 1 (.slice A2 ys.length c2) ys.length (ys.map iv)) (fun _ v12 _ => (intOf v12).toNat)
        case atStart => exact ⟨x, p', s', [], none, 0, rfl, rfl, by simp; omega, hp4, by rw [HQ2.out]; simp, hgO, hrO, World.ownsRow_nil _ _ _ _⟩
        case round =>
          have hrlt := hrO.lt
          clear hgO hrO hp4 hv4
          obtain ⟨kk, pp, ss, ys, A2, c2, rfl, rfl, hkx2, hpp, hQ2, hgO, hrr, hown⟩ := hrel
          have cc := hrr.cell (i := 2) (v := .bool ss) rfl
          by_cases hkk0 : kk = 0
          · subst hkk0
            have hQ3 : Q2 = (ys, pp, ss) := by rw [hQ2, numsL, List.append_nil]
            clear hQ2
            go_upto_region 18 with fail
            exact Hall3.out _ _ _ _ _ _ _ _ _ _ _ _ _ _ _ _ _ _ _ _ _ _ _ _ _ _ _ _ _ _ _ _ _ _ _ _ _ _ wr pp ss ys A2 c2 hpp (by omega) hQ3 hgO hrr hown
          obtain ⟨kk, rfl⟩ : ∃ k', kk = k' + 1 := ⟨kk - 1, by omega⟩
          cases ss
          · have hE : numsL l 1 (kk + 1) pp false = (((numV l pp 1 : Nat) : Int) :: (numsL l 1 kk (numP l pp 1 false) (numS l pp 1 false)).1, (numsL l 1 kk (numP l pp 1 false) (numS l pp 1 false)).2) := by rw [numsL, if_neg (by simp)]
            rw [hE] at hQ2
            clear hE
            have hn7 := RNum13 gr Ab nb cb l pp 1 false wr (HR.out _ (hoO.grown hgO hoO.size (fun q hq => by injection hq with hq; omega))) hnc hn hpp (.inl rfl) hrr
            have hv7 : numV l pp 1 < 256 := numV_lt4 l pp (wd := 1) (by omega)
            have hp7 : numP l pp 1 false ≤ nb := by have := @numP_le l pp 1 false (by rw [Hl.out]; exact hpp); have h2 := Hl.out; omega
            generalize numV l pp 1 = y at *
            generalize numP l pp 1 false = p8 at *
            generalize numS l pp 1 false = s8 at *
            have hQ3 : Q2 = ((ys ++ [(y : Int)]) ++ (numsL l 1 kk p8 s8).1, (numsL l 1 kk p8 s8).2) := by rw [hQ2]; simp
            have HQ3 := Lib.hid hQ3
            clear hQ2 hQ3
            go_upto_region 17 with fail
            go_wp2_with fail
            refine hn7.mono ?_
            rintro e w8 ⟨he, hgr8, hrr8, hs8⟩
            subst he
            have hgO8 := grownBy_trans hgO hgr8
            have hge2 : ∀ q, (Value.slice A2 ys.length c2).ownBlock = some q → wO.heap.size ≤ q := fun q hq => own_blockT hown q hq
            have hgrO := hrlt
            have hown8 := hown.kept hgr8 (by
              cases hv : (Value.slice A2 ys.length c2).ownBlock with
              | none => exact .inl rfl
              | some q => exact .inr fun e => by injection e with e; have := hge2 q hv; omega)
            have hs9 := hgO8.size
            clear hn7 hgr8 hs8 hrr hown hgO cc
            go_upto_region 16 with (at_builtin; refine wpList_append_rd _ rfl (.tmp 82) (.tmp 85) _ rfl wO.heap.size 3 i0 _ 8 Tryd.underlying22 hi0 hz0 hz1 hz2 rfl (.slice A2 ys.length c2) ys.length (ys.map iv) rfl (own_below hown8 (d_al w8 (.cells #[.int .i64 (y : Int)] 3))) (w8.heap.size + 1) (some ⟨w8.heap.size, 0, none⟩) 1 1 [.int .i64 (y : Int)] rfl (Rd.mk_ _ _ _ rfl (by omega) rfl rfl) (one_iv [(y : Int)]) (by simp only [maxLen]; omega) (by omega) (by simp; omega) ?_; intro v9 w9 hown9 hgr9 hat9; obtain ⟨A9, c9, rfl, _, _⟩ := own_formT hown9)
            try simp only [Act.put]
            have hgO9 := grown_via (grownBy_trans hgO8 (World.grownBy_alloc w8 (.cells #[.int .i64 (y : Int)] 3) (some gr))) hgr9 (fun q hq => .inr (hge2 q hq))
            have hrr9 : RowC w9 gr 88 (rdrC Ab nb cb p8 s8) := (hrr8.alloc _).of (hgr9.block gr (by have := hrr8.lt; simp; omega) (fun e => by have := hge2 gr e.symm; omega))
            have e9 : ys.map iv ++ [.int .i64 (y : Int)] = (ys ++ [(y : Int)]).map iv := by simp [iv]
            rw [e9] at hown9
            obtain ⟨ys', hys⟩ : ∃ ys', ys' = ys ++ [(y : Int)] := ⟨_, rfl⟩
            have hlen9 : ys'.length = ys.length + 1 := by rw [hys]; simp
            rw [← hys] at hown9 HQ3
            have Hkx := Lib.hid (show kk + ys'.length ≤ 65536 ∧ ys'.length = ys.length + 1 from ⟨by omega, hlen9⟩)
            have hk9 : kk ≤ 65535 := by omega
            clear hys hlen9 hkx2 e9 hgr9 hat9 hrr8 hown8 hgO8 hge2
            go_wp2_with fail
            go_roundw
            case rel => exact ⟨kk, p8, s8, ys', A9, c9, by rw [Hkx.out.2], by go_num, Hkx.out.1, hp7, HQ3.out, hgO9, hrr9, by rw [Hkx.out.2]; exact hown9⟩
            case measure => simp [intOf]
          · have hQ3 : Q2 = (ys, pp, true) := by rw [hQ2, numsL, if_pos rfl, List.append_nil]
            clear hQ2
            go_upto_region 18 with fail
            exact Hall3.out _ _ _ _ _ _ _ _ _ _ _ _ _ _ _ _ _ _ _ _ _ _ _ _ _ _ _ _ _ _ _ _ _ _ _ _ _ _ wr pp true ys A2 c2 hpp (by omega) hQ3 hgO hrr hown
      · have hQ1 : Q1 = (ls, p, true) := by rw [hQ, lvsL, if_pos rfl, List.append_nil]
        clear hQ
        go_upto_region 19 with fail
        exact Hall2.out _ _ _ _ _ _ _ _ _ _ _ _ _ _ _ _ _ _ _ _ _ _ _ _ _ _ _ _ _ _ _ _ _ _ _ _ _ _ _ _ _ _ _ _ _ _ _ _ _ _ _ _ _ _ _ _ _ _ _ _ _ _ _ _ _ _ _ _ _ _ _ _ _ _ _ _ _ _ _ _ _ _ wr p true ls Al cl us hp (by omega) hB8 hQ1 ⟨hown, hls, hld, hrI⟩ hM
  have Hall := Lib.hid hall
  clear hall hK
  go_loopw [9] (fun v9 wr => ∃ (k p : Nat) (sh : Bool) (xs : List Int) (A : Option Addr) (c : Nat), v9 = .int .i64 (k : Int) ∧ k + xs.length ≤ 65536 ∧ p ≤ nb ∧ Q0 = (xs ++ (numsL l 4 k p sh).1, (numsL l 4 k p sh).2) ∧ wr.ownsRow (gr + 2) 3 1 (.slice A xs.length c) xs.length (xs.map iv) ∧
    Ms w wr [(gr + 1, 28, tgV (kv : Int) A xs.length c none 0 0 none 0 0), (gr, 88, rdrC Ab nb cb p sh), (g, 28, tgV 0 none 0 0 none 0 0 none 0 0)]) (fun v9 _ => (intOf v9).toNat)
  case atStart => exact ⟨n0, p2, s2, [], none, 0, rfl, by simp; omega, hp2, by rw [H0, hQ], World.ownsRow_nil _ _ _ _, hM5⟩
  case round =>
    clear hM5 H0 H0' hQ hp2 hnv2 hz5
    obtain ⟨k, p, sh, xs, A, c, rfl, hkx, hp, hQ, hown, hM⟩ := hrel
    have c2 := (hM.get 1 rfl).cell (i := 2) (v := .bool sh) rfl
    have hz := (hM.get 0 rfl).lt
    by_cases hk0 : k = 0
    · subst hk0
      have hQ1 : Q0 = (xs, p, sh) := by rw [hQ, numsL, List.append_nil]
      clear hQ
      go_upto_region 10 with fail
      exact Hall.out _ _ _ _ _ _ _ _ _ _ _ _ _ _ _ _ _ _ _ _ _ _ _ _ _ _ _ _ _ _ _ _ _ _ _ _ _ _ _ _ wr p sh xs A c hp (by omega) hQ1 hown hM
    obtain ⟨k, rfl⟩ : ∃ k', k = k' + 1 := ⟨k - 1, by omega⟩
    cases sh
    · have hE : numsL l 4 (k + 1) p false = (((numV l p 4 : Nat) : Int) :: (numsL l 4 k (numP l p 4 false) (numS l p 4 false)).1, (numsL l 4 k (numP l p 4 false) (numS l p 4 false)).2) := by rw [numsL, if_neg (by simp)]
      rw [hE] at hQ
      clear hE
      have hn4 := fun wx (hb : Below wr.heap.size wr wx) => RNum13 gr Ab nb cb l p 4 false wx (HR.out _ (hM.call hb).old) hnc hn hp (.inr (.inr rfl)) ((hM.call hb).get 1 rfl)
      have hv4 : numV l p 4 < 4294967296 := numV_lt4 l p (wd := 4) (by omega)
      have hp4 : numP l p 4 false ≤ nb := by have := @numP_le l p 4 false (by rw [Hl.out]; exact hp); have h2 := Hl.out; omega
      generalize numV l p 4 = x at *
      generalize numP l p 4 false = p' at *
      generalize numS l p 4 false = s' at *
      have hQ1 : Q0 = ((xs ++ [(x : Int)]) ++ (numsL l 4 k p' s').1, (numsL l 4 k p' s').2) := by rw [hQ]; simp
      have HQ := Lib.hid hQ1
      clear hQ hQ1
      go_upto_region 9 with fail
      try simp only [Act.put]
      have hkeep : ∀ wx : World, Below wr.heap.size wr wx → wx.cell? ⟨gr + 1, 1, none⟩ = some (.slice A xs.length c) := fun wx hb => ((hM.get 0 rfl).call hb).cell rfl
      refine beginT (fun wx => wx.cell? ⟨gr + 1, 1, none⟩ = some (.slice A xs.length c)) 9 (by kernel_rfl) ?_
      have hS := hkeep _ (c_drew (c_refl _))
      refine takeD 0 (some 47) (.pointer (some ⟨gr + 1, 1, none⟩)) rfl rfl (by kernel_rfl) (by kernel_rfl) (by kernel_rfl) (by kernel_rfl) (fun _ _ _ h => h) (Or.inl ⟨by kernel_rfl, fun wx hSw => by go_simp⟩) hS ?_
      try simp only [Act.put, List.setIfInBounds_toArray, List.set_cons_zero, List.set_cons_succ]
      refine takeD 1 (some 48) (.pointer (some ⟨gr + 1, 1, none⟩)) rfl rfl (by kernel_rfl) (by kernel_rfl) (by kernel_rfl) (by kernel_rfl) (fun _ _ _ h => h) (Or.inl ⟨by kernel_rfl, fun wx hSw => by go_simp⟩) hS ?_
      try simp only [Act.put, List.setIfInBounds_toArray, List.set_cons_zero, List.set_cons_succ]
      refine takeD 2 (some 49) (.slice A xs.length c) rfl rfl (by kernel_rfl) (by kernel_rfl) (by kernel_rfl) (by kernel_rfl) (fun _ _ _ h => h) (Or.inl ⟨by kernel_rfl, fun wx hSw => by have h := hSw; go_simp⟩) hS ?_
      try simp only [Act.put, List.setIfInBounds_toArray, List.set_cons_zero, List.set_cons_succ]
      refine takeD 3 (some 50) (.pointer (some ⟨gr, 0, none⟩)) rfl rfl (by kernel_rfl) (by kernel_rfl) (by kernel_rfl) (by kernel_rfl) (fun _ _ _ h => h) (Or.inl ⟨by kernel_rfl, fun wx hSw => by go_simp⟩) hS ?_
      try simp only [Act.put, List.setIfInBounds_toArray, List.set_cons_zero, List.set_cons_succ]
      have hx0 : Below wr.heap.size wr wr.drew := c_drew (c_refl _)
      have hn5 := hn4 _ hx0
      have hM4 := hM.call hx0
      have hown4 := own_below hown hx0
      have hsx : wr.drew.heap.size = wr.heap.size := rfl
      clear hn4 hM hown
      generalize wr.drew = x0 at *
      refine oneT 4 (by kernel_rfl) rfl (fun K hK => ?_)
      go_simp
      refine hn5.mono ?_
      rintro e w5 ⟨he, hgr5, hrr5, hs5⟩
      subst he
      have hge : ∀ q, (Value.slice A xs.length c).ownBlock = some q → gr + 2 ≤ q ∧ q < x0.heap.size := fun q hq => ⟨own_blockT hown4 q hq, own_ltT hown4 q hq⟩
      have hM5 := (hM4.swap.num hgge (fun p hp => by simp only [List.mem_cons, List.not_mem_nil, or_false] at hp; rcases hp with rfl | rfl <;> simp <;> omega) hgr5 hrr5).swap
      have hown5 := hown4.kept hgr5 (by
        cases hv : (Value.slice A xs.length c).ownBlock with
        | none => exact .inl rfl
        | some q => exact .inr fun e => by injection e with e; have := (hge q hv).1; omega)
      have hz5 := (hM5.get 0 rfl).lt
      refine hK.out _ _ (fun _ => (hM5.get 0 rfl).cell rfl) ?_
      clear hK K hn5 hgr5 hrr5 hM4 hown4 hS hkeep hx0 hs5 hsx
      try simp only [Act.put, List.setIfInBounds_toArray, List.set_cons_zero, List.set_cons_succ]
      have hal := d_al w5 (.cells #[.int .i64 (x : Int)] 3)
      have hM6 := hM5.call hal
      have hown6 := own_below hown5 hal
      refine oneT 5 (by kernel_rfl) rfl (fun K hK => ?_)
      go_simp
      refine hK.out _ _ (fun _ => (hM6.get 0 rfl).cell rfl) ?_
      clear hK K
      try simp only [Act.put, List.setIfInBounds_toArray, List.set_cons_zero, List.set_cons_succ]
      refine oneT 6 (by kernel_rfl) rfl (fun K hK => ?_)
      refine step_append_rdT (by kernel_rfl) (some 53) rfl (.tmp 49) (.tmp 52) _ rfl (gr + 2) 3 i0 _ 8 Tryd.underlying22 hi0 hz0 hz1 hz2 rfl (.slice A xs.length c) xs.length (xs.map iv) rfl hown6 (w5.heap.size + 1) (some ⟨w5.heap.size, 0, none⟩) 1 1 [.int .i64 (x : Int)] rfl (Rd.mk_ _ _ _ rfl (by omega) rfl rfl) (one_iv [(x : Int)]) (by simp only [maxLen]; omega) (by omega) (by simp; omega) ?_
      intro v7 w7 hown7 hgr7 hat7
      obtain ⟨A7, c7, rfl, _, _⟩ := own_formT hown7
      have hM7 := hM6.grownT hgr7 (fun q hq => by have := (hge q hq).1; omega) (fun p hp q hq => by have := (hge q hq).1; simp only [List.mem_cons, List.not_mem_nil, or_false] at hp; rcases hp with rfl | rfl | rfl <;> simp <;> omega)
      have k7 := (hM7.get 0 rfl).cell (i := 1) (v := .slice A xs.length c) rfl
      have f7 := (hM7.get 0 rfl).frozen 1
      have e7 : xs.map iv ++ [.int .i64 (x : Int)] = (xs ++ [(x : Int)]).map iv := by simp [iv]
      rw [e7] at hown7
      refine hK.out _ _ (fun _ => k7) ?_
      clear hK K e7
      try simp only [Act.put, List.setIfInBounds_toArray, List.set_cons_zero, List.set_cons_succ]
      refine oneT 7 (by kernel_rfl) rfl (fun K hK => ?_)
      go_simp
      refine hK.out _ _ (fun _ => k7) ?_
      clear hK K
      refine oneT 8 (by kernel_rfl) rfl (fun K hK => ?_)
      go_simp
      refine hK.out _ _ (fun _ => k7) ?_
      clear hK K
      try simp only [Act.put, List.setIfInBounds_toArray, List.set_cons_zero, List.set_cons_succ]
      have hM8 := hM7.setCell (by omega) (fun p hp => by simp only [List.mem_cons, List.not_mem_nil, or_false] at hp; rcases hp with rfl | rfl <;> simp <;> omega) 1 (.slice A7 (xs.length + 1) c7)
      rw [show (tgV (kv : Int) A xs.length c none 0 0 none 0 0).setIfInBounds 1 (.slice A7 (xs.length + 1) c7) = tgV (kv : Int) A7 (xs.length + 1) c7 none 0 0 none 0 0 from rfl] at hM8
      have hown8 := own_cellT (p := ⟨gr + 1, 1, none⟩) hown7 (fun q hq => by have := own_blockT hown7 q hq; show q ≠ gr + 1; omega) (.slice A7 (xs.length + 1) c7)
      obtain ⟨xs', hxs⟩ : ∃ xs', xs' = xs ++ [(x : Int)] := ⟨_, rfl⟩
      have hlen7 : xs'.length = xs.length + 1 := by rw [hxs]; simp
      rw [← hxs] at hown8 HQ
      have Hkx := Lib.hid (show k + xs'.length ≤ 65536 ∧ xs'.length = xs.length + 1 from ⟨by omega, hlen7⟩)
      have hk9 : k ≤ 65535 := by omega
      clear hxs hlen7 hkx
      clear hM7 hown7 hgr7 hat7 hM6 hown6 hM5 hown5 hal hge
      refine oneT 9 (by kernel_rfl) rfl (fun K hK => ?_)
      go_simp
      refine hK.out _ _ (fun h => absurd rfl h) ?_
      clear hK K k7 f7
      refine doneT (by kernel_rfl) ?_ _
      go_wp2_with fail
      go_roundw
      case rel => exact ⟨k, p', s', xs', A7, c7, by go_num, Hkx.out.1, hp4, HQ.out, by rw [Hkx.out.2]; exact hown8, by rw [Hkx.out.2]; exact hM8⟩
      case measure => simp [intOf]
    · have hQ1 : Q0 = (xs, p, true) := by rw [hQ, numsL, if_pos rfl, List.append_nil]
      clear hQ
      go_upto_region 10 with fail
      exact Hall.out _ _ _ _ _ _ _ _ _ _ _ _ _ _ _ _ _ _ _ _ _ _ _ _ _ _ _ _ _ _ _ _ _ _ _ _ _ _ _ _ wr p true xs A c hp (by omega) hQ1 hown hM

end Go.Proofs.YtlidhdljgnijaaaDoor

