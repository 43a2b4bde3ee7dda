import Derived.Test.YtmganbdbihjbmaaG38
import Derived.Test.YtmganbdbihjbmaaG19
import Derived.Test.YtmganbdbihjbmaaG23
/-
  CONTRACTS of the program's plan.each, with tree.Delete and with tree.Insert. Printed by gen_planeach.py.
-/
set_option linter.unusedVariables false
namespace Go.Proofs.Ytmganbdbihjbmaa
open Go.RowKit

/-- all deleted, one by one; all inserted -/
def runD : List Int → List Int → List (List Int) → Int × List Int × List (List Int)
  | [], ids, ll => (0, ids, ll)
  | id :: l, ids, ll => if delE ids ll id = 0 then runD l (delS ids (lvN ll) id).1 (levI (delS ids (lvN ll) id).2) else (delE ids ll id, [], [])
def runI : List Int → List Int → List (List Int) → Int × List Int × List (List Int)
  | [], ids, ll => (0, ids, ll)
  | id :: l, ids, ll => if insE ids ll id = 0 then runI l (insS ids (lvN ll) id).1 (levI (insS ids (lvN ll) id).2) else (insE ids ll id, [], [])
theorem runD_chk : ∀ (l ids : List Int) (ll : List (List Int)), chkT ids ll = true → (runD l ids ll).1 = 0 → chkT (runD l ids ll).2.1 (runD l ids ll).2.2 = true
  | [], ids, ll, h, _ => h
  | id :: l, ids, ll, h, h0 => by
    rw [runD] at h0 ⊢
    split at h0
    · next c => rw [if_pos c]; exact runD_chk l _ _ (del_chk c).2.2 h0
    · next c => exact absurd h0 c
theorem runI_chk : ∀ (l ids : List Int) (ll : List (List Int)), chkT ids ll = true → (runI l ids ll).1 = 0 → chkT (runI l ids ll).2.1 (runI l ids ll).2.2 = true
  | [], ids, ll, h, _ => h
  | id :: l, ids, ll, h, h0 => by
    rw [runI] at h0 ⊢
    split at h0
    · next c => rw [if_pos c]; exact runI_chk l _ _ (ins_chk c).2.2 h0
    · next c => exact absurd h0 c
/-- a list's numbers are new, from lo on, and may be written -/
def NI (lo : Nat) (w : World) (A : Option Addr) : Prop := ∀ ad, A = some ad → lo ≤ ad.block ∧ thawed w ad.block
theorem thawed.lt {w : World} {b : Nat} (h : thawed w b) : b < w.heap.size := by
  obtain ⟨cs, t, hr⟩ := h
  exact (show RowC w b t cs from hr).lt
theorem thawed.below {w w' : World} {b : Nat} (h : thawed w b) (hb : Below w.heap.size w w') : thawed w' b := by
  have hl := h.lt
  obtain ⟨cs, t, hr⟩ := h
  exact ⟨cs, t, by rw [hb.block b hl]; exact hr⟩
theorem thawed.row {w : World} {b g : Nat} (h : thawed w b) (hne : b ≠ g) (cs : Array Value) : thawed (w.setRow g cs) b := by
  obtain ⟨ds, t, hr⟩ := h
  exact ⟨ds, t, (show RowC w b t ds from hr).rowFar hne cs⟩
theorem NI.below {lo : Nat} {w w' : World} {A : Option Addr} (h : NI lo w A) (hb : Below w.heap.size w w') : NI lo w' A := fun ad e => ⟨(h ad e).1, (h ad e).2.below hb⟩
theorem NI.none (lo : Nat) (w : World) : NI lo w none := fun ad e => by cases e
theorem NI.row {lo : Nat} {w : World} {A : Option Addr} (h : NI lo w A) {g : Nat} (hne : ∀ ad, A = some ad → ad.block ≠ g) (cs : Array Value) : NI lo (w.setRow g cs) A := fun ad e => ⟨(h ad e).1, (h ad e).2.row (hne ad e) cs⟩
/-- a tree in old blocks, or in new ones behind the boxes -/
def ShX (lo b0 : Nat) (w : World) (Ai : Option Addr) (ni ci : Nat) (Al : Option Addr) (nl cl : Nat) (ids : List Int) (ll : List (List Int)) : Prop :=
  ShN lo w b0 Ai ni ci Al nl cl ids ll ∧ (∀ ad, Ai = some ad → ad.block < b0) ∨ ShN (b0 + 2) w w.heap.size Ai ni ci Al nl cl ids ll
section
variable {lo b0 : Nat} {w w' : World} {Ai : Option Addr} {ni ci : Nat} {Al : Option Addr} {nl cl : Nat} {ids : List Int} {ll : List (List Int)}
theorem ShX.shN (h : ShX lo b0 w Ai ni ci Al nl cl ids ll) (hb : b0 ≤ w.heap.size) (hlo : lo ≤ b0) : ShN lo w w.heap.size Ai ni ci Al nl cl ids ll := by
  rcases h with h | h
  · exact h.1.more hb
  · exact h.mono (by omega)
theorem ShX.box (h : ShX lo b0 w Ai ni ci Al nl cl ids ll) {g : Nat} (h1 : b0 ≤ g) (h2 : g < b0 + 2) (cs : Array Value) : ShX lo b0 (w.setRow g cs) Ai ni ci Al nl cl ids ll := by
  rcases h with h | h
  · exact .inl ⟨h.1.below (below_setRow (Below.refl _ _) h1 cs), h.2⟩
  · have := h.box h2 cs
    exact .inr (by rw [size_setRowT]; exact this)
theorem ShX.ne (h : ShX lo b0 w Ai ni ci Al nl cl ids ll) {g : Nat} (h1 : b0 ≤ g) (h2 : g < b0 + 2) : ∀ ad, Ai = some ad → ad.block ≠ g := fun ad e => by
  rcases h with h | h
  · have := h.2 ad e; omega
  · have := h.hi ad e; omega
end
def EachPost (run : List Int → List Int → List (List Int) → Int × List Int × List (List Int)) (lo : Nat) (w : World) (xs ids : List Int) (ll : List (List Int)) (e : Ending) (w' : World) : Prop :=
  Below w.heap.size w w' ∧ (((run xs ids ll).1 ≠ 0 ∧ e = .returned (.tuple #[.agg sh0, .int .i64 (run xs ids ll).1])) ∨
    ((run xs ids ll).1 = 0 ∧ ∃ Ai ni ci Al nl cl, e = .returned (.tuple #[.agg (shV Ai ni ci Al nl cl), .int .i64 0]) ∧ ShN lo w' w'.heap.size Ai ni ci Al nl cl (run xs ids ll).2.1 (run xs ids ll).2.2 ∧ NI lo w' Ai))

theorem rd_numT {w : World} {B : Nat} {A : Option Addr} {n : Nat} {xs : List Int} (h : Rd w B A n (xs.map iv)) {k : Nat} (hk : k < n) : ∃ b o, A = some ⟨b, o, none⟩ ∧ b < B ∧ w.cell? ⟨b, o + k, none⟩ = some (.int .i64 (xs.getD k 0)) := by
  obtain ⟨b, o, e, hb, hc⟩ := h.pos (by omega)
  have hl : k < xs.length := by have := h.len; rw [List.length_map] at this; omega
  refine ⟨b, o, e, hb, hc k _ ?_⟩
  rw [List.getElem?_map, List.getElem?_eq_getElem hl, getD_at (List.getElem?_eq_getElem hl)]
  rfl

set_option maxRecDepth 100000 in
set_option maxHeartbeats 4000000 in
theorem PEachD_any (lo : Nat) (Ai : Option Addr) (ni ci : Nat) (Al : Option Addr) (nl cl : Nat) (ids : List Int) (ll : List (List Int)) (Au : Option Addr) (n c : Nat) (xs : List Int) (w : World) (h : ShN lo w w.heap.size Ai ni ci Al nl cl ids ll) (hck : chkT ids ll = true) (hN : NI lo w Ai) (hlo : lo ≤ w.heap.size) (hx : Rd w w.heap.size Au n (xs.map iv)) (hn : n ≤ maxLen) :
    Calls Try.prog 27 #[.agg (shV Ai ni ci Al nl cl), .slice Au n c, .func (.func 29) #[] #[]] w (EachPost runD lo w xs ids ll) := by
  have hM0 := ((Ms.nil w).box 25 (shV Ai ni ci Al nl cl)).box 25 #[.slice none 0 0, .slice none 0 0]
  simp only [World.size_alloc] at hM0
  have Hxl := Lib.hid (show xs.length = n by have := hx.len; rwa [List.length_map] at this)
  have HE := Lib.hid (show ∀ (er : Int) w', (runD xs ids ll).1 = er → er ≠ 0 → Below w.heap.size w w' → EachPost runD lo w xs ids ll (.returned (.tuple #[.agg sh0, .int .i64 er])) w' from fun er w' h1 h2 hb => ⟨hb, .inl ⟨by rw [h1]; exact h2, by rw [h1]⟩⟩)
  have HO := Lib.hid (show ∀ w' Ai ni ci Al nl cl ids' ll', runD xs ids ll = (0, ids', ll') → Below w.heap.size w w' → ShN lo w' w'.heap.size Ai ni ci Al nl cl ids' ll' → NI lo w' Ai → EachPost runD lo w xs ids ll (.returned (.tuple #[.agg (shV Ai ni ci Al nl cl), .int .i64 0])) w' from fun w' Ai ni ci Al nl cl ids' ll' h1 hb h2 h3 => ⟨hb, .inr ⟨by rw [h1], Ai, ni, ci, Al, nl, cl, rfl, by rw [h1]; exact h2, h3⟩⟩)
  generalize EachPost runD lo w xs ids ll = PO at *
  rw [maxLen] at hn
  have hX0 : ShX lo w.heap.size ((w.alloc (.cells (shV Ai ni ci Al nl cl) 25)).alloc (.cells #[.slice none 0 0, .slice none 0 0] 25)) Ai ni ci Al nl cl ids ll := .inl ⟨h.below hM0.old, fun ad e => (hN ad e).2.lt⟩
  have hN0 := hN.below hM0.old
  go_enter Try.func27, Try.ntmps27
  go_upto_region 1 with fail
  try simp only [Act.put]
  refine wp_gen (fun wx => Ms w wx [(w.heap.size + 1, 25, #[.slice none 0 0, .slice none 0 0]), (w.heap.size, 25, shV Ai ni ci Al nl cl)] ∧ ShX lo w.heap.size wx Ai ni ci Al nl cl ids ll ∧ NI lo wx Ai) ⟨hM0, hX0, hN0⟩ ?_
  clear hM0 hX0 hN0 h hN
  rintro w1 ⟨hM1, hX1, hN1⟩
  have HM1 := Lib.hid hM1
  have HX1 := Lib.hid hX1
  have HN1 := Lib.hid hN1
  have Hck0 := Lib.hid hck
  clear hM1 hX1 hN1 hck
  go_wp2_with fail
  go_loopw [14] (fun v14 wr => ∃ (j : Nat) (Ai : Option Addr) (ni ci : Nat) (Al : Option Addr) (nl cl : Nat) (ids' : List Int) (ll' : List (List Int)), j ≤ n ∧ v14 = .int .i64 (j : Int) ∧ chkT ids' ll' = true ∧ runD xs ids ll = runD (xs.drop j) ids' ll' ∧ ShX lo w.heap.size wr Ai ni ci Al nl cl ids' ll' ∧ NI lo wr Ai ∧
    Ms w wr [(w.heap.size + 1, 25, #[.slice none 0 0, .slice none 0 0]), (w.heap.size, 25, shV Ai ni ci Al nl cl)]) (fun v14 _ => n - (intOf v14).toNat)
  case atStart => exact ⟨0, Ai, ni, ci, Al, nl, cl, ids, ll, by omega, rfl, Hck0.out, rfl, HX1.out, HN1.out, HM1.out⟩
  case round =>
    clear HM1 HX1 HN1
    obtain ⟨j, Ai, ni, ci, Al, nl, cl, ids', ll', hj, rfl, hck, hrun, hX, hNI, hM⟩ := hrel
    have hb := hM.old
    have hlt := (hM.get 0 rfl).lt
    by_cases hjn : j < n
    · have hjx : j < xs.length := by rw [Hxl.out]; exact hjn
      obtain ⟨b, o, rfl, hbb, c1⟩ := rd_numT (hx.below hb) hjn
      rw [show xs.getD j 0 = xs[j] from getD_at (List.getElem?_eq_getElem hjx)] at c1
      have Hd := Lib.hid (show xs.drop j = xs[j] :: xs.drop (j + 1) from List.drop_eq_getElem_cons hjx)
      have hin := PDelete_any Ai ni ci Al nl cl ids' ll' xs[j] wr (hX.shN hb.size hlo).sh (few_of_chk hck)
      generalize xs[j] = id at *
      have Hck := Lib.hid hck
      have Hrun := Lib.hid hrun
      have zj : (j : Int) < (n : Int) := by omega
      clear hck hrun
      go_wp2_with ((with_reducible show wpList _ _ _ (⟨some 20, _, _, _, _, _⟩ :: _) _ _); refine wpList_loadC (by kernel_rfl) 25 (.tmp 3) rfl w.heap.size rfl 25 (shV Ai ni ci Al nl cl) _ (hM.get 1 rfl) Try.underlying25 rfl (sizeSh _ _ _ _ _ _) ?_)
      refine hin.mono ?_
      intro e w2 hP
      obtain ⟨⟨hb2, ⟨he, hee⟩ | ⟨he, Ai2, ni2, ci2, Al2, nl2, cl2, hee, hsh2⟩⟩, hth⟩ := hP
      · subst hee
        have hP2 := (hM.call hb2).put 25 #[.slice none 0 0, .slice none 0 0] sh0
        have HEr := Lib.hid (show (runD xs ids ll).1 = delE ids' ll' id by rw [Hrun.out, Hd.out, runD, if_neg he])
        generalize delE ids' ll' id = er at *
        have hne : ¬ er = 0 := he
        have hneb : (er != 0) = true := by simpa using he
        have hold := below_setRow (g := w.heap.size + 1) hP2.old (by omega) sh0
        have hr2 := hP2.get 1 rfl
        clear hin hM hX hNI c1 hth
        go_wp2_with (first
          | ((with_reducible show wpList _ _ _ (⟨none, Op.store 25 _ _, _, _, _, _⟩ :: _) _ _); refine wpList_store_row rfl 25 (.tmp 10) (.tmp 23) rfl (w2.heap.size) sh0 rfl rfl 25 _ (RowC.new _ _ _) shapeInfo2 rfl (by simp [sh0, Value.oneCell']) ?_)
          | ((with_reducible show wpList _ _ _ (⟨none, Op.store 25 _ _, _, _, _, _⟩ :: _) _ _); refine wpList_store_row rfl 25 (.tmp 6) (.tmp 27) rfl (w.heap.size + 1) sh0 rfl rfl 25 _ hr2 shapeInfo2 rfl (by simp [sh0, Value.oneCell']) ?_))
        refine bodyPost_ret (results_cell_two rfl _ _ (w.heap.size + 1) 25 sh0 _ rfl (hr2.row _) Try.underlying25 rfl shapeInfo2) rfl ?_
        exact HE.out _ _ HEr.out hne hold
      · subst hee
        have hP2 := (hM.call hb2).put 25 #[.slice none 0 0, .slice none 0 0] (shV Ai2 ni2 ci2 Al2 nl2 cl2)
        have hc2 := (del_chk he).2.2
        have hrun2 : runD xs ids ll = runD (xs.drop (j + 1)) (delS ids' (lvN ll') id).1 (levI (delS ids' (lvN ll') id).2) := by rw [Hrun.out, Hd.out, runD, if_pos he]
        have hsz := hb2.size
        have hB3 : Below w2.heap.size w2 ((w2.alloc (.cells #[.slice none 0 0, .slice none 0 0] 25)).setRow w2.heap.size (shV Ai2 ni2 ci2 Al2 nl2 cl2)) := below_setRow ((Below.refl _ _).alloc (Nat.le_refl _) _) (Nat.le_refl _) _
        have hn2 : NI lo w2 Ai2 := fun ad e => ⟨by have := hsh2.hi ad e; have := hb.size; omega, (hth _ _ _ _ _ _ _ rfl).1 ad e⟩
        have hlow : ∀ ad, Ai2 = some ad → wr.heap.size ≤ ad.block := fun ad e => hsh2.hi ad e
        have hsh3 := hsh2.call hB3
        have hn3 := hn2.below hB3
        have hM4 := ((hP2.subT (L' := [(w.heap.size, 25, shV Ai ni ci Al nl cl), (w.heap.size + 1, 25, #[.slice none 0 0, .slice none 0 0])]) (fun p hp => by simp at hp; rcases hp with rfl | rfl <;> simp)).setT (Nat.le_refl _) (fun p hp => by simp at hp; subst hp; simp) (shV Ai2 ni2 ci2 Al2 nl2 cl2)).subT (L' := [(w.heap.size + 1, 25, #[.slice none 0 0, .slice none 0 0]), (w.heap.size, 25, shV Ai2 ni2 ci2 Al2 nl2 cl2)]) (fun p hp => by simp at hp; rcases hp with rfl | rfl <;> simp)
        have hsh4 : ShX lo w.heap.size _ Ai2 ni2 ci2 Al2 nl2 cl2 _ _ := ShX.box (.inr (hsh3.mono (lo' := w.heap.size + 2) (by omega))) (g := w.heap.size) (Nat.le_refl _) (by omega) (shV Ai2 ni2 ci2 Al2 nl2 cl2)
        have hn4 := hn3.row (g := w.heap.size) (fun ad e => by have := hlow ad e; omega) (shV Ai2 ni2 ci2 Al2 nl2 cl2)
        have hr0 := hP2.get 0 rfl
        have hr2 := hP2.get 2 rfl
        generalize (delS ids' (lvN ll') id).1 = ids2 at *
        generalize levI (delS ids' (lvN ll') id).2 = ll2 at *
        have HM4 := Lib.hid hM4
        have HX4 := Lib.hid hsh4
        have HN4 := Lib.hid hn4
        have Hrun2 := Lib.hid hrun2
        have Hc2 := Lib.hid hc2
        clear hin hM hX hNI c1 hsh2 hsh3 hB3 hth hM4 hsh4 hn4 hn3 hn2 hP2 hlow hrun2 hc2
        go_wp2_with (first
          | ((with_reducible show wpList _ _ _ (⟨none, Op.store 25 _ _, _, _, _, _⟩ :: _) _ _); refine wpList_store_row rfl 25 (.tmp 10) (.tmp 23) rfl (w2.heap.size) (shV Ai2 ni2 ci2 Al2 nl2 cl2) rfl rfl 25 _ (RowC.new _ _ _) (sizeSh _ _ _ _ _ _) rfl (one_sh _ _ _ _ _ _) ?_)
          | ((with_reducible show wpList _ _ _ (⟨some 29, _, _, _, _, _⟩ :: _) _ _); refine wpList_loadC (by kernel_rfl) 25 (.tmp 10) rfl (w2.heap.size) rfl 25 (shV Ai2 ni2 ci2 Al2 nl2 cl2) _ hr0 Try.underlying25 rfl (sizeSh _ _ _ _ _ _) ?_)
          | ((with_reducible show wpList _ _ _ (⟨none, Op.store 25 _ _, _, _, _, _⟩ :: _) _ _); refine wpList_store_row rfl 25 (.tmp 3) (.tmp 29) rfl w.heap.size (shV Ai2 ni2 ci2 Al2 nl2 cl2) rfl rfl 25 _ hr2 (sizeSh _ _ _ _ _ _) rfl (one_sh _ _ _ _ _ _) ?_))
        go_roundw
        case rel => exact ⟨j + 1, Ai2, ni2, ci2, Al2, nl2, cl2, ids2, ll2, by omega, by go_num, Hc2.out, Hrun2.out, HX4.out, HN4.out, HM4.out⟩
        case measure => simp [intOf]; omega
    · obtain rfl : j = n := by omega
      have Hfin := Lib.hid (show runD xs ids ll = (0, ids', ll') by rw [hrun, List.drop_of_length_le (by rw [Hxl.out]; exact Nat.le_refl _)]; rfl)
      have hX9 := hX.box (g := w.heap.size + 1) (by omega) (by omega) (shV Ai ni ci Al nl cl)
      have hN9 := hNI.row (hX.ne (g := w.heap.size + 1) (by omega) (by omega)) (shV Ai ni ci Al nl cl)
      have hold := below_setRow (g := w.heap.size + 1) hb (by omega) (shV Ai ni ci Al nl cl)
      have HF := Lib.hid (HO.out _ _ _ _ _ _ _ _ _ Hfin.out hold (hX9.shN hold.size hlo) hN9)
      have hr0 := hM.get 0 rfl
      have hr1 := hM.get 1 rfl
      clear hrun hX hNI hX9 hN9 hM
      go_wp2_with (first
        | ((with_reducible show wpList _ _ _ (⟨some 31, _, _, _, _, _⟩ :: _) _ _); refine wpList_loadC (by kernel_rfl) 25 (.tmp 3) rfl w.heap.size rfl 25 (shV Ai ni ci Al nl cl) _ hr1 Try.underlying25 rfl (sizeSh _ _ _ _ _ _) ?_)
        | ((with_reducible show wpList _ _ _ (⟨none, Op.store 25 _ _, _, _, _, _⟩ :: _) _ _); refine wpList_store_row rfl 25 (.tmp 6) (.tmp 31) rfl (w.heap.size + 1) (shV Ai ni ci Al nl cl) rfl rfl 25 _ hr0 (sizeSh _ _ _ _ _ _) rfl (one_sh _ _ _ _ _ _) ?_))
      refine bodyPost_ret (results_cell_two rfl _ _ (w.heap.size + 1) 25 (shV Ai ni ci Al nl cl) _ rfl (hr0.row _) Try.underlying25 rfl (sizeSh _ _ _ _ _ _)) rfl ?_
      exact HF.out

set_option maxRecDepth 100000 in
set_option maxHeartbeats 4000000 in
theorem PEachI_any (lo : Nat) (Ai : Option Addr) (ni ci : Nat) (Al : Option Addr) (nl cl : Nat) (ids : List Int) (ll : List (List Int)) (Au : Option Addr) (n c : Nat) (xs : List Int) (w : World) (h : ShN lo w w.heap.size Ai ni ci Al nl cl ids ll) (hck : chkT ids ll = true) (hN : NI lo w Ai) (hlo : lo ≤ w.heap.size) (hx : Rd w w.heap.size Au n (xs.map iv)) (hn : n ≤ maxLen) :
    Calls Try.prog 27 #[.agg (shV Ai ni ci Al nl cl), .slice Au n c, .func (.func 30) #[] #[]] w (EachPost runI lo w xs ids ll) := by
  have hM0 := ((Ms.nil w).box 25 (shV Ai ni ci Al nl cl)).box 25 #[.slice none 0 0, .slice none 0 0]
  simp only [World.size_alloc] at hM0
  have Hxl := Lib.hid (show xs.length = n by have := hx.len; rwa [List.length_map] at this)
  have HE := Lib.hid (show ∀ (er : Int) w', (runI xs ids ll).1 = er → er ≠ 0 → Below w.heap.size w w' → EachPost runI lo w xs ids ll (.returned (.tuple #[.agg sh0, .int .i64 er])) w' from fun er w' h1 h2 hb => ⟨hb, .inl ⟨by rw [h1]; exact h2, by rw [h1]⟩⟩)
  have HO := Lib.hid (show ∀ w' Ai ni ci Al nl cl ids' ll', runI xs ids ll = (0, ids', ll') → Below w.heap.size w w' → ShN lo w' w'.heap.size Ai ni ci Al nl cl ids' ll' → NI lo w' Ai → EachPost runI lo w xs ids ll (.returned (.tuple #[.agg (shV Ai ni ci Al nl cl), .int .i64 0])) w' from fun w' Ai ni ci Al nl cl ids' ll' h1 hb h2 h3 => ⟨hb, .inr ⟨by rw [h1], Ai, ni, ci, Al, nl, cl, rfl, by rw [h1]; exact h2, h3⟩⟩)
  generalize EachPost runI lo w xs ids ll = PO at *
  rw [maxLen] at hn
  have hX0 : ShX lo w.heap.size ((w.alloc (.cells (shV Ai ni ci Al nl cl) 25)).alloc (.cells #[.slice none 0 0, .slice none 0 0] 25)) Ai ni ci Al nl cl ids ll := .inl ⟨h.below hM0.old, fun ad e => (hN ad e).2.lt⟩
  have hN0 := hN.below hM0.old
  go_enter Try.func27, Try.ntmps27
  go_upto_region 1 with fail
  try simp only [Act.put]
  refine wp_gen (fun wx => Ms w wx [(w.heap.size + 1, 25, #[.slice none 0 0, .slice none 0 0]), (w.heap.size, 25, shV Ai ni ci Al nl cl)] ∧ ShX lo w.heap.size wx Ai ni ci Al nl cl ids ll ∧ NI lo wx Ai) ⟨hM0, hX0, hN0⟩ ?_
  clear hM0 hX0 hN0 h hN
  rintro w1 ⟨hM1, hX1, hN1⟩
  have HM1 := Lib.hid hM1
  have HX1 := Lib.hid hX1
  have HN1 := Lib.hid hN1
  have Hck0 := Lib.hid hck
  clear hM1 hX1 hN1 hck
  go_wp2_with fail
  go_loopw [14] (fun v14 wr => ∃ (j : Nat) (Ai : Option Addr) (ni ci : Nat) (Al : Option Addr) (nl cl : Nat) (ids' : List Int) (ll' : List (List Int)), j ≤ n ∧ v14 = .int .i64 (j : Int) ∧ chkT ids' ll' = true ∧ runI xs ids ll = runI (xs.drop j) ids' ll' ∧ ShX lo w.heap.size wr Ai ni ci Al nl cl ids' ll' ∧ NI lo wr Ai ∧
    Ms w wr [(w.heap.size + 1, 25, #[.slice none 0 0, .slice none 0 0]), (w.heap.size, 25, shV Ai ni ci Al nl cl)]) (fun v14 _ => n - (intOf v14).toNat)
  case atStart => exact ⟨0, Ai, ni, ci, Al, nl, cl, ids, ll, by omega, rfl, Hck0.out, rfl, HX1.out, HN1.out, HM1.out⟩
  case round =>
    clear HM1 HX1 HN1
    obtain ⟨j, Ai, ni, ci, Al, nl, cl, ids', ll', hj, rfl, hck, hrun, hX, hNI, hM⟩ := hrel
    have hb := hM.old
    have hlt := (hM.get 0 rfl).lt
    by_cases hjn : j < n
    · have hjx : j < xs.length := by rw [Hxl.out]; exact hjn
      obtain ⟨b, o, rfl, hbb, c1⟩ := rd_numT (hx.below hb) hjn
      rw [show xs.getD j 0 = xs[j] from getD_at (List.getElem?_eq_getElem hjx)] at c1
      have Hd := Lib.hid (show xs.drop j = xs[j] :: xs.drop (j + 1) from List.drop_eq_getElem_cons hjx)
      have hin := PInsert_any Ai ni ci Al nl cl ids' ll' xs[j] wr (hX.shN hb.size hlo).sh (few_of_chk hck)
      generalize xs[j] = id at *
      have Hck := Lib.hid hck
      have Hrun := Lib.hid hrun
      have zj : (j : Int) < (n : Int) := by omega
      clear hck hrun
      go_wp2_with ((with_reducible show wpList _ _ _ (⟨some 20, _, _, _, _, _⟩ :: _) _ _); refine wpList_loadC (by kernel_rfl) 25 (.tmp 3) rfl w.heap.size rfl 25 (shV Ai ni ci Al nl cl) _ (hM.get 1 rfl) Try.underlying25 rfl (sizeSh _ _ _ _ _ _) ?_)
      refine hin.mono ?_
      intro e w2 hP
      obtain ⟨⟨hb2, ⟨he, hee⟩ | ⟨he, Ai2, ni2, ci2, Al2, nl2, cl2, hee, hsh2⟩⟩, hth⟩ := hP
      · subst hee
        have hP2 := (hM.call hb2).put 25 #[.slice none 0 0, .slice none 0 0] sh0
        have HEr := Lib.hid (show (runI xs ids ll).1 = insE ids' ll' id by rw [Hrun.out, Hd.out, runI, if_neg he])
        generalize insE ids' ll' id = er at *
        have hne : ¬ er = 0 := he
        have hneb : (er != 0) = true := by simpa using he
        have hold := below_setRow (g := w.heap.size + 1) hP2.old (by omega) sh0
        have hr2 := hP2.get 1 rfl
        clear hin hM hX hNI c1 hth
        go_wp2_with (first
          | ((with_reducible show wpList _ _ _ (⟨none, Op.store 25 _ _, _, _, _, _⟩ :: _) _ _); refine wpList_store_row rfl 25 (.tmp 10) (.tmp 23) rfl (w2.heap.size) sh0 rfl rfl 25 _ (RowC.new _ _ _) shapeInfo2 rfl (by simp [sh0, Value.oneCell']) ?_)
          | ((with_reducible show wpList _ _ _ (⟨none, Op.store 25 _ _, _, _, _, _⟩ :: _) _ _); refine wpList_store_row rfl 25 (.tmp 6) (.tmp 27) rfl (w.heap.size + 1) sh0 rfl rfl 25 _ hr2 shapeInfo2 rfl (by simp [sh0, Value.oneCell']) ?_))
        refine bodyPost_ret (results_cell_two rfl _ _ (w.heap.size + 1) 25 sh0 _ rfl (hr2.row _) Try.underlying25 rfl shapeInfo2) rfl ?_
        exact HE.out _ _ HEr.out hne hold
      · subst hee
        have hP2 := (hM.call hb2).put 25 #[.slice none 0 0, .slice none 0 0] (shV Ai2 ni2 ci2 Al2 nl2 cl2)
        have hc2 := (ins_chk he).2.2
        have hrun2 : runI xs ids ll = runI (xs.drop (j + 1)) (insS ids' (lvN ll') id).1 (levI (insS ids' (lvN ll') id).2) := by rw [Hrun.out, Hd.out, runI, if_pos he]
        have hsz := hb2.size
        have hB3 : Below w2.heap.size w2 ((w2.alloc (.cells #[.slice none 0 0, .slice none 0 0] 25)).setRow w2.heap.size (shV Ai2 ni2 ci2 Al2 nl2 cl2)) := below_setRow ((Below.refl _ _).alloc (Nat.le_refl _) _) (Nat.le_refl _) _
        have hn2 : NI lo w2 Ai2 := fun ad e => ⟨by have := hsh2.hi ad e; have := hb.size; omega, (hth _ _ _ _ _ _ _ rfl).1 ad e⟩
        have hlow : ∀ ad, Ai2 = some ad → wr.heap.size ≤ ad.block := fun ad e => hsh2.hi ad e
        have hsh3 := hsh2.call hB3
        have hn3 := hn2.below hB3
        have hM4 := ((hP2.subT (L' := [(w.heap.size, 25, shV Ai ni ci Al nl cl), (w.heap.size + 1, 25, #[.slice none 0 0, .slice none 0 0])]) (fun p hp => by simp at hp; rcases hp with rfl | rfl <;> simp)).setT (Nat.le_refl _) (fun p hp => by simp at hp; subst hp; simp) (shV Ai2 ni2 ci2 Al2 nl2 cl2)).subT (L' := [(w.heap.size + 1, 25, #[.slice none 0 0, .slice none 0 0]), (w.heap.size, 25, shV Ai2 ni2 ci2 Al2 nl2 cl2)]) (fun p hp => by simp at hp; rcases hp with rfl | rfl <;> simp)
        have hsh4 : ShX lo w.heap.size _ Ai2 ni2 ci2 Al2 nl2 cl2 _ _ := ShX.box (.inr (hsh3.mono (lo' := w.heap.size + 2) (by omega))) (g := w.heap.size) (Nat.le_refl _) (by omega) (shV Ai2 ni2 ci2 Al2 nl2 cl2)
        have hn4 := hn3.row (g := w.heap.size) (fun ad e => by have := hlow ad e; omega) (shV Ai2 ni2 ci2 Al2 nl2 cl2)
        have hr0 := hP2.get 0 rfl
        have hr2 := hP2.get 2 rfl
        generalize (insS ids' (lvN ll') id).1 = ids2 at *
        generalize levI (insS ids' (lvN ll') id).2 = ll2 at *
        have HM4 := Lib.hid hM4
        have HX4 := Lib.hid hsh4
        have HN4 := Lib.hid hn4
        have Hrun2 := Lib.hid hrun2
        have Hc2 := Lib.hid hc2
        clear hin hM hX hNI c1 hsh2 hsh3 hB3 hth hM4 hsh4 hn4 hn3 hn2 hP2 hlow hrun2 hc2
        go_wp2_with (first
          | ((with_reducible show wpList _ _ _ (⟨none, Op.store 25 _ _, _, _, _, _⟩ :: _) _ _); refine wpList_store_row rfl 25 (.tmp 10) (.tmp 23) rfl (w2.heap.size) (shV Ai2 ni2 ci2 Al2 nl2 cl2) rfl rfl 25 _ (RowC.new _ _ _) (sizeSh _ _ _ _ _ _) rfl (one_sh _ _ _ _ _ _) ?_)
          | ((with_reducible show wpList _ _ _ (⟨some 29, _, _, _, _, _⟩ :: _) _ _); refine wpList_loadC (by kernel_rfl) 25 (.tmp 10) rfl (w2.heap.size) rfl 25 (shV Ai2 ni2 ci2 Al2 nl2 cl2) _ hr0 Try.underlying25 rfl (sizeSh _ _ _ _ _ _) ?_)
          | ((with_reducible show wpList _ _ _ (⟨none, Op.store 25 _ _, _, _, _, _⟩ :: _) _ _); refine wpList_store_row rfl 25 (.tmp 3) (.tmp 29) rfl w.heap.size (shV Ai2 ni2 ci2 Al2 nl2 cl2) rfl rfl 25 _ hr2 (sizeSh _ _ _ _ _ _) rfl (one_sh _ _ _ _ _ _) ?_))
        go_roundw
        case rel => exact ⟨j + 1, Ai2, ni2, ci2, Al2, nl2, cl2, ids2, ll2, by omega, by go_num, Hc2.out, Hrun2.out, HX4.out, HN4.out, HM4.out⟩
        case measure => simp [intOf]; omega
    · obtain rfl : j = n := by omega
      have Hfin := Lib.hid (show runI xs ids ll = (0, ids', ll') by rw [hrun, List.drop_of_length_le (by rw [Hxl.out]; exact Nat.le_refl _)]; rfl)
      have hX9 := hX.box (g := w.heap.size + 1) (by omega) (by omega) (shV Ai ni ci Al nl cl)
      have hN9 := hNI.row (hX.ne (g := w.heap.size + 1) (by omega) (by omega)) (shV Ai ni ci Al nl cl)
      have hold := below_setRow (g := w.heap.size + 1) hb (by omega) (shV Ai ni ci Al nl cl)
      have HF := Lib.hid (HO.out _ _ _ _ _ _ _ _ _ Hfin.out hold (hX9.shN hold.size hlo) hN9)
      have hr0 := hM.get 0 rfl
      have hr1 := hM.get 1 rfl
      clear hrun hX hNI hX9 hN9 hM
      go_wp2_with (first
        | ((with_reducible show wpList _ _ _ (⟨some 31, _, _, _, _, _⟩ :: _) _ _); refine wpList_loadC (by kernel_rfl) 25 (.tmp 3) rfl w.heap.size rfl 25 (shV Ai ni ci Al nl cl) _ hr1 Try.underlying25 rfl (sizeSh _ _ _ _ _ _) ?_)
        | ((with_reducible show wpList _ _ _ (⟨none, Op.store 25 _ _, _, _, _, _⟩ :: _) _ _); refine wpList_store_row rfl 25 (.tmp 6) (.tmp 31) rfl (w.heap.size + 1) (shV Ai ni ci Al nl cl) rfl rfl 25 _ hr0 (sizeSh _ _ _ _ _ _) rfl (one_sh _ _ _ _ _ _) ?_))
      refine bodyPost_ret (results_cell_two rfl _ _ (w.heap.size + 1) 25 (shV Ai ni ci Al nl cl) _ rfl (hr0.row _) Try.underlying25 rfl (sizeSh _ _ _ _ _ _)) rfl ?_
      exact HF.out

end Go.Proofs.Ytmganbdbihjbmaa

/-
  CONTRACT of the program's plan.copied: a handed tree in rows of the call's own. Printed by gen_plancopied.py.
-/
set_option linter.unusedVariables false
namespace Go.Proofs.Ytmganbdbihjbmaa
open Go.RowKit

set_option maxRecDepth 100000 in
set_option maxHeartbeats 8000000 in
theorem PCopied12_any (Ai : Option Addr) (ni ci : Nat) (Al : Option Addr) (nl cl : Nat) (ids : List Int) (lv : List (List Nat)) (w : World) (hn2 : lv.length ≤ 20) (hn1 : ids.length ≤ 1000) (hlm : ∀ l ∈ lv, l.length ≤ 1000) (h : ShR w w.heap.size Ai ni ci Al nl cl ids (levI lv)) :
    Calls Try.prog 28 #[.agg (shV Ai ni ci Al nl cl)] w (PutPost w.heap.size w ids lv) := by
  obtain ⟨i1, hi1, hy0, hy1, hy2⟩ := info_parts listInfo
  have Hpost := Lib.hid (show ∀ Ai ni ci Al nl cl vs w', Below w.heap.size w w' → OwW w.heap.size w' (.slice Ai ni ci) (.slice Al nl cl) vs vs ids (levI lv) → PutPost w.heap.size w ids lv (.returned (.agg (shV Ai ni ci Al nl cl))) w' from fun _ _ _ _ _ _ _ _ h1 h2 => ⟨h1, _, _, _, _, _, _, _, rfl, h2⟩)
  generalize PutPost w.heap.size w ids lv = PO at *
  have hM0 := ((Ms.nil w).box 25 (shV Ai ni ci Al nl cl)).box 25 #[.slice none 0 0, .slice none 0 0]
  simp only [World.size_alloc] at hM0
  have Hni := Lib.hid h.hni
  have Hnl := Lib.hid (show lv.length = nl by have := h.hnl; rwa [levI_lenX] at this)
  have hnl20 : nl ≤ 20 := by rw [← Hnl.out]; exact hn2
  have hni1 : ni ≤ 1000 := by rw [← Hni.out]; exact hn1
  have hci := h.hci
  have hcl := h.hcl
  have hwn : IntKind.i64.wrap ((nl : Int) + 1) = (nl : Int) + 1 := by rw [IntKind.wrap_i64]; omega
  obtain ⟨vs, hv, hlv⟩ := h.lvs
  have hids := h.hids
  clear h
  go_enter Try.func28, Try.ntmps28
  go_upto_region 1 with fail
  try simp only [Act.put]
  obtain ⟨gS, hgS⟩ : ∃ g, g = w.heap.size := ⟨_, rfl⟩
  refine wp_gen (fun wx => Ms w wx [(w.heap.size + 1, 25, #[.slice none 0 0, .slice none 0 0]), (w.heap.size, 25, shV Ai ni ci Al nl cl)]) hM0 ?_
  clear hM0
  rintro w0 hM0
  have hs0 := (hM0.get 0 rfl).lt
  have hw00 := hM0.old
  rw [← hgS] at hM0 hs0 ⊢
  have HgS := Lib.hid hgS
  clear hgS
  have hid0 := (hids.below hw00).more hw00.size
  have k0 := (hM0.get 1 rfl).cell (i := 0) (v := .slice Ai ni ci) rfl
  have hcn := Clone_any Ai ni ci (ids.map iv) w0 hci (by omega) (one_iv _) hid0
  go_wp2_with fail
  refine hcn.mono ?_
  rintro e w2 ⟨A2, c2, he, ho2, hb2⟩
  subst he
  have hMc := (hM0.call hb2).put 25 #[.slice none 0 0, .slice none 0 0] #[.slice A2 ni c2, .slice none 0 0]
  have hbl := below_setRow ((Below.refl w2.heap.size w2).alloc (Nat.le_refl _) (.cells #[.slice none 0 0, .slice none 0 0] 25)) (Nat.le_refl _) #[.slice A2 ni c2, .slice none 0 0]
  have hsw : w.heap.size ≤ w0.heap.size := hw00.size
  have ho := own_below (own_monoT ho2 hsw) hbl
  go_upto_region 2 with ((with_reducible show wpList _ _ _ (⟨none, Op.store 25 _ _, _, _, _, _⟩ :: _) _ _); refine wpList_store_row rfl 25 (.tmp 3) (.tmp 9) rfl w2.heap.size #[.slice A2 ni c2, .slice none 0 0] rfl rfl 25 _ (RowC.new _ _ _) shapeInfo2 rfl (by simp [Value.oneCell']) ?_)
  try simp only [Act.put]
  obtain ⟨gO, hgO⟩ : ∃ g, g = w2.heap.size := ⟨_, rfl⟩
  have hgO2 : w0.heap.size ≤ gO := by rw [hgO]; exact hb2.size
  rw [← hgO] at hMc ho ⊢
  refine wp_gen (fun wx => Ms w wx [(gO, 25, #[.slice A2 ni c2, .slice none 0 0]), (gS + 1, 25, #[.slice none 0 0, .slice none 0 0]), (gS, 25, shV Ai ni ci Al nl cl)] ∧ wx.ownsRow w.heap.size 3 1 (.slice A2 ni c2) ni (ids.map iv)) ⟨hMc, ho⟩ ?_
  clear hMc ho hcn hb2 hbl ho2 hgO k0
  rintro wc ⟨hMc, ho⟩
  have hMB : MsB w.heap.size w wc [(gO, 25, #[.slice A2 ni c2, .slice none 0 0]), (gS + 1, 25, #[.slice none 0 0, .slice none 0 0]), (gS, 25, shV Ai ni ci Al nl cl)] := ⟨hMc.old, fun p hp => by
    simp only [List.mem_cons, List.not_mem_nil, or_false] at hp
    rcases hp with rfl | rfl | rfl
    · exact hMc.get 0 rfl
    · exact hMc.get 1 rfl
    · exact hMc.get 2 rfl⟩
  have hO : OwW w.heap.size wc (.slice A2 ni c2) (.slice none 0 0) [] [] ids (levI (lv.take 0)) := ⟨by rw [Hni.out]; exact ho, World.ownsRow_nil _ _ _ _, rfl, fun k u l hk => by simp at hk, fun k u g hk => by simp at hk, fun j k u v g hj => by simp at hj⟩
  have k1 := (hMB.get 2 rfl).cell (i := 1) (v := .slice Al nl cl) rfl
  have hgO := hgO2
  clear hM0 hw00 hid0 hMc ho
  go_wp2_with fail
  go_loopw [13] (fun i wr => ∃ (j : Nat) (A3 : Option Addr) (c3 : Nat) (us : List Value), j ≤ nl ∧ i = .int .i64 (j : Int) ∧ OwW w.heap.size wr (.slice A2 ni c2) (.slice A3 j c3) us us ids (levI (lv.take j)) ∧
    MsB w.heap.size w wr [(gO, 25, #[.slice A2 ni c2, .slice A3 j c3]), (gS + 1, 25, #[.slice none 0 0, .slice none 0 0]), (gS, 25, shV Ai ni ci Al nl cl)]) (fun i _ => nl - (intOf i).toNat)
  case atStart => exact ⟨0, none, 0, [], by omega, rfl, hO, hMB⟩
  case round =>
    clear hMB hO k1
    obtain ⟨j, A3, c3, us, hj, rfl, h, hM⟩ := hrel
    have hb := hM.old
    have hltO := (hM.get 0 rfl).lt
    have hbs := hb.size
    by_cases hjn : j < nl
    · have hjl : j < lv.length := by rw [Hnl.out]; exact hjn
      obtain ⟨l, hl⟩ : ∃ l, lv[j]? = some l := ⟨_, List.getElem?_eq_getElem hjl⟩
      have hjl' : j < (levI lv).length := by rw [levI_lenX]; exact hjl
      obtain ⟨b, o, rfl, hbb, hcell⟩ := (hv.below hb).pos (by omega)
      obtain ⟨Aj, cj, hvj, hcj, hmj, hrj⟩ := hlv.get hjl'
      have hce : (levI lv)[j] = castL l := Option.some.inj ((List.getElem?_eq_getElem hjl').symm.trans (levI_get hl))
      rw [hce, castL_len] at hvj hcj hrj
      have c1 := hcell j _ hvj
      have hlen : l.length ≤ 1000 := hlm _ (List.mem_of_getElem? hl)
      have hrjw := hrj.below hb
      have Htk := Lib.hid (show lv.take (j + 1) = lv.take j ++ [l] by rw [List.take_add_one, hl]; rfl)
      have hlj : (levI (lv.take j)).length = j := by rw [levI_lenX, List.length_take]; omega
      have hol := h.l
      rw [hlj] at hol
      have Hlj := Lib.hid hlj
      obtain ⟨m, hm⟩ : ∃ m, m = l.length := ⟨_, rfl⟩
      rw [← hm] at hvj hcj hrjw c1 hlen
      have Hm := Lib.hid hm
      have kO := (hM.get 0 rfl).cell (i := 1) (v := .slice A3 j c3) rfl
      clear hcell hvj hrj hjl hjl' hce hl hlj hm
      go_upto_region 5 with fail
      try simp only [Act.put]
      have hkeep : ∀ wx : World, Below wr.heap.size wr wx → wx.cell? ⟨gO, 1, none⟩ = some (.slice A3 j c3) := fun wx hb => ((hM.get 0 rfl).call hb).cell rfl
      refine beginT (fun wx => wx.cell? ⟨gO, 1, none⟩ = some (.slice A3 j c3)) 7 (by kernel_rfl) ?_
      have hS := hkeep _ (c_drew (c_refl _))
      refine takeD 0 (some 17) (.pointer (some ⟨gO, 1, none⟩)) rfl rfl (by kernel_rfl) (by kernel_rfl) (by kernel_rfl) (by kernel_rfl) (fun _ _ _ h => h) (Or.inl ⟨by kernel_rfl, fun wx hSw => by have h := hSw; go_simp⟩) hS ?_
      simp only [Act.put, List.setIfInBounds_toArray, List.set_cons_zero, List.set_cons_succ]
      refine takeD 1 (some 18) (.slice A3 j c3) rfl rfl (by kernel_rfl) (by kernel_rfl) (by kernel_rfl) (by kernel_rfl) (fun _ _ _ h => h) (Or.inl ⟨by kernel_rfl, fun wx hSw => by have h := hSw; go_simp⟩) hS ?_
      simp only [Act.put, List.setIfInBounds_toArray, List.set_cons_zero, List.set_cons_succ]
      refine takeD 2 (some 19) (.slice Aj m cj) rfl rfl (by kernel_rfl) (by kernel_rfl) (by kernel_rfl) (by kernel_rfl) (fun _ _ _ h => h) (Or.inl ⟨by kernel_rfl, fun wx hSw => by have h := hSw; go_simp⟩) hS ?_
      simp only [Act.put, List.setIfInBounds_toArray, List.set_cons_zero, List.set_cons_succ]
      have hx0 : Below wr.heap.size wr wr.drew := c_drew (c_refl _)
      have hrj0 := (hrjw.below (hx0.mono hbs)).more (show w.heap.size ≤ wr.drew.heap.size from hbs)
      have hsx0 : wr.drew.heap.size = wr.heap.size := rfl
      have hMx0 := hM.call hx0 hbs
      have hox0 := own_below hol hx0
      generalize wr.drew = x0 at *
      refine oneT 3 (by kernel_rfl) rfl (fun K hK => ?_)
      go_simp
      refine (Clone_any Aj m cj ((castL l).map iv) x0 hcj (by omega) (one_iv _) hrj0).mono ?_
      rintro e x1 ⟨A5, c5, rfl, ho5, hx1⟩
      have hwx1 := c_call hx0 hx1
      have hMx1 := hMx0.call hx1 (by omega)
      have hox1 := own_below hox0 hx1
      have hf5 : ∀ q, (Value.slice A5 m c5).ownBlock = some q → wr.heap.size ≤ q := fun q hq => by rw [← hsx0]; exact own_blockT ho5 q hq
      have ho5 := own_monoT ho5 (show w.heap.size ≤ x0.heap.size by omega)
      refine hK.out _ _ (fun _ => hkeep _ hwx1) ?_
      clear hK K
      try simp only [Act.put, List.setIfInBounds_toArray, List.set_cons_zero, List.set_cons_succ]
      have hal := d_al x1 (.cells #[.slice A5 m c5] 22)
      have hwx2 := c_call hwx1 hal
      have hMx2 := hMx1.call hal (by have := hwx1.size; omega)
      have hox2 := own_below hox1 hal
      have ho52 := own_below ho5 hal
      have hs1 := hwx1.size
      refine oneT 4 (by kernel_rfl) rfl (fun K hK => ?_)
      go_simp
      refine hK.out _ _ (fun _ => hkeep _ hwx2) ?_
      clear hK K
      have hone : ∀ u ∈ [Value.slice A5 m c5], u.oneCell' = true := by intro u hu; simp at hu; subst hu; rfl
      have hz2 : (x1.alloc (.cells #[.slice A5 m c5] 22)).heap.size = x1.heap.size + 1 := by simp
      refine oneT 5 (by kernel_rfl) rfl (fun K hK => ?_)
      refine step_append_rdT (by kernel_rfl) (some 22) rfl (.tmp 18) (.tmp 21) _ rfl w.heap.size 22 i1 _ 24 Try.underlying23 hi1 hy0 hy1 hy2 rfl (.slice A3 j c3) j us rfl hox2 (x1.heap.size + 1) (some ⟨x1.heap.size, 0, none⟩) 1 1 [.slice A5 m c5] rfl (Rd.mk_ _ _ _ rfl (by omega) rfl rfl) hone (by simp only [maxLen]; omega) (by omega) (by omega) ?_
      intro v6 x3 hown6 hgr6 hat6
      obtain ⟨A6, c6, rfl, _, _⟩ := own_formT hown6
      have h6 := h.snoc (u := .slice A5 m c5) (vL' := .slice A6 (j + 1) c6) (l := castL l) hwx2 (by rw [castL_len, ← Hm.out]; exact ho52) hf5 hgr6 (by rw [Hlj.out]; exact hown6)
      rw [show levI (lv.take j) ++ [castL l] = levI (lv.take (j + 1)) by rw [Htk.out]; simp [levI_cast]] at h6
      have hMx3 := hMx2.turn hgr6 (by omega) (fun q hq => by
        obtain ⟨cs, hr⟩ := own_tyT hox2 hq
        exact ⟨own_blockT hox2 q hq, _, cs, hr, fun p hp => by simp at hp; rcases hp with rfl | rfl | rfl <;> exact sh_ne.2.symm⟩)
      have kx : x3.cell? ⟨gO, 1, none⟩ = some (.slice A3 j c3) := (hMx3.get 0 rfl).cell rfl
      have fx := (hMx3.get 0 rfl).frozen 1
      refine hK.out _ _ (fun _ => kx) ?_
      clear hK K
      try simp only [Act.put, List.setIfInBounds_toArray, List.set_cons_zero, List.set_cons_succ]
      generalize us ++ [Value.slice A5 m c5] = us2 at h6
      have hgw : w.heap.size ≤ gO := by have := HgS.out; omega
      have hM7 := hMx3.set hgw (fun q hq => by simp at hq; rcases hq with rfl | rfl <;> simp <;> omega) 1 (.slice A6 (j + 1) c6)
      rw [show (#[.slice A2 ni c2, .slice A3 j c3] : Array Value).setIfInBounds 1 (.slice A6 (j + 1) c6) = #[.slice A2 ni c2, .slice A6 (j + 1) c6] from rfl] at hM7
      have h7 := h6.far (grown_setCell x3 gO 1 (.slice A6 (j + 1) c6)) (hMx3.get 0 rfl) sh_ne.1 sh_ne.2
      clear hMx3 hMx2 hMx1 hMx0 hox2 hox1 hox0 ho52 ho5 hf5 hown6 hgr6 hat6 h6 h hM hol hrj0 hrjw hS hkeep hone
      refine takeD 6 (some 23) (.pointer (some ⟨gO, 1, none⟩)) rfl rfl (by kernel_rfl) (by kernel_rfl) (by kernel_rfl) (by kernel_rfl) (fun _ _ _ h => h) (Or.inl ⟨by kernel_rfl, fun wx hSw => by go_simp⟩) kx ?_
      simp only [Act.put, List.setIfInBounds_toArray, List.set_cons_zero, List.set_cons_succ]
      refine oneT 7 (by kernel_rfl) rfl (fun K hK => ?_)
      go_simp
      refine hK.out _ _ (fun h => absurd rfl h) ?_
      clear hK K
      refine doneT (by kernel_rfl) ?_ _
      go_wp2_with fail
      go_roundw
      case rel => exact ⟨j + 1, A6, c6, us2, by omega, by go_num, h7, hM7⟩
      case measure => simp [intOf]; omega
    · obtain rfl : j = nl := by omega
      rw [List.take_of_length_le (by rw [Hnl.out]; exact Nat.le_refl _)] at h
      go_wp2_with (first
        | ((with_reducible show wpList _ _ _ (⟨some 25, _, _, _, _, _⟩ :: _) _ _); refine wpList_loadC (by kernel_rfl) 25 (.tmp 3) rfl gO rfl 25 #[.slice A2 ni c2, .slice A3 j c3] _ (hM.get 0 rfl) Try.underlying25 rfl shapeInfo2 ?_)
        | ((with_reducible show wpList _ _ _ (⟨none, Op.store 25 _ _, _, _, _, _⟩ :: _) _ _); refine wpList_store_row rfl 25 (.tmp 2) (.tmp 25) rfl (gS + 1) #[.slice A2 ni c2, .slice A3 j c3] rfl rfl 25 _ (hM.get 1 rfl) shapeInfo2 rfl (by simp [Value.oneCell']) ?_))
      try simp only [Act.put]
      have hR9 := (hM.get 1 rfl).row #[.slice A2 ni c2, .slice A3 j c3]
      have hw9 := h.far (grown_setRow _ (gS + 1) #[.slice A2 ni c2, .slice A3 j c3]) (hM.get 1 rfl) sh_ne.1 sh_ne.2
      have hb9 := below_setRow hM.old (show w.heap.size ≤ gS + 1 by have := HgS.out; omega) #[.slice A2 ni c2, .slice A3 j c3]
      refine bodyPost_ret (results_cell_one rfl _ _ (gS + 1) _ #[.slice A2 ni c2, .slice A3 j c3] _ rfl hR9 Try.underlying25 rfl shapeInfo2) rfl (Hpost.out _ _ _ _ _ _ _ _ hb9 hw9)

end Go.Proofs.Ytmganbdbihjbmaa


/-
  CONTRACT of the program's plan.Change.
-/
set_option linter.unusedVariables false
namespace Go.Proofs.Ytmganbdbihjbmaa
open Go.RowKit

/-- all of out deleted, and then all of in inserted -/
def chgR (out inn ids : List Int) (ll : List (List Int)) : Int × List Int × List (List Int) :=
  if chkT ids ll = true then (if (runD out ids ll).1 = 0 then runI inn (runD out ids ll).2.1 (runD out ids ll).2.2 else ((runD out ids ll).1, [], [])) else (1, [], [])
theorem chgR_chk {out inn ids : List Int} {ll : List (List Int)} (h : (chgR out inn ids ll).1 = 0) : chkT (chgR out inn ids ll).2.1 (chgR out inn ids ll).2.2 = true := by
  rw [chgR] at h ⊢
  split at h
  · next c1 =>
    rw [if_pos c1]
    split at h
    · next c2 => rw [if_pos c2]; exact runI_chk _ _ _ (runD_chk _ _ _ c1 c2) h
    · next c2 => exact absurd h c2
  · simp at h
def ChgPost (lo : Nat) (w : World) (out inn ids : List Int) (ll : List (List Int)) (e : Ending) (w' : World) : Prop :=
  Below w.heap.size w w' ∧ (((chgR out inn ids ll).1 ≠ 0 ∧ e = .returned (.tuple #[.agg sh0, .int .i64 (chgR out inn ids ll).1])) ∨
    ((chgR out inn ids ll).1 = 0 ∧ ∃ Ai ni ci Al nl cl, e = .returned (.tuple #[.agg (shV Ai ni ci Al nl cl), .int .i64 0]) ∧ ShR w' w'.heap.size Ai ni ci Al nl cl (chgR out inn ids ll).2.1 (chgR out inn ids ll).2.2 ∧ NI lo w' Ai))

set_option maxRecDepth 100000 in
set_option maxHeartbeats 4000000 in
theorem PChange_any (Ai : Option Addr) (ni ci : Nat) (Al : Option Addr) (nl cl : Nat) (ids : List Int) (ll : List (List Int)) (Ao : Option Addr) (no co : Nat) (out : List Int) (An : Option Addr) (nn cn : Nat) (inn : List Int) (w : World) (h : ShR w w.heap.size Ai ni ci Al nl cl ids ll) (hf : fewT ids ll = true)
    (hro : Rd w w.heap.size Ao no (out.map iv)) (hno : no ≤ maxLen) (hrn : Rd w w.heap.size An nn (inn.map iv)) (hnn : nn ≤ maxLen) :
    Calls Try.prog 12 #[.agg (shV Ai ni ci Al nl cl), .slice Ao no co, .slice An nn cn] w (ChgPost w.heap.size w out inn ids ll) := by
  have hM0 := ((Ms.nil w).box 25 (shV Ai ni ci Al nl cl)).box 25 #[.slice none 0 0, .slice none 0 0]
  simp only [World.size_alloc] at hM0
  have hold0 := hM0.old
  have Hs := Lib.hid (fun wx (hb : Below w.heap.size w wx) => (h.below hb).more hb.size)
  have Hro := Lib.hid (fun wx (hb : Below w.heap.size w wx) => (hro.below hb).more hb.size)
  have Hrn := Lib.hid (fun wx (hb : Below w.heap.size w wx) => (hrn.below hb).more hb.size)
  have HE := Lib.hid (show ∀ (er : Int) w', (chgR out inn ids ll).1 = er → er ≠ 0 → Below w.heap.size w w' → ChgPost w.heap.size w out inn ids ll (.returned (.tuple #[.agg sh0, .int .i64 er])) w' from fun er w' h1 h2 hb => ⟨hb, .inl ⟨by rw [h1]; exact h2, by rw [h1]⟩⟩)
  have HO := Lib.hid (show ∀ w' Ai ni ci Al nl cl R, chgR out inn ids ll = R → R.1 = 0 → Below w.heap.size w w' → ShR w' w'.heap.size Ai ni ci Al nl cl R.2.1 R.2.2 → NI w.heap.size w' Ai → ChgPost w.heap.size w out inn ids ll (.returned (.tuple #[.agg (shV Ai ni ci Al nl cl), .int .i64 0])) w' from fun w' Ai ni ci Al nl cl R h1 h0 hb h2 h3 => ⟨hb, .inr ⟨by rw [h1]; exact h0, Ai, ni, ci, Al, nl, cl, rfl, by rw [h1]; exact h2, h3⟩⟩)
  generalize ChgPost w.heap.size w out inn ids ll = PO at *
  have hck := PCheck_any Ai ni ci Al nl cl ids ll _ (Hs.out _ hold0) (few_million hf) (by have := (few_len hf).2.1; have := h.hni; omega)
  clear h hro hrn
  go_enter Try.func12, Try.ntmps12
  go_wp2_with ((with_reducible show wpList _ _ _ (⟨some 11, _, _, _, _, _⟩ :: _) _ _); refine wpList_loadC (by kernel_rfl) 25 (.tmp 3) rfl w.heap.size rfl 25 (shV Ai ni ci Al nl cl) _ (hM0.get 1 rfl) Try.underlying25 rfl shapeInfo2 ?_)
  refine hck.mono ?_
  rintro e w1 ⟨he, hb1⟩
  subst he
  have hM1 := hM0.call hb1
  have hold1 := hM1.old
  clear hM0 hb1 hck hold0
  by_cases hc : chkT ids ll = true
  rotate_left
  · have hcf : chkT ids ll = false := by simpa using hc
    rw [show chkE ids ll = 1 by rw [chkE, hcf]; rfl]
    have hr1 := hM1.get 0 rfl
    have HF := Lib.hid (HE.out 1 _ (by rw [chgR, if_neg hc]) (by decide) (below_setRow (g := w.heap.size + 1) hold1 (by omega) sh0))
    clear hM1
    go_wp2_with ((with_reducible show wpList _ _ _ (⟨none, Op.store 25 _ _, _, _, _, _⟩ :: _) _ _); refine wpList_store_row rfl 25 (.tmp 6) (.tmp 15) rfl (w.heap.size + 1) sh0 rfl rfl 25 _ hr1 shapeInfo2 rfl (by simp [sh0, Value.oneCell']) ?_)
    refine bodyPost_ret (results_cell_two rfl _ _ (w.heap.size + 1) 25 sh0 _ rfl (hr1.row _) Try.underlying25 rfl shapeInfo2) rfl ?_
    exact HF.out
  · rw [show chkE ids ll = 0 by rw [chkE, hc]; rfl]
    obtain ⟨c1, c2, c3, c4⟩ := chkT_lv hc
    have hl2 := levI_lvN c4
    have hhi := lv_high hc
    have hs1 := Hs.out _ hold1
    rw [← hl2] at hs1
    have hcp := PCopied12_any Ai ni ci Al nl cl ids (lvN ll) w1 (by omega) c1 (fun l hl => Nat.le_trans (lvOK_len _ _ c3 l hl) c1) hs1
    have Hc := Lib.hid hc
    have Hl2 := Lib.hid hl2
    clear c1 c2 c3 c4 hl2 hs1 hhi
    go_wp2_with ((with_reducible show wpList _ _ _ (⟨some 18, _, _, _, _, _⟩ :: _) _ _); refine wpList_loadC (by kernel_rfl) 25 (.tmp 3) rfl w.heap.size rfl 25 (shV Ai ni ci Al nl cl) _ (hM1.get 1 rfl) Try.underlying25 rfl shapeInfo2 ?_)
    refine hcp.mono ?_
    rintro e w2 ⟨hb2, A2, n2, k2, B2, m2, d2, vs2, he, how⟩
    subst he
    have hM2 := hM1.call hb2
    have hold2 := hM2.old
    obtain ⟨hsN, hth⟩ := how.shN (Nat.le_refl _)
    rw [Hl2.out] at hsN
    have hz1 : w.heap.size + 2 ≤ w1.heap.size := by have := (hM1.get 0 rfl).lt; omega
    have hNI : NI (w.heap.size + 2) w2 A2 := fun ad e => ⟨by have := hsN.hi ad e; omega, hth.1 ad e⟩
    have hsN := hsN.mono hz1
    have hea := PEachD_any (w.heap.size + 2) A2 n2 k2 B2 m2 d2 ids ll Ao no co out w2 hsN Hc.out hNI (Nat.le_trans hz1 hb2.size) (Hro.out _ hold2) hno
    have hz2 := hb2.size
    clear hcp hM1 hold1 hb2 how hsN hth hNI
    go_wp2_with fail
    refine hea.mono ?_
    rintro e w3 ⟨hb3, ⟨hr, he⟩ | ⟨hr, A3, n3, k3, B3, m3, d3, he, hsh3, hN3⟩⟩
    · subst he
      have hP := (hM2.call hb3).put 25 #[.slice none 0 0, .slice none 0 0] sh0
      have HR := Lib.hid (show (chgR out inn ids ll).1 = (runD out ids ll).1 by rw [chgR, if_pos Hc.out, if_neg hr])
      generalize (runD out ids ll).1 = er at *
      have hneb : (er != 0) = true := by simpa using hr
      have hr2 := hP.get 1 rfl
      have HF := Lib.hid (HE.out er _ HR.out hr (below_setRow (g := w.heap.size + 1) hP.old (by omega) sh0))
      clear hM2 hea hP hb3 hold2
      go_wp2_with (first
        | ((with_reducible show wpList _ _ _ (⟨none, Op.store 25 _ _, _, _, _, _⟩ :: _) _ _); refine wpList_store_row rfl 25 (.tmp 9) (.tmp 22) rfl (w3.heap.size) sh0 rfl rfl 25 _ (RowC.new _ _ _) shapeInfo2 rfl (by simp [sh0, Value.oneCell']) ?_)
        | ((with_reducible show wpList _ _ _ (⟨none, Op.store 25 _ _, _, _, _, _⟩ :: _) _ _); refine wpList_store_row rfl 25 (.tmp 6) (.tmp 26) rfl (w.heap.size + 1) sh0 rfl rfl 25 _ hr2 shapeInfo2 rfl (by simp [sh0, Value.oneCell']) ?_))
      refine bodyPost_ret (results_cell_two rfl _ _ (w.heap.size + 1) 25 sh0 _ rfl (hr2.row _) Try.underlying25 rfl shapeInfo2) rfl ?_
      exact HF.out
    · subst he
      have hP := (hM2.call hb3).put 25 #[.slice none 0 0, .slice none 0 0] (shV A3 n3 k3 B3 m3 d3)
      have hB4 := below_setRow ((Below.refl w3.heap.size w3).alloc (Nat.le_refl _) (.cells #[.slice none 0 0, .slice none 0 0] 25)) (Nat.le_refl _) (shV A3 n3 k3 B3 m3 d3)
      have hsh4 := hsh3.call hB4
      have hz3 : w.heap.size + 2 ≤ w3.heap.size := Nat.le_trans (Nat.le_trans hz1 hz2) hb3.size
      have hN4 := hN3.below hB4
      have hck4 := runD_chk out ids ll Hc.out hr
      have HR := Lib.hid (show chgR out inn ids ll = runI inn (runD out ids ll).2.1 (runD out ids ll).2.2 by rw [chgR, if_pos Hc.out, if_pos hr])
      generalize (runD out ids ll).2.1 = ids4 at *
      generalize (runD out ids ll).2.2 = ll4 at *
      have hz4 : ((w3.alloc (.cells #[.slice none 0 0, .slice none 0 0] 25)).setRow w3.heap.size (shV A3 n3 k3 B3 m3 d3)).heap.size = w3.heap.size + 1 := by rw [size_setRowT]; simp
      clear hM2 hea hb3 hold2 hsh3 hN3 hB4 hr
      go_upto_region 5 with ((with_reducible show wpList _ _ _ (⟨none, Op.store 25 _ _, _, _, _, _⟩ :: _) _ _); refine wpList_store_row rfl 25 (.tmp 9) (.tmp 22) rfl (w3.heap.size) (shV A3 n3 k3 B3 m3 d3) rfl rfl 25 _ (RowC.new _ _ _) (sizeSh _ _ _ _ _ _) rfl (one_sh _ _ _ _ _ _) ?_)
      try simp only [Act.put]
      obtain ⟨g9, hg9⟩ : ∃ g, g = w3.heap.size := ⟨_, rfl⟩
      rw [← hg9] at hP hsh4 hN4 hz4 ⊢
      refine wp_gen (fun wx => Ms w wx [(g9, 25, shV A3 n3 k3 B3 m3 d3), (w.heap.size + 1, 25, #[.slice none 0 0, .slice none 0 0]), (w.heap.size, 25, shV Ai ni ci Al nl cl)] ∧ ShN (w.heap.size + 2) wx wx.heap.size A3 n3 k3 B3 m3 d3 ids4 ll4 ∧ NI (w.heap.size + 2) wx A3 ∧ w.heap.size + 2 ≤ wx.heap.size) ⟨hP, hsh4, hN4, by omega⟩ ?_
      clear hP hsh4 hN4 hz4 hg9
      rintro w4 ⟨hM4, hsh4, hN4, hz4⟩
      have hold4 := hM4.old
      have hea := PEachI_any (w.heap.size + 2) A3 n3 k3 B3 m3 d3 ids4 ll4 An nn cn inn w4 hsh4 hck4 hN4 hz4 (Hrn.out _ hold4) hnn
      go_wp2_with ((with_reducible show wpList _ _ _ (⟨some 28, _, _, _, _, _⟩ :: _) _ _); refine wpList_loadC (by kernel_rfl) 25 (.tmp 9) rfl g9 rfl 25 (shV A3 n3 k3 B3 m3 d3) _ (hM4.get 0 rfl) Try.underlying25 rfl shapeInfo2 ?_)
      refine hea.mono ?_
      rintro e w5 ⟨hb5, ⟨hr, he⟩ | ⟨hr, A5, n5, k5, B5, m5, d5, he, hsh5, hN5⟩⟩
      · subst he
        have hM5 := hM4.call hb5
        have hr2 := hM5.get 1 rfl
        have HRe := Lib.hid (show (chgR out inn ids ll).1 = (runI inn ids4 ll4).1 by rw [HR.out])
        generalize (runI inn ids4 ll4).1 = er at *
        have HF := Lib.hid (HE.out er _ HRe.out hr (below_setRow (g := w.heap.size + 1) hM5.old (by omega) sh0))
        clear hM4 hea hM5 hb5 hold4 hsh4 hN4
        go_wp2_with ((with_reducible show wpList _ _ _ (⟨none, Op.store 25 _ _, _, _, _, _⟩ :: _) _ _); refine wpList_store_row rfl 25 (.tmp 6) (.tmp 31) rfl (w.heap.size + 1) sh0 rfl rfl 25 _ hr2 shapeInfo2 rfl (by simp [sh0, Value.oneCell']) ?_)
        refine bodyPost_ret (results_cell_two rfl _ _ (w.heap.size + 1) 25 sh0 _ rfl (hr2.row _) Try.underlying25 rfl shapeInfo2) rfl ?_
        exact HF.out
      · subst he
        have hM5 := hM4.call hb5
        have hr2 := hM5.get 1 rfl
        have hsh6 := hsh5.box (g := w.heap.size + 1) (by omega) (shV A5 n5 k5 B5 m5 d5)
        have hN6 := hN5.row (g := w.heap.size + 1) (fun ad e => by have := (hN5 ad e).1; omega) (shV A5 n5 k5 B5 m5 d5)
        have hold6 := below_setRow (g := w.heap.size + 1) hM5.old (by omega) (shV A5 n5 k5 B5 m5 d5)
        have HF := Lib.hid (HO.out _ A5 n5 k5 B5 m5 d5 _ HR.out hr hold6 (by rw [size_setRowT]; exact hsh6.sh) (fun ad e => ⟨by have := (hN6 ad e).1; omega, (hN6 ad e).2⟩))
        clear hM4 hea hM5 hb5 hold4 hsh4 hN4 hsh5 hN5 hsh6 hN6 hold6
        go_wp2_with ((with_reducible show wpList _ _ _ (⟨none, Op.store 25 _ _, _, _, _, _⟩ :: _) _ _); refine wpList_store_row rfl 25 (.tmp 6) (.tmp 31) rfl (w.heap.size + 1) (shV A5 n5 k5 B5 m5 d5) rfl rfl 25 _ hr2 (sizeSh _ _ _ _ _ _) rfl (one_sh _ _ _ _ _ _) ?_)
        refine bodyPost_ret (results_cell_two rfl _ _ (w.heap.size + 1) 25 (shV A5 n5 k5 B5 m5 d5) _ rfl (hr2.row _) Try.underlying25 rfl shapeInfo2) rfl ?_
        exact HF.out

end Go.Proofs.Ytmganbdbihjbmaa

/-
  CONTRACT of the document's Change (coterieref12). Printed by gen_planrefc.py.
-/
set_option linter.unusedVariables false
namespace Go.Proofs.Ytmganbdbihjbmaa
open Go.RowKit

def DocPost (w : World) (out inn ids : List Int) (ll : List (List Int)) (e : Ending) (w' : World) : Prop :=
  Below w.heap.size w w' ∧ (((chgR out inn ids ll).1 ≠ 0 ∧ e = .returned (.tuple #[.agg sh0, .int .i64 (chgR out inn ids ll).1])) ∨
    ((chgR out inn ids ll).1 = 0 ∧ ∃ Ai ni ci Al nl cl, e = .returned (.tuple #[.agg (shV Ai ni ci Al nl cl), .int .i64 0]) ∧ ShR w' w'.heap.size Ai ni ci Al nl cl (chgR out inn ids ll).2.1 (chgR out inn ids ll).2.2))
/-- what is left to do: of out, and then all of inn -/
def restD (inn : List Int) (r : Int × List Int × List (List Int)) : Int × List Int × List (List Int) := if r.1 = 0 then runI inn r.2.1 r.2.2 else (r.1, [], [])

set_option maxRecDepth 100000 in
set_option maxHeartbeats 8000000 in
theorem Change12_any (Ai : Option Addr) (ni ci : Nat) (Al : Option Addr) (nl cl : Nat) (ids : List Int) (ll : List (List Int)) (Ao : Option Addr) (no co : Nat) (out : List Int) (An : Option Addr) (nn cn : Nat) (inn : List Int) (w : World) (h : ShR w w.heap.size Ai ni ci Al nl cl ids ll) (hf : fewT ids ll = true)
    (hro : Rd w w.heap.size Ao no (out.map iv)) (hno : no ≤ maxLen) (hrn : Rd w w.heap.size An nn (inn.map iv)) (hnn : nn ≤ maxLen) :
    Calls Try.prog 13 #[.agg (shV Ai ni ci Al nl cl), .slice Ao no co, .slice An nn cn] w (DocPost w out inn ids ll) := by
  have hM0 := ((Ms.nil w).box 25 (shV Ai ni ci Al nl cl)).box 25 #[.slice none 0 0, .slice none 0 0]
  simp only [World.size_alloc] at hM0
  have hold0 := hM0.old
  have Hs := Lib.hid (fun wx (hb : Below w.heap.size w wx) => (h.below hb).more hb.size)
  have Hol := Lib.hid (show out.length = no by have := hro.len; rwa [List.length_map] at this)
  have Hil := Lib.hid (show inn.length = nn by have := hrn.len; rwa [List.length_map] at this)
  have HE := Lib.hid (show ∀ (er : Int) w', (chgR out inn ids ll).1 = er → er ≠ 0 → Below w.heap.size w w' → DocPost w out inn ids ll (.returned (.tuple #[.agg sh0, .int .i64 er])) w' from fun er w' h1 h2 hb => ⟨hb, .inl ⟨by rw [h1]; exact h2, by rw [h1]⟩⟩)
  have HO := Lib.hid (show ∀ w' Ai ni ci Al nl cl R, chgR out inn ids ll = R → R.1 = 0 → Below w.heap.size w w' → ShR w' w'.heap.size Ai ni ci Al nl cl R.2.1 R.2.2 → DocPost w out inn ids ll (.returned (.tuple #[.agg (shV Ai ni ci Al nl cl), .int .i64 0])) w' from fun w' Ai ni ci Al nl cl R h1 h0 hb h2 => ⟨hb, .inr ⟨by rw [h1]; exact h0, Ai, ni, ci, Al, nl, cl, rfl, by rw [h1]; exact h2⟩⟩)
  generalize DocPost w out inn ids ll = PO at *
  rw [maxLen] at hno hnn
  have hck := CheckT_any Ai ni ci Al nl cl ids ll _ (Hs.out _ hold0) (few_million hf)
  clear h
  go_enter Try.func13, Try.ntmps13
  go_wp2_with ((with_reducible show wpList _ _ _ (⟨some 16, _, _, _, _, _⟩ :: _) _ _); refine wpList_loadC (by kernel_rfl) 25 (.tmp 3) rfl w.heap.size rfl 25 (shV Ai ni ci Al nl cl) _ (hM0.get 1 rfl) Try.underlying25 rfl shapeInfo2 ?_)
  refine hck.mono ?_
  rintro e w1 ⟨he, hb1⟩
  subst he
  have hM1 := hM0.call hb1
  have hold1 := hM1.old
  clear hM0 hb1 hck hold0
  by_cases hc : chkT ids ll = true
  rotate_left
  · have hcf : chkT ids ll = false := by simpa using hc
    rw [show chkE ids ll = 1 by rw [chkE, hcf]; rfl]
    have hr1 := hM1.get 0 rfl
    have HF := Lib.hid (HE.out 1 _ (by rw [chgR, if_neg hc]) (by decide) (below_setRow (g := w.heap.size + 1) hold1 (by omega) sh0))
    clear hM1
    go_wp2_with ((with_reducible show wpList _ _ _ (⟨none, Op.store 25 _ _, _, _, _, _⟩ :: _) _ _); refine wpList_store_row rfl 25 (.tmp 6) (.tmp 19) rfl (w.heap.size + 1) sh0 rfl rfl 25 _ hr1 shapeInfo2 rfl (by simp [sh0, Value.oneCell']) ?_)
    refine bodyPost_ret (results_cell_two rfl _ _ (w.heap.size + 1) 25 sh0 _ rfl (hr1.row _) Try.underlying25 rfl shapeInfo2) rfl ?_
    exact HF.out
  rw [show chkE ids ll = 0 by rw [chkE, hc]; rfl]
  have hcp := CopyT_any Ai ni ci Al nl cl ids ll w1 (Hs.out _ hold1) hf
  have HR0 := Lib.hid (show chgR out inn ids ll = restD inn (runD out ids ll) by rw [chgR, if_pos hc, restD])
  go_wp2_with ((with_reducible show wpList _ _ _ (⟨some 20, _, _, _, _, _⟩ :: _) _ _); refine wpList_loadC (by kernel_rfl) 25 (.tmp 3) rfl w.heap.size rfl 25 (shV Ai ni ci Al nl cl) _ (hM1.get 1 rfl) Try.underlying25 rfl shapeInfo2 ?_)
  refine hcp.mono ?_
  rintro e w2 ⟨hb2, A2, n2, k2, B2, m2, d2, he, hsN⟩
  subst he
  have hM2 := hM1.call hb2
  have hz1 : w.heap.size + 2 ≤ w1.heap.size := by have := (hM1.get 0 rfl).lt; omega
  have hM3 := ((hM2.subT (L' := [(w.heap.size, 25, shV Ai ni ci Al nl cl), (w.heap.size + 1, 25, #[.slice none 0 0, .slice none 0 0])]) (fun p hp => by simp at hp; rcases hp with rfl | rfl <;> simp)).setT (Nat.le_refl _) (fun p hp => by simp at hp; subst hp; simp) (shV A2 n2 k2 B2 m2 d2)).subT (L' := [(w.heap.size + 1, 25, #[.slice none 0 0, .slice none 0 0]), (w.heap.size, 25, shV A2 n2 k2 B2 m2 d2)]) (fun p hp => by simp at hp; rcases hp with rfl | rfl <;> simp)
  have hX3 := (hsN.mono hz1).box (g := w.heap.size) (by omega) (shV A2 n2 k2 B2 m2 d2)
  rw [← size_setRowT w2 w.heap.size (shV A2 n2 k2 B2 m2 d2)] at hX3
  have hr2 := hM2.get 1 rfl
  have Hc := Lib.hid hc
  clear hcp hM1 hold1 hb2 hsN hM2 hz1 hc
  go_upto_region 4 with ((with_reducible show wpList _ _ _ (⟨none, Op.store 25 _ _, _, _, _, _⟩ :: _) _ _); refine wpList_store_row rfl 25 (.tmp 3) (.tmp 21) rfl w.heap.size (shV A2 n2 k2 B2 m2 d2) rfl rfl 25 _ hr2 (sizeSh _ _ _ _ _ _) rfl (one_sh _ _ _ _ _ _) ?_)
  try simp only [Act.put]
  refine wp_gen (fun wx => Ms w wx [(w.heap.size + 1, 25, #[.slice none 0 0, .slice none 0 0]), (w.heap.size, 25, shV A2 n2 k2 B2 m2 d2)] ∧ ShN (w.heap.size + 2) wx wx.heap.size A2 n2 k2 B2 m2 d2 ids ll) ⟨hM3, hX3⟩ ?_
  clear hM3 hX3 hr2
  rintro w3 ⟨hM3, hX3⟩
  have HM3 := Lib.hid hM3
  have HX3 := Lib.hid hX3
  clear hM3 hX3
  go_wp2_with fail
  go_loopw [24] (fun v24 wr => ∃ (j : Nat) (Ai : Option Addr) (ni ci : Nat) (Al : Option Addr) (nl cl : Nat) (ids' : List Int) (ll' : List (List Int)), j ≤ no ∧ v24 = .int .i64 (j : Int) ∧ chkT ids' ll' = true ∧ chgR out inn ids ll = restD inn (runD (out.drop j) ids' ll') ∧ ShN (w.heap.size + 2) wr wr.heap.size Ai ni ci Al nl cl ids' ll' ∧
    Ms w wr [(w.heap.size + 1, 25, #[.slice none 0 0, .slice none 0 0]), (w.heap.size, 25, shV Ai ni ci Al nl cl)]) (fun v24 _ => no - (intOf v24).toNat)
  case atStart => exact ⟨0, A2, n2, k2, B2, m2, d2, ids, ll, by omega, rfl, Hc.out, HR0.out, HX3.out, HM3.out⟩
  case round =>
    clear HM3 HX3
    obtain ⟨j, Ai, ni, ci, Al, nl, cl, ids', ll', hj, rfl, hck, hrun, hX, hM⟩ := hrel
    have hb := hM.old
    have hlt := (hM.get 0 rfl).lt
    by_cases hjn : j < no
    · have hjx : j < out.length := by rw [Hol.out]; exact hjn
      obtain ⟨b, o, rfl, hbb, c1⟩ := rd_numT (hro.below hb) hjn
      rw [show out.getD j 0 = out[j] from getD_at (List.getElem?_eq_getElem hjx)] at c1
      have Hd := Lib.hid (show out.drop j = out[j] :: out.drop (j + 1) from List.drop_eq_getElem_cons hjx)
      have hin := DeleteT_any Ai ni ci Al nl cl ids' ll' out[j] wr hX.sh (few_million (few_of_chk hck))
      generalize out[j] = id at *
      have Hck := Lib.hid hck
      have Hrun := Lib.hid hrun
      have zj : (j : Int) < (no : Int) := by omega
      clear hck hrun
      go_wp2_with ((with_reducible show wpList _ _ _ (⟨some 29, _, _, _, _, _⟩ :: _) _ _); refine wpList_loadC (by kernel_rfl) 25 (.tmp 3) rfl w.heap.size rfl 25 (shV Ai ni ci Al nl cl) _ (hM.get 1 rfl) Try.underlying25 rfl (sizeSh _ _ _ _ _ _) ?_)
      refine hin.mono ?_
      intro e w2 hP
      obtain ⟨hb2, ⟨he, hee⟩ | ⟨he, Ai2, ni2, ci2, Al2, nl2, cl2, hee, hsh2⟩⟩ := hP
      · subst hee
        have hP2 := (hM.call hb2).put 25 #[.slice none 0 0, .slice none 0 0] sh0
        have HEr := Lib.hid (show (chgR out inn ids ll).1 = delE ids' ll' id by rw [Hrun.out, Hd.out, runD, if_neg he, restD, if_neg he])
        generalize delE ids' ll' id = er at *
        have hne : ¬ er = 0 := he
        have hneb : (er != 0) = true := by simpa using he
        have hold := below_setRow (g := w.heap.size + 1) hP2.old (by omega) sh0
        have hr2 := hP2.get 1 rfl
        clear hin hM hX c1
        go_wp2_with (first
          | ((with_reducible show wpList _ _ _ (⟨none, Op.store 25 _ _, _, _, _, _⟩ :: _) _ _); refine wpList_store_row rfl 25 (.tmp 10) (.tmp 32) rfl (w2.heap.size) sh0 rfl rfl 25 _ (RowC.new _ _ _) shapeInfo2 rfl (by simp [sh0, Value.oneCell']) ?_)
          | ((with_reducible show wpList _ _ _ (⟨none, Op.store 25 _ _, _, _, _, _⟩ :: _) _ _); refine wpList_store_row rfl 25 (.tmp 6) (.tmp 36) rfl (w.heap.size + 1) sh0 rfl rfl 25 _ hr2 shapeInfo2 rfl (by simp [sh0, Value.oneCell']) ?_))
        refine bodyPost_ret (results_cell_two rfl _ _ (w.heap.size + 1) 25 sh0 _ rfl (hr2.row _) Try.underlying25 rfl shapeInfo2) rfl ?_
        exact HE.out _ _ HEr.out hne hold
      · subst hee
        have hP2 := (hM.call hb2).put 25 #[.slice none 0 0, .slice none 0 0] (shV Ai2 ni2 ci2 Al2 nl2 cl2)
        have hc2 := (del_chk he).2.2
        have hrun2 : chgR out inn ids ll = restD inn (runD (out.drop (j + 1)) (delS ids' (lvN ll') id).1 (levI (delS ids' (lvN ll') id).2)) := by rw [Hrun.out, Hd.out, runD, if_pos he]
        have hsz := hb2.size
        have hB3 : Below w2.heap.size w2 ((w2.alloc (.cells #[.slice none 0 0, .slice none 0 0] 25)).setRow w2.heap.size (shV Ai2 ni2 ci2 Al2 nl2 cl2)) := below_setRow ((Below.refl _ _).alloc (Nat.le_refl _) _) (Nat.le_refl _) _
        have hsh3 := hsh2.call hB3
        have hM4 := ((hP2.subT (L' := [(w.heap.size, 25, shV Ai ni ci Al nl cl), (w.heap.size + 1, 25, #[.slice none 0 0, .slice none 0 0])]) (fun p hp => by simp at hp; rcases hp with rfl | rfl <;> simp)).setT (Nat.le_refl _) (fun p hp => by simp at hp; subst hp; simp) (shV Ai2 ni2 ci2 Al2 nl2 cl2)).subT (L' := [(w.heap.size + 1, 25, #[.slice none 0 0, .slice none 0 0]), (w.heap.size, 25, shV Ai2 ni2 ci2 Al2 nl2 cl2)]) (fun p hp => by simp at hp; rcases hp with rfl | rfl <;> simp)
        have hsh4 := (hsh3.mono (lo' := w.heap.size + 2) (by omega)).box (g := w.heap.size) (by omega) (shV Ai2 ni2 ci2 Al2 nl2 cl2)
        have hs4 : (((w2.alloc (.cells #[.slice none 0 0, .slice none 0 0] 25)).setRow w2.heap.size (shV Ai2 ni2 ci2 Al2 nl2 cl2)).setRow w.heap.size (shV Ai2 ni2 ci2 Al2 nl2 cl2)).heap.size = ((w2.alloc (.cells #[.slice none 0 0, .slice none 0 0] 25)).setRow w2.heap.size (shV Ai2 ni2 ci2 Al2 nl2 cl2)).heap.size := size_setRowT _ _ _
        rw [← hs4] at hsh4
        have hr0 := hP2.get 0 rfl
        have hr2 := hP2.get 2 rfl
        generalize (delS ids' (lvN ll') id).1 = ids2 at *
        generalize levI (delS ids' (lvN ll') id).2 = ll2 at *
        have HM4 := Lib.hid hM4
        have HX4 := Lib.hid hsh4
        have Hrun2 := Lib.hid hrun2
        have Hc2 := Lib.hid hc2
        clear hin hM hX c1 hsh2 hsh3 hB3 hM4 hsh4 hP2 hrun2 hc2 hs4
        go_wp2_with (first
          | ((with_reducible show wpList _ _ _ (⟨none, Op.store 25 _ _, _, _, _, _⟩ :: _) _ _); refine wpList_store_row rfl 25 (.tmp 10) (.tmp 32) rfl (w2.heap.size) (shV Ai2 ni2 ci2 Al2 nl2 cl2) rfl rfl 25 _ (RowC.new _ _ _) (sizeSh _ _ _ _ _ _) rfl (one_sh _ _ _ _ _ _) ?_)
          | ((with_reducible show wpList _ _ _ (⟨some 38, _, _, _, _, _⟩ :: _) _ _); refine wpList_loadC (by kernel_rfl) 25 (.tmp 10) rfl (w2.heap.size) rfl 25 (shV Ai2 ni2 ci2 Al2 nl2 cl2) _ hr0 Try.underlying25 rfl (sizeSh _ _ _ _ _ _) ?_)
          | ((with_reducible show wpList _ _ _ (⟨none, Op.store 25 _ _, _, _, _, _⟩ :: _) _ _); refine wpList_store_row rfl 25 (.tmp 3) (.tmp 38) rfl w.heap.size (shV Ai2 ni2 ci2 Al2 nl2 cl2) rfl rfl 25 _ hr2 (sizeSh _ _ _ _ _ _) rfl (one_sh _ _ _ _ _ _) ?_))
        go_roundw
        case rel => exact ⟨j + 1, Ai2, ni2, ci2, Al2, nl2, cl2, ids2, ll2, by omega, by go_num, Hc2.out, Hrun2.out, HX4.out, HM4.out⟩
        case measure => simp [intOf]; omega
    · obtain rfl : j = no := by omega
      have hdr : out.drop j = [] := List.drop_of_length_le (by rw [Hol.out]; exact Nat.le_refl _)
      rw [hdr] at hrun
      have HR1 := Lib.hid (show chgR out inn ids ll = runI (inn.drop 0) ids' ll' by rw [hrun]; rfl)
      obtain ⟨ids1, hi1⟩ : ∃ x, x = ids' := ⟨_, rfl⟩
      obtain ⟨ll1, hl1⟩ : ∃ x, x = ll' := ⟨_, rfl⟩
      rw [← hi1, ← hl1] at hX hck HR1
      have HM1 := Lib.hid hM
      have HX1 := Lib.hid hX
      have Hck1 := Lib.hid hck
      clear hrun hX hck hM hdr hi1 hl1
      go_wp2_with fail
      go_loopw [42] (fun v42 wr => ∃ (j : Nat) (Ai : Option Addr) (ni ci : Nat) (Al : Option Addr) (nl cl : Nat) (ids' : List Int) (ll' : List (List Int)), j ≤ nn ∧ v42 = .int .i64 (j : Int) ∧ chkT ids' ll' = true ∧ chgR out inn ids ll = runI (inn.drop j) ids' ll' ∧ ShN (w.heap.size + 2) wr wr.heap.size Ai ni ci Al nl cl ids' ll' ∧
        Ms w wr [(w.heap.size + 1, 25, #[.slice none 0 0, .slice none 0 0]), (w.heap.size, 25, shV Ai ni ci Al nl cl)]) (fun v42 _ => nn - (intOf v42).toNat)
      case atStart => exact ⟨0, Ai, ni, ci, Al, nl, cl, ids1, ll1, by omega, rfl, Hck1.out, HR1.out, HX1.out, HM1.out⟩
      case round =>
        clear HM1 HX1
        obtain ⟨j, Ai, ni, ci, Al, nl, cl, ids', ll', hj, rfl, hck, hrun, hX, hM⟩ := hrel
        have hb := hM.old
        have hlt := (hM.get 0 rfl).lt
        by_cases hjn : j < nn
        · have hjx : j < inn.length := by rw [Hil.out]; exact hjn
          obtain ⟨b, o, rfl, hbb, c1⟩ := rd_numT (hrn.below hb) hjn
          rw [show inn.getD j 0 = inn[j] from getD_at (List.getElem?_eq_getElem hjx)] at c1
          have Hd := Lib.hid (show inn.drop j = inn[j] :: inn.drop (j + 1) from List.drop_eq_getElem_cons hjx)
          have hin := InsertT_any Ai ni ci Al nl cl ids' ll' inn[j] wr hX.sh (few_million (few_of_chk hck))
          generalize inn[j] = id at *
          have Hck := Lib.hid hck
          have Hrun := Lib.hid hrun
          have zj : (j : Int) < (nn : Int) := by omega
          clear hck hrun
          go_wp2_with ((with_reducible show wpList _ _ _ (⟨some 47, _, _, _, _, _⟩ :: _) _ _); refine wpList_loadC (by kernel_rfl) 25 (.tmp 3) rfl w.heap.size rfl 25 (shV Ai ni ci Al nl cl) _ (hM.get 1 rfl) Try.underlying25 rfl (sizeSh _ _ _ _ _ _) ?_)
          refine hin.mono ?_
          intro e w2 hP
          obtain ⟨hb2, ⟨he, hee⟩ | ⟨he, Ai2, ni2, ci2, Al2, nl2, cl2, hee, hsh2⟩⟩ := hP
          · subst hee
            have hP2 := (hM.call hb2).put 25 #[.slice none 0 0, .slice none 0 0] sh0
            have HEr := Lib.hid (show (chgR out inn ids ll).1 = insE ids' ll' id by rw [Hrun.out, Hd.out, runI, if_neg he])
            generalize insE ids' ll' id = er at *
            have hne : ¬ er = 0 := he
            have hneb : (er != 0) = true := by simpa using he
            have hold := below_setRow (g := w.heap.size + 1) hP2.old (by omega) sh0
            have hr2 := hP2.get 1 rfl
            clear hin hM hX c1
            go_wp2_with (first
              | ((with_reducible show wpList _ _ _ (⟨none, Op.store 25 _ _, _, _, _, _⟩ :: _) _ _); refine wpList_store_row rfl 25 (.tmp 14) (.tmp 50) rfl (w2.heap.size) sh0 rfl rfl 25 _ (RowC.new _ _ _) shapeInfo2 rfl (by simp [sh0, Value.oneCell']) ?_)
              | ((with_reducible show wpList _ _ _ (⟨none, Op.store 25 _ _, _, _, _, _⟩ :: _) _ _); refine wpList_store_row rfl 25 (.tmp 6) (.tmp 54) rfl (w.heap.size + 1) sh0 rfl rfl 25 _ hr2 shapeInfo2 rfl (by simp [sh0, Value.oneCell']) ?_))
            refine bodyPost_ret (results_cell_two rfl _ _ (w.heap.size + 1) 25 sh0 _ rfl (hr2.row _) Try.underlying25 rfl shapeInfo2) rfl ?_
            exact HE.out _ _ HEr.out hne hold
          · subst hee
            have hP2 := (hM.call hb2).put 25 #[.slice none 0 0, .slice none 0 0] (shV Ai2 ni2 ci2 Al2 nl2 cl2)
            have hc2 := (ins_chk he).2.2
            have hrun2 : chgR out inn ids ll = runI (inn.drop (j + 1)) (insS ids' (lvN ll') id).1 (levI (insS ids' (lvN ll') id).2) := by rw [Hrun.out, Hd.out, runI, if_pos he]
            have hsz := hb2.size
            have hB3 : Below w2.heap.size w2 ((w2.alloc (.cells #[.slice none 0 0, .slice none 0 0] 25)).setRow w2.heap.size (shV Ai2 ni2 ci2 Al2 nl2 cl2)) := below_setRow ((Below.refl _ _).alloc (Nat.le_refl _) _) (Nat.le_refl _) _
            have hsh3 := hsh2.call hB3
            have hM4 := ((hP2.subT (L' := [(w.heap.size, 25, shV Ai ni ci Al nl cl), (w.heap.size + 1, 25, #[.slice none 0 0, .slice none 0 0])]) (fun p hp => by simp at hp; rcases hp with rfl | rfl <;> simp)).setT (Nat.le_refl _) (fun p hp => by simp at hp; subst hp; simp) (shV Ai2 ni2 ci2 Al2 nl2 cl2)).subT (L' := [(w.heap.size + 1, 25, #[.slice none 0 0, .slice none 0 0]), (w.heap.size, 25, shV Ai2 ni2 ci2 Al2 nl2 cl2)]) (fun p hp => by simp at hp; rcases hp with rfl | rfl <;> simp)
            have hsh4 := (hsh3.mono (lo' := w.heap.size + 2) (by omega)).box (g := w.heap.size) (by omega) (shV Ai2 ni2 ci2 Al2 nl2 cl2)
            have hs4 : (((w2.alloc (.cells #[.slice none 0 0, .slice none 0 0] 25)).setRow w2.heap.size (shV Ai2 ni2 ci2 Al2 nl2 cl2)).setRow w.heap.size (shV Ai2 ni2 ci2 Al2 nl2 cl2)).heap.size = ((w2.alloc (.cells #[.slice none 0 0, .slice none 0 0] 25)).setRow w2.heap.size (shV Ai2 ni2 ci2 Al2 nl2 cl2)).heap.size := size_setRowT _ _ _
            rw [← hs4] at hsh4
            have hr0 := hP2.get 0 rfl
            have hr2 := hP2.get 2 rfl
            generalize (insS ids' (lvN ll') id).1 = ids2 at *
            generalize levI (insS ids' (lvN ll') id).2 = ll2 at *
            have HM4 := Lib.hid hM4
            have HX4 := Lib.hid hsh4
            have Hrun2 := Lib.hid hrun2
            have Hc2 := Lib.hid hc2
            clear hin hM hX c1 hsh2 hsh3 hB3 hM4 hsh4 hP2 hrun2 hc2 hs4
            go_wp2_with (first
              | ((with_reducible show wpList _ _ _ (⟨none, Op.store 25 _ _, _, _, _, _⟩ :: _) _ _); refine wpList_store_row rfl 25 (.tmp 14) (.tmp 50) rfl (w2.heap.size) (shV Ai2 ni2 ci2 Al2 nl2 cl2) rfl rfl 25 _ (RowC.new _ _ _) (sizeSh _ _ _ _ _ _) rfl (one_sh _ _ _ _ _ _) ?_)
              | ((with_reducible show wpList _ _ _ (⟨some 56, _, _, _, _, _⟩ :: _) _ _); refine wpList_loadC (by kernel_rfl) 25 (.tmp 14) rfl (w2.heap.size) rfl 25 (shV Ai2 ni2 ci2 Al2 nl2 cl2) _ hr0 Try.underlying25 rfl (sizeSh _ _ _ _ _ _) ?_)
              | ((with_reducible show wpList _ _ _ (⟨none, Op.store 25 _ _, _, _, _, _⟩ :: _) _ _); refine wpList_store_row rfl 25 (.tmp 3) (.tmp 56) rfl w.heap.size (shV Ai2 ni2 ci2 Al2 nl2 cl2) rfl rfl 25 _ hr2 (sizeSh _ _ _ _ _ _) rfl (one_sh _ _ _ _ _ _) ?_))
            go_roundw
            case rel => exact ⟨j + 1, Ai2, ni2, ci2, Al2, nl2, cl2, ids2, ll2, by omega, by go_num, Hc2.out, Hrun2.out, HX4.out, HM4.out⟩
            case measure => simp [intOf]; omega
        · obtain rfl : j = nn := by omega
          have hdr : inn.drop j = [] := List.drop_of_length_le (by rw [Hil.out]; exact Nat.le_refl _)
          rw [hdr] at hrun
          have hr1 := hM.get 1 rfl
          have hr0 := hM.get 0 rfl
          have hX9 := hX.box (g := w.heap.size + 1) (by omega) (shV Ai ni ci Al nl cl)
          have hold := below_setRow (g := w.heap.size + 1) hb (by omega) (shV Ai ni ci Al nl cl)
          have HF := Lib.hid (HO.out _ Ai ni ci Al nl cl _ hrun rfl hold (by rw [size_setRowT]; exact hX9.sh))
          clear hrun hX hX9 hM hdr
          go_wp2_with (first
            | ((with_reducible show wpList _ _ _ (⟨some 58, _, _, _, _, _⟩ :: _) _ _); refine wpList_loadC (by kernel_rfl) 25 (.tmp 3) rfl w.heap.size rfl 25 (shV Ai ni ci Al nl cl) _ hr1 Try.underlying25 rfl (sizeSh _ _ _ _ _ _) ?_)
            | ((with_reducible show wpList _ _ _ (⟨none, Op.store 25 _ _, _, _, _, _⟩ :: _) _ _); refine wpList_store_row rfl 25 (.tmp 6) (.tmp 58) rfl (w.heap.size + 1) (shV Ai ni ci Al nl cl) rfl rfl 25 _ hr0 (sizeSh _ _ _ _ _ _) rfl (one_sh _ _ _ _ _ _) ?_))
          refine bodyPost_ret (results_cell_two rfl _ _ (w.heap.size + 1) 25 (shV Ai ni ci Al nl cl) _ rfl (hr0.row _) Try.underlying25 rfl (sizeSh _ _ _ _ _ _)) rfl ?_
          exact HF.out

end Go.Proofs.Ytmganbdbihjbmaa

