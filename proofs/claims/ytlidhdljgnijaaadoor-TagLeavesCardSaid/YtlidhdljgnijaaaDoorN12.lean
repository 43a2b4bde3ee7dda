import Derived.Test.YtlidhdljgnijaaaDoorN11
/-
  CONTRACTS of the document's Insert and Delete (coterieref10).
-/
set_option linter.unusedVariables false
namespace Go.Proofs.YtlidhdljgnijaaaDoor
open Go.RowKit

theorem ShR.nil (w : World) (B : Nat) : ShR w B none 0 0 none 0 0 [] [] := ⟨rfl, rfl, Nat.le_refl _, Nat.le_refl _, by simp [maxLen], by simp [maxLen], Rd.zero _ _ _, [], Rd.zero _ _ _, Lvs.nil _ _⟩
theorem lv_high {ids : List Int} {ll : List (List Int)} (hc : chkT ids ll = true) : (lvN ll).length ≤ 10 := by
  obtain ⟨h1, _, h3, _⟩ := chkT_lv hc
  rcases Nat.eq_zero_or_pos ids.length with h0 | h0
  · rw [h0] at h3
    match hl : lvN ll, h3 with
    | [], _ => simp
    | l :: ls, h3 =>
      have := h3.1
      omega
  · have h := lvOK_high _ _ h3 h0
    rcases Nat.lt_or_ge 10 (lvN ll).length with h2 | h2
    · have := Nat.pow_le_pow_right (show 0 < 2 by omega) h2
      omega
    · exact h2
end Go.Proofs.YtlidhdljgnijaaaDoor

/-
  CONTRACT of the document's Delete (coterieref10).
-/
set_option linter.unusedVariables false
namespace Go.Proofs.YtlidhdljgnijaaaDoor
open Go.RowKit

end Go.Proofs.YtlidhdljgnijaaaDoor

/-
  TREES THAT MAY BE: what is inserted into one, and deleted from one, makes one; members that rise.
-/
set_option linter.unusedVariables false
namespace Go.Proofs.YtlidhdljgnijaaaDoor

theorem levI_lvN {ll : List (List Int)} (h : ∀ l ∈ ll, in23 l = true) : levI (lvN ll) = ll := by
  rw [lvN, levI, List.map_map]
  conv => rhs; rw [← List.map_id ll]
  apply List.map_congr_left
  intro l hl
  have h1 := h l hl
  simp only [Function.comp, natL, List.map_map]
  conv => rhs; rw [id, ← List.map_id l]
  apply List.map_congr_left
  intro n hn
  rw [in23, List.all_eq_true] at h1
  have := h1 n hn
  simp only [Bool.or_eq_true, decide_eq_true_eq] at this
  simp only [Function.comp, id]
  omega
theorem okI_mem {ids : List Int} (h : okI ids = true) : ∀ x ∈ ids, 0 ≤ x ∧ x ≤ 1048576 := by
  intro x hx
  obtain ⟨i, hi, rfl⟩ := List.mem_iff_getElem.1 hx
  exact ⟨(okI_at h hi).1, (okI_at h hi).2.1⟩
theorem isT_mem {ids : List Int} {id : Int} : isT ids id = true ↔ id ∈ ids := by
  rw [isT, List.any_eq_true]
  constructor
  · rintro ⟨z, h1, h2⟩
    have : z = id := by simpa using h2
    exact this ▸ h1
  · exact fun h => ⟨id, h, by simp⟩
theorem lvOK_len : ∀ (lv : List (List Nat)) (many : Nat), lvOK many lv → ∀ l ∈ lv, l.length ≤ many
  | [], _, _, l, hl => by simp at hl
  | x :: ls, many, ⟨h1, h2, h3, h4⟩, l, hl => by
    have h5 := two3_len h2
    rcases List.mem_cons.1 hl with rfl | hl
    · omega
    · have := lvOK_len ls _ h4 l hl
      omega
theorem few_of_chk {ids : List Int} {ll : List (List Int)} (h : chkT ids ll = true) : fewT ids ll = true := by
  obtain ⟨c1, c2, c3, c4⟩ := chkT_lv h
  have h10 := lv_high h
  rw [lvN, List.length_map] at h10
  rw [fewT, Bool.and_eq_true, Bool.and_eq_true, List.all_eq_true, decide_eq_true_eq, decide_eq_true_eq]
  refine ⟨fun l hl => ?_, by omega, by omega⟩
  rw [decide_eq_true_eq]
  have := lvOK_len _ _ c3 (natL l) (List.mem_map.2 ⟨l, hl, rfl⟩)
  rw [natL, List.length_map] at this
  omega
theorem few_len {ids : List Int} {ll : List (List Int)} (h : fewT ids ll = true) : (∀ l ∈ ll, l.length ≤ 1100) ∧ ids.length ≤ 1100 ∧ ll.length ≤ 20 := by
  rw [fewT, Bool.and_eq_true, Bool.and_eq_true, List.all_eq_true, decide_eq_true_eq, decide_eq_true_eq] at h
  exact ⟨fun l hl => by have := h.1 l hl; rwa [decide_eq_true_eq] at this, h.2.1, h.2.2⟩

end Go.Proofs.YtlidhdljgnijaaaDoor

/-
  CONTRACT of the document's Build (coterieref10).
-/
set_option linter.unusedVariables false
namespace Go.Proofs.YtlidhdljgnijaaaDoor
open Go.RowKit

theorem few_million {ids : List Int} {ll : List (List Int)} (h : fewT ids ll = true) : ∀ l ∈ ll, l.length ≤ 1000000 := fun l hl => by
  have := (few_len h).1 l hl
  omega

end Go.Proofs.YtlidhdljgnijaaaDoor

/-
  CONTRACT of the document's Copy (coterieref10).
-/
set_option linter.unusedVariables false
namespace Go.Proofs.YtlidhdljgnijaaaDoor
open Go.RowKit

/-- where lists lie: from lo on, below hi, in no row's block -/
def LvD (lo hi : Nat) (row : Option Nat) (vs : List Value) : Prop := ∀ v ∈ vs, ∀ A n c, v = .slice A n c → ∀ ad, A = some ad → lo ≤ ad.block ∧ ad.block < hi ∧ row ≠ some ad.block
theorem LvD.new {lo hi : Nat} {row : Option Nat} {vs : List Value} (h : LvD lo hi row vs) : NewVs lo vs := fun v hv A n c e ad had => (h v hv A n c e ad had).1
theorem Rd.grownD {w w' : World} {row : Option Nat} {B n : Nat} {A : Option Addr} {xs : List Value} (h : Rd w B A n xs) (hg : w.grownBy w' row) (hB : B ≤ w.heap.size) (hne : ∀ ad, A = some ad → row ≠ some ad.block) : Rd w' B A n xs := by
  refine ⟨h.len, fun h0 => ?_⟩
  obtain ⟨b, o, h1, h2, h3⟩ := h.pos h0
  refine ⟨b, o, h1, h2, fun j u hu => ?_⟩
  rw [← h3 j u hu]
  exact World.cell?_of_block (hg.block b (by omega) (fun e => hne _ h1 e.symm))
theorem Lvs.keepD {w w' : World} {B B' : Nat} {vs : List Value} {ll : List (List Int)} (h : Lvs w B vs ll) (hk : ∀ v ∈ vs, ∀ A n c xs, v = .slice A n c → Rd w B A n xs → Rd w' B' A n xs) : Lvs w' B' vs ll :=
  ⟨h.1, fun i v l hv hl => by
    obtain ⟨A, c, e, hc, hm, hr⟩ := h.2 i v l hv hl
    exact ⟨A, c, e, hc, hm, hk v (List.mem_of_getElem? hv) A _ _ _ e hr⟩⟩
theorem Lvs.snoc {w : World} {B : Nat} {vs : List Value} {ll : List (List Int)} {A : Option Addr} {c : Nat} {l : List Int} (h : Lvs w B vs ll) (hc : l.length ≤ c) (hm : c ≤ maxLen) (hr : Rd w B A l.length (l.map iv)) : Lvs w B (vs ++ [.slice A l.length c]) (ll ++ [l]) := by
  refine ⟨by simp [h.1], fun i v k hv hk => ?_⟩
  rcases Nat.lt_or_ge i vs.length with hi | hi
  · rw [List.getElem?_append_left hi] at hv
    rw [List.getElem?_append_left (by rw [← h.1]; exact hi)] at hk
    exact h.2 i v k hv hk
  · have hi' : i = vs.length := by
      have := (List.getElem?_eq_some_iff.1 hv).1
      simp at this
      omega
    subst hi'
    rw [List.getElem?_append_right (Nat.le_refl _), Nat.sub_self] at hv
    rw [h.1, List.getElem?_append_right (Nat.le_refl _), Nat.sub_self] at hk
    simp at hv hk
    subst hv hk
    exact ⟨A, c, rfl, hc, hm, hr⟩
theorem Rd.setCellN {w : World} {g i lo : Nat} (hg : g < lo) (u : Value) {B n : Nat} {A : Option Addr} {xs : List Value} (h : Rd w B A n xs) (hn : NewA lo A) : Rd (w.setCell ⟨g, i, none⟩ u) B A n xs := by
  refine ⟨h.len, fun h0 => ?_⟩
  obtain ⟨b, o, h1, h2, h3⟩ := h.pos h0
  refine ⟨b, o, h1, h2, fun j v hv => ?_⟩
  rw [← h3 j v hv]
  have hlb : lo ≤ b := hn _ h1
  exact World.cell?_of_block (Below.heap_setCell w ⟨g, i, none⟩ u b (show b ≠ g by omega))

end Go.Proofs.YtlidhdljgnijaaaDoor

/-
  WHAT LAYER 10's CALLS OF THE PROGRAM ANSWER, as hypotheses of the walks, and the walk of the laws' live (coterielaw10).
-/
set_option linter.unusedVariables false
namespace Go.Proofs.YtlidhdljgnijaaaDoor
open Go.RowKit

end Go.Proofs.YtlidhdljgnijaaaDoor

/-
  THE WALK of TreeNear (coterielaw10), over what the program's calls answer; what Insert and Delete answer, as one shape.
-/
set_option linter.unusedVariables false
namespace Go.Proofs.YtlidhdljgnijaaaDoor
open Go.RowKit

end Go.Proofs.YtlidhdljgnijaaaDoor

/-
  THE WALK of TreeBack (coterielaw10), over what the program's calls answer.
-/
set_option linter.unusedVariables false
namespace Go.Proofs.YtlidhdljgnijaaaDoor
open Go.RowKit

end Go.Proofs.YtlidhdljgnijaaaDoor

/-
  Build in whatever order (pure).
-/
set_option linter.unusedVariables false
namespace Go.Proofs.YtlidhdljgnijaaaDoor
open Go.RowKit

end Go.Proofs.YtlidhdljgnijaaaDoor

/-
  THE WALK of TreeOrder (coterielaw10), over what the program's calls answer.
-/
set_option linter.unusedVariables false
namespace Go.Proofs.YtlidhdljgnijaaaDoor
open Go.RowKit

end Go.Proofs.YtlidhdljgnijaaaDoor

/-
  THE WALK of TreeSpans (coterielaw10), over what the program's calls answer.
-/
set_option linter.unusedVariables false
namespace Go.Proofs.YtlidhdljgnijaaaDoor
open Go.RowKit

end Go.Proofs.YtlidhdljgnijaaaDoor

/-
  A WORLD IN WHICH ONLY NUMBERS OF NEW BLOCKS CHANGED (for TreeDoes, which counts up in what Insert and Delete told).
-/
set_option linter.unusedVariables false
namespace Go.Proofs.YtlidhdljgnijaaaDoor
open Go.RowKit

def isI (v : Value) : Prop := ∃ x, v = .int .i64 x
/-- a block of cells of which no string shares a byte -/
def thawed (w : World) (b : Nat) : Prop := ∃ cs t, w.heap[b]? = some (.cells cs t (0, 0))
theorem thawed.free {w : World} {b : Nat} (h : thawed w b) (j : Nat) : w.frozen? ⟨b, j, none⟩ = false := by
  obtain ⟨cs, t, h⟩ := h
  exact frozen_of_row w b j _ t h
structure Mut (lo : Nat) (w0 w : World) : Prop where
  low : Below lo w0 w
  non : ∀ ad v, w0.cell? ad = some v → ¬ isI v → w.cell? ad = some v
  int : ∀ ad v, w0.cell? ad = some v → isI v → ∃ x, w.cell? ad = some (.int .i64 x)
  froz : ∀ b, thawed w0 b → thawed w b
theorem Mut.refl (lo : Nat) (w : World) : Mut lo w w := ⟨Below.refl _ _, fun _ _ h _ => h, fun _ _ h ⟨x, e⟩ => ⟨x, e ▸ h⟩, fun _ h => h⟩
theorem Mut.trans {lo : Nat} {a b c : World} (h : Mut lo a b) (h' : Mut lo b c) : Mut lo a c :=
  ⟨h.low.trans h'.low, fun ad v hv hn => h'.non ad v (h.non ad v hv hn) hn, fun ad v hv hi => by
    obtain ⟨x, hx⟩ := h.int ad v hv hi
    exact h'.int ad _ hx ⟨x, rfl⟩, fun b hb => h'.froz b (h.froz b hb)⟩
theorem Mut.set {lo : Nat} {a w : World} (h : Mut lo a w) {p : Addr} {x : Int} (hc : w.cell? p = some (.int .i64 x)) (hl : lo ≤ p.block) (y : Int) : Mut lo a (w.setCell p (.int .i64 y)) := by
  refine h.trans ⟨(Below.refl _ _).setCell hl _, fun ad v hv hn => ?_, fun ad v hv hi => ?_, fun b ⟨cs, t, hb⟩ => ?_⟩
  · rw [World.cell?_setCell_other _ _ _ _ (fun e => hn ⟨x, by rw [← e, hc] at hv; injection hv with hv; exact hv.symm⟩), hv]
  · by_cases e : p = ad
    · subst e
      exact ⟨y, World.cell?_setCell_same _ _ _ hc⟩
    · obtain ⟨z, rfl⟩ := hi
      exact ⟨z, by rw [World.cell?_setCell_other _ _ _ _ e, hv]⟩
  · by_cases e : b = p.block
    · subst e
      unfold thawed World.setCell
      simp only [Array.getElem?_modify, hb]
      by_cases hs : p.spot.isSome = true
      · exact ⟨cs, t, by simp [hs]⟩
      · exact ⟨cs.setIfInBounds p.off (.int .i64 y), t, by simp [hs]⟩
    · exact ⟨cs, t, by rw [Below.heap_setCell w p _ b e, hb]⟩
/-- numbers that may be counted up -/
def IntsM (lo : Nat) (w : World) (A : Option Addr) (n : Nat) : Prop := ∀ j, j < n → ∃ b o, A = some ⟨b, o, none⟩ ∧ lo ≤ b ∧ thawed w b ∧ ∃ x, w.cell? ⟨b, o + j, none⟩ = some (.int .i64 x)
theorem IntsM.of {lo : Nat} {w : World} {B : Nat} {A : Option Addr} {n : Nat} {l : List Int} (hr : Rd w B A n (l.map iv)) (hn : NewA lo A) (ht : ∀ ad, A = some ad → thawed w ad.block) : IntsM lo w A n := fun j hj => by
  obtain ⟨b, o, rfl, h2, h3⟩ := hr.pos (by omega)
  have hl : l.length = n := by simpa using hr.len
  exact ⟨b, o, rfl, hn _ rfl, ht _ rfl, l[j]'(by omega), h3 j _ (by rw [List.getElem?_map, List.getElem?_eq_getElem (by omega)]; rfl)⟩
end Go.Proofs.YtlidhdljgnijaaaDoor

