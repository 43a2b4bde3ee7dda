import Derived.Test.YtmganbdbihjbmaaK38
/-
  WHAT RedWays (coterielaw11) ASKS OF A WAY AND OF WHAT IS BESIDE IT: pure facts.
-/
set_option linter.unusedVariables false
namespace Go.Proofs.Ytmganbdbihjbmaa
open Go.RowKit

structure WaysF (L : List RN) (n p : Nat) (P B : List Nat) : Prop where
  way : ∀ (i : Nat) (hi : i < P.length), ∃ y, L[P[i]]? = some y ∧ y.fr ≤ p ∧ p < y.to ∧ (i = 0 → y.lev = 0)
  up : ∀ (i : Nat) (hi : i + 1 < P.length), ∃ z, L[P[i]]? = some z ∧ z.up = (P[i + 1] : Nat)
  some_ : 0 < P.length
  last : ∀ (hi : P.length - 1 < P.length), P[P.length - 1] = L.length - 1
  top : 0 < L.length ∧ ∃ y, L[L.length - 1]? = some y ∧ y.up = -1
  bes : ∀ k ∈ B, ∃ y, L[k]? = some y
  cover : ∀ i, (if i = p then 1 else 0) + cov L i B = onI 0 n i
theorem besP_mem (L : List RN) : ∀ (P : List Nat) (k : Nat), k ∈ besP L P → ∃ b, k ∈ kidsN L b
  | [], k, h => by simp [besP] at h
  | [a], k, h => by simp [besP] at h
  | a :: b :: l, k, h => by
    rw [besP_two, List.mem_append, List.mem_filter] at h
    rcases h with h | h
    · exact ⟨b, h.1⟩
    · exact besP_mem L (b :: l) k h
theorem ways_facts {kind : Int} {ids : List Int} {ll : List (List Int)} {T : RT} (hT : TopF kind ids ll T) {p : Nat} (hp : p < ids.length) :
    WaysF (T.flat 0 (-1)) ids.length p (T.path 0 p) (besP (T.flat 0 (-1)) (T.path 0 p)) := by
  have hW := way_top hT hp
  have hk := kid_top hT
  have h1 : T.fr ≤ p := by rw [hT.fr]; omega
  have h2 : p < T.to := by rw [hT.to_]; exact hp
  have hb := RT.bes T [] [] (-1) p hT.ok h1 h2
  have hc := RT.cover T [] [] (-1) p hT.ok h1 h2
  simp only [List.length_nil, List.nil_append, List.append_nil] at hb hc
  rw [hT.fr, hT.to_, ← hb] at hc
  generalize T.path 0 p = P at *
  generalize T.flat 0 (-1) = L at *
  obtain ⟨a, t, x, e1, e2, e3, _⟩ := hW.first
  have hP0 : 0 < P.length := by rw [e1]; simp
  have hl := hW.last
  rw [List.getLast?_eq_getElem?, List.getElem?_eq_getElem (by omega)] at hl
  have hl := Option.some.inj hl
  refine ⟨fun i hi => ?_, fun i hi => ?_, hP0, fun _ => hl, ?_, fun k hk' => ?_, hc⟩
  · obtain ⟨y, h3, h4⟩ := hW.has _ (List.getElem_mem hi)
    rw [hasP, Bool.and_eq_true, decide_eq_true_eq, decide_eq_true_eq] at h4
    refine ⟨y, h3, h4.1, h4.2, fun e => ?_⟩
    subst e
    have e4 : P[0] = a := by simp [e1]
    rw [e4, e2] at h3
    rw [← Option.some.inj h3]
    exact e3
  · obtain ⟨z, h3, h4⟩ := chainP_at L (-1) P i hW.chain (by omega)
    refine ⟨z, h3, ?_⟩
    rw [h4, List.drop_eq_getElem_cons hi]
    rfl
  · obtain ⟨z, h3, h4⟩ := chainP_at L (-1) P (P.length - 1) hW.chain (by omega)
    rw [hl] at h3
    refine ⟨by have := (List.getElem?_eq_some_iff.1 h3).1; omega, z, h3, ?_⟩
    rw [h4, List.drop_eq_nil_of_le (by omega)]
    rfl
  · obtain ⟨b, h3⟩ := besP_mem L P k hk'
    rw [kidsN] at h3
    cases hx : L[b]? with
    | none => rw [hx] at h3; simp at h3
    | some x =>
      rw [hx] at h3
      obtain ⟨y, h4, _⟩ := (hk b x hx).2.1 k (by simpa using h3)
      exact ⟨y, h4⟩
/-- one more member of the list that is covered -/
theorem cov_take {L : List RN} {B : List Nat} {j : Nat} (hj : j < B.length) {x : RN} (hx : L[B[j]]? = some x) (i : Nat) : cov L i (B.take (j + 1)) = cov L i (B.take j) + onI x.fr x.to i := by
  rw [List.take_succ_eq_append_getElem hj, cov_append, cov_one hx]
theorem cov_mono (L : List RN) (i : Nat) (B : List Nat) (j : Nat) : cov L i (B.take j) ≤ cov L i B := by
  have h := cov_append L i (B.take j) (B.drop j)
  rw [List.take_append_drop] at h
  omega
theorem WaysF.in_ {L : List RN} {n p : Nat} {P B : List Nat} (h : WaysF L n p P B) {j : Nat} (hj : j < B.length) {x : RN} (hx : L[B[j]]? = some x) {i : Nat} (h1 : x.fr ≤ i) (h2 : i < x.to) : i < n := by
  have h3 := cov_take hj hx i
  have h4 := cov_mono L i B (j + 1)
  have h5 := h.cover i
  rw [onI, if_pos ⟨h1, h2⟩] at h3
  rw [onI] at h5
  rcases Nat.lt_or_ge i n with h | h
  · exact h
  · rw [if_neg (show ¬ (0 ≤ i ∧ i < n) by omega)] at h5
    omega
theorem WaysF.few {L : List RN} {n p : Nat} {P B : List Nat} (h : WaysF L n p P B) (i j : Nat) : (if i = p then 1 else 0) + cov L i (B.take j) ≤ 1 := by
  have h4 := cov_mono L i B j
  have h5 := h.cover i
  have h6 : onI 0 n i ≤ 1 := by
    unfold onI
    split <;> omega
  omega
theorem onI_step {a q : Nat} (h : a ≤ q) (i : Nat) : onI a (q + 1) i = onI a q i + if i = q then 1 else 0 := by
  unfold onI
  split <;> split <;> split <;> omega
theorem onI_none (a i : Nat) : onI a a i = 0 := by
  unfold onI
  split <;> omega

end Go.Proofs.Ytmganbdbihjbmaa

