import Derived.Test.YtmganbdbihjbmaaG41
/-
  PLANS (layer 12): the steps of a way up, one behind the other, and what is beside it: pure facts.
-/
set_option linter.unusedVariables false
namespace Go.Proofs.Ytmganbdbihjbmaa

def wsteps (L : List RN) : List Nat → List SI
  | a :: b :: l => ⟨(b : Int), (a : Int), castL ((kidsN L b).filter fun k => k != a)⟩ :: wsteps L (b :: l)
  | _ => []
theorem wsteps_len (L : List RN) : ∀ P : List Nat, P ≠ [] → (wsteps L P).length + 1 = P.length
  | [], h => absurd rfl h
  | [a], _ => rfl
  | a :: b :: l, _ => by rw [wsteps, List.length_cons, wsteps_len L (b :: l) (by simp), List.length_cons (a := a)]
theorem wsteps_at (L : List RN) : ∀ (P : List Nat) (i : Nat) (hi : i + 1 < P.length), (wsteps L P)[i]? = some ⟨(P[i + 1] : Nat), (P[i] : Nat), castL ((kidsN L P[i + 1]).filter fun k => k != P[i])⟩
  | [], i, hi => by simp at hi
  | [a], i, hi => by simp at hi
  | a :: b :: l, 0, hi => rfl
  | a :: b :: l, i + 1, hi => by
    have := wsteps_at L (b :: l) i (by simpa using hi)
    rw [wsteps, List.getElem?_cons_succ, this]
    rfl
theorem wsteps_flat (L : List RN) : ∀ P : List Nat, ((wsteps L P).map SI.send).flatten = castL (besP L P)
  | [] => rfl
  | [a] => rfl
  | a :: b :: l => by
    rw [wsteps, List.map_cons, List.flatten_cons, wsteps_flat L (b :: l), besP_two]
    simp [castL]
theorem sendsT_cons (x : SI) (ss : List SI) : sendsT (x :: ss) = x.send.length + sendsT ss := by simp [sendsT]
theorem flat_len : ∀ ss : List SI, ((ss.map SI.send).flatten).length = sendsT ss
  | [] => rfl
  | x :: ss => by rw [List.map_cons, List.flatten_cons, List.length_append, flat_len ss, sendsT_cons]
theorem flat_at : ∀ (ss : List SI) (i : Nat) (x : SI) (t : Nat) (k : Int), ss[i]? = some x → x.send[t]? = some k → ((ss.map SI.send).flatten)[sendsT (ss.take i) + t]? = some k
  | [], i, x, t, k, h, _ => by simp at h
  | y :: ss, 0, x, t, k, h, hk => by
    have h := Option.some.inj h
    subst h
    have ht := (List.getElem?_eq_some_iff.1 hk).1
    rw [List.take_zero, show sendsT [] = 0 from rfl, Nat.zero_add, List.map_cons, List.flatten_cons, List.getElem?_append_left ht]
    exact hk
  | y :: ss, i + 1, x, t, k, h, hk => by
    have ih := flat_at ss i x t k (by simpa using h) hk
    rw [List.take_succ_cons, sendsT_cons, List.map_cons, List.flatten_cons, List.getElem?_append_right (by omega), show y.send.length + sendsT (ss.take i) + t - y.send.length = sendsT (ss.take i) + t by omega]
    exact ih
theorem sends_small : ∀ (ss : List SI), (∀ x ∈ ss, x.send.length ≤ 3) → sendsT ss ≤ 3 * ss.length
  | [], _ => Nat.le_refl _
  | x :: ss, h => by
    have := sends_small ss (fun y hy => h y (by simp [hy]))
    have := h x (by simp)
    rw [sendsT_cons, List.length_cons]
    omega
theorem steps_three {now : List RN} {kp : List Int} {at_ : Nat} (hk3 : ∀ x ∈ now, x.kids.length ≤ 3) : ∀ (i : Nat) (l : List RN), (∀ x ∈ l, x ∈ now) → ∀ s ∈ stepsT now kp at_ i l, s.send.length ≤ 3
  | i, [], _ => fun s hs => by simp [stepsT] at hs
  | i, x :: l, h => fun s hs => by
    have ih := steps_three (kp := kp) (at_ := at_) hk3 (i + 1) l (fun y hy => h y (by simp [hy])) s
    rw [stepsT] at hs
    split at hs
    · rcases List.mem_cons.1 hs with e | hs
      · subst e
        have h1 := stK_len (knownB now kp at_) x.kids
        have h2 := hk3 x (h x (by simp))
        simp only [stepT, castL_len]
        omega
      · exact ih hs
    · exact ih hs
theorem nf_three {kind : Int} {ids : List Int} {L : List RN} (hn : NF kind ids L) (hk : 1 ≤ kind) : ∀ x ∈ L, x.kids.length ≤ 3 := fun x hx => by
  have h1 := (hn.ok x hx).2.1
  omega
theorem way_wsteps {kind : Int} {ids : List Int} {L : List RN} {p : Nat} {P : List Nat} (hn : NF kind ids L) (hW : WayF L p P) (hp : p < ids.length) : stepsT L (keepT L ids (lfT L ids [] (ids.getD p 0)) L) p 0 L = wsteps L P := by
  obtain ⟨h1, h2⟩ := way_steps hn hW hp
  obtain ⟨a, t, x, e, _⟩ := hW.first
  have hP : P ≠ [] := by rw [e]; simp
  have h3 := wsteps_len L P hP
  apply List.ext_getElem?
  intro i
  rcases Nat.lt_or_ge (i + 1) P.length with hi | hi
  · rw [h2 i hi, wsteps_at L P i hi]
  · rw [List.getElem?_eq_none (by omega), List.getElem?_eq_none (by omega)]

end Go.Proofs.Ytmganbdbihjbmaa

