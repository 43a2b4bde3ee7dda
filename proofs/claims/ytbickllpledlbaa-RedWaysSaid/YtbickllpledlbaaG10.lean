import Derived.Test.YtbickllpledlbaaG09
/-
  A MEMBER FEWER: nodes out of which one was taken have the levels without an item.
-/
set_option linter.unusedVariables false
namespace Go.Proofs.Ytbickllpledlbaa

theorem without_kids {h : Nat} {x : Nd} (hx : Nd.hi (h + 1) x) (id : Int) : ∃ p y s, x.kids = p ++ y :: s ∧ withoutN x id = outN p y (withoutN y id) s ∧ (p ≠ [] → y.first ≤ id) ∧ ∀ z ∈ s, ¬ z.first ≤ id := by
  cases x with
  | leaf i => exact absurd hx (by simp [Nd.hi])
  | one a => exact absurd hx (by simp [Nd.hi])
  | two a b =>
    by_cases h1 : b.first ≤ id
    · exact ⟨[a], b, [], rfl, by rw [withoutN, if_pos h1], fun _ => h1, by simp⟩
    · exact ⟨[], a, [b], rfl, by rw [withoutN, if_neg h1], by simp, by simpa using h1⟩
  | three a b c =>
    by_cases h1 : c.first ≤ id
    · exact ⟨[a, b], c, [], rfl, by rw [withoutN, if_pos h1], fun _ => h1, by simp⟩
    · by_cases h2 : b.first ≤ id
      · exact ⟨[a], b, [c], rfl, by rw [withoutN, if_neg h1, if_pos h2], fun _ => h2, by simpa using h1⟩
      · refine ⟨[], a, [b, c], rfl, by rw [withoutN, if_neg h1, if_neg h2], by simp, fun z hz => ?_⟩
        simp only [List.mem_cons, List.not_mem_nil, or_false] at hz
        rcases hz with rfl | rfl
        · exact h2
        · exact h1
theorem ofKids_kids {l : List Nd} (hl : l.length = 1 ∨ l.length = 2 ∨ l.length = 3) : (ofKids l).kids = l := by
  match l, hl with
  | [a], _ => rfl
  | [a, b], _ => rfl
  | [a, b, c], _ => rfl
theorem levF_two3 : ∀ (h : Nat) (F : List Nd), allH h F → ∀ x ∈ levF h F, two3 x
  | 0, F, _, x, hx => by simp [levF] at hx
  | h + 1, F, ha, x, hx => by
    rw [levF, List.mem_append] at hx
    rcases hx with hx | hx
    · exact levF_two3 h _ (allH_kids ha) x hx
    · simp only [List.mem_singleton] at hx
      rw [hx]
      exact lens_two3 ha
theorem erase_mid {α : Type} (p : List α) (y : α) (s : List α) : (p ++ y :: s).eraseIdx p.length = p ++ s := by
  rw [List.eraseIdx_append_of_length_le (Nat.le_refl _)]
  simp
theorem getD_mid (p : List Nat) (y : Nat) (s : List Nat) : (p ++ y :: s).getD p.length 0 = y := by rw [List.getD_eq_getElem?_getD, get_mid]; rfl
theorem leaf_kids {x : Nd} {F : List Nd} (h : allH 0 F) (hx : x ∈ F) : x.kids.length = 0 := by
  obtain ⟨i, rfl⟩ := hi_zero (h x hx)
  rfl
/-- the kids of a mended list are the kids that were there -/
theorem mend_kids {h : Nat} {p : List Nd} {y : Nd} {s : List Nd} (hp : allH (h + 1) p) (hs : allH (h + 1) s) (hy : y.kids.length = 1) (hya : allH h y.kids) (hne : 0 < p.length + s.length) :
    kidsF (mendN p y s) = kidsF (p ++ y :: s) ∧ allH (h + 1) (mendN p y s) ∧
    (∀ p' o, p = p' ++ [o] → o.kids.length = 3 → lensF (mendN p y s) = lensF p' ++ 2 :: 2 :: lensF s) ∧ (∀ p' o, p = p' ++ [o] → o.kids.length ≠ 3 → lensF (mendN p y s) = lensF p' ++ 3 :: lensF s) ∧
    (∀ o s', p = [] → s = o :: s' → o.kids.length = 3 → lensF (mendN p y s) = 2 :: 2 :: lensF s') ∧ (∀ o s', p = [] → s = o :: s' → o.kids.length ≠ 3 → lensF (mendN p y s) = 3 :: lensF s') := by
  obtain ⟨z, hz⟩ : ∃ z, y.kids = [z] := by
    match hyk : y.kids, hy with
    | [z], _ => exact ⟨z, rfl⟩
  have hzh : Nd.hi h z := hya z (by rw [hz]; simp)
  rcases List.eq_nil_or_concat p with rfl | ⟨p', o, rfl⟩
  · match s, hne with
    | o :: s', _ =>
      have ho := hs o (by simp)
      obtain ⟨o1, o2, _, _⟩ := hi_succ ho
      have hs' : allH (h + 1) s' := fun x hx => hs x (by simp [hx])
      by_cases h3 : o.kids.length = 3
      · have e : mendN [] y (o :: s') = ofKids (y.kids ++ o.kids.take 1) :: ofKids (o.kids.drop 1) :: s' := by
          show (if o.kids.length = 3 then _ else _) = _
          rw [if_pos h3]
        obtain ⟨q1, q2⟩ := ofKids_hi (l := y.kids ++ o.kids.take 1) (.inl (by rw [List.length_append, List.length_take]; omega)) (fun x hx => by
          rcases List.mem_append.1 hx with hx | hx
          · exact hya x hx
          · exact o2 x (List.mem_of_mem_take hx))
        obtain ⟨q3, q4⟩ := ofKids_hi (l := o.kids.drop 1) (.inl (by rw [List.length_drop]; omega)) (fun x hx => o2 x (List.mem_of_mem_drop hx))
        rw [e]
        refine ⟨?_, ?_, ?_, ?_, ?_, ?_⟩
        · rw [kidsF_cons, kidsF_cons, q2, q4, List.nil_append, kidsF_cons, kidsF_cons, List.append_assoc, ← List.append_assoc (o.kids.take 1), List.take_append_drop]
        · intro x hx
          simp only [List.mem_cons] at hx
          rcases hx with rfl | rfl | hx
          · exact q1
          · exact q3
          · exact hs' x hx
        · intro p' o' hpp
          simp at hpp
        · intro p' o' hpp
          simp at hpp
        · intro o' s'' _ hss h3'
          injection hss with e1 e2
          subst e1 e2
          rw [lensF_cons, lensF_cons, q2, q4, List.length_append, List.length_take, List.length_drop, hy, h3]
          rfl
        · intro o' s'' _ hss h3'
          injection hss with e1 e2
          subst e1
          exact absurd h3 h3'
      · have e : mendN [] y (o :: s') = ofKids (y.kids ++ o.kids) :: s' := by
          show (if o.kids.length = 3 then _ else _) = _
          rw [if_neg h3]
        obtain ⟨q1, q2⟩ := ofKids_hi (l := y.kids ++ o.kids) (.inr (by rw [List.length_append]; omega)) (fun x hx => by
          rcases List.mem_append.1 hx with hx | hx
          · exact hya x hx
          · exact o2 x hx)
        rw [e]
        refine ⟨?_, ?_, ?_, ?_, ?_, ?_⟩
        · rw [kidsF_cons, q2, List.nil_append, kidsF_cons, kidsF_cons, List.append_assoc]
        · intro x hx
          simp only [List.mem_cons] at hx
          rcases hx with rfl | hx
          · exact q1
          · exact hs' x hx
        · intro p' o' hpp
          simp at hpp
        · intro p' o' hpp
          simp at hpp
        · intro o' s'' _ hss h3'
          injection hss with e1 e2
          subst e1
          exact absurd h3' h3
        · intro o' s'' _ hss h3'
          injection hss with e1 e2
          subst e1 e2
          rw [lensF_cons, q2, List.length_append, hy, show o.kids.length = 2 by omega]
  · rw [List.concat_eq_append] at hp ⊢
    have ho := hp o (by simp)
    obtain ⟨o1, o2, _, _⟩ := hi_succ ho
    have hp' : allH (h + 1) p' := fun x hx => hp x (by simp [hx])
    have hrev : (p' ++ [o]).reverse = o :: p'.reverse := by simp
    by_cases h3 : o.kids.length = 3
    · have e : mendN (p' ++ [o]) y s = p' ++ ofKids (o.kids.take 2) :: ofKids (o.kids.drop 2 ++ y.kids) :: s := by
        rw [mendN.eq_def, hrev]
        show (if o.kids.length = 3 then _ else _) = _
        rw [if_pos h3, List.reverse_reverse]
      obtain ⟨q1, q2⟩ := ofKids_hi (l := o.kids.take 2) (.inl (by rw [List.length_take]; omega)) (fun x hx => o2 x (List.mem_of_mem_take hx))
      obtain ⟨q3, q4⟩ := ofKids_hi (l := o.kids.drop 2 ++ y.kids) (.inl (by rw [List.length_append, List.length_drop]; omega)) (fun x hx => by
        rcases List.mem_append.1 hx with hx | hx
        · exact o2 x (List.mem_of_mem_drop hx)
        · exact hya x hx)
      rw [e]
      refine ⟨?_, ?_, ?_, ?_, ?_, ?_⟩
      · rw [kidsF_app, kidsF_cons, kidsF_cons, q2, q4, kidsF_app, kidsF_app, kidsF_cons, kidsF_cons, show kidsF [] = [] from rfl, List.append_nil, List.append_assoc (o.kids.drop 2), ← List.append_assoc (o.kids.take 2), List.take_append_drop, List.append_assoc]
      · intro x hx
        rcases List.mem_append.1 hx with hx | hx
        · exact hp' x hx
        · simp only [List.mem_cons] at hx
          rcases hx with rfl | rfl | hx
          · exact q1
          · exact q3
          · exact hs x hx
      · intro p'' o' hpp _
        obtain ⟨e1, e2⟩ := List.append_inj' hpp rfl
        injection e2 with e2
        subst e1 e2
        rw [lensF_app, lensF_cons, lensF_cons, q2, q4, List.length_append, List.length_take, List.length_drop, hy, h3]
        rfl
      · intro p'' o' hpp h3'
        obtain ⟨e1, e2⟩ := List.append_inj' hpp rfl
        injection e2 with e2
        subst e2
        exact absurd h3 h3'
      · intro o' s' hpp
        simp at hpp
      · intro o' s' hpp
        simp at hpp
    · have e : mendN (p' ++ [o]) y s = p' ++ ofKids (o.kids ++ y.kids) :: s := by
        rw [mendN.eq_def, hrev]
        show (if o.kids.length = 3 then _ else _) = _
        rw [if_neg h3, List.reverse_reverse]
      obtain ⟨q1, q2⟩ := ofKids_hi (l := o.kids ++ y.kids) (.inr (by rw [List.length_append]; omega)) (fun x hx => by
        rcases List.mem_append.1 hx with hx | hx
        · exact o2 x hx
        · exact hya x hx)
      rw [e]
      refine ⟨?_, ?_, ?_, ?_, ?_, ?_⟩
      · rw [kidsF_app, kidsF_cons, q2, kidsF_app, kidsF_app, kidsF_cons, kidsF_cons, show kidsF [] = [] from rfl, List.append_nil, List.append_assoc, List.append_assoc]
      · intro x hx
        rcases List.mem_append.1 hx with hx | hx
        · exact hp' x hx
        · simp only [List.mem_cons] at hx
          rcases hx with rfl | hx
          · exact q1
          · exact hs x hx
      · intro p'' o' hpp h3'
        obtain ⟨e1, e2⟩ := List.append_inj' hpp rfl
        injection e2 with e2
        subst e2
        exact absurd h3' h3
      · intro p'' o' hpp _
        obtain ⟨e1, e2⟩ := List.append_inj' hpp rfl
        injection e2 with e2
        subst e1 e2
        rw [lensF_app, lensF_cons, q2, List.length_append, hy, show o.kids.length = 2 by omega]
      · intro o' s' hpp
        simp at hpp
      · intro o' s' hpp
        simp at hpp

theorem ids_le {x : Nd} (hs : x.ids.Pairwise (· < ·)) {v : Int} (hv : v ∈ x.ids) : x.first ≤ v := first_le hs hv
theorem erase_ids {E L : List Int} {i : Int} (hE : ∀ v ∈ E, v < i) (hL : ∀ v ∈ L, ¬ v < i) : belT (E ++ i :: L) i = E.length ∧ (E ++ i :: L).eraseIdx (belT (E ++ i :: L) i) = E ++ L := by
  have hb : belT (E ++ i :: L) i = E.length := by
    rw [bel_app, bel_all hE, bel_none (fun v hv => by
      rcases List.mem_cons.1 hv with rfl | hv
      · omega
      · exact hL v hv)]
    rfl
  exact ⟨hb, by rw [hb, erase_mid]⟩

theorem without_main : ∀ (h : Nat) (P : List Nd) (x : Nd) (S : List Nd) (id : Int), allH (h + 1) (P ++ x :: S) → (idsF (P ++ x :: S)).Pairwise (· < ·) → (P ≠ [] → x.first ≤ id) → (∀ z ∈ S, ¬ z.first ≤ id) → id ∈ idsF (P ++ x :: S) →
    ∃ ys, withoutN x id = ofKids ys ∧ (ys.length = x.kids.length ∨ ys.length + 1 = x.kids.length) ∧ allH h ys ∧ topT (levF (h + 1) (P ++ x :: S)) (belT (idsF (P ++ x :: S)) id) = P.length ∧
      levF h (kidsF P ++ ys ++ kidsF S) ++ [lensF P ++ ys.length :: lensF S] = delM (levF (h + 1) (P ++ x :: S)) (belT (idsF (P ++ x :: S)) id) ∧
      idsF (kidsF P ++ ys ++ kidsF S) = (idsF (P ++ x :: S)).eraseIdx (belT (idsF (P ++ x :: S)) id)
  | 0, P, x, S, id, ha, hs, hP, hS, hid => by
    have hx := ha x (by simp)
    obtain ⟨p, y, s, hk, hw, hp, hsn⟩ := without_kids hx id
    obtain ⟨hx1, hx2, _, _⟩ := hi_succ hx
    have hK : kidsF (P ++ x :: S) = (kidsF P ++ p) ++ y :: (s ++ kidsF S) := by rw [kidsF_app, kidsF_cons, hk]; simp
    have hids := idsF_kids ha
    have hKa : allH 0 ((kidsF P ++ p) ++ y :: (s ++ kidsF S)) := by rw [← hK]; exact allH_kids ha
    obtain ⟨i, rfl⟩ := hi_zero (hKa y (by simp))
    have hlen : x.kids.length = p.length + 1 + s.length := by rw [hk]; simp; omega
    have hw2 : withoutN x id = ofKids (p ++ s) := by rw [hw, outN, if_pos (show (Nd.leaf i).kids.length = 0 from rfl)]
    have hl1 : (p ++ s).length + 1 = x.kids.length := by rw [List.length_append]; omega
    have hE : allH 0 (kidsF P ++ p) := fun z hz => hKa z (by simp only [List.mem_append] at hz ⊢; exact .inl hz)
    have hL : allH 0 (s ++ kidsF S) := fun z hz => hKa z (by simp only [List.mem_append, List.mem_cons] at hz ⊢; exact .inr (.inr hz))
    rw [← hids, hK, idsF_app, idsF_cons, show Nd.ids (.leaf i) = [i] from rfl] at hs hid
    have hsp := List.pairwise_append.1 hs
    have hEl : ∀ v ∈ idsF (kidsF P ++ p), v < i := fun v hv => hsp.2.2 v hv i (by simp)
    have hLl : ∀ v ∈ idsF (s ++ kidsF S), ¬ v ≤ id := by
      intro v hv
      obtain ⟨z, hz, hvz⟩ := mem_idsF.1 hv
      obtain ⟨k, rfl⟩ := hi_zero (hL z hz)
      simp only [Nd.ids, List.mem_singleton] at hvz
      subst hvz
      rcases List.mem_append.1 hz with hz | hz
      · exact hsn _ hz
      · obtain ⟨n, hn, hzn⟩ := List.mem_flatMap.1 hz
        have hnF : n ∈ P ++ x :: S := by simp [hn]
        have hs0 : (idsF (P ++ x :: S)).Pairwise (· < ·) := by rw [← hids, hK, idsF_app, idsF_cons]; exact hs
        have := first_le ((List.pairwise_flatMap.1 hs0).1 n hnF) (kids_ids (ha n hnF) hzn _ (first_mem _))
        have := hS n hn
        simp only [Nd.first] at *
        omega
    have hii : id = i := by
      simp only [List.mem_append, List.mem_cons, List.not_mem_nil, or_false] at hid
      rcases hid with h1 | h1 | h1
      · exfalso
        have h2 := hEl id h1
        have hle : i ≤ id := by
          by_cases hp0 : p = []
          · subst hp0
            have hP0 : P ≠ [] := by
              intro e
              subst e
              simp [idsF, kidsF] at h1
            have := hP hP0
            rw [← first_kid hx hk] at this
            exact this
          · exact hp hp0
        omega
      · exact h1
      · exact absurd (Int.le_refl _) (hLl id h1)
    subst hii
    have hF : idsF (P ++ x :: S) = idsF (kidsF P ++ p) ++ id :: idsF (s ++ kidsF S) := by rw [← hids, hK, idsF_app, idsF_cons]; rfl
    obtain ⟨b1, b2⟩ := erase_ids hEl (fun v hv => by have := hLl v hv; omega)
    rw [← hF] at b1 b2
    have hEn : (idsF (kidsF P ++ p)).length = (kidsF P ++ p).length := leaf_ids _ hE
    have hgrp : grpT (lensF P ++ x.kids.length :: lensF S) (kidsF P ++ p).length = (lensF P).length :=
      grp_mid (by rw [lens_sum, List.length_append]; omega) (by rw [lens_sum, List.length_append, hlen]; omega)
    refine ⟨p ++ s, hw2, .inr hl1, fun z hz => ?_, ?_, ?_, ?_⟩
    · rcases List.mem_append.1 hz with hz | hz
      · exact hE z (by simp [hz])
      · exact hL z (by simp [hz])
    · rw [b1, hEn, levF, show levF 0 (kidsF (P ++ x :: S)) = [] from rfl, List.nil_append, topT, topT, lensF_app, lensF_cons, hgrp]
      simp [lensF]
    · rw [b1, hEn, levF, levF, show levF 0 (kidsF (P ++ x :: S)) = [] from rfl, List.nil_append, List.nil_append, delM_one, lensF_app, lensF_cons, hgrp, getD_mid, set_mid, show x.kids.length - 1 = (p ++ s).length by omega]
    · rw [b2, idsF_app, idsF_app, idsF_app, idsF_app, idsF_app]
      simp
  | h + 1, P, x, S, id, ha, hs, hP, hS, hid => by
    have hx := ha x (by simp)
    obtain ⟨p, y, s, hk, hw, hp, hsn⟩ := without_kids hx id
    obtain ⟨hx1, hx2, _, _⟩ := hi_succ hx
    have hK : kidsF (P ++ x :: S) = (kidsF P ++ p) ++ y :: (s ++ kidsF S) := by rw [kidsF_app, kidsF_cons, hk]; simp
    have hids := idsF_kids ha
    have hKa : allH (h + 1) ((kidsF P ++ p) ++ y :: (s ++ kidsF S)) := by rw [← hK]; exact allH_kids ha
    obtain ⟨ys, r1, r2, r3, r4, r5, r6⟩ := without_main h (kidsF P ++ p) y (s ++ kidsF S) id hKa (by rw [← hK, hids]; exact hs)
      (fun hne => by
        by_cases hp0 : p = []
        · subst hp0
          have hP0 : P ≠ [] := by
            intro e
            subst e
            exact hne rfl
          rw [first_kid hx hk]
          exact hP hP0
        · exact hp hp0)
      (fun z hz => by
        rcases List.mem_append.1 hz with hz | hz
        · exact hsn z hz
        · obtain ⟨n, hn, hzn⟩ := List.mem_flatMap.1 hz
          have hnF : n ∈ P ++ x :: S := by simp [hn]
          have := first_le ((List.pairwise_flatMap.1 hs).1 n hnF) (kids_ids (ha n hnF) hzn _ (first_mem z))
          have := hS n hn
          omega) (by rw [← hK, hids]; exact hid)
    rw [← hK] at r4 r5 r6
    rw [hids] at r4 r5 r6
    have hyk := hi_succ (hKa y (by simp))
    have hlen : x.kids.length = p.length + 1 + s.length := by rw [hk]; simp; omega
    have hpA : allH (h + 1) p := fun z hz => hx2 z (by rw [hk]; simp [hz])
    have hsA : allH (h + 1) s := fun z hz => hx2 z (by rw [hk]; simp [hz])
    have hysl : ys.length = 1 ∨ ys.length = 2 ∨ ys.length = 3 := by omega
    have hyk2 : (ofKids ys).kids = ys := ofKids_kids hysl
    have hw2 : withoutN x id = if ys.length = 1 then ofKids (mendN p (ofKids ys) s) else ofKids (p ++ ofKids ys :: s) := by
      rw [hw, outN, if_neg (by omega), r1, hyk2]
    have hgrp : grpT (lensF P ++ x.kids.length :: lensF S) (kidsF P ++ p).length = (lensF P).length :=
      grp_mid (by rw [lens_sum, List.length_append]; omega) (by rw [lens_sum, List.length_append, hlen]; omega)
    have hstart : startT (lensF P ++ x.kids.length :: lensF S) (lensF P).length = (kidsF P).length := by rw [start_mid, lens_sum]
    have hT : topT (levF (h + 1 + 1) (P ++ x :: S)) (belT (idsF (P ++ x :: S)) id) = P.length := by
      rw [levF, topT_snoc, r4, lensF_app, lensF_cons, hgrp]
      simp [lensF]
    -- the kids' levels
    have hlev : levF (h + 1) (kidsF (P ++ x :: S)) = levF h (kidsF (kidsF (P ++ x :: S))) ++ [lensF (kidsF (P ++ x :: S))] := rfl
    have htop : grpT (lensF (kidsF (P ++ x :: S))) (topT (levF h (kidsF (kidsF (P ++ x :: S)))) (belT (idsF (P ++ x :: S)) id)) = (kidsF P ++ p).length := by
      rw [← topT_snoc, ← hlev, r4]
    have hkl : (lensF (kidsF (P ++ x :: S))).length = (kidsF P ++ p).length + 1 + (s ++ kidsF S).length := by rw [hK]; simp [lensF]; omega
    obtain ⟨r, l', d1, d2, d3⟩ := delM_snoc (levF h (kidsF (kidsF (P ++ x :: S)))) (lensF (kidsF (P ++ x :: S))) (lensF (P ++ x :: S)) (belT (idsF (P ++ x :: S)) id)
      (by rw [← hlev]; exact levF_two3 _ _ (allH_kids ha)) (by rw [htop, hkl]; omega)
    rw [← hlev, ← r5] at d1
    obtain ⟨d4, d5⟩ := List.append_inj' d1 rfl
    injection d5 with d5
    subst d4 d5
    rw [htop] at d2 d3
    have hk1 : (kidsF P ++ p).length = (lensF (kidsF P ++ p)).length := by simp [lensF]
    rw [show (lensF (kidsF P ++ p) ++ ys.length :: lensF (s ++ kidsF S)).getD (kidsF P ++ p).length 0 = ys.length by rw [hk1, getD_mid]] at d2 d3
    have hdel : delM (levF (h + 1 + 1) (P ++ x :: S)) (belT (idsF (P ++ x :: S)) id) = delM (levF h (kidsF (kidsF (P ++ x :: S))) ++ [lensF (kidsF (P ++ x :: S)), lensF (P ++ x :: S)]) (belT (idsF (P ++ x :: S)) id) := by
      rw [levF, hlev, List.append_assoc]; rfl
    by_cases h1 : ys.length = 1
    · rw [if_pos h1] at hw2
      have hyA : allH h (ofKids ys).kids := by rw [hyk2]; exact r3
      obtain ⟨m1, m2, m3, m4, m5, m6⟩ := mend_kids (y := ofKids ys) hpA hsA (by rw [hyk2]; exact h1) hyA (by omega)
      have hgk : kidsF (kidsF P ++ mendN p (ofKids ys) s ++ kidsF S) = kidsF (kidsF P ++ p) ++ ys ++ kidsF (s ++ kidsF S) := by
        rw [kidsF_app, kidsF_app, m1, kidsF_app, kidsF_cons, hyk2, kidsF_app, kidsF_app]
        simp
      have hidm : idsF (kidsF P ++ mendN p (ofKids ys) s ++ kidsF S) = (idsF (P ++ x :: S)).eraseIdx (belT (idsF (P ++ x :: S)) id) := by
        have hall : allH (h + 1) (kidsF P ++ mendN p (ofKids ys) s ++ kidsF S) := fun z hz => by
          rcases List.mem_append.1 hz with hz | hz
          · rcases List.mem_append.1 hz with hz | hz
            · exact hKa z (by simp [hz])
            · exact m2 z hz
          · exact hKa z (by simp [hz])
        rw [← idsF_kids hall, hgk, r6]
      have hfix := d3 h1
      have hfin : ∀ n, (mendN p (ofKids ys) s).length = n → (n = x.kids.length ∨ n + 1 = x.kids.length) →
          fixM (lensF (kidsF P ++ p) ++ ys.length :: lensF (s ++ kidsF S)) (lensF (P ++ x :: S)) (kidsF P ++ p).length = [lensF (kidsF P) ++ lensF (mendN p (ofKids ys) s) ++ lensF (kidsF S), lensF P ++ n :: lensF S] →
          ∃ ys, withoutN x id = ofKids ys ∧ (ys.length = x.kids.length ∨ ys.length + 1 = x.kids.length) ∧ allH (h + 1) ys ∧ topT (levF (h + 1 + 1) (P ++ x :: S)) (belT (idsF (P ++ x :: S)) id) = P.length ∧
            levF (h + 1) (kidsF P ++ ys ++ kidsF S) ++ [lensF P ++ ys.length :: lensF S] = delM (levF (h + 1 + 1) (P ++ x :: S)) (belT (idsF (P ++ x :: S)) id) ∧
            idsF (kidsF P ++ ys ++ kidsF S) = (idsF (P ++ x :: S)).eraseIdx (belT (idsF (P ++ x :: S)) id) := by
        intro n hn hn2 hfx
        refine ⟨mendN p (ofKids ys) s, hw2, by rw [hn]; exact hn2, m2, hT, ?_, hidm⟩
        rw [hdel, hfix, hfx, levF, hgk, lensF_app, lensF_app, hn, List.append_assoc]
        rfl
      have hln : ∀ G : List Nd, (lensF G).length = G.length := fun G => by simp [lensF]
      rcases List.eq_nil_or_concat p with hp0 | ⟨p', o, hp0⟩
      · subst hp0
        match s, hlen, hsA, m1, m2, m3, m4, m5, m6, hfin with
        | [], hlen, _, _, _, _, _, _, _, _ => exfalso; simp at hlen; omega
        | o :: s', hlen, hsA, m1, m2, m3, m4, m5, m6, hfin =>
          have ho := (hi_succ (hsA o (by simp))).1
          have hshape : lensF (kidsF P ++ []) ++ ys.length :: lensF (o :: s' ++ kidsF S) = lensF (kidsF P) ++ ys.length :: (o.kids.length :: lensF (s' ++ kidsF S)) := by rw [List.append_nil]; rfl
          have hkk : (kidsF P ++ ([] : List Nd)).length = (lensF (kidsF P)).length := by rw [List.append_nil, hln]
          have hnot : ¬ (kidsF P).length < (lensF (kidsF P)).length := by rw [hln]; omega
          have hg1 : (lensF (kidsF P) ++ ys.length :: (o.kids.length :: lensF (s' ++ kidsF S))).getD ((lensF (kidsF P)).length + 1) 0 = o.kids.length := by
            rw [List.getD_eq_getElem?_getD, List.getElem?_append_right (by omega)]; simp
          have hs1 : ∀ v : Nat, (lensF (kidsF P) ++ ys.length :: (o.kids.length :: lensF (s' ++ kidsF S))).set ((lensF (kidsF P)).length + 1) v = lensF (kidsF P) ++ ys.length :: (v :: lensF (s' ++ kidsF S)) := by
            intro v
            rw [List.set_append_right _ _ (by omega)]; simp
          by_cases h3 : o.kids.length = 3
          · have e5 := m5 o s' rfl rfl h3
            have hml : (mendN [] (ofKids ys) (o :: s')).length = x.kids.length := by
              rw [← hln, e5, hlen]
              simp only [List.length_cons, hln, List.length_nil]
              omega
            refine hfin _ hml (.inl rfl) ?_
            rw [fixM, hshape, hkk, lensF_app, lensF_cons, show grpT (lensF P ++ x.kids.length :: lensF S) (lensF (kidsF P)).length = (lensF P).length by rw [← hkk]; exact hgrp, hstart, if_neg hnot, hg1, if_pos h3, hs1, set_mid, e5, lensF_app]
            simp
          · have e6 := m6 o s' rfl rfl h3
            have hml : (mendN [] (ofKids ys) (o :: s')).length + 1 = x.kids.length := by
              rw [← hln, e6, hlen]
              simp only [List.length_cons, hln, List.length_nil]
              omega
            refine hfin _ rfl (.inr hml) ?_
            rw [fixM, hshape, hkk, lensF_app, lensF_cons, show grpT (lensF P ++ x.kids.length :: lensF S) (lensF (kidsF P)).length = (lensF P).length by rw [← hkk]; exact hgrp, hstart, if_neg hnot, hg1, if_neg h3, hs1, erase_mid, e6, lensF_app, getD_mid, set_mid,
              show x.kids.length - 1 = (mendN [] (ofKids ys) (o :: s')).length by omega]
            simp
      · rw [List.concat_eq_append] at hp0
        subst hp0
        have ho := (hi_succ (hpA o (by simp))).1
        have hshape : lensF (kidsF P ++ (p' ++ [o])) ++ ys.length :: lensF (s ++ kidsF S) = lensF (kidsF P ++ p') ++ o.kids.length :: (ys.length :: lensF (s ++ kidsF S)) := by
          rw [← List.append_assoc, lensF_app (kidsF P ++ p')]; simp [lensF]
        have hkk : (kidsF P ++ (p' ++ [o])).length = (lensF (kidsF P ++ p')).length + 1 := by rw [hln]; simp; omega
        have hlt : (kidsF P).length < (lensF (kidsF P ++ p')).length + 1 := by rw [hln]; simp; omega
        have hg1 : (lensF (kidsF P ++ p') ++ o.kids.length :: (ys.length :: lensF (s ++ kidsF S))).getD ((lensF (kidsF P ++ p')).length + 1 - 1) 0 = o.kids.length := by
          rw [Nat.add_sub_cancel, getD_mid]
        have hs2 : ∀ u v : Nat, (lensF (kidsF P ++ p') ++ u :: (ys.length :: lensF (s ++ kidsF S))).set ((lensF (kidsF P ++ p')).length + 1) v = lensF (kidsF P ++ p') ++ u :: (v :: lensF (s ++ kidsF S)) := by
          intro u v
          rw [List.set_append_right _ _ (by omega)]; simp
        have he2 : ∀ u : Nat, (lensF (kidsF P ++ p') ++ u :: (ys.length :: lensF (s ++ kidsF S))).eraseIdx ((lensF (kidsF P ++ p')).length + 1) = lensF (kidsF P ++ p') ++ u :: lensF (s ++ kidsF S) := by
          intro u
          rw [List.eraseIdx_append_of_length_le (by omega)]; simp
        have hg0 : grpT (lensF P ++ x.kids.length :: lensF S) ((lensF (kidsF P ++ p')).length + 1) = (lensF P).length := by rw [← hkk]; exact hgrp
        by_cases h3 : o.kids.length = 3
        · have e3 := m3 p' o rfl h3
          have hml : (mendN (p' ++ [o]) (ofKids ys) s).length = x.kids.length := by
            rw [← hln, e3, hlen]
            simp only [List.length_cons, List.length_append, hln, List.length_nil]
            omega
          refine hfin _ hml (.inl rfl) ?_
          rw [fixM, hshape, hkk, lensF_app P, lensF_cons, hg0, hstart, if_pos hlt, hg1, if_pos h3, Nat.add_sub_cancel, set_mid, hs2, e3, lensF_app, lensF_app]
          simp
        · have e4 := m4 p' o rfl h3
          have hml : (mendN (p' ++ [o]) (ofKids ys) s).length + 1 = x.kids.length := by
            rw [← hln, e4, hlen]
            simp only [List.length_cons, List.length_append, hln, List.length_nil]
            omega
          refine hfin _ rfl (.inr hml) ?_
          rw [fixM, hshape, hkk, lensF_app P, lensF_cons, hg0, hstart, if_pos hlt, hg1, if_neg h3, Nat.add_sub_cancel, set_mid, he2, e4, lensF_app, lensF_app, getD_mid, set_mid,
            show x.kids.length - 1 = (mendN (p' ++ [o]) (ofKids ys) s).length by omega]
          simp
    · rw [if_neg h1] at hw2
      have hyi : Nd.hi (h + 1) (ofKids ys) := (ofKids_hi (by omega) r3).1
      have hl1 : (p ++ ofKids ys :: s).length = x.kids.length := by rw [hlen]; simp; omega
      refine ⟨p ++ ofKids ys :: s, hw2, .inl hl1, fun z hz => ?_, hT, ?_, ?_⟩
      · simp only [List.mem_append, List.mem_cons] at hz
        rcases hz with hz | rfl | hz
        · exact hpA z hz
        · exact hyi
        · exact hsA z hz
      · rw [hdel, d2 h1, levF, hl1]
        have e1 : kidsF (kidsF P ++ (p ++ ofKids ys :: s) ++ kidsF S) = kidsF (kidsF P ++ p) ++ ys ++ kidsF (s ++ kidsF S) := by
          rw [kidsF_app, kidsF_app, kidsF_app, kidsF_cons, hyk2, kidsF_app, kidsF_app]
          simp
        have e2 : lensF (kidsF P ++ (p ++ ofKids ys :: s) ++ kidsF S) = lensF (kidsF P ++ p) ++ ys.length :: lensF (s ++ kidsF S) := by
          rw [lensF_app, lensF_app, lensF_app, lensF_cons, hyk2, lensF_app, lensF_app]
          simp
        rw [e1, e2, lensF_app P, lensF_cons, List.append_assoc]
        rfl
      · have hyids : (ofKids ys).ids = idsF ys := by
          have := (hi_succ hyi).2.2.2
          rw [hyk2] at this
          exact this
        rw [← r6]
        have e3 : idsF (kidsF P ++ (p ++ ofKids ys :: s) ++ kidsF S) = idsF (kidsF P) ++ idsF p ++ idsF ys ++ idsF s ++ idsF (kidsF S) := by
          rw [idsF_app, idsF_app, idsF_app, idsF_cons, hyids]
          simp
        have hKa2 : allH (h + 1) (kidsF P ++ p) := fun z hz => hKa z (by simp only [List.mem_append] at hz ⊢; exact .inl hz)
        have hKa3 : allH (h + 1) (s ++ kidsF S) := fun z hz => hKa z (by simp only [List.mem_append, List.mem_cons] at hz ⊢; exact .inr (.inr hz))
        rw [e3, idsF_app, idsF_app, idsF_kids hKa2, idsF_kids hKa3, idsF_app, idsF_app]
        simp

end Go.Proofs.Ytbickllpledlbaa

/-
  A TREE WITH A MEMBER MORE, AND FEWER: its nodes above all have the levels, and the members.
-/
set_option linter.unusedVariables false
namespace Go.Proofs.Ytbickllpledlbaa

def leavesF (ids : List Int) : List Nd := ids.map Nd.leaf
theorem leaves_all (ids : List Int) : allH 0 (leavesF ids) := by
  intro x hx
  obtain ⟨i, _, rfl⟩ := List.mem_map.1 hx
  trivial
theorem leaves_ids : ∀ (ids : List Int), idsF (leavesF ids) = ids
  | [] => rfl
  | i :: ids => by
    have := leaves_ids ids
    rw [leavesF, List.map_cons, idsF_cons, ← leavesF, this]
    rfl
/-- the one node above all -/
theorem root_of {ids : List Int} {lv : List (List Nat)} (ho : lvOK ids.length lv) (h0 : 0 < ids.length) :
    ∃ x, nodesF (leavesF ids) lv = [x] ∧ Nd.hi lv.length x ∧ levF lv.length [x] = lv ∧ x.ids = ids := by
  obtain ⟨r1, r2, r3, r4⟩ := nodes_spec lv 0 (leavesF ids) (by rw [leavesF, List.length_map]; exact ho) (leaves_all ids)
  have h1 := r4 (by rw [leavesF, List.length_map]; exact h0)
  match hn : nodesF (leavesF ids) lv, h1 with
  | [x], _ =>
    rw [hn] at r1 r2 r3
    rw [Nat.zero_add] at r1 r2
    refine ⟨x, rfl, r1 x (by simp), by rw [r2]; rfl, ?_⟩
    rw [leaves_ids] at r3
    simpa [idsF] using r3
/-- a node above all with a member more: its nodes, their levels and members -/
theorem ins_shape {ids : List Int} {lv : List (List Nat)} {id : Int} {x : Nd} (hx : Nd.hi lv.length x) (hl : levF lv.length [x] = lv) (hi : x.ids = ids) (hs : ids.Pairwise (· < ·)) :
    ∃ h', allH h' (if (withN x id).length = 2 then [ofKids (withN x id)] else withN x id) ∧ levF h' (if (withN x id).length = 2 then [ofKids (withN x id)] else withN x id) = insL lv (belT ids id - 1) ∧
      idsF (if (withN x id).length = 2 then [ofKids (withN x id)] else withN x id) = insI ids id ∧ ((withN x id).length = 1 ∨ (withN x id).length = 2) ∧ allH lv.length (withN x id) := by
  have hF : idsF ([] ++ x :: []) = ids := by simp [idsF, hi]
  have hlx : levF lv.length ([] ++ x :: []) = lv := hl
  obtain ⟨r1, r2, r3, r4, r5⟩ := with_main lv.length [] x [] id (by intro y hy; simp at hy; rw [hy]; exact hx) (by rw [hF]; exact hs) (by simp) (by simp)
  rw [hF, hlx] at r3
  rw [hF] at r5
  rw [List.nil_append, List.append_nil] at r1 r3 r5
  by_cases h2 : (withN x id).length = 2
  · obtain ⟨q1, q2⟩ := ofKids_hi (l := withN x id) (.inl h2) r1
    refine ⟨lv.length + 1, ?_, ?_, ?_, r4, r1⟩
    · rw [if_pos h2]
      intro y hy
      simp at hy
      rw [hy]; exact q1
    · rw [if_pos h2, levF, kidsF_cons, q2, show kidsF [] = [] from rfl, List.append_nil, lensF_cons, q2, h2, insL_insM, r3, h2]
      rfl
    · rw [if_pos h2, ← r5]
      have := (hi_succ q1).2.2.2
      rw [q2] at this
      simpa [idsF] using this
  · refine ⟨lv.length, ?_, ?_, ?_, r4, r1⟩
    · rw [if_neg h2]; exact r1
    · rw [if_neg h2, insL_insM, r3, decide_eq_false h2]; rfl
    · rw [if_neg h2]; exact r5
/-- a node above all without a member -/
theorem del_shape {ids : List Int} {lv : List (List Nat)} {id : Int} {x : Nd} (ho : lvOK ids.length lv) (h2 : 2 ≤ ids.length) (hx : Nd.hi lv.length x) (hl : levF lv.length [x] = lv) (hi : x.ids = ids) (hs : ids.Pairwise (· < ·)) (hid : id ∈ ids) :
    ∃ h' ys, withoutN x id = ofKids ys ∧ (ys.length = 1 ∨ ys.length = 2 ∨ ys.length = 3) ∧ (ys.length = 1 → allH h' ys ∧ levF h' ys = delL lv (belT ids id) ∧ idsF ys = ids.eraseIdx (belT ids id)) ∧
      (ys.length ≠ 1 → allH h' [ofKids ys] ∧ levF h' [ofKids ys] = delL lv (belT ids id) ∧ idsF [ofKids ys] = ids.eraseIdx (belT ids id)) := by
  have hne : lv ≠ [] := by
    intro e
    subst e
    have : ids.length ≤ 1 := ho
    omega
  obtain ⟨h, hh⟩ : ∃ h, lv.length = h + 1 := by
    cases lv with
    | nil => exact absurd rfl hne
    | cons l ls => exact ⟨ls.length, rfl⟩
  rw [hh] at hx hl
  have hF : idsF ([] ++ x :: []) = ids := by simp [idsF, hi]
  have hlx : levF (h + 1) ([] ++ x :: []) = lv := hl
  have hbl : belT ids id < ids.length := by
    rcases Nat.lt_or_ge (belT ids id) ids.length with h3 | h3
    · exact h3
    · exfalso
      have h4 : belT ids id = ids.length := Nat.le_antisymm List.countP_le_length h3
      rw [belT, List.countP_eq_length] at h4
      have := h4 id hid
      simp at this
  obtain ⟨ys, r1, r2, r3, r4, r5, r6⟩ := without_main h [] x [] id (by intro y hy; simp at hy; rw [hy]; exact hx) (by rw [hF]; exact hs) (by simp) (by simp) (by rw [hF]; exact hid)
  rw [hF, hlx] at r5
  rw [hF] at r6
  rw [show kidsF [] = [] from rfl, List.nil_append, List.append_nil] at r5 r6
  have hx1 := (hi_succ hx).1
  obtain ⟨r, n, d1, d2, d3⟩ := delL_delM lv ids.length (belT ids id) ho hbl hne
  rw [d1] at r5
  obtain ⟨e1, e2⟩ := List.append_inj' r5 rfl
  injection e2 with e2
  have hn : ys.length = n := by simpa [lensF] using e2
  have hysl : ys.length = 1 ∨ ys.length = 2 ∨ ys.length = 3 := by omega
  by_cases h1 : ys.length = 1
  · refine ⟨h, ys, r1, hysl, fun _ => ⟨r3, ?_, r6⟩, fun hc => absurd h1 hc⟩
    rw [d3, if_pos (by omega), e1]
  · obtain ⟨q1, q2⟩ := ofKids_hi (l := ys) (by omega) r3
    refine ⟨h + 1, ys, r1, hysl, fun hc => absurd hc h1, fun _ => ⟨fun y hy => ?_, ?_, ?_⟩⟩
    · simp at hy
      rw [hy]; exact q1
    · rw [levF, kidsF_cons, q2, show kidsF [] = [] from rfl, List.append_nil, lensF_cons, q2, d3, if_neg (by omega), e1, hn]
      rfl
    · rw [← r6]
      have := (hi_succ q1).2.2.2
      rw [q2] at this
      simpa [idsF] using this

end Go.Proofs.Ytbickllpledlbaa

